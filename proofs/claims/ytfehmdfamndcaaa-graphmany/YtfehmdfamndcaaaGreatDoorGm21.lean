/- Own text. Package cursor: parameters. Package parse: the rules as functions of the tokens (a model of the program's own text; no program is named here). -/
import Derived.Test.YtfehmdfamndcaaaGreatDoorGm20
namespace Go.Proofs.YtfehmdfamndcaaaGreatDoor
open Go.RowKit Go.Maps
set_option linter.unusedVariables false
set_option linter.unusedSimpArgs false

def sPo : ByteArray := ⟨#[40]⟩
def sPc : ByteArray := ⟨#[41]⟩
def paramsG (L : List Tok) (G : Nat → Rs Nd) (a : Nat) : Rs Nd := (wantR L sPo a).bind fun _ a1 => (listG L sPc (parG L G) (L.length + 1 - a1) [] [] a1).bind fun l a2 => .ok (mk0 12 mtT l) a2
theorem parG_ok {L : List Tok} {G : Nat → Rs Nd} {ns : List (List UInt8)} {a b : Nat} {x : Nd × List (List UInt8)} (hm : ∀ a x b, G a = .ok x b → a ≤ b) (h : parG L G ns a = .ok x b) : a < b ∧ x.2.length = ns.length + 1 := by
  unfold parG addR idR at h
  split at h
  · cases h
  · rw [Rs.bind_ok] at h
    split at h
    · rw [Rs.bind_ok] at h
      cases hG : G (a + 1) with
      | bad p e => rw [hG] at h; cases h
      | ok y a2 =>
        rw [hG, Rs.bind_ok] at h
        cases h
        have := hm _ _ _ hG
        exact ⟨by omega, by simp⟩
    · cases h
theorem eg_par : ∀ args w, (callFunc 125 args).run Tryz.prog w = .ok (.enter 125 args) w := Go.Proofs.enters_of Tryz.func125 (by kernel_rfl) rfl
set_option maxRecDepth 100000 in
set_option maxHeartbeats 8000000 in
theorem params_any {P : Pl} {L : List Tok} {o : Ex} {k : FuncId} {rs caps : Array Value} (eg : ∀ args w, (callFunc k args).run Tryz.prog w = .ok (.enter k args) w) (G : Nat → Rs Nd) (w : World) (a : Nat) (h : Rd w P L a o) (hs : Small L)
    (hmono : ∀ a x b, G a = .ok x b → a ≤ b)
    (hT : ∀ W b, a < b → Rd W P L b o → Calls Tryz.prog k (rs ++ caps) W (AnsN P L o W (G b))) :
    Calls Tryz.prog 96 #[.pointer (some ⟨P.R, 0, none⟩), .func (.func k) rs caps] w (AnsN P L o w (paramsG L G a)) := by
  have hRw := h.lt
  have hbl0 := h.x.lt
  obtain ⟨wA, hwA⟩ : ∃ W, (w.alloc (.cells #[.pointer (some ⟨P.R, 0, none⟩)] 125)).alloc (.cells #[.func (.func k) rs caps] 107) = W := ⟨_, rfl⟩
  have bA : Below w.heap.size w wA := by rw [← hwA]; exact ((Below.refl _ _).alloc (Nat.le_refl _) _).alloc (by simp) _
  have sA : wA.heap.size = w.heap.size + 2 := by rw [← hwA]; simp
  have mA : wA.heap[w.heap.size]? = some (.cells #[.pointer (some ⟨P.R, 0, none⟩)] 125) := by rw [← hwA]; exact hold _ (by simp) (hnew _ rfl)
  have mB : wA.heap[w.heap.size + 1]? = some (.cells #[.func (.func k) rs caps] 107) := by rw [← hwA]; exact hnew _ (by simp)
  have hA := h.bel bA
  obtain ⟨h0, a0, z0, M0⟩ := begin_cell hA
  have kw : KeptR P.R w (wA.alloc zN) := (KeptR.of bA).trans a0
  have HC : Hid (∀ W, KeptR P.R (wA.alloc zN) W → W.cell? ⟨w.heap.size, 0, none⟩ = some (.pointer (some ⟨P.R, 0, none⟩)) ∧ W.cell? ⟨w.heap.size + 1, 0, none⟩ = some (.func (.func k) rs caps)) := fun W b => by
    have e1 : W.heap[w.heap.size]? = some (.cells #[.pointer (some ⟨P.R, 0, none⟩)] 125) := (b.block _ (by omega) (by omega)).trans ((a0.block _ (by omega) (by omega)).trans mA)
    have e2 : W.heap[w.heap.size + 1]? = some (.cells #[.func (.func k) rs caps] 107) := (b.block _ (by omega) (by omega)).trans ((a0.block _ (by omega) (by omega)).trans mB)
    simp [World.cell?, e1, e2]
  obtain ⟨d1, d2⟩ := HC.out _ (KeptR.refl _ _)
  have CW := want_any h0 sPo
  have hmm := @run_makeMap Tryz.prog
  unfold paramsG
  cases hq : isS L a sPo with
  | false =>
    rw [wantR_no hq] at *
    rw [Rs.bind_bad]
    unfold AnsN
    unfold AnsU sPo at CW
    go_enter Tryz.func96, Tryz.ntmps96
    go_wp2_with (go_at_call 61; refine CW.mono ?_; rintro e W1 ⟨rfl, b1⟩)
    exact ⟨rfl, rfl, kw.trans b1⟩
  | true =>
    rw [wantR_yes hq] at *
    rw [Rs.bind_ok]
    unfold AnsU sPo at CW
    have HL : Hid (∀ W0, Rd W0 P L (a + 1) o → KeptR P.R (wA.alloc zN) W0 → Calls Tryz.prog 103 #[.pointer (some ⟨P.R, 0, none⟩), .string ⟨#[41]⟩, .func (.func 125) #[] #[.pointer (some ⟨w.heap.size, 0, none⟩), .pointer (some ⟨W0.heap.size + 1, 0, none⟩), .pointer (some ⟨w.heap.size + 1, 0, none⟩)]]
        ((W0.alloc (.map #[] 0)).alloc (.cells #[.map (some W0.heap.size)] 133)) (AnsL P L o W0.heap.size ((W0.alloc (.map #[] 0)).alloc (.cells #[.map (some W0.heap.size)] 133)) (listG L sPc (parG L G) (L.length + 1 - (a + 1)) [] [] (a + 1)))) := fun W0 r0 b0 => by
      obtain ⟨WL, hWL⟩ : ∃ W, ((W0.alloc (.map #[] 0)).alloc (.cells #[.map (some W0.heap.size)] 133)) = W := ⟨_, rfl⟩
      rw [hWL]
      have s0 := b0.size
      have sL : WL.heap.size = W0.heap.size + 2 := by rw [← hWL]; simp [World.setCell]
      have bL : Below W0.heap.size W0 WL := by rw [← hWL]; exact ((Below.refl _ _).alloc (Nat.le_refl _) _).alloc (by simp) _
      have mL : WL.heap[W0.heap.size]? = (W0.alloc (.map #[] 0)).heap[W0.heap.size]? := by rw [← hWL]; exact Below.heap_alloc _ _ _ (by simp)
      have cL : WL.cell? ⟨W0.heap.size + 1, 0, none⟩ = some (.map (some W0.heap.size)) := by
        have : WL.heap[W0.heap.size + 1]? = some (.cells #[.map (some W0.heap.size)] 133) := by rw [← hWL]; exact hnew _ (by simp)
        simp [World.cell?, this]
      obtain ⟨f1, f2⟩ := HC.out _ b0
      have r0l := r0.lt
      refine list_any (σ := List (List UInt8)) (k := 125) (rs := #[]) eg_par (parG L G) (fun ns W => ParI P w.heap.size (W0.heap.size + 1) (w.heap.size + 1) W0.heap.size (.func (.func k) rs caps) ns W) (fun ns b => ns.length ≤ b) W0.heap.size WL (a + 1) [] (r0.bel bL) (by simp) ⟨(bL.cell (p := ⟨w.heap.size, 0, none⟩) (by show w.heap.size < _; omega)).trans f1, cL, (bL.cell (p := ⟨w.heap.size + 1, 0, none⟩) (by show w.heap.size + 1 < _; omega)).trans f2, (NM.nil W0).keep mL, by simp⟩ (by omega) (fun st a x b hF => (parG_ok hmono hF).1) (fun st b x a1 c h1 h2 h3 => by have := parG_ok hmono h2; omega) (fun st W W' hI h1 h2 hb => ?_) (fun W st b hb hJ r hI hsz hk => ?_)
      · exact hI.keep (hb _ (by omega) (by omega)) (hb _ (by omega) (by omega)) (hb _ (by omega) (by omega)) (hb _ (by omega) (by omega))
      · simp only [Array.empty_append]
        exact par_any eg G r hI hs (by omega) (fun q => by have := hbl0 q; omega) ⟨by omega, by omega⟩ ⟨by omega, by omega⟩ ⟨by omega, by omega⟩ hJ (fun W c hc r => hT W c (by omega) r)
    clear hT
    generalize listG L sPc (parG L G) (L.length + 1 - (a + 1)) [] [] (a + 1) = res at *
    cases res with
    | bad p er =>
      rw [Rs.bind_bad]
      unfold AnsL at HL
      unfold AnsN
      go_enter Tryz.func96, Tryz.ntmps96
      go_wp2_with (first
        | (go_at_call 61; refine CW.mono ?_; rintro e W0 ⟨rfl, r0, b0⟩; obtain ⟨d3, d4⟩ := HC.out _ b0; have s0 := b0.size; have d5 := ((((Below.refl W0.heap.size W0).alloc (Nat.le_refl _) (.map #[] 0)).alloc (by simp) (.cells #[.map (some W0.heap.size)] 133)).cell (p := ⟨w.heap.size, 0, none⟩) (by show w.heap.size < W0.heap.size; omega)).trans d3)
        | (go_at_call 103; refine (HL.out _ r0 b0).mono ?_; rintro e W2 ⟨rfl, b2⟩))
      have bL := ((Below.refl W0.heap.size W0).alloc (Nat.le_refl _) (.map #[] 0)).alloc (by simp) (.cells #[.map (some W0.heap.size)] 133)
      exact ⟨rfl, rfl, Kept2.late ((kw.trans b0).trans (.of bL)) b2 (by omega)⟩
    | ok l a2 =>
      rw [Rs.bind_ok]
      unfold AnsL at HL
      have HM2 : Hid (∀ W0, KeptR P.R (wA.alloc zN) W0 → ∀ W2, Kept2 P.R W0.heap.size ((W0.alloc (.map #[] 0)).alloc (.cells #[.map (some W0.heap.size)] 133)) W2 → KeptR P.R (wA.alloc zN) W2) := fun W0 b0 W2 b2 => by
        have bL := ((Below.refl W0.heap.size W0).alloc (Nat.le_refl _) (.map #[] 0)).alloc (by simp) (.cells #[.map (some W0.heap.size)] 133)
        exact Kept2.late (b0.trans (.of bL)) b2 b0.size
      go_enter Tryz.func96, Tryz.ntmps96
      go_wp2_with (first
        | (go_at_call 61; refine CW.mono ?_; rintro e W0 ⟨rfl, r0, b0⟩; obtain ⟨d3, d4⟩ := HC.out _ b0; have s0 := b0.size; have d5 := ((((Below.refl W0.heap.size W0).alloc (Nat.le_refl _) (.map #[] 0)).alloc (by simp) (.cells #[.map (some W0.heap.size)] 133)).cell (p := ⟨w.heap.size, 0, none⟩) (by show w.heap.size < W0.heap.size; omega)).trans d3)
        | (go_at_call 103; refine (HL.out _ r0 b0).mono ?_; rintro e W2 ⟨ad, c, rfl, l2, r2, b2⟩; have k2 := HM2.out _ b0 _ b2)
        | (go_at_call 64; refine (node_any 12 ⟨#[]⟩ ad l.length c _).mono ?_; rintro e W3 ⟨rfl, b3⟩; have m3 := M0.out _ (k2.trans (.of b3)); rw [sA] at m3; obtain ⟨⟨_, _, _, _⟩, _, _, _, _⟩ := t4 m3))
      refine bodyPost_ret (res_n4 Tryz.results96 (t4_set _ _ _ _ m3) rfl) rfl ?_
      have hbl : 0 < L.length → P.bl ≠ w.heap.size + 2 := fun q => by have := hbl0 q; omega
      have kf : KeptR P.R w W3 := (kw.trans k2).trans (.of b3)
      refine ⟨ad, c, rfl, (l2.bel b3 |>.mono (T := fun b => w.heap.size + 3 ≤ b) (fun b hb => by simp at hb; omega)).set4 (by omega) (by omega) _ _ _ _, (r2.bel b3).set4 (by omega) hbl _ _ _ _, (((kf.new (by omega) _ _).new (by omega) _ _).new (by omega) _ _).new (by omega) _ _⟩
end Go.Proofs.YtfehmdfamndcaaaGreatDoor
namespace Go.Proofs.YtfehmdfamndcaaaGreatDoor
open Go.RowKit
set_option linter.unusedVariables false

/-- signs and words. -/
def sAs : ByteArray := ⟨#[61]⟩
def sQu : ByteArray := ⟨#[63]⟩
def sCo : ByteArray := ⟨#[58]⟩
def sMi : ByteArray := ⟨#[45]⟩
def sNo : ByteArray := ⟨#[33]⟩
def sDo : ByteArray := ⟨#[46]⟩
def sBo : ByteArray := ⟨#[91]⟩
def sBc : ByteArray := ⟨#[93]⟩
def sSe : ByteArray := ⟨#[59]⟩
def sOr : ByteArray := ⟨#[124]⟩
def sAr : ByteArray := ⟨#[61, 62]⟩
def wTypeof : ByteArray := ⟨#[116, 121, 112, 101, 111, 102]⟩
def wTrue : ByteArray := ⟨#[116, 114, 117, 101]⟩
def wFalse : ByteArray := ⟨#[102, 97, 108, 115, 101]⟩
def wNull : ByteArray := ⟨#[110, 117, 108, 108]⟩
def wUndef : ByteArray := ⟨#[117, 110, 100, 101, 102, 105, 110, 101, 100]⟩
def wThis : ByteArray := ⟨#[116, 104, 105, 115]⟩
def wNew : ByteArray := ⟨#[110, 101, 119]⟩
def wFunc : ByteArray := ⟨#[102, 117, 110, 99, 116, 105, 111, 110]⟩
def wLet : ByteArray := ⟨#[108, 101, 116]⟩
def wConst : ByteArray := ⟨#[99, 111, 110, 115, 116]⟩
def wIf : ByteArray := ⟨#[105, 102]⟩
def wElse : ByteArray := ⟨#[101, 108, 115, 101]⟩
def wWhile : ByteArray := ⟨#[119, 104, 105, 108, 101]⟩
def wReturn : ByteArray := ⟨#[114, 101, 116, 117, 114, 110]⟩
def wThrow : ByteArray := ⟨#[116, 104, 114, 111, 119]⟩
def noneN : Nd := mk0 14 mtT []
/-- the line of an operator; 0: none. -/
def lineI (x : Tok) : Nat := if x.k = 5 then
    (if x.t.toList = [124, 124] then 1 else if x.t.toList = [38, 38] then 2 else if x.t.toList = [61, 61, 61] ∨ x.t.toList = [33, 61, 61] then 3
    else if x.t.toList = [60] ∨ x.t.toList = [60, 61] ∨ x.t.toList = [62] ∨ x.t.toList = [62, 61] then 4 else if x.t.toList = [43] ∨ x.t.toList = [45] then 5
    else if x.t.toList = [42] ∨ x.t.toList = [47] ∨ x.t.toList = [37] then 6 else 0) else 0
/-- by how many the open brackets become more. -/
def openI (x : Tok) : Int := if x.k = 5 then (if x.t.toList = [40] ∨ x.t.toList = [91] ∨ x.t.toList = [123] then 1 else if x.t.toList = [41] ∨ x.t.toList = [93] ∨ x.t.toList = [125] then -1 else 0) else 0
/-- is the bracket closed, and does a sign => stand behind it? -/
def arrL (L : List Tok) : List Tok → Nat → Int → Bool
  | [], _, _ => false
  | t :: ts, i, d => if d + openI t = 0 then isS L (i + 1) sAr else arrL L ts (i + 1) (d + openI t)
def arrow (L : List Tok) (a : Nat) : Bool := arrL L (L.drop a) a 0
/-- a rule that counts is opened. -/
def beginR (L : List Tok) (a o : Nat) : Rs Unit := if L.length ≤ a then .bad a 60 else if 400 ≤ o then .bad a 2 else .ok () a
/-- a list of things without names. -/
def listE (L : List Tok) (E : Nat → Rs Nd) (s : ByteArray) (a : Nat) : Rs (List Nd) := listG L s (fun (_ : Unit) b => (E b).bind fun x c => .ok (x, ()) c) (L.length + 1 - a) [] () a
def binG (L : List Tok) (B : Nat → Nat → Rs Nd) (m : Nat) : Nat → Nd → Nat → Rs Nd
  | 0, _, a => .bad a 0
  | n + 1, nd, a => if lineI (tokA L a) < m then .ok nd a else (B (lineI (tokA L a) + 1) (a + 1)).bind fun r a2 => binG L B m n (mk0 16 (tokA L a).t [nd, r]) a2
def postG (L : List Tok) (E : Nat → Rs Nd) : Nat → Nd → Nat → Rs Nd
  | 0, _, a => .bad a 0
  | n + 1, nd, a => if isS L a sDo = true then (propR' L (a + 1)).bind fun t a2 => postG L E n (mk0 21 t [nd]) a2
      else if isS L a sBo = true then (E (a + 1)).bind fun k a2 => (wantR L sBc a2).bind fun _ a3 => postG L E n (mk0 22 mtT [nd, k]) a3
      else if isS L a sPo = true then (listE L E sPc (a + 1)).bind fun l a2 => postG L E n (mk0 19 mtT (nd :: l)) a2
      else .ok nd a
def unionG (L : List Tok) (E : Nat → Rs Nd) : Nat → List Nd → Nat → Rs (List Nd)
  | 0, _, a => .bad a 0
  | n + 1, acc, a => (E a).bind fun x a1 => if isS L a1 sOr = true then unionG L E n (acc ++ (if x.k = 32 then x.ks else [x])) (a1 + 1) else .ok (acc ++ (if x.k = 32 then x.ks else [x])) a1
def arrayG (L : List Tok) : Nat → Nd → Nat → Rs Nd
  | 0, _, a => .bad a 0
  | n + 1, nd, a => if isS L a sBo = true then (wantR L sBc (a + 1)).bind fun _ a2 => arrayG L n (mk0 31 mtT [nd]) a2 else .ok nd a
def fieldsG (L : List Tok) (T : Nat → Rs Nd) : Nat → List Nd → List (List UInt8) → Nat → Rs (List Nd)
  | 0, _, _, a => .bad a 0
  | n + 1, acc, ns, a => if isS L a sCc = true then .ok acc (a + 1) else (addR L ns a).bind fun ns1 _ => (propR' L a).bind fun t a1 => (T a1).bind fun y a2 => (wantR L sSe a2).bind fun _ a3 => fieldsG L T n (acc ++ [mk0 34 t [y]]) ns1 a3
/-- one type, or a union of several. -/
def oneOr (l : List Nd) : Nd := match l with
  | [x] => x
  | l => mk0 32 mtT l
section
variable (L : List Tok)
mutual
/-- Expr. -/
def exprF : Nat → Nat → Nat → Rs Nd
  | 0, a, _ => .bad a 0
  | f + 1, a, o => (beginR L a o).bind fun _ _ => (condF f a (o + 1)).bind fun n a1 => if isS L a1 sAs = true then assignF f n a1 (o + 1) else .ok n a1
def assignF : Nat → Nd → Nat → Nat → Rs Nd
  | 0, _, a, _ => .bad a 0
  | f + 1, n, a, o => if n.k = 6 ∨ n.k = 21 ∨ n.k = 22 then (exprF f (a + 1) o).bind fun v a2 => .ok (mk0 18 mtT [n, v]) a2 else .bad a 60
def condF : Nat → Nat → Nat → Rs Nd
  | 0, a, _ => .bad a 0
  | f + 1, a, o => (binF f 1 a o).bind fun n a1 => if isS L a1 sQu = true then
      (exprF f (a1 + 1) o).bind fun t a2 => (wantR L sCo a2).bind fun _ a3 => (exprF f a3 o).bind fun e a4 => .ok (mk0 17 mtT [n, t, e]) a4 else .ok n a1
def binF : Nat → Nat → Nat → Nat → Rs Nd
  | 0, _, a, _ => .bad a 0
  | f + 1, m, a, o => (unaryF f a o).bind fun n a1 => binG L (fun m' a' => binF f m' a' o) m (L.length + 1 - a1) n a1
def unaryF : Nat → Nat → Nat → Rs Nd
  | 0, a, _ => .bad a 0
  | f + 1, a, o => if isS L a sMi = true ∨ isS L a sNo = true ∨ isWd L a wTypeof = true then
      (beginR L a o).bind fun _ _ => (unaryF f (a + 1) (o + 1)).bind fun n a1 => .ok (mk0 15 (tokA L a).t [n]) a1 else postF f a o
def postF : Nat → Nat → Nat → Rs Nd
  | 0, a, _ => .bad a 0
  | f + 1, a, o => (primF f a o).bind fun n a1 => postG L (fun a' => exprF f a' o) (L.length + 1 - a1) n a1
def primF : Nat → Nat → Nat → Rs Nd
  | 0, a, _ => .bad a 0
  | f + 1, a, o => if (tokA L a).k = 3 then .ok (.mk 1 mtT (tokA L a).n []) (a + 1)
      else if (tokA L a).k = 4 then .ok (mk0 2 (tokA L a).t []) (a + 1)
      else if (tokA L a).k = 1 then .ok (mk0 6 (tokA L a).t []) (a + 1)
      else if (tokA L a).k = 2 then wprimF f a o else sprimF f a o
def wprimF : Nat → Nat → Nat → Rs Nd
  | 0, a, _ => .bad a 0
  | f + 1, a, o => if isWd L a wTrue = true then .ok (.mk 3 mtT 1 []) (a + 1) else if isWd L a wFalse = true then .ok (mk0 3 mtT []) (a + 1)
        else if isWd L a wNull = true then .ok (mk0 4 mtT []) (a + 1) else if isWd L a wUndef = true then .ok (mk0 5 mtT []) (a + 1)
        else if isWd L a wThis = true then .ok (mk0 7 mtT []) (a + 1)
        else if isWd L a wNew = true then (idR L (a + 1)).bind fun t a1 => (wantR L sPo a1).bind fun _ a2 => (listE L (fun a' => exprF f a' o) sPc a2).bind fun l a3 => .ok (mk0 20 t l) a3
        else if isWd L a wFunc = true then (paramsG L (fun a' => typeOrF f a' o) (a + 1)).bind fun p a1 => (typeOrF f a1 o).bind fun t a2 => (blkF f a2 o).bind fun b a3 => .ok (mk0 11 mtT [p, t, b]) a3
        else .bad a 60
def sprimF : Nat → Nat → Nat → Rs Nd
  | 0, a, _ => .bad a 0
  | f + 1, a, o => if isS L a sBo = true then (listE L (fun a' => exprF f a' o) sBc (a + 1)).bind fun l a1 => .ok (mk0 8 mtT l) a1
      else if isS L a sCb = true then (listE L (fun a' => propF f a' o) sCc (a + 1)).bind fun l a1 => .ok (mk0 9 mtT l) a1
      else if isS L a sPo = true then
        (if arrow L a = true then arrowF f a o
        else (exprF f (a + 1) o).bind fun n a1 => (wantR L sPc a1).bind fun _ a2 => .ok n a2)
      else .bad a 60
def propF : Nat → Nat → Nat → Rs Nd
  | 0, a, _ => .bad a 0
  | f + 1, a, o => (propR' L a).bind fun t a1 => if isS L a1 sCo = true then (exprF f (a1 + 1) o).bind fun e a2 => .ok (mk0 10 t [e]) a2
      else if isN L a = true then .ok (mk0 10 t [mk0 6 t []]) a1 else .bad a1 60
def arrowF : Nat → Nat → Nat → Rs Nd
  | 0, a, _ => .bad a 0
  | f + 1, a, o => (paramsG L (fun a' => typeOrF f a' o) a).bind fun p a1 => (wantR L sAr a1).bind fun _ a2 => (abodyF f a2 o).bind fun b a3 => .ok (mk0 11 mtT [p, noneN, b]) a3
def abodyF : Nat → Nat → Nat → Rs Nd
  | 0, a, _ => .bad a 0
  | f + 1, a, o => if isS L a sCb = true then blkF f a o else (exprF f a o).bind fun e a1 => .ok (mk0 52 mtT [mk0 50 mtT [e]]) a1
def typeOrF : Nat → Nat → Nat → Rs Nd
  | 0, a, _ => .bad a 0
  | f + 1, a, o => if isS L a sCo = true then typingF f a o else .ok noneN a
def typingF : Nat → Nat → Nat → Rs Nd
  | 0, a, _ => .bad a 0
  | f + 1, a, o => (wantR L sCo a).bind fun _ a1 => typeF f a1 o
/-- Type. -/
def typeF : Nat → Nat → Nat → Rs Nd
  | 0, a, _ => .bad a 0
  | f + 1, a, o => (beginR L a o).bind fun _ _ => (unionG L (fun a' => ptypeF f a' (o + 1)) (L.length + 1 - a) [] a).bind fun l a1 => .ok (oneOr l) a1
def ptypeF : Nat → Nat → Nat → Rs Nd
  | 0, a, _ => .bad a 0
  | f + 1, a, o => (rtypeF f a o).bind fun n a1 => arrayG L (L.length + 1 - a1) n a1
def rtypeF : Nat → Nat → Nat → Rs Nd
  | 0, a, _ => .bad a 0
  | f + 1, a, o => if isN L a = true ∨ isWd L a wNull = true ∨ isWd L a wUndef = true then .ok (mk0 30 (tokA L a).t []) (a + 1)
      else if isS L a sCb = true then objtF f (a + 1) o
      else if isS L a sPo = true then
        (if arrow L a = true then ftypeF f a o
        else (typeF f (a + 1) o).bind fun n a1 => (wantR L sPc a1).bind fun _ a2 => .ok n a2)
      else .bad a 60
def objtF : Nat → Nat → Nat → Rs Nd
  | 0, a, _ => .bad a 0
  | f + 1, a, o => (fieldsG L (fun a' => typingF f a' o) (L.length + 1 - a) [] [] a).bind fun l a1 => .ok (mk0 33 mtT l) a1
def ftypeF : Nat → Nat → Nat → Rs Nd
  | 0, a, _ => .bad a 0
  | f + 1, a, o => (paramsG L (fun a' => typingF f a' o) a).bind fun p a1 => (wantR L sAr a1).bind fun _ a2 => (typeF f a2 o).bind fun t a3 => .ok (mk0 35 mtT [p, t]) a3
def blkF : Nat → Nat → Nat → Rs Nd
  | 0, a, _ => .bad a 0
  | f + 1, a, o => blockG L (fun a' => stmtF f a' o) a
/-- Stmt. -/
def stmtF : Nat → Nat → Nat → Rs Nd
  | 0, a, _ => .bad a 0
  | f + 1, a, o => (beginR L a o).bind fun _ _ => anyF f a (o + 1)
def letF : Nat → Int → Nat → Nat → Rs Nd
  | 0, _, a, _ => .bad a 0
  | f + 1, n, a, o => (idR L a).bind fun t a1 => (typeOrF f a1 o).bind fun y a2 => (wantR L sAs a2).bind fun _ a3 => (exprF f a3 o).bind fun e a4 => (wantR L sSe a4).bind fun _ a5 => .ok (.mk 40 t n [y, e]) a5
def condiF : Nat → Nat → Nat → Rs Nd
  | 0, a, _ => .bad a 0
  | f + 1, a, o => (wantR L sPo a).bind fun _ a1 => (exprF f a1 o).bind fun e a2 => (wantR L sPc a2).bind fun _ a3 => .ok e a3
def elseF : Nat → Nat → Nat → Rs Nd
  | 0, a, _ => .bad a 0
  | f + 1, a, o => if isWd L a wElse = true then (if isWd L (a + 1) wIf = true then (stmtF f (a + 1) o).bind fun s a3 => .ok (mk0 52 mtT [s]) a3 else blkF f (a + 1) o) else .ok noneN a
def exprOrF : Nat → Nat → Nat → Rs Nd
  | 0, a, _ => .bad a 0
  | f + 1, a, o => if isS L a sSe = true then .ok noneN a else exprF f a o
def anyF : Nat → Nat → Nat → Rs Nd
  | 0, a, _ => .bad a 0
  | f + 1, a, o => if isWd L a wLet = true then letF f 0 (a + 1) o
      else if isWd L a wConst = true then letF f 1 (a + 1) o
      else if isWd L a wFunc = true then (idR L (a + 1)).bind fun t a1 => (paramsG L (fun a' => typeOrF f a' o) a1).bind fun p a2 => (typeOrF f a2 o).bind fun y a3 => (blkF f a3 o).bind fun b a4 => .ok (mk0 41 t [p, y, b]) a4
      else if isWd L a wIf = true then (condiF f (a + 1) o).bind fun c a1 => (blkF f a1 o).bind fun b a2 => (elseF f a2 o).bind fun e a4 => .ok (mk0 48 mtT [c, b, e]) a4
      else if isWd L a wWhile = true then (condiF f (a + 1) o).bind fun c a1 => (blkF f a1 o).bind fun b a2 => .ok (mk0 49 mtT [c, b]) a2
      else if isWd L a wReturn = true then (exprOrF f (a + 1) o).bind fun e a1 => (wantR L sSe a1).bind fun _ a2 => .ok (mk0 50 mtT [e]) a2
      else if isWd L a wThrow = true then (exprF f (a + 1) o).bind fun e a1 => (wantR L sSe a1).bind fun _ a2 => .ok (mk0 51 mtT [e]) a2
      else if isS L a sCb = true then blkF f a o
      else (exprF f a o).bind fun e a1 => (wantR L sSe a1).bind fun _ a2 => .ok (mk0 47 mtT [e]) a2
end
end
end Go.Proofs.YtfehmdfamndcaaaGreatDoor
