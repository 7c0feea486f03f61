/- Own text. Package graph: Requests; the statements' own comparison of requests. What a table of files is, as a rising list of paths and bytes: writing, removing, finding; how a map of such entries reads. No program is named here. -/
import Derived.Test.YtfehmdfamndcaaaGreatDoorGm03
import Derived.Maps.Ext
import Derived.Sort.KeysCollected
import Derived.Lib.Strings
namespace Go.Proofs.YtfehmdfamndcaaaGreatDoor
open Go.RowKit
set_option linter.unusedVariables false
set_option linter.unusedSimpArgs false

set_option maxRecDepth 100000 in
set_option maxHeartbeats 4000000 in
theorem asks_any (x : Nd) (w : World) (S : Nat → Prop) (v : Value) (hx : LAt w S v x.ks) :
    Calls Tryz.prog 34 #[x.v v] w fun e w' => e = .returned (.bool (asksN x)) ∧ Below w.heap.size w w' := by
  obtain ⟨ax, cx, rfl⟩ := hx.sl
  obtain ⟨res, hres⟩ : ∃ r, asksN x = r := ⟨_, rfl⟩
  have HR : Hid (asksN x = res) := hres
  rw [hres]
  clear hres
  unfold Nd.v
  cases c1 : (x.k == 60) with
  | true =>
    obtain rfl : true = res := by rw [← HR.out, asksN, c1]; rfl
    go_enter Tryz.func34, Tryz.ntmps34
    go_wp2
    go_ret
    exact ⟨rfl, bel_a _ _⟩
  | false =>
    cases c2 : (x.k == 64) with
    | true =>
      cases c3 : x.t.toList.isEmpty with
      | true =>
        obtain rfl : false = res := by
          rw [← HR.out, asksN, c1, c2]
          cases e : x.t.toList with
          | nil => rfl
          | cons a l => rw [e] at c3; cases c3
        go_enter Tryz.func34, Tryz.ntmps34
        go_wp2
        go_ret
        exact ⟨rfl, bel_a _ _⟩
      | false =>
        obtain rfl : true = res := by
          rw [← HR.out, asksN, c1, c2]
          cases e : x.t.toList with
          | nil => rw [e] at c3; cases c3
          | cons a l => rfl
        go_enter Tryz.func34, Tryz.ntmps34
        go_wp2
        go_ret
        exact ⟨rfl, bel_a _ _⟩
    | false =>
      obtain rfl : false = res := by rw [← HR.out, asksN, c1, c2]; rfl
      go_enter Tryz.func34, Tryz.ntmps34
      go_wp2
      go_ret
      exact ⟨rfl, bel_a _ _⟩
set_option maxRecDepth 100000 in
set_option maxHeartbeats 8000000 in
theorem preq_any (x : Nd) (w : World) (S : Nat → Prop) (v : Value) (hx : LAt w S v x.ks) (zx : x.ks.length ≤ 4194304) (zt : ∀ y ∈ x.ks, y.t.size ≤ 281474976710656) :
    Calls Tryz.prog 28 #[x.v v] w fun e w' => ∃ v', e = .returned v' ∧ RqO w' w.heap.size v' (reqsL x) ∧ Below w.heap.size w w' := by
  obtain ⟨ax, cx, bx, ox, fx, rfl, px, qx, rx⟩ := hx.op
  obtain ⟨i0, hi0, hz0, hz1, hz2⟩ := info_parts info_rq
  obtain ⟨res, hres⟩ : ∃ r, reqsL x = r := ⟨_, rfl⟩
  have HR : Hid (reqsL x = res) := hres
  rw [hres]
  clear hres
  unfold Nd.v
  by_cases h68 : x.k = 68
  · obtain rfl : reqF x.ks 0 = res := by rw [← HR.out, reqsL, if_pos h68]
    have h68' : (x.k != 68) = false := by simpa using h68
    clear HR h68
    have hb0 : Below w.heap.size w (w.alloc (Obj.cells #[Value.int IntKind.i64 x.k, Value.string x.t, Value.int IntKind.i64 x.n, Value.slice ax x.ks.length cx] 62)) := bel_a _ _
    go_enter Tryz.func28, Tryz.ntmps28
    go_wp2
    go_loopw [3, 12] (fun v3 i wr => ∃ (k : Nat) (L : List Rq), i = .int .i64 (k : Nat) ∧ k ≤ x.ks.length ∧ Below w.heap.size w wr ∧ w.heap.size + 1 ≤ wr.heap.size ∧ RqO wr (w.heap.size + 1) v3 L ∧ L.length ≤ k ∧ Hid (L = reqF (x.ks.take k) 0)) (fun _ i _ => x.ks.length - (intOf i).toNat)
    case atStart => exact ⟨0, [], rfl, by omega, hb0, by simp, World.ownsRow_nil _ _ _ _, by simp, by simp [Hid, reqF]⟩
    case round =>
      clear hb0
      obtain ⟨k, L, rfl, hk, bel, sz, own, hL, HL⟩ := hrel
      by_cases hkl : k < x.ks.length
      · obtain ⟨rfl, hSx, hbx⟩ := px (by omega)
        have HS : Hid (x.ks.take (k + 1) = x.ks.take k ++ [x.ks[k]]) := List.take_succ_eq_append_getElem hkl
        have htl : (x.ks.take k).length = k := by rw [List.length_take]; omega
        obtain ⟨⟨u1, u2, u3, u4⟩, gx⟩ := kid_at (qx k hkl) (rx k hkl) hbx bel
        have zk := zt _ (List.getElem_mem hkl)
        have HN : Hid (reqF (x.ks.take (k + 1)) 0 = L ++ (if asksN x.ks[k] = true then [⟨x.ks[k].t, x.ks[k].n == 1, k, 0⟩] else [])) := by show _ = _; rw [HS.out, reqF_snoc, HL.out, htl]; simp
        clear htl HS HL
        generalize x.ks[k] = xk at *
        generalize fx k = fxk at *
        obtain ⟨ak, ck, rfl⟩ := gx.sl
        obtain ⟨WB, hWB⟩ : ∃ W, wr.alloc (Obj.cells #[Value.int IntKind.i64 xk.k, Value.string xk.t, Value.int IntKind.i64 xk.n, Value.slice ak xk.ks.length ck] 62) = W := ⟨_, rfl⟩
        have bB : Below wr.heap.size wr WB := by rw [← hWB]; exact bel_a _ _
        have mB : WB.heap[wr.heap.size]? = some (.cells #[Value.int IntKind.i64 xk.k, Value.string xk.t, Value.int IntKind.i64 xk.n, Value.slice ak xk.ks.length ck] 62 (0, 0)) := by rw [← hWB]; exact heap_alloc_new _ _
        have CA := asks_any xk WB S (.slice ak xk.ks.length ck) (gx.bel bB)
        unfold Nd.v at CA
        have HB : Hid (∀ W, Below WB.heap.size WB W → (W.cell? ⟨wr.heap.size, 0, none⟩ = some (.int .i64 xk.k) ∧ W.cell? ⟨wr.heap.size, 1, none⟩ = some (.string xk.t) ∧ W.cell? ⟨wr.heap.size, 2, none⟩ = some (.int .i64 xk.n) ∧ W.cell? ⟨wr.heap.size, 3, none⟩ = some (.slice ak xk.ks.length ck)) ∧ Below wr.heap.size wr W) := fun W b => ⟨nd_cells ((b.block _ (Array.getElem?_eq_some_iff.1 mB).1).trans mB), bB.trans (b.mono bB.size)⟩
        obtain ⟨⟨e0, e1, e2, e3⟩, _⟩ := HB.out WB (Below.refl _ _)
        go_wp2_with fail
        go_at_call 34
        refine CA.mono ?_
        rintro e W1 ⟨rfl, b1⟩
        clear e0 e1 e2 e3 CA hWB
        obtain ⟨⟨e0, e1, e2, e3⟩, c1⟩ := HB.out W1 b1
        cases hq : asksN xk with
        | false =>
          have HN' : Hid (L = reqF (x.ks.take (k + 1)) 0) := by show _ = _; rw [HN.out, hq]; simp
          have belB := bel.trans (c1.mono bel.size)
          have ownB := row_bel own c1
          have szB := c1.size
          clear hq HN gx
          go_wp2
          go_roundw
          case rel => exact ⟨k + 1, L, by simp, by omega, belB, by omega, ownB, by omega, HN'⟩
          case measure => simp [intOf]; omega
        | true =>
          have HN' : Hid (L ++ [⟨xk.t, xk.n == 1, k, 0⟩] = reqF (x.ks.take (k + 1)) 0) := by show _ = _; rw [HN.out, hq]; simp
          have HB1 : Hid (∀ W, Below W1.drew.heap.size W1.drew W → (W.cell? ⟨wr.heap.size, 1, none⟩ = some (.string xk.t) ∧ W.cell? ⟨wr.heap.size, 2, none⟩ = some (.int .i64 xk.n)) ∧ Below wr.heap.size wr W) := fun W b => by
            have b' : Below WB.heap.size WB W := (b1.drew).trans (b.mono b1.size)
            obtain ⟨⟨_, f1, f2, _⟩, f3⟩ := HB.out W b'
            exact ⟨⟨f1, f2⟩, f3⟩
          have CC := clone_any xk.t W1.drew zk
          clear hq HN gx
          go_wp2_with fail
          go_region_law (first
            | (refine step_call1 (by rfl) 13 _ _ (by rfl) (.string xk.t) (by rfl) (enters_of Tryz.func13 (by kernel_rfl) rfl) CC ?_
               rintro e W2 ⟨rfl, b2⟩
               refine ⟨_, rfl, ?_⟩
               obtain ⟨⟨g1, g2⟩, c2⟩ := HB1.out W2 b2
               have own2 := row_bel own c2)
            | (refine step_append_lies _ (by rfl) _ _ _ (by rfl) (w.heap.size + 1) 67 i0 _ 4 40 Tryz.underlying63 hi0 hz0 hz1 hz2 rfl (by omega) _ L.length (rqL L) (by rfl) (own2.alloc _) ⟨W2.heap.size, 0, none⟩ 1 1 [.string xk.t, .bool (xk.n == 1), .int .i64 (k : Nat), .int .i64 0] (by rfl) (by rfl) (World.news_of_block (cs := #[.string xk.t, .bool (xk.n == 1), .int .i64 (k : Nat), .int .i64 0]) (t := 67) (fr := (0, 0)) (hnew _ (by simp))) (by simp [Value.oneCell']) (by omega) (by unfold maxLen; omega) (by omega) (by simp; have := c2.size; omega) (W2.heap.size + 1) (by simp) ?_
               intro gg cap W3 hown3 hgrow hat hlt3))
          all_goals
            obtain ⟨j0, hB3, hs3⟩ := rq_far own bel sz hgrow (c2.alloc c2.size _)
            go_wp2
            go_roundw
            case rel => exact ⟨k + 1, L ++ [⟨xk.t, xk.n == 1, k, 0⟩], by simp, by omega, hB3, by omega, rq_snoc (r := ⟨xk.t, xk.n == 1, k, 0⟩) hown3, by simp; omega, HN'⟩
            case measure => simp [intOf]; omega
      · have e : x.ks.take k = x.ks := List.take_of_length_le (by omega)
        have hLe : L = reqF x.ks 0 := by rw [HL.out, e]
        subst hLe
        clear e HL
        go_wp2
        go_ret
        exact ⟨_, rfl, row_mono10 own (by omega), bel⟩
  · obtain rfl : [] = res := by rw [← HR.out, reqsL, if_neg h68]
    clear HR
    have h68' : (x.k != 68) = true := by simpa using h68
    go_enter Tryz.func28, Tryz.ntmps28
    go_wp2
    go_ret
    exact ⟨_, rfl, World.ownsRow_nil _ _ _ _, bel_a _ _⟩
end Go.Proofs.YtfehmdfamndcaaaGreatDoor
namespace Go.Proofs.YtfehmdfamndcaaaGreatDoor
open Go.WideShapes Go.Maps
open Go.Proofs (encStr)
set_option linter.unusedVariables false

/-- files: paths and bytes. -/
abbrev Fls := List (ByteArray × ByteArray)

def lessB (a b : ByteArray) : Bool := Op.bytesLess a.toList b.toList
def eqB (a b : ByteArray) : Bool := a.toList == b.toList

theorem toList_inj {a b : ByteArray} (h : a.toList = b.toList) : a = b := by
  rw [Lib.toList_data, Lib.toList_data] at h
  exact ByteArray.ext (Array.toList_inj.1 h)

theorem eqB_iff {a b : ByteArray} : eqB a b = true ↔ a = b := by
  unfold eqB
  constructor
  · intro h; exact toList_inj (by simpa using h)
  · rintro rfl; simp
theorem eqB_self (a : ByteArray) : eqB a a = true := eqB_iff.2 rfl
theorem eqB_ne {a b : ByteArray} (h : a ≠ b) : eqB a b = false := by
  cases e : eqB a b
  · rfl
  · exact absurd (eqB_iff.1 e) h
theorem eqB_comm (a b : ByteArray) : eqB a b = eqB b a := by
  by_cases h : a = b
  · subst h; rfl
  · rw [eqB_ne h, eqB_ne (Ne.symm h)]

theorem less_before : ∀ a b : List UInt8, Op.bytesLess a b = bytesBefore a b
  | [], [] => rfl
  | [], _ :: _ => rfl
  | _ :: _, [] => rfl
  | a :: x, b :: y => by rw [Op.bytesLess, bytesBefore, less_before x y]

theorem lessB_before (a b : ByteArray) : lessB a b = (Lit.string a.data.toList).before (.string b.data.toList) := by
  unfold lessB
  rw [less_before, Lib.toList_data, Lib.toList_data]; rfl

theorem lessB_irrefl (a : ByteArray) : lessB a a = false := by rw [lessB_before]; exact before_irrefl _
theorem lessB_trans {a b c : ByteArray} (h1 : lessB a b = true) (h2 : lessB b c = true) : lessB a c = true := by
  rw [lessB_before] at *; exact before_trans h1 h2
theorem lessB_asymm {a b : ByteArray} (h1 : lessB a b = true) : lessB b a = false := by
  cases e : lessB b a
  · rfl
  · have := lessB_trans h1 e; rw [lessB_irrefl] at this; cases this
theorem lessB_total {a b : ByteArray} (h : a ≠ b) : lessB a b = true ∨ lessB b a = true := by
  rw [lessB_before, lessB_before]
  have : a.data.toList ≠ b.data.toList := fun e => h (ByteArray.ext (Array.toList_inj.1 e))
  rcases WideAt.bytes_total _ _ this with h1 | h1
  · exact Or.inl h1
  · exact Or.inr h1
theorem lessB_ne {a b : ByteArray} (h : lessB a b = true) : a ≠ b := fun e => by
  subst e; rw [lessB_irrefl] at h; cases h
theorem lessB_of_not {a b : ByteArray} (h1 : lessB a b = false) (h2 : eqB a b = false) : lessB b a = true := by
  have : a ≠ b := fun e => by subst e; rw [eqB_self] at h2; cases h2
  rcases lessB_total this with h | h
  · rw [h1] at h; cases h
  · exact h

/-- the paths rise. -/
def Ris (L : Fls) : Prop := L.Pairwise fun x y => lessB x.1 y.1 = true

def ins (p b : ByteArray) : Fls → Fls
  | [] => [(p, b)]
  | x :: r => if lessB x.1 p then x :: ins p b r else if eqB x.1 p then (p, b) :: r else (p, b) :: x :: r
def del (p : ByteArray) (L : Fls) : Fls := L.filter fun x => !eqB x.1 p
def hasP (p : ByteArray) (L : Fls) : Bool := L.any fun x => eqB x.1 p
def getP (p : ByteArray) (L : Fls) : ByteArray := match L.find? (fun x => eqB x.1 p) with | some x => x.2 | none => ByteArray.empty

theorem mem_ins {p b : ByteArray} : ∀ {L : Fls} {x}, x ∈ ins p b L → x = (p, b) ∨ x ∈ L
  | [], x, h => by simp [ins] at h; exact Or.inl h
  | y :: r, x, h => by
    unfold ins at h
    split at h
    · rcases List.mem_cons.1 h with e | h
      · exact Or.inr (by simp [e])
      · rcases mem_ins h with e | h
        · exact Or.inl e
        · exact Or.inr (by simp [h])
    · split at h
      · rcases List.mem_cons.1 h with e | h
        · exact Or.inl e
        · exact Or.inr (by simp [h])
      · rcases List.mem_cons.1 h with e | h
        · exact Or.inl e
        · exact Or.inr h

theorem Ris.ins {p b : ByteArray} : ∀ {L : Fls}, Ris L → Ris (ins p b L)
  | [], _ => by simp [Ris, Go.Proofs.YtfehmdfamndcaaaGreatDoor.ins]
  | y :: r, h => by
    obtain ⟨h1, h2⟩ := List.pairwise_cons.1 h
    have h2' : Ris r := h2
    unfold Go.Proofs.YtfehmdfamndcaaaGreatDoor.ins
    split
    · rename_i hy
      refine List.pairwise_cons.2 ⟨fun z hz => ?_, h2'.ins⟩
      rcases mem_ins hz with e | hz
      · subst e; exact hy
      · exact h1 z hz
    · rename_i hy
      have hy : lessB y.1 p = false := by simpa using hy
      split
      · rename_i he
        have he := eqB_iff.1 he
        exact List.pairwise_cons.2 ⟨fun z hz => by rw [← he]; exact h1 z hz, h2⟩
      · rename_i he
        have he : eqB y.1 p = false := by simpa using he
        have hl := lessB_of_not hy he
        refine List.pairwise_cons.2 ⟨fun z hz => ?_, h⟩
        rcases List.mem_cons.1 hz with e | hz
        · subst e; exact hl
        · exact lessB_trans hl (h1 z hz)

theorem Ris.del {p : ByteArray} {L : Fls} (h : Ris L) : Ris (del p L) := List.Pairwise.filter _ h

theorem del_of_low {p : ByteArray} {L : Fls} (h : ∀ x ∈ L, x.1 ≠ p) : del p L = L := by
  unfold del
  exact List.filter_eq_self.2 fun x hx => by rw [eqB_ne (h x hx)]; rfl

theorem length_ins {p b : ByteArray} : ∀ {L : Fls}, Ris L → (ins p b L).length = if hasP p L then L.length else L.length + 1
  | [], _ => by simp [ins, hasP]
  | y :: r, h => by
    obtain ⟨h1, h2⟩ := List.pairwise_cons.1 h
    have h2' : Ris r := h2
    unfold ins
    split
    · rename_i hy
      have e1 : eqB y.1 p = false := eqB_ne (lessB_ne hy)
      have e2 : hasP p (y :: r) = hasP p r := by unfold hasP; rw [List.any_cons, e1, Bool.false_or]
      rw [e2, List.length_cons, length_ins h2', List.length_cons]
      by_cases hr : hasP p r = true
      · rw [if_pos hr, if_pos hr]
      · rw [if_neg hr, if_neg hr]
    · rename_i hy
      have hy : lessB y.1 p = false := by simpa using hy
      split
      · rename_i he; simp [hasP, he]
      · rename_i he
        have he : eqB y.1 p = false := by simpa using he
        have hl := lessB_of_not hy he
        have : r.any (fun x => eqB x.1 p) = false := by
          rw [List.any_eq_false]
          intro z hz
          have := lessB_trans hl (h1 z hz)
          simp [eqB_ne (Ne.symm (lessB_ne this))]
        simp [hasP, he, this]
theorem length_ins_le {p b : ByteArray} : ∀ {L : Fls}, (ins p b L).length ≤ L.length + 1
  | [] => by simp [ins]
  | y :: r => by
    have := length_ins_le (p := p) (b := b) (L := r)
    unfold ins
    split
    · simp; omega
    · split <;> simp

theorem hasP_ins {p b q : ByteArray} : ∀ {L : Fls}, hasP q (ins p b L) = (eqB p q || hasP q L)
  | [] => by simp [ins, hasP]
  | y :: r => by
    have ih := hasP_ins (p := p) (b := b) (q := q) (L := r)
    unfold ins
    split
    · simp only [hasP, List.any_cons] at *
      rw [ih]
      cases eqB y.1 q <;> cases eqB p q <;> simp
    · split
      · rename_i he
        have he := eqB_iff.1 he
        simp only [hasP, List.any_cons, he]
        cases eqB p q <;> simp
      · simp [hasP]
theorem hasP_del {p q : ByteArray} {L : Fls} : hasP q (del p L) = (hasP q L && !eqB p q) := by
  unfold hasP del
  rw [List.any_filter]
  induction L with
  | nil => rfl
  | cons y r ih =>
    simp only [List.any_cons, ih]
    by_cases e : y.1 = q
    · subst e
      rw [eqB_self, eqB_comm p y.1]
      cases eqB y.1 p <;> simp
    · simp [eqB_ne e]

theorem getP_ins_same {p b : ByteArray} : ∀ {L : Fls}, getP p (ins p b L) = b
  | [] => by simp [ins, getP, eqB_self]
  | y :: r => by
    have ih := getP_ins_same (p := p) (b := b) (L := r)
    unfold ins
    split
    · rename_i hy
      have : eqB y.1 p = false := eqB_ne (lessB_ne hy)
      simp only [getP, List.find?_cons, this] at *
      exact ih
    · split <;> simp [getP, eqB_self]
theorem getP_ins_other {p b q : ByteArray} (hne : p ≠ q) : ∀ {L : Fls}, getP q (ins p b L) = getP q L
  | [] => by simp [ins, getP, eqB_ne hne]
  | y :: r => by
    have ih := getP_ins_other (b := b) hne (L := r)
    unfold ins
    split
    · simp only [getP, List.find?_cons] at *
      cases eqB y.1 q
      · exact ih
      · rfl
    · split
      · rename_i he
        have he := eqB_iff.1 he
        simp [getP, eqB_ne hne, he]
      · simp [getP, eqB_ne hne]
theorem getP_del_other {p q : ByteArray} (hne : p ≠ q) : ∀ {L : Fls}, getP q (del p L) = getP q L
  | [] => rfl
  | y :: r => by
    have ih := getP_del_other hne (L := r)
    unfold del at *
    by_cases e : y.1 = p
    · subst e
      simp only [List.filter_cons, eqB_self, Bool.not_true, Bool.false_eq_true, if_false, ih]
      simp [getP, eqB_ne hne]
    · simp only [List.filter_cons, eqB_ne e, Bool.not_false, if_true]
      simp only [getP, List.find?_cons] at *
      cases eqB y.1 q
      · exact ih
      · rfl
theorem getP_of_not {p : ByteArray} {L : Fls} (h : hasP p L = false) : getP p L = ByteArray.empty := by
  unfold getP
  rw [List.find?_eq_none.2 (fun x hx => by simpa using (List.any_eq_false.1 h) x hx)]

/-- the map as read. -/
def mapD (L : Fls) : DataW Unit := .map (L.map fun x => (Lit.string x.1.data.toList, .lit (.string x.2.data.toList)))

theorem same_eqB (a b : ByteArray) : (Lit.string a.data.toList).sameKey (.string b.data.toList) = eqB a b := by
  unfold eqB
  rw [Lib.toList_data, Lib.toList_data]; rfl

theorem mapD_del (p : ByteArray) (L : Fls) : (mapD L).del (.string p.data.toList) = mapD (del p L) := by
  unfold mapD DataW.del del
  simp only
  congr 1
  rw [List.filter_map]
  congr 1
  apply List.filter_congr
  intro x _
  simp only [Function.comp_apply, same_eqB]

theorem insert_low (p b : ByteArray) : ∀ (L : Fls), Ris L → (∀ x ∈ L, lessB p x.1 = true) →
    DataW.insert (Lit.string p.data.toList, (.lit (.string b.data.toList) : DataW Unit)) (L.map fun x => (Lit.string x.1.data.toList, .lit (.string x.2.data.toList))) = ((p, b) :: L).map fun x => (Lit.string x.1.data.toList, .lit (.string x.2.data.toList))
  | [], _, _ => rfl
  | y :: r, _, h => by
    have := h y (by simp)
    rw [lessB_before] at this
    simp [DataW.insert, this]

theorem put_list (p b : ByteArray) : ∀ (L : Fls), Ris L →
    DataW.insert (Lit.string p.data.toList, (.lit (.string b.data.toList) : DataW Unit)) ((del p L).map fun x => (Lit.string x.1.data.toList, .lit (.string x.2.data.toList))) = (ins p b L).map fun x => (Lit.string x.1.data.toList, .lit (.string x.2.data.toList))
  | [], _ => rfl
  | y :: r, h => by
    obtain ⟨h1, h2⟩ := List.pairwise_cons.1 h
    have h2' : Ris r := h2
    have ih := put_list p b r h2'
    by_cases hy : lessB y.1 p = true
    · have e1 : del p (y :: r) = y :: del p r := by simp [del, eqB_ne (lessB_ne hy)]
      have e2 : ins p b (y :: r) = y :: ins p b r := by simp [ins, hy]
      have e3 : (Lit.string p.data.toList).before (.string y.1.data.toList) = false := by rw [← lessB_before]; exact lessB_asymm hy
      rw [e1, e2, List.map_cons, List.map_cons]
      simp [DataW.insert, e3]
      simpa using ih
    · have hy : lessB y.1 p = false := by simpa using hy
      by_cases he : y.1 = p
      · subst he
        have hr : ∀ x ∈ r, lessB y.1 x.1 = true := h1
        have e1 : del y.1 (y :: r) = r := by
          have : del y.1 r = r := del_of_low fun x hx => Ne.symm (lessB_ne (hr x hx))
          simp only [del, List.filter_cons, eqB_self, Bool.not_true, Bool.false_eq_true, if_false] at *
          exact this
        have e2 : ins y.1 b (y :: r) = (y.1, b) :: r := by simp [ins, lessB_irrefl, eqB_self]
        rw [e1, e2]
        exact insert_low _ _ r h2' hr
      · have he' := eqB_ne he
        have hl := lessB_of_not hy he'
        have hr : ∀ x ∈ y :: r, lessB p x.1 = true := fun x hx => by
          rcases List.mem_cons.1 hx with e | hx
          · subst e; exact hl
          · exact lessB_trans hl (h1 x hx)
        have e1 : del p (y :: r) = y :: r := del_of_low fun x hx => Ne.symm (lessB_ne (hr x hx))
        have e2 : ins p b (y :: r) = (p, b) :: y :: r := by simp [ins, hy, he']
        rw [e1, e2]
        exact insert_low _ _ _ h hr

theorem mapD_put (p b : ByteArray) {L : Fls} (h : Ris L) : (mapD L).put (.string p.data.toList) (.lit (.string b.data.toList)) = mapD (ins p b L) := by
  have e : (mapD L).put (.string p.data.toList) (.lit (.string b.data.toList)) = .map (DataW.insert (Lit.string p.data.toList, (.lit (.string b.data.toList) : DataW Unit)) ((del p L).map fun x => (Lit.string x.1.data.toList, .lit (.string x.2.data.toList)))) := by
    unfold mapD DataW.put del
    simp only
    congr 2
    rw [List.filter_map]
    congr 1
    apply List.filter_congr
    intro x _
    simp only [Function.comp_apply, same_eqB]
  rw [e, put_list p b L h]; rfl

theorem mapD_has (p : ByteArray) (L : Fls) : Maps.has (mapD L) (.string p.data.toList) = hasP p L := by
  unfold mapD hasP
  rw [Maps.has_eq, List.any_map]
  congr 1
  funext x
  simp only [Function.comp_apply, same_eqB]

theorem mapD_at (p : ByteArray) (L : Fls) : (mapD L).atKey (.string p.data.toList) (.lit (.string [])) = .lit (.string (getP p L).data.toList) := by
  unfold mapD DataW.atKey getP
  simp only
  rw [List.find?_map]
  have e : ((fun (q : Lit × DataW Unit) => q.1.sameKey (.string p.data.toList)) ∘ fun (x : ByteArray × ByteArray) => (Lit.string x.1.data.toList, (.lit (.string x.2.data.toList) : DataW Unit))) = fun x => eqB x.1 p := by
    funext x; simp only [Function.comp_apply, same_eqB]
  rw [e]
  cases L.find? (fun x => eqB x.1 p) <;> rfl

theorem mapD_size (L : Fls) : Maps.size (mapD L) = L.length := by simp [mapD, Maps.size]
theorem mapD_keys (L : Fls) : strKeys (mapD L) = L.map fun x => x.1.data.toList := by
  simp only [strKeys, mapD, List.map_map]; rfl

theorem mapD_inj : ∀ {L M : Fls}, mapD L = mapD M → L = M := by
  intro L M h
  replace h := (DataW.map.inj h)
  induction L generalizing M with
  | nil => cases M with
    | nil => rfl
    | cons y s => simp at h
  | cons x r ih => cases M with
    | nil => simp at h
    | cons y s =>
      simp only [List.map_cons, List.cons.injEq, Prod.mk.injEq, Lit.string.injEq, DataW.lit.injEq] at h
      obtain ⟨⟨h1, h2⟩, h3⟩ := h
      rw [ih h3, Prod.ext (ByteArray.ext (Array.toList_inj.1 h1)) (ByteArray.ext (Array.toList_inj.1 h2))]

theorem lessB_le {a b : ByteArray} (h : lessB a b = true) : a.data.toList ≤ b.data.toList := by
  have key : ∀ x y : List UInt8, bytesBefore x y = true → x < y := by
    intro x
    induction x with
    | nil => intro y h; cases y with
      | nil => cases h
      | cons _ _ => exact List.Lex.nil
    | cons a x ih => intro y h; cases y with
      | nil => cases h
      | cons b y =>
        simp only [bytesBefore, Bool.or_eq_true, decide_eq_true_eq, Bool.and_eq_true, beq_iff_eq] at h
        rcases h with h | ⟨rfl, h⟩
        · exact List.Lex.rel h
        · exact List.Lex.cons (ih y h)
  rw [lessB_before] at h
  exact List.le_of_lt (key _ _ h)

/-- the keys, sorted, are the paths as they stand. -/
theorem sorted_keys {L : Fls} (h : Ris L) {ss : List (List UInt8)} (hp : ss.Perm (strKeys (mapD L))) : ((ss.mergeSort (fun x y => decide (x ≤ y))).map encStr) = L.map fun x => Value.string x.1 := by
  rw [mergeSort_of_perm hp, mapD_keys]
  have : (L.map fun x => x.1.data.toList).mergeSort leB = L.map fun x => x.1.data.toList := by
    apply List.mergeSort_of_pairwise
    rw [List.pairwise_map]
    exact h.imp fun {a b} hab => by simpa [leB] using lessB_le hab
  rw [this, List.map_map]
  apply List.map_congr_left
  intro x _
  simp [encStr]

end Go.Proofs.YtfehmdfamndcaaaGreatDoor
