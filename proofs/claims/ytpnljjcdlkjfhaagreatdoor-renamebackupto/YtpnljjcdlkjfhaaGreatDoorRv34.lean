/- Own text. Probes, and the examples (awake). The document's Probes. The document's Probe. Words for short. Package cursor: tokens in memory, the cursor's block, tokens looked at. Package cursor: signs, words and names that stand here, are passed over, or given up at. -/
import Derived.Test.YtpnljjcdlkjfhaaGreatDoorRv33
import Derived.Test.YtpnljjcdlkjfhaaGreatDoorRv32
import Derived.Test.YtpnljjcdlkjfhaaGreatDoorRv03
import Derived.Test.YtpnljjcdlkjfhaaGreatDoorRv02
import Derived.Deep.AppendLies
import Derived.Recover
import Derived.Test.YtpnljjcdlkjfhaaGreatDoorShelf
set_option linter.unusedVariables false
namespace Go.Proofs.YtpnljjcdlkjfhaaGreatDoor.Pa
open Go.RowKit
/-- texts as cells. -/
def cellsT (l : List Bs) : List Value := l.map fun b => .string ⟨b.toArray⟩
set_option maxRecDepth 100000 in
theorem cellsT_length (l : List Bs) : (cellsT l).length = l.length := by simp [cellsT]
abbrev Texts (w : World) (base : Nat) (v : Value) (l : List Bs) : Prop := w.ownsRow base 9 1 v l.length (cellsT l)
set_option maxRecDepth 100000 in
theorem texts_app {w : World} {base : Nat} {v : Value} {l : List Bs} {b : ByteArray} {x : Bs} (h : w.ownsRow base 9 1 v (l.length + 1) (cellsT l ++ [.string b])) (hb : b.data.toList = x) : Texts w base v (l ++ [x]) := by
  have e1 : (l ++ [x]).length = l.length + 1 := by simp
  have e2 : cellsT (l ++ [x]) = cellsT l ++ [.string b] := by
    have : b = ⟨x.toArray⟩ := toList_ext (by simp [hb])
    rw [this]
    simp [cellsT]
  unfold Texts
  rw [e1, e2]
  exact h

def prbN (p : Bs) (k : Nat) : List Bs := ((endS.take k).map (p ++ ·)).filter fun x => decide (x.length ≤ 200)
set_option maxRecDepth 100000 in
theorem prbN_len (p : Bs) (k : Nat) : (prbN p k).length ≤ 3 := by
  have h1 : (prbN p k).length ≤ ((endS.take k).map (p ++ ·)).length := List.length_filter_le _ _
  simp only [List.length_map, List.length_take] at h1
  have h2 : endS.length = 3 := rfl
  omega
set_option maxRecDepth 100000 in
theorem prbN_yes (p e : Bs) (k : Nat) (h : endS[k]? = some e) (hl : p.length + e.length ≤ 200) : prbN p (k + 1) = prbN p k ++ [p ++ e] := by
  unfold prbN
  rw [List.take_add_one, h]
  simp [List.filter_append, hl]
set_option maxRecDepth 100000 in
theorem prbN_no (p e : Bs) (k : Nat) (h : endS[k]? = some e) (hl : ¬ p.length + e.length ≤ 200) : prbN p (k + 1) = prbN p k := by
  unfold prbN
  rw [List.take_add_one, h]
  simp [List.filter_append]
  omega
set_option maxRecDepth 100000 in
theorem info_str : (Tryz.prog.info? 9).map (fun i => (i.zero, i.size, i.bytes)) = some (some (.string ByteArray.empty), 1, 16) := by kernel_rfl

set_option maxRecDepth 100000 in
theorem awake_n : nrmB ⟨#[47, 97, 47, 47, 98, 47, 46, 47, 46, 46, 47, 99]⟩ = ⟨#[47, 97, 47, 99]⟩ ∧ nrmE ⟨#[47, 97, 47, 47, 98, 47, 46, 47, 46, 46, 47, 99]⟩ = 0 := by decide +kernel
set_option maxRecDepth 100000 in
theorem awake_j : jnB ⟨#[47, 120, 47, 121, 46, 116, 115]⟩ ⟨#[46, 46, 47, 122]⟩ = ⟨#[47, 122]⟩ ∧ jnE ⟨#[47, 120, 47, 121, 46, 116, 115]⟩ ⟨#[46, 46, 47, 122]⟩ = 0 := by decide +kernel
set_option maxRecDepth 100000 in
theorem awake_p : (prb [47, 97]).length = 3 := by decide +kernel

set_option maxRecDepth 100000 in
theorem row_mono {w : World} {base base' : Nat} {e : TypeId} {size : Nat} {v : Value} {n : Nat} {xs : List Value} (h : w.ownsRow base e size v n xs) (hb : base' ≤ base) : w.ownsRow base' e size v n xs := by
  refine ⟨h.1, ?_⟩
  rcases h.2 with h2 | ⟨g, cap, cur, h1, h2, h3⟩
  · exact .inl h2
  · exact .inr ⟨g, cap, cur, h1, Nat.le_trans hb h2, h3⟩

set_option maxHeartbeats 4000000 in
set_option maxRecDepth 100000 in
theorem refProbes_any (s : ByteArray) (w : World) (hs : s.size ≤ 140737488355328) : Calls Tryz.prog 69 #[.string s] w fun e w' =>
    ∃ v, e = .returned v ∧ Texts w' w.heap.size v (prb s.data.toList) ∧ Below w.heap.size w w' := by
  obtain ⟨i0, hi, hz0, hz1, hz2⟩ := info_parts info_str
  obtain ⟨cs, hcs⟩ : ∃ cs : Array Value, cs = #[.string s, .string (s ++ ⟨#[46, 116, 115]⟩), .string (s ++ ⟨#[47, 105, 110, 100, 101, 120, 46, 116, 115]⟩)] := ⟨_, rfl⟩
  have hrow := World.ownsRow_lit (base := w.heap.size) (e := 9) (size := 1) w cs 3 (Nat.le_refl _) (by unfold maxLen; decide) (by rw [hcs]; rfl)
  obtain ⟨W1, hW1⟩ : ∃ W1, W1 = w.alloc (.cells cs 9) := ⟨_, rfl⟩
  have HC : Hid (∀ k, k < 3 → ∃ X, W1.cell? ⟨w.heap.size, k, none⟩ = some (.string X) ∧ ∃ e, endS[k]? = some e ∧ X.data.toList = s.data.toList ++ e ∧ X.size = s.data.toList.length + e.length) := by
    intro k hk
    rw [← hW1] at hrow
    rw [hrow.cellAt k (by omega), hcs]
    have h3 : k = 0 ∨ k = 1 ∨ k = 2 := by omega
    rcases h3 with rfl | rfl | rfl
    · exact ⟨s, rfl, [], rfl, by simp, by rw [Lib.size_eq]; rfl⟩
    · exact ⟨_, rfl, _, rfl, append_list _ _, by rw [Lib.size_eq, append_list]; simp⟩
    · exact ⟨_, rfl, _, rfl, append_list _ _, by rw [Lib.size_eq, append_list]; simp⟩
  have hB1 : Below w.heap.size w W1 := by rw [hW1]; exact (Below.refl _ w).alloc (Nat.le_refl _) _
  have hz1' : W1.heap.size = w.heap.size + 1 := by rw [hW1]; simp
  have HW : Hid (w.alloc (.cells cs 9) = W1) := hW1.symm
  clear hrow hW1
  rw [hcs] at HW
  clear hcs
  go_enter Tryz.func69, Tryz.ntmps69
  go_wp2
  rw [HW.out]
  go_loopw [3, 5] (fun v3 v5 W => ∃ k : Nat, k ≤ 3 ∧ v5 = .int .i64 k ∧ Texts W W1.heap.size v3 (prbN s.data.toList k) ∧ Below W1.heap.size W1 W) (fun _ v5 _ => 3 - (intOf v5).toNat)
  case atStart => exact ⟨0, by omega, rfl, World.ownsRow_nil _ _ _ _, Below.refl _ _⟩
  case round =>
    obtain ⟨k, hk, rfl, ht, hb⟩ := hrel
    by_cases hk3 : k = 3
    · subst hk3
      go_wp2
      go_ret
      exact ⟨_, rfl, row_mono ht (by omega), hB1.trans (hb.mono (by omega))⟩
    · have hln := prbN_len s.data.toList k
      obtain ⟨X, hX, e, he, hXl, hXs⟩ := HC.out k (by omega)
      have hce : wr.cell? ⟨w.heap.size, k, none⟩ = some (.string X) := (hb.cell (p := ⟨w.heap.size, k, none⟩) (by simp; omega)).trans hX
      have HE : Hid (endS[k]? = some e ∧ X.data.toList = s.data.toList ++ e ∧ X.size = s.data.toList.length + e.length) := ⟨he, hXl, hXs⟩
      have hk4 : (k : Int) < 3 := by omega
      clear hX he hXl hXs HC
      by_cases hl : X.size ≤ 200
      · have hl2 : (X.size : Int) ≤ 200 := by omega
        go_wp2_with (at_builtin; refine wpList_append_own _ rfl _ _ 70 rfl W1.heap.size 9 i0 (.string ByteArray.empty) 1 16 Tryz.underlying70 hi hz0 hz1 hz2 rfl (by decide) _ _ _ rfl (ht.alloc _) ⟨_, 0, none⟩ 1 1 [.string X] rfl rfl (cell_one_new _ _ _) (fun x hx => by simp at hx; subst hx; rfl) (by unfold maxLen; omega) (by omega) (by have h1 := hb.size; simp; omega) ?_; intro v1 W3 ho1 hg1 hn1)
        go_roundw
        case rel =>
          obtain ⟨he, hXl, hXs⟩ := HE.out
          refine ⟨k + 1, by omega, by simp, ?_, ?_⟩
          · rw [prbN_yes _ _ _ he (by omega)]
            exact texts_app ho1 hXl
          · exact (hb.alloc hb.size _).grown hg1 (by have := hb.size; simp; omega) (fun j hj => (ht.lt j hj).1)
        case measure => simp [intOf]; omega
      · have hl2 : ¬ (X.size : Int) ≤ 200 := by omega
        go_wp2
        go_roundw
        case rel =>
          obtain ⟨he, hXl, hXs⟩ := HE.out
          refine ⟨k + 1, by omega, by simp, ?_, hb⟩
          rw [prbN_no _ _ _ he (by omega)]
          exact ht
        case measure => simp [intOf]; omega

end Go.Proofs.YtpnljjcdlkjfhaaGreatDoor.Pa
set_option linter.unusedVariables false
set_option linter.unusedSimpArgs false
namespace Go.Proofs.YtpnljjcdlkjfhaaGreatDoor
open Go.RowKit
def baL (l : List UInt8) : ByteArray := ⟨l.toArray⟩
/-- the first of the paths that are probed for which f holds. -/
def prbF (f : ByteArray → Bool) (p : ByteArray) : Option ByteArray := ((Pa.prb p.data.toList).map baL).find? f
theorem find_at {α : Type} {f : α → Bool} : ∀ {l : List α} {k : Nat} (h : k < l.length), (∀ j (hj : j < l.length), j < k → f l[j] = false) → f l[k] = true → l.find? f = some l[k]
  | x :: l, 0, h, _, hk => by rw [List.find?_cons]; simp only [List.getElem_cons_zero] at hk ⊢; rw [hk]
  | x :: l, k + 1, h, hz, hk => by
    have h0 : f x = false := hz 0 (by simp) (by omega)
    rw [List.find?_cons, h0]
    exact find_at (l := l) (by simpa using h) (fun j hj hjk => hz (j + 1) (by simpa using hj) (by omega)) hk
theorem find_no {α : Type} {f : α → Bool} {l : List α} (h : ∀ j (hj : j < l.length), f l[j] = false) : l.find? f = none := by
  rw [List.find?_eq_none]
  intro x hx
  obtain ⟨j, hj, rfl⟩ := List.getElem_of_mem hx
  rw [h j hj]
  decide
theorem below_dn {w : World} (n : Nat) : Below w.heap.size w (w.drewN n) := below_drewN (Below.refl _ _) n
set_option maxRecDepth 100000 in
set_option maxHeartbeats 4000000 in
theorem rprobe_any (w : World) (v : Value) (L : Fls) (p : ByteArray) (hv : w.ownsRow 0 47 2 v L.length (Vf.flat L)) (hr : Ris L) (hL : L.length ≤ 1048576) (hp : p.size ≤ 140737488355328) :
    Calls Tryz.prog 50 #[v, .string p] w fun e w' => e = .returned (.tuple #[.string ((prbF (fun q => hasP q L) p).getD ⟨#[]⟩), .bool (prbF (fun q => hasP q L) p).isSome]) ∧ Below w.heap.size w w' := by
  obtain ⟨va, vn, vc, rfl⟩ := Vf.row_slice hv
  obtain ⟨W0, hW0⟩ : ∃ X, w.alloc (Obj.cells #[.slice va vn vc] 143) = X := ⟨_, rfl⟩
  have b0 : Below w.heap.size w W0 := by rw [← hW0]; exact (Below.refl _ _).alloc (Nat.le_refl _) _
  have m0 : W0.heap[w.heap.size]? = some (.cells #[.slice va vn vc] 143) := by rw [← hW0]; exact hnew _ rfl
  have rt : Vf.RTab W0 w.heap.size (.slice va vn vc) L := ⟨m0, row_bel hv b0⟩
  have HF : Hid (∀ X q, Below W0.heap.size W0 X → Calls Tryz.prog 70 #[.pointer (some ⟨w.heap.size, 0, none⟩), .string q] X fun e w' => ∃ n : Int, e = .returned (.tuple #[.int .i64 n, .bool (hasP q L)]) ∧ Below X.heap.size X w') := fun X q b => by
    refine (Vf.find_any X _ _ L q (rt.below b) (by omega)).mono ?_
    rintro e w' ⟨rfl, n, rfl⟩
    rw [Vf.hit_has hr]
    exact ⟨_, rfl, below_dn n⟩
  have CP := Pa.refProbes_any p W0 hp
  obtain ⟨f, hf⟩ : ∃ f : ByteArray → Bool, (fun q => hasP q L) = f := ⟨_, rfl⟩
  have hf2 : ∀ q, hasP q L = f q := fun q => congrFun hf q
  simp only [hf2] at HF
  rw [hf]
  obtain ⟨l, hl⟩ : ∃ l, Pa.prb p.data.toList = l := ⟨_, rfl⟩
  have hl3 : l.length ≤ 3 := by rw [← hl]; unfold Pa.prb; exact Nat.le_trans (List.length_filter_le _ _) (by simp [Pa.endS])
  rw [hl] at CP
  obtain ⟨res, hres⟩ : ∃ r, prbF f p = r := ⟨_, rfl⟩
  have HR : Hid ((l.map baL).find? f = res) := by show _ = _; rw [← hl]; exact hres
  rw [hres]
  clear hres hl hf hf2 rt m0 hv
  go_enter Tryz.func50, Tryz.ntmps50
  go_wp2_with fail
  go_at_call 69
  refine CP.mono ?_
  rintro e W1 ⟨v, rfl, hT, b1⟩
  obtain ⟨av, cv, rfl⟩ := Pa.row_form hT
  clear CP hW0
  go_wp2
  go_loopw [8] (fun i wr => ∃ k : Nat, i = .int .i64 (k : Nat) ∧ k ≤ l.length ∧ Below W1.heap.size W1 wr ∧ Hid (∀ j (hj : j < (l.map baL).length), j < k → f (l.map baL)[j] = false)) (fun i _ => l.length - (intOf i).toNat)
  case atStart => exact ⟨0, rfl, Nat.zero_le _, Below.refl _ _, fun j _ hj => absurd hj (Nat.not_lt_zero _)⟩
  case round =>
    obtain ⟨k, rfl, hk, bel, HZ⟩ := hrel
    have bw := b1.trans (bel.mono b1.size)
    have bw0 := b0.trans (bw.mono b0.size)
    by_cases hkl : k < l.length
    · have hT2 := row_bel hT bel
      obtain ⟨g, c, e, hg, hc⟩ := Pa.row_some hT2 (by omega)
      cases e
      have HCell : Hid (∀ X, Below wr.heap.size wr X → X.cell? ⟨g, k, none⟩ = some (.string (baL l[k]))) := fun X b => by
        have := World.ownsRow.cellAt (row_bel hT2 b) k (by omega)
        rw [this]
        simp [Pa.cellsT, baL, hkl]
      have hcell := HCell.out wr (Below.refl _ _)
      have HQ : Hid (f (baL l[k]) = true → some (baL l[k]) = res) := fun q => by
        have hm : (l.map baL)[k]'(by simpa using hkl) = baL l[k] := by simp
        rw [← HR.out, find_at (k := k) (by simpa using hkl) HZ.out (by rw [hm]; exact q), hm]
      have HZ' : Hid (f (baL l[k]) = false → ∀ j (hj : j < (l.map baL).length), j < k + 1 → f (l.map baL)[j] = false) := fun q j hj hjk => by
        by_cases e : j = k
        · subst e; simpa using q
        · exact HZ.out j hj (by omega)
      have C := HF.out wr (baL l[k]) bw
      generalize baL l[k] = q at *
      clear hT2 HZ
      cases hf : f q with
      | true =>
        rw [hf] at C
        obtain rfl := HQ.out hf
        go_wp2_with fail
        go_at_call 70
        refine C.mono ?_
        rintro e W2 ⟨n, rfl, b2⟩
        clear hcell
        have hcell := HCell.out W2 b2
        go_wp2
        go_ret2
        exact ⟨rfl, bw0.trans (b2.mono bw0.size)⟩
      | false =>
        rw [hf] at C
        have HZ2 : Hid (∀ j (hj : j < (l.map baL).length), j < k + 1 → f (l.map baL)[j] = false) := HZ'.out hf
        go_wp2_with fail
        go_at_call 70
        refine C.mono ?_
        rintro e W2 ⟨n, rfl, b2⟩
        go_wp2
        go_roundw
        case rel => exact ⟨k + 1, by simp, by omega, bel.trans (b2.mono bel.size), HZ2⟩
        case measure => simp [intOf]; omega
    · have hn : ∀ j (hj : j < (l.map baL).length), f (l.map baL)[j] = false := fun j hj => HZ.out j hj (Nat.lt_of_lt_of_le (by simpa using hj) (Nat.le_of_not_lt hkl))
      obtain rfl : none = res := by rw [← HR.out]; exact (find_no hn).symm
      clear hn
      go_wp2
      go_ret2
      exact ⟨rfl, bw0⟩
end Go.Proofs.YtpnljjcdlkjfhaaGreatDoor
set_option linter.unusedVariables false
set_option linter.unusedSimpArgs false
namespace Go.Proofs.YtpnljjcdlkjfhaaGreatDoor
open Go.RowKit Go.Maps
theorem bQ {B : Nat} {w : World} : Below B w w := Below.refl B w
theorem leQ {n : Nat} : n ≤ n := Nat.le_refl n
/-- what yields the same in whatever world is taken first. -/
theorem tk (i : Nat) (v : Value) {P : Program} {md : Region.Mode} {ops : Array Oper} {Q : Exit → Act → World → Prop} {oi : Oper} {fuel : Nat} {listed : Array Bool} {a : Act} {w : World} (h : wpAny P md ops Q fuel (listed.setIfInBounds i true) (a.put oi.dst v) w)
    (hi : ops[i]? = some oi := by rfl) (hs : Region.noSelect ops = true := by kernel_rfl) (hf : Region.free md ops listed i = true := by kernel_rfl) (hr : (Region.ready md ops listed).contains i = true := by kernel_rfl)
    (hQ : ∀ c a w, Q (.panic c) (a.put oi.dst v) w → Q (.panic c) a w := by exact fun _ _ _ h => h) (hy : Yields P ops oi v a := by exact Or.inl ⟨by rfl, fun w => by go_simp⟩) : wpAny P md ops Q (fuel + 1) listed a w := wpAny_take hi hs hf hr hQ hy h
end Go.Proofs.YtpnljjcdlkjfhaaGreatDoor
set_option linter.unusedVariables false
set_option linter.unusedSimpArgs false
namespace Go.Proofs.YtpnljjcdlkjfhaaGreatDoor
open Go.RowKit
/-- a token: its kind, text, number and place. -/
structure Tok where
  k : Int
  t : ByteArray
  n : Int
  p : Int
def Tok.v (x : Tok) : Value := .agg #[.int .i64 x.k, .string x.t, .int .i64 x.n, .int .i64 x.p]
def endT : Tok := ⟨0, ByteArray.empty, 0, 0⟩
/-- the token at a place; behind the last one the end. -/
def tokA (L : List Tok) (i : Nat) : Tok := (L[i]?).getD endT
/-- tokens in memory. -/
structure Toks (w : World) (bl of : Nat) (L : List Tok) : Prop where
  lt : 0 < L.length → bl < w.heap.size
  c : ∀ i (h : i < L.length), w.cell? ⟨bl, of + i * 4, none⟩ = some (.int .i64 L[i].k) ∧ w.cell? ⟨bl, of + i * 4 + 1, none⟩ = some (.string L[i].t) ∧ w.cell? ⟨bl, of + i * 4 + 2, none⟩ = some (.int .i64 L[i].n) ∧ w.cell? ⟨bl, of + i * 4 + 3, none⟩ = some (.int .i64 L[i].p)
/-- what a reader has behind its cursor: its other cells, its type. -/
structure Ex where
  vs : List Value
  ty : TypeId
/-- where a reader and its tokens lie. -/
structure Pl where
  R : Nat
  bl : Nat
  of : Nat
  tc : Nat
  ta : Option Addr
/-- the reader's block: the tokens, the place, what else it has. -/
structure Rd (w : World) (P : Pl) (L : List Tok) (a : Nat) (o : Ex) : Prop where
  r : w.heap[P.R]? = some (.cells ⟨.slice P.ta L.length P.tc :: .int .i64 (a : Int) :: o.vs⟩ o.ty (0, 0))
  t : 0 < L.length → P.ta = some ⟨P.bl, P.of, none⟩
  x : Toks w P.bl P.of L
  ne : 0 < L.length → P.bl ≠ P.R
  le : a ≤ L.length
  small : L.length ≤ 4194304
  cap : L.length ≤ P.tc
theorem Rd.cells {w : World} {P : Pl} {L : List Tok} {a : Nat} {o : Ex} (h : Rd w P L a o) : (w.cell? ⟨P.R, 0, none⟩ = some (.slice P.ta L.length P.tc) ∧ w.cell? ⟨P.R, 1, none⟩ = some (.int .i64 (a : Int))) ∧ w.frozen? ⟨P.R, 1, none⟩ = false := by
  simp [World.cell?, World.frozen?, h.r]
theorem Rd.lt {w : World} {P : Pl} {L : List Tok} {a : Nat} {o : Ex} (h : Rd w P L a o) : P.R < w.heap.size := (Array.getElem?_eq_some_iff.1 h.r).1
theorem Toks.bel {w w' : World} {bl of : Nat} {L : List Tok} (h : Toks w bl of L) (b : Below w.heap.size w w') : Toks w' bl of L :=
  ⟨fun h0 => Nat.lt_of_lt_of_le (h.lt h0) b.size, fun i hi => by
    have hl := h.lt (by omega)
    obtain ⟨c0, c1, c2, c3⟩ := h.c i hi
    exact ⟨(b.cell (p := ⟨bl, of + i * 4, none⟩) hl).trans c0, (b.cell (p := ⟨bl, of + i * 4 + 1, none⟩) hl).trans c1, (b.cell (p := ⟨bl, of + i * 4 + 2, none⟩) hl).trans c2, (b.cell (p := ⟨bl, of + i * 4 + 3, none⟩) hl).trans c3⟩⟩
theorem Rd.bel {w w' : World} {P : Pl} {L : List Tok} {a : Nat} {o : Ex} (h : Rd w P L a o) (b : Below w.heap.size w w') : Rd w' P L a o :=
  ⟨(b.block P.R h.lt).trans h.r, h.t, h.x.bel b, h.ne, h.le, h.small, h.cap⟩
theorem t4 {w : World} {b : Nat} {p q r s : Value} {t : TypeId} (h : w.heap[b]? = some (.cells #[p, q, r, s] t (0, 0))) :
    (w.cell? ⟨b, 0, none⟩ = some p ∧ w.cell? ⟨b, 1, none⟩ = some q ∧ w.cell? ⟨b, 2, none⟩ = some r ∧ w.cell? ⟨b, 3, none⟩ = some s) ∧ (w.frozen? ⟨b, 0, none⟩ = false ∧ w.frozen? ⟨b, 1, none⟩ = false ∧ w.frozen? ⟨b, 2, none⟩ = false ∧ w.frozen? ⟨b, 3, none⟩ = false) := by
  simp [World.cell?, World.frozen?, h]
theorem t4_set {w : World} {b : Nat} {p q r s : Value} {t : TypeId} {fr : Nat × Nat} (p' q' r' s' : Value) (h : w.heap[b]? = some (.cells #[p, q, r, s] t fr)) :
    ((((w.setCell ⟨b, 0, none⟩ p').setCell ⟨b, 1, none⟩ q').setCell ⟨b, 2, none⟩ r').setCell ⟨b, 3, none⟩ s').heap[b]? = some (.cells #[p', q', r', s'] t fr) := by
  simp [World.setCell, Array.getElem?_modify, h]
/-- the tokens from here on, as a slice. -/
def restV (P : Pl) (L : List Tok) (a : Nat) (v : Value) : Prop := ∃ ad, v = .slice ad (L.length - a) (P.tc - a) ∧ (a < L.length → ad = some ⟨P.bl, P.of + a * 4, none⟩)
/-- does that sign, that word, a name stand here? -/
def isS (L : List Tok) (a : Nat) (s : ByteArray) : Bool := ((tokA L a).k == 5) && ((tokA L a).t.toList == s.toList)
def isWd (L : List Tok) (a : Nat) (s : ByteArray) : Bool := ((tokA L a).k == 2) && ((tokA L a).t.toList == s.toList)
def isN (L : List Tok) (a : Nat) : Bool := (tokA L a).k == 1
/-- one on, if so. -/
def adv (q : Bool) (a : Nat) : Nat := a + q.toNat
theorem kind_lt {L : List Tok} {a : Nat} (h : (tokA L a).k ≠ 0) : a < L.length := by
  by_cases hl : a < L.length
  · exact hl
  · exfalso
    apply h
    unfold tokA
    rw [List.getElem?_eq_none (by omega)]
    rfl
theorem isS_lt {L : List Tok} {a : Nat} {s : ByteArray} (h : isS L a s = true) : a < L.length := by
  unfold isS at h
  rw [Bool.and_eq_true] at h
  exact kind_lt (by have := h.1; simp at this; omega)
theorem isWd_lt {L : List Tok} {a : Nat} {s : ByteArray} (h : isWd L a s = true) : a < L.length := by
  unfold isWd at h
  rw [Bool.and_eq_true] at h
  exact kind_lt (by have := h.1; simp at this; omega)
theorem isN_lt {L : List Tok} {a : Nat} (h : isN L a = true) : a < L.length := by
  unfold isN at h
  exact kind_lt (by simp at h; omega)
/-- all blocks but the reader's are as they were. -/
structure KeptR (b : Nat) (w w' : World) : Prop where
  os : w'.os = w.os
  tape : w'.tape = w.tape
  output : w'.output = w.output
  size : w.heap.size ≤ w'.heap.size
  block : ∀ k, k < w.heap.size → k ≠ b → w'.heap[k]? = w.heap[k]?
theorem KeptR.refl (b : Nat) (w : World) : KeptR b w w := ⟨rfl, rfl, rfl, Nat.le_refl _, fun _ _ _ => rfl⟩
theorem KeptR.trans {b : Nat} {w w' w'' : World} (h : KeptR b w w') (k : KeptR b w' w'') : KeptR b w w'' :=
  ⟨k.os.trans h.os, k.tape.trans h.tape, k.output.trans h.output, Nat.le_trans h.size k.size, fun i hi hb => (k.block i (Nat.lt_of_lt_of_le hi h.size) hb).trans (h.block i hi hb)⟩
theorem KeptR.of {b : Nat} {w w' : World} (h : Below w.heap.size w w') : KeptR b w w' := ⟨h.os, h.tape, h.output, h.size, fun k hk _ => h.block k hk⟩
theorem KeptR.set (b : Nat) (w : World) (i : Nat) (v : Value) : KeptR b w (w.setCell ⟨b, i, none⟩ v) :=
  ⟨rfl, rfl, rfl, by simp [World.setCell], fun k hk hb => Below.heap_setCell _ _ _ _ hb⟩
theorem KeptR.new {b : Nat} {w w' : World} (h : KeptR b w w') {n : Nat} (hn : w.heap.size ≤ n) (i : Nat) (v : Value) : KeptR b w (w'.setCell ⟨n, i, none⟩ v) :=
  ⟨h.os, h.tape, h.output, by simpa [World.setCell] using h.size, fun k hk hb => (Below.heap_setCell _ _ _ _ (by show k ≠ n; omega)).trans (h.block k hk hb)⟩
theorem KeptR.alloc {b : Nat} {w w' : World} (h : KeptR b w w') (o : Obj) : KeptR b w (w'.alloc o) := h.trans (.of ((Below.refl _ _).alloc (Nat.le_refl _) o))
/-- the reader goes to another place. -/
theorem Rd.go {w : World} {P : Pl} {L : List Tok} {a : Nat} {o : Ex} (h : Rd w P L a o) (n : Nat) (hn : n ≤ L.length) : Rd (w.setCell ⟨P.R, 1, none⟩ (.int .i64 (n : Int))) P L n o := by
  refine ⟨by simp [World.setCell, Array.getElem?_modify, h.r], h.t, ⟨fun h0 => by simpa [World.setCell] using h.x.lt h0, fun i hi => ?_⟩, h.ne, hn, h.small, h.cap⟩
  have hb : (w.setCell ⟨P.R, 1, none⟩ (.int .i64 (n : Int))).heap[P.bl]? = w.heap[P.bl]? := Below.heap_setCell _ _ _ _ (h.ne (by omega))
  have hc : ∀ j, (w.setCell ⟨P.R, 1, none⟩ (.int .i64 (n : Int))).cell? ⟨P.bl, j, none⟩ = w.cell? ⟨P.bl, j, none⟩ := fun j => World.cell?_of_block (a := ⟨P.bl, j, none⟩) hb
  rw [hc, hc, hc, hc]
  exact h.x.c i hi
/-- the reader where another block is written. -/
theorem Rd.other {w : World} {P : Pl} {L : List Tok} {a : Nat} {o : Ex} (h : Rd w P L a o) {n : Nat} (hR : P.R ≠ n) (hb : 0 < L.length → P.bl ≠ n) (i : Nat) (v : Value) : Rd (w.setCell ⟨n, i, none⟩ v) P L a o := by
  refine ⟨(Below.heap_setCell _ _ _ _ hR).trans h.r, h.t, ⟨fun h0 => by simpa [World.setCell] using h.x.lt h0, fun j hj => ?_⟩, h.ne, h.le, h.small, h.cap⟩
  have hc : ∀ q, (w.setCell ⟨n, i, none⟩ v).cell? ⟨P.bl, q, none⟩ = w.cell? ⟨P.bl, q, none⟩ := fun q => World.cell?_of_block (a := ⟨P.bl, q, none⟩) (Below.heap_setCell _ _ _ _ (hb (by omega)))
  rw [hc, hc, hc, hc]
  exact h.x.c j hj
/-- the reader where its block and that of its tokens are as they were. -/
theorem Rd.keep {w w' : World} {P : Pl} {L : List Tok} {a : Nat} {o : Ex} (h : Rd w P L a o) (hs : w.heap.size ≤ w'.heap.size) (h1 : w'.heap[P.R]? = w.heap[P.R]?) (h2 : 0 < L.length → w'.heap[P.bl]? = w.heap[P.bl]?) : Rd w' P L a o := by
  refine ⟨h1.trans h.r, h.t, ⟨fun h0 => Nat.lt_of_lt_of_le (h.x.lt h0) hs, fun j hj => ?_⟩, h.ne, h.le, h.small, h.cap⟩
  have hc : ∀ q, w'.cell? ⟨P.bl, q, none⟩ = w.cell? ⟨P.bl, q, none⟩ := fun q => World.cell?_of_block (a := ⟨P.bl, q, none⟩) (h2 (by omega))
  rw [hc, hc, hc, hc]
  exact h.x.c j hj
theorem fld0 (a b c d : Value) (W : World) : (Instr.field 215 (.agg #[a, b, c, d]) 0).run Tryz.prog W = .ok a W := by
  first
    | kernel_rfl
    | rfl
theorem fld1 (a b c d : Value) (W : World) : (Instr.field 215 (.agg #[a, b, c, d]) 1).run Tryz.prog W = .ok b W := by
  first
    | kernel_rfl
    | rfl
theorem clone_any (s : ByteArray) (w : World) (hs : s.size ≤ 281474976710656) : Calls Tryz.prog 17 #[.string s] w fun e w' => e = .returned (.string s) ∧ Below w.heap.size w w' := by
  go_enter Tryz.func17, Tryz.ntmps17
  go_wp2_with (go_at_call 27; refine (Tryz.stringslite_Clone s _ hs).mono ?_; rintro e w' ⟨rfl, hb⟩)
  go_ret
  exact ⟨rfl, hb⟩
/-- what a rule answers: something and the place behind it, or a place and an error. -/
inductive Rs (α : Type) where
  | ok (v : α) (a : Nat)
  | bad (p : Nat) (e : Int)
def Rs.bind {α β : Type} (r : Rs α) (f : α → Nat → Rs β) : Rs β := match r with
  | .ok v a => f v a
  | .bad p e => .bad p e
theorem Rs.bind_ok {α β : Type} (v : α) (a : Nat) (f : α → Nat → Rs β) : (Rs.ok v a).bind f = f v a := rfl
theorem Rs.bind_bad {α β : Type} (p : Nat) (e : Int) (f : α → Nat → Rs β) : (Rs.bad p e : Rs α).bind f = .bad p e := rfl
def wantR (L : List Tok) (s : ByteArray) (a : Nat) : Rs Unit := if isS L a s = true then .ok () (a + 1) else .bad a 60
def idR (L : List Tok) (a : Nat) : Rs ByteArray := if isN L a = true then .ok (tokA L a).t (a + 1) else .bad a 60
def propR' (L : List Tok) (a : Nat) : Rs ByteArray := if isN L a = true ∨ (tokA L a).k = 2 then .ok (tokA L a).t (a + 1) else .bad a 60
theorem wantR_yes {L : List Tok} {s : ByteArray} {a : Nat} (h : isS L a s = true) : wantR L s a = .ok () (a + 1) := by unfold wantR; rw [if_pos h]
theorem wantR_no {L : List Tok} {s : ByteArray} {a : Nat} (h : isS L a s = false) : wantR L s a = .bad a 60 := by unfold wantR; rw [if_neg (by rw [h]; decide)]
/-- all texts of tokens are small. -/
def Small (L : List Tok) : Prop := ∀ x ∈ L, x.t.size ≤ 4194304
theorem Small.at {L : List Tok} (h : Small L) (a : Nat) : (tokA L a).t.size ≤ 4194304 := by
  unfold tokA
  cases hx : L[a]? with
  | none => show ByteArray.empty.size ≤ _; decide
  | some x => exact h x (List.mem_of_getElem? hx)
theorem res_n4 {fn : Func} {p : Nat} (h : fn.results = #[.cell p 51]) {W : World} {n : Nat} {a b c d : Value} {t : TypeId} {tmps : Array Value} (hb : W.heap[n]? = some (.cells #[a, b, c, d] t (0, 0))) (ht : tmps[p]?.getD undef = .pointer (some ⟨n, 0, none⟩)) :
    (results fn tmps).run Tryz.prog W = .ok (.agg #[a, b, c, d]) W := by
  obtain ⟨⟨c0, c1, c2, c3⟩, _⟩ := t4 hb
  simp [results, h, go_sem, ht, c0, c1, c2, c3]
end Go.Proofs.YtpnljjcdlkjfhaaGreatDoor
