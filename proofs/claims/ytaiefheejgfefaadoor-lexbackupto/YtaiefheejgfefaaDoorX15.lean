/- Own text. A list of tokens as it is read. -/
import Derived.Test.YtaiefheejgfefaaDoorX12
import Derived.Test.YtaiefheejgfefaaDoorYA
import Derived.Test.YtaiefheejgfefaaDoorRows
import Derived.ProofKit
import Derived.OpenShut
import Derived.JoinedCond
import Derived.SizedLaws
import Derived.Carry
import Derived.Deep.Slices
namespace Go.Proofs.YtaiefheejgfefaaDoor
open Go.ChangeShapes Go.WideShapes Go.ChangeAt Go.RowKit
set_option linter.unusedVariables false
set_option linter.unusedSimpArgs false

theorem addr_plain {w : World} {a : Addr} {v : Value} (h : w.cell? a = some v) : a = ⟨a.block, a.off, none⟩ := by
  unfold World.cell? at h
  split at h
  · split at h
    · cases h
    · rename_i hs
      obtain ⟨b, o, s⟩ := a
      cases s with
      | none => rfl
      | some _ => simp at hs
  · cases h
theorem bulk_pos {H : Type} (d : DataW H) : 1 ≤ Rows.uptoBulk d := by
  cases d with
  | lit l => cases l <;> simp [Rows.uptoBulk]
  | nil => simp [Rows.uptoBulk]
  | held x => simp [Rows.uptoBulk]
  | ptr x => simp [Rows.uptoBulk]
  | slice x y => simp [Rows.uptoBulk]
  | agg x => simp [Rows.uptoBulk]
  | iface x y => simp [Rows.uptoBulk]
  | map x => simp [Rows.uptoBulk]
theorem bulk_len {H : Type} : ∀ l : List (DataW H), l.length ≤ Rows.uptoBulkAll l
  | [] => Nat.zero_le _
  | d :: r => by
    have h1 := bulk_pos d
    have h2 := bulk_len r
    simp only [Rows.uptoBulkAll, List.length_cons]
    omega
theorem bulk_mem {H : Type} : ∀ {l : List (DataW H)} {d : DataW H}, d ∈ l → Rows.uptoBulk d ≤ Rows.uptoBulkAll l
  | x :: r, d, h => by
    simp only [Rows.uptoBulkAll]
    rcases List.mem_cons.1 h with rfl | h
    · omega
    · have := bulk_mem h; omega
theorem bulk_slice {H : Type} (l r : List (DataW H)) : Rows.uptoBulk (.slice l r) = Rows.uptoBulkAll l + Rows.uptoBulkAll r + 1 := by simp [Rows.uptoBulk]
theorem bulk_agg {H : Type} (l : List (DataW H)) : Rows.uptoBulk (.agg l) = Rows.uptoBulkAll l + 1 := by simp [Rows.uptoBulk]
theorem bulk_text {H : Type} (l : List UInt8) : Rows.uptoBulk (.lit (.string l) : DataW H) = l.length + 1 := by simp [Rows.uptoBulk]

theorem under_tok : Tryd.prog.underlying 36 = some (.struct #[{ name := "Kind", type := 3, offset := 0, embedded := false, tag := "", pkgPath := "", byteOffset := 0 }, { name := "Text", type := 9, offset := 1, embedded := false, tag := "", pkgPath := "", byteOffset := 8 }, { name := "N", type := 3, offset := 2, embedded := false, tag := "", pkgPath := "", byteOffset := 24 }, { name := "At", type := 3, offset := 3, embedded := false, tag := "", pkgPath := "", byteOffset := 32 }]) := by kernel_rfl
theorem cells_tok : Tryd.prog.cellsOf 36 = 4 := by kernel_rfl
theorem cells_int4 : Tryd.prog.cellsOf 3 = 1 := by kernel_rfl
theorem cells_str4 : Tryd.prog.cellsOf 9 = 1 := by kernel_rfl

set_option maxRecDepth 100000 in
theorem tok_each {H : Type} {enc : TypeId × Value → H} {W : World} {n : Nat} {cs : List Value} {d : DataW H} {ps : List MemPlace} (h : DataW.trod enc Tryd.prog W 0 (fun _ => true) true n 36 cs = some (d, ps)) :
    ∃ q : Tk × Int, cs = tokCells q ∧ ∀ B, Rows.uptoBulk d ≤ B → q.1.2.1.length ≤ B ∧ -9223372036854775808 ≤ q.1.2.2 ∧ q.1.2.2 ≤ 9223372036854775807 := by
  obtain ⟨xs, m, _, hxy, hcl, hxl, hf⟩ := DataW.trod_struct under_tok h
  rw [cells_tok] at hcl
  match cs, hcl with
  | [u0, u1, u2, u3], _ =>
    match xs, hxl with
    | [y0, y1, y2, y3], _ =>
      have g0 : DataW.trod enc Tryd.prog W 0 (fun _ => true) true m 3 [u0] = some y0 := by simpa [cells_int4] using hf 0 _ rfl
      have g1 : DataW.trod enc Tryd.prog W 0 (fun _ => true) true m 9 [u1] = some y1 := by simpa [cells_str4] using hf 1 _ rfl
      have g2 : DataW.trod enc Tryd.prog W 0 (fun _ => true) true m 3 [u2] = some y2 := by simpa [cells_int4] using hf 2 _ rfl
      have g3 : DataW.trod enc Tryd.prog W 0 (fun _ => true) true m 3 [u3] = some y3 := by simpa [cells_int4] using hf 3 _ rfl
      obtain ⟨z0, e0, _, _⟩ := DataW.trod_int Tryd.underlying3 g0
      obtain ⟨s1, e1, x1, _⟩ := DataW.trod_string Tryd.underlying9 g1
      obtain ⟨z2, e2, _, w2⟩ := DataW.trod_int Tryd.underlying3 g2
      obtain ⟨z3, e3, _, _⟩ := DataW.trod_int Tryd.underlying3 g3
      simp only [List.cons.injEq, and_true] at e0 e1 e2 e3
      subst e0 e1 e2 e3
      have hb := bounds_i64 w2
      have hd : d = .agg [y0.1, y1.1, y2.1, y3.1] := by simpa using congrArg Prod.fst hxy
      refine ⟨((z0, s1.data.toList, z2), z3), by simp [tokCells], fun B hB => ?_⟩
      rw [hd, bulk_agg, x1] at hB
      simp only [Rows.uptoBulkAll, bulk_text] at hB
      exact ⟨by simp only; omega, hb.1, hb.2⟩

theorem bulk_sum {H : Type} (D : Nat → DataW H) (q : Nat → Tk × Int) : ∀ l : List Nat, (∀ i ∈ l, (q i).1.2.1.length ≤ Rows.uptoBulk (D i)) → sumT (kindsI (l.map q)) ≤ Rows.uptoBulkAll (l.map D)
  | [], _ => by simp [kindsI, sumT]
  | i :: l, h => by
    have h1 := h i (by simp)
    have h2 := bulk_sum D q l (fun j hj => h j (by simp [hj]))
    simp only [kindsI, List.map_cons, sumT, Rows.uptoBulkAll] at h2 ⊢
    omega
/-- where a list of tokens lies that is laid behind another one. -/
def TSrc (w : World) (v : Value) (S : List (Tk × Int)) : Prop := (∃ a c, v = .slice (some a) S.length c ∧ ∀ j u, (rowT S)[j]? = some u → w.cell? (a.add j) = some u) ∨ (S = [] ∧ ∃ c, v = .slice none 0 c)
theorem rowT_get : ∀ (S : List (Tk × Int)) (j : Nat) (u : Value), (rowT S)[j]? = some u → ∃ (h : j / 4 < S.length), (tokCells S[j / 4])[j % 4]? = some u
  | [], j, u, h => by simp [rowT] at h
  | x :: S, j, u, h => by
    unfold rowT at h
    rw [List.flatMap_cons] at h
    by_cases hj : j < 4
    · rw [List.getElem?_append_left (by simpa [tokCells] using hj)] at h
      have e1 : j / 4 = 0 := by omega
      have e2 : j % 4 = j := by omega
      refine ⟨by rw [e1]; simp, ?_⟩
      simp only [e1, e2, List.getElem_cons_zero]
      exact h
    · rw [List.getElem?_append_right (by simp [tokCells]; omega)] at h
      obtain ⟨h1, h2⟩ := rowT_get S (j - 4) u (by simpa [tokCells, rowT] using h)
      have e1 : j / 4 = (j - 4) / 4 + 1 := by omega
      have e2 : j % 4 = (j - 4) % 4 := by omega
      refine ⟨by rw [e1]; simpa using h1, ?_⟩
      simp only [e1, e2, List.getElem_cons_succ]
      exact h2
theorem rowT_ones (S : List (Tk × Int)) : ∀ u ∈ rowT S, u.oneCell' = true := by
  intro u hu
  obtain ⟨x, _, hx⟩ := List.mem_flatMap.1 hu
  simp only [tokCells, List.mem_cons, List.not_mem_nil, or_false] at hx
  rcases hx with rfl | rfl | rfl | rfl <;> rfl

set_option maxRecDepth 100000 in
theorem open_tokens {H : Type} {enc : TypeId × Value → H} {W : World} {base : Nat} {v : Value} {d : DataW H} {ps : List MemPlace} (hv : Value.okWide Tryd.prog W .any base 22 v) (h : DataW.Trod enc Tryd.prog W 0 (fun _ => true) true 22 v d ps) :
    ∃ S, TAt W v S ∧ (TSrc W v S ∧ ∀ B, Rows.uptoBulk d ≤ B → S.length ≤ B ∧ sumT (kindsI S) ≤ B ∧ ∀ x ∈ S, x.1.2.1.length ≤ B ∧ -9223372036854775808 ≤ x.1.2.2 ∧ x.1.2.2 ≤ 9223372036854775807) := by
  obtain ⟨a0, len0, cap0, rfl⟩ := okWide_slice Tryd.underlying22 hv
  obtain ⟨fuel, h⟩ := h
  rcases Deep.open_slice Tryd.underlying22 h with ⟨h0, hx⟩ | ⟨a, len, cap, m, n, D, Pl, h0, _, hl, hm, hmm, hx, hc⟩
  · simp only [Value.cells, List.cons.injEq, and_true] at h0
    cases h0
    exact ⟨[], ⟨none, 0, rfl, fun k hk => by simp at hk⟩, .inr ⟨rfl, _, rfl⟩, fun B _ => ⟨by simp, by simp [kindsI, sumT], by simp⟩⟩
  · simp only [Value.cells, List.cons.injEq, and_true] at h0
    cases h0
    have hm2 : m = cap0 := by rw [hmm]; simp
    subst hm2
    have each : ∀ i, i < m → ∃ q : Tk × Int, (∀ j (hj : j < 4), W.cell? ((a.add (i * 4)).add j) = (tokCells q)[j]?) ∧ ∀ B, Rows.uptoBulk (D i) ≤ B → q.1.2.1.length ≤ B ∧ -9223372036854775808 ≤ q.1.2.2 ∧ q.1.2.2 ≤ 9223372036854775807 := fun i hi => by
      obtain ⟨cs', h1, h2⟩ := hc i hi
      rw [cells_tok] at h1
      obtain ⟨_, hlen, hcell⟩ := World.cells?_some h1
      obtain ⟨q, e, zq⟩ := tok_each h2
      subst e
      exact ⟨q, hcell, zq⟩
    obtain ⟨q, hq⟩ := @Deep.choose_lt (Tk × Int) ⟨((0, [], 0), 0)⟩ m _ each
    obtain ⟨S, hS⟩ : ∃ S : List (Tk × Int), S = (List.range len0).map q := ⟨_, rfl⟩
    have hSl : S.length = len0 := by rw [hS]; simp
    have hSi : ∀ i (hi : i < S.length), S[i] = q i := fun i hi => by subst hS; simp
    have hmem : ∀ x ∈ S, ∃ i, i < len0 ∧ x = q i := fun x hx => by
      rw [hS] at hx
      obtain ⟨i, hi, rfl⟩ := List.mem_map.1 hx
      exact ⟨i, List.mem_range.1 hi, rfl⟩
    have hd : d = .slice ((List.range len0).map D) ((List.range (m - len0)).map fun j => D (len0 + j)) := congrArg Prod.fst hx
    refine ⟨S, ⟨some a, m, by rw [hSl], fun k hk => ?_⟩, .inl ⟨a, m, by rw [hSl], fun j u hu => ?_⟩, fun B hB => ?_⟩
    · have hk' : k < len0 := by omega
      obtain ⟨c0, _⟩ := hq 0 (by omega)
      have c00 := c0 0 (by omega)
      simp only [Nat.zero_mul, tokCells, List.getElem?_cons_zero, Deep.add_add] at c00
      have ha0 : a.add 0 = a := by simp [Addr.add]
      rw [ha0] at c00
      have ha : a = ⟨a.block, a.off, none⟩ := addr_plain c00
      have hlt : a.block < W.heap.size := World.block_lt_of_cell? W a c00
      obtain ⟨ck, _⟩ := hq k (by omega)
      refine ⟨a.block, a.off, fun W => ?_, hlt, ?_⟩
      · rw [hSl, ha]; exact idx_tok W _ _ _ _ k hk'
      · rw [hSi k hk]
        rw [ha] at ck
        simp only [Deep.add_add, add_plain] at ck
        have e0 := ck 0 (by omega)
        have e1 := ck 1 (by omega)
        have e2 := ck 2 (by omega)
        have e3 := ck 3 (by omega)
        simp only [tokCells, Nat.add_zero, List.getElem?_cons_zero, List.getElem?_cons_succ, ← Nat.add_assoc] at e0 e1 e2 e3
        exact ⟨e0, e1, e2, e3⟩
    · obtain ⟨h1, h2⟩ := rowT_get S j u hu
      rw [hSi _ h1] at h2
      have := (hq (j / 4) (by omega)).1 (j % 4) (by omega)
      rw [h2, Deep.add_add] at this
      rw [show j / 4 * 4 + j % 4 = j from by omega] at this
      exact this
    · rw [hd, bulk_slice] at hB
      have hl1 := bulk_len ((List.range len0).map D)
      simp only [List.length_map, List.length_range] at hl1
      refine ⟨by omega, ?_, fun x hx => ?_⟩
      · have := bulk_sum D q (List.range len0) (fun i hi => ((hq i (by have := List.mem_range.1 hi; omega)).2 _ (Nat.le_refl _)).1)
        rw [hS]
        omega
      obtain ⟨i, hi, rfl⟩ := hmem x hx
      have hb := bulk_mem (List.mem_map.2 ⟨i, List.mem_range.2 hi, rfl⟩ : D i ∈ (List.range len0).map D)
      exact (hq i (by omega)).2 B (by omega)

end Go.Proofs.YtaiefheejgfefaaDoor
