/- Own text. Edges as they are read; from the arguments to lists in memory, and back. -/
import Derived.Test.YtbliaamckldncaaOd5
import Derived.Test.YtbliaamckldncaaRows
import Derived.ProofKit
import Derived.OpenShut
import Derived.JoinedCond
import Derived.SizedLaws
import Derived.Carry
import Derived.Deep.Slices
import Derived.Deep.SlicePairs
namespace Go.Proofs.Ytbliaamckldncaa
open Go.ChangeShapes Go.WideShapes Go.ChangeAt Go.RowKit
set_option linter.unusedVariables false
set_option linter.unusedSimpArgs false

theorem own : ownKnob Try.prog.godebug = none := by kernel_rfl
theorem laidOut : laidOutB Try.prog = true := by kernel_rfl

theorem below_trodAll {H : Type} {enc : TypeId × Value → H} {P : Program} (hl : laidOutB P = true) {W W' : World} (hb : Below W.heap.size W W') : ∀ (ts : List TypeId) {vs : List Value} {ds : List (DataW H)} {ps : List MemPlace},
    ts.all (fun t => P.readableRec t && decide (t < P.types.size)) = true → DataW.TrodAll enc P W 0 (fun _ => true) true ts vs ds ps → (∀ x ∈ ps, x.block < W.heap.size) →
    DataW.TrodAll enc P W' 0 (fun b => decide (b < W.heap.size)) true ts vs ds ps := by
  intro ts
  induction ts with
  | nil =>
    intro vs ds ps _ h _
    cases vs <;> cases ds <;> first | exact h | exact h.elim
  | cons t ts ih =>
    intro vs ds ps hr h hlt
    obtain ⟨v, vs', d, ds', p, q, rfl, rfl, rfl, h1, h2⟩ := trodAll_cons h
    simp only [List.all_cons, Bool.and_eq_true, decide_eq_true_eq] at hr
    exact ⟨p, q, Below.trod hl hr.1.1 hr.1.2 h1 hb (fun x hx => hlt x (by simp [hx])), ih (by simpa using hr.2) h2 (fun x hx => hlt x (by simp [hx])), rfl⟩
theorem bulk_slice {H : Type} (l r : List (DataW H)) : Rows.uptoBulk (.slice l r) = Rows.uptoBulkAll l + Rows.uptoBulkAll r + 1 := by simp [Rows.uptoBulk]
theorem bulk_mem {H : Type} : ∀ {l : List (DataW H)} {d : DataW H}, d ∈ l → Rows.uptoBulk d ≤ Rows.uptoBulkAll l
  | x :: r, d, h => by
    simp only [Rows.uptoBulkAll]
    rcases List.mem_cons.1 h with rfl | h
    · omega
    · have := bulk_mem h; omega
theorem bulk_pos {H : Type} : ∀ d : DataW H, 1 ≤ Rows.uptoBulk d
  | .lit l => by cases l <;> simp [Rows.uptoBulk]
  | .nil => by simp [Rows.uptoBulk]
  | .ptr d => by simp [Rows.uptoBulk]
  | .slice a b => by simp [Rows.uptoBulk]
  | .agg a => by simp [Rows.uptoBulk]
  | .iface a b => by simp [Rows.uptoBulk]
  | .map a => by simp [Rows.uptoBulk]
  | .held a => by simp [Rows.uptoBulk]
theorem bulk_len {H : Type} : ∀ (l : List (DataW H)), l.length ≤ Rows.uptoBulkAll l
  | [] => by simp
  | d :: r => by have := bulk_len r; have := bulk_pos d; simp only [List.length_cons, Rows.uptoBulkAll]; omega
theorem cells_i : Try.prog.cellsOf 3 = 1 := by kernel_rfl
theorem cells_is : Try.prog.cellsOf 31 = 1 := by kernel_rfl
theorem addr_none {w : World} {a : Addr} {v : Value} (h : w.cell? a = some v) : a = ⟨a.block, a.off, none⟩ := by
  unfold World.cell? at h
  split at h
  · split at h
    · cases h
    · rename_i hs
      obtain ⟨b, o, s⟩ := a
      cases s with
      | none => rfl
      | some _ => simp at hs
  · cases h
theorem add_plain (b o n : Nat) : (⟨b, o, none⟩ : Addr).add n = ⟨b, o + n, none⟩ := by
  unfold Addr.add
  split
  · rename_i h; simp_all
  · rfl
/-- a slice of one-cell values that are read. -/
theorem vat_open {W : World} {a : Addr} {len cap : Nat} {V : Nat → Value} {X : List Value} (hX : X = (List.range len).map V) (hc : ∀ i, i < len → W.cell? (a.add i) = some (V i)) : VAt W W.heap.size (.slice (some a) len cap) X := by
  have hl : X.length = len := by rw [hX]; simp
  refine ⟨⟨some a, cap, by rw [hl]⟩, fun h0 => ?_⟩
  have c0 := hc 0 (by omega)
  have ha0 : a.add 0 = a := by simp [Addr.add]
  rw [ha0] at c0
  have ha := addr_none c0
  refine ⟨a.block, a.off, cap, by rw [hl, ← ha], World.block_lt_of_cell? W a c0, fun i hi => ?_⟩
  have ci := hc i (by omega)
  rw [ha, add_plain] at ci
  rw [ci]
  subst hX
  simp
set_option maxRecDepth 100000 in
theorem ints_open {H : Type} {enc : TypeId × Value → H} {W : World} {n : Nat} {cs : List Value} {d : DataW H} {ps : List MemPlace} (h : DataW.trod enc Try.prog W 0 (fun _ => true) true n 31 cs = some (d, ps)) :
    ∃ (v : Value) (l : List Int), cs = [v] ∧ IAt W W.heap.size v l ∧ l.length ≤ Rows.uptoBulk d ∧ ∀ x ∈ l, -9223372036854775808 ≤ x ∧ x ≤ 9223372036854775807 := by
  rcases Deep.open_slice1 Try.underlying31 cells_i h with ⟨rfl, hx⟩ | ⟨a, len, cap, m, k, V, D, Pl, rfl, _, hl, hm, hmm, hx, hc⟩
  · exact ⟨_, [], rfl, ⟨⟨none, 0, rfl⟩, fun h0 => absurd h0 (by simp [ints])⟩, by simp, by simp⟩
  · have hlm : len ≤ m := by rw [hmm]; simp; omega
    have each : ∀ i, i < m → ∃ z : Int, V i = .int .i64 z ∧ -9223372036854775808 ≤ z ∧ z ≤ 9223372036854775807 := fun i hi => by
      obtain ⟨z, e, _, w2⟩ := DataW.trod_int Try.underlying3 (hc i hi).2
      simp only [List.cons.injEq, and_true] at e
      have hb := bounds_i64 w2
      exact ⟨z, e, hb.1, hb.2⟩
    obtain ⟨q, hq⟩ := @Deep.choose_lt Int ⟨0⟩ m _ each
    have hd : d = .slice ((List.range len).map D) ((List.range (m - len)).map fun j => D (len + j)) := congrArg Prod.fst hx
    refine ⟨_, (List.range len).map q, rfl, vat_open (V := V) (by unfold ints; rw [List.map_map]; exact List.map_congr_left fun i hi => by have := List.mem_range.1 hi; exact ((hq i (by omega)).1).symm) (fun i hi => (hc i (by omega)).1), ?_, fun x hx => ?_⟩
    · rw [hd, bulk_slice]
      have := bulk_len ((List.range len).map D)
      simp only [List.length_map, List.length_range] at this ⊢
      omega
    · obtain ⟨i, hi, rfl⟩ := List.mem_map.1 hx
      exact (hq i (by have := List.mem_range.1 hi; omega)).2
set_option maxRecDepth 100000 in
theorem edges_open {H : Type} {enc : TypeId × Value → H} {W : World} {n : Nat} {cs : List Value} {d : DataW H} {ps : List MemPlace} (h : DataW.trod enc Try.prog W 0 (fun _ => true) true n 22 cs = some (d, ps)) :
    ∃ (v : Value) (E : List (List Int)), cs = [v] ∧ EAt W W.heap.size v E ∧ E.length ≤ Rows.uptoBulk d ∧ ∀ l ∈ E, l.length ≤ Rows.uptoBulk d ∧ ∀ x ∈ l, -9223372036854775808 ≤ x ∧ x ≤ 9223372036854775807 := by
  rcases Deep.open_slice1 Try.underlying22 cells_is h with ⟨rfl, hx⟩ | ⟨a, len, cap, m, k, V, D, Pl, rfl, _, hl, hm, hmm, hx, hc⟩
  · exact ⟨_, [], rfl, ⟨[], rfl, ⟨⟨none, 0, rfl⟩, fun h0 => absurd h0 (by simp)⟩, fun i hi => absurd hi (by simp)⟩, by simp, by simp⟩
  · have hlm : len ≤ m := by rw [hmm]; simp; omega
    have each : ∀ i, i < m → ∃ l : List Int, IAt W W.heap.size (V i) l ∧ l.length ≤ Rows.uptoBulk (D i) ∧ ∀ x ∈ l, -9223372036854775808 ≤ x ∧ x ≤ 9223372036854775807 := fun i hi => by
      obtain ⟨v, l, e, h1, h2⟩ := ints_open (hc i hi).2
      simp only [List.cons.injEq, and_true] at e
      exact ⟨l, e ▸ h1, h2⟩
    obtain ⟨q, hq⟩ := @Deep.choose_lt (List Int) ⟨[]⟩ m _ each
    have hd : d = .slice ((List.range len).map D) ((List.range (m - len)).map fun j => D (len + j)) := congrArg Prod.fst hx
    refine ⟨_, (List.range len).map q, rfl, ⟨(List.range len).map V, by simp, vat_open (V := V) rfl (fun i hi => (hc i (by omega)).1), fun i hi hi' => ?_⟩, ?_, fun l hl' => ?_⟩
    · simp only [List.getElem_map, List.getElem_range]
      exact (hq i (by simp at hi; omega)).1
    · rw [hd, bulk_slice]
      have := bulk_len ((List.range len).map D)
      simp only [List.length_map, List.length_range] at this ⊢
      omega
    · obtain ⟨i, hi, rfl⟩ := List.mem_map.1 hl'
      have hi2 := List.mem_range.1 hi
      obtain ⟨_, h2, h3⟩ := hq i (by omega)
      refine ⟨?_, h3⟩
      rw [hd, bulk_slice]
      have := bulk_mem (List.mem_map.2 ⟨i, hi, rfl⟩ : D i ∈ (List.range len).map D)
      omega
/-- edges. -/
theorem open_edges {H : Type} {enc : TypeId × Value → H} {W : World} {base : Nat} {v : Value} {d : DataW H} {ps : List MemPlace} (hv : Value.okWide Try.prog W .any base 22 v) (h : DataW.Trod enc Try.prog W 0 (fun _ => true) true 22 v d ps) :
    ∃ E, EAt W W.heap.size v E ∧ ∀ B, Rows.uptoBulk d ≤ B → E.length ≤ B ∧ ∀ l ∈ E, l.length ≤ B ∧ ∀ x ∈ l, -9223372036854775808 ≤ x ∧ x ≤ 9223372036854775807 := by
  obtain ⟨a, len, cap, rfl⟩ := okWide_slice Try.underlying22 hv
  obtain ⟨fuel, h⟩ := h
  obtain ⟨v, E, e, h1, h2, h3⟩ := edges_open h
  simp only [Value.cells, List.cons.injEq, and_true] at e
  subst e
  exact ⟨E, h1, fun B hB => ⟨by omega, fun l hl => ⟨by have := (h3 l hl).1; omega, (h3 l hl).2⟩⟩⟩
end Go.Proofs.Ytbliaamckldncaa
