/- Own text. Values, lists of values, of names, of acts, of deeds as they are read. -/
import Derived.Test.YtlijplbaefaeaaaDoorVd4
import Derived.Test.YtlijplbaefaeaaaDoorRows
import Derived.ProofKit
import Derived.OpenShut
import Derived.JoinedCond
import Derived.SizedLaws
import Derived.Carry
import Derived.Lib.Strings
import Derived.Deep.Slices
namespace Go.Proofs.YtlijplbaefaeaaaDoor
open Go.ChangeShapes Go.WideShapes Go.ChangeAt Go.RowKit
set_option linter.unusedVariables false
set_option linter.unusedSimpArgs false

theorem bulk_slice {H : Type} (l r : List (DataW H)) : Rows.uptoBulk (.slice l r) = Rows.uptoBulkAll l + Rows.uptoBulkAll r + 1 := by simp [Rows.uptoBulk]
theorem bulk_text {H : Type} (l : List UInt8) : Rows.uptoBulk (.lit (.string l) : DataW H) = l.length + 1 := by simp [Rows.uptoBulk]
theorem bulk_mem {H : Type} : ∀ {l : List (DataW H)} {d : DataW H}, d ∈ l → Rows.uptoBulk d ≤ Rows.uptoBulkAll l
  | x :: r, d, h => by
    simp only [Rows.uptoBulkAll]
    rcases List.mem_cons.1 h with rfl | h
    · omega
    · have := bulk_mem h; omega
theorem bulk_pos {H : Type} : ∀ d : DataW H, 1 ≤ Rows.uptoBulk d
  | .lit l => by cases l <;> simp [Rows.uptoBulk]
  | .nil => by simp [Rows.uptoBulk]
  | .ptr d => by simp [Rows.uptoBulk]
  | .slice a b => by simp [Rows.uptoBulk]
  | .agg a => by simp [Rows.uptoBulk]
  | .iface a b => by simp [Rows.uptoBulk]
  | .map a => by simp [Rows.uptoBulk]
  | .held a => by simp [Rows.uptoBulk]
theorem bulk_len {H : Type} : ∀ l : List (DataW H), l.length ≤ Rows.uptoBulkAll l
  | [] => by simp
  | x :: r => by
    have h1 := bulk_pos x
    have h2 := bulk_len r
    simp only [Rows.uptoBulkAll, List.length_cons]
    omega
theorem addr_none {w : World} {a : Addr} {v : Value} (h : w.cell? a = some v) : a = ⟨a.block, a.off, none⟩ := by
  unfold World.cell? at h
  split at h
  · split at h
    · cases h
    · rename_i hs
      obtain ⟨b, o, s⟩ := a
      cases s with
      | none => rfl
      | some _ => simp at hs
  · cases h
/-- a list of things of k cells each, as it is read. -/
theorem rows_gen {H α : Type} [Inhabited α] {enc : TypeId × Value → H} {W : World} {t e : TypeId} {n k : Nat} {u : Value} {x : DataW H × List MemPlace} (ht : Tryd.prog.underlying t = some (.slice e)) (hk : Tryd.prog.cellsOf e = k) (k0 : 0 < k) (cells : α → List Value) (hcl : ∀ y, (cells y).length = k) (R : α → DataW H → Prop)
    (el : ∀ (n : Nat) (cs : List Value) (d : DataW H) (ps : List MemPlace), DataW.trod enc Tryd.prog W 0 (fun _ => true) true n e cs = some (d, ps) → ∃ y, cs = cells y ∧ R y d)
    (h : DataW.trod enc Tryd.prog W 0 (fun _ => true) true n t [u] = some x) :
    ∃ (l : List α) (a : Option Addr) (c : Nat) (D : Nat → DataW H), u = .slice a l.length c ∧ (0 < l.length → ∃ b o, a = some ⟨b, o, none⟩ ∧ b < W.heap.size ∧ ∀ i (hi : i < l.length) j, j < k → W.cell? ⟨b, o + i * k + j, none⟩ = (cells l[i])[j]?) ∧ (∀ i (hi : i < l.length), R l[i] (D i)) ∧ Rows.uptoBulkAll ((List.range l.length).map D) + 1 ≤ Rows.uptoBulk x.1 := by
  subst hk
  rcases Deep.open_slice ht h with ⟨h0, hx⟩ | ⟨a, len, cap, m, n', D, Pl, h0, _, hl, hm, hmm, hx, hc⟩
  · simp only [List.cons.injEq, and_true] at h0
    subst h0
    exact ⟨[], none, 0, fun _ => .nil, rfl, fun h => by simp at h, fun i h => by simp at h, by have := bulk_pos x.1; simpa [Rows.uptoBulkAll] using this⟩
  · simp only [List.cons.injEq, and_true] at h0
    subst h0
    have hmc : m = cap := by rw [hmm]; simp
    have each : ∀ i, i < len → ∃ y, (∀ j, j < Tryd.prog.cellsOf e → W.cell? ((a.add (i * Tryd.prog.cellsOf e)).add j) = (cells y)[j]?) ∧ R y (D i) := fun i hi => by
      obtain ⟨cs', h1, h2⟩ := hc i (by omega)
      obtain ⟨_, _, hcell⟩ := World.cells?_some h1
      obtain ⟨y, rfl, hR⟩ := el _ _ _ _ h2
      exact ⟨y, hcell, hR⟩
    obtain ⟨q, hq⟩ := @Deep.choose_lt α ⟨default⟩ len _ each
    have hll : ((List.range len).map q).length = len := by simp
    refine ⟨(List.range len).map q, some a, cap, D, by rw [hll], fun h0 => ?_, fun i hi => ?_, ?_⟩
    · rw [hll] at h0
      have c0 := (hq 0 h0).1 0 k0
      have ha0 : (a.add (0 * Tryd.prog.cellsOf e)).add 0 = a := by simp [Addr.add]
      rw [ha0] at c0
      have hs : ∃ v, (cells (q 0))[0]? = some v := ⟨(cells (q 0))[0]'(by rw [hcl]; exact k0), by simp [hcl, k0]⟩
      obtain ⟨v, hv⟩ := hs
      rw [hv] at c0
      have ha := addr_none c0
      refine ⟨a.block, a.off, by rw [← ha], World.block_lt_of_cell? W a c0, fun i hi j hj => ?_⟩
      rw [hll] at hi
      have := (hq i hi).1 j hj
      rw [ha, add_plain, add_plain] at this
      simpa using this
    · rw [hll] at hi
      simpa using (hq i hi).2
    · rw [hll, hx, bulk_slice]
      omega
theorem cells_i : Tryd.prog.cellsOf 3 = 1 := by kernel_rfl
theorem cells_s : Tryd.prog.cellsOf 9 = 1 := by kernel_rfl
theorem cells_v : Tryd.prog.cellsOf 23 = 3 := by kernel_rfl
theorem under_v : Tryd.prog.underlying 23 = some (.struct #[{ name := "Kind", type := 3, offset := 0, embedded := false, tag := "", pkgPath := "", byteOffset := 0 }, { name := "N", type := 3, offset := 1, embedded := false, tag := "", pkgPath := "", byteOffset := 8 }, { name := "Text", type := 9, offset := 2, embedded := false, tag := "", pkgPath := "", byteOffset := 16 }]) := by kernel_rfl
/-- what is told of a value that is read. -/
def RV {H : Type} (y : Vl) (d : DataW H) : Prop := (-9223372036854775808 ≤ y.n ∧ y.n ≤ 9223372036854775807) ∧ y.tx.size + 3 ≤ Rows.uptoBulk d
theorem RV.ok {H : Type} {y : Vl} {d : DataW H} (h : RV y d) (hb : Rows.uptoBulk d ≤ 1099511627776) : okV y ∧ y.tx.size ≤ 1099511627776 := ⟨⟨h.1, by have := h.2; omega⟩, by have := h.2; omega⟩
set_option maxRecDepth 100000 in
theorem vl_open {H : Type} {enc : TypeId × Value → H} {W : World} (n : Nat) (cs : List Value) (d : DataW H) (ps : List MemPlace) (h : DataW.trod enc Tryd.prog W 0 (fun _ => true) true n 23 cs = some (d, ps)) : ∃ y : Vl, cs = y.cs ∧ RV y d := by
  obtain ⟨xs, m, _, hxy, hcl, hxl, hf⟩ := DataW.trod_struct under_v h
  rw [cells_v] at hcl
  match cs, hcl with
  | [u0, u1, u2], _ =>
    match xs, hxl with
    | [y0, y1, y2], _ =>
      have g0 : DataW.trod enc Tryd.prog W 0 (fun _ => true) true m 3 [u0] = some y0 := by simpa [cells_i] using hf 0 _ rfl
      have g1 : DataW.trod enc Tryd.prog W 0 (fun _ => true) true m 3 [u1] = some y1 := by simpa [cells_i] using hf 1 _ rfl
      have g2 : DataW.trod enc Tryd.prog W 0 (fun _ => true) true m 9 [u2] = some y2 := by simpa [cells_s] using hf 2 _ rfl
      obtain ⟨z0, e0, _, _⟩ := DataW.trod_int Tryd.underlying3 g0
      obtain ⟨z1, e1, _, w1⟩ := DataW.trod_int Tryd.underlying3 g1
      obtain ⟨s, e2, f2, _⟩ := DataW.trod_string Tryd.underlying9 g2
      simp only [List.cons.injEq, and_true] at e0 e1 e2
      subst e0 e1 e2
      have hd : d = .agg [y0.1, y1.1, y2.1] := by simpa using congrArg Prod.fst hxy
      have f3 : y2.1 = .lit (.string s.data.toList) := by simpa using congrArg Prod.fst f2
      refine ⟨⟨z0, z1, s⟩, rfl, bounds_i64 w1, ?_⟩
      have p0 := bulk_pos y0.1
      have p1 := bulk_pos y1.1
      rw [hd]
      simp only [Rows.uptoBulk, Rows.uptoBulkAll, f3, bulk_text]
      rw [Lib.size_eq]
      omega
end Go.Proofs.YtlijplbaefaeaaaDoor
