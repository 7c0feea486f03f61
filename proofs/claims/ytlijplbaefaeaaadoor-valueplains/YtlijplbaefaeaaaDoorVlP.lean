/- Own text. Values, lists of values, acts, deeds: the arguments of the statements of stages 23 and 24, opened. -/
import Derived.Test.YtlijplbaefaeaaaDoorVlO
namespace Go.Proofs.YtlijplbaefaeaaaDoor
open Go.ChangeShapes Go.WideShapes Go.ChangeAt Go.RowKit
set_option linter.unusedVariables false
set_option linter.unusedSimpArgs false

instance : Inhabited Vl := ⟨zV⟩
instance : Inhabited Dd := ⟨⟨0, zV, zV, ⟨#[]⟩, 0, none, [], 0, none, [], 0⟩⟩
section
variable {H : Type} {enc : TypeId × Value → H} {W : World}
theorem mem_bulk {l : List (DataW H)} {d D : DataW H} (h : d ∈ l) (e : D = .agg l) : Rows.uptoBulk d + 1 ≤ Rows.uptoBulk D := by
  have := bulk_mem h
  rw [e]
  simp only [Rows.uptoBulk]
  omega
theorem open_value {base : Nat} {v : Value} {d : DataW H} {ps : List MemPlace} (hv : Value.okWide Tryd.prog W .any base 23 v) (h : DataW.Trod enc Tryd.prog W 0 (fun _ => true) true 23 v d ps) : ∃ y : Vl, v = y.v ∧ RV y d := by
  obtain ⟨cs, rfl, hs⟩ := okWide_struct under_v hv
  obtain ⟨fuel, h⟩ := h
  obtain ⟨y, e, hR⟩ := vl_open _ _ _ _ h
  refine ⟨y, ?_, hR⟩
  have e2 : cs.toList = y.cs := by simpa [Value.cells] using e
  show Value.agg cs = _
  unfold Vl.v
  congr 1
  exact Array.toList_inj.1 e2
theorem vs_open {n : Nat} {u : Value} {x : DataW H × List MemPlace} (h : DataW.trod enc Tryd.prog W 0 (fun _ => true) true n 37 [u] = some x) : ∃ (l : List Vl) (a : Option Addr) (c : Nat), u = .slice a l.length c ∧ VsA W (fun b => b < W.heap.size) u l ∧ l.length + 1 ≤ Rows.uptoBulk x.1 ∧ ∀ y ∈ l, (-9223372036854775808 ≤ y.n ∧ y.n ≤ 9223372036854775807) ∧ y.tx.size ≤ Rows.uptoBulk x.1 := by
  obtain ⟨l, a, c, D, rfl, hc, hR, hb⟩ := rows_gen (k := 3) Tryd.underlying37 cells_v (by omega) Vl.cs (fun _ => rfl) (fun y d => RV y d) (fun n cs d ps h => vl_open n cs d ps h) h
  have hl := bulk_len ((List.range l.length).map D)
  rw [List.length_map, List.length_range] at hl
  refine ⟨l, a, c, rfl, ⟨a, c, rfl, fun h0 => ?_⟩, by omega, fun y hy => ?_⟩
  · obtain ⟨b, o, e, hlt, hcell⟩ := hc h0
    exact ⟨b, o, e, hlt, hlt, fun i hi => ⟨hcell i hi 0 (by omega), hcell i hi 1 (by omega), hcell i hi 2 (by omega)⟩⟩
  · obtain ⟨i, hi, rfl⟩ := List.mem_iff_getElem.1 hy
    have h1 := hR i hi
    have h2 := bulk_mem (List.mem_map.2 ⟨i, List.mem_range.2 hi, rfl⟩ : D i ∈ (List.range l.length).map D)
    exact ⟨h1.1, by have := h1.2; omega⟩
theorem ns_open {n : Nat} {u : Value} {x : DataW H × List MemPlace} (h : DataW.trod enc Tryd.prog W 0 (fun _ => true) true n 36 [u] = some x) : ∃ (l : List ByteArray) (a : Option Addr) (c : Nat), u = .slice a l.length c ∧ NsA W (fun b => b < W.heap.size) u l ∧ l.length + 1 ≤ Rows.uptoBulk x.1 ∧ ∀ s ∈ l, s.size ≤ Rows.uptoBulk x.1 := by
  obtain ⟨l, a, c, D, rfl, hc, hR, hb⟩ := rows_gen (α := ByteArray) (k := 1) Tryd.underlying36 cells_s (by omega) (fun s => [.string s]) (fun _ => rfl) (fun s d => s.size + 1 ≤ Rows.uptoBulk d) (fun n cs d ps h => by
    obtain ⟨s, e, f, _⟩ := DataW.trod_string Tryd.underlying9 h
    refine ⟨s, e, ?_⟩
    have f1 : d = .lit (.string s.data.toList) := by simpa using congrArg Prod.fst f
    rw [f1, bulk_text, Lib.size_eq]
    exact Nat.le_refl _) h
  have hl := bulk_len ((List.range l.length).map D)
  rw [List.length_map, List.length_range] at hl
  refine ⟨l, a, c, rfl, ⟨a, c, rfl, fun h0 => ?_⟩, by omega, fun y hy => ?_⟩
  · obtain ⟨b, o, e, hlt, hcell⟩ := hc h0
    exact ⟨b, o, e, hlt, hlt, fun i hi => by simpa using hcell i hi 0 (by omega)⟩
  · obtain ⟨i, hi, rfl⟩ := List.mem_iff_getElem.1 hy
    have h1 := hR i hi
    have h2 := bulk_mem (List.mem_map.2 ⟨i, List.mem_range.2 hi, rfl⟩ : D i ∈ (List.range l.length).map D)
    omega
theorem open_values {base : Nat} {v : Value} {d : DataW H} {ps : List MemPlace} (hv : Value.okWide Tryd.prog W .any base 37 v) (h : DataW.Trod enc Tryd.prog W 0 (fun _ => true) true 37 v d ps) : ∃ l : List Vl, VsA W (fun b => b < W.heap.size) v l ∧ l.length + 1 ≤ Rows.uptoBulk d ∧ ∀ y ∈ l, (-9223372036854775808 ≤ y.n ∧ y.n ≤ 9223372036854775807) ∧ y.tx.size ≤ Rows.uptoBulk d := by
  obtain ⟨a0, len0, cap0, rfl⟩ := okWide_slice Tryd.underlying37 hv
  obtain ⟨fuel, h⟩ := h
  obtain ⟨l, a, c, e, h1, h2, h3⟩ := vs_open h
  exact ⟨l, h1, h2, h3⟩
end
theorem under_deed : Tryd.prog.underlying 39 = some (.struct #[{ name := "Kind", type := 3, offset := 0, embedded := false, tag := "", pkgPath := "", byteOffset := 0 }, { name := "V", type := 23, offset := 1, embedded := false, tag := "", pkgPath := "", byteOffset := 8 }, { name := "X", type := 23, offset := 4, embedded := false, tag := "", pkgPath := "", byteOffset := 40 }, { name := "Name", type := 9, offset := 7, embedded := false, tag := "", pkgPath := "", byteOffset := 72 }, { name := "I", type := 3, offset := 8, embedded := false, tag := "", pkgPath := "", byteOffset := 88 }, { name := "Names", type := 36, offset := 9, embedded := false, tag := "", pkgPath := "", byteOffset := 96 }, { name := "List", type := 37, offset := 10, embedded := false, tag := "", pkgPath := "", byteOffset := 120 }]) := by kernel_rfl
theorem cells_deed : Tryd.prog.cellsOf 39 = 11 := by kernel_rfl
theorem cells_sl : Tryd.prog.cellsOf 36 = 1 := by kernel_rfl
theorem cells_vl : Tryd.prog.cellsOf 37 = 1 := by kernel_rfl
set_option maxRecDepth 100000 in
theorem deed_open {H : Type} {enc : TypeId × Value → H} {W : World} (n : Nat) (cs : List Value) (d : DataW H) (ps : List MemPlace) (h : DataW.trod enc Tryd.prog W 0 (fun _ => true) true n 39 cs = some (d, ps)) : ∃ y : Dd, cs = y.cs ∧ (Rows.uptoBulk d ≤ 1048576 → okDd W y) := by
  obtain ⟨xs, m, _, hxy, hcl, hxl, hf⟩ := DataW.trod_struct under_deed h
  rw [cells_deed] at hcl
  match cs, hcl with
  | [u0, u1, u2, u3, u4, u5, u6, u7, u8, u9, u10], _ =>
    match xs, hxl with
    | [y0, y1, y2, y3, y4, y5, y6], _ =>
      have g0 : DataW.trod enc Tryd.prog W 0 (fun _ => true) true m 3 [u0] = some y0 := by simpa [cells_i] using hf 0 _ rfl
      have g1 : DataW.trod enc Tryd.prog W 0 (fun _ => true) true m 23 [u1, u2, u3] = some y1 := by simpa [cells_v] using hf 1 _ rfl
      have g2 : DataW.trod enc Tryd.prog W 0 (fun _ => true) true m 23 [u4, u5, u6] = some y2 := by simpa [cells_v] using hf 2 _ rfl
      have g3 : DataW.trod enc Tryd.prog W 0 (fun _ => true) true m 9 [u7] = some y3 := by simpa [cells_s] using hf 3 _ rfl
      have g4 : DataW.trod enc Tryd.prog W 0 (fun _ => true) true m 3 [u8] = some y4 := by simpa [cells_i] using hf 4 _ rfl
      have g5 : DataW.trod enc Tryd.prog W 0 (fun _ => true) true m 36 [u9] = some y5 := by simpa [cells_sl] using hf 5 _ rfl
      have g6 : DataW.trod enc Tryd.prog W 0 (fun _ => true) true m 37 [u10] = some y6 := by simpa [cells_vl] using hf 6 _ rfl
      obtain ⟨z0, e0, _, _⟩ := DataW.trod_int Tryd.underlying3 g0
      obtain ⟨z4, e4, _, w4⟩ := DataW.trod_int Tryd.underlying3 g4
      obtain ⟨s, e3, f3, _⟩ := DataW.trod_string Tryd.underlying9 g3
      obtain ⟨v1, e1, r1⟩ := vl_open m _ y1.1 y1.2 g1
      obtain ⟨v2, e2, r2⟩ := vl_open m _ y2.1 y2.2 g2
      obtain ⟨ns, na, nc, rfl, hn1, hn2, hn3⟩ := ns_open g5
      obtain ⟨ls, la, lc, rfl, hl1, hl2, hl3⟩ := vs_open g6
      have w4' := bounds_i64 w4
      simp only [Vl.cs, List.cons.injEq, and_true] at e0 e1 e2 e3 e4
      obtain ⟨rfl, rfl, rfl⟩ := e1
      obtain ⟨rfl, rfl, rfl⟩ := e2
      subst e0 e3 e4
      have hd : d = .agg [y0.1, y1.1, y2.1, y3.1, y4.1, y5.1, y6.1] := by simpa using congrArg Prod.fst hxy
      have f3' : y3.1 = .lit (.string s.data.toList) := by simpa using congrArg Prod.fst f3
      refine ⟨⟨z0, v1, v2, s, z4, na, ns, nc, la, ls, lc⟩, rfl, fun hb => ?_⟩
      have b1 := mem_bulk (d := y1.1) (by simp) hd
      have b2 := mem_bulk (d := y2.1) (by simp) hd
      have b3 := mem_bulk (d := y3.1) (by simp) hd
      have b5 := mem_bulk (d := y5.1) (by simp) hd
      have b6 := mem_bulk (d := y6.1) (by simp) hd
      rw [f3', bulk_text] at b3
      exact ⟨(r1.ok (by omega)).1, (r2.ok (by omega)).1, by show s.size ≤ _; rw [Lib.size_eq]; omega, w4', by show ns.length ≤ _; omega, by show ls.length ≤ _; omega, fun q hq => by have := hn3 q hq; omega, fun q hq => ⟨(hl3 q hq).1, by have := (hl3 q hq).2; omega⟩, hn1, hl1⟩
theorem open_deeds {H : Type} {enc : TypeId × Value → H} {W : World} {base : Nat} {v : Value} {d : DataW H} {ps : List MemPlace} (hv : Value.okWide Tryd.prog W .any base 30 v) (h : DataW.Trod enc Tryd.prog W 0 (fun _ => true) true 30 v d ps) : ∃ l : List Dd, DdsA W v l ∧ (Rows.uptoBulk d ≤ 1048576 → l.length ≤ 1048575 ∧ ∀ y ∈ l, okDd W y) := by
  obtain ⟨a0, len0, cap0, rfl⟩ := okWide_slice Tryd.underlying30 hv
  obtain ⟨fuel, h⟩ := h
  obtain ⟨l, a, c, D, e, hc, hR, hb⟩ := rows_gen (α := Dd) (k := 11) (H := H) Tryd.underlying30 cells_deed (by omega) Dd.cs (fun _ => rfl) (fun y d => Rows.uptoBulk d ≤ 1048576 → okDd W y) (fun n cs d ps h => deed_open n cs d ps h) h
  have hl := bulk_len ((List.range l.length).map D)
  rw [List.length_map, List.length_range] at hl
  refine ⟨l, ⟨a, c, e, fun h0 => ?_⟩, fun hbk => ⟨by simp only at hb; omega, fun y hy => ?_⟩⟩
  · obtain ⟨b, o, e, hlt, hcell⟩ := hc h0
    exact ⟨b, o, e, hlt, hcell⟩
  · obtain ⟨i, hi, rfl⟩ := List.mem_iff_getElem.1 hy
    have h2 := bulk_mem (List.mem_map.2 ⟨i, List.mem_range.2 hi, rfl⟩ : D i ∈ (List.range l.length).map D)
    exact hR i hi (by simp only at hb; omega)
end Go.Proofs.YtlijplbaefaeaaaDoor
