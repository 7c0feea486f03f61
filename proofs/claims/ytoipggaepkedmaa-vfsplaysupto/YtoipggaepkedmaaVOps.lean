/- Own text. A row of calls as it is read. -/
import Derived.Test.YtoipggaepkedmaaVR5
import Derived.Deep.Slices
namespace Go.Proofs.Ytoipggaepkedmaa
open Go.ChangeShapes Go.WideShapes Go.ChangeAt Go.RowKit
set_option linter.unusedVariables false
set_option linter.unusedSimpArgs false

theorem idx_op (W : World) (bl of n c k : Nat) (hk : k < n) : (Instr.indexAt 22 (.slice (some ⟨bl, of, none⟩) n c) (.int .i64 (k : Int))).run Try.prog W = .ok (.pointer (some ⟨bl, of + k * 5, none⟩)) W := by
  have h1 : (0 : Int) ≤ (k : Int) := by omega
  have h2 : (k : Int) < (n : Int) := by omega
  go_simp
theorem fields_op : Try.prog.underlying 31 = some (.struct #[{ name := "Kind", type := 3, offset := 0, embedded := false, tag := "", pkgPath := "", byteOffset := 0 }, { name := "N", type := 3, offset := 1, embedded := false, tag := "", pkgPath := "", byteOffset := 8 }, { name := "Path", type := 9, offset := 2, embedded := false, tag := "", pkgPath := "", byteOffset := 16 }, { name := "Bytes", type := 9, offset := 3, embedded := false, tag := "", pkgPath := "", byteOffset := 32 }, { name := "Files", type := 26, offset := 4, embedded := false, tag := "", pkgPath := "", byteOffset := 48 }]) := by kernel_rfl
theorem cells_op : Try.prog.cellsOf 31 = 5 := by kernel_rfl
theorem cells_int : Try.prog.cellsOf 3 = 1 := by kernel_rfl
theorem cells_files : Try.prog.cellsOf 26 = 1 := by kernel_rfl

/-- one call of a row. -/
structure OpV where
  kind : Int
  n : Int
  path : ByteArray
  bytes : ByteArray
  fv : Value
  files : Fls

/-- v is a row of calls. -/
def OAt (w : World) (v : Value) (S : List OpV) : Prop := ∃ A c, v = .slice A S.length c ∧ ∀ k (hk : k < S.length), ∃ bl of, (∀ W, (Instr.indexAt 22 (.slice A S.length c) (.int .i64 (k : Int))).run Try.prog W = .ok (.pointer (some ⟨bl, of + k * 5, none⟩)) W) ∧
    bl < w.heap.size ∧ w.cell? ⟨bl, of + k * 5, none⟩ = some (.int .i64 S[k].kind) ∧ w.cell? ⟨bl, of + k * 5 + 1, none⟩ = some (.int .i64 S[k].n) ∧ w.cell? ⟨bl, of + k * 5 + 2, none⟩ = some (.string S[k].path) ∧ w.cell? ⟨bl, of + k * 5 + 3, none⟩ = some (.string S[k].bytes) ∧ w.cell? ⟨bl, of + k * 5 + 4, none⟩ = some S[k].fv ∧ FAt w S[k].fv S[k].files
/-- how big it is. -/
def OBk (B : Nat) (S : List OpV) : Prop := S.length ≤ B ∧ ∀ x ∈ S, x.path.size ≤ B ∧ x.bytes.size ≤ B ∧ x.files.length ≤ B ∧ (∀ y ∈ x.files, y.1.size ≤ B) ∧ -9223372036854775808 ≤ x.n ∧ x.n ≤ 9223372036854775807

theorem op_each {H : Type} {enc : TypeId × Value → H} {W : World} {n : Nat} {cs : List Value} {d : DataW H} {ps : List MemPlace} (h : DataW.trod enc Try.prog W 0 (fun _ => true) true n 31 cs = some (d, ps)) :
    ∃ q : OpV, cs = [.int .i64 q.kind, .int .i64 q.n, .string q.path, .string q.bytes, q.fv] ∧ FAt W q.fv q.files ∧ ∀ B, Rows.uptoBulk d ≤ B → q.path.size ≤ B ∧ q.bytes.size ≤ B ∧ q.files.length ≤ B ∧ (∀ y ∈ q.files, y.1.size ≤ B) ∧ -9223372036854775808 ≤ q.n ∧ q.n ≤ 9223372036854775807 := by
  obtain ⟨xs, m, _, hxy, hcl, hxl, hf⟩ := DataW.trod_struct fields_op h
  rw [cells_op] at hcl
  match cs, hcl with
  | [u0, u1, u2, u3, u4], _ =>
    match xs, hxl with
    | [y0, y1, y2, y3, y4], _ =>
      have g0 : DataW.trod enc Try.prog W 0 (fun _ => true) true m 3 [u0] = some y0 := by simpa [cells_int] using hf 0 _ rfl
      have g1 : DataW.trod enc Try.prog W 0 (fun _ => true) true m 3 [u1] = some y1 := by simpa [cells_int] using hf 1 _ rfl
      have g2 : DataW.trod enc Try.prog W 0 (fun _ => true) true m 9 [u2] = some y2 := by simpa [cells_text] using hf 2 _ rfl
      have g3 : DataW.trod enc Try.prog W 0 (fun _ => true) true m 9 [u3] = some y3 := by simpa [cells_text] using hf 3 _ rfl
      have g4 : DataW.trod enc Try.prog W 0 (fun _ => true) true m 26 [u4] = some y4 := by simpa [cells_files] using hf 4 _ rfl
      obtain ⟨z0, e0, _, _⟩ := DataW.trod_int Try.underlying3 g0
      obtain ⟨z1, e1, _, w1⟩ := DataW.trod_int Try.underlying3 g1
      obtain ⟨s2, e2, x2, _⟩ := DataW.trod_string Try.underlying9 g2
      obtain ⟨s3, e3, x3, _⟩ := DataW.trod_string Try.underlying9 g3
      obtain ⟨F, fF, _, zF⟩ := open_files_cells (d := y4.1) (ps := y4.2) g4
      simp only [List.cons.injEq, and_true] at e0 e1 e2 e3
      subst e0 e1 e2 e3
      have hb := bounds_i64 w1
      have hd : d = .agg [y0.1, y1.1, y2.1, y3.1, y4.1] := by simpa using congrArg Prod.fst hxy
      refine ⟨⟨z0, z1, s2, s3, u4, F⟩, rfl, fF, fun B hB => ?_⟩
      rw [hd, bulk_agg, x2, x3] at hB
      simp only [Rows.uptoBulkAll, bulk_text] at hB
      have hFB := zF B (by omega)
      refine ⟨?_, ?_, hFB.1, fun y hy => (hFB.2 y hy).1, hb.1, hb.2⟩
      · show s2.size ≤ B; rw [Lib.size_eq]; omega
      · show s3.size ≤ B; rw [Lib.size_eq]; omega

theorem open_ops {H : Type} {enc : TypeId × Value → H} {W : World} {base : Nat} {v : Value} {d : DataW H} {ps : List MemPlace} (hv : Value.okWide Try.prog W .any base 22 v) (h : DataW.Trod enc Try.prog W 0 (fun _ => true) true 22 v d ps) :
    ∃ S, OAt W v S ∧ (True ∧ ∀ B, Rows.uptoBulk d ≤ B → OBk B S) := by
  obtain ⟨a0, len0, cap0, rfl⟩ := okWide_slice Try.underlying22 hv
  obtain ⟨fuel, h⟩ := h
  rcases Deep.open_slice Try.underlying22 h with ⟨h0, hx⟩ | ⟨a, len, cap, m, n, D, Pl, h0, _, hl, hm, hmm, hx, hc⟩
  · simp only [Value.cells, List.cons.injEq, and_true] at h0
    cases h0
    exact ⟨[], ⟨none, 0, rfl, fun k hk => by simp at hk⟩, trivial, fun B _ => ⟨by simp, by simp⟩⟩
  · simp only [Value.cells, List.cons.injEq, and_true] at h0
    cases h0
    have hm2 : m = cap0 := by rw [hmm]; simp
    subst hm2
    have each : ∀ i, i < m → ∃ q : OpV, (∀ j (hj : j < 5), W.cell? ((a.add (i * 5)).add j) = [Value.int .i64 q.kind, .int .i64 q.n, .string q.path, .string q.bytes, q.fv][j]?) ∧ FAt W q.fv q.files ∧ ∀ B, Rows.uptoBulk (D i) ≤ B → q.path.size ≤ B ∧ q.bytes.size ≤ B ∧ q.files.length ≤ B ∧ (∀ y ∈ q.files, y.1.size ≤ B) ∧ -9223372036854775808 ≤ q.n ∧ q.n ≤ 9223372036854775807 := fun i hi => by
      obtain ⟨cs', h1, h2⟩ := hc i hi
      rw [cells_op] at h1
      obtain ⟨_, hlen, hcell⟩ := World.cells?_some h1
      obtain ⟨q, e, fq, zq⟩ := op_each h2
      subst e
      exact ⟨q, hcell, fq, zq⟩
    obtain ⟨q, hq⟩ := @Deep.choose_lt OpV ⟨⟨0, 0, ByteArray.empty, ByteArray.empty, .bool false, []⟩⟩ m _ each
    obtain ⟨S, hS⟩ : ∃ S : List OpV, S = (List.range len0).map q := ⟨_, rfl⟩
    have hSl : S.length = len0 := by rw [hS]; simp
    have hSi : ∀ i (hi : i < S.length), S[i] = q i := fun i hi => by subst hS; simp
    have hmem : ∀ x ∈ S, ∃ i, i < len0 ∧ x = q i := fun x hx => by
      rw [hS] at hx
      obtain ⟨i, hi, rfl⟩ := List.mem_map.1 hx
      exact ⟨i, List.mem_range.1 hi, rfl⟩
    have hd : d = .slice ((List.range len0).map D) ((List.range (m - len0)).map fun j => D (len0 + j)) := congrArg Prod.fst hx
    refine ⟨S, ⟨some a, m, by rw [hSl], fun k hk => ?_⟩, trivial, fun B hB => ?_⟩
    · have hk' : k < len0 := by omega
      obtain ⟨c0, _⟩ := hq 0 (by omega)
      have c00 := c0 0 (by omega)
      simp only [Nat.zero_mul, List.getElem?_cons_zero, Deep.add_add] at c00
      have ha0 : a.add 0 = a := by simp [Addr.add]
      rw [ha0] at c00
      have ha : a = ⟨a.block, a.off, none⟩ := addr_plain c00
      have hlt : a.block < W.heap.size := World.block_lt_of_cell? W a c00
      obtain ⟨ck, fk, _⟩ := hq k (by omega)
      refine ⟨a.block, a.off, fun W => ?_, hlt, ?_⟩
      · rw [hSl, ha]; exact idx_op W _ _ _ _ k hk'
      · rw [hSi k hk]
        rw [ha] at ck
        simp only [Deep.add_add, addP] at ck
        have e0 := ck 0 (by omega)
        have e1 := ck 1 (by omega)
        have e2 := ck 2 (by omega)
        have e3 := ck 3 (by omega)
        have e4 := ck 4 (by omega)
        simp only [Nat.add_zero, List.getElem?_cons_zero, List.getElem?_cons_succ, ← Nat.add_assoc] at e0 e1 e2 e3 e4
        exact ⟨e0, e1, e2, e3, e4, fk⟩
    · rw [hd, bulk_slice] at hB
      have hl1 := bulk_len ((List.range len0).map D)
      simp only [List.length_map, List.length_range] at hl1
      refine ⟨by omega, fun x hx => ?_⟩
      obtain ⟨i, hi, rfl⟩ := hmem x hx
      have hb := bulk_mem (List.mem_map.2 ⟨i, List.mem_range.2 hi, rfl⟩ : D i ∈ (List.range len0).map D)
      exact (hq i (by omega)).2.2 B (by omega)

end Go.Proofs.Ytoipggaepkedmaa
