/- Own text. Lists of files and of texts, place by place, whether they are empty or not. -/
import Derived.Test.YtoipggaepkedmaaVClose
import Derived.Test.YtoipggaepkedmaaV7
namespace Go.Proofs.Ytoipggaepkedmaa
open Go.ChangeShapes Go.WideShapes Go.ChangeAt Go.RowKit
set_option linter.unusedVariables false
set_option linter.unusedSimpArgs false

theorem idx_file (W : World) (bl of n c k : Nat) (hk : k < n) : (Instr.indexAt 26 (.slice (some ⟨bl, of, none⟩) n c) (.int .i64 (k : Int))).run Try.prog W = .ok (.pointer (some ⟨bl, of + k * 2, none⟩)) W := by
  have h1 : (0 : Int) ≤ (k : Int) := by omega
  have h2 : (k : Int) < (n : Int) := by omega
  go_simp
theorem idx_text (W : World) (bl of n c k : Nat) (hk : k < n) : (Instr.indexAt 45 (.slice (some ⟨bl, of, none⟩) n c) (.int .i64 (k : Int))).run Try.prog W = .ok (.pointer (some ⟨bl, of + k, none⟩)) W := by
  have h1 : (0 : Int) ≤ (k : Int) := by omega
  have h2 : (k : Int) < (n : Int) := by omega
  go_simp

/-- v is a list of files: at each place the way to it, and what lies there. -/
theorem FAt.form {w : World} {v : Value} {F : Fls} (h : FAt w v F) : ∃ A c, v = .slice A F.length c ∧ ∀ k (hk : k < F.length), ∃ bl of, (∀ W, (Instr.indexAt 26 (.slice A F.length c) (.int .i64 (k : Int))).run Try.prog W = .ok (.pointer (some ⟨bl, of + k * 2, none⟩)) W) ∧
    bl < w.heap.size ∧ w.cell? ⟨bl, of + k * 2, none⟩ = some (.string F[k].1) ∧ w.cell? ⟨bl, of + k * 2 + 1, none⟩ = some (.string F[k].2) := by
  rcases h with ⟨rfl, a, c, rfl⟩ | ⟨bl, of, c, rfl, hc, hb⟩
  · exact ⟨a, c, rfl, fun k hk => by simp at hk⟩
  · exact ⟨_, c, rfl, fun k hk => ⟨bl, of, fun W => idx_file W bl of _ c k hk, hb, (hc k hk).1, (hc k hk).2⟩⟩

/-- v is a list of texts. -/
def SAt (w : World) (v : Value) (S : List ByteArray) : Prop := ∃ A c, v = .slice A S.length c ∧ ∀ k (hk : k < S.length), ∃ bl of, (∀ W, (Instr.indexAt 45 (.slice A S.length c) (.int .i64 (k : Int))).run Try.prog W = .ok (.pointer (some ⟨bl, of + k, none⟩)) W) ∧
    bl < w.heap.size ∧ w.cell? ⟨bl, of + k, none⟩ = some (.string S[k])

theorem fields_file : Try.prog.underlying 44 = some (.struct #[{ name := "Path", type := 9, offset := 0, embedded := false, tag := "", pkgPath := "", byteOffset := 0 }, { name := "Bytes", type := 9, offset := 1, embedded := false, tag := "", pkgPath := "", byteOffset := 16 }]) := by kernel_rfl
theorem cells_file : Try.prog.cellsOf 44 = 2 := by kernel_rfl
theorem cells_text : Try.prog.cellsOf 9 = 1 := by kernel_rfl
theorem bytes_file : Try.prog.bytesOf 44 = 32 := by kernel_rfl
theorem bytes_text : Try.prog.bytesOf 9 = 16 := by kernel_rfl

/-- how big lists of files are, by what is read: B bounds each weight. -/
def FSz (B : Nat) (F : Fls) : Prop := F.length * 32 ≤ B ∧ ∀ x ∈ F, x.1.size ≤ B ∧ x.2.size ≤ B
/-- .. and by the bulk. -/
def FBk (B : Nat) (F : Fls) : Prop := F.length ≤ B ∧ ∀ x ∈ F, x.1.size ≤ B ∧ x.2.size ≤ B

theorem addr_plain {w : World} {a : Addr} {v : Value} (h : w.cell? a = some v) : a = ⟨a.block, a.off, none⟩ := by
  unfold World.cell? at h
  split at h
  · split at h
    · cases h
    · rename_i hs
      obtain ⟨b, o, s⟩ := a
      cases s with
      | none => rfl
      | some _ => simp at hs
  · cases h

theorem addP (b o n : Nat) : (⟨b, o, none⟩ : Addr).add n = ⟨b, o + n, none⟩ := by
  unfold Addr.add
  split
  · rename_i h; subst h; rfl
  · rfl
theorem weights_all {H : Type} {P : Program} {e : TypeId} : ∀ {l : List (DataW H)} {d : DataW H}, d ∈ l → ∀ n ∈ d.weights P e, n ∈ DataW.weightsAll P e l
  | x :: r, d, h, n, hn => by
    simp only [DataW.weightsAll, List.mem_append]
    rcases List.mem_cons.1 h with rfl | h
    · exact .inl hn
    · exact .inr (weights_all h n hn)
theorem bulk_pos {H : Type} (d : DataW H) : 1 ≤ Rows.uptoBulk d := by
  cases d with
  | lit l => cases l <;> simp [Rows.uptoBulk]
  | nil => simp [Rows.uptoBulk]
  | held x => simp [Rows.uptoBulk]
  | ptr x => simp [Rows.uptoBulk]
  | slice x y => simp [Rows.uptoBulk]
  | agg x => simp [Rows.uptoBulk]
  | iface x y => simp [Rows.uptoBulk]
  | map x => simp [Rows.uptoBulk]
theorem bulk_len {H : Type} : ∀ l : List (DataW H), l.length ≤ Rows.uptoBulkAll l
  | [] => Nat.zero_le _
  | d :: r => by
    have h1 := bulk_pos d
    have h2 := bulk_len r
    simp only [Rows.uptoBulkAll, List.length_cons]
    omega
theorem bulk_mem {H : Type} : ∀ {l : List (DataW H)} {d : DataW H}, d ∈ l → Rows.uptoBulk d ≤ Rows.uptoBulkAll l
  | x :: r, d, h => by
    simp only [Rows.uptoBulkAll]
    rcases List.mem_cons.1 h with rfl | h
    · omega
    · have := bulk_mem h; omega
theorem bulk_slice {H : Type} (l r : List (DataW H)) : Rows.uptoBulk (.slice l r) = Rows.uptoBulkAll l + Rows.uptoBulkAll r + 1 := by simp [Rows.uptoBulk]
theorem bulk_agg {H : Type} (l : List (DataW H)) : Rows.uptoBulk (.agg l) = Rows.uptoBulkAll l + 1 := by simp [Rows.uptoBulk]
theorem bulk_text {H : Type} (l : List UInt8) : Rows.uptoBulk (.lit (.string l) : DataW H) = l.length + 1 := by simp [Rows.uptoBulk]

/-- a list of files, opened. -/
theorem open_files_cells {H : Type} {enc : TypeId × Value → H} {W : World} {fuel : Nat} {v : Value} {d : DataW H} {ps : List MemPlace} (h : DataW.trod enc Try.prog W 0 (fun _ => true) true fuel 26 [v] = some (d, ps)) :
    ∃ F, FAt W v F ∧ ((∀ B, (∀ n ∈ d.weights Try.prog 26, n ≤ B) → FSz B F) ∧ ∀ B, Rows.uptoBulk d ≤ B → FBk B F) := by
  rcases Deep.open_slice_pairs Try.underlying26 fields_file cells_file rfl rfl cells_text cells_text h with ⟨h0, hx⟩ | ⟨a, len, cap, m, n, V0, V1, D0, D1, P0, P1, h0, _, hl, hm, hmm, hx, hc⟩
  · simp only [List.cons.injEq, and_true] at h0
    subst h0
    exact ⟨[], .inl ⟨rfl, _, _, rfl⟩, fun B _ => ⟨by simp, by simp⟩, fun B _ => ⟨by simp, by simp⟩⟩
  · simp only [List.cons.injEq, and_true] at h0
    subst h0
    have hm2 : m = cap := by rw [hmm]; simp
    subst hm2
    have each : ∀ i, i < m → ∃ q : ByteArray × ByteArray, V0 i = .string q.1 ∧ V1 i = .string q.2 ∧ D0 i = .lit (.string q.1.data.toList) ∧ D1 i = .lit (.string q.2.data.toList) := fun i hi => by
      obtain ⟨_, _, t0, t1⟩ := hc i hi
      obtain ⟨s, e1, e2, _⟩ := DataW.trod_string Try.underlying9 t0
      obtain ⟨s', e1', e2', _⟩ := DataW.trod_string Try.underlying9 t1
      simp only [List.cons.injEq, and_true, Prod.mk.injEq] at e1 e2 e1' e2'
      exact ⟨(s, s'), e1, e1', e2.1, e2'.1⟩
    obtain ⟨q, hq⟩ := Deep.choose_lt each
    obtain ⟨F, hF⟩ : ∃ F : Fls, F = (List.range len).map q := ⟨_, rfl⟩
    have hFl : F.length = len := by rw [hF]; simp
    have hFi : ∀ i (hi : i < F.length), F[i] = q i := fun i hi => by subst hF; simp
    have hmem : ∀ x ∈ F, ∃ i, i < len ∧ x = q i := fun x hx => by
      rw [hF] at hx
      obtain ⟨i, hi, rfl⟩ := List.mem_map.1 hx
      exact ⟨i, List.mem_range.1 hi, rfl⟩
    have hd : d = .slice ((List.range len).map fun i => .agg [D0 i, D1 i]) ((List.range (m - len)).map fun j => .agg [D0 (len + j), D1 (len + j)]) := congrArg Prod.fst hx
    refine ⟨F, ?_, fun B hB => ?_, fun B hB => ?_⟩
    · by_cases h0 : len = 0
      · subst h0
        exact .inl ⟨List.length_eq_zero_iff.1 hFl, _, _, rfl⟩
      · obtain ⟨c0, _⟩ := hc 0 (by omega)
        have ha : a = ⟨a.block, a.off, none⟩ := addr_plain (w := W) (by simpa [Addr.add] using c0)
        have hlt : a.block < W.heap.size := World.block_lt_of_cell? W a (by simpa [Addr.add] using c0)
        refine .inr ⟨a.block, a.off, m, by rw [hFl, ← ha], fun i hi => ?_, hlt⟩
        obtain ⟨c0, c1, _⟩ := hc i (by omega)
        rw [hFi i hi]
        rw [ha, addP] at c0 c1
        rw [(hq i (by omega)).1] at c0
        rw [(hq i (by omega)).2.1] at c1
        exact ⟨c0, c1⟩
    · have hw := hB
      rw [hd] at hw
      simp only [DataW.weights, Try.underlying26, bytes_file] at hw
      refine ⟨?_, fun x hx => ?_⟩
      · have := hw _ (List.mem_cons_self ..)
        simp only [List.length_map, List.length_range] at this
        rw [hFl]
        omega
      · obtain ⟨i, hi, rfl⟩ := hmem x hx
        have key : ∀ n ∈ DataW.weights Try.prog 44 (DataW.agg [D0 i, D1 i] : DataW H), n ≤ B := fun n hn => hw n (List.mem_cons_of_mem _ (List.mem_append_left _ (weights_all (List.mem_map.2 ⟨i, List.mem_range.2 hi, rfl⟩) n hn)))
        obtain ⟨_, _, e0, e1⟩ := hq i (by omega)
        rw [e0, e1] at key
        simp only [DataW.weights, fields_file, DataW.weightsEach, List.map_cons, List.map_nil] at key
        constructor
        · rw [Lib.size_eq]; exact key _ (by simp)
        · rw [Lib.size_eq]; exact key _ (by simp)
    · rw [hd, bulk_slice] at hB
      have hl1 := bulk_len ((List.range len).map fun i => (DataW.agg [D0 i, D1 i] : DataW H))
      simp only [List.length_map, List.length_range] at hl1
      refine ⟨by omega, fun x hx => ?_⟩
      obtain ⟨i, hi, rfl⟩ := hmem x hx
      have hb := bulk_mem (List.mem_map.2 ⟨i, List.mem_range.2 hi, rfl⟩ : (DataW.agg [D0 i, D1 i] : DataW H) ∈ (List.range len).map fun i => (DataW.agg [D0 i, D1 i] : DataW H))
      obtain ⟨_, _, e0, e1⟩ := hq i (by omega)
      rw [e0, e1, bulk_agg] at hb
      simp only [Rows.uptoBulkAll, bulk_text] at hb
      rw [Lib.size_eq, Lib.size_eq]
      constructor <;> omega

theorem open_files {H : Type} {enc : TypeId × Value → H} {W : World} {base : Nat} {v : Value} {d : DataW H} {ps : List MemPlace} (hv : Value.okWide Try.prog W .any base 26 v) (h : DataW.Trod enc Try.prog W 0 (fun _ => true) true 26 v d ps) :
    ∃ F, FAt W v F ∧ ((∀ B, (∀ n ∈ d.weights Try.prog 26, n ≤ B) → FSz B F) ∧ ∀ B, Rows.uptoBulk d ≤ B → FBk B F) := by
  obtain ⟨a, len, cap, rfl⟩ := okWide_slice Try.underlying26 hv
  obtain ⟨fuel, h⟩ := h
  exact open_files_cells h

/-- how big lists of texts are. -/
def SSz (B : Nat) (S : List ByteArray) : Prop := S.length * 16 ≤ B ∧ ∀ x ∈ S, x.size ≤ B

theorem open_texts {H : Type} {enc : TypeId × Value → H} {W : World} {base : Nat} {v : Value} {d : DataW H} {ps : List MemPlace} (hv : Value.okWide Try.prog W .any base 45 v) (h : DataW.Trod enc Try.prog W 0 (fun _ => true) true 45 v d ps) :
    ∃ S, SAt W v S ∧ ((∀ B, (∀ n ∈ d.weights Try.prog 45, n ≤ B) → SSz B S) ∧ ∀ B, Rows.uptoBulk d ≤ B → S.length ≤ B ∧ ∀ x ∈ S, x.size ≤ B) := by
  obtain ⟨a, len, cap, rfl⟩ := okWide_slice Try.underlying45 hv
  obtain ⟨fuel, h⟩ := h
  rcases open_strings Try.underlying45 Try.underlying9 cells_text h with ⟨h0, hx⟩ | ⟨a', len', cap', ss, h0, _, hl, hm, hsl, hx, hc, hs⟩
  · simp only [Value.cells, List.cons.injEq, and_true] at h0
    cases h0
    exact ⟨[], ⟨none, 0, rfl, fun k hk => by simp at hk⟩, fun B _ => ⟨by simp, by simp⟩, fun B _ => ⟨by simp, by simp⟩⟩
  · simp only [Value.cells, List.cons.injEq, and_true] at h0
    cases h0
    have hd : d = .slice (strs (ss.take len)) (strs (ss.drop len)) := congrArg Prod.fst hx
    simp only [if_true] at hsl
    have htl : (ss.take len).length = len := by simp; omega
    refine ⟨ss.take len, ⟨some a', cap, by rw [htl], fun k hk => ?_⟩, fun B hB => ?_, fun B hB => ?_⟩
    · have hk' : k < len := by omega
      have hk2 : k < ss.length := by omega
      have c0 := hc 0 (by omega)
      have ha : a' = ⟨a'.block, a'.off, none⟩ := addr_plain (w := W) (by simpa [Addr.add] using c0)
      have hlt : a'.block < W.heap.size := World.block_lt_of_cell? W a' (by simpa [Addr.add] using c0)
      refine ⟨a'.block, a'.off, fun W => ?_, hlt, ?_⟩
      · rw [htl, ha]; exact idx_text W _ _ _ _ k hk'
      · have ck := hc k hk2
        rw [ha, addP] at ck
        rw [ck]
        simp [hk2]
    · rw [hd] at hB
      simp only [DataW.weights, Try.underlying45, bytes_text] at hB
      have hlen := hB _ (List.mem_cons_self ..)
      simp only [strs, List.length_map] at hlen
      refine ⟨by omega, fun x hx => ?_⟩
      rw [Lib.size_eq]
      refine hB _ (List.mem_cons_of_mem _ (List.mem_append_left _ (weights_all (d := .lit (.string x.data.toList)) ?_ _ (by simp [DataW.weights]))))
      exact List.mem_map.2 ⟨x, hx, rfl⟩
    · rw [hd, bulk_slice] at hB
      have h1 := bulk_len (strs (H := H) (ss.take len))
      have h2 : (strs (H := H) (ss.take len)).length = (ss.take len).length := by simp [strs]
      refine ⟨by omega, fun x hx => ?_⟩
      have h3 := bulk_mem (H := H) (l := strs (ss.take len)) (d := .lit (.string x.data.toList)) (List.mem_map.2 ⟨x, hx, rfl⟩)
      rw [bulk_text] at h3
      rw [Lib.size_eq]
      omega

theorem open_file {H : Type} {enc : TypeId × Value → H} {W : World} {base : Nat} {v : Value} {d : DataW H} {ps : List MemPlace} (hv : Value.okWide Try.prog W .any base 44 v) (h : DataW.Trod enc Try.prog W 0 (fun _ => true) true 44 v d ps) :
    ∃ a b, v = .agg #[.string a, .string b] ∧ ((∀ B, (∀ n ∈ d.weights Try.prog 44, n ≤ B) → a.size ≤ B ∧ b.size ≤ B) ∧ ∀ B, Rows.uptoBulk d ≤ B → a.size ≤ B ∧ b.size ≤ B) := by
  obtain ⟨cs, rfl, hcs⟩ := okWide_struct fields_file hv
  obtain ⟨fuel, h⟩ := h
  rw [cells_file] at hcs
  obtain ⟨xs, n, _, hxy, _, hxl, hf⟩ := DataW.trod_struct fields_file h
  obtain ⟨u0, u1, rfl⟩ : ∃ u0 u1, cs = #[u0, u1] := by
    obtain ⟨l⟩ := cs
    match l, hcs with
    | [u0, u1], _ => exact ⟨u0, u1, rfl⟩
  match xs, hxl with
  | [y0, y1], _ =>
    have g0 : DataW.trod enc Try.prog W 0 (fun _ => true) true n 9 [u0] = some y0 := by simpa [Value.cells, cells_text] using hf 0 _ rfl
    have g1 : DataW.trod enc Try.prog W 0 (fun _ => true) true n 9 [u1] = some y1 := by simpa [Value.cells, cells_text] using hf 1 _ rfl
    obtain ⟨a, e1, e2, _⟩ := DataW.trod_string Try.underlying9 g0
    obtain ⟨b, e1', e2', _⟩ := DataW.trod_string Try.underlying9 g1
    simp only [List.cons.injEq, and_true] at e1 e1'
    subst e1 e1' e2 e2'
    have hd : d = .agg [.lit (.string a.data.toList), .lit (.string b.data.toList)] := by simpa using congrArg Prod.fst hxy
    refine ⟨a, b, rfl, fun B hB => ?_, fun B hB => ?_⟩
    · rw [hd] at hB
      simp only [DataW.weights, fields_file, DataW.weightsEach, List.map_cons, List.map_nil] at hB
      constructor
      · rw [Lib.size_eq]; exact hB _ (by simp)
      · rw [Lib.size_eq]; exact hB _ (by simp)
    · rw [hd, bulk_agg] at hB
      simp only [Rows.uptoBulkAll, bulk_text] at hB
      rw [Lib.size_eq, Lib.size_eq]
      constructor <;> omega

theorem new_ex (w : World) : Calls Try.prog 9 #[] w fun e w' => ∃ tb mb, e = .returned (.pointer (some ⟨tb, 0, none⟩)) ∧ Tab w' tb mb [] ∧ Below w.heap.size w w' ∧ w.heap.size ≤ tb ∧ w.heap.size ≤ mb :=
  (new_any w).mono fun e w' ⟨h1, h2, h3⟩ => ⟨_, _, h1, h2, h3, by omega, by omega⟩

theorem cells2 {w W : World} {B bl of k : Nat} {x y : Value} (hB : Below B w W) (hb : bl < B) (c1 : w.cell? ⟨bl, of + k * 2, none⟩ = some x) (c2 : w.cell? ⟨bl, of + k * 2 + 1, none⟩ = some y) :
    W.cell? ⟨bl, of + k * 2, none⟩ = some x ∧ W.cell? ⟨bl, of + k * 2 + 1, none⟩ = some y := ⟨(hB.cell hb).trans c1, (hB.cell hb).trans c2⟩

theorem wrL_len {p b : ByteArray} {L : Fls} : (wrL p b L).length ≤ L.length + 1 := by
  unfold wrL
  split
  · exact length_ins_le
  · omega
theorem del_len {p : ByteArray} {L : Fls} : (del p L).length ≤ L.length := List.length_filter_le _ _

end Go.Proofs.Ytoipggaepkedmaa
