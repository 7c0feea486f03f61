/- Own text. The document's Probes. Lists of files, as they are read. The document's Probe; Probe and Load where there is no table. GraphProbes: the walk. -/
import Derived.Test.YtdpajlopdgapeaaGreatDoorGm08
import Derived.Test.YtdpajlopdgapeaaGreatDoorGm45
import Derived.Test.YtdpajlopdgapeaaGreatDoorRows
import Derived.ProofKit
import Derived.OpenShut
import Derived.JoinedCond
import Derived.SizedLaws
import Derived.Carry
import Derived.Deep.SlicePairs
import Derived.Test.YtdpajlopdgapeaaGreatDoorGm48
namespace Go.Proofs.YtdpajlopdgapeaaGreatDoor.Pa
open Go.RowKit
set_option linter.unusedVariables false

set_option maxRecDepth 100000 in
theorem row_mono {w : World} {base base' : Nat} {e : TypeId} {size : Nat} {v : Value} {n : Nat} {xs : List Value} (h : w.ownsRow base e size v n xs) (hb : base' ≤ base) : w.ownsRow base' e size v n xs := by
  refine ⟨h.1, ?_⟩
  rcases h.2 with h2 | ⟨g, cap, cur, h1, h2, h3⟩
  · exact .inl h2
  · exact .inr ⟨g, cap, cur, h1, Nat.le_trans hb h2, h3⟩

set_option maxHeartbeats 4000000 in
set_option maxRecDepth 100000 in
theorem refProbes_any (s : ByteArray) (w : World) (hs : s.size ≤ 140737488355328) : Calls Tryz.prog 22 #[.string s] w fun e w' =>
    ∃ v, e = .returned v ∧ Texts w' w.heap.size v (prb s.data.toList) ∧ Below w.heap.size w w' := by
  obtain ⟨i0, hi, hz0, hz1, hz2⟩ := info_parts info_str
  obtain ⟨cs, hcs⟩ : ∃ cs : Array Value, cs = #[.string s, .string (s ++ ⟨#[46, 116, 115]⟩), .string (s ++ ⟨#[47, 105, 110, 100, 101, 120, 46, 116, 115]⟩)] := ⟨_, rfl⟩
  have hrow := World.ownsRow_lit (base := w.heap.size) (e := 9) (size := 1) w cs 3 (Nat.le_refl _) (by unfold maxLen; decide) (by rw [hcs]; rfl)
  obtain ⟨W1, hW1⟩ : ∃ W1, W1 = w.alloc (.cells cs 9) := ⟨_, rfl⟩
  have HC : Hid (∀ k, k < 3 → ∃ X, W1.cell? ⟨w.heap.size, k, none⟩ = some (.string X) ∧ ∃ e, endS[k]? = some e ∧ X.data.toList = s.data.toList ++ e ∧ X.size = s.data.toList.length + e.length) := by
    intro k hk
    rw [← hW1] at hrow
    rw [hrow.cellAt k (by omega), hcs]
    have h3 : k = 0 ∨ k = 1 ∨ k = 2 := by omega
    rcases h3 with rfl | rfl | rfl
    · exact ⟨s, rfl, [], rfl, by simp, by rw [Lib.size_eq]; rfl⟩
    · exact ⟨_, rfl, _, rfl, append_list _ _, by rw [Lib.size_eq, append_list]; simp⟩
    · exact ⟨_, rfl, _, rfl, append_list _ _, by rw [Lib.size_eq, append_list]; simp⟩
  have hB1 : Below w.heap.size w W1 := by rw [hW1]; exact (Below.refl _ w).alloc (Nat.le_refl _) _
  have hz1' : W1.heap.size = w.heap.size + 1 := by rw [hW1]; simp
  have HW : Hid (w.alloc (.cells cs 9) = W1) := hW1.symm
  clear hrow hW1
  rw [hcs] at HW
  clear hcs
  go_enter Tryz.func22, Tryz.ntmps22
  go_wp2
  rw [HW.out]
  go_loopw [3, 5] (fun v3 v5 W => ∃ k : Nat, k ≤ 3 ∧ v5 = .int .i64 k ∧ Texts W W1.heap.size v3 (prbN s.data.toList k) ∧ Below W1.heap.size W1 W) (fun _ v5 _ => 3 - (intOf v5).toNat)
  case atStart => exact ⟨0, by omega, rfl, World.ownsRow_nil _ _ _ _, Below.refl _ _⟩
  case round =>
    obtain ⟨k, hk, rfl, ht, hb⟩ := hrel
    by_cases hk3 : k = 3
    · subst hk3
      go_wp2
      go_ret
      exact ⟨_, rfl, row_mono ht (by omega), hB1.trans (hb.mono (by omega))⟩
    · have hln := prbN_len s.data.toList k
      obtain ⟨X, hX, e, he, hXl, hXs⟩ := HC.out k (by omega)
      have hce : wr.cell? ⟨w.heap.size, k, none⟩ = some (.string X) := (hb.cell (p := ⟨w.heap.size, k, none⟩) (by simp; omega)).trans hX
      have HE : Hid (endS[k]? = some e ∧ X.data.toList = s.data.toList ++ e ∧ X.size = s.data.toList.length + e.length) := ⟨he, hXl, hXs⟩
      have hk4 : (k : Int) < 3 := by omega
      clear hX he hXl hXs HC
      by_cases hl : X.size ≤ 200
      · have hl2 : (X.size : Int) ≤ 200 := by omega
        go_wp2_with (at_builtin; refine wpList_append_own _ rfl _ _ 59 rfl W1.heap.size 9 i0 (.string ByteArray.empty) 1 16 Tryz.underlying59 hi hz0 hz1 hz2 rfl (by decide) _ _ _ rfl (ht.alloc _) ⟨_, 0, none⟩ 1 1 [.string X] rfl rfl (cell_one_new _ _ _) (fun x hx => by simp at hx; subst hx; rfl) (by unfold maxLen; omega) (by omega) (by have h1 := hb.size; simp; omega) ?_; intro v1 W3 ho1 hg1 hn1)
        go_roundw
        case rel =>
          obtain ⟨he, hXl, hXs⟩ := HE.out
          refine ⟨k + 1, by omega, by simp, ?_, ?_⟩
          · rw [prbN_yes _ _ _ he (by omega)]
            exact texts_app ho1 hXl
          · exact (hb.alloc hb.size _).grown hg1 (by have := hb.size; simp; omega) (fun j hj => (ht.lt j hj).1)
        case measure => simp [intOf]; omega
      · have hl2 : ¬ (X.size : Int) ≤ 200 := by omega
        go_wp2
        go_roundw
        case rel =>
          obtain ⟨he, hXl, hXs⟩ := HE.out
          refine ⟨k + 1, by omega, by simp, ?_, hb⟩
          rw [prbN_no _ _ _ he (by omega)]
          exact ht
        case measure => simp [intOf]; omega

end Go.Proofs.YtdpajlopdgapeaaGreatDoor.Pa
namespace Go.Proofs.YtdpajlopdgapeaaGreatDoor.Vf
open Go.ChangeShapes Go.WideShapes Go.ChangeAt Go.RowKit
set_option linter.unusedVariables false
set_option linter.unusedSimpArgs false

set_option maxRecDepth 100000 in
theorem fields_file : Tryz.prog.underlying 50 = some (.struct #[{ name := "Path", type := 9, offset := 0, embedded := false, tag := "", pkgPath := "", byteOffset := 0 }, { name := "Bytes", type := 9, offset := 1, embedded := false, tag := "", pkgPath := "", byteOffset := 16 }]) := by kernel_rfl
set_option maxRecDepth 100000 in
theorem cells_file : Tryz.prog.cellsOf 50 = 2 := by kernel_rfl
set_option maxRecDepth 100000 in
theorem cells_text : Tryz.prog.cellsOf 9 = 1 := by kernel_rfl
set_option maxRecDepth 100000 in
theorem bytes_file : Tryz.prog.bytesOf 50 = 32 := by kernel_rfl
set_option maxRecDepth 100000 in
theorem bytes_text : Tryz.prog.bytesOf 9 = 16 := by kernel_rfl

/-- how big lists of files are, by what is read: B bounds each weight. -/
def FSz (B : Nat) (F : Fls) : Prop := F.length * 32 ≤ B ∧ ∀ x ∈ F, x.1.size ≤ B ∧ x.2.size ≤ B
/-- .. and by the bulk. -/
def FBk (B : Nat) (F : Fls) : Prop := F.length ≤ B ∧ ∀ x ∈ F, x.1.size ≤ B ∧ x.2.size ≤ B

set_option maxRecDepth 100000 in
theorem addr_plain {w : World} {a : Addr} {v : Value} (h : w.cell? a = some v) : a = ⟨a.block, a.off, none⟩ := by
  unfold World.cell? at h
  split at h
  · split at h
    · cases h
    · rename_i hs
      obtain ⟨b, o, s⟩ := a
      cases s with
      | none => rfl
      | some _ => simp at hs
  · cases h

set_option maxRecDepth 100000 in
theorem weights_all {H : Type} {P : Program} {e : TypeId} : ∀ {l : List (DataW H)} {d : DataW H}, d ∈ l → ∀ n ∈ d.weights P e, n ∈ DataW.weightsAll P e l
  | x :: r, d, h, n, hn => by
    simp only [DataW.weightsAll, List.mem_append]
    rcases List.mem_cons.1 h with rfl | h
    · exact .inl hn
    · exact .inr (weights_all h n hn)
set_option maxRecDepth 100000 in
theorem bulk_pos {H : Type} (d : DataW H) : 1 ≤ Rows.uptoBulk d := by
  cases d with
  | lit l => cases l <;> simp [Rows.uptoBulk]
  | nil => simp [Rows.uptoBulk]
  | held x => simp [Rows.uptoBulk]
  | ptr x => simp [Rows.uptoBulk]
  | slice x y => simp [Rows.uptoBulk]
  | agg x => simp [Rows.uptoBulk]
  | iface x y => simp [Rows.uptoBulk]
  | map x => simp [Rows.uptoBulk]
set_option maxRecDepth 100000 in
theorem bulk_len {H : Type} : ∀ l : List (DataW H), l.length ≤ Rows.uptoBulkAll l
  | [] => Nat.zero_le _
  | d :: r => by
    have h1 := bulk_pos d
    have h2 := bulk_len r
    simp only [Rows.uptoBulkAll, List.length_cons]
    omega
set_option maxRecDepth 100000 in
theorem bulk_mem {H : Type} : ∀ {l : List (DataW H)} {d : DataW H}, d ∈ l → Rows.uptoBulk d ≤ Rows.uptoBulkAll l
  | x :: r, d, h => by
    simp only [Rows.uptoBulkAll]
    rcases List.mem_cons.1 h with rfl | h
    · omega
    · have := bulk_mem h; omega
set_option maxRecDepth 100000 in
theorem bulk_slice {H : Type} (l r : List (DataW H)) : Rows.uptoBulk (.slice l r) = Rows.uptoBulkAll l + Rows.uptoBulkAll r + 1 := by simp [Rows.uptoBulk]
set_option maxRecDepth 100000 in
theorem bulk_agg {H : Type} (l : List (DataW H)) : Rows.uptoBulk (.agg l) = Rows.uptoBulkAll l + 1 := by simp [Rows.uptoBulk]
set_option maxRecDepth 100000 in
theorem bulk_text {H : Type} (l : List UInt8) : Rows.uptoBulk (.lit (.string l) : DataW H) = l.length + 1 := by simp [Rows.uptoBulk]

/-- a list of files, opened. -/
theorem open_files_cells {H : Type} {enc : TypeId × Value → H} {W : World} {fuel : Nat} {v : Value} {d : DataW H} {ps : List MemPlace} (h : DataW.trod enc Tryz.prog W 0 (fun _ => true) true fuel 34 [v] = some (d, ps)) :
    ∃ F, FAt W v F ∧ ((∀ B, (∀ n ∈ d.weights Tryz.prog 34, n ≤ B) → FSz B F) ∧ ∀ B, Rows.uptoBulk d ≤ B → FBk B F) := by
  rcases Deep.open_slice_pairs Tryz.underlying34 fields_file cells_file rfl rfl cells_text cells_text h with ⟨h0, hx⟩ | ⟨a, len, cap, m, n, V0, V1, D0, D1, P0, P1, h0, _, hl, hm, hmm, hx, hc⟩
  · simp only [List.cons.injEq, and_true] at h0
    subst h0
    exact ⟨[], .inl ⟨rfl, _, _, rfl⟩, fun B _ => ⟨by simp, by simp⟩, fun B _ => ⟨by simp, by simp⟩⟩
  · simp only [List.cons.injEq, and_true] at h0
    subst h0
    have hm2 : m = cap := by rw [hmm]; simp
    subst hm2
    have each : ∀ i, i < m → ∃ q : ByteArray × ByteArray, V0 i = .string q.1 ∧ V1 i = .string q.2 ∧ D0 i = .lit (.string q.1.data.toList) ∧ D1 i = .lit (.string q.2.data.toList) := fun i hi => by
      obtain ⟨_, _, t0, t1⟩ := hc i hi
      obtain ⟨s, e1, e2, _⟩ := DataW.trod_string Tryz.underlying9 t0
      obtain ⟨s', e1', e2', _⟩ := DataW.trod_string Tryz.underlying9 t1
      simp only [List.cons.injEq, and_true, Prod.mk.injEq] at e1 e2 e1' e2'
      exact ⟨(s, s'), e1, e1', e2.1, e2'.1⟩
    obtain ⟨q, hq⟩ := Deep.choose_lt each
    obtain ⟨F, hF⟩ : ∃ F : Fls, F = (List.range len).map q := ⟨_, rfl⟩
    have hFl : F.length = len := by rw [hF]; simp
    have hFi : ∀ i (hi : i < F.length), F[i] = q i := fun i hi => by subst hF; simp
    have hmem : ∀ x ∈ F, ∃ i, i < len ∧ x = q i := fun x hx => by
      rw [hF] at hx
      obtain ⟨i, hi, rfl⟩ := List.mem_map.1 hx
      exact ⟨i, List.mem_range.1 hi, rfl⟩
    have hd : d = .slice ((List.range len).map fun i => .agg [D0 i, D1 i]) ((List.range (m - len)).map fun j => .agg [D0 (len + j), D1 (len + j)]) := congrArg Prod.fst hx
    refine ⟨F, ?_, fun B hB => ?_, fun B hB => ?_⟩
    · by_cases h0 : len = 0
      · subst h0
        exact .inl ⟨List.length_eq_zero_iff.1 hFl, _, _, rfl⟩
      · obtain ⟨c0, _⟩ := hc 0 (by omega)
        have ha : a = ⟨a.block, a.off, none⟩ := addr_plain (w := W) (by simpa [Addr.add] using c0)
        have hlt : a.block < W.heap.size := World.block_lt_of_cell? W a (by simpa [Addr.add] using c0)
        refine .inr ⟨a.block, a.off, m, by rw [hFl, ← ha], fun i hi => ?_, hlt⟩
        obtain ⟨c0, c1, _⟩ := hc i (by omega)
        rw [hFi i hi]
        rw [ha, addP] at c0 c1
        rw [(hq i (by omega)).1] at c0
        rw [(hq i (by omega)).2.1] at c1
        exact ⟨c0, c1⟩
    · have hw := hB
      rw [hd] at hw
      simp only [DataW.weights, Tryz.underlying34, bytes_file] at hw
      refine ⟨?_, fun x hx => ?_⟩
      · have := hw _ (List.mem_cons_self ..)
        simp only [List.length_map, List.length_range] at this
        rw [hFl]
        omega
      · obtain ⟨i, hi, rfl⟩ := hmem x hx
        have key : ∀ n ∈ DataW.weights Tryz.prog 50 (DataW.agg [D0 i, D1 i] : DataW H), n ≤ B := fun n hn => hw n (List.mem_cons_of_mem _ (List.mem_append_left _ (weights_all (List.mem_map.2 ⟨i, List.mem_range.2 hi, rfl⟩) n hn)))
        obtain ⟨_, _, e0, e1⟩ := hq i (by omega)
        rw [e0, e1] at key
        simp only [DataW.weights, fields_file, DataW.weightsEach, List.map_cons, List.map_nil] at key
        constructor
        · rw [Lib.size_eq]; exact key _ (by simp)
        · rw [Lib.size_eq]; exact key _ (by simp)
    · rw [hd, bulk_slice] at hB
      have hl1 := bulk_len ((List.range len).map fun i => (DataW.agg [D0 i, D1 i] : DataW H))
      simp only [List.length_map, List.length_range] at hl1
      refine ⟨by omega, fun x hx => ?_⟩
      obtain ⟨i, hi, rfl⟩ := hmem x hx
      have hb := bulk_mem (List.mem_map.2 ⟨i, List.mem_range.2 hi, rfl⟩ : (DataW.agg [D0 i, D1 i] : DataW H) ∈ (List.range len).map fun i => (DataW.agg [D0 i, D1 i] : DataW H))
      obtain ⟨_, _, e0, e1⟩ := hq i (by omega)
      rw [e0, e1, bulk_agg] at hb
      simp only [Rows.uptoBulkAll, bulk_text] at hb
      rw [Lib.size_eq, Lib.size_eq]
      constructor <;> omega

set_option maxRecDepth 100000 in
theorem open_files {H : Type} {enc : TypeId × Value → H} {W : World} {base : Nat} {v : Value} {d : DataW H} {ps : List MemPlace} (hv : Value.okWide Tryz.prog W .any base 34 v) (h : DataW.Trod enc Tryz.prog W 0 (fun _ => true) true 34 v d ps) :
    ∃ F, FAt W v F ∧ ((∀ B, (∀ n ∈ d.weights Tryz.prog 34, n ≤ B) → FSz B F) ∧ ∀ B, Rows.uptoBulk d ≤ B → FBk B F) := by
  obtain ⟨a, len, cap, rfl⟩ := okWide_slice Tryz.underlying34 hv
  obtain ⟨fuel, h⟩ := h
  exact open_files_cells h

end Go.Proofs.YtdpajlopdgapeaaGreatDoor.Vf
namespace Go.Proofs.YtdpajlopdgapeaaGreatDoor
open Go.RowKit Go.MapKept Go.Maps
set_option linter.unusedVariables false
set_option linter.unusedSimpArgs false

theorem below_dn {w : World} (n : Nat) : Below w.heap.size w (w.drewN n) := below_drewN (Below.refl _ _) n
set_option maxRecDepth 100000 in
set_option maxHeartbeats 4000000 in
theorem rprobe_any (w : World) (v : Value) (L : Fls) (p : ByteArray) (hv : w.ownsRow 0 50 2 v L.length (Vf.flat L)) (hr : Ris L) (hL : L.length ≤ 1048576) (hp : p.size ≤ 140737488355328) :
    Calls Tryz.prog 13 #[v, .string p] w fun e w' => e = .returned (.tuple #[.string ((prbF (fun q => hasP q L) p).getD ⟨#[]⟩), .bool (prbF (fun q => hasP q L) p).isSome]) ∧ Below w.heap.size w w' := by
  obtain ⟨va, vn, vc, rfl⟩ := Vf.row_slice hv
  obtain ⟨W0, hW0⟩ : ∃ X, w.alloc (Obj.cells #[.slice va vn vc] 56) = X := ⟨_, rfl⟩
  have b0 : Below w.heap.size w W0 := by rw [← hW0]; exact (Below.refl _ _).alloc (Nat.le_refl _) _
  have m0 : W0.heap[w.heap.size]? = some (.cells #[.slice va vn vc] 56) := by rw [← hW0]; exact hnew _ rfl
  have rt : Vf.RTab W0 w.heap.size (.slice va vn vc) L := ⟨m0, row_bel hv b0⟩
  have HF : Hid (∀ X q, Below W0.heap.size W0 X → Calls Tryz.prog 23 #[.pointer (some ⟨w.heap.size, 0, none⟩), .string q] X fun e w' => ∃ n : Int, e = .returned (.tuple #[.int .i64 n, .bool (hasP q L)]) ∧ Below X.heap.size X w') := fun X q b => by
    refine (Vf.find_any X _ _ L q (rt.below b) (by omega)).mono ?_
    rintro e w' ⟨rfl, n, rfl⟩
    rw [Vf.hit_has hr]
    exact ⟨_, rfl, below_dn n⟩
  have CP := Pa.refProbes_any p W0 hp
  obtain ⟨f, hf⟩ : ∃ f : ByteArray → Bool, (fun q => hasP q L) = f := ⟨_, rfl⟩
  have hf2 : ∀ q, hasP q L = f q := fun q => congrFun hf q
  simp only [hf2] at HF
  rw [hf]
  obtain ⟨l, hl⟩ : ∃ l, Pa.prb p.data.toList = l := ⟨_, rfl⟩
  have hl3 : l.length ≤ 3 := by rw [← hl]; unfold Pa.prb; exact Nat.le_trans (List.length_filter_le _ _) (by simp [Pa.endS])
  rw [hl] at CP
  obtain ⟨res, hres⟩ : ∃ r, prbF f p = r := ⟨_, rfl⟩
  have HR : Hid ((l.map baL).find? f = res) := by show _ = _; rw [← hl]; exact hres
  rw [hres]
  clear hres hl hf hf2 rt m0 hv
  go_enter Tryz.func13, Tryz.ntmps13
  go_wp2_with fail
  go_at_call 22
  refine CP.mono ?_
  rintro e W1 ⟨v, rfl, hT, b1⟩
  obtain ⟨av, cv, rfl⟩ := Pa.row_form hT
  clear CP hW0
  go_wp2
  go_loopw [8] (fun i wr => ∃ k : Nat, i = .int .i64 (k : Nat) ∧ k ≤ l.length ∧ Below W1.heap.size W1 wr ∧ Hid (∀ j (hj : j < (l.map baL).length), j < k → f (l.map baL)[j] = false)) (fun i _ => l.length - (intOf i).toNat)
  case atStart => exact ⟨0, rfl, Nat.zero_le _, Below.refl _ _, fun j _ hj => absurd hj (Nat.not_lt_zero _)⟩
  case round =>
    obtain ⟨k, rfl, hk, bel, HZ⟩ := hrel
    have bw := b1.trans (bel.mono b1.size)
    have bw0 := b0.trans (bw.mono b0.size)
    by_cases hkl : k < l.length
    · have hT2 := row_bel hT bel
      obtain ⟨g, c, e, hg, hc⟩ := Pa.row_some hT2 (by omega)
      cases e
      have HCell : Hid (∀ X, Below wr.heap.size wr X → X.cell? ⟨g, k, none⟩ = some (.string (baL l[k]))) := fun X b => by
        have := World.ownsRow.cellAt (row_bel hT2 b) k (by omega)
        rw [this]
        simp [Pa.cellsT, baL, hkl]
      have hcell := HCell.out wr (Below.refl _ _)
      have HQ : Hid (f (baL l[k]) = true → some (baL l[k]) = res) := fun q => by
        have hm : (l.map baL)[k]'(by simpa using hkl) = baL l[k] := by simp
        rw [← HR.out, find_at (k := k) (by simpa using hkl) HZ.out (by rw [hm]; exact q), hm]
      have HZ' : Hid (f (baL l[k]) = false → ∀ j (hj : j < (l.map baL).length), j < k + 1 → f (l.map baL)[j] = false) := fun q j hj hjk => by
        by_cases e : j = k
        · subst e; simpa using q
        · exact HZ.out j hj (by omega)
      have C := HF.out wr (baL l[k]) bw
      generalize baL l[k] = q at *
      clear hT2 HZ
      cases hf : f q with
      | true =>
        rw [hf] at C
        obtain rfl := HQ.out hf
        go_wp2_with fail
        go_at_call 23
        refine C.mono ?_
        rintro e W2 ⟨n, rfl, b2⟩
        clear hcell
        have hcell := HCell.out W2 b2
        go_wp2
        go_ret2
        exact ⟨rfl, bw0.trans (b2.mono bw0.size)⟩
      | false =>
        rw [hf] at C
        have HZ2 : Hid (∀ j (hj : j < (l.map baL).length), j < k + 1 → f (l.map baL)[j] = false) := HZ'.out hf
        go_wp2_with fail
        go_at_call 23
        refine C.mono ?_
        rintro e W2 ⟨n, rfl, b2⟩
        go_wp2
        go_roundw
        case rel => exact ⟨k + 1, by simp, by omega, bel.trans (b2.mono bel.size), HZ2⟩
        case measure => simp [intOf]; omega
    · have hn : ∀ j (hj : j < (l.map baL).length), f (l.map baL)[j] = false := fun j hj => HZ.out j hj (Nat.lt_of_lt_of_le (by simpa using hj) (Nat.le_of_not_lt hkl))
      obtain rfl : none = res := by rw [← HR.out]; exact (find_no hn).symm
      clear hn
      go_wp2
      go_ret2
      exact ⟨rfl, bw0⟩
theorem has_nil (w : World) (p : ByteArray) : Calls Tryz.prog 21 #[.pointer none, .string p] w fun e w' => e = .returned (.bool false) ∧ Below w.heap.size w w' := by
  go_enter Tryz.func21, Tryz.ntmps21
  go_wp2
  go_ret
  exact ⟨rfl, Below.refl _ _⟩
theorem prb_no (p : ByteArray) : prbF (fun _ => false) p = none := by
  unfold prbF
  exact find_no (fun _ _ => rfl)
theorem probe_nil (w : World) (p : ByteArray) (hp : p.size ≤ 140737488355328) : Calls Tryz.prog 12 #[.pointer none, .string p] w fun e w' => e = .returned (.tuple #[.string ⟨#[]⟩, .bool false]) ∧ Below w.heap.size w w' := by
  refine (probe_of (.pointer none) (fun _ => false) p w hp (fun W q _ _ => has_nil W q)).mono ?_
  rintro e w' ⟨rfl, b⟩
  rw [prb_no]
  exact ⟨rfl, b⟩
set_option maxRecDepth 100000 in
set_option maxHeartbeats 1000000 in
theorem follow_nil {W : World} {lb : Nat} {x y z : Value} {T : TypeId} (h : W.heap[lb]? = some (.cells #[.pointer none, x, y, z] T (0, 0))) (r : Qn) (p : ByteArray) (hp : p.size ≤ 200) :
    Calls Tryz.prog 25 #[.pointer (some ⟨lb, 0, none⟩), qv r, .string p, .int .i64 0] W fun e W' => e = .returned (.tuple #[.int .i64 0, .agg #[.string r.1, .string r.2, .int .i64 100]]) ∧ Below W.heap.size W W' := by
  obtain ⟨W0, hW0⟩ : ∃ X, (W.alloc (Obj.cells #[Value.string r.1, Value.string r.2] 72)).alloc (Obj.cells #[Value.string ⟨#[]⟩, Value.string ⟨#[]⟩, Value.int IntKind.i64 0] 74) = X := ⟨_, rfl⟩
  have hl : lb < W.heap.size := (Array.getElem?_eq_some_iff.1 h).1
  have b0 : Below W.heap.size W W0 := by rw [← hW0]; exact ((Below.refl _ _).alloc (Nat.le_refl _) _).alloc (by simp) _
  have mr : W0.heap[W.heap.size]? = some (.cells #[Value.string r.1, Value.string r.2] 72 (0, 0)) := by rw [← hW0]; exact hold _ (by simp) (hnew _ rfl)
  have mf : W0.heap[W.heap.size + 1]? = some (.cells #[Value.string ⟨#[]⟩, Value.string ⟨#[]⟩, Value.int IntKind.i64 0] 74 (0, 0)) := by rw [← hW0]; exact hnew _ (by simp)
  have s0 : W.heap.size + 2 ≤ W0.heap.size := by rw [← hW0]; simp
  obtain ⟨⟨e0, e1, e2, e3⟩, _⟩ := box4 ((b0.block _ hl).trans h)
  have CP := probe_nil W0 p (by omega)
  unfold qv
  go_enter Tryz.func25, Tryz.ntmps25
  go_wp2_with fail
  go_at_call 12
  refine CP.mono ?_
  rintro e W1 ⟨rfl, b1⟩
  have mr1 := (b1.block _ (by omega)).trans mr
  have mf1 := (b1.block _ (by omega)).trans mf
  clear e0 e1 e2 e3 hW0
  obtain ⟨u0, u1⟩ := t2 mr1
  obtain ⟨⟨q0, q1, q2⟩, g0, g1, g2⟩ := t3 mf1
  have bw1 : Below W.heap.size W W1 := b0.trans (b1.mono b0.size)
  go_wp2
  go_region
  go_wp2
  refine bodyPost_ret (res_fol Tryz.results25 (t3_set (Value.string r.1) (Value.string r.2) (Value.int IntKind.i64 100) (b := W.heap.size + 1) (by first | exact mf1 | exact mf1)) rfl) rfl ⟨rfl, ?_⟩
  exact ((bw1.drew.setCell (p := ⟨W.heap.size + 1, 0, none⟩) (by simp) _).setCell (p := ⟨W.heap.size + 1, 1, none⟩) (by simp) _).setCell (p := ⟨W.heap.size + 1, 2, none⟩) (by simp) _
end Go.Proofs.YtdpajlopdgapeaaGreatDoor
namespace Go.Proofs.YtdpajlopdgapeaaGreatDoor
open Go.RowKit Go.MapKept
set_option linter.unusedVariables false
set_option linter.unusedSimpArgs false

theorem nrmA : Pa.nrmB qA = qA ∧ Pa.nrmE qA = 0 := ⟨by kernel_rfl, by kernel_rfl⟩
set_option maxRecDepth 100000 in
set_option maxHeartbeats 1000000 in
theorem load_nil (W : World) : Calls Tryz.prog 14 #[.pointer none, .string ⟨#[47, 97]⟩] W fun e W' => e = .returned (.tuple #[.agg #[.slice none 0 0], .string ⟨#[]⟩, .string ⟨#[47, 97]⟩, .int .i64 100]) ∧ Below W.heap.size W W' := by
  have hmm := @run_makeMap Tryz.prog
  obtain ⟨W0, hW0⟩ : ∃ Z, (((W.alloc (.cells #[.slice none 0 0] 43)).alloc (.map #[] 0)).alloc (.map #[] 0)).alloc (.cells #[.pointer none, .slice none 0 0, .map (some (W.heap.size + 1)), .map (some (W.heap.size + 1 + 1))] 68) = Z := ⟨_, rfl⟩
  have b0 : Below W.heap.size W W0 := by rw [← hW0]; exact ((((Below.refl _ _).alloc (Nat.le_refl _) _).alloc (by simp) _).alloc (by simp; omega) _).alloc (by simp; omega) _
  have mg : W0.heap[W.heap.size]? = some (.cells #[.slice none 0 0] 43 (0, 0)) := by rw [← hW0]; exact hold _ (by simp; omega) (hold _ (by simp; omega) (hold _ (by simp) (hnew _ rfl)))
  have ml : W0.heap[W.heap.size + 1 + 1 + 1]? = some (.cells #[.pointer none, .slice none 0 0, .map (some (W.heap.size + 1)), .map (some (W.heap.size + 1 + 1))] 68 (0, 0)) := by rw [← hW0]; exact hnew _ (by simp)
  have s0 : W.heap.size + 4 ≤ W0.heap.size := by rw [← hW0]; simp
  have CN : Calls Tryz.prog 24 #[.string ⟨#[47, 97]⟩] W0 fun e w' => e = .returned (.tuple #[.string ⟨#[47, 97]⟩, .int .i64 0]) ∧ Below W0.heap.size W0 w' := by
    have := Pa.normal_any qA W0 (by decide)
    rw [nrmA.1, nrmA.2] at this
    exact this
  go_enter Tryz.func14, Tryz.ntmps14
  go_wp2_with fail
  go_at_call 24
  refine CN.mono ?_
  rintro e W1 ⟨rfl, b1⟩
  have bw1 : Below W.heap.size W W1 := b0.trans (b1.mono b0.size)
  have mg1 := (b1.block _ (by omega)).trans mg
  have ml1 := (b1.block _ (by omega)).trans ml
  have s1 := b1.size
  clear hW0 CN hmm mg ml
  have CF := follow_nil ml1 (⟨#[]⟩, ⟨#[47, 97]⟩) ⟨#[47, 97]⟩ (by decide)
  unfold qv at CF
  simp only at CF
  go_wp2_with fail
  go_at_call 25
  refine CF.mono ?_
  rintro e W2 ⟨rfl, b2⟩
  clear CF
  have mg2 := (b2.block _ (by omega)).trans mg1
  have bw2 : Below W.heap.size W W2 := bw1.trans (b2.mono bw1.size)
  have s2 := b2.size
  have bA : Below W2.heap.size W2 (W2.alloc (Obj.cells #[Value.string ⟨#[]⟩, Value.string ⟨#[47, 97]⟩, Value.int IntKind.i64 100] 74)) := (Below.refl _ _).alloc (Nat.le_refl _) _
  have mA : (W2.alloc (Obj.cells #[Value.string ⟨#[]⟩, Value.string ⟨#[47, 97]⟩, Value.int IntKind.i64 100] 74)).heap[W2.heap.size]? = some (.cells #[Value.string ⟨#[]⟩, Value.string ⟨#[47, 97]⟩, Value.int IntKind.i64 100] 74 (0, 0)) := heap_alloc_new _ _
  obtain ⟨W3, hW3⟩ : ∃ X, W2.alloc (Obj.cells #[Value.string ⟨#[]⟩, Value.string ⟨#[47, 97]⟩, Value.int IntKind.i64 100] 74) = X := ⟨_, rfl⟩
  rw [hW3] at bA mA
  have bw3 : Below W.heap.size W W3 := bw2.trans (bA.mono bw2.size)
  have mg3 := (bA.block _ (by omega)).trans mg2
  have NQ : ∀ W, (binOp .neq 74 (.agg #[.string ⟨#[]⟩, .string ⟨#[47, 97]⟩, .int .i64 100]) (.agg #[.string ⟨#[]⟩, .string ⟨#[]⟩, .int .i64 0])).run Tryz.prog W = .ok (.bool true) W := fun W => by rw [ft_neq]; simp
  obtain ⟨N, hN⟩ : ∃ N, W2.heap.size = N := ⟨_, rfl⟩
  have hNk : W.heap.size < N := by omega
  rw [hN] at mA
  have ltN : N < W3.heap.size := (Array.getElem?_eq_some_iff.1 mA).1
  obtain ⟨⟨y0, y1, y2⟩, _, _, _⟩ := t3 mA
  have q0 : W3.cell? ⟨W.heap.size, 0, none⟩ = some (.slice none 0 0) := by simp [World.cell?, mg3]
  have g0 : W3.frozen? ⟨W.heap.size, 0, none⟩ = false := by simp [World.frozen?, mg3]
  have HS : Hid (∀ (X : World) (v v' : Value), X.heap[W.heap.size]? = some (.cells #[v] 43 (0, 0)) → (X.setCell ⟨W.heap.size, 0, none⟩ v').heap[W.heap.size]? = some (.cells #[v'] 43 (0, 0))) := fun X v v' h => by simp [World.setCell, Array.getElem?_modify, h]
  have HW : Hid (∀ (X W4 : World), (X = W3.drew ∨ X = W3.drew.setCell ⟨W.heap.size, 0, none⟩ (.slice none 0 0)) → Below X.heap.size X W4 → (W4.heap[N]? = some (.cells #[Value.string ⟨#[]⟩, Value.string ⟨#[47, 97]⟩, Value.int IntKind.i64 100] 74 (0, 0)) ∧ W4.heap[W.heap.size]? = some (.cells #[.slice none 0 0] 43 (0, 0))) ∧ Below W.heap.size W W4) := fun X W4 hX b4 => by
    rcases hX with rfl | rfl
    · exact ⟨⟨(b4.block _ (by exact ltN)).trans mA, (b4.block _ (by show _ < W3.heap.size; omega)).trans mg3⟩, bw3.drew.trans (b4.mono bw3.size)⟩
    · have bs : Below W.heap.size W (W3.drew.setCell ⟨W.heap.size, 0, none⟩ (.slice none 0 0)) := bw3.drew.setCell (p := ⟨W.heap.size, 0, none⟩) (Nat.le_refl _) _
      have es : (W3.drew.setCell ⟨W.heap.size, 0, none⟩ (.slice none 0 0)).heap.size = W3.heap.size := by simp
      exact ⟨⟨(b4.block _ (by rw [es]; exact ltN)).trans ((Below.heap_setCell _ _ _ _ (fun e => by have e : N = W.heap.size := e; omega)).trans mA), (b4.block _ (by rw [es]; omega)).trans (HS.out W3.drew _ _ mg3)⟩, bs.trans (b4.mono bs.size)⟩
  go_wp2_with fail
  go_region_law (refine step_call1 (by rfl) 16 _ _ (by rfl) (.string ⟨#[47, 97]⟩) (by rfl) (enters_of Tryz.func16 (by kernel_rfl) rfl) (Pa.clone_any ⟨#[47, 97]⟩ _ (by decide)) ?_
                 rintro e W4 ⟨rfl, b4⟩
                 refine ⟨_, rfl, ?_⟩
                 obtain ⟨⟨mA4, mg4⟩, bw4⟩ := HW.out _ W4 (by first | exact .inl rfl | exact .inr rfl) b4
                 obtain ⟨⟨_, _, _⟩, _, _, _⟩ := t3 mA4
                 have q4 : W4.cell? ⟨W.heap.size, 0, none⟩ = some (.slice none 0 0) := by simp [World.cell?, mg4]
                 have g4 : W4.frozen? ⟨W.heap.size, 0, none⟩ = false := by simp [World.frozen?, mg4])
  all_goals
    go_wp2
    refine bodyPost_ret (res_load Tryz.results14 (by first | exact mg4 | exact HS.out W4 _ _ mg4) rfl) rfl ⟨rfl, ?_⟩
    first | exact bw4 | exact bw4.setCell (p := ⟨W.heap.size, 0, none⟩) (Nat.le_refl _) _
namespace GrP
set_option maxRecDepth 100000 in
set_option maxHeartbeats 16000000 in
theorem walk (x : Value) (F : Fls) (p : ByteArray) (w : World) (hx : Vf.FAt w x F) (hF : F.length ≤ 1048576) (hz : ∀ y ∈ F, y.1.size ≤ 1048576 ∧ y.2.size ≤ 1048576) (hp : p.size ≤ 1048576) (he : Env w) :
    Calls Tryz.prog 4 #[x, .string p] w fun e w' => e = .returned (.bool true) ∧ Below w.heap.size w w' := by
  have ho := he.over
  have CT := table_any w x F hx hF (fun y hy => by have := hz y hy; omega)
  have CS : Hid (∀ W, Below w.heap.size w W → Calls Tryz.prog 10 #[] W fun e w' => e = .returned (.bool true) ∧ Below W.heap.size W w') := fun W b => sure_any W (env_below he b) (ho.mono b.size)
  obtain ⟨A0, c0, rfl, _⟩ := hx.form
  clear hx hz he ho
  go_enter Tryz.func4, Tryz.ntmps4
  go_wp2_with fail
  go_at_call 11
  refine CT.mono ?_
  rintro e W1 ⟨tb, mb, rb, v, rfl, T, hl⟩
  clear CT
  have b1 := T.bel
  have C1 := probe_any W1 tb mb _ p T.tab (by omega)
  have HR : Hid (∀ X, Below W1.heap.size W1 X → Calls Tryz.prog 13 #[v, .string p] X fun e w' => e = .returned (.tuple #[.string ((prbF (fun q => hasP q (wrs F)) p).getD ⟨#[]⟩), .bool (prbF (fun q => hasP q (wrs F)) p).isSome]) ∧ Below X.heap.size X w') := fun X b => rprobe_any X v _ p (row_bel T.rt.row b) T.tab.ris (by omega) (by omega)
  clear T hl hF
  generalize prbF (fun q => hasP q (wrs F)) p = res at *
  generalize res.getD ⟨#[]⟩ = sa at *
  generalize res.isSome = sb at *
  go_wp2_with fail
  go_at_call 12
  refine C1.mono ?_
  rintro e W2 ⟨rfl, b2⟩
  clear C1
  go_wp2_with fail
  go_at_call 13
  refine (HR.out W2 b2).mono ?_
  rintro e W3 ⟨rfl, b3⟩
  go_wp2_with fail
  go_at_call 12
  refine (probe_nil W3 p (by omega)).mono ?_
  rintro e W4 ⟨rfl, b4⟩
  go_wp2_with fail
  go_at_call 14
  refine (load_nil W4).mono ?_
  rintro e W5 ⟨rfl, b5⟩
  have c3 : Below w.heap.size w W3 := (b1.trans (b2.mono b1.size)).trans (b3.mono (Nat.le_trans b1.size b2.size))
  have c5 : Below w.heap.size w W5 := (c3.trans (b4.mono c3.size)).trans (b5.mono (Nat.le_trans c3.size b4.size))
  have c6 : Below w.heap.size w (W5.alloc (Obj.cells #[.slice none 0 0] 43)) := c5.alloc c5.size _
  clear HR b1 b2 b3 b4 b5 c3
  go_wp2_with fail
  go_at_call 10
  refine (CS.out _ c6).mono ?_
  rintro e W6 ⟨rfl, b6⟩
  go_wp2
  go_ret
  exact ⟨rfl, c6.trans (b6.mono c6.size)⟩
end GrP
end Go.Proofs.YtdpajlopdgapeaaGreatDoor
