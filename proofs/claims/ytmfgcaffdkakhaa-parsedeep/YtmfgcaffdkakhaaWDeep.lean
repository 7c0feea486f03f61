/- Own text. ParseDeep: the walk. -/
import Derived.Test.YtmfgcaffdkakhaaU3
import Derived.Test.YtmfgcaffdkakhaaD1
import Derived.Test.YtmfgcaffdkakhaaD2
namespace Go.Proofs.Ytmfgcaffdkakhaa
open Go.RowKit
set_option linter.unusedVariables false
set_option linter.unusedSimpArgs false
set_option maxRecDepth 100000

abbrev kPo : Tk × Nat := ((5, [40], 0), 0)
abbrev kPc : Tk × Nat := ((5, [41], 0), 0)
abbrev kMi : Tk × Nat := ((5, [45], 0), 0)
abbrev kX : Tk × Nat := ((1, [120], 0), 0)
theorem deepB_tk (k : Nat) : (List.replicate k kPo ++ kX :: List.replicate k kPc).map tkT = deepB k := by
  simp only [List.map_append, List.map_cons, List.map_replicate]
  rfl
theorem deepM_tk (k : Nat) : (List.replicate k kMi ++ [kX]).map tkT = deepM k := by
  simp only [List.map_append, List.map_cons, List.map_replicate, List.map_nil]
  rfl
theorem rep_snoc {α : Type} (x : α) (n : Nat) : List.replicate (n + 1) x = List.replicate n x ++ [x] := by
  rw [List.replicate_succ']
theorem toks_snoc {w : World} {base : Nat} {v : Value} {ts : List (Tk × Nat)} {n : Nat} (t : Tk) (hn : n = ts.length) (h : w.ownsRow base 35 4 v (n + 1) (rowT (ints ts) ++ tokCells (t, ((0 : Nat) : Int)))) : ToksAt w base v (ints (ts ++ [(t, 0)])) := by
  rw [ints_snoc]
  subst hn
  exact toks_app (by rw [ints_length]; exact h)
theorem face_ok {L : List Tok} {x : Nd} {p : Nat} (h : exprF L (fuelL L) 0 0 = .ok x p) : readP L (exprF L (fuelL L)) 0 = ⟨x, p, 0⟩ := by rw [read0, h]; rfl
theorem face_bad {L : List Tok} {p : Nat} {e : Int} (h : exprF L (fuelL L) 0 0 = .bad p e) : readP L (exprF L (fuelL L)) 0 = ⟨zeroNd, p, e⟩ := by rw [read0, h]; rfl
set_option maxHeartbeats 4000000 in
theorem walkDeep (n kd : Int) (w : World) (hn1 : -9223372036854775808 ≤ n) (hn2 : n ≤ 9223372036854775807) :
    Calls Try.prog 5 #[.int .i64 n, .int .i64 kd] w fun e w' => e = .returned (.bool true) ∧ Below w.heap.size w w' := by
  obtain ⟨i0, hi, hz0, hz1, hz2⟩ := info_parts info_tok
  have SU := fun W => sure_any W
  have FE : Hid (∀ (L : List Tok) (W : World) (v : Value), TkV W v L → Calls Try.prog 6 #[v, .int .i64 0] W (AnsF W (readP L (exprF L (fuelL L)) 0))) := fun L W v h => faceExpr L W v 0 h (by omega)
  have hm0 : 0 ≤ max 0 (min n 900) := by omega
  have hm1 : max 0 (min n 900) ≤ 900 := by omega
  rcases bit_low kd with hb | hb
  · have q1 : (bits .and .i64 kd 1 == 1) = false := by rw [hb]; rfl
    have q2 : (bits .and .i64 kd 1 == 0) = true := by rw [hb]; rfl
    clear hb
    go_enter Try.func5, Try.ntmps5
    go_wp2_with fail
    generalize max 0 (min n 900) = z at *
    obtain ⟨k, rfl⟩ := Int.eq_ofNat_of_zero_le hm0
    have hk9 : k ≤ 900 := by omega
    obtain ⟨W0, hW0⟩ : ∃ W, (w.alloc (Obj.cells #[Value.int IntKind.i64 5, Value.string ⟨#[40]⟩, Value.int IntKind.i64 0, Value.int IntKind.i64 0] 35)).alloc (Obj.cells #[Value.int IntKind.i64 5, Value.string ⟨#[41]⟩, Value.int IntKind.i64 0, Value.int IntKind.i64 0] 35) = W := ⟨_, rfl⟩
    have m6 : W0.heap[w.heap.size]? = some (.cells #[Value.int IntKind.i64 5, Value.string ⟨#[40]⟩, Value.int IntKind.i64 0, Value.int IntKind.i64 0] 35 (0, 0)) := by
      rw [← hW0]; exact (Below.heap_alloc _ _ _ (by simp)).trans (heap_alloc_new w _)
    have m7 : W0.heap[w.heap.size + 1]? = some (.cells #[Value.int IntKind.i64 5, Value.string ⟨#[41]⟩, Value.int IntKind.i64 0, Value.int IntKind.i64 0] 35 (0, 0)) := by
      rw [← hW0]
      have := heap_alloc_new (w.alloc (Obj.cells #[Value.int IntKind.i64 5, Value.string ⟨#[40]⟩, Value.int IntKind.i64 0, Value.int IntKind.i64 0] 35)) (Obj.cells #[Value.int IntKind.i64 5, Value.string ⟨#[41]⟩, Value.int IntKind.i64 0, Value.int IntKind.i64 0] 35)
      simpa using this
    have sz : Hid (W0.heap.size = w.heap.size + 2) := by rw [← hW0]; show _ = _; simp
    have b0 : Hid (Below w.heap.size w W0) := by rw [← hW0]; exact ((Below.refl _ w).alloc (Nat.le_refl _) _).alloc (by simp) _
    rw [hW0]
    clear hW0
    have HC : Hid (∀ W, Below W0.heap.size W0 W → (W.cell? ⟨w.heap.size, 0, none⟩ = some (Value.int IntKind.i64 5) ∧ W.cell? ⟨w.heap.size, 1, none⟩ = some (Value.string ⟨#[40]⟩) ∧ W.cell? ⟨w.heap.size, 2, none⟩ = some (Value.int IntKind.i64 0) ∧ W.cell? ⟨w.heap.size, 3, none⟩ = some (Value.int IntKind.i64 0))) := fun W b => (t4 ((b.block _ (by rw [sz.out]; omega)).trans m6)).1
    have HD : Hid (∀ W, Below W0.heap.size W0 W → (W.cell? ⟨w.heap.size + 1, 0, none⟩ = some (Value.int IntKind.i64 5) ∧ W.cell? ⟨w.heap.size + 1, 1, none⟩ = some (Value.string ⟨#[41]⟩) ∧ W.cell? ⟨w.heap.size + 1, 2, none⟩ = some (Value.int IntKind.i64 0) ∧ W.cell? ⟨w.heap.size + 1, 3, none⟩ = some (Value.int IntKind.i64 0))) := fun W b => (t4 ((b.block _ (by rw [sz.out]; omega)).trans m7)).1
    clear m6 m7
    go_loopw [5, 9] (fun v5 v9 W => ∃ i : Nat, v9 = .int .i64 i ∧ i ≤ k ∧ ToksAt W W0.heap.size v5 (ints (List.replicate i kPo)) ∧ Below W0.heap.size W0 W) (fun _ v9 _ => k - (intOf v9).toNat)
    case atStart => exact ⟨0, rfl, by omega, World.ownsRow_nil _ _ _ _, Below.refl _ _⟩
    case round =>
      obtain ⟨i, rfl, hik, ht, hbw⟩ := hrel
      have hil : (ints (List.replicate i kPo)).length = i := by simp [ints]
      unfold ToksAt at ht
      rw [hil] at ht
      by_cases hlt : i < k
      · obtain ⟨c0, c1, c2, c3⟩ := HC.out _ hbw
        go_wp2_with (at_builtin; refine wpList_append_own _ rfl _ _ 28 rfl W0.heap.size 35 i0 _ 4 40 Try.underlying28 hi hz0 hz1 hz2 rfl (by decide) _ _ _ rfl (ht.alloc _) ⟨_, 0, none⟩ 1 1 (tokCells ((5, [40], 0), ((0 : Nat) : Int))) rfl rfl (cells_new2 _ #[.int .i64 5, .string ⟨#[40]⟩, .int .i64 0, .int .i64 0] _ _ (by simp)) (by intro u hu; simp [tokCells] at hu; rcases hu with rfl | rfl | rfl | rfl <;> rfl) (by unfold maxLen; omega) (by omega) (by have h1 := hbw.size; simp; omega) ?_; intro v1 W3 ho1 hg1 hn1)
        refine ⟨⟨i + 1, by simp, by omega, ?_, ?_⟩, by simp [intOf]; omega⟩
        · rw [rep_snoc]
          exact toks_snoc (5, [40], 0) (by simp) ho1
        · exact (hbw.alloc hbw.size _).grown hg1 (by have := hbw.size; simp; omega) (fun j hj => (ht.lt j hj).1)
      · obtain rfl : i = k := by omega
        go_wp2_with (at_builtin; refine wpList_append_own _ rfl _ _ 28 rfl W0.heap.size 35 i0 _ 4 40 Try.underlying28 hi hz0 hz1 hz2 rfl (by decide) _ _ _ rfl (ht.alloc _) ⟨_, 0, none⟩ 1 1 (tokCells ((1, [120], 0), ((0 : Nat) : Int))) rfl rfl (cells_new2 _ #[.int .i64 1, .string ⟨#[120]⟩, .int .i64 0, .int .i64 0] _ _ (by simp)) (by intro u hu; simp [tokCells] at hu; rcases hu with rfl | rfl | rfl | rfl <;> rfl) (by unfold maxLen; omega) (by omega) (by have h1 := hbw.size; simp; omega) ?_; intro v1 W3 ho1 hg1 hn1)
        have ht2 : ToksAt W3 W0.heap.size v1 (ints (List.replicate i kPo ++ kX :: List.replicate 0 kPc)) := toks_snoc (1, [120], 0) (by simp) ho1
        have hb2 : Below W0.heap.size W0 W3 := (hbw.alloc hbw.size _).grown hg1 (by have := hbw.size; simp; omega) (fun j hj => (ht.lt j hj).1)
        clear ho1 hg1 ht hil hbw hn1
        go_loopw [5, 10] (fun v5 v9 W => ∃ j : Nat, v9 = .int .i64 j ∧ j ≤ i ∧ ToksAt W W0.heap.size v5 (ints (List.replicate i kPo ++ kX :: List.replicate j kPc)) ∧ Below W0.heap.size W0 W) (fun _ v9 _ => i - (intOf v9).toNat)
        case atStart => exact ⟨0, rfl, by omega, ht2, hb2⟩
        case round =>
          obtain ⟨j, rfl, hjk, ht, hbw⟩ := hrel
          have hil : (ints (List.replicate i kPo ++ kX :: List.replicate j kPc)).length = i + (j + 1) := by simp [ints]
          clear ht2 hb2
          by_cases hlj : j < i
          · unfold ToksAt at ht
            rw [hil] at ht
            obtain ⟨c0, c1, c2, c3⟩ := HD.out _ hbw
            go_wp2_with (at_builtin; refine wpList_append_own _ rfl _ _ 28 rfl W0.heap.size 35 i0 _ 4 40 Try.underlying28 hi hz0 hz1 hz2 rfl (by decide) _ _ _ rfl (ht.alloc _) ⟨_, 0, none⟩ 1 1 (tokCells ((5, [41], 0), ((0 : Nat) : Int))) rfl rfl (cells_new2 _ #[.int .i64 5, .string ⟨#[41]⟩, .int .i64 0, .int .i64 0] _ _ (by simp)) (by intro u hu; simp [tokCells] at hu; rcases hu with rfl | rfl | rfl | rfl <;> rfl) (by unfold maxLen; omega) (by omega) (by have h1 := hbw.size; simp; omega) ?_; intro v1 W3 ho1 hg1 hn1)
            refine ⟨⟨j + 1, by simp, by omega, ?_, ?_⟩, by simp [intOf]; omega⟩
            · have e : List.replicate i kPo ++ kX :: List.replicate (j + 1) kPc = (List.replicate i kPo ++ kX :: List.replicate j kPc) ++ [((5, [41], 0), 0)] := by rw [rep_snoc]; simp
              rw [e]
              exact toks_snoc (5, [41], 0) (by simp) ho1
            · exact (hbw.alloc hbw.size _).grown hg1 (by have := hbw.size; simp; omega) (fun j hj => (ht.lt j hj).1)
          · obtain rfl : j = i := by omega
            have tv := tkv_of ht (by simp; omega) (fun x hx => by simp only [List.mem_append, List.mem_cons, List.mem_replicate] at hx; rcases hx with ⟨_, rfl⟩ | rfl | ⟨_, rfl⟩ <;> simp)
            rw [deepB_tk] at tv
            have bb : Hid (Below w.heap.size w wr) := b0.out.trans (hbw.mono b0.out.size)
            clear ht hil hbw
            obtain ⟨ta, tc, hu⟩ : ∃ ta tc, u5 = .slice ta (2 * j + 1) tc := by
              obtain ⟨⟨ta, tc, _, _, e, _⟩, _⟩ := tv
              exact ⟨ta, tc, by rw [e, deepB_len]⟩
            subst hu
            go_wp2_with fail
            go_at_call 6
            refine (FE.out _ _ _ tv).mono ?_
            rintro e W2 ⟨ad2, c2, rfl, _, b2⟩
            have b4 : Hid (∀ o, Below w.heap.size w (W2.alloc o)) := fun o => (bb.out.trans (b2.mono bb.out.size)).trans (((Below.refl W2.heap.size W2).alloc (Nat.le_refl _) o).mono (Nat.le_trans bb.out.size b2.size))
            clear tv b2 HC HD
            by_cases h9 : j ≤ 399
            · rw [face_ok (deepB_ok h9)]
              dsimp only
              go_wp2_with fail
              go_at_call 10
              refine (SU _).mono ?_
              rintro e W5 ⟨rfl, b5⟩
              have b6 : Hid (Below w.heap.size w W5) := (b4.out _).trans (b5.mono (b4.out _).size)
              clear b5
              go_wp2
              go_ret
              exact ⟨rfl, b6.out⟩
            · rw [face_bad (deepB_bad (by omega))]
              dsimp only
              go_wp2_with fail
              go_at_call 10
              refine (SU _).mono ?_
              rintro e W5 ⟨rfl, b5⟩
              have b6 : Hid (Below w.heap.size w W5) := (b4.out _).trans (b5.mono (b4.out _).size)
              clear b5
              go_wp2
              go_ret
              exact ⟨rfl, b6.out⟩
  · have q1 : (bits .and .i64 kd 1 == 1) = true := by rw [hb]; rfl
    have q2 : (bits .and .i64 kd 1 == 0) = false := by rw [hb]; rfl
    clear hb
    go_enter Try.func5, Try.ntmps5
    go_wp2_with fail
    generalize max 0 (min n 900) = z at *
    obtain ⟨k, rfl⟩ := Int.eq_ofNat_of_zero_le hm0
    have hk9 : k ≤ 900 := by omega
    obtain ⟨W0, hW0⟩ : ∃ W, (w.alloc (Obj.cells #[Value.int IntKind.i64 5, Value.string ⟨#[45]⟩, Value.int IntKind.i64 0, Value.int IntKind.i64 0] 35)).alloc (Obj.cells #[Value.int IntKind.i64 5, Value.string ⟨#[41]⟩, Value.int IntKind.i64 0, Value.int IntKind.i64 0] 35) = W := ⟨_, rfl⟩
    have m6 : W0.heap[w.heap.size]? = some (.cells #[Value.int IntKind.i64 5, Value.string ⟨#[45]⟩, Value.int IntKind.i64 0, Value.int IntKind.i64 0] 35 (0, 0)) := by
      rw [← hW0]; exact (Below.heap_alloc _ _ _ (by simp)).trans (heap_alloc_new w _)
    have m7 : W0.heap[w.heap.size + 1]? = some (.cells #[Value.int IntKind.i64 5, Value.string ⟨#[41]⟩, Value.int IntKind.i64 0, Value.int IntKind.i64 0] 35 (0, 0)) := by
      rw [← hW0]
      have := heap_alloc_new (w.alloc (Obj.cells #[Value.int IntKind.i64 5, Value.string ⟨#[45]⟩, Value.int IntKind.i64 0, Value.int IntKind.i64 0] 35)) (Obj.cells #[Value.int IntKind.i64 5, Value.string ⟨#[41]⟩, Value.int IntKind.i64 0, Value.int IntKind.i64 0] 35)
      simpa using this
    have sz : Hid (W0.heap.size = w.heap.size + 2) := by rw [← hW0]; show _ = _; simp
    have b0 : Hid (Below w.heap.size w W0) := by rw [← hW0]; exact ((Below.refl _ w).alloc (Nat.le_refl _) _).alloc (by simp) _
    rw [hW0]
    clear hW0
    have HC : Hid (∀ W, Below W0.heap.size W0 W → (W.cell? ⟨w.heap.size, 0, none⟩ = some (Value.int IntKind.i64 5) ∧ W.cell? ⟨w.heap.size, 1, none⟩ = some (Value.string ⟨#[45]⟩) ∧ W.cell? ⟨w.heap.size, 2, none⟩ = some (Value.int IntKind.i64 0) ∧ W.cell? ⟨w.heap.size, 3, none⟩ = some (Value.int IntKind.i64 0))) := fun W b => (t4 ((b.block _ (by rw [sz.out]; omega)).trans m6)).1
    have HD : Hid (∀ W, Below W0.heap.size W0 W → (W.cell? ⟨w.heap.size + 1, 0, none⟩ = some (Value.int IntKind.i64 5) ∧ W.cell? ⟨w.heap.size + 1, 1, none⟩ = some (Value.string ⟨#[41]⟩) ∧ W.cell? ⟨w.heap.size + 1, 2, none⟩ = some (Value.int IntKind.i64 0) ∧ W.cell? ⟨w.heap.size + 1, 3, none⟩ = some (Value.int IntKind.i64 0))) := fun W b => (t4 ((b.block _ (by rw [sz.out]; omega)).trans m7)).1
    clear m6 m7
    go_loopw [5, 9] (fun v5 v9 W => ∃ i : Nat, v9 = .int .i64 i ∧ i ≤ k ∧ ToksAt W W0.heap.size v5 (ints (List.replicate i kMi)) ∧ Below W0.heap.size W0 W) (fun _ v9 _ => k - (intOf v9).toNat)
    case atStart => exact ⟨0, rfl, by omega, World.ownsRow_nil _ _ _ _, Below.refl _ _⟩
    case round =>
      obtain ⟨i, rfl, hik, ht, hbw⟩ := hrel
      have hil : (ints (List.replicate i kMi)).length = i := by simp [ints]
      unfold ToksAt at ht
      rw [hil] at ht
      by_cases hlt : i < k
      · obtain ⟨c0, c1, c2, c3⟩ := HC.out _ hbw
        go_wp2_with (at_builtin; refine wpList_append_own _ rfl _ _ 28 rfl W0.heap.size 35 i0 _ 4 40 Try.underlying28 hi hz0 hz1 hz2 rfl (by decide) _ _ _ rfl (ht.alloc _) ⟨_, 0, none⟩ 1 1 (tokCells ((5, [45], 0), ((0 : Nat) : Int))) rfl rfl (cells_new2 _ #[.int .i64 5, .string ⟨#[45]⟩, .int .i64 0, .int .i64 0] _ _ (by simp)) (by intro u hu; simp [tokCells] at hu; rcases hu with rfl | rfl | rfl | rfl <;> rfl) (by unfold maxLen; omega) (by omega) (by have h1 := hbw.size; simp; omega) ?_; intro v1 W3 ho1 hg1 hn1)
        refine ⟨⟨i + 1, by simp, by omega, ?_, ?_⟩, by simp [intOf]; omega⟩
        · rw [rep_snoc]
          exact toks_snoc (5, [45], 0) (by simp) ho1
        · exact (hbw.alloc hbw.size _).grown hg1 (by have := hbw.size; simp; omega) (fun j hj => (ht.lt j hj).1)
      · obtain rfl : i = k := by omega
        go_wp2_with (at_builtin; refine wpList_append_own _ rfl _ _ 28 rfl W0.heap.size 35 i0 _ 4 40 Try.underlying28 hi hz0 hz1 hz2 rfl (by decide) _ _ _ rfl (ht.alloc _) ⟨_, 0, none⟩ 1 1 (tokCells ((1, [120], 0), ((0 : Nat) : Int))) rfl rfl (cells_new2 _ #[.int .i64 1, .string ⟨#[120]⟩, .int .i64 0, .int .i64 0] _ _ (by simp)) (by intro u hu; simp [tokCells] at hu; rcases hu with rfl | rfl | rfl | rfl <;> rfl) (by unfold maxLen; omega) (by omega) (by have h1 := hbw.size; simp; omega) ?_; intro v1 W3 ho1 hg1 hn1)
        have ht2 : ToksAt W3 W0.heap.size v1 (ints (List.replicate i kMi ++ [kX])) := toks_snoc (1, [120], 0) (by simp) ho1
        have hb2 : Below W0.heap.size W0 W3 := (hbw.alloc hbw.size _).grown hg1 (by have := hbw.size; simp; omega) (fun j hj => (ht.lt j hj).1)
        clear ho1 hg1 ht hil hbw hn1
        go_loopw [5, 10] (fun v5 v9 W => v9 = .int .i64 0 ∧ v5 = v1 ∧ W = W3) (fun _ v9 _ => 0)
        case atStart => exact ⟨rfl, rfl, rfl⟩
        case round =>
          obtain ⟨rfl, rfl, rfl⟩ := hrel
          have tv := tkv_of ht2 (by simp; omega) (fun x hx => by simp only [List.mem_append, List.mem_singleton, List.mem_replicate] at hx; rcases hx with ⟨_, rfl⟩ | rfl <;> simp)
          rw [deepM_tk] at tv
          have bb : Hid (Below w.heap.size w wr) := b0.out.trans (hb2.mono b0.out.size)
          clear ht2 hb2
          obtain ⟨ta, tc, hu⟩ : ∃ ta tc, u5 = .slice ta (i + 1) tc := by
            obtain ⟨⟨ta, tc, _, _, e, _⟩, _⟩ := tv
            exact ⟨ta, tc, by rw [e, deepM_len]⟩
          subst hu
          by_cases hi0 : i = 0
          · have hi1 : ¬ (0 : Int) < (i : Int) := by omega
            clear hi0
            go_wp2_with fail
            go_at_call 6
            refine (FE.out _ _ _ tv).mono ?_
            rintro e W2 ⟨ad2, c2, rfl, _, b2⟩
            have b4 : Hid (∀ o, Below w.heap.size w (W2.alloc o)) := fun o => (bb.out.trans (b2.mono bb.out.size)).trans (((Below.refl W2.heap.size W2).alloc (Nat.le_refl _) o).mono (Nat.le_trans bb.out.size b2.size))
            clear tv b2 HC HD
            by_cases h9 : i ≤ 399
            · obtain ⟨x, hx⟩ := deepM_ok h9
              rw [face_ok hx]
              dsimp only
              go_wp2_with fail
              go_at_call 10
              refine (SU _).mono ?_
              rintro e W5 ⟨rfl, b5⟩
              have b6 : Hid (Below w.heap.size w W5) := (b4.out _).trans (b5.mono (b4.out _).size)
              clear b5
              go_wp2
              go_ret
              exact ⟨rfl, b6.out⟩
            · exact absurd (by omega) h9
          · have hi1 : (0 : Int) < (i : Int) := by omega
            go_wp2_with fail
            go_at_call 6
            refine (FE.out _ _ _ tv).mono ?_
            rintro e W2 ⟨ad2, c2, rfl, _, b2⟩
            have b4 : Hid (∀ o, Below w.heap.size w (W2.alloc o)) := fun o => (bb.out.trans (b2.mono bb.out.size)).trans (((Below.refl W2.heap.size W2).alloc (Nat.le_refl _) o).mono (Nat.le_trans bb.out.size b2.size))
            clear tv b2 HC HD
            by_cases h9 : i ≤ 399
            · obtain ⟨x, hx⟩ := deepM_ok h9
              rw [face_ok hx]
              dsimp only
              go_wp2_with fail
              go_at_call 10
              refine (SU _).mono ?_
              rintro e W5 ⟨rfl, b5⟩
              have b6 : Hid (Below w.heap.size w W5) := (b4.out _).trans (b5.mono (b4.out _).size)
              clear b5
              go_wp2
              go_ret
              exact ⟨rfl, b6.out⟩
            · rw [face_bad (deepM_bad (by omega))]
              dsimp only
              go_wp2_with fail
              go_at_call 10
              refine (SU _).mono ?_
              rintro e W5 ⟨rfl, b5⟩
              have b6 : Hid (Below w.heap.size w W5) := (b4.out _).trans (b5.mono (b4.out _).size)
              clear b5
              go_wp2
              go_ret
              exact ⟨rfl, b6.out⟩
end Go.Proofs.Ytmfgcaffdkakhaa
