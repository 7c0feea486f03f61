/- Own text. The document's Probes. -/
import Derived.Test.YtlogohcfahmilaaP5
namespace Go.Proofs.Ytlogohcfahmilaa
open Go.RowKit
set_option linter.unusedVariables false

theorem row_mono {w : World} {base base' : Nat} {e : TypeId} {size : Nat} {v : Value} {n : Nat} {xs : List Value} (h : w.ownsRow base e size v n xs) (hb : base' ≤ base) : w.ownsRow base' e size v n xs := by
  refine ⟨h.1, ?_⟩
  rcases h.2 with h2 | ⟨g, cap, cur, h1, h2, h3⟩
  · exact .inl h2
  · exact .inr ⟨g, cap, cur, h1, Nat.le_trans hb h2, h3⟩

set_option maxHeartbeats 4000000 in
set_option maxRecDepth 100000 in
theorem refProbes_any (s : ByteArray) (w : World) (hs : s.size ≤ 140737488355328) : Calls Try.prog 16 #[.string s] w fun e w' =>
    ∃ v, e = .returned v ∧ Texts w' w.heap.size v (prb s.data.toList) ∧ Below w.heap.size w w' := by
  obtain ⟨i0, hi, hz0, hz1, hz2⟩ := info_parts info_str
  obtain ⟨cs, hcs⟩ : ∃ cs : Array Value, cs = #[.string s, .string (s ++ ⟨#[46, 116, 115]⟩), .string (s ++ ⟨#[47, 105, 110, 100, 101, 120, 46, 116, 115]⟩)] := ⟨_, rfl⟩
  have hrow := World.ownsRow_lit (base := w.heap.size) (e := 9) (size := 1) w cs 3 (Nat.le_refl _) (by unfold maxLen; decide) (by rw [hcs]; rfl)
  obtain ⟨W1, hW1⟩ : ∃ W1, W1 = w.alloc (.cells cs 9) := ⟨_, rfl⟩
  have HC : Hid (∀ k, k < 3 → ∃ X, W1.cell? ⟨w.heap.size, k, none⟩ = some (.string X) ∧ ∃ e, endS[k]? = some e ∧ X.data.toList = s.data.toList ++ e ∧ X.size = s.data.toList.length + e.length) := by
    intro k hk
    rw [← hW1] at hrow
    rw [hrow.cellAt k (by omega), hcs]
    have h3 : k = 0 ∨ k = 1 ∨ k = 2 := by omega
    rcases h3 with rfl | rfl | rfl
    · exact ⟨s, rfl, [], rfl, by simp, by rw [Lib.size_eq]; rfl⟩
    · exact ⟨_, rfl, _, rfl, append_list _ _, by rw [Lib.size_eq, append_list]; simp⟩
    · exact ⟨_, rfl, _, rfl, append_list _ _, by rw [Lib.size_eq, append_list]; simp⟩
  have hB1 : Below w.heap.size w W1 := by rw [hW1]; exact (Below.refl _ w).alloc (Nat.le_refl _) _
  have hz1' : W1.heap.size = w.heap.size + 1 := by rw [hW1]; simp
  have HW : Hid (w.alloc (.cells cs 9) = W1) := hW1.symm
  clear hrow hW1
  rw [hcs] at HW
  clear hcs
  go_enter Try.func16, Try.ntmps16
  go_wp2
  rw [HW.out]
  go_loopw [3, 5] (fun v3 v5 W => ∃ k : Nat, k ≤ 3 ∧ v5 = .int .i64 k ∧ Texts W W1.heap.size v3 (prbN s.data.toList k) ∧ Below W1.heap.size W1 W) (fun _ v5 _ => 3 - (intOf v5).toNat)
  case atStart => exact ⟨0, by omega, rfl, World.ownsRow_nil _ _ _ _, Below.refl _ _⟩
  case round =>
    obtain ⟨k, hk, rfl, ht, hb⟩ := hrel
    by_cases hk3 : k = 3
    · subst hk3
      go_wp2
      go_ret
      exact ⟨_, rfl, row_mono ht (by omega), hB1.trans (hb.mono (by omega))⟩
    · have hln := prbN_len s.data.toList k
      obtain ⟨X, hX, e, he, hXl, hXs⟩ := HC.out k (by omega)
      have hce : wr.cell? ⟨w.heap.size, k, none⟩ = some (.string X) := (hb.cell (p := ⟨w.heap.size, k, none⟩) (by simp; omega)).trans hX
      have HE : Hid (endS[k]? = some e ∧ X.data.toList = s.data.toList ++ e ∧ X.size = s.data.toList.length + e.length) := ⟨he, hXl, hXs⟩
      have hk4 : (k : Int) < 3 := by omega
      clear hX he hXl hXs HC
      by_cases hl : X.size ≤ 200
      · have hl2 : (X.size : Int) ≤ 200 := by omega
        go_wp2_with (at_builtin; refine wpList_append_own _ rfl _ _ 33 rfl W1.heap.size 9 i0 (.string ByteArray.empty) 1 16 Try.underlying33 hi hz0 hz1 hz2 rfl (by decide) _ _ _ rfl (ht.alloc _) ⟨_, 0, none⟩ 1 1 [.string X] rfl rfl (cell_one_new _ _ _) (fun x hx => by simp at hx; subst hx; rfl) (by unfold maxLen; omega) (by omega) (by have h1 := hb.size; simp; omega) ?_; intro v1 W3 ho1 hg1 hn1)
        go_roundw
        case rel =>
          obtain ⟨he, hXl, hXs⟩ := HE.out
          refine ⟨k + 1, by omega, by simp, ?_, ?_⟩
          · rw [prbN_yes _ _ _ he (by omega)]
            exact texts_app ho1 hXl
          · exact (hb.alloc hb.size _).grown hg1 (by have := hb.size; simp; omega) (fun j hj => (ht.lt j hj).1)
        case measure => simp [intOf]; omega
      · have hl2 : ¬ (X.size : Int) ≤ 200 := by omega
        go_wp2
        go_roundw
        case rel =>
          obtain ⟨he, hXl, hXs⟩ := HE.out
          refine ⟨k + 1, by omega, by simp, ?_, hb⟩
          rw [prbN_no _ _ _ he (by omega)]
          exact ht
        case measure => simp [intOf]; omega

end Go.Proofs.Ytlogohcfahmilaa
