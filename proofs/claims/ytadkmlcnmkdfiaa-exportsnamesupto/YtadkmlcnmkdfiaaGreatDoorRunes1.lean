/- The contracts of stray, Valid and Count of package runes, over a text cut into runes. -/
import Derived.Test.YtadkmlcnmkdfiaaGreatDoorShelf
import Derived.Test.YtadkmlcnmkdfiaaGreatDoorPlainA
import Derived.Test.YtadkmlcnmkdfiaaGreatDoorSmall
import Derived.WalkKit
import Derived.Laws.RangeString
import Derived.Laws.RangeAny
import Derived.LoopTactic
namespace Go.Proofs.YtadkmlcnmkdfiaaGreatDoor
open Go.RowKit

theorem drop_extract (s : ByteArray) (i : Nat) : (s.extract i s.size).data.toList = s.data.toList.drop i := by
  rw [ByteArray.data_extract]
  simp
  exact List.take_of_length_le (by simp)

theorem stray_any (s : ByteArray) (pos : Nat) (w : World) (h : pos < s.size) :
    Calls Tryz.prog 177 #[.string s, .int .i64 pos, .int .i32 (decL (s.data.toList.drop pos)).1] w fun e w' => e = .returned (.bool (strayL (s.data.toList.drop pos))) ∧ w' = w := by
  have hp := prefix_stray (s.data.toList.drop pos)
  have HP : Hid (Lib.hasPrefix (s.extract pos s.size).data.toList [239, 191, 189] = Lib.hasPrefix (s.data.toList.drop pos) [239, 191, 189]) := by rw [drop_extract]; trivial
  obtain ⟨d, hd⟩ : ∃ d, d = decL (s.data.toList.drop pos) := ⟨_, rfl⟩
  have HD : Hid (strayL (s.data.toList.drop pos) = (d.1 == 65533 && d.2 == 1)) := by rw [strayL, ← hd]; trivial
  rw [← hd] at hp ⊢
  clear hd
  by_cases hr : d.1 = 65533
  · have HQ : Hid (Lib.hasPrefix (s.extract pos s.size).data.toList [239, 191, 189] = !(d.2 == 1)) := HP.out.trans (hp hr)
    clear hp HP
    rw [HD.out]
    go_enter Tryz.func177, Tryz.ntmps177
    go_wp2_with (go_at_call 186; refine (Tryz.strings_HasPrefix _ _ _).mono ?_; rintro e w' ⟨rfl, rfl⟩)
    go_ret
    refine ⟨ret_bool ?_, rfl⟩
    have e := HQ.out
    rw [drop_extract] at e
    rw [List.take_of_length_le (by rw [List.length_drop, Lib.size_eq]; omega), e, hr]
    simp
  · clear hp HP
    rw [HD.out]
    have hb : ((d.1 : Int) == 65533) = false := by simp; omega
    go_enter Tryz.func177, Tryz.ntmps177
    go_wp2_with fail
    go_ret
    refine ⟨ret_bool ?_, rfl⟩
    simp [hr]

theorem drop_ne (s : ByteArray) (pos : Nat) (h : pos < s.size) : s.data.toList.drop pos ≠ [] := by
  intro e
  have := congrArg List.length e
  rw [List.length_drop, ← Lib.size_eq] at this
  simp at this
  omega
theorem drop_end (s : ByteArray) (pos : Nat) (h : ¬ pos < s.size) : s.data.toList.drop pos = [] := by
  apply List.drop_of_length_le
  rw [← Lib.size_eq]
  omega
theorem width_le (s : ByteArray) (pos : Nat) (h : pos < s.size) : pos + (decL (s.data.toList.drop pos)).2 ≤ s.size := by
  have := decL_le _ (drop_ne s pos h)
  rw [List.length_drop, ← Lib.size_eq] at this
  omega
theorem scan_drop (s : ByteArray) (pos : Nat) (h : pos < s.size) : scan (s.data.toList.drop pos) = ((decL (s.data.toList.drop pos)).1, (s.data.toList.drop pos).take (decL (s.data.toList.drop pos)).2) :: scan (s.data.toList.drop (pos + (decL (s.data.toList.drop pos)).2)) := by
  rw [scan_cons _ (drop_ne s pos h), List.drop_drop]
theorem run_next_dec {P : Program} (w : World) (s : ByteArray) (pos : Nat) (ty : TypeId) (h : pos < s.size) :
    (Instr.next (.pointer (some ⟨w.heap.size, 0, none⟩)) true ty).run P (w.iter s pos) =
      .ok (.tuple #[.bool true, .int .i64 pos, .int .i32 (decL (s.data.toList.drop pos)).1]) (w.iter s (pos + (decL (s.data.toList.drop pos)).2)) := by
  rw [← decode_eq]
  exact run_next_any w s pos ty h


set_option maxHeartbeats 1000000 in
/-- Valid: whether a text is runes. -/
theorem valid_any (s : ByteArray) (w : World) :
    Calls Tryz.prog 156 #[.string s] w fun e w' => e = .returned (.bool (validL s.data.toList)) ∧ Below w.heap.size w w' := by
  go_enter Tryz.func156, Tryz.ntmps156
  go_wp2
  go_loopw [] (fun w' => ∃ (pos : Nat), w' = w.iter s pos ∧ validL (s.data.toList.drop pos) = validL s.data.toList ∧ pos ≤ s.size) (fun w' => s.size - w'.iterPos w.heap.size)
  case atStart => exact ⟨0, rfl, by simp, by omega⟩
  case round =>
    obtain ⟨pos, rfl, hc, hb⟩ := hrel
    by_cases hp : pos < s.size
    · have hnx : ∀ ty, (Instr.next (.pointer (some ⟨w.heap.size, 0, none⟩)) true ty).run Tryz.prog (w.iter s pos) = _ := fun ty => run_next_dec w s pos ty hp
      have hwd := (decL_width (s.data.toList.drop pos)).1
      have hwl := width_le s pos hp
      have HC : Hid (validL (s.data.toList.drop pos) = validL s.data.toList) := hc
      clear hc
      have hcall := fun w1 => stray_any s pos w1 hp
      by_cases hst : strayL (s.data.toList.drop pos) = true
      · rw [hst] at hcall
        go_wp2_with (go_at_call 177; refine (hcall _).mono ?_; rintro e w' ⟨rfl, rfl⟩)
        go_ret
        exact ⟨ret_bool (by rw [← HC.out, validL_stray _ (drop_ne s pos hp) hst]), (Below.refl _ w).alloc (Nat.le_refl _) _⟩
      · have hst' : strayL (s.data.toList.drop pos) = false := by simpa using hst
        rw [hst'] at hcall
        clear hst
        go_wp2_with (go_at_call 177; refine (hcall _).mono ?_; rintro e w' ⟨rfl, rfl⟩)
        go_roundw
        case rel => exact ⟨_, rfl, by rw [← HC.out, validL_rune _ (drop_ne s pos hp) hst', List.drop_drop], hwl⟩
        case measure =>
          simp
          omega
    · have hnx : ∀ ty, (Instr.next (.pointer (some ⟨w.heap.size, 0, none⟩)) true ty).run Tryz.prog (w.iter s pos) = _ := fun ty => run_next_end w s pos ty hp
      rw [drop_end s pos hp, validL_nil] at hc
      have HC : Hid (validL s.data.toList = true) := hc.symm
      clear hc
      go_wp2
      go_ret
      exact ⟨ret_bool (by rw [HC.out]), (Below.refl _ w).alloc (Nat.le_refl _) _⟩
end Go.Proofs.YtadkmlcnmkdfiaaGreatDoor
