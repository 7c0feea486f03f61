/- The contract of Slice of package runes, where something lies between the places. -/
import Derived.Test.YtddacbobklmpfaaDoorRunes1
import Derived.Test.YtddacbobklmpfaaDoorPlain3
import Derived.Test.YtddacbobklmpfaaDoorHex
namespace Go.Proofs.YtddacbobklmpfaaDoor
open Go.RowKit

/-- Where the part begins, as far as n runes have been seen. -/
def bgn (xs : Rns) (a size n : Nat) : Nat := if n ≤ a then size else offs xs a
theorem bgn_lo (xs : Rns) (a size n : Nat) (h : n ≤ a) : bgn xs a size n = size := by rw [bgn, if_pos h]
theorem bgn_hi (xs : Rns) (a size n : Nat) (h : a < n) : bgn xs a size n = offs xs a := by rw [bgn, if_neg (by omega)]
theorem bgn_step (xs : Rns) (a size n : Nat) (h : n ≠ a) : bgn xs a size (n + 1) = bgn xs a size n := by
  unfold bgn
  by_cases h1 : n ≤ a
  · rw [if_pos h1, if_pos (by omega)]
  · rw [if_neg h1, if_neg (by omega)]

/-- What a rune at hand says of the runes behind it. -/
theorem drop_facts (s : ByteArray) (n pos : Nat) (hp : pos < s.size) (h : scan (s.data.toList.drop pos) = (scan s.data.toList).drop n) (ho : pos = offs (scan s.data.toList) n) :
    n < (scan s.data.toList).length ∧ scan (s.data.toList.drop (pos + (decL (s.data.toList.drop pos)).2)) = (scan s.data.toList).drop (n + 1) ∧ pos + (decL (s.data.toList.drop pos)).2 = offs (scan s.data.toList) (n + 1) := by
  have hw := width_le s pos hp
  rw [scan_drop s pos hp] at h
  have hn : n < (scan s.data.toList).length := by
    refine Decidable.byContradiction fun hn => ?_
    have e : (scan s.data.toList).drop n = [] := List.drop_of_length_le (by omega)
    rw [e] at h
    exact absurd h (by simp)
  have hd := List.drop_eq_getElem_cons hn
  rw [hd] at h
  injection h with h1 h2
  refine ⟨hn, h2, ?_⟩
  rw [offs_succ _ n hn, ← ho, ← h1]
  simp only [List.length_take, List.length_drop, ← Lib.size_eq]
  omega

theorem extract_list (s : ByteArray) (a b : Nat) : s.extract a b = ⟨((s.data.toList.take b).drop a).toArray⟩ := by
  apply ByteArray.ext
  apply Array.ext'
  simp [ByteArray.data_extract]
  exact List.drop_take.symm
theorem part_extract (s : ByteArray) (a b : Nat) (h : a ≤ b) : s.extract (offs (scan s.data.toList) a) (offs (scan s.data.toList) b) = ⟨(part (scan s.data.toList) a b).toArray⟩ := by
  rw [extract_list, ← part_bytes _ a b h, scan_bytes]
theorem clone_any (s : ByteArray) (w : World) (hs : s.size ≤ 281474976710656) : Calls Tryd.prog 26 #[.string s] w fun e w' => e = .returned (.string s) ∧ Below w.heap.size w w' := by
  go_enter Tryd.func26, Tryd.ntmps26
  go_wp2_with (go_at_call 36; refine (Tryd.stringslite_Clone s _ hs).mono ?_; rintro e w' ⟨rfl, hb⟩)
  go_ret
  exact ⟨rfl, hb⟩

set_option maxHeartbeats 4000000 in
theorem slice_core (s : ByteArray) (f t : Int) (a b : Nat) (w : World) (hs : s.size ≤ 140737488351232) (ha : max f 0 = (a : Int)) (hb : t = (b : Int)) (hab : a < b) :
    Calls Tryd.prog 14 #[.string s, .int .i64 f, .int .i64 t] w fun e w' => e = .returned (.string ⟨(part (scan s.data.toList) a b).toArray⟩) ∧ Below w.heap.size w w' := by
  subst hb
  go_enter Tryd.func14, Tryd.ntmps14
  go_wp2
  go_loopw [7, 8, 9] (fun bg ed nn w' => ∃ (pos n : Nat), w' = w.iter s pos ∧ bg = .int .i64 (bgn (scan s.data.toList) a s.size n : Nat) ∧ ed = .int .i64 (s.size : Nat) ∧ nn = .int .i64 (n : Nat) ∧ pos = offs (scan s.data.toList) n ∧ scan (s.data.toList.drop pos) = (scan s.data.toList).drop n ∧ n ≤ b ∧ pos ≤ s.size ∧ n ≤ pos) (fun _ _ _ w' => s.size - w'.iterPos w.heap.size)
  case atStart => exact ⟨0, 0, rfl, by rw [bgn_lo _ _ _ _ (by omega)], rfl, rfl, by rw [offs_zero], rfl, by omega, by omega, by omega⟩
  case round =>
    obtain ⟨pos, n, rfl, rfl, rfl, rfl, ho, hsc, hnb, hps, hnp⟩ := hrel
    by_cases hp : pos < s.size
    · have hnx : ∀ ty, (Instr.next (.pointer (some ⟨w.heap.size, 0, none⟩)) true ty).run Tryd.prog (w.iter s pos) = _ := fun ty => run_next_dec w s pos ty hp
      obtain ⟨hnl, hsc2, ho2⟩ := drop_facts s n pos hp hsc ho
      have hwd := (decL_width (s.data.toList.drop pos)).1
      have hwl := width_le s pos hp
      have HO : Hid (pos = offs (scan s.data.toList) n) := ho
      have HO2 : Hid (pos + (decL (s.data.toList.drop pos)).2 = offs (scan s.data.toList) (n + 1)) := ho2
      have HS2 : Hid (scan (s.data.toList.drop (pos + (decL (s.data.toList.drop pos)).2)) = (scan s.data.toList).drop (n + 1)) := hsc2
      clear ho ho2 hsc hsc2
      by_cases hna : n = a
      · have HB : Hid (bgn (scan s.data.toList) a s.size (n + 1) = pos) := by rw [bgn_hi _ _ _ _ (by omega), ← hna, ← HO.out]; trivial
        have b1 : ((n : Int) == (a : Int)) = true := by simp; omega
        have b2 : ((n : Int) == (b : Int)) = false := by simp; omega
        have HN : Hid (n + 1 ≤ b) := (by omega : n + 1 ≤ b)
        clear hna
        go_wp2
        go_roundw
        case rel => exact ⟨_, n + 1, rfl, by rw [HB.out], rfl, by go_num, HO2.out, HS2.out, HN.out, hwl, by omega⟩
        case measure =>
          simp
          omega
      · have b1 : ((n : Int) == (a : Int)) = false := by simp; omega
        by_cases hnb2 : n = b
        · have HB : Hid (bgn (scan s.data.toList) a s.size n = offs (scan s.data.toList) a) := by rw [bgn_hi _ _ _ _ (by omega)]; trivial
          have hmo := offs_mono (scan s.data.toList) a b (by omega)
          have HP : Hid (s.extract (offs (scan s.data.toList) a) pos = ⟨(part (scan s.data.toList) a b).toArray⟩) := by rw [HO.out, hnb2, part_extract s a b (by omega)]; trivial
          have b2 : ((n : Int) == (b : Int)) = true := by simp; omega
          have hop : offs (scan s.data.toList) a ≤ pos := by rw [HO.out, hnb2]; exact hmo
          rw [HB.out]
          generalize offs (scan s.data.toList) a = oa at *
          have hsz := Lib.size_eq (s.extract oa pos)
          rw [extract_list, List.toList_toArray, List.length_drop, List.length_take, ← Lib.size_eq, ← extract_list] at hsz
          have hcl := fun w1 => clone_any (s.extract oa pos) w1 (by omega)
          clear hna hnb2 hmo hsz
          go_wp2_with (go_at_call 26; refine (hcl _).mono ?_)
          rintro e W1 ⟨rfl, hb1⟩
          go_wp2
          go_ret
          exact ⟨ret_str HP.out, ((Below.refl _ w).alloc (Nat.le_refl _) _).trans (hb1.mono (by simp [World.iter]))⟩
        · have b2 : ((n : Int) == (b : Int)) = false := by simp; omega
          have HB : Hid (bgn (scan s.data.toList) a s.size (n + 1) = bgn (scan s.data.toList) a s.size n) := bgn_step _ _ _ _ hna
          have HN : Hid (n + 1 ≤ b) := (by omega : n + 1 ≤ b)
          clear hna
          go_wp2
          go_roundw
          case rel => exact ⟨_, n + 1, rfl, by rw [HB.out], rfl, by go_num, HO2.out, HS2.out, HN.out, hwl, by omega⟩
          case measure =>
            simp
            omega
    · have hnx : ∀ ty, (Instr.next (.pointer (some ⟨w.heap.size, 0, none⟩)) true ty).run Tryd.prog (w.iter s pos) = _ := fun ty => run_next_end w s pos ty hp
      have hlen : (scan s.data.toList).length ≤ n := by
        rw [drop_end s pos hp, scan_nil] at hsc
        have := congrArg List.length hsc
        rw [List.length_drop, List.length_nil] at this
        omega
      have hall : ∀ k, (scan s.data.toList).length ≤ k → offs (scan s.data.toList) k = s.size := fun k hk => by rw [offs_all _ _ hk, scan_bytes, ← Lib.size_eq]
      have hbg : bgn (scan s.data.toList) a s.size n = offs (scan s.data.toList) a := by
        by_cases h : n ≤ a
        · rw [bgn_lo _ _ _ _ h, hall a (by omega)]
        · rw [bgn_hi _ _ _ _ (by omega)]
      have HP : Hid (s.extract (offs (scan s.data.toList) a) s.size = ⟨(part (scan s.data.toList) a b).toArray⟩) := by
        have := part_extract s a b (by omega)
        rw [hall b (by omega)] at this
        exact this
      have hop : offs (scan s.data.toList) a ≤ s.size := by
        have := offs_mono (scan s.data.toList) a b (by omega)
        rw [hall b (by omega)] at this
        exact this
      rw [hbg]
      clear hbg hall hlen hsc ho
      generalize offs (scan s.data.toList) a = oa at *
      have hsz := Lib.size_eq (s.extract oa s.size)
      rw [extract_list, List.toList_toArray, List.length_drop, List.length_take, ← Lib.size_eq, ← extract_list] at hsz
      have hcl := fun w1 => clone_any (s.extract oa s.size) w1 (by omega)
      clear hsz
      go_wp2_with (go_at_call 26; refine (hcl _).mono ?_)
      rintro e W1 ⟨rfl, hb1⟩
      go_wp2
      go_ret
      exact ⟨ret_str HP.out, ((Below.refl _ w).alloc (Nat.le_refl _) _).trans (hb1.mono (by simp [World.iter]))⟩
end Go.Proofs.YtddacbobklmpfaaDoor
