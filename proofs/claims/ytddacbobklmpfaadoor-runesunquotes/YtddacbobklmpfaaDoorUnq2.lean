/- The contracts of the reader's steps: what each rune does to it. -/
import Derived.Test.YtddacbobklmpfaaDoorUnq1
namespace Go.Proofs.YtddacbobklmpfaaDoor
open Go.RowKit

theorem takeFirst_any (b : Nat) (u : Unq) (r : Int) (w : World) (hI : IsUnq b u w) :
    Calls Tryd.prog 40 #[.pointer (some ⟨b, 0, none⟩), .int .i32 r] w fun e w' => UnqPost b (stepFirst u r) w e w' := by
  have hf := hI.free
  obtain ⟨a, c, h0, h1, h2, h3, h4, ho⟩ := hI.cells
  clear h2 h3 h4 ho
  go_enter Tryd.func40, Tryd.ntmps40
  by_cases hr : r = 34 ∨ r = 39
  · have HS : Hid (stepFirst u r = some { u with st := 1, q := r }) := by rw [stepFirst, if_pos hr]; trivial
    rcases hr with rfl | rfl
    all_goals
      go_wp2
      go_ret
      exact unqPost_some HS.out rfl (below_set (below_set (Below.refl _ _))) ((hI.set0 1).set1 _) (keep_set (keep_set (Lib.OthersKept.refl _ _ _)))
  · have HS : Hid (stepFirst u r = none) := by rw [stepFirst, if_neg hr]; trivial
    have b1 : (r == 34) = false := by simp; omega
    have b2 : (r == 39) = false := by simp; omega
    clear hr
    go_wp2
    go_ret
    exact unqPost_none HS.out rfl (below_set (below_set (Below.refl _ _)))

theorem takeInside_any (b : Nat) (u : Unq) (r : Int) (w : World) (hr0 : -2147483648 ≤ r) (hr1 : r ≤ 2147483647) (hI : IsUnq b u w) (hl : u.said.length + 4 ≤ 140737488355328) :
    Calls Tryd.prog 41 #[.pointer (some ⟨b, 0, none⟩), .int .i32 r] w fun e w' => UnqPost b (stepInside u r) w e w' := by
  have hf := hI.free
  obtain ⟨a, c, h0, h1, h2, h3, h4, ho⟩ := hI.cells
  clear h2 h3 h4 ho
  have hsay := say_any b u r w hr0 hr1 hI hl
  go_enter Tryd.func41, Tryd.ntmps41
  by_cases hr : r = 10 ∨ r = 13
  · have HS : Hid (stepInside u r = none) := by rw [stepInside, if_pos hr]; trivial
    rcases hr with rfl | rfl
    all_goals
      go_wp2
      go_ret
      exact unqPost_none HS.out rfl (Below.refl _ _)
  · have b10 : (r == 10) = false := by simp; omega
    have b13 : (r == 13) = false := by simp; omega
    by_cases hq : r = u.q
    · have HS : Hid (stepInside u r = some (u.to 5)) := by rw [stepInside, if_neg hr, if_pos hq]; trivial
      have bq : (r == u.q) = true := by simp; exact hq
      clear hr hq
      go_wp2_with fail
      go_ret
      exact unqPost_some HS.out rfl (below_set (Below.refl _ _)) (hI.set0 5) (keep_set (Lib.OthersKept.refl _ _ _))
    · have bq : (r == u.q) = false := by simp; exact hq
      by_cases h92 : r = 92
      · have HS : Hid (stepInside u r = some (u.to 2)) := by rw [stepInside, if_neg hr, if_neg hq, if_pos h92]; trivial
        clear hr hq
        subst h92
        go_wp2_with fail
        go_ret
        exact unqPost_some HS.out rfl (below_set (Below.refl _ _)) (hI.set0 2) (keep_set (Lib.OthersKept.refl _ _ _))
      · have HS : Hid (stepInside u r = some (u.say r)) := by rw [stepInside, if_neg hr, if_neg hq, if_neg h92]; trivial
        have b92 : (r == 92) = false := by simp; exact h92
        clear hr hq h92
        go_wp2_with (go_at_call 49; refine hsay.mono ?_; rintro e w' ⟨rfl, hb, hi, hk⟩)
        go_ret
        exact unqPost_some HS.out rfl hb hi hk

theorem takeEscaped_any (b : Nat) (u : Unq) (r : Int) (w : World) (hr0 : -2147483648 ≤ r) (hr1 : r ≤ 2147483647) (hI : IsUnq b u w) (hl : u.said.length + 4 ≤ 140737488355328) :
    Calls Tryd.prog 42 #[.pointer (some ⟨b, 0, none⟩), .int .i32 r] w fun e w' => UnqPost b (stepEscaped u r) w e w' := by
  have hf := hI.free
  obtain ⟨a, c, h0, h1, h2, h3, h4, ho⟩ := hI.cells
  clear h1 h2 h3 h4 ho
  have hsay := fun r h0 h1 => say_any b u r w h0 h1 hI hl
  go_enter Tryd.func42, Tryd.ntmps42
  by_cases h110 : r = 110
  · have HS : Hid (stepEscaped u r = some (u.say 10)) := by rw [stepEscaped, if_pos h110]; trivial
    subst h110
    go_wp2_with (go_at_call 49; refine (hsay 10 (by omega) (by omega)).mono ?_; rintro e w' ⟨rfl, hb, hi, hk⟩)
    go_ret
    exact unqPost_some HS.out rfl hb hi hk
  have b110 : (r == 110) = false := by simp; exact h110
  by_cases h116 : r = 116
  · have HS : Hid (stepEscaped u r = some (u.say 9)) := by rw [stepEscaped, if_neg h110, if_pos h116]; trivial
    clear h110
    subst h116
    go_wp2_with (go_at_call 49; refine (hsay 9 (by omega) (by omega)).mono ?_; rintro e w' ⟨rfl, hb, hi, hk⟩)
    go_ret
    exact unqPost_some HS.out rfl hb hi hk
  have b116 : (r == 116) = false := by simp; exact h116
  by_cases hs3 : r = 34 ∨ r = 39 ∨ r = 92
  · have HS : Hid (stepEscaped u r = some (u.say r)) := by rw [stepEscaped, if_neg h110, if_neg h116, if_pos hs3]; trivial
    clear h110 h116
    rcases hs3 with rfl | rfl | rfl
    all_goals
      go_wp2_with (go_at_call 49; refine (hsay _ (by omega) (by omega)).mono ?_; rintro e w' ⟨rfl, hb, hi, hk⟩)
      go_ret
      exact unqPost_some HS.out rfl hb hi hk
  have b34 : (r == 34) = false := by simp; omega
  have b39 : (r == 39) = false := by simp; omega
  have b92 : (r == 92) = false := by simp; omega
  by_cases h117 : r = 117
  · have HS : Hid (stepEscaped u r = some (u.to 3)) := by rw [stepEscaped, if_neg h110, if_neg h116, if_neg hs3, if_pos h117]; trivial
    clear h110 h116 hs3
    subst h117
    go_wp2_with fail
    go_ret
    exact unqPost_some HS.out rfl (below_set (Below.refl _ _)) (hI.set0 3) (keep_set (Lib.OthersKept.refl _ _ _))
  have b117 : (r == 117) = false := by simp; exact h117
  have HS : Hid (stepEscaped u r = none) := by rw [stepEscaped, if_neg h110, if_neg h116, if_neg hs3, if_neg h117]; trivial
  clear h110 h116 hs3 h117
  go_wp2_with fail
  go_ret
  exact unqPost_none HS.out rfl (Below.refl _ _)

theorem pow_dig (n : Nat) (h : n ≤ 5) : 16 ^ n ≤ 1048576 := Nat.le_trans (Nat.pow_le_pow_right (by omega) h) (by decide)
theorem pow_dig6 (n : Nat) (h : n ≤ 6) : 16 ^ n ≤ 16777216 := Nat.le_trans (Nat.pow_le_pow_right (by omega) h) (by decide)

set_option maxHeartbeats 1000000 in
theorem takeCounting_any (b : Nat) (u : Unq) (r : Int) (w : World) (hr0 : -2147483648 ≤ r) (hr1 : r ≤ 2147483647) (hI : IsUnq b u w) (hl : u.said.length + 4 ≤ 140737488355328) (hd : u.dig ≤ 6) (hn : u.num < 16 ^ u.dig) :
    Calls Tryd.prog 43 #[.pointer (some ⟨b, 0, none⟩), .int .i32 r] w fun e w' => UnqPost b (stepCounting u r) w e w' := by
  have hf := hI.free
  obtain ⟨a, c, h0, h1, h2, h3, h4, ho⟩ := hI.cells
  clear h0 h1 h2 ho
  have h6 := pow_dig6 u.dig hd
  by_cases h125 : r = 125
  · have hsay := say_any b u u.num w (by omega) (by omega) hI hl
    by_cases hno : u.dig = 0
    · have HS : Hid (stepCounting u r = none) := by rw [stepCounting, if_pos h125, if_pos (Or.inl hno)]; trivial
      rw [hno] at h4
      subst h125
      clear hno hn h6 hd
      go_enter Tryd.func43, Tryd.ntmps43
      go_wp2_with fail
      go_ret
      exact unqPost_none HS.out rfl (Below.refl _ _)
    · have bd : ((u.dig : Int) == 0) = false := by simp; exact hno
      have hvr := fun w1 => Tryd.utf8_ValidRune (u.num : Int) w1
      by_cases hv : Lib.validRune (u.num : Int) = false
      · have hs0 : stepCounting u r = none := by rw [stepCounting, if_pos h125, if_pos (Or.inr hv)]
        have HS : Hid (stepCounting u r = none) := hs0
        clear hs0
        rw [hv] at hvr
        subst h125
        clear hno hn h6 hd hv
        go_enter Tryd.func43, Tryd.ntmps43
        go_wp2_with (go_at_call 50; refine (hvr _).mono ?_; rintro e w' ⟨rfl, rfl⟩)
        go_ret
        exact unqPost_none HS.out rfl (Below.refl _ _)
      · have hv' : Lib.validRune (u.num : Int) = true := by simpa using hv
        have hs0 : stepCounting u r = some (u.say u.num) := by rw [stepCounting, if_pos h125, if_neg (by simp [hno, hv'])]
        have HS : Hid (stepCounting u r = some (u.say u.num)) := hs0
        clear hs0
        rw [hv'] at hvr
        subst h125
        clear hno hn h6 hd hv hv'
        go_enter Tryd.func43, Tryd.ntmps43
        go_wp2_with (first | (go_at_call 50; refine (hvr _).mono ?_; rintro e w' ⟨rfl, rfl⟩) | (go_at_call 49; refine hsay.mono ?_; rintro e w' ⟨rfl, hb, hi, hk⟩))
        go_ret
        exact unqPost_some HS.out rfl hb hi hk
  · have b125 : (r == 125) = false := by simp; exact h125
    by_cases hx : hexv r < 0
    · have HS : Hid (stepCounting u r = none) := by rw [stepCounting, if_neg h125, if_pos (Or.inl hx)]; trivial
      have hh := fun w1 => hexDigit_no r w1 hr0 hr1 hx
      clear h125 hx hn h6
      go_enter Tryd.func43, Tryd.ntmps43
      go_wp2_with (go_at_call 51; refine (hh _).mono ?_; rintro e w' ⟨rfl, rfl⟩)
      go_ret
      exact unqPost_none HS.out rfl (Below.refl _ _)
    · have hh := fun w1 => hexDigit_yes r w1 hr0 hr1 (by omega)
      have hrg := hexv_range r
      obtain ⟨d, hdd⟩ : ∃ d : Nat, hexv r = (d : Int) := ⟨(hexv r).toNat, by omega⟩
      rw [hdd] at hh
      have hd15 : d ≤ 15 := by omega
      by_cases h6d : u.dig = 6
      · have HS : Hid (stepCounting u r = none) := by rw [stepCounting, if_neg h125, if_pos (Or.inr h6d)]; trivial
        rw [h6d] at h4
        clear h125 hx hn h6 hdd hrg h6d hd
        go_enter Tryd.func43, Tryd.ntmps43
        go_wp2_with (go_at_call 51; refine (hh _).mono ?_; rintro e w' ⟨rfl, rfl⟩)
        go_ret
        exact unqPost_none HS.out rfl (Below.refl _ _)
      · have HS : Hid (stepCounting u r = some { u with num := u.num * 16 + d, dig := u.dig + 1 }) := by
          rw [stepCounting, if_neg h125, if_neg (by omega), hdd]
          exact rfl
        have b6 : ((u.dig : Int) == 6) = false := by simp; omega
        have h5 := pow_dig u.dig (by omega)
        have hnum : u.num < 1048576 := by omega
        have HI2 : Hid (IsUnq b { u with num := u.num * 16 + d, dig := u.dig + 1 } ((w.setCell ⟨b, 3, none⟩ (.int .i32 ((u.num * 16 + d : Nat) : Int))).setCell ⟨b, 4, none⟩ (.int .i64 ((u.dig + 1 : Nat) : Int)))) := (hI.set3 _).set4 _
        clear h125 hx hn h6 hdd hrg h6d h5
        go_enter Tryd.func43, Tryd.ntmps43
        go_wp2_with (go_at_call 51; refine (hh _).mono ?_; rintro e w' ⟨rfl, rfl⟩)
        go_ret
        refine unqPost_some HS.out rfl (below_set (below_set (Below.refl _ _))) ?_ (keep_set (keep_set (Lib.OthersKept.refl _ _ _)))
        have := HI2.out
        simpa using this
end Go.Proofs.YtddacbobklmpfaaDoor
