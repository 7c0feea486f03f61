/- Own text. LexBack, walked. -/
import Derived.Test.YtaiefheejgfefaaDoorXSure
import Derived.Test.YtaiefheejgfefaaDoorX13
import Derived.Test.YtaiefheejgfefaaDoorX15
import Derived.Test.YtaiefheejgfefaaDoorYA
namespace Go.Proofs.YtaiefheejgfefaaDoor.lexBack
open Go.RowKit
set_option linter.unusedVariables false

theorem kinds_int (ts : List (Tk × Nat)) : kindsI (ints ts) = kinds ts := by simp [kindsI, kinds, ints, Function.comp_def]
theorem text_of {l : Bs} (h : l ≠ []) : (⟨l.toArray⟩ : ByteArray).toList.isEmpty = false := empty_not (by simpa using h)

/-- what is shown of tokens that came in, and what is read of it. -/
theorem shown_back (ks : List Tk) (hn : ∀ t ∈ ks, t.2.2 ≤ 9223372036854775807) (h : showL ks ≠ []) : ∃ ts, lexL 0 (showL ks) true = .ok ts ∧ kinds ts = ks := by
  cases hk : textsL ks with
  | none => exact absurd (by unfold showL; rw [hk]) h
  | some ss =>
    have hs : showL ks = joinB ss := by unfold showL; rw [hk]
    rw [hs]
    exact shown_read ks ss 0 hk

set_option maxHeartbeats 8000000 in
set_option maxRecDepth 100000 in
theorem walk (v : Value) (S : List (Tk × Int)) (s : ByteArray) (w : World) (f0 : TAt w v S) (g0 : TSrc w v S) (s0 : S.length ≤ 1048576 ∧ sumT (kindsI S) ≤ 1048576 ∧ ∀ x ∈ S, x.1.2.1.length ≤ 1048576 ∧ -9223372036854775808 ≤ x.1.2.2 ∧ x.1.2.2 ≤ 9223372036854775807) (hs : s.size ≤ 1048576) (he : Env w) :
    Calls Tryd.prog 6 #[v, .string s] w fun e w' => e = .returned (.bool true) ∧ Below w.heap.size w w' := by
  obtain ⟨z1, z2, z3⟩ := s0
  clear g0
  have hsl : Hid (s.size = s.data.toList.length) := Lib.size_eq s
  have hkn : ∀ t ∈ kindsI S, t.2.2 ≤ 9223372036854775807 := by
    intro t ht
    obtain ⟨x, hx, rfl⟩ := List.mem_map.1 ht
    exact (z3 x hx).2.2
  have sh1 := show_any v S w he f0 z1 (fun x hx => by have := z3 x hx; exact ⟨by omega, this.2.1, this.2.2⟩)
  have hlen := show_len (kindsI S) hkn
  have hkl : (kindsI S).length = S.length := by simp [kindsI]
  have hTs : (⟨(showL (kindsI S)).toArray⟩ : ByteArray).size < 4294967281 := by rw [Lib.size_eq]; simp; omega
  have l1 := fun W h => lex_any ⟨(showL (kindsI S)).toArray⟩ true W h hTs
  rw [show (⟨(showL (kindsI S)).toArray⟩ : ByteArray).data.toList = showL (kindsI S) from rfl] at l1
  have l2 := fun W h => lex_any s false W h (by omega)
  have ph1 : (⟨(showL (kindsI S)).toArray⟩ : ByteArray).toList.isEmpty = true ∨ ((⟨(showL (kindsI S)).toArray⟩ : ByteArray).toList.isEmpty = false ∧ ∃ ts, lexL 0 (showL (kindsI S)) true = .ok ts ∧ Hid (kindsI (ints ts) = kindsI S)) := by
    by_cases h : showL (kindsI S) = []
    · exact .inl (empty_iff (by simpa using h))
    · obtain ⟨ts, h1, h2⟩ := shown_back _ hkn h
      exact .inr ⟨text_of h, ts, h1, by rw [Hid, kinds_int]; exact h2⟩
  clear hlen hkl hTs hkn
  generalize showL (kindsI S) = R at *
  generalize (⟨R.toArray⟩ : ByteArray) = T at *
  cases hl : lexL 0 s.data.toList false with
  | error c =>
    have hc0 : ((c.2 : Int) == 0) = false := int_eqb (by rcases lexF_err _ _ _ _ _ hl with h | h <;> omega)
    rw [hl] at l2
    simp only [lexRes] at l2
    clear hl
    rcases ph1 with hT | ⟨hT, ts1, hr, hK⟩
    · clear l1
      go_enter Tryd.func6, Tryd.ntmps6
      go_wp2_with (first
        | (go_at_call 13; refine sh1.mono ?_; rintro e W1 ⟨rfl, hb1⟩)
        | (go_at_call 9; refine (l2 _ (env_below he hb1)).mono ?_; rintro e W4 ⟨rfl, hb4⟩; have hb4w : Below w.heap.size w W4 := hb1.trans (hb4.mono hb1.size))
        | (go_at_call 12; refine (sure_any _ (env_below he hb4w)).mono ?_; rintro e W8 ⟨rfl, hb8⟩))
      go_ret
      exact ⟨rfl, hb4w.trans (hb8.mono hb4w.size)⟩
    · rw [hr] at l1
      simp only [lexRes] at l1
      have hlu : (ints ts1).length ≤ 4611686018427387904 := by
        have h1 : (kindsI (ints ts1)).length = (kindsI S).length := by rw [hK.out]
        simp only [kindsI, List.length_map] at h1
        omega
      have hD : Hid (decide (kindsI (ints ts1) = kindsI S) = true) := by
        show _ = _
        rw [hK.out]; simp
      clear hr hK
      generalize ints ts1 = us1 at *
      have tokL1 : True := trivial
      go_enter Tryd.func6, Tryd.ntmps6
      go_wp2_with (first
        | (go_at_call 13; refine sh1.mono ?_; rintro e W1 ⟨rfl, hb1⟩)
        | (go_at_call 9; have _t := tokL1; refine (l1 _ (env_below he hb1)).mono ?_; rintro e W2 ⟨⟨v2, rfl, hr2⟩, hb2⟩; have hb2w : Below w.heap.size w W2 := hb1.trans (hb2.mono hb1.size); clear tokL1)
        | (go_at_call 17; refine (same_ref _ _ us1 S _ (tat_row hr2) (f0.below hb2w (Nat.le_refl _)) hlu).mono ?_; rw [hD.out]; rintro e W3 ⟨rfl, hb3⟩; have hb3w : Below w.heap.size w W3 := hb2w.trans (hb3.mono hb2w.size))
        | (go_at_call 9; refine (l2 _ (env_below he hb3w)).mono ?_; rintro e W4 ⟨rfl, hb4⟩; have hb4w : Below w.heap.size w W4 := hb3w.trans (hb4.mono hb3w.size))
        | (go_at_call 12; refine (sure_any _ (env_below he hb4w)).mono ?_; rintro e W8 ⟨rfl, hb8⟩))
      go_ret
      exact ⟨rfl, hb4w.trans (hb8.mono hb4w.size)⟩
  | ok ts =>
    have hcnt := lex_count _ _ _ _ _ (Nat.le_refl _) hl
    obtain ⟨sd1, sd2⟩ := lex_said _ _ _ _ _ (Nat.le_refl _) hl
    obtain ⟨ss, hss⟩ := read_texts _ _ _ _ (Nat.le_refl _) hl
    obtain ⟨ts3, hr3, hk3⟩ := shown_read _ _ 0 hss
    rw [← hsl.out] at hcnt sd1 sd2
    have hsh : showL (kindsI (ints ts)) = joinB ss := by rw [kinds_int]; unfold showL; rw [hss]
    have hj := join_len _ _ (fun t ht => (sd2 t ht).2.2) hss
    have hkl : (kinds ts).length = ts.length := by simp [kinds]
    have hJ : (⟨(joinB ss).toArray⟩ : ByteArray).size < 4294967281 := by rw [Lib.size_eq]; simp; omega
    have l3 := fun W h => lex_any ⟨(joinB ss).toArray⟩ true W h hJ
    rw [show (⟨(joinB ss).toArray⟩ : ByteArray).data.toList = joinB ss from rfl, hr3] at l3
    have sh2 := fun v W h1 h2 => show_any v (ints ts) W h1 h2 (by rw [ints_length]; omega) (fun x hx => by
      have hm : x.1 ∈ kinds ts := by rw [← kinds_int]; exact List.mem_map.2 ⟨x, hx, rfl⟩
      have := sd2 _ hm
      exact ⟨by omega, by omega, this.2.2⟩)
    rw [hsh] at sh2
    have hlt : (ints ts).length ≤ 4611686018427387904 := by rw [ints_length]; omega
    have hD3 : Hid (decide (kindsI (ints ts) = kindsI (ints ts3)) = true) := by
      show _ = _
      rw [kinds_int, kinds_int, hk3]; simp
    rw [hl] at l2
    simp only [lexRes] at l2 l3
    clear hl hcnt sd1 sd2 hss hr3 hk3 hsh hj hkl hJ
    generalize (⟨(joinB ss).toArray⟩ : ByteArray) = J at *
    generalize ints ts = us at *
    generalize ints ts3 = us3 at *
    have tokL2 : True := trivial
    have tokS : True := trivial
    have tokE : True := trivial
    rcases ph1 with hT | ⟨hT, ts1, hr, hK⟩
    · clear l1
      go_enter Tryd.func6, Tryd.ntmps6
      go_wp2_with (first
        | (go_at_call 13; have _t := tokS; refine sh1.mono ?_; rintro e W1 ⟨rfl, hb1⟩; clear tokS)
        | (go_at_call 9; have _t := tokL2; refine (l2 _ (env_below he hb1)).mono ?_; rintro e W4 ⟨⟨v4, rfl, hr4⟩, hb4⟩; have hb4w : Below w.heap.size w W4 := hb1.trans (hb4.mono hb1.size); clear tokL2)
        | (go_at_call 13; refine (sh2 _ _ (env_below he hb4w) (tat_row hr4)).mono ?_; rintro e W5 ⟨rfl, hb5⟩; have hb5w : Below w.heap.size w W5 := hb4w.trans (hb5.mono hb4w.size))
        | (go_at_call 9; refine (l3 _ (env_below he hb5w)).mono ?_; rintro e W6 ⟨⟨v6, rfl, hr6⟩, hb6⟩; have hb6w : Below w.heap.size w W6 := hb5w.trans (hb6.mono hb5w.size))
        | (go_at_call 17; refine (same_ref _ _ us us3 _ (tat_row (keep (keep hr4 hb5) hb6)) (tat_row hr6) hlt).mono ?_; rw [hD3.out]; rintro e W7 ⟨rfl, hb7⟩; have hb7w : Below w.heap.size w W7 := hb6w.trans (hb7.mono hb6w.size))
        | (go_at_call 12; refine (sure_any _ (env_below he hb7w)).mono ?_; rintro e W8 ⟨rfl, hb8⟩))
      go_ret
      exact ⟨rfl, hb7w.trans (hb8.mono hb7w.size)⟩
    · rw [hr] at l1
      simp only [lexRes] at l1
      have hlu : (ints ts1).length ≤ 4611686018427387904 := by
        have h1 : (kindsI (ints ts1)).length = (kindsI S).length := by rw [hK.out]
        simp only [kindsI, List.length_map] at h1
        omega
      have hD : Hid (decide (kindsI (ints ts1) = kindsI S) = true) := by
        show _ = _
        rw [hK.out]; simp
      clear hr hK
      generalize ints ts1 = us1 at *
      have tokL1 : True := trivial
      go_enter Tryd.func6, Tryd.ntmps6
      go_wp2_with (first
        | (go_at_call 13; have _t := tokS; refine sh1.mono ?_; rintro e W1 ⟨rfl, hb1⟩; clear tokS)
        | (go_at_call 9; have _t := tokL1; refine (l1 _ (env_below he hb1)).mono ?_; rintro e W2 ⟨⟨v2, rfl, hr2⟩, hb2⟩; have hb2w : Below w.heap.size w W2 := hb1.trans (hb2.mono hb1.size); clear tokL1)
        | (go_at_call 17; have _t := tokE; refine (same_ref _ _ us1 S _ (tat_row hr2) (f0.below hb2w (Nat.le_refl _)) hlu).mono ?_; rw [hD.out]; rintro e W3 ⟨rfl, hb3⟩; have hb3w : Below w.heap.size w W3 := hb2w.trans (hb3.mono hb2w.size); clear tokE)
        | (go_at_call 9; have _t := tokL2; refine (l2 _ (env_below he hb3w)).mono ?_; rintro e W4 ⟨⟨v4, rfl, hr4⟩, hb4⟩; have hb4w : Below w.heap.size w W4 := hb3w.trans (hb4.mono hb3w.size); clear tokL2)
        | (go_at_call 13; refine (sh2 _ _ (env_below he hb4w) (tat_row hr4)).mono ?_; rintro e W5 ⟨rfl, hb5⟩; have hb5w : Below w.heap.size w W5 := hb4w.trans (hb5.mono hb4w.size))
        | (go_at_call 9; refine (l3 _ (env_below he hb5w)).mono ?_; rintro e W6 ⟨⟨v6, rfl, hr6⟩, hb6⟩; have hb6w : Below w.heap.size w W6 := hb5w.trans (hb6.mono hb5w.size))
        | (go_at_call 17; refine (same_ref _ _ us us3 _ (tat_row (keep (keep hr4 hb5) hb6)) (tat_row hr6) hlt).mono ?_; rw [hD3.out]; rintro e W7 ⟨rfl, hb7⟩; have hb7w : Below w.heap.size w W7 := hb6w.trans (hb7.mono hb6w.size))
        | (go_at_call 12; refine (sure_any _ (env_below he hb7w)).mono ?_; rintro e W8 ⟨rfl, hb8⟩))
      go_ret
      exact ⟨rfl, hb7w.trans (hb8.mono hb7w.size)⟩
end Go.Proofs.YtaiefheejgfefaaDoor.lexBack
