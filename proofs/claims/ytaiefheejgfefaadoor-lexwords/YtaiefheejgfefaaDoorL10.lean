/- Own text. The program's text of a token, and whether it is just that token. -/
import Derived.Test.YtaiefheejgfefaaDoorL9
import Derived.Test.YtaiefheejgfefaaDoorYA
import Derived.Test.YtaiefheejgfefaaDoorX14
import Derived.Lib.AppendIntMem
namespace Go.Proofs.YtaiefheejgfefaaDoor
open Go.RowKit
set_option linter.unusedVariables false

/-- the token alone, at the text's beginning. -/
def justB (s : Bs) (t : Tk) : Bool := match lexL 0 s true with
  | .ok [x] => x.1 == t && x.2 == 0
  | _ => false
def shownL (t : Tk) : Bs := if t.1 = 1 ∨ t.1 = 2 ∨ t.1 = 5 then t.2.1 else if t.1 = 3 then Lib.itoa t.2.2 else if t.1 = 4 then quoteL t.2.1 else []

theorem just_is {s : Bs} {t : Tk} (hr : rawL t = some s) : justB s t = isTk s t := by
  cases h : isTk s t
  · unfold justB
    unfold isTk at h
    split
    · rename_i x hx
      rw [hx] at h
      simp only at h
      rw [h]; rfl
    · rfl
  · have hA := alone_of hr h
    have : lexL 0 s true = .ok [(t, 0)] := by
      have := lex_made (a := 0) (l := s) (sc := true) (x := (t, s.length)) (ts' := []) (by rw [hA.past]) (by rw [hA.past]; simpa using hA.ne) (by rw [hA.past]; simpa using hA.next) (by
        rw [hA.past]
        simp only [Nat.zero_add, List.drop_length]
        exact lex_end (by rw [pastL_nil]) (by simp))
      rw [hA.past] at this
      exact this
    unfold justB
    rw [this]
    simp
theorem dec_digits : ∀ (m n : Nat), n ≤ m → Lib.decDigits n = digitsL n := by
  intro m
  induction m with
  | zero =>
    intro n h
    have : n = 0 := by omega
    subst this
    rw [Lib.decDigits, digitsL_eq]
    rfl
  | succ m ih =>
    intro n h
    rw [Lib.decDigits, digitsL_eq]
    by_cases h9 : 9 < n
    · rw [dif_neg (by omega), if_pos h9, ih (n / 10) (by omega)]
    · rw [dif_pos (by omega), if_neg h9, Nat.mod_eq_of_lt (by omega)]
theorem minus_not (r : Bs) (t : Tk) (h : t.1 = 3) : justB (45 :: r) t = false := by
  unfold justB
  split
  · rename_i x hx
    obtain ⟨h1, h2⟩ := lex_step hx
    have hp : pastL (45 :: r) = (0, true) := past_here (by decide) (by simp) (by simp)
    rw [hp] at h2
    simp only [List.drop_zero] at h2
    rcases h2 with ⟨h2, _⟩ | ⟨y, ts', _, h3, _, h5⟩
    · cases h2
    · have hy : y.1.1 = 5 := by
        have hb : begL (45 :: r) true = 0 := by
          rw [begL_some _ _ (by simp)]
          rw [show atL (45 :: r) 0 = 45 from rfl, if_neg (by simp), dec_low1 (l := 45 :: r) (show (45 : Nat) < 128 from by decide), if_neg (fun h => absurd (show letterB (45 : Int) = true from h.2) (by decide))]
        unfold nextL at h3
        rw [show nameL (45 :: r) true = 0 from by unfold nameL; rw [if_pos hb], if_neg (by omega), show atL (45 :: r) 0 = 45 from rfl, if_neg (by decide), if_neg (by simp)] at h3
        unfold signNx at h3
        split at h3
        · cases h3; rfl
        · cases h3
      injection h5 with e1 e2
      have : (x.1 == t) = false := by
        rw [e1]
        obtain ⟨t1, t2, t3⟩ := t
        simp only at h
        subst h
        simp only [beq_eq_false_iff_ne, ne_eq]
        intro e
        rw [e] at hy
        exact absurd hy (by simp)
      rw [this]
      rfl
  · rfl
theorem text_shown (t : Tk) : textL t = if justB (shownL t) t then some (shownL t) else none := by
  obtain ⟨k, x, n⟩ := t
  by_cases hk : k = 1 ∨ k = 2 ∨ k = 5
  · have hr : rawL (k, x, n) = some x := by
      unfold rawL
      simp only
      rw [if_neg (by omega), if_neg (by omega)]
    have hs : shownL (k, x, n) = x := by unfold shownL; simp only; rw [if_pos hk]
    rw [hs, just_is hr]
    unfold textL
    rw [hr]
  · by_cases h3 : k = 3
    · subst h3
      have hs : shownL (3, x, n) = Lib.itoa n := by unfold shownL; simp
      rw [hs]
      by_cases hn : n < 0
      · have hr : rawL (3, x, n) = none := by unfold rawL; simp [hn]
        have hi : Lib.itoa n = 45 :: Lib.decDigits n.natAbs := by unfold Lib.itoa; rw [if_pos hn]
        rw [hi, minus_not _ _ rfl]
        unfold textL
        rw [hr]
        rfl
      · have hr : rawL (3, x, n) = some (digitsL n.toNat) := by unfold rawL; simp [hn]
        have hi : Lib.itoa n = digitsL n.toNat := by unfold Lib.itoa; rw [if_neg hn]; exact dec_digits _ _ (Nat.le_refl _)
        rw [hi, just_is hr]
        unfold textL
        rw [hr]
    · by_cases h4 : k = 4
      · subst h4
        have hs : shownL (4, x, n) = quoteL x := by unfold shownL; simp
        have hr : rawL (4, x, n) = some (quoteL x) := by unfold rawL; simp
        rw [hs, just_is hr]
        unfold textL
        rw [hr]
      · have hs : shownL (k, x, n) = [] := by
          unfold shownL
          simp only
          rw [if_neg hk, if_neg h3, if_neg h4]
        have hr : rawL (k, x, n) = some x := by unfold rawL; simp only; rw [if_neg h3, if_neg h4]
        have hj : justB [] (k, x, n) = false := rfl
        rw [hs, hj]
        unfold textL
        rw [hr]
        simp only
        have : isTk x (k, x, n) = false := by
          cases h : isTk x (k, x, n)
          · rfl
          · have hA := (alone_of hr h).next
            have := (next_text_at hA).2
            simp only at this
            omega
        rw [this]
        rfl
theorem shown_len (t : Tk) (h0 : -9223372036854775808 ≤ t.2.2) (h1 : t.2.2 ≤ 9223372036854775807) : (shownL t).length ≤ 7 * t.2.1.length + 21 := by
  unfold shownL
  split
  · omega
  · split
    · unfold Lib.itoa
      split
      · rw [dec_digits _ _ (Nat.le_refl _)]
        have := digitsL_len 19 t.2.2.natAbs (by omega)
        simp only [List.length_cons]
        omega
      · rw [dec_digits _ _ (Nat.le_refl _)]
        have := digitsL_small t.2.2.toNat (by omega)
        omega
    · split
      · have := quoteL_len t.2.1
        omega
      · simp

set_option maxHeartbeats 2000000 in
set_option maxRecDepth 100000 in
theorem shown_any (k n a : Int) (x : Bs) (w : World) (he : Env w) (h0 : -9223372036854775808 ≤ n) (h1 : n ≤ 9223372036854775807) (hx : x.length ≤ 4194304) :
    Calls Tryd.prog 21 #[tokV (k, x, n) a] w fun e w' => e = .returned (.string ⟨(shownL (k, x, n)).toArray⟩) ∧ Below w.heap.size w w' := by
  have hal := fun o => (Below.refl w.heap.size w).alloc (Nat.le_refl _) o
  simp only [tokV]
  unfold shownL
  simp only
  have hq := fun W h => quote_any ⟨x.toArray⟩ W (by rw [Lib.size_eq]; simp; omega) h
  rw [show (⟨x.toArray⟩ : ByteArray).data.toList = x from rfl] at hq
  by_cases hk : k = 1 ∨ k = 2 ∨ k = 5
  · rw [if_pos hk]
    generalize (⟨x.toArray⟩ : ByteArray) = X at *
    have hkk : k = 1 ∨ ((k == 1) = false ∧ k = 2) ∨ ((k == 1) = false ∧ (k == 2) = false ∧ k = 5) := by
      rcases hk with rfl | rfl | rfl
      · exact .inl rfl
      · exact .inr (.inl ⟨rfl, rfl⟩)
      · exact .inr (.inr ⟨rfl, rfl, rfl⟩)
    clear hk
    rcases hkk with rfl | ⟨_, rfl⟩ | ⟨_, _, rfl⟩
    all_goals
      go_enter Tryd.func21, Tryd.ntmps21
      go_wp2
      go_ret
      exact ⟨rfl, hal _⟩
  · have n1 : (k == 1) = false := int_eqb (fun e => hk (.inl e))
    have n2 : (k == 2) = false := int_eqb (fun e => hk (.inr (.inl e)))
    have n5 : (k == 5) = false := int_eqb (fun e => hk (.inr (.inr e)))
    rw [if_neg hk]
    clear hk
    by_cases h3 : k = 3
    · rw [if_pos h3]
      subst h3
      have hi := fun o => Tryd.strconv_Itoa n h0 h1 _ (env_below he (hal o)).pow
      generalize (⟨x.toArray⟩ : ByteArray) = X at *
      generalize (⟨(Lib.itoa n).toArray⟩ : ByteArray) = I at *
      go_enter Tryd.func21, Tryd.ntmps21
      go_wp2_with (go_at_call 38; refine (hi _).mono ?_; rintro e W1 ⟨rfl, d, os, rfl⟩)
      go_ret
      exact ⟨rfl, (hal _).trans (Lib.below_grow _ _ (by simp) _ _)⟩
    · have n3 : (k == 3) = false := int_eqb h3
      rw [if_neg h3]
      clear h3
      by_cases h4 : k = 4
      · rw [if_pos h4]
        subst h4
        have hq2 := fun o => hq _ (env_below he (hal o)).tab
        generalize (⟨x.toArray⟩ : ByteArray) = X at *
        generalize (⟨(quoteL x).toArray⟩ : ByteArray) = I at *
        go_enter Tryd.func21, Tryd.ntmps21
        go_wp2_with (go_at_call 39; refine (hq2 _).mono ?_; rintro e W1 ⟨rfl, hb⟩)
        go_ret
        exact ⟨rfl, (hal _).trans (hb.mono (by simp))⟩
      · have n4 : (k == 4) = false := int_eqb h4
        rw [if_neg h4]
        clear h4
        generalize (⟨x.toArray⟩ : ByteArray) = X at *
        go_enter Tryd.func21, Tryd.ntmps21
        go_wp2
        go_ret
        exact ⟨rfl, hal _⟩
end Go.Proofs.YtaiefheejgfefaaDoor
