/- Own text. LexScripts, walked. -/
import Derived.Test.YtaiefheejgfefabDoorXSure
import Derived.Test.YtaiefheejgfefabDoorX14
import Derived.Test.YtaiefheejgfefabDoorYA
namespace Go.Proofs.YtaiefheejgfefabDoor.lexScripts
open Go.RowKit
set_option linter.unusedVariables false

set_option maxHeartbeats 4000000 in
set_option maxRecDepth 100000 in
theorem walk (s : ByteArray) (w : World) (hs : s.size ≤ 1048576) (he : Env w) :
    Calls Tryd.prog 3 #[.string s] w fun e w' => e = .returned (.bool true) ∧ Below w.heap.size w w' := by
  have l1 := fun W h => lex_any s false W h (by omega)
  have l2 := fun W h => lex_any s true W h (by omega)
  cases hl : lexL 0 s.data.toList false with
  | error c =>
    have hc0 : ((c.2 : Int) == 0) = false := int_eqb (by rcases lexF_err _ _ _ _ _ hl with h | h <;> omega)
    rw [hl] at l1
    simp only [lexRes] at l1
    clear hl l2
    go_enter Tryd.func3, Tryd.ntmps3
    go_wp2_with (first
      | (go_at_call 4; refine (l1 _ he).mono ?_; rintro e W1 ⟨rfl, hb1⟩)
      | (go_at_call 5; refine (sure_any _ (env_below he hb1)).mono ?_; rintro e W5 ⟨rfl, hb5⟩))
    go_ret
    exact ⟨rfl, hb1.trans (hb5.mono hb1.size)⟩
  | ok ts =>
    have hlen : (ints ts).length ≤ 4611686018427387904 := by
      rw [ints_length]
      have := lex_count _ _ _ _ _ (Nat.le_refl _) hl
      rw [← Lib.size_eq] at this
      omega
    have hl2 := scripts _ _ _ _ (Nat.le_refl _) hl
    rw [hl] at l1
    rw [hl2] at l2
    simp only [lexRes] at l1 l2
    clear hl hl2
    generalize ints ts = us at *
    have tok1 : True := trivial
    go_enter Tryd.func3, Tryd.ntmps3
    go_wp2_with (first
      | (go_at_call 4; have _t := tok1; refine (l1 _ he).mono ?_; rintro e W1 ⟨⟨v1, rfl, hr1⟩, hb1⟩; clear tok1)
      | (go_at_call 4; refine (l2 _ (env_below he hb1)).mono ?_; rintro e W2 ⟨⟨v2, rfl, hr2⟩, hb2⟩; have hbw : Below w.heap.size w W2 := hb1.trans (hb2.mono hb1.size))
      | (go_at_call 6; refine (same_law _ _ us us _ (tat_row (keep hr1 hb2)) (tat_row hr2) hlen).mono ?_; rintro e W3 ⟨rfl, hb3⟩; rw [show decide (us = us) = true from by simp]; have hb4 : Below w.heap.size w W3 := hbw.trans (hb3.mono hbw.size))
      | (go_at_call 5; refine (sure_any _ (env_below he hb4)).mono ?_; rintro e W5 ⟨rfl, hb5⟩))
    go_ret
    exact ⟨rfl, hb4.trans (hb5.mono hb4.size)⟩

end Go.Proofs.YtaiefheejgfefabDoor.lexScripts
