/- Own text. LexReads, walked. -/
import Derived.Test.YtaiefheejgfefaaDoorXSure
namespace Go.Proofs.YtaiefheejgfefaaDoor.lexReads
open Go.RowKit
set_option linter.unusedVariables false

theorem tat_nil (w : World) : TAt w (.slice none 0 0) [] := ⟨none, 0, rfl, fun k hk => by simp at hk⟩

set_option maxHeartbeats 4000000 in
set_option maxRecDepth 100000 in
theorem walk (s : ByteArray) (sc : Bool) (w : World) (hs : s.size ≤ 1048576) (he : Env w) :
    Calls Tryd.prog 3 #[.string s, .bool sc] w fun e w' => e = .returned (.bool true) ∧ Below w.heap.size w w' := by
  have l1 := fun W h => lex_any s sc W h (by omega)
  have l2 := fun W => lex_ref s sc W (by omega)
  cases hl : lexL 0 s.data.toList sc with
  | error c =>
    rw [hl] at l1 l2
    simp only [lexRes] at l1 l2
    clear hl
    go_enter Tryd.func3, Tryd.ntmps3
    go_wp2_with (first
      | (go_at_call 9; refine (l1 _ he).mono ?_; rintro e W1 ⟨rfl, hb1⟩)
      | (go_at_call 10; refine (l2 _).mono ?_; rintro e W2 ⟨rfl, hb2⟩; have hbw : Below w.heap.size w W2 := hb1.trans (hb2.mono hb1.size))
      | (go_at_call 11; refine (same_law _ _ [] [] _ (tat_nil _) (tat_nil _) (by decide)).mono ?_; rintro e W3 ⟨rfl, hb3⟩; rw [show decide (([] : List (Tk × Int)) = []) = true from by simp]; have hb4 : Below w.heap.size w W3 := hbw.trans (hb3.mono hbw.size))
      | (go_at_call 12; refine (sure_any _ (env_below he hb4)).mono ?_; rintro e W5 ⟨rfl, hb5⟩))
    go_ret
    exact ⟨rfl, hb4.trans (hb5.mono hb4.size)⟩
  | ok ts =>
    have hlen : (ints ts).length ≤ 4611686018427387904 := by
      rw [ints_length]
      have := lex_count _ _ _ _ _ (Nat.le_refl _) hl
      rw [← Lib.size_eq] at this
      omega
    rw [hl] at l1 l2
    simp only [lexRes] at l1 l2
    clear hl
    generalize ints ts = us at *
    go_enter Tryd.func3, Tryd.ntmps3
    go_wp2_with (first
      | (go_at_call 9; refine (l1 _ he).mono ?_; rintro e W1 ⟨⟨v1, rfl, hr1⟩, hb1⟩)
      | (go_at_call 10; refine (l2 _).mono ?_; rintro e W2 ⟨⟨v2, rfl, hr2⟩, hb2⟩; have hbw : Below w.heap.size w W2 := hb1.trans (hb2.mono hb1.size))
      | (go_at_call 11; refine (same_law _ _ us us _ (tat_row (keep hr1 hb2)) (tat_row hr2) hlen).mono ?_; rintro e W3 ⟨rfl, hb3⟩; rw [show decide (us = us) = true from by simp]; have hb4 : Below w.heap.size w W3 := hbw.trans (hb3.mono hbw.size))
      | (go_at_call 12; refine (sure_any _ (env_below he hb4)).mono ?_; rintro e W5 ⟨rfl, hb5⟩))
    go_ret
    exact ⟨rfl, hb4.trans (hb5.mono hb4.size)⟩

end Go.Proofs.YtaiefheejgfefaaDoor.lexReads
