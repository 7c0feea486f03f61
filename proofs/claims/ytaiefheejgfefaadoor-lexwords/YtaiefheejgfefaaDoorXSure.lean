/- Own text. What must come whatever the input is (sure). -/
import Derived.Test.YtaiefheejgfefaaDoorLB
import Derived.Test.YtaiefheejgfefaaDoorL13
import Derived.Test.YtaiefheejgfefaaDoorX14
namespace Go.Proofs.YtaiefheejgfefaaDoor
open Go.RowKit
set_option linter.unusedVariables false

theorem lex_count : ∀ (m a : Nat) (l : Bs) (sc : Bool) (ts : List (Tk × Nat)), l.length ≤ m → lexL a l sc = .ok ts → ts.length ≤ l.length := by
  intro m
  induction m with
  | zero =>
    intro a l sc ts hm h
    rw [lexL_eq] at h
    split at h
    · cases h
    · split at h
      · cases h; simp
      · rename_i h2
        exact absurd (List.drop_eq_nil_of_le (by omega)) h2
  | succ m ih =>
    intro a l sc ts hm h
    rw [lexL_eq] at h
    split at h
    · cases h
    · split at h
      · cases h; simp
      · rename_i h2
        cases hx : nextL (l.drop (pastL l).1) sc with
        | error e => rw [hx] at h; cases h
        | ok x =>
          rw [hx] at h
          have hlen := next_len h2 hx
          simp only [List.length_drop] at hlen
          simp only at h
          cases hy : lexL (a + (pastL l).1 + x.2) (l.drop ((pastL l).1 + x.2)) sc with
          | error d => rw [hy] at h; cases h
          | ok ts' =>
            rw [hy] at h
            cases h
            have := ih _ _ sc ts' (by simp; omega) hy
            simp only [List.length_drop] at this
            simp only [List.length_cons]
            omega

def sureToks : List (Tk × Nat) := [((2, [108, 101, 116], 0), 0), ((1, [97, 95, 49], 0), 4), ((5, [61], 0), 8), ((4, [120], 0), 10), ((5, [59], 0), 13)]
theorem sure1 : lexL 0 [108, 101, 116, 32, 97, 95, 49, 32, 61, 32, 39, 120, 39, 59] false = .ok sureToks := by rfl
theorem sure2 : lexL 0 [97, 36] false = .error (1, 40) := by rfl
theorem sure3 : lexL 0 [97, 36, 32, 47, 47, 32, 98] true = .ok [((1, [97, 36], 0), 0)] := by rfl
theorem sure4 : showL (kindsI (ints sureToks)) = [108, 101, 116, 32, 97, 95, 49, 32, 61, 32, 34, 120, 34, 32, 59] := by decide +kernel

theorem keep {w w' : World} {base : Nat} {e : TypeId} {size : Nat} {v : Value} {n : Nat} {xs : List Value} (h : w.ownsRow base e size v n xs) (hb : Below w.heap.size w w') : w'.ownsRow base e size v n xs :=
  h.kept (row := none) ⟨hb.os, hb.tape, hb.output, hb.size, fun k hk _ => hb.block k hk⟩ (by cases hv : Value.ownBlock _ <;> simp)
theorem sure_cells {w : World} {base g c : Nat} (h : ToksAt w base (.slice (some ⟨g, 0, none⟩) (ints sureToks).length c) (ints sureToks)) :
    (w.cell? ⟨g, 0, none⟩ = some (.int .i64 2) ∧ w.cell? ⟨g, 1, none⟩ = some (.string ⟨#[108, 101, 116]⟩) ∧ w.cell? ⟨g, 2, none⟩ = some (.int .i64 0) ∧ w.cell? ⟨g, 3, none⟩ = some (.int .i64 0)) ∧
    (w.cell? ⟨g, 12, none⟩ = some (.int .i64 4) ∧ w.cell? ⟨g, 13, none⟩ = some (.string ⟨#[120]⟩) ∧ w.cell? ⟨g, 14, none⟩ = some (.int .i64 0) ∧ w.cell? ⟨g, 15, none⟩ = some (.int .i64 10)) := by
  refine ⟨⟨?_, ?_, ?_, ?_⟩, ?_, ?_, ?_, ?_⟩
  · rw [h.cellAt 0 (by decide)]; rfl
  · rw [h.cellAt 1 (by decide)]; rfl
  · rw [h.cellAt 2 (by decide)]; rfl
  · rw [h.cellAt 3 (by decide)]; rfl
  · rw [h.cellAt 12 (by decide)]; rfl
  · rw [h.cellAt 13 (by decide)]; rfl
  · rw [h.cellAt 14 (by decide)]; rfl
  · rw [h.cellAt 15 (by decide)]; rfl

set_option maxHeartbeats 4000000 in
set_option maxRecDepth 100000 in
theorem sure_any (w : World) (he : Env w) : Calls Tryd.prog 12 #[] w fun e w' => e = .returned (.bool true) ∧ Below w.heap.size w w' := by
  have l1 := fun W h => lex_any ⟨#[108, 101, 116, 32, 97, 95, 49, 32, 61, 32, 39, 120, 39, 59]⟩ false W h (by decide)
  have l2 := fun W h => lex_any ⟨#[97, 36]⟩ false W h (by decide)
  have l3 := fun W h => lex_any ⟨#[97, 36, 32, 47, 47, 32, 98]⟩ true W h (by decide)
  rw [show (⟨#[108, 101, 116, 32, 97, 95, 49, 32, 61, 32, 39, 120, 39, 59]⟩ : ByteArray).data.toList = [108, 101, 116, 32, 97, 95, 49, 32, 61, 32, 39, 120, 39, 59] from rfl, sure1] at l1
  rw [show (⟨#[97, 36]⟩ : ByteArray).data.toList = [97, 36] from rfl, sure2] at l2
  rw [show (⟨#[97, 36, 32, 47, 47, 32, 98]⟩ : ByteArray).data.toList = [97, 36, 32, 47, 47, 32, 98] from rfl, sure3] at l3
  simp only [lexRes] at l1 l2 l3
  have hg := tok_guard
  have heql := tok_eql
  have hlen5 : (ints sureToks).length = 5 := rfl
  have hlen1 : (ints [(((1, [97, 36], 0) : Tk), 0)]).length = 1 := rfl
  have tok1 : True := trivial
  have tok2 : True := trivial
  go_enter Tryd.func12, Tryd.ntmps12
  go_wp2_with (first
    | (go_at_call 9; have _t := tok1; refine (l1 _ he).mono ?_; rintro e W1 ⟨⟨v, rfl, hr1⟩, hb1⟩; obtain ⟨g, c, rfl, hgb, _⟩ := rowSome hr1 (by decide); clear tok1)
    | (go_at_call 9; have _t := tok2; refine (l2 _ (env_below he hb1)).mono ?_; rintro e W2 ⟨rfl, hb2⟩; clear tok2)
    | (go_at_call 9; refine (l3 _ (env_below he (hb1.trans (hb2.mono hb1.size)))).mono ?_; rintro e W3 ⟨⟨v3, rfl, hr3⟩, hb3⟩; obtain ⟨g3, c3, rfl, hgb3, _⟩ := rowSome hr3 (by decide); have hq1 := keep (keep hr1 hb2) hb3; obtain ⟨⟨k0, k1, k2, k3⟩, k12, k13, k14, k15⟩ := sure_cells hq1; obtain ⟨_, m1, _⟩ := tok_cells hr3; have hbw : Below w.heap.size w W3 := (hb1.trans (hb2.mono hb1.size)).trans (hb3.mono (Nat.le_trans hb1.size hb2.size)))
    | (go_at_call 13; refine (show_any _ (ints sureToks) _ (env_below he hbw) (tat_row hq1) (by decide) (by decide)).mono ?_; rw [sure4]; rintro e W4 ⟨rfl, hb4⟩; have hbx : Below w.heap.size w W4 := hbw.trans (hb4.mono hbw.size))
    | (go_at_call 15; refine (wordsP_any _ (env_below he hbx)).mono ?_; rintro e W5 ⟨rfl, hr5, hb5⟩))
  go_ret
  exact ⟨rfl, (hbw.trans (hb4.mono hbw.size)).trans (hb5.mono (Nat.le_trans hbw.size hb4.size))⟩

end Go.Proofs.YtaiefheejgfefaaDoor
