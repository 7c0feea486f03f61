/- The contract of At of package runes: the i-th rune of a text. -/
import Derived.Test.YtddacbobklmpfaaDoorSlice2
namespace Go.Proofs.YtddacbobklmpfaaDoor
open Go.RowKit

/-- The i-th of the runes; nothing, if there is none. -/
def atP (xs : Rns) (i : Int) : List UInt8 := if i < 0 then [] else (xs.getD i.toNat (0, [])).2
theorem atP_in (xs : Rns) (k : Nat) (h : k < xs.length) : atP xs (k : Int) = (xs[k]).2 := by
  rw [atP, if_neg (by omega), Int.toNat_natCast, List.getD_eq_getElem?_getD, List.getElem?_eq_getElem h]; rfl
theorem atP_out (xs : Rns) (i : Int) (h : i < 0 ∨ (xs.length : Int) ≤ i) : atP xs i = [] := by
  unfold atP
  split
  · rfl
  · rw [List.getD_eq_getElem?_getD, List.getElem?_eq_none (by omega)]; rfl
theorem sliceZ_one (l : List UInt8) (i : Int) (h : 0 ≤ i) : sliceZ l i (i + 1) = atP (scan l) i := by
  obtain ⟨k, rfl⟩ : ∃ k : Nat, i = (k : Int) := ⟨i.toNat, by omega⟩
  have e1 : (max (k : Int) 0).toNat = k := by omega
  have e2 : ((k : Int) + 1).toNat = k + 1 := by omega
  rw [sliceZ, e1, e2]
  by_cases hk : k < (scan l).length
  · rw [part_one _ k hk, atP_in _ k hk]
  · rw [atP_out _ _ (by omega), part, List.drop_of_length_le (by rw [List.length_take]; omega)]
    rfl

set_option maxHeartbeats 1000000 in
theorem at_any (s : ByteArray) (i : Int) (w : World) (hs : s.size ≤ 140737488351232) :
    Calls Tryd.prog 10 #[.string s, .int .i64 i] w fun e w' => e = .returned (.tuple #[.string ⟨(atP (scan s.data.toList) i).toArray⟩, .bool (!(atP (scan s.data.toList) i).isEmpty)]) ∧ Below w.heap.size w w' := by
  have hcl := scan_length s.data.toList
  rw [← Lib.size_eq] at hcl
  by_cases h : i < 0 ∨ (s.size : Int) ≤ i
  · have HA : Hid (atP (scan s.data.toList) i = []) := atP_out _ _ (by omega)
    rw [HA.out]
    have hor : i < 0 ∨ (0 ≤ i ∧ (s.size : Int) ≤ i) := by omega
    clear h hcl
    rcases hor with h1 | ⟨h1, h2⟩
    all_goals
      go_enter Tryd.func10, Tryd.ntmps10
      go_wp2_with fail
      go_ret2
      exact ⟨rfl, Below.refl _ _⟩
  · have hsl := fun w1 => slice_any s i (i + 1) w1 hs
    rw [sliceZ_one _ _ (by omega)] at hsl
    have h1 : 0 ≤ i := by omega
    have h2 : i < (s.size : Int) := by omega
    clear h hcl
    generalize atP (scan s.data.toList) i = p at *
    obtain ⟨o, ho⟩ : ∃ o : ByteArray, o = ⟨p.toArray⟩ := ⟨_, rfl⟩
    have HE : Hid (o.toList.isEmpty = p.isEmpty) := by rw [Lib.toList_data, ho]; trivial
    rw [← ho] at hsl ⊢
    rw [← HE.out]
    clear ho HE
    go_enter Tryd.func10, Tryd.ntmps10
    go_wp2_with (go_at_call 14; refine (hsl _).mono ?_)
    rintro e W1 ⟨rfl, b1⟩
    go_wp2
    go_ret2
    exact ⟨rfl, b1⟩
end Go.Proofs.YtddacbobklmpfaaDoor
