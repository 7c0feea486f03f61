/- The contract of the document's escape. -/
import Derived.Test.YtddacbobklmpfaaDoorRefUnq3
namespace Go.Proofs.YtddacbobklmpfaaDoor
open Go.RowKit

theorem numL_len (l t : List UInt8) (n : Nat) (h : numL l = some (t, n)) : t.length ≤ n + 1 ∧ 3 ≤ n ∧ n ≤ 8 ∧ n ≤ l.length := by
  cases l with
  | nil => simp [numL] at h
  | cons c r =>
    unfold numL at h
    simp only at h
    split at h
    · cases h
    · split at h
      · cases h
      · rename_i hb
        have hle := digs_le 6 r 0 0
        have hl := Lib.runeCells_le ((digs 6 r (0, 0)).2 : Int)
        rw [Lib.runeCells_length] at hl
        cases h
        have hbb : ¬ (digs 6 r (0, 0)).1 = 0 ∧ ¬ r.length ≤ (digs 6 r (0, 0)).1 := ⟨fun e => hb (Or.inl e), fun e => hb (Or.inr (Or.inr (Or.inl e)))⟩
        rw [List.length_cons]
        omega
theorem escL_len (l t : List UInt8) (n : Nat) (h : escL l = some (t, n)) : t.length ≤ n ∧ 1 ≤ n ∧ n ≤ 9 ∧ n ≤ l.length := by
  cases l with
  | nil => simp [escL] at h
  | cons c r =>
    unfold escL at h
    simp only at h
    rw [List.length_cons]
    split at h
    · cases h; simp
    · split at h
      · cases h; simp
      · split at h
        · cases h; simp
        · split at h
          · cases hn : numL r with
            | none => rw [hn] at h; cases h
            | some x =>
              rw [hn] at h
              cases h
              have := numL_len r x.1 x.2 hn
              omega
          · cases h

set_option maxHeartbeats 4000000 in
set_option maxRecDepth 100000 in
theorem escape_any (s : ByteArray) (w : World) (hs : s.size ≤ 140737488351232) :
    Calls Tryd.prog 34 #[.string s] w fun e w' => e = numRes (escL s.data.toList) ∧ Below w.heap.size w w' := by
  by_cases hz : 0 < s.size
  · have hne := ne_nil_of_size s hz
    have hE : s.toList.isEmpty = false := by rw [Lib.toList_data]; simpa using hne
    have hb0 := byte_at s 0
    have hlt := atL_lt s.data.toList 0
    have htl := cut_tail s 1
    have hcut := cut_head s 1
    have htz := Lib.size_eq (s.extract 1 s.size)
    rw [htl, List.length_drop, ← Lib.size_eq] at htz
    have hnum := fun w1 => number_any (s.extract 1 s.size) w1 (by omega)
    rw [htl] at hnum
    obtain ⟨c, r, hl⟩ : ∃ c r, s.data.toList = c :: r := by
      cases h : s.data.toList with
      | nil => exact absurd h hne
      | cons c r => exact ⟨c, r, rfl⟩
    rw [hl] at hb0 hlt hnum hcut ⊢
    rw [List.drop_succ_cons, List.drop_zero] at hnum
    have hc0 : atL (c :: r) 0 = c.toNat := by simp [atL]
    rw [hc0] at hb0 hlt
    rw [List.take_succ_cons, List.take_zero] at hcut
    obtain ⟨b, hb⟩ : ∃ b : Nat, b = c.toNat := ⟨_, rfl⟩
    rw [← hb] at hb0 hlt
    clear hl hc0 hne htl htz
    unfold escL
    simp only
    rw [← hb]
    by_cases h110 : b = 110
    · rw [if_pos h110]
      clear hb
      subst h110
      go_enter Tryd.func34, Tryd.ntmps34
      go_wp2_with fail
      go_ret2
      exact ⟨rfl, Below.refl _ _⟩
    rw [if_neg h110]
    have b110 : ((b : Int) == 110) = false := by simp; omega
    by_cases h116 : b = 116
    · rw [if_pos h116]
      clear hb h110
      subst h116
      go_enter Tryd.func34, Tryd.ntmps34
      go_wp2_with fail
      go_ret2
      exact ⟨rfl, Below.refl _ _⟩
    rw [if_neg h116]
    have b116 : ((b : Int) == 116) = false := by simp; omega
    by_cases h3 : b = 34 ∨ b = 39 ∨ b = 92
    · rw [if_pos h3]
      clear hb h110 h116
      rcases h3 with rfl | rfl | rfl
      all_goals
        go_enter Tryd.func34, Tryd.ntmps34
        go_wp2_with fail
        go_ret2
        exact ⟨rfl, Below.refl _ _⟩
    rw [if_neg h3]
    have b34 : ((b : Int) == 34) = false := by simp; omega
    have b39 : ((b : Int) == 39) = false := by simp; omega
    have b92 : ((b : Int) == 92) = false := by simp; omega
    by_cases h117 : b = 117
    · rw [if_pos h117]
      clear hb h110 h116 h3
      subst h117
      cases hn : numL r with
      | none =>
        rw [hn] at hnum
        simp only [numRes] at hnum ⊢
        clear hn
        go_enter Tryd.func34, Tryd.ntmps34
        go_wp2_with (go_at_call 44; refine (hnum _).mono ?_)
        rintro e W1 ⟨rfl, b1⟩
        go_wp2
        go_ret2
        exact ⟨rfl, b1⟩
      | some x =>
        obtain ⟨t, n⟩ := x
        have hlen := numL_len r t n hn
        obtain ⟨hn1, hn2, hn3, _⟩ := hlen
        rw [hn] at hnum
        simp only [numRes] at hnum ⊢
        clear hn
        generalize (⟨t.toArray⟩ : ByteArray) = tb at *
        go_enter Tryd.func34, Tryd.ntmps34
        go_wp2_with (go_at_call 44; refine (hnum _).mono ?_)
        rintro e W1 ⟨rfl, b1⟩
        go_wp2
        go_ret2
        exact ⟨rfl, b1⟩
    rw [if_neg h117]
    have b117 : ((b : Int) == 117) = false := by simp; omega
    clear hb h110 h116 h3 h117
    go_enter Tryd.func34, Tryd.ntmps34
    go_wp2_with fail
    go_ret2
    exact ⟨rfl, Below.refl _ _⟩
  · have hl : s.data.toList = [] := List.eq_nil_of_length_eq_zero (by rw [← Lib.size_eq]; omega)
    have hE : s.toList.isEmpty = true := by rw [Lib.toList_data, hl]; rfl
    rw [hl]
    clear hl
    go_enter Tryd.func34, Tryd.ntmps34
    go_wp2_with fail
    go_ret2
    exact ⟨rfl, Below.refl _ _⟩
end Go.Proofs.YtddacbobklmpfaaDoor
