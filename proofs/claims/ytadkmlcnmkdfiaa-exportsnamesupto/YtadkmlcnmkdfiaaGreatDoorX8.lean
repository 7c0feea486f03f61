/- Own text. All tokens: how many bytes a token has; the list unfolds. -/
import Derived.Test.YtadkmlcnmkdfiaaGreatDoorX7
import Derived.Test.YtadkmlcnmkdfiaaGreatDoorX3
namespace Go.Proofs.YtadkmlcnmkdfiaaGreatDoor
set_option linter.unusedVariables false

theorem unqS_len : ∀ (m : Nat) (l : Bs) (u : Unq) (pos : Nat) (t : Bs) (n : Nat), l.length ≤ m → unqS (scan l) u pos = some (t, n) → pos + 1 ≤ n ∧ n ≤ pos + l.length
  | m, [], u, pos, t, n, _, h => by rw [scan_nil] at h; cases h
  | 0, c :: r, u, pos, t, n, hm, h => by simp at hm
  | m + 1, c :: r, u, pos, t, n, hm, h => by
    have hne : (c :: r) ≠ [] := by simp
    have hw := decL_width (c :: r)
    have hle := decL_le (c :: r) hne
    cases hs : strayL (c :: r)
    · cases hu : stepU u (decL (c :: r)).1 with
      | none => rw [unqS_none _ hne hs u pos hu] at h; cases h
      | some u' =>
        by_cases h5 : u'.st = 5
        · rw [unqS_end _ hne hs u u' pos hu h5] at h
          cases h
          exact ⟨Nat.le_refl _, by simp⟩
        · rw [unqS_more _ hne hs u u' pos hu h5] at h
          have ih := unqS_len m _ u' _ t n (by simp only [List.length_drop]; simp only [List.length_cons] at hm ⊢; omega) h
          simp only [List.length_drop] at ih
          omega
    · rw [unqS_stray _ hne hs u pos] at h; cases h
theorem unquoteL_len {l t : Bs} {n : Nat} (h : unquoteL l = some (t, n)) : 1 ≤ n ∧ n ≤ l.length := by
  have := unqS_len l.length l _ 0 t n (Nat.le_refl _) h
  omega

theorem digsL_le (l : Bs) : (digsL l).length ≤ l.length := (List.takeWhile_sublist _).length_le
theorem digsL_pos {l : Bs} (hl : l ≠ []) (h : digC (atL l 0) = true) : 1 ≤ (digsL l).length := by
  cases l with
  | nil => exact absurd rfl hl
  | cons c r =>
    have : digC c.toNat = true := by simpa [atL] using h
    simp [digsL, this]
theorem signsL_pos : ∀ g ∈ signsL, 1 ≤ g.length := by decide

theorem next_len {l : Bs} {sc : Bool} {x : Tk × Nat} (hl : l ≠ []) (h : nextL l sc = .ok x) : 1 ≤ x.2 ∧ x.2 ≤ l.length := by
  unfold nextL at h
  split at h
  · rename_i h1
    cases h
    exact ⟨h1, nameL_le l sc⟩
  · split at h
    · rename_i h2
      unfold numbL at h
      split at h
      · cases h
      · split at h
        · cases h
        · cases h
          exact ⟨digsL_pos hl h2, digsL_le l⟩
    · split at h
      · unfold unqNx at h
        split at h
        · rename_i y hy
          cases h
          exact unquoteL_len (t := y.1) (n := y.2) hy
        · cases h
      · unfold signNx at h
        split at h
        · rename_i g hg
          cases h
          have hm := List.mem_of_find?_eq_some hg
          have hp := List.find?_some hg
          exact ⟨signsL_pos g hm, (List.isPrefixOf_iff_prefix.1 hp).length_le⟩
        · cases h

theorem lexF_more : ∀ (f g a : Nat) (l : Bs) (sc : Bool), l.length < f → l.length < g → lexF f a l sc = lexF g a l sc
  | f + 1, g + 1, a, l, sc, hf, hg => by
    unfold lexF
    split
    · rfl
    · split
      · rfl
      · rename_i hne
        cases hx : nextL (l.drop (pastL l).1) sc with
        | error e => rfl
        | ok x =>
          have hl := next_len hne hx
          have hp := pastL_le l
          simp only [List.length_drop] at hl
          simp only
          rw [lexF_more f g _ _ sc (by simp; omega) (by simp; omega)]
theorem lexL_eq (a : Nat) (l : Bs) (sc : Bool) : lexL a l sc =
    if (pastL l).2 = false then .error (a + (pastL l).1, 40)
    else if l.drop (pastL l).1 = [] then .ok []
    else match nextL (l.drop (pastL l).1) sc with
      | .error e => .error (a + (pastL l).1, e)
      | .ok x => consL (x.1, a + (pastL l).1) (lexL (a + (pastL l).1 + x.2) (l.drop ((pastL l).1 + x.2)) sc) := by
  conv => lhs; unfold lexL lexF
  split
  · rfl
  · split
    · rfl
    · rename_i hne
      cases hx : nextL (l.drop (pastL l).1) sc with
      | error e => rfl
      | ok x =>
        have hl := next_len hne hx
        have hp := pastL_le l
        simp only [List.length_drop] at hl
        simp only
        unfold lexL
        rw [lexF_more l.length ((l.drop ((pastL l).1 + x.2)).length + 1) _ _ sc (by simp; omega) (by omega)]

def preL (d : List (Tk × Nat)) : Lx → Lx
  | .error e => .error e
  | .ok ts => .ok (d ++ ts)
theorem preL_nil (x : Lx) : preL [] x = x := by cases x <;> rfl
theorem preL_cons (d : List (Tk × Nat)) (t : Tk × Nat) (x : Lx) : preL d (consL t x) = preL (d ++ [t]) x := by
  cases x
  · rfl
  · simp [preL, consL]

end Go.Proofs.YtadkmlcnmkdfiaaGreatDoor
