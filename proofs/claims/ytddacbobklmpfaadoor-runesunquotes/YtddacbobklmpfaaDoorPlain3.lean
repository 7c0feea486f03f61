/- Plain mathematics of the runes between two places of a text. -/
import Derived.Test.YtddacbobklmpfaaDoorPlain2
namespace Go.Proofs.YtddacbobklmpfaaDoor

abbrev Rns := List (Nat × List UInt8)
def bytesOf (xs : Rns) : List UInt8 := xs.flatMap (·.2)
theorem bytesOf_append (xs ys : Rns) : bytesOf (xs ++ ys) = bytesOf xs ++ bytesOf ys := by simp [bytesOf]
theorem bytesOf_cons (x : Nat × List UInt8) (ys : Rns) : bytesOf (x :: ys) = x.2 ++ bytesOf ys := by simp [bytesOf]

theorem scan_induct (P : List UInt8 → Prop) (h0 : P []) (h1 : ∀ l, l ≠ [] → P (l.drop (decL l).2) → P l) : ∀ l, P l := by
  intro l
  have : ∀ n, ∀ l : List UInt8, l.length ≤ n → P l := by
    intro n
    induction n with
    | zero => intro l hl; have : l = [] := List.eq_nil_of_length_eq_zero (by omega); subst this; exact h0
    | succ n ih =>
      intro l hl
      by_cases he : l = []
      · subst he; exact h0
      · have := (decL_width l).1
        exact h1 l he (ih _ (by rw [List.length_drop]; omega))
  exact this l.length l (Nat.le_refl _)

/-- All runes, one behind the other, are the text. -/
theorem scan_bytes (l : List UInt8) : bytesOf (scan l) = l := by
  refine scan_induct (fun l => bytesOf (scan l) = l) rfl ?_ l
  intro l hl ih
  rw [scan_cons l hl, bytesOf_cons, ih]
  exact List.take_append_drop _ _
/-- Each has a byte. -/
theorem scan_pos (l : List UInt8) : ∀ x ∈ scan l, x.2 ≠ [] := by
  refine scan_induct (fun l => ∀ x ∈ scan l, x.2 ≠ []) (fun x h => by cases h) ?_ l
  intro l hl ih x hx
  rw [scan_cons l hl] at hx
  rcases List.mem_cons.1 hx with rfl | hx
  · intro e
    have h1 := (decL_width l).1
    have h2 := decL_le l hl
    have := congrArg List.length e
    simp at this
    rcases this with h | h
    · omega
    · exact hl h
  · exact ih x hx
theorem scan_length (l : List UInt8) : (scan l).length ≤ l.length := by
  refine scan_induct (fun l => (scan l).length ≤ l.length) (Nat.le_refl _) ?_ l
  intro l hl ih
  have h1 := (decL_width l).1
  have h2 := decL_le l hl
  rw [scan_cons l hl, List.length_cons]
  rw [List.length_drop] at ih
  omega

/-- Where the k-th of the runes begins. -/
def offs (xs : Rns) (k : Nat) : Nat := (bytesOf (xs.take k)).length
theorem offs_zero (xs : Rns) : offs xs 0 = 0 := by simp [offs, bytesOf]
theorem offs_all (xs : Rns) (k : Nat) (h : xs.length ≤ k) : offs xs k = (bytesOf xs).length := by rw [offs, List.take_of_length_le h]
theorem offs_succ (xs : Rns) (k : Nat) (h : k < xs.length) : offs xs (k + 1) = offs xs k + (xs[k]).2.length := by
  rw [offs, List.take_succ_eq_append_getElem h, bytesOf_append, List.length_append, offs]
  simp [bytesOf]
theorem offs_mono (xs : Rns) (a b : Nat) (h : a ≤ b) : offs xs a ≤ offs xs b := by
  rw [offs, offs]
  have : xs.take a = (xs.take b).take a := by rw [List.take_take, Nat.min_eq_left h]
  rw [this]
  have e : bytesOf (xs.take b) = bytesOf ((xs.take b).take a) ++ bytesOf ((xs.take b).drop a) := by rw [← bytesOf_append, List.take_append_drop]
  rw [e, List.length_append]
  omega

/-- The runes from the place a up to the one ahead of b. -/
def part (xs : Rns) (a b : Nat) : List UInt8 := bytesOf ((xs.take b).drop a)
theorem part_bytes (xs : Rns) (a b : Nat) (h : a ≤ b) : ((bytesOf xs).take (offs xs b)).drop (offs xs a) = part xs a b := by
  have e1 : (bytesOf xs).take (offs xs b) = bytesOf (xs.take b) := by
    have : bytesOf xs = bytesOf (xs.take b) ++ bytesOf (xs.drop b) := by rw [← bytesOf_append, List.take_append_drop]
    rw [this, offs, List.take_left]
  have e2 : bytesOf (xs.take b) = bytesOf (xs.take a) ++ part xs a b := by
    have : xs.take a = (xs.take b).take a := by rw [List.take_take, Nat.min_eq_left h]
    rw [this, part, ← bytesOf_append, List.take_append_drop]
  rw [e1, e2, offs, List.drop_left]
theorem part_none (xs : Rns) (a b : Nat) (h : b ≤ a) : part xs a b = [] := by
  rw [part, List.drop_of_length_le (by rw [List.length_take]; omega)]; rfl
theorem part_step (xs : Rns) (a b k : Nat) (h : k < xs.length) : part (xs.take (k + 1)) a b = part (xs.take k) a b ++ (if a ≤ k ∧ k < b then (xs[k]).2 else []) := by
  unfold part
  have hlk : (xs.take k).length = k := by rw [List.length_take]; omega
  rw [List.take_succ_eq_append_getElem h, List.take_append, hlk]
  by_cases hb : k < b
  · have e1 : List.take (b - k) [xs[k]] = [xs[k]] := List.take_of_length_le (by simp; omega)
    have e2 : List.take b (xs.take k) = xs.take k := List.take_of_length_le (by omega)
    rw [e1, e2, List.drop_append, hlk]
    by_cases ha : a ≤ k
    · have : a - k = 0 := by omega
      rw [this, if_pos ⟨ha, hb⟩, bytesOf_append]
      simp [bytesOf]
    · rw [if_neg (by omega), List.drop_of_length_le (by simp; omega : [xs[k]].length ≤ a - k)]
      simp
  · have : b - k = 0 := by omega
    rw [this, if_neg (by omega)]
    simp
theorem part_one (xs : Rns) (k : Nat) (h : k < xs.length) : part xs k (k + 1) = (xs[k]).2 := by
  unfold part
  rw [List.take_succ_eq_append_getElem h, List.drop_append]
  have hlk : (xs.take k).length = k := by rw [List.length_take]; omega
  rw [List.drop_of_length_le (by omega), hlk]
  simp [bytesOf]
end Go.Proofs.YtddacbobklmpfaaDoor
