/- Own text. The document's words, signs and numbers. -/
import Derived.Test.YtaiefheejgfefabDoorX2
import Derived.Laws.OwnMore
import Derived.OwnWalk
import Derived.Below
namespace Go.Proofs.YtaiefheejgfefabDoor
open Go.RowKit
set_option linter.unusedVariables false

/-- texts as cells. -/
def textCells (l : List Bs) : List Value := l.map fun b => .string ⟨b.toArray⟩
theorem text_at {w : World} {base g n c : Nat} {l : List Bs} (h : w.ownsRow base 9 1 (.slice (some ⟨g, 0, none⟩) n c) n (textCells l)) {i : Nat} {q : Bs} (hi : l[i]? = some q) (hn : i < n) : w.cell? ⟨g, i, none⟩ = some (.string ⟨q.toArray⟩) := by
  rw [h.cellAt i (by omega)]
  simp [textCells, hi]

theorem eq_bytes (q : Bs) (s : ByteArray) : ((⟨q.toArray⟩ : ByteArray).toList == s.toList) = (q == s.data.toList) := by rw [Lib.toList_data, Lib.toList_data]

theorem digsL_at {l : Bs} {k : Nat} (hk : k ≤ l.length) (h1 : ∀ j, j < k → digC (atL l j) = true) (h2 : k = l.length ∨ digC (atL l k) = false) : digsL l = l.take k := by
  induction k generalizing l with
  | zero =>
    cases l with
    | nil => rfl
    | cons c r =>
      have : digC c.toNat = false := by
        rcases h2 with h | h
        · simp at h
        · simpa [atL] using h
      simp [digsL, this]
  | succ k ih =>
    cases l with
    | nil => simp at hk
    | cons c r =>
      have h0 : digC c.toNat = true := by simpa [atL] using h1 0 (by omega)
      have := ih (l := r) (by simpa using hk) (fun j hj => by simpa [atL] using h1 (j + 1) (by omega)) (by
        rcases h2 with h | h
        · exact .inl (by simpa using h)
        · exact .inr (by simpa [atL] using h))
      unfold digsL at this ⊢
      simp only [List.takeWhile_cons, h0, if_true, List.take_succ_cons, this]
theorem decN_succ (l : Bs) (k : Nat) (hk : k < l.length) : decN 0 (l.take (k + 1)) = 10 * decN 0 (l.take k) + (atL l k - 48) := by
  unfold decN atL
  rw [List.take_add_one, List.getElem?_eq_getElem hk, List.foldl_append]
  simp [List.getD, List.getElem?_eq_getElem hk]

def numbRes : Nx → Ending
  | .ok x => .returned (.tuple #[.int .i64 x.1.2.2, .int .i64 (x.2 : Nat), .int .i64 0])
  | .error e => .returned (.tuple #[.int .i64 0, .int .i64 0, .int .i64 (e : Nat)])

/-- a number so far. -/
def NumAt (l : Bs) (k : Nat) (n : Nat) (gr : Bool) : Prop := k ≤ l.length ∧ (∀ j, j < k → digC (atL l j) = true) ∧ n ≤ 9007199254740999 ∧ (gr = false → n = decN 0 (l.take k) ∧ n ≤ 9007199254740991) ∧ (gr = true → 9007199254740991 < decN 0 (l.take k))
theorem NumAt.big {l : Bs} {k n : Nat} {gr : Bool} (h : NumAt l k n gr) (hk : k < l.length) (hd : digC (atL l k) = true) (hn : 900719925474099 < n) : NumAt l (k + 1) n true := by
  obtain ⟨h1, h2, h3, h4, h5⟩ := h
  refine ⟨by omega, fun j hj => ?_, h3, fun h => (by cases h), fun _ => ?_⟩
  · by_cases e : j = k
    · subst e; exact hd
    · exact h2 j (by omega)
  · rw [decN_succ l k hk]
    cases gr
    · have := (h4 rfl).1; omega
    · have := h5 rfl; omega
theorem NumAt.go {l : Bs} {k n : Nat} {gr : Bool} (h : NumAt l k n gr) (hk : k < l.length) (hd : digC (atL l k) = true) (hn : ¬ 900719925474099 < n) : NumAt l (k + 1) (10 * n + (atL l k - 48)) (gr || decide (9007199254740991 < 10 * n + (atL l k - 48))) := by
  obtain ⟨h1, h2, h3, h4, h5⟩ := h
  have hd9 : atL l k - 48 ≤ 9 := by unfold digC at hd; simp at hd; omega
  refine ⟨by omega, fun j hj => ?_, by omega, fun h => ?_, fun h => ?_⟩
  · by_cases e : j = k
    · subst e; exact hd
    · exact h2 j (by omega)
  · simp at h
    rw [decN_succ l k hk, ← (h4 h.1).1]
    exact ⟨rfl, by omega⟩
  · rw [decN_succ l k hk]
    cases gr
    · simp at h
      rw [← (h4 rfl).1]
      omega
    · have := h5 rfl; omega

end Go.Proofs.YtaiefheejgfefabDoor
