/- Own text. A tree put into a place: what is then where. -/
import Derived.Test.YtggahoefbcnaiabDoorT0
namespace Go.Proofs.YtggahoefbcnaiabDoor
set_option linter.unusedVariables false

theorem Nd.repl_pos (x m : Nd) {i : Nat} (h : 0 < i) : x.repl i m = .mk x.k x.t x.n (repls x.ks (i - 1) m) := by
  cases x; rw [Nd.repl, if_neg (by omega)]; rfl
theorem Nd.repl_zero (x m : Nd) : x.repl 0 m = m := by
  cases x; rw [Nd.repl, if_pos rfl]
/-- what stands in a place: put back it is the tree; another is as big as it is, and stands there. -/
def Nd.back (x : Nd) : Prop := ∀ (i : Nat) (y : Nd), x.flat[i]? = some y → x.repl i y = x ∧ ∀ m : Nd, (x.repl i m).size + y.size = x.size + m.size ∧ (x.repl i m).flat[i]? = some m
theorem backs : ∀ l : List Nd, (∀ x ∈ l, x.back) → ∀ (i : Nat) (y : Nd), (flats l)[i]? = some y → repls l i y = l ∧ ∀ m : Nd, sizes (repls l i m) + y.size = sizes l + m.size ∧ (flats (repls l i m))[i]? = some m
  | [], _, i, y, h => by rw [flats_nil] at h; simp at h
  | x :: l, hl, i, y, h => by
    rw [flats_cons] at h
    by_cases hi : i < x.size
    · rw [List.getElem?_append_left (by rw [x.flat_len]; exact hi)] at h
      obtain ⟨h1, h2⟩ := hl x (by simp) i y h
      refine ⟨by rw [repls, if_pos hi, h1], fun m => ?_⟩
      obtain ⟨h3, h4⟩ := h2 m
      rw [repls, if_pos hi, sizes_cons, sizes_cons, flats_cons]
      exact ⟨by omega, by rw [List.getElem?_append_left (List.getElem?_eq_some_iff.1 h4).1, h4]⟩
    · rw [List.getElem?_append_right (by rw [x.flat_len]; omega), x.flat_len] at h
      obtain ⟨h1, h2⟩ := backs l (fun z hz => hl z (by simp [hz])) (i - x.size) y h
      refine ⟨by rw [repls, if_neg hi, h1], fun m => ?_⟩
      obtain ⟨h3, h4⟩ := h2 m
      rw [repls, if_neg hi, sizes_cons, sizes_cons, flats_cons]
      exact ⟨by omega, by rw [List.getElem?_append_right (by rw [x.flat_len]; omega), x.flat_len, h4]⟩
theorem Nd.back_all (x : Nd) : x.back := by
  induction x using Nd.ind with
  | h x ih =>
    intro i y h
    rw [Nd.flat_eq] at h
    by_cases hi : i = 0
    · subst hi
      rw [List.getElem?_cons_zero] at h
      obtain rfl := Option.some.inj h
      refine ⟨x.repl_zero x, fun m => ?_⟩
      rw [x.repl_zero m, m.flat_eq]
      exact ⟨by omega, rfl⟩
    · obtain ⟨j, rfl⟩ : ∃ j, i = j + 1 := ⟨i - 1, by omega⟩
      rw [List.getElem?_cons_succ] at h
      obtain ⟨h1, h2⟩ := backs x.ks ih j y h
      refine ⟨?_, fun m => ?_⟩
      · rw [x.repl_pos y (by omega), Nat.add_sub_cancel, h1]; cases x; rfl
      · obtain ⟨h3, h4⟩ := h2 m
        rw [x.repl_pos m (by omega), Nat.add_sub_cancel, Nd.size_eq, x.size_eq, Nd.flat_eq]
        have e : (Nd.mk x.k x.t x.n (repls x.ks j m)).ks = repls x.ks j m := rfl
        rw [e]
        exact ⟨by omega, by rw [List.getElem?_cons_succ]; exact h4⟩
end Go.Proofs.YtggahoefbcnaiabDoor
