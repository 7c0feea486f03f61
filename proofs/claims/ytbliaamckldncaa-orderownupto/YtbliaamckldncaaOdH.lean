/- Own text. Mathematics: places gathered by their heads. -/
import Derived.Test.YtbliaamckldncaaOdK
namespace Go.Proofs.Ytbliaamckldncaa
open Gph
set_option linter.unusedVariables false
set_option linter.unusedSimpArgs false

/-- the least ones of the parts, up to a place. -/
def hds (H : List Nat) (k : Nat) : List Nat := (List.range k).filter (hd (sameHd H))
theorem hds_lt {H : List Nat} {k i : Nat} (h : i ∈ hds H k) : i < k := List.mem_range.1 (List.mem_filter.1 h).1
theorem sh_iff {H : List Nat} {x y : Nat} : sameHd H x y = true ↔ lk H x = lk H y := by unfold sameHd; exact decide_eq_true_iff
theorem partsF_eq (H : List Nat) (k : Nat) : partsF (sameHd H) k = (hds H k).map (part (sameHd H) k) := rfl
/-- the number of each head's part, from 1. -/
structure Num (H N : List Nat) (k : Nat) : Prop where
  len : N.length = H.length
  zero : ∀ h, h < H.length → lk N h = 0 → ∀ p, p < k → lk H p ≠ h
  hit : ∀ h j, lk N h = j + 1 → ∃ i, (hds H k)[j]? = some i ∧ lk H i = h
theorem Num.start (H : List Nat) : Num H (List.replicate H.length 0) 0 :=
  ⟨by simp, fun h _ _ p hp => absurd hp (Nat.not_lt_zero _), fun h j e => by unfold lk at e; rw [List.getElem?_replicate] at e; split at e <;> simp at e⟩
theorem part_out {H : List Nat} {k i : Nat} (h : lk H i ≠ lk H k) : part (sameHd H) (k + 1) i = part (sameHd H) k i := by
  unfold part
  rw [filter_range_succ, if_neg, List.append_nil]
  rw [Bool.and_eq_true, sh_iff]
  exact fun q => h q.2
theorem part_in {H : List Nat} {k i : Nat} (hi : i ≤ k) (h : lk H i = lk H k) : part (sameHd H) (k + 1) i = part (sameHd H) k i ++ [k] := by
  unfold part
  rw [filter_range_succ, if_pos]
  rw [Bool.and_eq_true, sh_iff]
  exact ⟨by simpa using hi, h⟩
theorem part_self (H : List Nat) (k : Nat) : part (sameHd H) k k = [] := by
  unfold part
  refine List.filter_eq_nil_iff.2 fun a ha => ?_
  have := List.mem_range.1 ha
  rw [Bool.and_eq_true]
  intro q
  have := q.1
  simp at this
  omega
/-- a part that is new. -/
theorem Num.first {H N : List Nat} {k : Nat} (h : Num H N k) (hk : k < H.length) (hl : lk H k < H.length) (h0 : lk N (lk H k) = 0) :
    partsF (sameHd H) (k + 1) = partsF (sameHd H) k ++ [[k]] ∧ Num H (N.set (lk H k) ((hds H k).length + 1)) (k + 1) ∧ (hds H (k + 1)).length = (hds H k).length + 1 := by
  have hz := h.zero _ hl h0
  have hh : hd (sameHd H) k = true := hd_iff.2 fun j hj => by
    cases q : sameHd H j k with
    | false => rfl
    | true => exact absurd (sh_iff.1 q) (hz j hj)
  have e1 : hds H (k + 1) = hds H k ++ [k] := by unfold hds; rw [filter_range_succ, if_pos hh]
  refine ⟨?_, ⟨by simpa using h.len, fun x hx e p hp => ?_, fun x j e => ?_⟩, by rw [e1]; simp⟩
  · rw [partsF_eq, e1, List.map_append, partsF_eq]
    congr 1
    · exact List.map_congr_left fun i hi => part_out (hz i (hds_lt hi))
    · simp only [List.map_cons, List.map_nil]
      rw [part_in (Nat.le_refl _) rfl, part_self]; rfl
  · rw [lk_set (by rw [h.len]; exact hl)] at e
    split at e
    · omega
    · rename_i hne
      by_cases hpk : p = k
      · subst hpk; exact fun q => hne q.symm
      · exact h.zero x hx e p (by omega)
  · rw [lk_set (by rw [h.len]; exact hl)] at e
    split at e
    · rename_i hx
      have : j = (hds H k).length := by omega
      subst this
      exact ⟨k, by rw [e1, List.getElem?_append_right (Nat.le_refl _)]; simp, hx.symm⟩
    · obtain ⟨i, q1, q2⟩ := h.hit x j e
      exact ⟨i, by rw [e1, List.getElem?_append_left (List.getElem?_eq_some_iff.1 q1).1]; exact q1, q2⟩
/-- heads are unlike. -/
theorem hds_inj {H : List Nat} {k i j a b : Nat} (ha : (hds H k)[i]? = some a) (hb : (hds H k)[j]? = some b) (e : lk H a = lk H b) : i = j := by
  have ma := List.mem_of_getElem? ha
  have mb := List.mem_of_getElem? hb
  have qa := (List.mem_filter.1 ma).2
  have qb := (List.mem_filter.1 mb).2
  have eab : a = b := by
    rcases Nat.lt_trichotomy a b with q | q | q
    · have := hd_iff.1 qb a q
      rw [sh_iff.2 e] at this; cases this
    · exact q
    · have := hd_iff.1 qa b q
      rw [sh_iff.2 e.symm] at this; cases this
  subst eab
  have nd : (hds H k).Nodup := List.Pairwise.filter _ List.nodup_range
  exact (List.getElem?_inj (List.getElem?_eq_some_iff.1 ha).1 nd).1 (ha.trans hb.symm)
/-- a part that was there. -/
theorem Num.more {H N : List Nat} {k j : Nat} (h : Num H N k) (hk : k < H.length) (hl : lk H k < H.length) (hj : lk N (lk H k) = j + 1) :
    ∃ hp : j < (partsF (sameHd H) k).length, partsF (sameHd H) (k + 1) = (partsF (sameHd H) k).set j ((partsF (sameHd H) k)[j] ++ [k]) ∧ Num H N (k + 1) := by
  obtain ⟨i, q1, q2⟩ := h.hit _ j hj
  have hi := hds_lt (List.mem_of_getElem? q1)
  obtain ⟨hjl, ei⟩ := List.getElem?_eq_some_iff.1 q1
  have hh : ¬ hd (sameHd H) k = true := fun q => by
    have := hd_iff.1 q i hi
    rw [sh_iff.2 q2] at this; cases this
  have e1 : hds H (k + 1) = hds H k := by unfold hds; rw [filter_range_succ, if_neg hh, List.append_nil]
  have hp : j < (partsF (sameHd H) k).length := by rw [partsF_eq, List.length_map]; exact hjl
  refine ⟨hp, ?_, ⟨h.len, fun x hx e p hp => ?_, fun x j' e => by rw [e1]; exact h.hit x j' e⟩⟩
  · refine List.ext_getElem? fun m => ?_
    rw [List.getElem?_set]
    by_cases hm : j = m
    · subst hm
      rw [if_pos rfl, if_pos hp, partsF_eq, e1, List.getElem?_map, q1]
      have : (partsF (sameHd H) k)[j] = part (sameHd H) k i := by simp only [partsF_eq, List.getElem_map, ei]
      rw [this]
      show some _ = some _
      rw [part_in (Nat.le_of_lt hi) q2]
    · rw [if_neg hm, partsF_eq, partsF_eq, e1, List.getElem?_map, List.getElem?_map]
      cases q : (hds H k)[m]? with
      | none => rfl
      | some b =>
        show some _ = some _
        rw [part_out (fun e => hm (hds_inj q1 q (q2.trans e.symm)))]
  · by_cases hpk : p = k
    · subst hpk; intro q; rw [q, e] at hj; omega
    · exact h.zero x hx e p (by omega)
end Go.Proofs.Ytbliaamckldncaa
