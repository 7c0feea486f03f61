/- Own text. The document's Normal and Join. -/
import Derived.Test.YtlogohcfahmilaaPR1
namespace Go.Proofs.Ytlogohcfahmilaa
open Go.RowKit
set_option linter.unusedVariables false

def stepR (L : List Bs) (q : Bs) : Option (List Bs) :=
  if q = [] ∨ q = [46] then some L
  else if q = [46, 46] then (if L = [] then none else some L.dropLast)
  else some (L ++ [q])
def walkR : List Bs → List Bs → Option (List Bs)
  | L, [] => some L
  | L, q :: qs => match stepR L q with
    | none => none
    | some L' => walkR L' qs
theorem stepR_eq {L : List Bs} {q : Bs} (h : q.all signB = true) : stepR L q = step L q := by simp [stepR, step, h]
theorem walkR_eq : ∀ (qs L : List Bs), (∀ q ∈ qs, q.all signB = true) → walkR L qs = walkL L qs
  | [], L, _ => rfl
  | q :: qs, L, h => by
    simp only [walkR, walkL, stepR_eq (h q (by simp))]
    cases step L q with
    | none => rfl
    | some M => exact walkR_eq qs M (fun x hx => h x (by simp [hx]))
theorem walkR_some {qs : List Bs} {q : Bs} {i : Nat} {L L' : List Bs} {X : Option (List Bs)} (hw : X = walkR L (qs.drop i)) (hq : qs[i]? = some q) (hs : stepR L q = some L') : X = walkR L' (qs.drop (i + 1)) := by
  obtain ⟨hl, e⟩ := List.getElem?_eq_some_iff.1 hq
  rw [hw, List.drop_eq_getElem_cons hl, e]
  simp [walkR, hs]
theorem walkR_none {qs : List Bs} {q : Bs} {i : Nat} {L : List Bs} {X : Option (List Bs)} (hw : X = walkR L (qs.drop i)) (hq : qs[i]? = some q) (hs : stepR L q = none) : X = none := by
  obtain ⟨hl, e⟩ := List.getElem?_eq_some_iff.1 hq
  rw [hw, List.drop_eq_getElem_cons hl, e]
  simp [walkR, hs]

theorem mem_split : ∀ (p : Bs) (c : UInt8), c ≠ 47 → (c ∈ p ↔ ∃ q ∈ splitS p, c ∈ q)
  | [], c, _ => by simp [splitS]
  | d :: r, c, h => by
    have ih := mem_split r c h
    obtain ⟨x, xs, hx⟩ := List.exists_cons_of_ne_nil (splitS_ne r)
    by_cases hd : d = 47
    · subst hd
      simp [splitS, h, ih]
    · simp only [splitS, if_neg hd, hx, List.headD_cons, List.tail_cons, List.mem_cons, ih]
      constructor
      · rintro (e | ⟨q, e | hq, hc⟩)
        · exact ⟨_, .inl rfl, by simp [e]⟩
        · exact ⟨_, .inl rfl, by rw [← e]; simp [hc]⟩
        · exact ⟨q, .inr hq, hc⟩
      · rintro ⟨q, e | hq, hc⟩
        · rw [e] at hc
          rcases List.mem_cons.1 hc with hc | hc
          · exact .inl hc
          · exact .inr ⟨x, .inl rfl, hc⟩
        · exact .inr ⟨q, .inr hq, hc⟩
theorem slash_split : ∀ (p q : Bs), q ∈ splitS p → 47 ∉ q
  | [], q, h => by simp [splitS] at h; simp [h]
  | d :: r, q, h => by
    obtain ⟨x, xs, hx⟩ := List.exists_cons_of_ne_nil (splitS_ne r)
    have ih := slash_split r
    rw [hx] at ih
    by_cases hd : d = 47
    · simp only [splitS, if_pos hd, hx, List.mem_cons] at h
      rcases h with h | h
      · simp [h]
      · exact ih q (by simpa using h)
    · simp only [splitS, if_neg hd, hx, List.headD_cons, List.tail_cons, List.mem_cons] at h
      rcases h with h | h
      · rw [h]
        intro hm
        rcases List.mem_cons.1 hm with hm | hm
        · exact hd hm.symm
        · exact ih x (by simp) hm
      · exact ih q (by simp [h])

def fitB (c : UInt8) : Bool := c == 47 || signB c
theorem all_fit {p : Bs} (h : p.all fitB = true) : ∀ q ∈ splitS p, q.all signB = true := fun q hq => List.all_eq_true.2 fun c hc => by
  have h47 : c ≠ 47 := fun e => slash_split p q hq (e ▸ hc)
  have hp := (mem_split p c h47).2 ⟨q, hq, hc⟩
  have := List.all_eq_true.1 h c hp
  unfold fitB at this
  simpa [h47] using this
theorem some_bad {p : Bs} {c : UInt8} (hc : c ∈ p) (hf : fitB c = false) : ∃ q ∈ splitS p, q.all signB = false := by
  unfold fitB at hf
  simp at hf
  obtain ⟨q, hq, hcq⟩ := (mem_split p c hf.1).1 hc
  exact ⟨q, hq, List.all_eq_false.2 ⟨c, hcq, by simp [hf.2]⟩⟩

theorem nrm_bad {p : Bs} {c : UInt8} (hc : c ∈ p) (hf : fitB c = false) : nrm p = ([], 30) := by
  cases p with
  | nil => rfl
  | cons d r =>
    show (if d = 47 then fin (walkL [] (splitS r)) else ([], 30)) = _
    split
    · rename_i hd
      have : walkL [] (splitS r) = none := by
        refine walk_bad _ _ (some_bad (c := c) ?_ hf)
        rcases List.mem_cons.1 hc with e | e
        · rw [e, hd] at hf; exact absurd hf (by decide)
        · exact e
      rw [this]
      rfl
    · rfl
theorem nrm_fit {p : Bs} (h : p.all fitB = true) (h0 : p[0]? = some 47) : nrm p = fin (walkR [] (splitS p)) := by
  rw [walkR_eq _ _ (all_fit h)]
  cases p with
  | nil => simp at h0
  | cons d r =>
    have hd : d = 47 := by simpa using h0
    subst hd
    have : splitS (47 :: r) = [] :: splitS r := by simp [splitS]
    rw [this]
    rfl
theorem joinS_take {K : List Bs} {i : Nat} {q : Bs} (h : K[i]? = some q) : joinS (K.take (i + 1)) = joinS (K.take i) ++ (47 :: q) := by
  rw [List.take_add_one, h]
  exact joinS_snoc _ _

/-- the bytes of all parts together, each with its slash. -/
theorem walkR_len : ∀ (qs L L' : List Bs), walkR L qs = some L' → (joinS L').length ≤ (joinS L).length + (joinS qs).length
  | [], L, L', h => by cases h; simp
  | q :: qs, L, L', h => by
    unfold walkR at h
    split at h
    · cases h
    · rename_i M hM
      have ih := walkR_len qs M L' h
      have h2 : (joinS M).length ≤ (joinS L).length + (1 + q.length) := by
        unfold stepR at hM
        split at hM
        · cases hM; omega
        · split at hM
          · split at hM
            · cases hM
            · rename_i hL
              cases hM
              obtain ⟨N, x, rfl⟩ := snoc_of hL
              rw [List.dropLast_concat, joinS_snoc]
              simp
              omega
          · cases hM
            rw [joinS_snoc]; simp; omega
      rw [joinS_cons]
      simp
      omega
theorem join_split : ∀ p : Bs, joinS (splitS p) = 47 :: p
  | [] => rfl
  | d :: r => by
    have ih := join_split r
    obtain ⟨x, xs, hx⟩ := List.exists_cons_of_ne_nil (splitS_ne r)
    by_cases hd : d = 47
    · subst hd
      simp only [splitS, if_true]
      rw [joinS_cons, ih]
      rfl
    · simp only [splitS, if_neg hd]
      rw [hx] at ih ⊢
      rw [joinS_cons] at ih ⊢
      simp only [List.headD_cons, List.tail_cons]
      simp at ih ⊢
      exact ih

end Go.Proofs.Ytlogohcfahmilaa
