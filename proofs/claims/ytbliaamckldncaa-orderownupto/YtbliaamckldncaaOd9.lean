/- Own text. OrderStands: mathematics of parts and orders; the statement's own at. -/
import Derived.Test.YtbliaamckldncaaOdW
namespace Go.Proofs.Ytbliaamckldncaa
open Go.RowKit Gph
set_option linter.unusedVariables false
set_option linter.unusedSimpArgs false

theorem part_mem {m : Nat → Nat → Bool} {n i x : Nat} : x ∈ part m n i ↔ x < n ∧ i ≤ x ∧ m i x = true := by
  unfold part
  rw [List.mem_filter, List.mem_range, Bool.and_eq_true, decide_eq_true_eq]
/-- what parts are: each place stands in just one, with all that is in one with it. -/
structure Split (G : List (List Nat)) (P : List (List Nat)) : Prop where
  lt : ∀ l ∈ P, ∀ x ∈ l, x < G.length
  cover : ∀ x, x < G.length → ∃ j, ∃ h : j < P.length, x ∈ P[j]
  alone : ∀ i j (hi : i < P.length) (hj : j < P.length) x, x ∈ P[i] → x ∈ P[j] → i = j
  same : ∀ i (hi : i < P.length) x y, x ∈ P[i] → y < G.length → Mut G x y → y ∈ P[i]
  count : P.flatten.length = G.length
theorem split_of {G : List (List Nat)} {m : Nat → Nat → Bool} (h : Tells G m) : Split G (partsF m G.length) := by
  have hget : ∀ i (hi : i < (partsF m G.length).length), ∃ a, a < G.length ∧ hd m a = true ∧ (partsF m G.length)[i] = part m G.length a ∧ ((List.range G.length).filter (hd m))[i]'(by simpa [partsF] using hi) = a := fun i hi => by
    have hi' : i < ((List.range G.length).filter (hd m)).length := by simpa [partsF] using hi
    have hm := List.mem_filter.1 (List.getElem_mem hi')
    exact ⟨_, List.mem_range.1 hm.1, hm.2, by simp [partsF], rfl⟩
  have key : ∀ a b x, a < G.length → b < G.length → hd m a = true → hd m b = true → x ∈ part m G.length a → x ∈ part m G.length b → a = b := fun a b x ha hb h1 h2 h3 h4 => by
    obtain ⟨hx, q1, q2⟩ := part_mem.1 h3
    obtain ⟨_, q3, q4⟩ := part_mem.1 h4
    have e : m a b = true := (h a b ha hb).2 (((h a x ha hx).1 q2).trans ((h b x hb hx).1 q4).symm)
    have e' : m b a = true := (h b a hb ha).2 (((h a b ha hb).1 e).symm)
    rcases Nat.lt_trichotomy a b with q | q | q
    · rw [hd_iff.1 h2 a q] at e; cases e
    · exact q
    · rw [hd_iff.1 h1 b q] at e'; cases e'
  have hlt : ∀ l ∈ partsF m G.length, ∀ x ∈ l, x < G.length := fun l hl x hx => by
    obtain ⟨a, _, rfl⟩ := List.mem_map.1 hl
    exact (part_mem.1 hx).1
  have hcov : ∀ x, x < G.length → ∃ j, ∃ hj : j < (partsF m G.length).length, x ∈ (partsF m G.length)[j] := fun x hx => by
    obtain ⟨a, ha, h1, h2⟩ := hd_ex h x hx
    have hm : part m G.length a ∈ partsF m G.length := List.mem_map.2 ⟨a, List.mem_filter.2 ⟨List.mem_range.2 (by omega), h1⟩, rfl⟩
    obtain ⟨j, hj, e⟩ := List.getElem_of_mem hm
    exact ⟨j, hj, by rw [e]; exact part_mem.2 ⟨hx, ha, h2⟩⟩
  have hnd : ((List.range G.length).filter (hd m)).Nodup := (List.filter_sublist.nodup List.nodup_range)
  have halone : ∀ i j (hi : i < (partsF m G.length).length) (hj : j < (partsF m G.length).length) x, x ∈ (partsF m G.length)[i] → x ∈ (partsF m G.length)[j] → i = j := fun i j hi hj x h1 h2 => by
    obtain ⟨a, ha, h3, e1, e2⟩ := hget i hi
    obtain ⟨b, hb, h4, e3, e4⟩ := hget j hj
    rw [e1] at h1
    rw [e3] at h2
    have hab := key a b x ha hb h3 h4 h1 h2
    rw [← e2, ← e4] at hab
    exact (List.getElem_inj hnd).1 hab
  refine ⟨hlt, hcov, halone, fun i hi x y hx hy hm => ?_, ?_⟩
  · obtain ⟨a, ha, h3, e1, e2⟩ := hget i hi
    rw [e1] at hx ⊢
    obtain ⟨hx1, q1, q2⟩ := part_mem.1 hx
    have e : m a y = true := (h a y ha hy).2 (((h a x ha hx1).1 q2).trans hm)
    refine part_mem.2 ⟨hy, ?_, e⟩
    refine Nat.le_of_not_lt fun q => ?_
    have e' : m y a = true := (h y a hy ha).2 (((h a y ha hy).1 e).symm)
    rw [hd_iff.1 h3 y q] at e'; cases e'
  · have hp : (partsF m G.length).flatten.Perm (List.range G.length) := by
      rw [List.perm_ext_iff_of_nodup ?_ List.nodup_range]
      · intro x
        rw [List.mem_flatten, List.mem_range]
        constructor
        · rintro ⟨l, hl, hx⟩; exact hlt l hl x hx
        · intro hx; obtain ⟨j, hj, hm⟩ := hcov x hx; exact ⟨_, List.getElem_mem hj, hm⟩
      · unfold List.Nodup
        rw [List.pairwise_flatten]
        refine ⟨fun l hl => ?_, ?_⟩
        · obtain ⟨a, _, rfl⟩ := List.mem_map.1 hl
          exact (List.filter_sublist.nodup List.nodup_range)
        · rw [List.pairwise_iff_getElem]
          intro i j hi hj hij x hx y hy e
          have := halone i j hi hj x hx (e ▸ hy)
          omega
    have := hp.length_eq
    simpa using this
/-- what an order is. -/
structure Ordd (G : List (List Nat)) (r : Nat) (O : List Nat) : Prop where
  last : ∃ T, O = T ++ [r]
  nodup : O.Nodup
  lt : ∀ x ∈ O, x < G.length
  edge : ∀ i (hi : i < O.length) y, y ∈ ed G O[i] → y ∈ O ∧ ∀ p (hp : p < O.length), O[p] = y → i < p → Mut G y O[i]
theorem ordd_of {G : List (List Nat)} (hG : Ok G) {r : Nat} (hr : r < G.length) : Ordd G r (dfs G G.length r (List.replicate G.length false) []).2 := by
  obtain ⟨T, e, D⟩ := dfs_did hG G.length r (List.replicate G.length false) [] (by simp) hr (not_on_rep _ _) (by rw [off_rep]; omega)
  rw [e, List.nil_append]
  refine ⟨⟨T, rfl⟩, D.nodup, fun x hx => ?_, fun i hi y hy => ?_⟩
  · obtain ⟨q, rfl, hq⟩ := D.reach x hx
    exact hq.lt hG hr
  · have hmem : y ∈ T ++ [r] := by
      rcases (D.mem y).1 (D.edge _ (List.getElem_mem hi) y hy) with h | h
      · exact absurd h (not_on_rep _ _)
      · exact h
    refine ⟨hmem, fun p hp he hlt => ?_⟩
    have hsp : T ++ [r] = (T ++ [r]).take i ++ (T ++ [r])[i] :: (T ++ [r]).drop (i + 1) := by
      rw [List.getElem_cons_drop, List.take_append_drop]
    rcases D.order _ _ _ hsp y hy with h | h | h | h
    · obtain ⟨q, hq, e2⟩ := List.getElem_of_mem h
      rw [List.getElem_take] at e2
      have hq' : q < i := by simp at hq; omega
      have : p = q := (List.getElem_inj D.nodup).1 (he.trans e2.symm)
      omega
    · have : p = i := (List.getElem_inj D.nodup).1 (he.trans h)
      omega
    · exact absurd h (not_on_rep _ _)
    · exact ⟨h.2, Rch.one hy⟩
set_option maxRecDepth 100000 in
set_option maxHeartbeats 4000000 in
theorem at_any {w : World} {B : Nat} {v : Value} {l : List Int} (h : IAt w B v l) (hB : B ≤ w.heap.size) (hl : l.length ≤ 4194304) (x : Int) :
    Calls Try.prog 19 #[v, .int .i64 x] w fun e w' => ∃ r : Int, e = .returned (.int .i64 r) ∧ ((∃ p : Nat, r = p ∧ l[p]? = some x ∧ ∀ j, j < p → l[j]? ≠ some x) ∨ (r = -1 ∧ x ∉ l)) ∧ Below w.heap.size w w' := by
  obtain ⟨ad, c, rfl⟩ := h.op
  go_enter Try.func19, Try.ntmps19
  go_wp2
  go_loopw [5] (fun i wr => ∃ k : Nat, i = .int .i64 (k : Nat) ∧ k ≤ l.length ∧ wr = w ∧ Hid (∀ j, j < k → l[j]? ≠ some x)) (fun i _ => l.length - (intOf i).toNat)
  case atStart => exact ⟨0, rfl, by omega, rfl, fun j hj => absurd hj (Nat.not_lt_zero _)⟩
  case round =>
    obtain ⟨k, rfl, hkl, rfl, hH⟩ := hrel
    by_cases hlt : k < l.length
    · obtain ⟨b1, o1, c1, e, hb1, hf⟩ := IAt.cl h (by omega)
      obtain ⟨rfl, rfl⟩ : ad = some ⟨b1, o1, none⟩ ∧ c = c1 := by cases e; exact ⟨rfl, rfl⟩
      have f1 := hf k hlt
      have HT : Hid (l[k]? = some l[k]) := List.getElem?_eq_getElem hlt
      clear e hf
      generalize l[k] = y at *
      by_cases q : y = x
      · subst q
        go_wp2
        go_ret
        exact ⟨_, rfl, .inl ⟨k, rfl, HT.out, hH.out⟩, Below.refl _ _⟩
      · have HX : Hid (∀ j, j < k + 1 → l[j]? ≠ some x) := fun j hj => by
          rcases Nat.lt_or_eq_of_le (Nat.lt_succ_iff.1 hj) with h1 | rfl
          · exact hH.out j h1
          · rw [HT.out]; exact fun e => q (by injection e)
        go_wp2
        go_roundw
        case rel => exact ⟨k + 1, by simp, by omega, by first | rfl | trivial, HX⟩
        case measure => simp [intOf]; omega
    · have HX : Hid (x ∉ l) := fun hm => by
        obtain ⟨j, hj, e⟩ := List.getElem_of_mem hm
        exact hH.out j (by omega) (by rw [List.getElem?_eq_getElem hj, e])
      go_wp2
      go_ret
      exact ⟨_, rfl, .inr ⟨rfl, HX.out⟩, Below.refl _ _⟩
end Go.Proofs.Ytbliaamckldncaa
