/- Own text. Lists of lists, each in a block of its own, all apart; edges turned round. -/
import Derived.Test.YtbliaamckldncaaOdN
namespace Go.Proofs.Ytbliaamckldncaa
open Go.RowKit Gph
set_option linter.unusedVariables false
set_option linter.unusedSimpArgs false

/-- lists of numbers, each in a block of its own, from block lo on. -/
structure PPa (w : World) (lo : Nat) (vo : Value) (P : List (List Nat)) (cs : List Value) : Prop where
  row : w.ownsRow lo 31 1 vo P.length cs
  tl : ∀ j (h : j < P.length), ∃ u, cs[j]? = some u ∧ Tl w lo u P[j]
  no : ∀ (j : Nat) u b, cs[j]? = some u → u.ownBlock = some b → vo.ownBlock ≠ some b
  ap : ∀ (i j : Nat) u u' b, i ≠ j → cs[i]? = some u → cs[j]? = some u' → u.ownBlock = some b → u'.ownBlock ≠ some b
theorem PPa.cl {w : World} {lo : Nat} {vo : Value} {P : List (List Nat)} {cs : List Value} (h : PPa w lo vo P cs) : cs.length = P.length := by have := h.row.1; omega
theorem PPa.keep {w w' : World} {lo : Nat} {vo : Value} {P : List (List Nat)} {cs : List Value} (h : PPa w lo vo P cs) (k : ∀ b, lo ≤ b → b < w.heap.size → w'.heap[b]? = w.heap[b]?) : PPa w' lo vo P cs :=
  ⟨row_keep h.row fun b hb => k b (World.ownsRow.lt h.row b hb).1 (World.ownsRow.lt h.row b hb).2, fun j hj => by
    obtain ⟨u, q1, q2⟩ := h.tl j hj
    exact ⟨u, q1, row_keep q2 fun b hb => k b (World.ownsRow.lt q2 b hb).1 (World.ownsRow.lt q2 b hb).2⟩, h.no, h.ap⟩
theorem PPa.bel {w w' : World} {lo : Nat} {vo : Value} {P : List (List Nat)} {cs : List Value} (h : PPa w lo vo P cs) (k : Below w.heap.size w w') : PPa w' lo vo P cs := h.keep fun b _ hb => k.block b hb
theorem PPa.ppt {w : World} {lo : Nat} {vo : Value} {P : List (List Nat)} {cs : List Value} (h : PPa w lo vo P cs) : PPt w lo w.heap.size vo P :=
  ⟨⟨cs, h.row, fun j hj => by
    obtain ⟨u, q1, q2⟩ := h.tl j hj
    exact ⟨u, q1, q2, fun b hb => ⟨(World.ownsRow.lt q2 b hb).2, h.no j u b q1 hb⟩⟩⟩, fun b hb => (World.ownsRow.lt h.row b hb).2⟩
theorem PPa.base {w : World} {lo lo' : Nat} {vo : Value} {P : List (List Nat)} {cs : List Value} (h : PPa w lo vo P cs) (k : lo' ≤ lo) : PPa w lo' vo P cs :=
  ⟨row_base h.row k, fun j hj => by obtain ⟨u, q1, q2⟩ := h.tl j hj; exact ⟨u, q1, row_base q2 k⟩, h.no, h.ap⟩
/-- one more number in one of the lists. -/
theorem PPa.put {w w' : World} {lo g n cap gg cc H x j : Nat} {P : List (List Nat)} {cs : List Value} {u : Value} (h : PPa w lo (.slice (some ⟨g, 0, none⟩) n cap) P cs) (hj : j < P.length) (hu : cs[j]? = some u) (hH : w.heap.size = H)
    (ho : w'.ownsRow lo 3 1 (.slice (some ⟨gg, 0, none⟩) (P[j].length + 1) cc) (P[j].length + 1) (ints (nI P[j]) ++ [.int .i64 (x : Nat)])) (hg : w.grownBy w' u.ownBlock) (ha : u.ownBlock = some gg ∨ gg = H) (hl : gg < w'.heap.size) :
    PPa (w'.setCell ⟨g, j, none⟩ (.slice (some ⟨gg, 0, none⟩) (P[j].length + 1) cc)) lo (.slice (some ⟨g, 0, none⟩) n cap) (P.set j (P[j] ++ [x])) (cs.set j (.slice (some ⟨gg, 0, none⟩) (P[j].length + 1) cc)) := by
  have hcl := h.cl
  have hgl := World.ownsRow.lt h.row g rfl
  have hne : some g ≠ u.ownBlock := fun e => h.no j u g hu e.symm rfl
  have hgg : gg ≠ g := by
    rcases ha with ha | ha
    · intro e; subst e; exact hne ha.symm
    · omega
  obtain ⟨n', hn'⟩ : ∃ n', n' = P.length := ⟨_, rfl⟩
  have hnP : n = P.length := by
    rcases h.row.2 with ⟨e, _⟩ | ⟨_, _, _, e, _⟩
    · cases e
    · cases e; rfl
  subst hnP
  have hrow' : w'.ownsRow lo 31 1 (.slice (some ⟨g, 0, none⟩) P.length cap) P.length cs := World.ownsRow.kept h.row hg (Or.inr hne)
  have hst := (World.ownsRow.stored hrow' j (.slice (some ⟨gg, 0, none⟩) (P[j].length + 1) cc)).1
  have oth : ∀ i v b, i ≠ j → cs[i]? = some v → v.ownBlock = some b → b ≠ g ∧ some b ≠ u.ownBlock ∧ b ≠ gg := fun i v b hij hv hb => by
    have a1 : b ≠ g := fun e => by subst e; exact h.no i v b hv hb rfl
    have a2 : some b ≠ u.ownBlock := fun e => h.ap i j v u b hij hv hu hb e.symm
    refine ⟨a1, a2, fun e => ?_⟩
    subst e
    rcases ha with ha | ha
    · exact a2 ha.symm
    · have hi : i < P.length := by rw [← hcl]; exact (List.getElem?_eq_some_iff.1 hv).1
      obtain ⟨v', q1, q2⟩ := h.tl i hi
      rw [hv] at q1
      cases q1
      have := (World.ownsRow.lt q2 b hb).2
      omega
  refine ⟨by rw [List.length_set]; exact hst, fun i hi => ?_, fun i v b hv hb => ?_, fun i i' v v' b hii hv hv' hb => ?_⟩
  · rw [List.length_set] at hi
    by_cases e : j = i
    · subst e
      refine ⟨_, List.getElem?_set_self (by omega), ?_⟩
      rw [List.getElem_set_self]
      exact row_keep (Tl.add ho) fun b hb => heap_set_ne (by cases hb; exact hgg)
    · obtain ⟨v, q1, q2⟩ := h.tl i hi
      refine ⟨v, by rw [List.getElem?_set_ne e]; exact q1, ?_⟩
      rw [List.getElem_set_ne e]
      refine row_keep (row_keep q2 fun b hb => hg.block b (World.ownsRow.lt q2 b hb).2 (oth i v b (fun k => e k.symm) q1 hb).2.1) fun b hb => heap_set_ne (oth i v b (fun k => e k.symm) q1 hb).1
  · by_cases e : j = i
    · subst e
      rw [List.getElem?_set_self (by omega)] at hv
      cases hv
      cases hb
      exact fun k => by cases k; exact hgg rfl
    · rw [List.getElem?_set_ne e] at hv
      exact h.no i v b hv hb
  · by_cases e : j = i
    · subst e
      rw [List.getElem?_set_self (by omega)] at hv
      rw [List.getElem?_set_ne hii] at hv'
      cases hv
      cases hb
      exact fun k => (oth i' v' gg (fun z => hii z.symm) hv' k).2.2 rfl
    · rw [List.getElem?_set_ne e] at hv
      by_cases e' : j = i'
      · subst e'
        rw [List.getElem?_set_self (by omega)] at hv'
        cases hv'
        intro k
        have k' : gg = b := by cases k; rfl
        exact (oth i v b hii hv hb).2.2 k'.symm
      · rw [List.getElem?_set_ne e'] at hv'
        exact h.ap i i' v v' b hii hv hv' hb
/-- edges turned round, so far: k places whole, and m edges of the next. -/
structure Tp (G R : List (List Nat)) (k m : Nat) : Prop where
  len : R.length = G.length
  mem : ∀ x y, x ∈ ed R y ↔ (x < k ∧ y ∈ ed G x) ∨ (x = k ∧ y ∈ (ed G x).take m)
  bd : ∀ y, (ed R y).length ≤ k * 1048576 + m
theorem Tp.start (G : List (List Nat)) : Tp G (List.replicate G.length []) 0 0 := by
  have e : ∀ y, ed (List.replicate G.length ([] : List Nat)) y = [] := fun y => by unfold ed; rw [List.getElem?_replicate]; split <;> rfl
  exact ⟨by simp, fun x y => by rw [e]; simp, fun y => by rw [e]; simp⟩
theorem ed_set {R : List (List Nat)} {j y : Nat} {l : List Nat} (hj : j < R.length) : ed (R.set j l) y = if y = j then l else ed R y := by
  unfold ed
  rw [List.getElem?_set]
  by_cases h : j = y
  · subst h; simp [hj]
  · rw [if_neg h, if_neg (fun e => h e.symm)]
theorem Tp.step {G R : List (List Nat)} {k m : Nat} (h : Tp G R k m) (hm : m < (ed G k).length) (hto : (ed G k)[m] < G.length) : Tp G (R.set (ed G k)[m] (ed R (ed G k)[m] ++ [k])) k (m + 1) := by
  have hR : (ed G k)[m] < R.length := by rw [h.len]; exact hto
  refine ⟨by simpa using h.len, fun x y => ?_, fun y => ?_⟩
  · rw [ed_set hR]
    have hmem : (x = k ∧ y ∈ (ed G x).take (m + 1)) ↔ (x = k ∧ y ∈ (ed G x).take m) ∨ (x = k ∧ y = (ed G k)[m]) := by
      constructor
      · rintro ⟨rfl, q⟩
        rw [List.take_succ_eq_append_getElem hm] at q
        rcases List.mem_append.1 q with q | q
        · exact Or.inl ⟨rfl, q⟩
        · exact Or.inr ⟨rfl, List.mem_singleton.1 q⟩
      · rintro (⟨rfl, q⟩ | ⟨rfl, q⟩)
        · exact ⟨rfl, by rw [List.take_succ_eq_append_getElem hm]; exact List.mem_append_left _ q⟩
        · exact ⟨rfl, by rw [List.take_succ_eq_append_getElem hm, q]; exact List.mem_append_right _ List.mem_cons_self⟩
    rw [hmem]
    by_cases e : y = (ed G k)[m]
    · rw [if_pos e, List.mem_append, List.mem_singleton, ← e, h.mem x y]
      constructor
      · rintro ((q | q) | q)
        · exact Or.inl q
        · exact Or.inr (Or.inl q)
        · exact Or.inr (Or.inr ⟨q, rfl⟩)
      · rintro (q | q | q)
        · exact Or.inl (Or.inl q)
        · exact Or.inl (Or.inr q)
        · exact Or.inr q.1
    · rw [if_neg e, h.mem x y]
      constructor
      · rintro (q | q)
        · exact Or.inl q
        · exact Or.inr (Or.inl q)
      · rintro (q | q | q)
        · exact Or.inl q
        · exact Or.inr q
        · exact absurd q.2 e
  · rw [ed_set hR]
    split
    · have := h.bd (ed G k)[m]; rw [List.length_append]; simp; omega
    · have := h.bd y; omega
theorem Tp.row {G R : List (List Nat)} {k m : Nat} (h : Tp G R k m) (hm : (ed G k).length ≤ m) (hk : m ≤ 1048576) : Tp G R (k + 1) 0 := by
  refine ⟨h.len, fun x y => ?_, fun y => ?_⟩
  rotate_left
  · have := h.bd y
    have e : (k + 1) * 1048576 = k * 1048576 + 1 * 1048576 := Nat.add_mul k 1 1048576
    rw [e]
    refine Nat.le_trans this ?_
    exact Nat.add_le_add_left (Nat.le_trans hk (Nat.le_of_eq (Nat.one_mul 1048576).symm)) _
  rw [h.mem x y]
  constructor
  · rintro (q | ⟨rfl, q⟩)
    · exact Or.inl ⟨by omega, q.2⟩
    · exact Or.inl ⟨by omega, List.mem_of_mem_take q⟩
  · rintro (q | q)
    · by_cases e : x = k
      · subst e; exact Or.inr ⟨rfl, by rw [List.take_of_length_le hm]; exact q.2⟩
      · exact Or.inl ⟨by omega, q.2⟩
    · simp at q
theorem Tp.turn {G R : List (List Nat)} {k : Nat} (h : Tp G R k 0) (hk : G.length ≤ k) : Turn G R :=
  ⟨h.len, fun x y => by
    rw [h.mem x y]
    constructor
    · rintro (q | q)
      · exact q.2
      · simp at q
    · intro q
      exact Or.inl ⟨by have := ed_lt q; omega, q⟩⟩
end Go.Proofs.Ytbliaamckldncaa
