/- Own text. Paths as rows of bytes: the parts of a text, the path that it is, what stands ahead of the last slash. -/
import Derived.Test.YtlogohcfahmilaaProg
namespace Go.Proofs.Ytlogohcfahmilaa

abbrev Bs := List UInt8

/-- what stands between the slashes. -/
def splitS : Bs → List Bs
  | [] => [[]]
  | c :: r => if c = 47 then [] :: splitS r else (c :: (splitS r).headD []) :: (splitS r).tail

theorem splitS_ne (s : Bs) : splitS s ≠ [] := by
  cases s with
  | nil => simp [splitS]
  | cons c r => unfold splitS; split <;> simp

theorem splitS_plain : ∀ {q : Bs}, 47 ∉ q → splitS q = [q]
  | [], _ => rfl
  | c :: r, h => by
    have h1 : c ≠ 47 := fun e => h (by simp [e])
    have h2 : 47 ∉ r := fun e => h (by simp [e])
    simp [splitS, h1, splitS_plain h2]

theorem splitS_app : ∀ (t u : Bs), splitS (t ++ 47 :: u) = splitS t ++ splitS u
  | [], u => by simp [splitS]
  | c :: r, u => by
    have ih := splitS_app r u
    by_cases h : c = 47
    · simp [splitS, h, ih]
    · obtain ⟨x, xs, hx⟩ := List.exists_cons_of_ne_nil (splitS_ne r)
      simp [splitS, h, ih, hx]

theorem splitS_cut {q : Bs} (r : Bs) (h : 47 ∉ q) : splitS (q ++ 47 :: r) = q :: splitS r := by
  rw [splitS_app, splitS_plain h]; rfl

def signB (c : UInt8) : Bool := (97 ≤ c && c ≤ 122) || (65 ≤ c && c ≤ 90) || (48 ≤ c && c ≤ 57) || c == 95 || c == 45 || c == 46

def step (L : List Bs) (q : Bs) : Option (List Bs) :=
  if q = [] ∨ q = [46] then some L
  else if q = [46, 46] then (if L = [] then none else some L.dropLast)
  else if q.all signB then some (L ++ [q]) else none

def walkL : List Bs → List Bs → Option (List Bs)
  | L, [] => some L
  | L, q :: qs => match step L q with
    | none => none
    | some L' => walkL L' qs

def joinS (L : List Bs) : Bs := L.flatMap (47 :: ·)

def fin : Option (List Bs) → Bs × Nat
  | none => ([], 30)
  | some L => if L = [] then ([], 30) else if 200 < (joinS L).length then ([], 31) else (joinS L, 0)

/-- the path that a text is, and the error. -/
def nrm : Bs → Bs × Nat
  | [] => ([], 30)
  | c :: r => if c = 47 then fin (walkL [] (splitS r)) else ([], 30)

def dirS (p : Bs) : Bs := (p.reverse.dropWhile (· != 47)).tail.reverse

def reqS (r : Bs) : Bool := [46, 47].isPrefixOf r || [46, 46, 47].isPrefixOf r
def jn (f r : Bs) : Bs × Nat := if reqS r then nrm (dirS f ++ 47 :: r) else ([], 30)

def endS : List Bs := [[], [46, 116, 115], [47, 105, 110, 100, 101, 120, 46, 116, 115]]
def prb (p : Bs) : List Bs := (endS.map (p ++ ·)).filter fun x => decide (x.length ≤ 200)

structure Good (q : Bs) : Prop where
  ne : q ≠ []
  dot : q ≠ [46]
  two : q ≠ [46, 46]
  sg : q.all signB = true

theorem plain_of_sg {q : Bs} (h : q.all signB = true) : (47 : UInt8) ∉ q := fun hm => by
  have := List.all_eq_true.1 h 47 hm
  revert this
  decide
theorem Good.plain {q : Bs} (h : Good q) : (47 : UInt8) ∉ q := plain_of_sg h.sg

theorem step_good {L : List Bs} {q : Bs} (h : Good q) : step L q = some (L ++ [q]) := by simp [step, h.ne, h.dot, h.two, h.sg]
theorem step_none (L : List Bs) : step L [] = some L := by simp [step]
theorem step_dot (L : List Bs) : step L [46] = some L := by simp [step]

theorem step_keeps {L L' : List Bs} {q : Bs} (hL : ∀ x ∈ L, Good x) (h : step L q = some L') : ∀ x ∈ L', Good x := by
  unfold step at h
  split at h
  · cases h; exact hL
  · rename_i h0
    split at h
    · split at h
      · cases h
      · cases h; exact fun x hx => hL x ((List.dropLast_sublist L).subset hx)
    · rename_i h2
      split at h
      · rename_i h3
        cases h
        intro x hx
        rcases List.mem_append.1 hx with hx | hx
        · exact hL x hx
        · have e := List.mem_singleton.1 hx
          subst e
          exact ⟨fun e => h0 (.inl e), fun e => h0 (.inr e), h2, h3⟩
      · cases h

theorem walk_keeps : ∀ {qs L L' : List Bs}, (∀ x ∈ L, Good x) → walkL L qs = some L' → ∀ x ∈ L', Good x
  | [], L, L', hL, h => by cases h; exact hL
  | q :: qs, L, L', hL, h => by
    unfold walkL at h
    split at h
    · cases h
    · rename_i M hM
      exact walk_keeps (step_keeps hL hM) h

theorem walk_app : ∀ (qs rs L : List Bs), walkL L (qs ++ rs) = (walkL L qs).bind fun M => walkL M rs
  | [], rs, L => rfl
  | q :: qs, rs, L => by
    simp only [List.cons_append, walkL]
    cases step L q with
    | none => rfl
    | some M => exact walk_app qs rs M

theorem walk_good : ∀ (qs L : List Bs), (∀ x ∈ qs, Good x) → walkL L qs = some (L ++ qs)
  | [], L, _ => by simp [walkL]
  | q :: qs, L, h => by
    simp only [walkL, step_good (h q (by simp))]
    rw [walk_good qs _ (fun x hx => h x (by simp [hx]))]
    simp

/-- a sign that may not be makes it none. -/
theorem walk_bad : ∀ (qs L : List Bs), (∃ q ∈ qs, q.all signB = false) → walkL L qs = none
  | q :: qs, L, h => by
    by_cases hq : q.all signB = false
    · have h1 : q ≠ [] := fun e => by subst e; cases hq
      have h2 : q ≠ [46] := fun e => by subst e; revert hq; decide
      have h3 : q ≠ [46, 46] := fun e => by subst e; revert hq; decide
      simp [walkL, step, h1, h2, h3, hq]
    · obtain ⟨x, hx, hb⟩ := h
      rcases List.mem_cons.1 hx with rfl | hx
      · exact absurd hb hq
      · simp only [walkL]
        cases step L q with
        | none => rfl
        | some M => exact walk_bad qs M ⟨x, hx, hb⟩

theorem joinS_cons (q : Bs) (L : List Bs) : joinS (q :: L) = 47 :: (q ++ joinS L) := by simp [joinS]
theorem joinS_snoc (L : List Bs) (q : Bs) : joinS (L ++ [q]) = joinS L ++ 47 :: q := by simp [joinS]
theorem joinS_nil : joinS [] = [] := rfl

/-- what is joined, and a slash and more behind. -/
theorem split_join_app : ∀ (L : List Bs) (u : Bs), (∀ x ∈ L, Good x) → ∃ t, joinS L ++ 47 :: u = 47 :: t ∧ splitS t = L ++ splitS u
  | [], u, _ => ⟨u, rfl, rfl⟩
  | q :: L, u, h => by
    obtain ⟨t, e1, e2⟩ := split_join_app L u (fun x hx => h x (by simp [hx]))
    refine ⟨q ++ 47 :: t, ?_, ?_⟩
    · rw [joinS_cons, List.cons_append, List.append_assoc, e1]
    · rw [splitS_cut _ (h q (by simp)).plain, e2]; rfl

theorem snoc_of {L : List Bs} (h : L ≠ []) : ∃ M q, L = M ++ [q] := by
  rcases List.eq_nil_or_concat L with e | ⟨M, q, e⟩
  · exact absurd e h
  · exact ⟨M, q, by simpa using e⟩

theorem split_join (L : List Bs) (hn : L ≠ []) (h : ∀ x ∈ L, Good x) : ∃ t, joinS L = 47 :: t ∧ splitS t = L := by
  obtain ⟨M, q, rfl⟩ := snoc_of hn
  have hq := h q (by simp)
  obtain ⟨t, e1, e2⟩ := split_join_app M q (fun x hx => h x (by simp [hx]))
  rw [splitS_plain hq.plain] at e2
  exact ⟨t, by rw [joinS_snoc, e1], e2⟩

theorem nrm_app (L : List Bs) (u : Bs) (h : ∀ x ∈ L, Good x) : nrm (joinS L ++ 47 :: u) = fin (walkL L (splitS u)) := by
  obtain ⟨t, e1, e2⟩ := split_join_app L u h
  rw [e1]
  show (if (47 : UInt8) = 47 then fin (walkL [] (splitS t)) else ([], 30)) = _
  rw [if_pos rfl, e2, walk_app, walk_good L [] h]
  rfl

theorem fin_ok {o : Option (List Bs)} (h : (fin o).2 = 0) : ∃ L, o = some L ∧ L ≠ [] ∧ (joinS L).length ≤ 200 ∧ (fin o).1 = joinS L := by
  unfold fin at *
  split at h
  · cases h
  · rename_i L
    split at h
    · cases h
    · split at h
      · cases h
      · rename_i h1 h2
        exact ⟨L, rfl, h1, by omega, by simp [h1, h2]⟩
theorem fin_err {o : Option (List Bs)} (h : (fin o).2 ≠ 0) : (fin o).1 = [] := by
  unfold fin at *
  split
  · rfl
  · split
    · rfl
    · split
      · rfl
      · rename_i L h1 h2
        simp [h1, h2] at h
theorem fin_join {L : List Bs} (h : L ≠ []) (hl : (joinS L).length ≤ 200) : fin (some L) = (joinS L, 0) := by
  simp [fin, h, Nat.not_lt.2 hl]

theorem nrm_ok {p : Bs} (h : (nrm p).2 = 0) : ∃ L, L ≠ [] ∧ (∀ x ∈ L, Good x) ∧ (joinS L).length ≤ 200 ∧ (nrm p).1 = joinS L := by
  unfold nrm at *
  split at h
  · cases h
  · split at h
    · rename_i c r h1
      obtain ⟨L, e1, e2, e3, e4⟩ := fin_ok h
      refine ⟨L, e2, walk_keeps (by simp) e1, e3, ?_⟩
      simp only [h1, if_true]
      exact e4
    · cases h
theorem nrm_err {p : Bs} (h : (nrm p).2 ≠ 0) : (nrm p).1 = [] := by
  unfold nrm at *
  split
  · rfl
  · split
    · rename_i c r h1
      simp only [h1, if_true] at h
      exact fin_err h
    · rfl
theorem nrm_size (p : Bs) : (nrm p).1.length ≤ 200 := by
  by_cases h : (nrm p).2 = 0
  · obtain ⟨L, _, _, h3, h4⟩ := nrm_ok h
    rw [h4]; exact h3
  · rw [nrm_err h]; exact Nat.zero_le _

theorem nrm_join {L : List Bs} (hn : L ≠ []) (h : ∀ x ∈ L, Good x) (hl : (joinS L).length ≤ 200) : nrm (joinS L) = (joinS L, 0) := by
  obtain ⟨t, e1, e2⟩ := split_join L hn h
  have : nrm (joinS L) = fin (walkL [] (splitS t)) := by rw [e1]; rfl
  rw [this, e2, walk_good L [] h]
  exact fin_join (by simpa using hn) (by simpa using hl)

theorem dirS_at {a q : Bs} (h : 47 ∉ q) : dirS (a ++ 47 :: q) = a := by
  have : ∀ (q t : Bs), 47 ∉ q → ((q ++ 47 :: t).dropWhile (· != 47)) = 47 :: t := fun q => by
    induction q with
    | nil => intro t _; simp
    | cons c r ih =>
      intro t hq
      have h1 : c ≠ 47 := fun e => hq (by simp [e])
      have h2 : 47 ∉ r := fun e => hq (by simp [e])
      simp only [List.cons_append, List.dropWhile_cons]
      have : (c != 47) = true := by simpa using h1
      simp only [this, if_true]
      exact ih t h2
  unfold dirS
  rw [List.reverse_append, List.reverse_cons, List.append_assoc, List.singleton_append, this _ _ (by simpa using h)]
  simp
theorem dirS_none {p : Bs} (h : 47 ∉ p) : dirS p = [] := by
  have : ∀ q : Bs, 47 ∉ q → q.dropWhile (· != 47) = [] := fun q => by
    induction q with
    | nil => intro _; rfl
    | cons c r ih =>
      intro hq
      have h1 : c ≠ 47 := fun e => hq (by simp [e])
      have h2 : 47 ∉ r := fun e => hq (by simp [e])
      have : (c != 47) = true := by simpa using h1
      simp only [List.dropWhile_cons, this, if_true]
      exact ih h2
  unfold dirS
  rw [this _ (by simpa using h)]
  rfl
theorem dirS_size (p : Bs) : (dirS p).length ≤ p.length := by
  unfold dirS
  have : (p.reverse.dropWhile (· != 47)).length ≤ p.reverse.length := (List.dropWhile_sublist _).length_le
  simp only [List.length_reverse, List.length_tail] at *
  omega
theorem dirS_join (L : List Bs) (q : Bs) (h : Good q) : dirS (joinS (L ++ [q])) = joinS L := by
  rw [joinS_snoc, dirS_at h.plain]

theorem jn_ok {f r : Bs} (h : (jn f r).2 = 0) : nrm (jn f r).1 = ((jn f r).1, 0) := by
  unfold jn at *
  split at h
  · rename_i hr
    obtain ⟨L, e1, e2, e3, e4⟩ := nrm_ok h
    simp only [hr, if_true]
    rw [e4]
    exact nrm_join e1 e2 e3
  · cases h
theorem jn_err {f r : Bs} (h : (jn f r).2 ≠ 0) : (jn f r).1 = [] := by
  unfold jn at *
  split
  · rename_i hr
    simp only [hr, if_true] at h
    exact nrm_err h
  · rfl
theorem jn_size (f r : Bs) : (jn f r).1.length ≤ 200 := by
  unfold jn
  split
  · exact nrm_size _
  · exact Nat.zero_le _

/-- what was made is a path. -/
theorem settles {p : Bs} (h : (nrm p).2 = 0) : nrm (nrm p).1 = ((nrm p).1, 0) ∧ 2 ≤ (nrm p).1.length ∧ (nrm p).1.length ≤ 200 ∧ (nrm p).1[0]? = some 47 ∧ (nrm p).1[(nrm p).1.length - 1]? ≠ some 47 ∧
    ((jn (nrm p).1 [46, 47, 120]).2 = 0 → dirS (jn (nrm p).1 [46, 47, 120]).1 = dirS (nrm p).1 ∧ (jn (nrm p).1 [46, 47, 120]).1 = dirS (nrm p).1 ++ [47, 120]) := by
  obtain ⟨L, e1, e2, e3, e4⟩ := nrm_ok h
  rw [e4]
  obtain ⟨M, q, rfl⟩ := snoc_of e1
  have hq := e2 q (by simp)
  have hM : ∀ x ∈ M, Good x := fun x hx => e2 x (by simp [hx])
  have hq0 : 0 < q.length := List.length_pos_iff.2 hq.ne
  refine ⟨nrm_join e1 e2 e3, ?_, e3, ?_, ?_, ?_⟩
  · rw [joinS_snoc]; simp; omega
  · obtain ⟨t, h1, _⟩ := split_join _ e1 e2
    rw [h1]; rfl
  · intro hc
    rw [joinS_snoc] at hc
    have hlen : (joinS M ++ 47 :: q).length - 1 = (joinS M).length + (q.length - 1) + 1 := by simp; omega
    rw [hlen, List.getElem?_append_right (by omega)] at hc
    have h3 : (joinS M).length + (q.length - 1) + 1 - (joinS M).length = (q.length - 1) + 1 := by omega
    rw [h3, List.getElem?_cons_succ] at hc
    exact hq.plain (List.mem_of_getElem? hc)
  · intro hj
    have hx : Good [120] := ⟨by simp, by decide, by decide, by decide⟩
    have ed : jn (joinS (M ++ [q])) [46, 47, 120] = fin (some (M ++ [[120]])) := by
      unfold jn
      rw [show reqS [46, 47, 120] = true from by decide, if_pos rfl, dirS_join _ _ hq, nrm_app _ _ hM]
      rw [show splitS [46, 47, 120] = [[46], [120]] from by decide]
      simp only [walkL, step_dot, step_good hx]
    rw [ed] at hj ⊢
    obtain ⟨L', e5, _, e7, e8⟩ := fin_ok hj
    cases e5
    rw [e8, dirS_join _ _ hx, dirS_join _ _ hq, joinS_snoc]
    exact ⟨rfl, rfl⟩

/-- down and up again. -/
theorem upS {p part : Bs} (h : (nrm p).2 = 0) (hp : part ≠ []) (hs : ∀ c ∈ part, (97 ≤ c ∧ c ≤ 122) ∨ (48 ≤ c ∧ c ≤ 57)) (hl : (nrm p).1.length + part.length ≤ 190) :
    nrm ((nrm p).1 ++ 47 :: part ++ [47, 46, 46]) = ((nrm p).1, 0) ∧ nrm ((nrm p).1 ++ 47 :: part) = ((nrm p).1 ++ 47 :: part, 0) ∧ dirS ((nrm p).1 ++ 47 :: part) = (nrm p).1 ∧
    jn ((nrm p).1 ++ 47 :: part) (46 :: 47 :: part) = ((nrm p).1 ++ 47 :: part, 0) := by
  obtain ⟨L, e1, e2, e3, e4⟩ := nrm_ok h
  have sg : part.all signB = true := List.all_eq_true.2 fun c hc => by
    unfold signB
    rcases hs c hc with ⟨a, b⟩ | ⟨a, b⟩ <;> simp [a, b]
  have h46 : (46 : UInt8) ∉ part := fun hc => by
    rcases hs 46 hc with ⟨a, b⟩ | ⟨a, b⟩
    · revert a; decide
    · revert a; decide
  have hg : Good part := ⟨hp, fun e => h46 (by simp [e]), fun e => h46 (by simp [e]), sg⟩
  rw [e4] at hl ⊢
  have hlen : (joinS (L ++ [part])).length ≤ 200 := by rw [joinS_snoc]; simp; omega
  have hall : ∀ x ∈ L ++ [part], Good x := fun x hx => by
    rcases List.mem_append.1 hx with hx | hx
    · exact e2 x hx
    · rw [List.mem_singleton.1 hx]; exact hg
  refine ⟨?_, ?_, ?_, ?_⟩
  · rw [show joinS L ++ 47 :: part ++ [47, 46, 46] = joinS (L ++ [part]) ++ 47 :: [46, 46] from by rw [joinS_snoc], nrm_app _ _ hall]
    rw [show splitS [46, 46] = [[46, 46]] from by decide]
    have : step (L ++ [part]) [46, 46] = some L := by simp [step]
    simp only [walkL, this]
    exact fin_join e1 e3
  · rw [← joinS_snoc]; exact nrm_join (by simp) hall hlen
  · rw [← joinS_snoc]; exact dirS_join _ _ hg
  · unfold jn
    rw [show reqS (46 :: 47 :: part) = true from by simp [reqS], if_pos rfl, ← joinS_snoc, dirS_join _ _ hg, nrm_app _ _ e2]
    rw [show splitS (46 :: 47 :: part) = [[46], part] from by rw [show (46 :: 47 :: part : Bs) = [46] ++ 47 :: part from rfl, splitS_cut _ (by decide), splitS_plain hg.plain]]
    simp only [walkL, step_dot, step_good hg]
    exact fin_join (by simp) hlen

end Go.Proofs.Ytlogohcfahmilaa
