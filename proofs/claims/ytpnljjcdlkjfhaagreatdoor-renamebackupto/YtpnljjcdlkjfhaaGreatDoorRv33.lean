/- Own text. Paths as rows of bytes: the parts of a text, the path that it is, what stands ahead of the last slash. The signs of a part, by the program and by the document. Calls of Go's strings as the program makes them: a cut at the first slash, the last slash, a copy; Dir. The walk over a path's parts, and Normal, Join. Normal and Join. -/
import Derived.Test.YtpnljjcdlkjfhaaGreatDoorProg
import Derived.WalkKit
import Derived.WalkSmall
import Derived.Lib.Strings
import Derived.WalkLawsBesides
import Derived.Test.YtpnljjcdlkjfhaaGreatDoorShelf
import Derived.Lib.IndexLaws
import Derived.Laws.Rows
import Derived.Below
import Derived.Lib.AppendStr
import Derived.Laws.BytesString
import Derived.Laws.OwnMore
import Derived.OwnWalk
import Derived.Maps.AppendAt
import Derived.Deep.LoopGhost
import Derived.Laws.IdiomStrings
namespace Go.Proofs.YtpnljjcdlkjfhaaGreatDoor.Pa
abbrev Bs := List UInt8

/-- what stands between the slashes. -/
def splitS : Bs → List Bs
  | [] => [[]]
  | c :: r => if c = 47 then [] :: splitS r else (c :: (splitS r).headD []) :: (splitS r).tail

set_option maxRecDepth 100000 in
theorem splitS_ne (s : Bs) : splitS s ≠ [] := by
  cases s with
  | nil => simp [splitS]
  | cons c r => unfold splitS; split <;> simp

set_option maxRecDepth 100000 in
theorem splitS_plain : ∀ {q : Bs}, 47 ∉ q → splitS q = [q]
  | [], _ => rfl
  | c :: r, h => by
    have h1 : c ≠ 47 := fun e => h (by simp [e])
    have h2 : 47 ∉ r := fun e => h (by simp [e])
    simp [splitS, h1, splitS_plain h2]

set_option maxRecDepth 100000 in
theorem splitS_app : ∀ (t u : Bs), splitS (t ++ 47 :: u) = splitS t ++ splitS u
  | [], u => by simp [splitS]
  | c :: r, u => by
    have ih := splitS_app r u
    by_cases h : c = 47
    · simp [splitS, h, ih]
    · obtain ⟨x, xs, hx⟩ := List.exists_cons_of_ne_nil (splitS_ne r)
      simp [splitS, h, ih, hx]

set_option maxRecDepth 100000 in
theorem splitS_cut {q : Bs} (r : Bs) (h : 47 ∉ q) : splitS (q ++ 47 :: r) = q :: splitS r := by
  rw [splitS_app, splitS_plain h]; rfl

def signB (c : UInt8) : Bool := (97 ≤ c && c ≤ 122) || (65 ≤ c && c ≤ 90) || (48 ≤ c && c ≤ 57) || c == 95 || c == 45 || c == 46

def step (L : List Bs) (q : Bs) : Option (List Bs) :=
  if q = [] ∨ q = [46] then some L
  else if q = [46, 46] then (if L = [] then none else some L.dropLast)
  else if q.all signB then some (L ++ [q]) else none

def walkL : List Bs → List Bs → Option (List Bs)
  | L, [] => some L
  | L, q :: qs => match step L q with
    | none => none
    | some L' => walkL L' qs

def joinS (L : List Bs) : Bs := L.flatMap (47 :: ·)

def fin : Option (List Bs) → Bs × Nat
  | none => ([], 30)
  | some L => if L = [] then ([], 30) else if 200 < (joinS L).length then ([], 31) else (joinS L, 0)

/-- the path that a text is, and the error. -/
def nrm : Bs → Bs × Nat
  | [] => ([], 30)
  | c :: r => if c = 47 then fin (walkL [] (splitS r)) else ([], 30)

def dirS (p : Bs) : Bs := (p.reverse.dropWhile (· != 47)).tail.reverse

def reqS (r : Bs) : Bool := [46, 47].isPrefixOf r || [46, 46, 47].isPrefixOf r
def jn (f r : Bs) : Bs × Nat := if reqS r then nrm (dirS f ++ 47 :: r) else ([], 30)

def endS : List Bs := [[], [46, 116, 115], [47, 105, 110, 100, 101, 120, 46, 116, 115]]
def prb (p : Bs) : List Bs := (endS.map (p ++ ·)).filter fun x => decide (x.length ≤ 200)

structure Good (q : Bs) : Prop where
  ne : q ≠ []
  dot : q ≠ [46]
  two : q ≠ [46, 46]
  sg : q.all signB = true

set_option maxRecDepth 100000 in
theorem plain_of_sg {q : Bs} (h : q.all signB = true) : (47 : UInt8) ∉ q := fun hm => by
  have := List.all_eq_true.1 h 47 hm
  revert this
  decide
set_option maxRecDepth 100000 in
theorem Good.plain {q : Bs} (h : Good q) : (47 : UInt8) ∉ q := plain_of_sg h.sg

set_option maxRecDepth 100000 in
theorem step_good {L : List Bs} {q : Bs} (h : Good q) : step L q = some (L ++ [q]) := by simp [step, h.ne, h.dot, h.two, h.sg]
set_option maxRecDepth 100000 in
theorem step_none (L : List Bs) : step L [] = some L := by simp [step]
set_option maxRecDepth 100000 in
theorem step_dot (L : List Bs) : step L [46] = some L := by simp [step]

set_option maxRecDepth 100000 in
theorem step_keeps {L L' : List Bs} {q : Bs} (hL : ∀ x ∈ L, Good x) (h : step L q = some L') : ∀ x ∈ L', Good x := by
  unfold step at h
  split at h
  · cases h; exact hL
  · rename_i h0
    split at h
    · split at h
      · cases h
      · cases h; exact fun x hx => hL x ((List.dropLast_sublist L).subset hx)
    · rename_i h2
      split at h
      · rename_i h3
        cases h
        intro x hx
        rcases List.mem_append.1 hx with hx | hx
        · exact hL x hx
        · have e := List.mem_singleton.1 hx
          subst e
          exact ⟨fun e => h0 (.inl e), fun e => h0 (.inr e), h2, h3⟩
      · cases h

set_option maxRecDepth 100000 in
theorem walk_keeps : ∀ {qs L L' : List Bs}, (∀ x ∈ L, Good x) → walkL L qs = some L' → ∀ x ∈ L', Good x
  | [], L, L', hL, h => by cases h; exact hL
  | q :: qs, L, L', hL, h => by
    unfold walkL at h
    split at h
    · cases h
    · rename_i M hM
      exact walk_keeps (step_keeps hL hM) h

set_option maxRecDepth 100000 in
theorem walk_app : ∀ (qs rs L : List Bs), walkL L (qs ++ rs) = (walkL L qs).bind fun M => walkL M rs
  | [], rs, L => rfl
  | q :: qs, rs, L => by
    simp only [List.cons_append, walkL]
    cases step L q with
    | none => rfl
    | some M => exact walk_app qs rs M

set_option maxRecDepth 100000 in
theorem walk_good : ∀ (qs L : List Bs), (∀ x ∈ qs, Good x) → walkL L qs = some (L ++ qs)
  | [], L, _ => by simp [walkL]
  | q :: qs, L, h => by
    simp only [walkL, step_good (h q (by simp))]
    rw [walk_good qs _ (fun x hx => h x (by simp [hx]))]
    simp

/-- a sign that may not be makes it none. -/
theorem walk_bad : ∀ (qs L : List Bs), (∃ q ∈ qs, q.all signB = false) → walkL L qs = none
  | q :: qs, L, h => by
    by_cases hq : q.all signB = false
    · have h1 : q ≠ [] := fun e => by subst e; cases hq
      have h2 : q ≠ [46] := fun e => by subst e; revert hq; decide
      have h3 : q ≠ [46, 46] := fun e => by subst e; revert hq; decide
      simp [walkL, step, h1, h2, h3, hq]
    · obtain ⟨x, hx, hb⟩ := h
      rcases List.mem_cons.1 hx with rfl | hx
      · exact absurd hb hq
      · simp only [walkL]
        cases step L q with
        | none => rfl
        | some M => exact walk_bad qs M ⟨x, hx, hb⟩

set_option maxRecDepth 100000 in
theorem joinS_cons (q : Bs) (L : List Bs) : joinS (q :: L) = 47 :: (q ++ joinS L) := by simp [joinS]
set_option maxRecDepth 100000 in
theorem joinS_snoc (L : List Bs) (q : Bs) : joinS (L ++ [q]) = joinS L ++ 47 :: q := by simp [joinS]
set_option maxRecDepth 100000 in
theorem joinS_nil : joinS [] = [] := rfl

/-- what is joined, and a slash and more behind. -/
theorem split_join_app : ∀ (L : List Bs) (u : Bs), (∀ x ∈ L, Good x) → ∃ t, joinS L ++ 47 :: u = 47 :: t ∧ splitS t = L ++ splitS u
  | [], u, _ => ⟨u, rfl, rfl⟩
  | q :: L, u, h => by
    obtain ⟨t, e1, e2⟩ := split_join_app L u (fun x hx => h x (by simp [hx]))
    refine ⟨q ++ 47 :: t, ?_, ?_⟩
    · rw [joinS_cons, List.cons_append, List.append_assoc, e1]
    · rw [splitS_cut _ (h q (by simp)).plain, e2]; rfl

set_option maxRecDepth 100000 in
theorem snoc_of {L : List Bs} (h : L ≠ []) : ∃ M q, L = M ++ [q] := by
  rcases List.eq_nil_or_concat L with e | ⟨M, q, e⟩
  · exact absurd e h
  · exact ⟨M, q, by simpa using e⟩

set_option maxRecDepth 100000 in
theorem split_join (L : List Bs) (hn : L ≠ []) (h : ∀ x ∈ L, Good x) : ∃ t, joinS L = 47 :: t ∧ splitS t = L := by
  obtain ⟨M, q, rfl⟩ := snoc_of hn
  have hq := h q (by simp)
  obtain ⟨t, e1, e2⟩ := split_join_app M q (fun x hx => h x (by simp [hx]))
  rw [splitS_plain hq.plain] at e2
  exact ⟨t, by rw [joinS_snoc, e1], e2⟩

set_option maxRecDepth 100000 in
theorem nrm_app (L : List Bs) (u : Bs) (h : ∀ x ∈ L, Good x) : nrm (joinS L ++ 47 :: u) = fin (walkL L (splitS u)) := by
  obtain ⟨t, e1, e2⟩ := split_join_app L u h
  rw [e1]
  show (if (47 : UInt8) = 47 then fin (walkL [] (splitS t)) else ([], 30)) = _
  rw [if_pos rfl, e2, walk_app, walk_good L [] h]
  rfl

set_option maxRecDepth 100000 in
theorem fin_ok {o : Option (List Bs)} (h : (fin o).2 = 0) : ∃ L, o = some L ∧ L ≠ [] ∧ (joinS L).length ≤ 200 ∧ (fin o).1 = joinS L := by
  unfold fin at *
  split at h
  · cases h
  · rename_i L
    split at h
    · cases h
    · split at h
      · cases h
      · rename_i h1 h2
        exact ⟨L, rfl, h1, by omega, by simp [h1, h2]⟩
set_option maxRecDepth 100000 in
theorem fin_err {o : Option (List Bs)} (h : (fin o).2 ≠ 0) : (fin o).1 = [] := by
  unfold fin at *
  split
  · rfl
  · split
    · rfl
    · split
      · rfl
      · rename_i L h1 h2
        simp [h1, h2] at h
set_option maxRecDepth 100000 in
theorem fin_join {L : List Bs} (h : L ≠ []) (hl : (joinS L).length ≤ 200) : fin (some L) = (joinS L, 0) := by
  simp [fin, h, Nat.not_lt.2 hl]

set_option maxRecDepth 100000 in
theorem nrm_ok {p : Bs} (h : (nrm p).2 = 0) : ∃ L, L ≠ [] ∧ (∀ x ∈ L, Good x) ∧ (joinS L).length ≤ 200 ∧ (nrm p).1 = joinS L := by
  unfold nrm at *
  split at h
  · cases h
  · split at h
    · rename_i c r h1
      obtain ⟨L, e1, e2, e3, e4⟩ := fin_ok h
      refine ⟨L, e2, walk_keeps (by simp) e1, e3, ?_⟩
      simp only [h1, if_true]
      exact e4
    · cases h
set_option maxRecDepth 100000 in
theorem nrm_err {p : Bs} (h : (nrm p).2 ≠ 0) : (nrm p).1 = [] := by
  unfold nrm at *
  split
  · rfl
  · split
    · rename_i c r h1
      simp only [h1, if_true] at h
      exact fin_err h
    · rfl
set_option maxRecDepth 100000 in
theorem nrm_size (p : Bs) : (nrm p).1.length ≤ 200 := by
  by_cases h : (nrm p).2 = 0
  · obtain ⟨L, _, _, h3, h4⟩ := nrm_ok h
    rw [h4]; exact h3
  · rw [nrm_err h]; exact Nat.zero_le _

set_option maxRecDepth 100000 in
theorem nrm_join {L : List Bs} (hn : L ≠ []) (h : ∀ x ∈ L, Good x) (hl : (joinS L).length ≤ 200) : nrm (joinS L) = (joinS L, 0) := by
  obtain ⟨t, e1, e2⟩ := split_join L hn h
  have : nrm (joinS L) = fin (walkL [] (splitS t)) := by rw [e1]; rfl
  rw [this, e2, walk_good L [] h]
  exact fin_join (by simpa using hn) (by simpa using hl)

set_option maxRecDepth 100000 in
theorem dirS_at {a q : Bs} (h : 47 ∉ q) : dirS (a ++ 47 :: q) = a := by
  have : ∀ (q t : Bs), 47 ∉ q → ((q ++ 47 :: t).dropWhile (· != 47)) = 47 :: t := fun q => by
    induction q with
    | nil => intro t _; simp
    | cons c r ih =>
      intro t hq
      have h1 : c ≠ 47 := fun e => hq (by simp [e])
      have h2 : 47 ∉ r := fun e => hq (by simp [e])
      simp only [List.cons_append, List.dropWhile_cons]
      have : (c != 47) = true := by simpa using h1
      simp only [this, if_true]
      exact ih t h2
  unfold dirS
  rw [List.reverse_append, List.reverse_cons, List.append_assoc, List.singleton_append, this _ _ (by simpa using h)]
  simp
set_option maxRecDepth 100000 in
theorem dirS_none {p : Bs} (h : 47 ∉ p) : dirS p = [] := by
  have : ∀ q : Bs, 47 ∉ q → q.dropWhile (· != 47) = [] := fun q => by
    induction q with
    | nil => intro _; rfl
    | cons c r ih =>
      intro hq
      have h1 : c ≠ 47 := fun e => hq (by simp [e])
      have h2 : 47 ∉ r := fun e => hq (by simp [e])
      have : (c != 47) = true := by simpa using h1
      simp only [List.dropWhile_cons, this, if_true]
      exact ih h2
  unfold dirS
  rw [this _ (by simpa using h)]
  rfl
set_option maxRecDepth 100000 in
theorem dirS_size (p : Bs) : (dirS p).length ≤ p.length := by
  unfold dirS
  have : (p.reverse.dropWhile (· != 47)).length ≤ p.reverse.length := (List.dropWhile_sublist _).length_le
  simp only [List.length_reverse, List.length_tail] at *
  omega
set_option maxRecDepth 100000 in
theorem dirS_join (L : List Bs) (q : Bs) (h : Good q) : dirS (joinS (L ++ [q])) = joinS L := by
  rw [joinS_snoc, dirS_at h.plain]

set_option maxRecDepth 100000 in
theorem jn_ok {f r : Bs} (h : (jn f r).2 = 0) : nrm (jn f r).1 = ((jn f r).1, 0) := by
  unfold jn at *
  split at h
  · rename_i hr
    obtain ⟨L, e1, e2, e3, e4⟩ := nrm_ok h
    simp only [hr, if_true]
    rw [e4]
    exact nrm_join e1 e2 e3
  · cases h
set_option maxRecDepth 100000 in
theorem jn_err {f r : Bs} (h : (jn f r).2 ≠ 0) : (jn f r).1 = [] := by
  unfold jn at *
  split
  · rename_i hr
    simp only [hr, if_true] at h
    exact nrm_err h
  · rfl
set_option maxRecDepth 100000 in
theorem jn_size (f r : Bs) : (jn f r).1.length ≤ 200 := by
  unfold jn
  split
  · exact nrm_size _
  · exact Nat.zero_le _

/-- what was made is a path. -/
theorem settles {p : Bs} (h : (nrm p).2 = 0) : nrm (nrm p).1 = ((nrm p).1, 0) ∧ 2 ≤ (nrm p).1.length ∧ (nrm p).1.length ≤ 200 ∧ (nrm p).1[0]? = some 47 ∧ (nrm p).1[(nrm p).1.length - 1]? ≠ some 47 ∧
    ((jn (nrm p).1 [46, 47, 120]).2 = 0 → dirS (jn (nrm p).1 [46, 47, 120]).1 = dirS (nrm p).1 ∧ (jn (nrm p).1 [46, 47, 120]).1 = dirS (nrm p).1 ++ [47, 120]) := by
  obtain ⟨L, e1, e2, e3, e4⟩ := nrm_ok h
  rw [e4]
  obtain ⟨M, q, rfl⟩ := snoc_of e1
  have hq := e2 q (by simp)
  have hM : ∀ x ∈ M, Good x := fun x hx => e2 x (by simp [hx])
  have hq0 : 0 < q.length := List.length_pos_iff.2 hq.ne
  refine ⟨nrm_join e1 e2 e3, ?_, e3, ?_, ?_, ?_⟩
  · rw [joinS_snoc]; simp; omega
  · obtain ⟨t, h1, _⟩ := split_join _ e1 e2
    rw [h1]; rfl
  · intro hc
    rw [joinS_snoc] at hc
    have hlen : (joinS M ++ 47 :: q).length - 1 = (joinS M).length + (q.length - 1) + 1 := by simp; omega
    rw [hlen, List.getElem?_append_right (by omega)] at hc
    have h3 : (joinS M).length + (q.length - 1) + 1 - (joinS M).length = (q.length - 1) + 1 := by omega
    rw [h3, List.getElem?_cons_succ] at hc
    exact hq.plain (List.mem_of_getElem? hc)
  · intro hj
    have hx : Good [120] := ⟨by simp, by decide, by decide, by decide⟩
    have ed : jn (joinS (M ++ [q])) [46, 47, 120] = fin (some (M ++ [[120]])) := by
      unfold jn
      rw [show reqS [46, 47, 120] = true from by decide, if_pos rfl, dirS_join _ _ hq, nrm_app _ _ hM]
      rw [show splitS [46, 47, 120] = [[46], [120]] from by decide]
      simp only [walkL, step_dot, step_good hx]
    rw [ed] at hj ⊢
    obtain ⟨L', e5, _, e7, e8⟩ := fin_ok hj
    cases e5
    rw [e8, dirS_join _ _ hx, dirS_join _ _ hq, joinS_snoc]
    exact ⟨rfl, rfl⟩

/-- down and up again. -/
theorem upS {p part : Bs} (h : (nrm p).2 = 0) (hp : part ≠ []) (hs : ∀ c ∈ part, (97 ≤ c ∧ c ≤ 122) ∨ (48 ≤ c ∧ c ≤ 57)) (hl : (nrm p).1.length + part.length ≤ 190) :
    nrm ((nrm p).1 ++ 47 :: part ++ [47, 46, 46]) = ((nrm p).1, 0) ∧ nrm ((nrm p).1 ++ 47 :: part) = ((nrm p).1 ++ 47 :: part, 0) ∧ dirS ((nrm p).1 ++ 47 :: part) = (nrm p).1 ∧
    jn ((nrm p).1 ++ 47 :: part) (46 :: 47 :: part) = ((nrm p).1 ++ 47 :: part, 0) := by
  obtain ⟨L, e1, e2, e3, e4⟩ := nrm_ok h
  have sg : part.all signB = true := List.all_eq_true.2 fun c hc => by
    unfold signB
    rcases hs c hc with ⟨a, b⟩ | ⟨a, b⟩ <;> simp [a, b]
  have h46 : (46 : UInt8) ∉ part := fun hc => by
    rcases hs 46 hc with ⟨a, b⟩ | ⟨a, b⟩
    · revert a; decide
    · revert a; decide
  have hg : Good part := ⟨hp, fun e => h46 (by simp [e]), fun e => h46 (by simp [e]), sg⟩
  rw [e4] at hl ⊢
  have hlen : (joinS (L ++ [part])).length ≤ 200 := by rw [joinS_snoc]; simp; omega
  have hall : ∀ x ∈ L ++ [part], Good x := fun x hx => by
    rcases List.mem_append.1 hx with hx | hx
    · exact e2 x hx
    · rw [List.mem_singleton.1 hx]; exact hg
  refine ⟨?_, ?_, ?_, ?_⟩
  · rw [show joinS L ++ 47 :: part ++ [47, 46, 46] = joinS (L ++ [part]) ++ 47 :: [46, 46] from by rw [joinS_snoc], nrm_app _ _ hall]
    rw [show splitS [46, 46] = [[46, 46]] from by decide]
    have : step (L ++ [part]) [46, 46] = some L := by simp [step]
    simp only [walkL, this]
    exact fin_join e1 e3
  · rw [← joinS_snoc]; exact nrm_join (by simp) hall hlen
  · rw [← joinS_snoc]; exact dirS_join _ _ hg
  · unfold jn
    rw [show reqS (46 :: 47 :: part) = true from by simp [reqS], if_pos rfl, ← joinS_snoc, dirS_join _ _ hg, nrm_app _ _ e2]
    rw [show splitS (46 :: 47 :: part) = [[46], part] from by rw [show (46 :: 47 :: part : Bs) = [46] ++ 47 :: part from rfl, splitS_cut _ (by decide), splitS_plain hg.plain]]
    simp only [walkL, step_dot, step_good hg]
    exact fin_join (by simp) hlen

end Go.Proofs.YtpnljjcdlkjfhaaGreatDoor.Pa
set_option linter.unusedVariables false
namespace Go.Proofs.YtpnljjcdlkjfhaaGreatDoor.Pa
open Go.RowKit
set_option maxRecDepth 100000 in
theorem ret_bool {a b : Bool} (h : a = b) : Ending.returned (.bool a) = .returned (.bool b) := by rw [h]
def signI (r : Int) : Bool := decide ((97 ≤ r ∧ r ≤ 122) ∨ (65 ≤ r ∧ r ≤ 90) ∨ (48 ≤ r ∧ r ≤ 57) ∨ r = 95 ∨ r = 45 ∨ r = 46)
set_option maxRecDepth 100000 in
theorem signI_eq (c : UInt8) : signI (c.toNat : Int) = signB c := by
  have h : ∀ k : Fin 256, signI (((UInt8.ofNat k.val).toNat : Nat) : Int) = signB (UInt8.ofNat k.val) := by decide +kernel
  have := h ⟨c.toNat, c.toNat_lt⟩
  simpa using this

set_option maxRecDepth 100000 in
theorem refSign_any (r : Int) (w : World) : Calls Tryz.prog 67 #[.int .u8 r] w fun e w' => e = .returned (.bool (signI r)) ∧ w' = w := by
  go_enter Tryz.func67, Tryz.ntmps67
  go_wp2
  all_goals go_ret
  all_goals (refine ⟨ret_bool ?_, rfl⟩; rw [Bool.eq_iff_iff]; simp [signI] <;> omega)

/-- a byte of a text, as the walk shows it. -/
theorem byte_at (s : ByteArray) (k : Nat) (h : k < s.size) : s.data.toList[k]? = some s[k] := by
  rw [Array.getElem?_toList]
  exact Array.getElem?_eq_getElem h
set_option maxRecDepth 100000 in
theorem all_take_succ {p : UInt8 → Bool} {l : Bs} {k : Nat} {c : UInt8} (h : l[k]? = some c) (ha : (l.take k).all p = true) (hc : p c = true) : (l.take (k + 1)).all p = true := by
  rw [List.take_add_one, h, List.all_append, ha]
  simpa using hc

set_option maxRecDepth 100000 in
theorem ret_str {a b : ByteArray} (h : a = b) : Ending.returned (.string a) = .returned (.string b) := by rw [h]

set_option maxRecDepth 100000 in
theorem clone_any (s : ByteArray) (w : World) (hs : s.size ≤ 281474976710656) : Calls Tryz.prog 17 #[.string s] w fun e w' => e = .returned (.string s) ∧ Below w.heap.size w w' := by
  go_enter Tryz.func17, Tryz.ntmps17
  go_wp2_with (go_at_call 27; refine (Tryz.stringslite_Clone s _ hs).mono ?_; rintro e w' ⟨rfl, hb⟩)
  go_ret
  exact ⟨rfl, hb⟩

set_option maxRecDepth 100000 in
theorem drewN_below (w : World) (n : Nat) : Below w.heap.size w (w.drewN n) := ⟨rfl, rfl, rfl, Nat.le_refl _, fun _ _ => rfl⟩

set_option maxRecDepth 100000 in
theorem toList_ext {a b : ByteArray} (h : a.data.toList = b.data.toList) : a = b := ByteArray.ext (Array.toList_inj.1 h)
set_option maxRecDepth 100000 in
theorem extract_pre (s : ByteArray) (i : Nat) : (s.extract 0 i).data.toList = s.data.toList.take i := by
  rw [ByteArray.data_extract, Array.toList_extract, List.extract_eq_take_drop]
  simp
set_option maxRecDepth 100000 in
theorem extract_suf (s : ByteArray) (i : Nat) : (s.extract i s.size).data.toList = s.data.toList.drop i := by
  rw [ByteArray.data_extract, Array.toList_extract, List.extract_eq_take_drop, Lib.size_eq, List.take_of_length_le (by simp)]
set_option maxRecDepth 100000 in
theorem extract_mid (s : ByteArray) (i j : Nat) : (s.extract i j).data.toList = (s.data.toList.drop i).take (j - i) := by
  rw [ByteArray.data_extract, Array.toList_extract, List.extract_eq_take_drop]

set_option maxRecDepth 100000 in
theorem split_at {l : Bs} {i : Nat} {c : UInt8} (h : l[i]? = some c) : l = l.take i ++ c :: l.drop (i + 1) := by
  obtain ⟨hl, e⟩ := List.getElem?_eq_some_iff.1 h
  rw [← e, ← List.drop_eq_getElem_cons hl, List.take_append_drop]

/-- ahead of the last slash. -/
theorem dirS_cut (s : ByteArray) (i : Nat) (hi : s.data.toList[i]? = some 47) (hlo : ∀ j, i < j → s.data.toList[j]? ≠ some 47) : (s.extract 0 i).data.toList = dirS s.data.toList := by
  rw [extract_pre]
  have e := split_at hi
  have : (47 : UInt8) ∉ s.data.toList.drop (i + 1) := fun hm => by
    obtain ⟨k, hk⟩ := List.getElem?_of_mem hm
    rw [List.getElem?_drop] at hk
    exact hlo _ (by omega) hk
  conv => rhs; rw [e]
  rw [dirS_at this]

def dirB (s : ByteArray) : ByteArray := ⟨(dirS s.data.toList).toArray⟩
set_option maxRecDepth 100000 in
theorem dirB_list (s : ByteArray) : (dirB s).data.toList = dirS s.data.toList := by simp [dirB]
set_option maxRecDepth 100000 in
theorem dirB_size (s : ByteArray) : (dirB s).size ≤ s.size := by
  rw [Lib.size_eq, Lib.size_eq, dirB_list]; exact dirS_size _

/-- bytes as cells. -/
def cellsB (l : Bs) : List Value := l.map fun b => .int .u8 b.toNat
set_option maxRecDepth 100000 in
theorem cellsB_length (l : Bs) : (cellsB l).length = l.length := by simp [cellsB]
set_option maxRecDepth 100000 in
theorem cellsB_app (a b : Bs) : cellsB (a ++ b) = cellsB a ++ cellsB b := by simp [cellsB]

abbrev Kept (w : World) (base : Nat) (v : Value) (l : Bs) : Prop := w.ownsRow base 5 1 v l.length (cellsB l)

set_option maxRecDepth 100000 in
theorem row_form {w : World} {base : Nat} {e : TypeId} {size : Nat} {v : Value} {n : Nat} {xs : List Value} (h : w.ownsRow base e size v n xs) : ∃ A c, v = .slice A n c := by
  rcases h.2 with ⟨rfl, rfl⟩ | ⟨g, cap, cur, rfl, _⟩
  · exact ⟨_, _, rfl⟩
  · exact ⟨_, _, rfl⟩
set_option maxRecDepth 100000 in
theorem row_some {w : World} {base : Nat} {e : TypeId} {size : Nat} {v : Value} {n : Nat} {xs : List Value} (h : w.ownsRow base e size v n xs) (hn : 0 < n) : ∃ g c, v = .slice (some ⟨g, 0, none⟩) n c ∧ base ≤ g ∧ n ≤ c := by
  rcases h.2 with ⟨rfl, rfl⟩ | ⟨g, cap, cur, rfl, h1, h2, h3, _⟩
  · omega
  · exact ⟨_, _, rfl, h1, h3⟩
set_option maxRecDepth 100000 in
theorem row_cut {w : World} {base : Nat} {e : TypeId} {size g cap n k : Nat} {xs : List Value} (h : w.ownsRow base e size (.slice (some ⟨g, 0, none⟩) n cap) n xs) (hk : k ≤ n) : w.ownsRow base e size (.slice (some ⟨g, 0, none⟩) k cap) k (xs.take (k * size)) := by
  obtain ⟨h1, h2⟩ := h
  have hm : k * size ≤ n * size := Nat.mul_le_mul_right _ hk
  refine ⟨by rw [List.length_take, h1]; omega, ?_⟩
  rcases h2 with ⟨h0, _⟩ | ⟨g', cap', cur, hv, hg, hh, hn, hcap, hsz, htake⟩
  · cases h0
  · cases hv
    refine .inr ⟨g, cap, cur, rfl, hg, hh, by omega, hcap, hsz, ?_⟩
    rw [← htake, List.take_take, Nat.min_eq_left hm]
set_option maxRecDepth 100000 in
theorem row_same {w w' : World} {base : Nat} {e : TypeId} {size : Nat} {v : Value} {n : Nat} {xs : List Value} (h : w.ownsRow base e size v n xs) (hh : w'.heap = w.heap) : w'.ownsRow base e size v n xs := by
  unfold World.ownsRow at *
  rw [hh]
  exact h

def strLen : Value → Nat
  | .string s => s.size
  | _ => 0
def boolN : Value → Nat
  | .bool true => 1
  | _ => 0

set_option maxRecDepth 100000 in
theorem next_some {X : Option (List Bs)} {L L' : List Bs} {R q r : Bs} {b : Bool} (hw : X = walkL L (splitS R)) (hsp : splitS R = q :: (if b then splitS r else [])) (hst : step L q = some L') : X = if b then walkL L' (splitS r) else some L' := by
  rw [hw, hsp]
  cases b <;> simp [walkL, hst]
set_option maxRecDepth 100000 in
theorem next_none {X : Option (List Bs)} {L : List Bs} {R q r : Bs} {b : Bool} (hw : X = walkL L (splitS R)) (hsp : splitS R = q :: (if b then splitS r else [])) (hst : step L q = none) : X = none := by
  rw [hw, hsp]
  simp [walkL, hst]

set_option maxRecDepth 100000 in
theorem kept_app {w : World} {base : Nat} {v : Value} {l : Bs} {q : ByteArray} (h : w.ownsRow base 5 1 v (l.length + 1 + q.size) (cellsB l ++ [.int .u8 47] ++ Lib.strCells q)) : Kept w base v (l ++ 47 :: q.data.toList) := by
  have e1 : (l ++ 47 :: q.data.toList).length = l.length + 1 + q.size := by rw [Lib.size_eq]; simp; omega
  have e2 : cellsB (l ++ 47 :: q.data.toList) = cellsB l ++ [.int .u8 47] ++ Lib.strCells q := by
    rw [cellsB_app, List.append_assoc]
    rfl
  unfold Kept
  rw [e1, e2]
  exact h

set_option maxRecDepth 100000 in
theorem info_u8 : (Tryz.prog.info? 5).map (fun i => (i.zero, i.size, i.bytes)) = some (some (.int .u8 0), 1, 1) := by kernel_rfl

set_option maxRecDepth 100000 in
theorem ret_si {a b : ByteArray} {i j : Int} (h : a = b) (h2 : i = j) : Ending.returned (.tuple #[.string a, .int .i64 i]) = .returned (.tuple #[.string b, .int .i64 j]) := by rw [h, h2]
def nrmB (s : ByteArray) : ByteArray := ⟨(nrm s.data.toList).1.toArray⟩
set_option maxRecDepth 100000 in
theorem nrmB_list (s : ByteArray) : (nrmB s).data.toList = (nrm s.data.toList).1 := by simp [nrmB]
set_option maxRecDepth 100000 in
theorem nrmB_size (s : ByteArray) : (nrmB s).size ≤ 200 := by rw [Lib.size_eq, nrmB_list]; exact nrm_size _
def nrmE (s : ByteArray) : Int := ((nrm s.data.toList).2 : Int)

set_option maxRecDepth 100000 in
theorem under_u8 : Tryz.prog.underlying 5 = some (.int .u8) := Tryz.underlying5

def jnB (f r : ByteArray) : ByteArray := ⟨(jn f.data.toList r.data.toList).1.toArray⟩
set_option maxRecDepth 100000 in
theorem jnB_list (f r : ByteArray) : (jnB f r).data.toList = (jn f.data.toList r.data.toList).1 := by simp [jnB]
set_option maxRecDepth 100000 in
theorem jnB_size (f r : ByteArray) : (jnB f r).size ≤ 200 := by rw [Lib.size_eq, jnB_list]; exact jn_size _ _
def jnE (f r : ByteArray) : Int := ((jn f.data.toList r.data.toList).2 : Int)

set_option maxRecDepth 100000 in
theorem append_list (a b : ByteArray) : (a ++ b).data.toList = a.data.toList ++ b.data.toList := by
  rw [ByteArray.data_append, Array.toList_append]
set_option maxRecDepth 100000 in
theorem sum_list (f r : ByteArray) : (dirB f ++ ⟨#[47]⟩ ++ r).data.toList = dirS f.data.toList ++ 47 :: r.data.toList := by
  rw [append_list, append_list, dirB_list, List.append_assoc]
  rfl
set_option maxRecDepth 100000 in
theorem jn_yes (f r : ByteArray) (h : reqS r.data.toList = true) : nrmB (dirB f ++ ⟨#[47]⟩ ++ r) = jnB f r ∧ nrmE (dirB f ++ ⟨#[47]⟩ ++ r) = jnE f r := by
  unfold nrmB jnB nrmE jnE
  rw [sum_list]
  simp [jn, h]
set_option maxRecDepth 100000 in
theorem jn_no (f r : ByteArray) (h : reqS r.data.toList = false) : jnB f r = ⟨#[]⟩ ∧ jnE f r = 30 := by
  unfold jnB jnE
  simp [jn, h]

end Go.Proofs.YtpnljjcdlkjfhaaGreatDoor.Pa
