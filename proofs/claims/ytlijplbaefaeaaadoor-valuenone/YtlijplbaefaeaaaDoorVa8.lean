/- Own text. ValueApart: the statement's walk, over what package value must answer. -/
import Derived.Test.YtlijplbaefaeaaaDoorVa5
namespace Go.Proofs.YtlijplbaefaeaaaDoor
open Go.RowKit
set_option linter.unusedVariables false
set_option linter.unusedSimpArgs false

def eO : Th := ⟨true, [], []⟩
def q0T (s : ByteArray) (l : List Vl) : Th := match l with | [] => eO | y :: _ => ⟨true, [s], [y]⟩
def hpA (l : List Vl) (s : ByteArray) : Hp := [arrT l, arrT l, eO, q0T s l]
def hpB (l : List Vl) (s : ByteArray) (x : Vl) : Hp := [arrT (l ++ [x]), arrT l, eO, q0T s l]
def hpC (l : List Vl) (s : ByteArray) (x : Vl) : Hp := [arrT (l ++ [x]), arrT l, ⟨true, [s], [x]⟩, q0T s l]
def wA : Vl := ⟨5, 0, ⟨#[]⟩⟩
def wB : Vl := ⟨5, 1, ⟨#[]⟩⟩
def wP : Vl := ⟨6, 2, ⟨#[]⟩⟩
def wQ : Vl := ⟨6, 3, ⟨#[]⟩⟩
theorem ok_w (k n : Int) (h : 0 ≤ n ∧ n ≤ 3) : okV ⟨k, n, ⟨#[]⟩⟩ := ⟨⟨by show _ ≤ n; omega, by show n ≤ _; omega⟩, by show (0 : Nat) ≤ _; omega⟩
theorem a_obj (l : List Vl) (s : ByteArray) : objT [s] l eO = q0T s l := by
  cases l with
  | nil => rfl
  | cons y r => simp [objT, q0T, setT, eO, posN]
theorem q_len (l : List Vl) (s : ByteArray) : (q0T s l).ls.length ≤ 1 ∧ (q0T s l).nm.length ≤ 1 ∧ (q0T s l).ob = true := by cases l <;> simp [q0T, eO]
theorem sm_ap (t1 t2 t3 t4 : Th) (h : ∀ t ∈ [t1, t2, t3, t4], t.ls.length ≤ 2097152 ∧ t.nm.length ≤ 2097152) : smH [t1, t2, t3, t4] := ⟨by simp, h⟩
theorem sm_A {l : List Vl} {s : ByteArray} (h : l.length ≤ 1048576) : smH (hpA l s) := by
  obtain ⟨h1, h2, _⟩ := q_len l s
  refine sm_ap _ _ _ _ fun t ht => ?_
  simp only [List.mem_cons, List.not_mem_nil, or_false] at ht
  rcases ht with rfl | rfl | rfl | rfl <;> (try simp [arrT, eO]) <;> omega
theorem sm_B {l : List Vl} {s : ByteArray} {x : Vl} (h : l.length ≤ 1048576) : smH (hpB l s x) := by
  obtain ⟨h1, h2, _⟩ := q_len l s
  refine sm_ap _ _ _ _ fun t ht => ?_
  simp only [List.mem_cons, List.not_mem_nil, or_false] at ht
  rcases ht with rfl | rfl | rfl | rfl <;> (try simp [arrT, eO]) <;> omega
theorem sm_C {l : List Vl} {s : ByteArray} {x : Vl} (h : l.length ≤ 1048576) : smH (hpC l s x) := by
  obtain ⟨h1, h2, _⟩ := q_len l s
  refine sm_ap _ _ _ _ fun t ht => ?_
  simp only [List.mem_cons, List.not_mem_nil, or_false] at ht
  rcases ht with rfl | rfl | rfl | rfl <;> (try simp [arrT, eO]) <;> omega
theorem a_psh (l : List Vl) (s : ByteArray) (x : Vl) : isH (hpA l s) wA false = true ∧ pshH (hpA l s) wA x = hpB l s x := by
  have : isH (hpA l s) wA false = true := by simp [isH, hpA, wA, arrT]
  exact ⟨this, by simp [pshH, this]; simp [hpA, hpB, wA, arrT]⟩
theorem a_set (l : List Vl) (s : ByteArray) (x : Vl) : isH (hpB l s x) wP true = true ∧ setH (hpB l s x) wP s x = hpC l s x := by
  have : isH (hpB l s x) wP true = true := by simp [isH, hpB, wP, eO]
  exact ⟨this, by simp [setH, this]; simp [hpB, hpC, wP, eO, setT, posN]⟩
theorem a_at (l : List Vl) (s : ByteArray) (x : Vl) (i : Nat) (h : i ≤ l.length) : atH (hpC l s x) wA (i : Nat) = some ((l ++ [x])[i]'(by simp; omega)) := by
  have : isH (hpC l s x) wA false = true := by simp [isH, hpC, wA, arrT]
  simp only [atH, this, true_and]
  rw [if_pos (by omega)]
  simp [hpC, wA, arrT]
theorem a_atB (l : List Vl) (s : ByteArray) (x : Vl) : atH (hpC l s x) wB (l.length : Nat) = none := by
  have : isH (hpC l s x) wB false = true := by simp [isH, hpC, wB, arrT]
  simp only [atH, this, true_and]
  rw [if_pos (by omega)]
  simp [hpC, wB, arrT]
theorem a_getP (l : List Vl) (s : ByteArray) (x : Vl) : getH (hpC l s x) wP s = some x := by simp [getH, isH, hpC, wP, getT, posN, eqB]
theorem a_getQ (l : List Vl) (s : ByteArray) (x : Vl) : getH (hpC l s x) wQ s = l.head? := by
  have : isH (hpC l s x) wQ true = true := by have := (q_len l s).2.2; simp [isH, hpC, wQ, this]
  cases l with
  | nil => simp [getH, this]; simp [hpC, wQ, getT, q0T, eO, posN]
  | cons y r => simp [getH, this]; simp [hpC, wQ, getT, q0T, posN, eqB]
theorem a_lenA (l : List Vl) (s : ByteArray) (x : Vl) : lenH (hpC l s x) wA = l.length + 1 := by simp [lenH, isH, hpC, wA, arrT]
theorem a_lenB (l : List Vl) (s : ByteArray) (x : Vl) : lenH (hpC l s x) wB = l.length := by simp [lenH, isH, hpC, wB, arrT]
theorem a_lenP (l : List Vl) (s : ByteArray) (x : Vl) : lenH (hpC l s x) wP = 0 := by simp [lenH, isH, hpC, wP]
theorem a_getA (l : List Vl) (s : ByteArray) (x : Vl) : getH (hpC l s x) wA s = none := by simp [getH, isH, hpC, wA]
theorem a_pshP (l : List Vl) (s : ByteArray) (x : Vl) : isH (hpC l s x) wP false = false ∧ pshH (hpC l s x) wP x = hpC l s x := by
  have : isH (hpC l s x) wP false = false := by simp [isH, hpC, wP]
  exact ⟨this, by simp [pshH, this]⟩
theorem a_setA (l : List Vl) (s : ByteArray) (x : Vl) : isH (hpC l s x) wA true = false ∧ setH (hpC l s x) wA s x = hpC l s x := by
  have : isH (hpC l s x) wA true = false := by simp [isH, hpC, wA]
  exact ⟨this, by simp [setH, this]⟩
end Go.Proofs.YtlijplbaefaeaaaDoor
