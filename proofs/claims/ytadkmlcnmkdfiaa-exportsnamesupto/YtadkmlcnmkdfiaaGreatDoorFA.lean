/- Own text. Forms of kinds, and where a kind may stand: package tree. The rules of kinds: package tree. (Its rows are written by a program of our own from the rules' text.) -/
import Derived.Test.YtadkmlcnmkdfiaaGreatDoorT3
namespace Go.Proofs.YtadkmlcnmkdfiaaGreatDoor
open Go.RowKit
set_option linter.unusedVariables false

/-- the form of the whole trees of a kind. -/
def formK (k : Int) : Int :=
  if k = 1 ∨ k = 2 ∨ k = 3 ∨ k = 4 ∨ k = 5 ∨ k = 6 ∨ k = 7 ∨ k = 8 ∨ k = 9 ∨ k = 11 ∨ k = 15 ∨ k = 16 ∨ k = 17 ∨ k = 18 ∨ k = 19 ∨ k = 20 ∨ k = 21 ∨ k = 22 then 1
  else if k = 30 ∨ k = 31 ∨ k = 32 ∨ k = 33 ∨ k = 35 then 2
  else if k = 40 ∨ k = 41 ∨ k = 47 ∨ k = 48 ∨ k = 49 ∨ k = 50 ∨ k = 51 ∨ k = 52 then 3
  else if k = 42 ∨ k = 46 ∨ k = 60 ∨ k = 62 ∨ k = 63 ∨ k = 64 then 4
  else if k = 68 then 5
  else if k = 69 then 6
  else 0

set_option maxHeartbeats 8000000 in
theorem formOf_any (k : Int) (w : World) : Calls Tryz.prog 49 #[.int .i64 k] w fun e w' => e = .returned (.int .i64 (formK k)) ∧ w' = w := by
  go_enter Tryz.func49, Tryz.ntmps49
  go_wp2
  all_goals go_ret
  all_goals exact ⟨by simp_all [formK], rfl⟩
end Go.Proofs.YtadkmlcnmkdfiaaGreatDoor
namespace Go.Proofs.YtadkmlcnmkdfiaaGreatDoor
open Go.RowKit
set_option linter.unusedVariables false

/-- where a kind may stand. -/
def standsK (p k : Int) : Bool :=
  if p = 101 then (formK k == 1)
  else if p = 102 then (formK k == 1) || (k == 14)
  else if p = 103 then (k == 6) || (k == 21) || (k == 22)
  else if p = 104 then (formK k == 2)
  else if p = 105 then (formK k == 2) && (k != 32)
  else if p = 106 then (formK k == 2) || (k == 14)
  else if p = 107 then (formK k == 3)
  else if p = 108 then (k == 52) || (k == 14)
  else if p = 109 then (formK k == 3) || (formK k == 4)
  else if p = 110 then (formK k == 3) || (k == 42) || (k == 66)
  else if p = 111 then (k == 40) || (k == 41) || (k == 42) || (k == 46)
  else if p = 112 then (formK k == 1) || (k == 41) || (k == 42)
  else if p = 113 then (k == 43) || (k == 44) || (k == 45)
  else if p = 114 then (k == 14)
  else (p == k)

/-- what a tree of one kind has. -/
structure Rul where
  t : Int
  m : Int
  ks : List Int
  r : Int

def exprR (k : Int) : Rul :=
  if k = 1 then ⟨0, 9007199254740991, [], 0⟩ else
  if k = 2 then ⟨6, 0, [], 0⟩ else
  if k = 3 then ⟨0, 1, [], 0⟩ else
  if k = 6 then ⟨1, 0, [], 0⟩ else
  if k = 8 then ⟨0, 0, [], 101⟩ else
  if k = 9 then ⟨0, 0, [], 10⟩ else
  if k = 11 then ⟨0, 0, [12, 106, 52], 0⟩ else
  if k = 15 then ⟨7, 0, [101], 0⟩ else
  if k = 16 then ⟨8, 0, [101, 101], 0⟩ else
  if k = 17 then ⟨0, 0, [101, 101, 101], 0⟩ else
  if k = 18 then ⟨0, 0, [103, 101], 0⟩ else
  if k = 19 then ⟨0, 0, [101], 101⟩ else
  if k = 20 then ⟨1, 0, [], 101⟩ else
  if k = 21 then ⟨2, 0, [101], 0⟩ else
  if k = 22 then ⟨0, 0, [101, 101], 0⟩ else
  ⟨0, 0, [], 0⟩
def typeR (k : Int) : Rul :=
  if k = 31 then ⟨0, 0, [104], 0⟩ else
  if k = 32 then ⟨0, 0, [105, 105], 105⟩ else
  if k = 33 then ⟨0, 0, [], 34⟩ else
  if k = 35 then ⟨0, 0, [12, 104], 0⟩ else
  ⟨5, 0, [], 0⟩
def stmtR (k : Int) : Rul :=
  if k = 40 then ⟨1, 1, [106, 101], 0⟩ else
  if k = 41 then ⟨1, 0, [12, 106, 52], 0⟩ else
  if k = 48 then ⟨0, 0, [101, 52, 108], 0⟩ else
  if k = 49 then ⟨0, 0, [101, 52], 0⟩ else
  if k = 50 then ⟨0, 0, [102], 0⟩ else
  if k = 52 then ⟨0, 0, [], 107⟩ else
  ⟨0, 0, [101], 0⟩
def itemR (k : Int) : Rul :=
  if k = 42 then ⟨1, 0, [], 113⟩ else
  if k = 46 then ⟨1, 0, [104], 0⟩ else
  if k = 60 then ⟨6, 1, [], 61⟩ else
  if k = 62 then ⟨0, 0, [111], 0⟩ else
  if k = 63 then ⟨0, 0, [112], 0⟩ else
  ⟨6, 1, [65], 65⟩
def partR (k : Int) : Option Rul :=
  if k = 14 then some ⟨0, 0, [], 0⟩ else
  if k = 10 then some ⟨2, 0, [101], 0⟩ else
  if k = 12 then some ⟨0, 0, [], 13⟩ else
  if k = 13 then some ⟨1, 0, [106], 0⟩ else
  if k = 34 then some ⟨2, 0, [104], 0⟩ else
  if k = 43 then some ⟨3, 0, [106, 101], 0⟩ else
  if k = 44 then some ⟨0, 0, [12, 52], 0⟩ else
  if k = 45 then some ⟨3, 0, [12, 106, 52], 0⟩ else
  if k = 61 then some ⟨4, 0, [6], 0⟩ else
  if k = 65 then some ⟨4, 0, [114], 0⟩ else
  if k = 66 then some ⟨1, 0, [], 67⟩ else
  if k = 67 then some ⟨2, 0, [6], 0⟩ else
  none
def ruleK (k : Int) : Option Rul :=
  if formK k = 1 then some (exprR k) else if formK k = 2 then some (typeR k) else if formK k = 3 then some (stmtR k) else if formK k = 4 then some (itemR k)
  else if formK k = 5 then some ⟨0, 0, [], 109⟩ else if formK k = 6 then some ⟨0, 0, [], 110⟩ else partR k

/-- a list of parts in memory. -/
def PAt (w : World) (v : Value) (ks : List Int) : Prop := (ks = [] ∧ v = .slice none 0 0) ∨ ∃ bl t, v = .slice (some ⟨bl, 0, none⟩) ks.length ks.length ∧ w.heap[bl]? = some (.cells (ks.map (Value.int .i64)).toArray t (0, 0))
theorem PAt.bel {w w' : World} {v : Value} {ks : List Int} (h : PAt w v ks) (b : Below w.heap.size w w') : PAt w' v ks := by
  rcases h with h | ⟨bl, t, h1, h2⟩
  · exact .inl h
  · exact .inr ⟨bl, t, h1, (b.block bl (Array.getElem?_eq_some_iff.1 h2).1).trans h2⟩
theorem PAt.sl {w : World} {v : Value} {ks : List Int} (h : PAt w v ks) : ∃ a, v = .slice a ks.length ks.length := by
  rcases h with ⟨rfl, rfl⟩ | ⟨bl, t, h1, _⟩
  · exact ⟨none, rfl⟩
  · exact ⟨_, h1⟩
def Rul.v (r : Rul) (v : Value) : Value := .agg #[.int .i64 r.t, .int .i64 r.m, v, .int .i64 r.r]
theorem res_rule {fn : Func} {p : Nat} (h : fn.results = #[.cell p 138]) {W : World} {n : Nat} {a b c d : Value} {t : TypeId} {tmps : Array Value} (hb : W.heap[n]? = some (.cells #[a, b, c, d] t (0, 0))) (ht : tmps[p]?.getD undef = .pointer (some ⟨n, 0, none⟩)) :
    (results fn tmps).run Tryz.prog W = .ok (.agg #[a, b, c, d]) W := by
  obtain ⟨⟨c0, c1, c2, c3⟩, _⟩ := box4 hb
  simp [results, h, go_sem, ht, c0, c1, c2, c3]
theorem res_rule2 {fn : Func} {p q : Nat} (h : fn.results = #[.cell p 138, .tmp q]) {W : World} {n : Nat} {a b c d : Value} {t : TypeId} {tmps : Array Value} (hb : W.heap[n]? = some (.cells #[a, b, c, d] t (0, 0))) (ht : tmps[p]?.getD undef = .pointer (some ⟨n, 0, none⟩)) :
    (results fn tmps).run Tryz.prog W = .ok (.tuple #[.agg #[a, b, c, d], tmps.getD q undef]) W := by
  obtain ⟨⟨c0, c1, c2, c3⟩, _⟩ := box4 hb
  simp [results, h, go_sem, ht, c0, c1, c2, c3]
/-- what a rule's function answers. -/
def RulAns (w : World) (r : Rul) (e : Ending) (w' : World) : Prop := ∃ v, e = .returned (r.v v) ∧ PAt w' v r.ks ∧ Below w.heap.size w w'
def RulAns2 (w : World) (o : Option Rul) (e : Ending) (w' : World) : Prop := ∃ (r : Rul) (b : Bool) (v : Value), e = .returned (.tuple #[r.v v, .bool b]) ∧ (b = true → o = some r) ∧ (b = false → o = none) ∧ PAt w' v r.ks ∧ Below w.heap.size w w'
theorem bel_aa (w : World) (o o' : Obj) : Below w.heap.size w ((w.alloc o).alloc o') := (bel_a w o).alloc (by simp) o'

end Go.Proofs.YtadkmlcnmkdfiaaGreatDoor
