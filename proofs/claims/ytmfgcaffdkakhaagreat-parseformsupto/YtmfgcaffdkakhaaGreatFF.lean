/- Own text. Forms of kinds, and where a kind may stand: package tree. The rules of kinds: package tree. (Its rows are written by a program of our own from the rules' text.) Where a kind may stand: package tree. Which texts may stand: package tree, with the words of package lex and the runes of package runes. Which texts are property names: package tree. What stands together: lists of trees asked by a function: package tree. What a table of files is, as a rising list of paths and bytes: writing, removing, finding; how a map of such entries reads. No program is named here. Whether no two trees of a list have the same text: package tree. What stands together in a class, an import, an export: package tree. Whether the members of a class stand in order: package tree. The rules of kinds: package tree. The rules of kinds: package tree. The rules of kinds: package tree. The rules of kinds: package tree. The rules of kinds: package tree. The form of a tree: package tree. Whether a tree is as its rule asks, and what stands together in it: package tree. The form of a tree: package tree. The form of a tree: package tree. The form of a tree: Form of package tree. -/
import Derived.Test.YtmfgcaffdkakhaaGreatT3
import Derived.Test.YtmfgcaffdkakhaaGreatRN
import Derived.Laws.Tables
import Derived.Maps.Ext
import Derived.Sort.KeysCollected
import Derived.Lib.Strings
import Derived.Maps.RangeWalk
import Derived.Test.YtmfgcaffdkakhaaGreatTN
import Derived.Deep.RegionHeld3
namespace Go.Proofs.YtmfgcaffdkakhaaGreat
open Go.RowKit
set_option linter.unusedVariables false

/-- the form of the whole trees of a kind. -/
def formK (k : Int) : Int :=
  if k = 1 ∨ k = 2 ∨ k = 3 ∨ k = 4 ∨ k = 5 ∨ k = 6 ∨ k = 7 ∨ k = 8 ∨ k = 9 ∨ k = 11 ∨ k = 15 ∨ k = 16 ∨ k = 17 ∨ k = 18 ∨ k = 19 ∨ k = 20 ∨ k = 21 ∨ k = 22 then 1
  else if k = 30 ∨ k = 31 ∨ k = 32 ∨ k = 33 ∨ k = 35 then 2
  else if k = 40 ∨ k = 41 ∨ k = 47 ∨ k = 48 ∨ k = 49 ∨ k = 50 ∨ k = 51 ∨ k = 52 then 3
  else if k = 42 ∨ k = 46 ∨ k = 60 ∨ k = 62 ∨ k = 63 ∨ k = 64 then 4
  else if k = 68 then 5
  else if k = 69 then 6
  else 0

end Go.Proofs.YtmfgcaffdkakhaaGreat
namespace Go.Proofs.YtmfgcaffdkakhaaGreat
open Go.RowKit
set_option linter.unusedVariables false

/-- where a kind may stand. -/
def standsK (p k : Int) : Bool :=
  if p = 101 then (formK k == 1)
  else if p = 102 then (formK k == 1) || (k == 14)
  else if p = 103 then (k == 6) || (k == 21) || (k == 22)
  else if p = 104 then (formK k == 2)
  else if p = 105 then (formK k == 2) && (k != 32)
  else if p = 106 then (formK k == 2) || (k == 14)
  else if p = 107 then (formK k == 3)
  else if p = 108 then (k == 52) || (k == 14)
  else if p = 109 then (formK k == 3) || (formK k == 4)
  else if p = 110 then (formK k == 3) || (k == 42) || (k == 66)
  else if p = 111 then (k == 40) || (k == 41) || (k == 42) || (k == 46)
  else if p = 112 then (formK k == 1) || (k == 41) || (k == 42)
  else if p = 113 then (k == 43) || (k == 44) || (k == 45)
  else if p = 114 then (k == 14)
  else (p == k)

/-- what a tree of one kind has. -/
structure Rul where
  t : Int
  m : Int
  ks : List Int
  r : Int

def exprR (k : Int) : Rul :=
  if k = 1 then ⟨0, 9007199254740991, [], 0⟩ else
  if k = 2 then ⟨6, 0, [], 0⟩ else
  if k = 3 then ⟨0, 1, [], 0⟩ else
  if k = 6 then ⟨1, 0, [], 0⟩ else
  if k = 8 then ⟨0, 0, [], 101⟩ else
  if k = 9 then ⟨0, 0, [], 10⟩ else
  if k = 11 then ⟨0, 0, [12, 106, 52], 0⟩ else
  if k = 15 then ⟨7, 0, [101], 0⟩ else
  if k = 16 then ⟨8, 0, [101, 101], 0⟩ else
  if k = 17 then ⟨0, 0, [101, 101, 101], 0⟩ else
  if k = 18 then ⟨0, 0, [103, 101], 0⟩ else
  if k = 19 then ⟨0, 0, [101], 101⟩ else
  if k = 20 then ⟨1, 0, [], 101⟩ else
  if k = 21 then ⟨2, 0, [101], 0⟩ else
  if k = 22 then ⟨0, 0, [101, 101], 0⟩ else
  ⟨0, 0, [], 0⟩
def typeR (k : Int) : Rul :=
  if k = 31 then ⟨0, 0, [104], 0⟩ else
  if k = 32 then ⟨0, 0, [105, 105], 105⟩ else
  if k = 33 then ⟨0, 0, [], 34⟩ else
  if k = 35 then ⟨0, 0, [12, 104], 0⟩ else
  ⟨5, 0, [], 0⟩
def stmtR (k : Int) : Rul :=
  if k = 40 then ⟨1, 1, [106, 101], 0⟩ else
  if k = 41 then ⟨1, 0, [12, 106, 52], 0⟩ else
  if k = 48 then ⟨0, 0, [101, 52, 108], 0⟩ else
  if k = 49 then ⟨0, 0, [101, 52], 0⟩ else
  if k = 50 then ⟨0, 0, [102], 0⟩ else
  if k = 52 then ⟨0, 0, [], 107⟩ else
  ⟨0, 0, [101], 0⟩
def itemR (k : Int) : Rul :=
  if k = 42 then ⟨1, 0, [], 113⟩ else
  if k = 46 then ⟨1, 0, [104], 0⟩ else
  if k = 60 then ⟨6, 1, [], 61⟩ else
  if k = 62 then ⟨0, 0, [111], 0⟩ else
  if k = 63 then ⟨0, 0, [112], 0⟩ else
  ⟨6, 1, [65], 65⟩
def partR (k : Int) : Option Rul :=
  if k = 14 then some ⟨0, 0, [], 0⟩ else
  if k = 10 then some ⟨2, 0, [101], 0⟩ else
  if k = 12 then some ⟨0, 0, [], 13⟩ else
  if k = 13 then some ⟨1, 0, [106], 0⟩ else
  if k = 34 then some ⟨2, 0, [104], 0⟩ else
  if k = 43 then some ⟨3, 0, [106, 101], 0⟩ else
  if k = 44 then some ⟨0, 0, [12, 52], 0⟩ else
  if k = 45 then some ⟨3, 0, [12, 106, 52], 0⟩ else
  if k = 61 then some ⟨4, 0, [6], 0⟩ else
  if k = 65 then some ⟨4, 0, [114], 0⟩ else
  if k = 66 then some ⟨1, 0, [], 67⟩ else
  if k = 67 then some ⟨2, 0, [6], 0⟩ else
  none
def ruleK (k : Int) : Option Rul :=
  if formK k = 1 then some (exprR k) else if formK k = 2 then some (typeR k) else if formK k = 3 then some (stmtR k) else if formK k = 4 then some (itemR k)
  else if formK k = 5 then some ⟨0, 0, [], 109⟩ else if formK k = 6 then some ⟨0, 0, [], 110⟩ else partR k

/-- a list of parts in memory. -/
def PAt (w : World) (v : Value) (ks : List Int) : Prop := (ks = [] ∧ v = .slice none 0 0) ∨ ∃ bl t, v = .slice (some ⟨bl, 0, none⟩) ks.length ks.length ∧ w.heap[bl]? = some (.cells (ks.map (Value.int .i64)).toArray t (0, 0))
theorem PAt.bel {w w' : World} {v : Value} {ks : List Int} (h : PAt w v ks) (b : Below w.heap.size w w') : PAt w' v ks := by
  rcases h with h | ⟨bl, t, h1, h2⟩
  · exact .inl h
  · exact .inr ⟨bl, t, h1, (b.block bl (Array.getElem?_eq_some_iff.1 h2).1).trans h2⟩
theorem PAt.sl {w : World} {v : Value} {ks : List Int} (h : PAt w v ks) : ∃ a, v = .slice a ks.length ks.length := by
  rcases h with ⟨rfl, rfl⟩ | ⟨bl, t, h1, _⟩
  · exact ⟨none, rfl⟩
  · exact ⟨_, h1⟩
def Rul.v (r : Rul) (v : Value) : Value := .agg #[.int .i64 r.t, .int .i64 r.m, v, .int .i64 r.r]
theorem bel_aa (w : World) (o o' : Obj) : Below w.heap.size w ((w.alloc o).alloc o') := (bel_a w o).alloc (by simp) o'

end Go.Proofs.YtmfgcaffdkakhaaGreat
namespace Go.Proofs.YtmfgcaffdkakhaaGreat
open Go.RowKit
set_option linter.unusedVariables false

theorem ret_b {a b : Bool} (h : a = b) : Ending.returned (.bool a) = .returned (.bool b) := by rw [h]
end Go.Proofs.YtmfgcaffdkakhaaGreat
namespace Go.Proofs.YtmfgcaffdkakhaaGreat
open Go.RowKit
set_option linter.unusedVariables false

/-- the words of the language. -/
def wordsF : List (List UInt8) := [[99, 108, 97, 115, 115], [99, 111, 110, 115, 116], [100, 101, 102, 97, 117, 108, 116], [101, 108, 115, 101], [101, 120, 112, 111, 114, 116], [102, 97, 108, 115, 101], [102, 117, 110, 99, 116, 105, 111, 110], [105, 102], [105, 109, 112, 111, 114, 116], [108, 101, 116], [110, 101, 119], [110, 117, 108, 108], [114, 101, 116, 117, 114, 110], [116, 104, 105, 115], [116, 104, 114, 111, 119], [116, 114, 117, 101], [116, 121, 112, 101, 111, 102], [117, 110, 100, 101, 102, 105, 110, 101, 100], [119, 104, 105, 108, 101]]
def textC (l : List (List UInt8)) : List Value := l.map fun b => .string ⟨b.toArray⟩
/-- the words in a list. -/
def WAt (w : World) (v : Value) : Prop := ∃ bl t, v = .slice (some ⟨bl, 0, none⟩) 19 19 ∧ w.heap[bl]? = some (.cells (textC wordsF).toArray t (0, 0))
theorem WAt.bel {w w' : World} {v : Value} (h : WAt w v) (b : Below w.heap.size w w') : WAt w' v := by
  obtain ⟨bl, t, h1, h2⟩ := h
  exact ⟨bl, t, h1, (b.block bl (Array.getElem?_eq_some_iff.1 h2).1).trans h2⟩
theorem bytes_toList (s : ByteArray) : s.toList = s.data.toList := ByteArray.toList_eq s
def isW (s : ByteArray) : Bool := decide (s.data.toList ∈ wordsF)
end Go.Proofs.YtmfgcaffdkakhaaGreat
namespace Go.Proofs.YtmfgcaffdkakhaaGreat
open Go.RowKit
set_option linter.unusedVariables false

/-- may a rune stand in an identifier or property name? -/
def okR (mod first : Bool) (r : Int) : Bool := letterB r || (r == 95) || ((r == 36) && !mod) || (digitB r && !first)
def propT (mod : Bool) (l : List UInt8) : Bool := match scan l with
  | [] => false
  | h :: t => okR mod true h.1 && t.all fun x => okR mod false x.1
def unaryL : List (List UInt8) := [[45], [33], [116, 121, 112, 101, 111, 102]]
def binaryL : List (List UInt8) := [[43], [45], [42], [47], [37], [61, 61, 61], [33, 61, 61], [60], [60, 61], [62], [62, 61], [38, 38], [124, 124]]
def idT (mod : Bool) (s : ByteArray) : Bool := propT mod s.data.toList && !isW s
/-- is a text of that sort? -/
def saysT (mod : Bool) (t : Int) (s : ByteArray) : Bool :=
  if t = 1 then idT mod s
  else if t = 2 then propT mod s.data.toList
  else if t = 3 then propT mod s.data.toList && (s.toList != [99, 111, 110, 115, 116, 114, 117, 99, 116, 111, 114])
  else if t = 4 then propT mod s.data.toList || (s.toList == [42])
  else if t = 5 then idT mod s || (s.toList == [110, 117, 108, 108]) || (s.toList == [117, 110, 100, 101, 102, 105, 110, 101, 100])
  else if t = 6 then validL s.data.toList
  else if t = 7 then decide (s.data.toList ∈ unaryL)
  else if t = 8 then decide (s.data.toList ∈ binaryL)
  else s.toList == []
end Go.Proofs.YtmfgcaffdkakhaaGreat
namespace Go.Proofs.YtmfgcaffdkakhaaGreat
open Go.RowKit
set_option linter.unusedVariables false
end Go.Proofs.YtmfgcaffdkakhaaGreat
namespace Go.Proofs.YtmfgcaffdkakhaaGreat
open Go.WideShapes Go.Maps
open Go.Proofs (encStr)
set_option linter.unusedVariables false
theorem toList_inj {a b : ByteArray} (h : a.toList = b.toList) : a = b := by
  rw [Lib.toList_data, Lib.toList_data] at h
  exact ByteArray.ext (Array.toList_inj.1 h)

end Go.Proofs.YtmfgcaffdkakhaaGreat
namespace Go.Proofs.YtmfgcaffdkakhaaGreat
open Go.RowKit Go.Maps
set_option linter.unusedVariables false
end Go.Proofs.YtmfgcaffdkakhaaGreat
namespace Go.Proofs.YtmfgcaffdkakhaaGreat
open Go.RowKit
set_option linter.unusedVariables false
set_option linter.unusedSimpArgs false

/-- the kind of the first kid. -/
def hkL (l : List Nd) : Int := match l with | [] => 0 | z :: _ => z.k
def hk0 (y : Nd) : Int := hkL y.ks
/-- the place of the first star. -/
def starI (l : List Nd) : Option Nat := l.findIdx? fun y => y.t.toList == [42]
def starN (l : List Nd) : Int := match starI l with | none => -1 | some k => k
/-- the default is imported first. -/
def def0 (l : List Nd) : Bool := match l with | [] => false | z :: _ => z.t.toList == [100, 101, 102, 97, 117, 108, 116]
def importS (x : Nd) : Bool :=
  if starN x.ks < 0 then (x.n == 0) || decide (0 < x.ks.length)
  else ((starN x.ks == 0) || ((starN x.ks == 1) && def0 x.ks)) && (starN x.ks == (x.ks.length : Int) - 1) && (x.n == 0)
def exportS (mod : Bool) (x : Nd) : Bool :=
  if 0 ≤ starN x.ks then ((x.ks.length : Int) == 1) && (x.t.toList != []) && (x.n == 0)
  else (x.t.toList != []) || x.ks.all fun y => idT mod y.t
end Go.Proofs.YtmfgcaffdkakhaaGreat
namespace Go.Proofs.YtmfgcaffdkakhaaGreat
open Go.RowKit
set_option linter.unusedVariables false
set_option linter.unusedSimpArgs false
end Go.Proofs.YtmfgcaffdkakhaaGreat
namespace Go.Proofs.YtmfgcaffdkakhaaGreat
open Go.RowKit
set_option linter.unusedVariables false

end Go.Proofs.YtmfgcaffdkakhaaGreat
namespace Go.Proofs.YtmfgcaffdkakhaaGreat
open Go.RowKit
set_option linter.unusedVariables false

end Go.Proofs.YtmfgcaffdkakhaaGreat
namespace Go.Proofs.YtmfgcaffdkakhaaGreat
open Go.RowKit
set_option linter.unusedVariables false

end Go.Proofs.YtmfgcaffdkakhaaGreat
namespace Go.Proofs.YtmfgcaffdkakhaaGreat
open Go.RowKit
set_option linter.unusedVariables false

end Go.Proofs.YtmfgcaffdkakhaaGreat
namespace Go.Proofs.YtmfgcaffdkakhaaGreat
open Go.RowKit
set_option linter.unusedVariables false

end Go.Proofs.YtmfgcaffdkakhaaGreat
namespace Go.Proofs.YtmfgcaffdkakhaaGreat
open Go.RowKit
set_option linter.unusedVariables false
set_option linter.unusedSimpArgs false

theorem PAt.set {W : World} {B : Nat} {v : Value} {ks : List Int} {t : TypeId} (h : PAt W v ks) (hb : W.heap[B]? = some (.cells #[.int .i64 0, .int .i64 0, .slice none 0 0, .int .i64 0] t (0, 0))) (p q r s : Value) :
    PAt ((((W.setCell ⟨B, 0, none⟩ p).setCell ⟨B, 1, none⟩ q).setCell ⟨B, 2, none⟩ r).setCell ⟨B, 3, none⟩ s) v ks := by
  rcases h with h | ⟨bl, t', h1, h2⟩
  · exact .inl h
  · refine .inr ⟨bl, t', h1, (set4_other (o := 0) p q r s (fun e => ?_)).trans h2⟩
    subst e
    rw [hb] at h2
    simp only [Option.some.injEq, Obj.cells.injEq] at h2
    have e := congrArg (·[2]?) h2.1
    cases h : ks[2]? <;> simp [h] at e

end Go.Proofs.YtmfgcaffdkakhaaGreat
namespace Go.Proofs.YtmfgcaffdkakhaaGreat
open Go.RowKit
set_option linter.unusedVariables false
set_option linter.unusedSimpArgs false

def ordB : List Nd → Bool
  | x :: y :: l => decide (x.k ≤ y.k) && ordB (y :: l)
  | _ => true
def unlikeB (l : List Nd) : Bool := decide ((l.map fun x => x.t.data.toList).Nodup)
def firstTyped (l : List Nd) : Bool := match l with | [] => false | z :: _ => !z.ks.any fun y => hk0 y == 14
def firstText (l : List Nd) (t : ByteArray) : Bool := match l with | [] => false | z :: _ => z.t.toList != t.toList
/-- do the parts of a tree stand together? -/
def agreesP (mod : Bool) (x : Nd) : Bool :=
  if x.k = 12 ∨ x.k = 33 then unlikeB x.ks
  else if x.k = 35 then firstTyped x.ks
  else if x.k = 42 then ordB x.ks && unlikeB x.ks
  else if x.k = 60 then importS x
  else if x.k = 64 then exportS mod x
  else if x.k = 65 then firstText x.ks x.t
  else true
end Go.Proofs.YtmfgcaffdkakhaaGreat
namespace Go.Proofs.YtmfgcaffdkakhaaGreat
open Go.RowKit
set_option linter.unusedVariables false
set_option linter.unusedSimpArgs false

/-- text, number and how many kids are as the rule asks. -/
def hdB (mod : Bool) (t : ByteArray) (n : Int) (c : Nat) (r : Rul) : Bool := saysT mod r.t t && !decide (n < 0) && !decide (r.m < n) && !decide (c < r.ks.length)
def propR : Rul := ⟨2, 0, [], 0⟩
mutual
/-- is a tree whole, and may it stand as that part? -/
def fitsP (mod : Bool) (p : Int) : Nd → Bool
  | .mk k t n ks => if p = 114 ∧ k = 6 then hdB mod t n ks.length propR && fitsL mod [] 0 ks
    else standsK p k && (match ruleK k with
      | none => false
      | some r => hdB mod t n ks.length r && fitsL mod r.ks r.r ks && agreesP mod (.mk k t n ks))
def fitsL (mod : Bool) (ps : List Int) (r : Int) : List Nd → Bool
  | [] => true
  | y :: ys => fitsP mod (ps.headD r) y && fitsL mod ps.tail r ys
end
def folP (mod : Bool) (x : Nd) (r : Rul) : Bool := hdB mod x.t x.n x.ks.length r && fitsL mod r.ks r.r x.ks
def wholeP (mod : Bool) (x : Nd) : Bool := match ruleK x.k with
  | none => false
  | some r => folP mod x r && agreesP mod x
theorem fitsP_eq (mod : Bool) (p : Int) (x : Nd) : fitsP mod p x = if p = 114 ∧ x.k = 6 then folP mod x propR else standsK p x.k && wholeP mod x := by
  cases x
  rw [fitsP]
  rfl
theorem fitsL_nil (mod : Bool) (ps : List Int) (r : Int) : fitsL mod ps r [] = true := by rw [fitsL]
theorem fitsL_cons (mod : Bool) (ps : List Int) (r : Int) (y : Nd) (ys : List Nd) : fitsL mod ps r (y :: ys) = (fitsP mod (ps.headD r) y && fitsL mod ps.tail r ys) := by rw [fitsL]
end Go.Proofs.YtmfgcaffdkakhaaGreat
namespace Go.Proofs.YtmfgcaffdkakhaaGreat
open Go.RowKit
set_option linter.unusedVariables false
set_option linter.unusedSimpArgs false
end Go.Proofs.YtmfgcaffdkakhaaGreat
namespace Go.Proofs.YtmfgcaffdkakhaaGreat
open Go.RowKit
set_option linter.unusedVariables false
set_option linter.unusedSimpArgs false
end Go.Proofs.YtmfgcaffdkakhaaGreat
