/- Own text. Values and heaps: the model (no program is named here). -/
import Derived.Test.YtlijplbaefaeaaaDoorProg
import Derived.WalkKit
import Derived.ProofKit
namespace Go.Proofs.YtlijplbaefaeaaaDoor
open Go.RowKit
set_option linter.unusedVariables false
set_option linter.unusedSimpArgs false

structure Vl where
  kd : Int
  n : Int
  tx : ByteArray
def Vl.v (x : Vl) : Value := .agg #[.int .i64 x.kd, .int .i64 x.n, .string x.tx]
def Vl.cs (x : Vl) : List Value := [.int .i64 x.kd, .int .i64 x.n, .string x.tx]
def zV : Vl := ⟨0, 0, ⟨#[]⟩⟩
def bt (l : List UInt8) : ByteArray := ⟨l.toArray⟩
def truV (x : Vl) : Bool := if x.kd = 0 ∨ x.kd = 1 then false else if x.kd = 2 ∨ x.kd = 3 then x.n != 0 else if x.kd = 4 then !x.tx.toList.isEmpty else true
def samV (a b : Vl) : Bool := if a.kd ≠ b.kd then false else if a.kd = 0 ∨ a.kd = 1 then true else if a.kd = 4 then a.tx.toList == b.tx.toList else a.n == b.n
def typT (x : Vl) : ByteArray := if x.kd = 0 then ⟨#[117, 110, 100, 101, 102, 105, 110, 101, 100]⟩ else if x.kd = 2 then ⟨#[98, 111, 111, 108, 101, 97, 110]⟩ else if x.kd = 3 then ⟨#[110, 117, 109, 98, 101, 114]⟩ else if x.kd = 4 then ⟨#[115, 116, 114, 105, 110, 103]⟩ else if x.kd = 7 ∨ x.kd = 8 then ⟨#[102, 117, 110, 99, 116, 105, 111, 110]⟩ else ⟨#[111, 98, 106, 101, 99, 116]⟩
/-- the digits of a number, none of nothing. -/
def digF : Nat → Nat → List UInt8
  | 0, _ => []
  | f + 1, n => if n = 0 then [] else digF f (n / 10) ++ [(48 + n % 10).toUInt8]
def digL (n : Nat) : List UInt8 := digF n n
theorem digF_more : ∀ (f g n : Nat), n ≤ f → n ≤ g → digF f n = digF g n
  | 0, g, n, hf, hg => by
    obtain rfl : n = 0 := by omega
    cases g <;> simp [digF]
  | f + 1, 0, n, hf, hg => by
    obtain rfl : n = 0 := by omega
    simp [digF]
  | f + 1, g + 1, n, hf, hg => by
    by_cases h : n = 0
    · simp [digF, h]
    · rw [digF, digF, if_neg h, if_neg h, digF_more f g (n / 10) (by omega) (by omega)]
theorem digL_pos {n : Nat} (h : 0 < n) : digL n = digL (n / 10) ++ [(48 + n % 10).toUInt8] := by
  unfold digL
  obtain ⟨m, rfl⟩ : ∃ m, n = m + 1 := ⟨n - 1, by omega⟩
  rw [digF, if_neg (by omega), digF_more m ((m + 1) / 10) ((m + 1) / 10) (by omega) (by omega)]
theorem digL_zero : digL 0 = [] := rfl
def prtL (n : Int) : List UInt8 := if n = 0 then [48] else (if n < 0 then [45] else []) ++ digL n.natAbs
def kinT (k : Int) : ByteArray := if k = 0 then ⟨#[117, 110, 100, 101, 102, 105, 110, 101, 100]⟩ else if k = 1 then ⟨#[110, 117, 108, 108]⟩ else if k = 5 then ⟨#[97, 114, 114, 97, 121]⟩ else if k = 6 then ⟨#[111, 98, 106, 101, 99, 116]⟩ else if k = 7 then ⟨#[102, 117, 110, 99, 116, 105, 111, 110]⟩ else if k = 8 then ⟨#[99, 108, 97, 115, 115]⟩ else if k = 9 then ⟨#[110, 97, 109, 101, 115, 112, 97, 99, 101]⟩ else ⟨#[]⟩
def txtV (x : Vl) : ByteArray := if x.kd = 2 then (if x.n ≠ 0 then ⟨#[116, 114, 117, 101]⟩ else ⟨#[102, 97, 108, 115, 101]⟩) else if x.kd = 3 then ⟨(prtL x.n).toArray⟩ else if x.kd = 4 then x.tx else kinT x.kd
theorem samV_self (a : Vl) : samV a a = true := by
  unfold samV
  rw [if_neg (fun h => h rfl)]
  split
  · rfl
  · split <;> simp
/-- an array or an object. -/
structure Th where
  ob : Bool
  nm : List ByteArray
  ls : List Vl
abbrev Hp := List Th
def eqB (a b : ByteArray) : Bool := a.toList == b.toList
/-- the place of a name. -/
def posN (l : List ByteArray) (s : ByteArray) : Nat := l.findIdx (eqB · s)
def arrT (l : List Vl) : Th := ⟨false, [], l⟩
def isH (H : Hp) (v : Vl) (o : Bool) : Bool := (v.kd == (if o then 6 else 5)) && decide (0 ≤ v.n) && decide (v.n < H.length) && ((H[v.n.toNat]?.map (·.ob)) == some o)
def lenH (H : Hp) (v : Vl) : Nat := if isH H v false then ((H[v.n.toNat]?.map (·.ls.length))).getD 0 else 0
def getT (t : Th) (s : ByteArray) : Option Vl := t.ls[posN t.nm s]?
def getH (H : Hp) (v : Vl) (s : ByteArray) : Option Vl := if isH H v true then (H[v.n.toNat]?.bind (getT · s)) else none
def atH (H : Hp) (v : Vl) (i : Int) : Option Vl := if isH H v false ∧ 0 ≤ i then (H[v.n.toNat]?.bind (·.ls[i.toNat]?)) else none
def setT (t : Th) (s : ByteArray) (x : Vl) : Th := if posN t.nm s < t.nm.length then ⟨t.ob, t.nm, t.ls.set (posN t.nm s) x⟩ else ⟨t.ob, t.nm ++ [s], t.ls ++ [x]⟩
def modH (H : Hp) (k : Nat) (f : Th → Th) : Hp := H.modify k f
def setH (H : Hp) (v : Vl) (s : ByteArray) (x : Vl) : Hp := if isH H v true then H.modify v.n.toNat (setT · s x) else H
def pshH (H : Hp) (v : Vl) (x : Vl) : Hp := if isH H v false then H.modify v.n.toNat (fun t => ⟨t.ob, t.nm, t.ls ++ [x]⟩) else H
def putB (H : Hp) (v : Vl) (i : Int) : Bool := isH H v false && decide (0 ≤ i) && decide (i ≤ lenH H v)
def putH (H : Hp) (v : Vl) (i : Int) (x : Vl) : Hp := if putB H v i then (if i = lenH H v then pshH H v x else H.modify v.n.toNat (fun t => ⟨t.ob, t.nm, t.ls.set i.toNat x⟩)) else H
def objT : List ByteArray → List Vl → Th → Th
  | s :: ns, x :: l, t => objT ns l (setT t s x)
  | _, _, t => t
def arrV (H : Hp) : Vl := ⟨5, H.length, ⟨#[]⟩⟩
def objV (H : Hp) : Vl := ⟨6, H.length, ⟨#[]⟩⟩
/-- names and values go together. -/
def okT (t : Th) : Prop := t.nm.length = t.ls.length ∨ t.ob = false
end Go.Proofs.YtlijplbaefaeaaaDoor
