/- Own text. Package module: the rules as functions of the tokens (a model of the program's own text; no program is named here). -/
import Derived.Test.YtfehmdfamndcaaaGreatDoorGm21
import Derived.Test.YtfehmdfamndcaaaGreatDoorGm23
namespace Go.Proofs.YtfehmdfamndcaaaGreatDoor
open Go.RowKit
set_option linter.unusedVariables false

/-- words, names, signs. -/
def wClass : ByteArray := ⟨#[99, 108, 97, 115, 115]⟩
def wImport : ByteArray := ⟨#[105, 109, 112, 111, 114, 116]⟩
def wExport : ByteArray := ⟨#[101, 120, 112, 111, 114, 116]⟩
def wDefault : ByteArray := ⟨#[100, 101, 102, 97, 117, 108, 116]⟩
def nType : ByteArray := ⟨#[116, 121, 112, 101]⟩
def nFrom : ByteArray := ⟨#[102, 114, 111, 109]⟩
def nAs : ByteArray := ⟨#[97, 115]⟩
def nSpace : ByteArray := ⟨#[110, 97, 109, 101, 115, 112, 97, 99, 101]⟩
def nCtor : ByteArray := ⟨#[99, 111, 110, 115, 116, 114, 117, 99, 116, 111, 114]⟩
def sSt : ByteArray := ⟨#[42]⟩
/-- is that name there? -/
def isNm (L : List Tok) (a : Nat) (s : ByteArray) : Bool := ((tokA L a).k == 1) && ((tokA L a).t.toList == s.toList)
/-- layer 6's rules, begun anew. -/
def exprM (L : List Tok) (a : Nat) : Rs Nd := exprF L (fuelL L) a 0
def typeM (L : List Tok) (a : Nat) : Rs Nd := typeF L (fuelL L) a 0
def stmtM (L : List Tok) (a : Nat) : Rs Nd := stmtF L (fuelL L) a 0
def toM (L : List Tok) (a : Nat) : Rs Nd := if isS L a sCo = true then typeM L (a + 1) else .ok noneN a
def endM (L : List Tok) (n : Nd) (a : Nat) : Rs Nd := (wantR L sSe a).bind fun _ a1 => .ok n a1
/-- is that name there as a word is? -/
def opensM (L : List Tok) (a : Nat) (n s : ByteArray) : Bool := isNm L a n && isN L (a + 1) && isS L (a + 2) s
def aliasM (L : List Tok) (a : Nat) : Rs Nd := (idR L (a + 1)).bind fun t a1 => (wantR L sAs a1).bind fun _ a2 => (typeM L a2).bind fun y a3 => endM L (mk0 46 t [y]) a3
def spaceOneM (L : List Tok) (a : Nat) : Rs Nd := (propR' L a).bind fun t a1 => (wantR L sAs a1).bind fun _ a2 => (idR L a2).bind fun u a3 => endM L (mk0 67 t [mk0 6 u []]) a3
def onesM (L : List Tok) : Nat → List Nd → Nat → Rs (List Nd)
  | 0, _, a => .bad a 0
  | n + 1, acc, a => if isS L a sCc = true then .ok acc (a + 1) else (spaceOneM L a).bind fun x a1 => onesM L n (acc ++ [x]) a1
def spaceM (L : List Tok) (a : Nat) : Rs Nd := (idR L (a + 1)).bind fun t a1 => (wantR L sCb a1).bind fun _ a2 => (onesM L (L.length + 1 - a2) [] a2).bind fun l a3 => .ok (mk0 66 t l) a3
/-- classes: fields, constructors, methods, names so far. -/
structure Mem where
  fs : List Nd
  cs : List Nd
  ms : List Nd
  ns : List (List UInt8)
def ctorM (L : List Tok) (m : Mem) (a : Nat) : Rs Mem := if m.cs = [] then
    (paramsG L (toM L) (a + 1)).bind fun p a1 => (blockG L (stmtM L) a1).bind fun b a2 => .ok { m with cs := m.cs ++ [mk0 44 mtT [p, b]] } a2
  else .bad a 60
def methodM (L : List Tok) (m : Mem) (t : ByteArray) (a : Nat) : Rs Mem := (paramsG L (toM L) a).bind fun p a1 => (toM L a1).bind fun y a2 => (blockG L (stmtM L) a2).bind fun b a3 => .ok { m with ms := m.ms ++ [mk0 45 t [p, y, b]] } a3
def fieldM (L : List Tok) (m : Mem) (t : ByteArray) (a : Nat) : Rs Mem := (toM L a).bind fun y a1 => (wantR L sAs a1).bind fun _ a2 => (exprM L a2).bind fun e a3 => (wantR L sSe a3).bind fun _ a4 => .ok { m with fs := m.fs ++ [mk0 43 t [y, e]] } a4
def memberM (L : List Tok) (m : Mem) (a : Nat) : Rs Mem := if isNm L a nCtor = true ∧ isS L (a + 1) sPo = true then ctorM L m a
  else (addR L m.ns a).bind fun ns _ => (propR' L a).bind fun t a1 => if isS L a1 sPo = true then methodM L { m with ns := ns } t a1 else fieldM L { m with ns := ns } t a1
def membersM (L : List Tok) : Nat → Mem → Nat → Rs Mem
  | 0, _, a => .bad a 0
  | n + 1, m, a => if isS L a sCc = true then .ok m (a + 1) else (memberM L m a).bind fun m1 a1 => membersM L n m1 a1
def classM (L : List Tok) (a : Nat) : Rs Nd := (idR L (a + 1)).bind fun t a1 => (wantR L sCb a1).bind fun _ a2 => (membersM L (L.length + 1 - a2) ⟨[], [], [], [nCtor.data.toList]⟩ a2).bind fun m a3 => .ok (mk0 42 t (m.fs ++ m.cs ++ m.ms)) a3
/-- imports. -/
def impAs (t u : ByteArray) : Nd := mk0 61 t [mk0 6 u []]
def nameM (L : List Tok) (s : ByteArray) (a : Nat) : Rs Unit := if isNm L a s = true then .ok () (a + 1) else .bad a 60
def requestM (L : List Tok) (a : Nat) : Rs ByteArray := if (tokA L a).k = 4 then .ok (tokA L a).t (a + 1) else .bad a 60
def typesAloneM (L : List Tok) (a : Nat) : Bool := isNm L a nType && (if isNm L (a + 1) nFrom = true then (tokA L (a + 2)).k != 4 else isN L (a + 1) || isS L (a + 1) sCb)
def starM (L : List Tok) (a : Nat) : Rs Nd := (nameM L nAs (a + 1)).bind fun _ a1 => (idR L a1).bind fun u a2 => .ok (impAs (tokA L a).t u) a2
def importOneM (L : List Tok) (a : Nat) : Rs Nd := (propR' L a).bind fun t a1 => if isNm L a1 nAs = true then (idR L (a1 + 1)).bind fun u a2 => .ok (impAs t u) a2
  else if isN L a = true then .ok (impAs t t) a1 else .bad a1 60
def clauseRestM (L : List Tok) (types : Bool) (acc : List Nd) (a : Nat) : Rs (List Nd) := if types = false ∧ isS L a sSt = true then (starM L a).bind fun x a1 => .ok (acc ++ [x]) a1
  else (wantR L sCb a).bind fun _ a1 => if types = true ∧ acc = [] ∧ isS L a1 sCc = true then .bad a1 60 else (listE L (importOneM L) sCc a1).bind fun l a2 => .ok (acc ++ l) a2
def clauseM (L : List Tok) (types : Bool) (a : Nat) : Rs (List Nd) := if isN L a = true then
    (if isS L (a + 1) sCm = true then clauseRestM L types [impAs wDefault (tokA L a).t] (a + 2) else .ok [impAs wDefault (tokA L a).t] (a + 1))
  else clauseRestM L types [] a
def importM (L : List Tok) (a : Nat) : Rs Nd := if (tokA L (a + 1)).k = 4 then (requestM L (a + 1)).bind fun t a1 => endM L (mk0 60 t []) a1
  else (clauseM L (typesAloneM L (a + 1)) (a + 1 + (typesAloneM L (a + 1)).toNat)).bind fun l a1 => (nameM L nFrom a1).bind fun _ a2 => (requestM L a2).bind fun t a3 => endM L (.mk 60 t (if typesAloneM L (a + 1) = true then 1 else 0) l) a3
/-- exports. -/
def requestedM (L : List Tok) (a : Nat) : Rs ByteArray := if (tokA L a).t.toList = [] then .bad a 60 else requestM L a
def exportAllM (L : List Tok) (a : Nat) : Rs Nd := (if isNm L (a + 1) nAs = true then (propR' L (a + 2)).bind fun u a1 => .ok (mk0 6 u []) a1 else .ok noneN (a + 1)).bind fun y a1 =>
  (nameM L nFrom a1).bind fun _ a2 => (requestedM L a2).bind fun t a3 => endM L (mk0 64 t [mk0 65 (tokA L a).t [y]]) a3
def exportOneM (L : List Tok) (a : Nat) : Rs Nd := (propR' L a).bind fun t a1 => if isNm L a1 nAs = true then (propR' L (a1 + 1)).bind fun u a2 => .ok (if u.toList = t.toList then mk0 65 t [noneN] else mk0 65 t [mk0 6 u []]) a2
  else .ok (mk0 65 t [noneN]) a1
/-- whether all names may be this module's own. -/
def hereM (L : List Tok) : Nat → Bool → Nat → Bool
  | 0, h, _ => h
  | n + 1, h, a => if isS L a sCc = true then h else match exportOneM L a with
    | .bad _ _ => h
    | .ok _ a1 => hereM L n (h && isN L a) (if isS L a1 sCc = true then a1 else a1 + 1)
def exportNamesM (L : List Tok) (types : Int) (a : Nat) : Rs Nd := if isS L (a + 1) sCc = true then .bad (a + 1) 60
  else (listE L (exportOneM L) sCc (a + 1)).bind fun l a1 => if hereM L (L.length + 1) true (a + 1) = true ∧ isS L a1 sSe = true then endM L (.mk 64 mtT types l) a1
    else (nameM L nFrom a1).bind fun _ a2 => (requestedM L a2).bind fun t a3 => endM L (.mk 64 t types l) a3
def declaredM (L : List Tok) (a : Nat) : Rs Nd := if isWd L a wLet = true ∨ isWd L a wConst = true ∨ isWd L a wFunc = true then stmtM L a
  else if isWd L a wClass = true then classM L a else if isNm L a nType = true then aliasM L a else .bad a 60
def defaultedM (L : List Tok) (a : Nat) : Rs Nd := if isWd L a wFunc = true then stmtM L a else if isWd L a wClass = true then classM L a else (exprM L a).bind fun e a1 => endM L e a1
def exportM (L : List Tok) (a : Nat) : Rs Nd := if isWd L (a + 1) wDefault = true then (defaultedM L (a + 2)).bind fun x a1 => .ok (mk0 63 mtT [x]) a1
  else if isS L (a + 1) sSt = true then exportAllM L (a + 1)
  else if isS L (a + 1) sCb = true then exportNamesM L 0 (a + 1)
  else if isNm L (a + 1) nType = true ∧ isS L (a + 2) sCb = true then exportNamesM L 1 (a + 2)
  else (declaredM L (a + 1)).bind fun x a1 => .ok (mk0 62 mtT [x]) a1
/-- the items of a module, of a script. -/
def itemM (L : List Tok) (a : Nat) : Rs Nd := if isWd L a wClass = true then classM L a else if isWd L a wImport = true then importM L a else if isWd L a wExport = true then exportM L a
  else if opensM L a nType sAs = true then aliasM L a else stmtM L a
def itemS (L : List Tok) (a : Nat) : Rs Nd := if isWd L a wClass = true then classM L a else if opensM L a nSpace sCb = true then spaceM L a else stmtM L a
/-- all items up to the end. -/
def itemsM (L : List Tok) (I : Nat → Rs Nd) : Nat → List Nd → Nat → Rs (List Nd)
  | 0, _, a => .bad a 0
  | n + 1, acc, a => if L.length ≤ a then .ok acc a else (I a).bind fun x a1 => itemsM L I n (acc ++ [x]) a1
theorem isNm_lt {L : List Tok} {a : Nat} {s : ByteArray} (h : isNm L a s = true) : a < L.length := by
  unfold isNm at h
  simp only [Bool.and_eq_true, beq_iff_eq] at h
  exact kind_lt (by rw [h.1]; decide)
end Go.Proofs.YtfehmdfamndcaaaGreatDoor
