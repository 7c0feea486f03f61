/- Own text. Package parse: the rules as functions of the tokens (a model of the program's own text;no program is named here). Package parse: what a rule answers lies behind where it began (of the model;no program is named here). Package parse: rules opened and closed,brackets ahead of an arrow,the line of an operator. -/
import Derived.Test.YthfkfbcopinmiaaGreatDoorGk04
import Derived.Deep.LoopGhost
set_option linter.unusedVariables false
namespace Go.Proofs.YthfkfbcopinmiaaGreatDoor
open Go.RowKit
def sAs : ByteArray:=⟨#[61]⟩
def sQu : ByteArray:=⟨#[63]⟩
def sCo : ByteArray:=⟨#[58]⟩
def sMi : ByteArray:=⟨#[45]⟩
def sNo : ByteArray:=⟨#[33]⟩
def sDo : ByteArray:=⟨#[46]⟩
def sBo : ByteArray:=⟨#[91]⟩
def sBc : ByteArray:=⟨#[93]⟩
def sSe : ByteArray:=⟨#[59]⟩
def sOr : ByteArray:=⟨#[124]⟩
def sAr : ByteArray:=⟨#[61,62]⟩
def wTypeof : ByteArray:=⟨#[116,121,112,101,111,102]⟩
def wTrue : ByteArray:=⟨#[116,114,117,101]⟩
def wFalse : ByteArray:=⟨#[102,97,108,115,101]⟩
def wNull : ByteArray:=⟨#[110,117,108,108]⟩
def wUndef : ByteArray:=⟨#[117,110,100,101,102,105,110,101,100]⟩
def wThis : ByteArray:=⟨#[116,104,105,115]⟩
def wNew : ByteArray:=⟨#[110,101,119]⟩
def wFunc : ByteArray:=⟨#[102,117,110,99,116,105,111,110]⟩
def wLet : ByteArray:=⟨#[108,101,116]⟩
def wConst : ByteArray:=⟨#[99,111,110,115,116]⟩
def wIf : ByteArray:=⟨#[105,102]⟩
def wElse : ByteArray:=⟨#[101,108,115,101]⟩
def wWhile : ByteArray:=⟨#[119,104,105,108,101]⟩
def wReturn : ByteArray:=⟨#[114,101,116,117,114,110]⟩
def wThrow : ByteArray:=⟨#[116,104,114,111,119]⟩
def noneN : Nd:=mk0 14 mtT []
def lineI (x : Tok) : Nat:=if x.k = 5 then
    (if x.t.toList=[124,124] then 1 else if x.t.toList=[38,38] then 2 else if x.t.toList=[61,61,61] ∨ x.t.toList=[33,61,61] then 3
    else if x.t.toList=[60] ∨ x.t.toList=[60,61] ∨ x.t.toList=[62] ∨ x.t.toList=[62,61] then 4 else if x.t.toList=[43] ∨ x.t.toList=[45] then 5
    else if x.t.toList=[42] ∨ x.t.toList=[47] ∨ x.t.toList=[37] then 6 else 0) else 0
def openI (x : Tok) : Int:=if x.k=5 then (if x.t.toList=[40] ∨ x.t.toList=[91] ∨ x.t.toList=[123] then 1 else if x.t.toList=[41] ∨ x.t.toList=[93] ∨ x.t.toList=[125] then -1 else 0) else 0
def arrL (L : List Tok) : List Tok→Nat→Int→Bool
 | [],_,_=>false
 | t :: ts,i,d=>if d+openI t=0 then isS L (i+1) sAr else arrL L ts (i+1) (d+openI t)
def arrow (L : List Tok) (a : Nat) : Bool:=arrL L (L.drop a) a 0
def beginR (L : List Tok) (a o : Nat) : Rs Unit:=if L.length ≤ a then .bad a 60 else if 400 ≤ o then .bad a 2 else .ok () a
def listE (L : List Tok) (E : Nat→Rs Nd) (s : ByteArray) (a : Nat) : Rs (List Nd):=listG L s (fun (_ : Unit) b=>(E b).bind fun x c=>.ok (x,()) c) (L.length+1 - a) [] () a
def binG (L : List Tok) (B : Nat→Nat→Rs Nd) (m : Nat) : Nat→Nd→Nat→Rs Nd
 | 0,_,a=>.bad a 0
 | n+1,nd,a=>if lineI (tokA L a) < m then .ok nd a else (B (lineI (tokA L a)+1) (a+1)).bind fun r a2=>binG L B m n (mk0 16 (tokA L a).t [nd,r]) a2
def postG (L : List Tok) (E : Nat→Rs Nd) : Nat→Nd→Nat→Rs Nd
 | 0,_,a=>.bad a 0
 | n + 1,nd,a=>if isS L a sDo = true then (propR' L (a + 1)).bind fun t a2=>postG L E n (mk0 21 t [nd]) a2
     else if isS L a sBo=true then (E (a+1)).bind fun k a2=>(wantR L sBc a2).bind fun _ a3=>postG L E n (mk0 22 mtT [nd,k]) a3
     else if isS L a sPo=true then (listE L E sPc (a+1)).bind fun l a2=>postG L E n (mk0 19 mtT (nd :: l)) a2
     else .ok nd a
def unionG (L : List Tok) (E : Nat→Rs Nd) : Nat→List Nd→Nat→Rs (List Nd)
 | 0,_,a=>.bad a 0
 | n+1,acc,a=>(E a).bind fun x a1=>if isS L a1 sOr=true then unionG L E n (acc ++ (if x.k=32 then x.ks else [x])) (a1+1) else .ok (acc ++ (if x.k=32 then x.ks else [x])) a1
def arrayG (L : List Tok) : Nat→Nd→Nat→Rs Nd
 | 0,_,a=>.bad a 0
 | n+1,nd,a=>if isS L a sBo=true then (wantR L sBc (a+1)).bind fun _ a2=>arrayG L n (mk0 31 mtT [nd]) a2 else .ok nd a
def fieldsG (L : List Tok) (T : Nat→Rs Nd) : Nat→List Nd→List (List UInt8)→Nat→Rs (List Nd)
 | 0,_,_,a=>.bad a 0
 | n+1,acc,ns,a=>if isS L a sCc=true then .ok acc (a+1) else (addR L ns a).bind fun ns1 _=>(propR' L a).bind fun t a1=>(T a1).bind fun y a2=>(wantR L sSe a2).bind fun _ a3=>fieldsG L T n (acc ++ [mk0 34 t [y]]) ns1 a3
def oneOr (l : List Nd) : Nd:=match l with
 | [x]=>x
 | l=>mk0 32 mtT l
section
variable (L : List Tok)
mutual
def exprF : Nat→Nat→Nat→Rs Nd
 | 0,a,_=>.bad a 0
 | f+1,a,o=>(beginR L a o).bind fun _ _=>(condF f a (o+1)).bind fun n a1=>if isS L a1 sAs=true then assignF f n a1 (o+1) else .ok n a1
def assignF : Nat→Nd→Nat→Nat→Rs Nd
 | 0,_,a,_=>.bad a 0
 | f+1,n,a,o=>if n.k=6 ∨ n.k=21 ∨ n.k=22 then (exprF f (a+1) o).bind fun v a2=>.ok (mk0 18 mtT [n,v]) a2 else .bad a 60
def condF : Nat→Nat→Nat→Rs Nd
 | 0,a,_=>.bad a 0
 | f + 1,a,o=>(binF f 1 a o).bind fun n a1=>if isS L a1 sQu = true then
     (exprF f (a1+1) o).bind fun t a2=>(wantR L sCo a2).bind fun _ a3=>(exprF f a3 o).bind fun e a4=>.ok (mk0 17 mtT [n,t,e]) a4 else .ok n a1
def binF : Nat→Nat→Nat→Nat→Rs Nd
 | 0,_,a,_=>.bad a 0
 | f+1,m,a,o=>(unaryF f a o).bind fun n a1=>binG L (fun m' a'=>binF f m' a' o) m (L.length+1 - a1) n a1
def unaryF : Nat→Nat→Nat→Rs Nd
 | 0,a,_=>.bad a 0
 | f + 1,a,o=>if isS L a sMi = true ∨ isS L a sNo = true ∨ isWd L a wTypeof = true then
     (beginR L a o).bind fun _ _=>(unaryF f (a+1) (o+1)).bind fun n a1=>.ok (mk0 15 (tokA L a).t [n]) a1 else postF f a o
def postF : Nat→Nat→Nat→Rs Nd
 | 0,a,_=>.bad a 0
 | f+1,a,o=>(primF f a o).bind fun n a1=>postG L (fun a'=>exprF f a' o) (L.length+1 - a1) n a1
def primF : Nat→Nat→Nat→Rs Nd
 | 0,a,_=>.bad a 0
 | f + 1,a,o=>if (tokA L a).k = 3 then .ok (.mk 1 mtT (tokA L a).n []) (a + 1)
     else if (tokA L a).k=4 then .ok (mk0 2 (tokA L a).t []) (a+1)
     else if (tokA L a).k=1 then .ok (mk0 6 (tokA L a).t []) (a+1)
     else if (tokA L a).k=2 then wprimF f a o else sprimF f a o
def wprimF : Nat→Nat→Nat→Rs Nd
 | 0,a,_=>.bad a 0
 | f + 1,a,o=>if isWd L a wTrue = true then .ok (.mk 3 mtT 1 []) (a + 1) else if isWd L a wFalse = true then .ok (mk0 3 mtT []) (a + 1)
       else if isWd L a wNull=true then .ok (mk0 4 mtT []) (a+1) else if isWd L a wUndef=true then .ok (mk0 5 mtT []) (a+1)
       else if isWd L a wThis=true then .ok (mk0 7 mtT []) (a+1)
       else if isWd L a wNew=true then (idR L (a+1)).bind fun t a1=>(wantR L sPo a1).bind fun _ a2=>(listE L (fun a'=>exprF f a' o) sPc a2).bind fun l a3=>.ok (mk0 20 t l) a3
       else if isWd L a wFunc=true then (paramsG L (fun a'=>typeOrF f a' o) (a+1)).bind fun p a1=>(typeOrF f a1 o).bind fun t a2=>(blkF f a2 o).bind fun b a3=>.ok (mk0 11 mtT [p,t,b]) a3
       else .bad a 60
def sprimF : Nat→Nat→Nat→Rs Nd
 | 0,a,_=>.bad a 0
 | f + 1,a,o=>if isS L a sBo = true then (listE L (fun a'=>exprF f a' o) sBc (a + 1)).bind fun l a1=>.ok (mk0 8 mtT l) a1
     else if isS L a sCb=true then (listE L (fun a'=>propF f a' o) sCc (a+1)).bind fun l a1=>.ok (mk0 9 mtT l) a1
     else if isS L a sPo=true then
      (if arrow L a=true then arrowF f a o
      else (exprF f (a+1) o).bind fun n a1=>(wantR L sPc a1).bind fun _ a2=>.ok n a2)
     else .bad a 60
def propF : Nat→Nat→Nat→Rs Nd
 | 0,a,_=>.bad a 0
 | f + 1,a,o=>(propR' L a).bind fun t a1=>if isS L a1 sCo = true then (exprF f (a1 + 1) o).bind fun e a2=>.ok (mk0 10 t [e]) a2
     else if isN L a=true then .ok (mk0 10 t [mk0 6 t []]) a1 else .bad a1 60
def arrowF : Nat→Nat→Nat→Rs Nd
 | 0,a,_=>.bad a 0
 | f+1,a,o=>(paramsG L (fun a'=>typeOrF f a' o) a).bind fun p a1=>(wantR L sAr a1).bind fun _ a2=>(abodyF f a2 o).bind fun b a3=>.ok (mk0 11 mtT [p,noneN,b]) a3
def abodyF : Nat→Nat→Nat→Rs Nd
 | 0,a,_=>.bad a 0
 | f+1,a,o=>if isS L a sCb=true then blkF f a o else (exprF f a o).bind fun e a1=>.ok (mk0 52 mtT [mk0 50 mtT [e]]) a1
def typeOrF : Nat→Nat→Nat→Rs Nd
 | 0,a,_=>.bad a 0
 | f+1,a,o=>if isS L a sCo=true then typingF f a o else .ok noneN a
def typingF : Nat→Nat→Nat→Rs Nd
 | 0,a,_=>.bad a 0
 | f+1,a,o=>(wantR L sCo a).bind fun _ a1=>typeF f a1 o
def typeF : Nat→Nat→Nat→Rs Nd
 | 0,a,_=>.bad a 0
 | f+1,a,o=>(beginR L a o).bind fun _ _=>(unionG L (fun a'=>ptypeF f a' (o+1)) (L.length+1 - a) [] a).bind fun l a1=>.ok (oneOr l) a1
def ptypeF : Nat→Nat→Nat→Rs Nd
 | 0,a,_=>.bad a 0
 | f+1,a,o=>(rtypeF f a o).bind fun n a1=>arrayG L (L.length+1 - a1) n a1
def rtypeF : Nat→Nat→Nat→Rs Nd
 | 0,a,_=>.bad a 0
 | f + 1,a,o=>if isN L a = true ∨ isWd L a wNull = true ∨ isWd L a wUndef = true then .ok (mk0 30 (tokA L a).t []) (a + 1)
     else if isS L a sCb=true then objtF f (a+1) o
     else if isS L a sPo=true then
      (if arrow L a=true then ftypeF f a o
      else (typeF f (a+1) o).bind fun n a1=>(wantR L sPc a1).bind fun _ a2=>.ok n a2)
     else .bad a 60
def objtF : Nat→Nat→Nat→Rs Nd
 | 0,a,_=>.bad a 0
 | f+1,a,o=>(fieldsG L (fun a'=>typingF f a' o) (L.length+1 - a) [] [] a).bind fun l a1=>.ok (mk0 33 mtT l) a1
def ftypeF : Nat→Nat→Nat→Rs Nd
 | 0,a,_=>.bad a 0
 | f+1,a,o=>(paramsG L (fun a'=>typingF f a' o) a).bind fun p a1=>(wantR L sAr a1).bind fun _ a2=>(typeF f a2 o).bind fun t a3=>.ok (mk0 35 mtT [p,t]) a3
def blkF : Nat→Nat→Nat→Rs Nd
 | 0,a,_=>.bad a 0
 | f+1,a,o=>blockG L (fun a'=>stmtF f a' o) a
def stmtF : Nat→Nat→Nat→Rs Nd
 | 0,a,_=>.bad a 0
 | f+1,a,o=>(beginR L a o).bind fun _ _=>anyF f a (o+1)
def letF : Nat→Int→Nat→Nat→Rs Nd
 | 0,_,a,_=>.bad a 0
 | f+1,n,a,o=>(idR L a).bind fun t a1=>(typeOrF f a1 o).bind fun y a2=>(wantR L sAs a2).bind fun _ a3=>(exprF f a3 o).bind fun e a4=>(wantR L sSe a4).bind fun _ a5=>.ok (.mk 40 t n [y,e]) a5
def condiF : Nat→Nat→Nat→Rs Nd
 | 0,a,_=>.bad a 0
 | f+1,a,o=>(wantR L sPo a).bind fun _ a1=>(exprF f a1 o).bind fun e a2=>(wantR L sPc a2).bind fun _ a3=>.ok e a3
def elseF : Nat→Nat→Nat→Rs Nd
 | 0,a,_=>.bad a 0
 | f+1,a,o=>if isWd L a wElse=true then (if isWd L (a+1) wIf=true then (stmtF f (a+1) o).bind fun s a3=>.ok (mk0 52 mtT [s]) a3 else blkF f (a+1) o) else .ok noneN a
def exprOrF : Nat→Nat→Nat→Rs Nd
 | 0,a,_=>.bad a 0
 | f+1,a,o=>if isS L a sSe=true then .ok noneN a else exprF f a o
def anyF : Nat→Nat→Nat→Rs Nd
 | 0,a,_=>.bad a 0
 | f + 1,a,o=>if isWd L a wLet = true then letF f 0 (a + 1) o
     else if isWd L a wConst=true then letF f 1 (a+1) o
     else if isWd L a wFunc=true then (idR L (a+1)).bind fun t a1=>(paramsG L (fun a'=>typeOrF f a' o) a1).bind fun p a2=>(typeOrF f a2 o).bind fun y a3=>(blkF f a3 o).bind fun b a4=>.ok (mk0 41 t [p,y,b]) a4
     else if isWd L a wIf=true then (condiF f (a+1) o).bind fun c a1=>(blkF f a1 o).bind fun b a2=>(elseF f a2 o).bind fun e a4=>.ok (mk0 48 mtT [c,b,e]) a4
     else if isWd L a wWhile=true then (condiF f (a+1) o).bind fun c a1=>(blkF f a1 o).bind fun b a2=>.ok (mk0 49 mtT [c,b]) a2
     else if isWd L a wReturn=true then (exprOrF f (a+1) o).bind fun e a1=>(wantR L sSe a1).bind fun _ a2=>.ok (mk0 50 mtT [e]) a2
     else if isWd L a wThrow=true then (exprF f (a+1) o).bind fun e a1=>(wantR L sSe a1).bind fun _ a2=>.ok (mk0 51 mtT [e]) a2
     else if isS L a sCb=true then blkF f a o
     else (exprF f a o).bind fun e a1=>(wantR L sSe a1).bind fun _ a2=>.ok (mk0 47 mtT [e]) a2
end
end
set_option linter.unusedSimpArgs false
set_option maxRecDepth 100000
set_option maxHeartbeats 20000000
def Ge {α : Type} (c : Nat) (r : Rs α) : Prop:=∀ v b,r = .ok v b→c ≤ b
theorem Ge.bad {α : Type} {c : Nat} (p : Nat) (e : Int) : Ge c (Rs.bad p e : Rs α):=fun v b h=>by cases h
theorem Ge.ok {α : Type} {c b : Nat} {v : α} (h : c ≤ b) : Ge c (Rs.ok v b):=fun u d e=>by cases e;exact h
theorem Ge.mono {α : Type} {c d : Nat} {r : Rs α} (h : Ge d r) (hc : c ≤ d) : Ge c r:=fun v b e=>Nat.le_trans hc (h v b e)
theorem Ge.bind {α β : Type} {c d : Nat} {r : Rs α} {f : α→Nat→Rs β} (hr : Ge d r) (hf : ∀ u a1,d ≤ a1→Ge c (f u a1)) : Ge c (r.bind f):=by
 cases r with
 | ok u a1=>exact hf u a1 (hr u a1 rfl)
 | bad p e=>exact Ge.bad p e
theorem Ge.ite {α : Type} {c : Nat} {p : Prop} [Decidable p] {x y : Rs α} (hx : p→Ge c x) (hy : ¬ p→Ge c y) : Ge c (if p then x else y):=by
 split
 ·exact hx (by assumption)
 ·exact hy (by assumption)
theorem want_ge (L : List Tok) (s : ByteArray) (a : Nat) : Ge (a+1) (wantR L s a):=Ge.ite (fun _=>Ge.ok (Nat.le_refl _)) (fun _=>Ge.bad _ _)
theorem id_ge (L : List Tok) (a : Nat) : Ge (a+1) (idR L a):=Ge.ite (fun _=>Ge.ok (Nat.le_refl _)) (fun _=>Ge.bad _ _)
theorem prop_ge (L : List Tok) (a : Nat) : Ge (a+1) (propR' L a):=Ge.ite (fun _=>Ge.ok (Nat.le_refl _)) (fun _=>Ge.bad _ _)
theorem add_ge (L : List Tok) (ns : List (List UInt8)) (a : Nat) : Ge a (addR L ns a):=Ge.ite (fun _=>Ge.bad _ _) (fun _=>Ge.ok (Nat.le_refl _))
theorem begin_ge (L : List Tok) (a o : Nat) : Ge a (beginR L a o):=Ge.ite (fun _=>Ge.bad _ _) (fun _=>Ge.ite (fun _=>Ge.bad _ _) (fun _=>Ge.ok (Nat.le_refl _)))
theorem listG_ge {σ : Type} {L : List Tok} {s : ByteArray} {F : σ→Nat→Rs (Nd × σ)} (hF : ∀ st a,Ge a (F st a)) : ∀ (n : Nat) (acc : List Nd) (st : σ) (a : Nat),Ge (a+1) (listG L s F n acc st a)
 | 0,_,_,_=>Ge.bad _ _
 | n+1,acc,st,a=>by
  rw [listG]
  refine Ge.ite (fun _=>Ge.ok (Nat.le_refl _)) (fun _=>?_)
  have h:=hF st a
  split
  ·exact Ge.bad _ _
  ·rename_i x a1 e
   have:=h _ _ e
   exact Ge.ite (fun _=>(listG_ge hF n _ _ _).mono (by omega)) (fun _=>Ge.ite (fun _=>(listG_ge hF n _ _ _).mono (by omega)) (fun _=>Ge.bad _ _))
theorem listE_ge {L : List Tok} {s : ByteArray} {E : Nat→Rs Nd} (hE : ∀ a,Ge (a+1) (E a)) (a : Nat) : Ge (a+1) (listE L E s a) :=
 listG_ge (fun _ a=>((hE a).bind (c:=a+1) (fun u b hb=>Ge.ok hb)).mono (by omega)) _ _ _ _
theorem stmtsG_ge {L : List Tok} {F : Nat→Rs Nd} (hF : ∀ a,Ge (a+1) (F a)) : ∀ (n : Nat) (acc : List Nd) (a : Nat),Ge (a+1) (stmtsG L F n acc a)
 | 0,_,_=>Ge.bad _ _
 | n+1,acc,a=>by
  rw [stmtsG]
  refine Ge.ite (fun _=>Ge.ok (Nat.le_refl _)) (fun _=>?_)
  have h:=hF a
  split
  ·exact Ge.bad _ _
  ·rename_i x a1 e
   have:=h _ _ e
   exact (stmtsG_ge hF n _ _).mono (by omega)
theorem blockG_ge {L : List Tok} {F : Nat→Rs Nd} (hF : ∀ a,Ge (a+1) (F a)) (a : Nat) : Ge (a+1) (blockG L F a) :=
 (want_ge L _ a).bind fun _ a1 h1=>(stmtsG_ge hF _ _ a1).bind fun _ a2 h2=>Ge.ok (by omega)
theorem paramsG_ge {L : List Tok} {G : Nat→Rs Nd} (hG : ∀ a,Ge a (G a)) (a : Nat) : Ge (a+1) (paramsG L G a) :=
 (want_ge L _ a).bind fun _ a1 h1=>(listG_ge (fun ns b=>(add_ge L ns b).bind fun _ c hc=>(id_ge L b).bind fun _ c hc=>(hG c).bind fun _ d hd=>Ge.ok (by omega)) _ _ _ a1).bind fun _ a2 h2=>Ge.ok (by omega)
theorem binG_ge {L : List Tok} {B : Nat→Nat→Rs Nd} (hB : ∀ m a,Ge (a+1) (B m a)) (m : Nat) : ∀ (n : Nat) (nd : Nd) (a : Nat),Ge a (binG L B m n nd a)
 | 0,_,_=>Ge.bad _ _
 | n+1,nd,a=>by
  rw [binG]
  exact Ge.ite (fun _=>Ge.ok (Nat.le_refl _)) (fun _=>(hB _ _).bind fun _ a2 h2=>(binG_ge hB m n _ _).mono (by omega))
theorem postG_ge {L : List Tok} {E : Nat→Rs Nd} (hE : ∀ a,Ge (a+1) (E a)) : ∀ (n : Nat) (nd : Nd) (a : Nat),Ge a (postG L E n nd a)
 | 0,_,_=>Ge.bad _ _
 | n+1,nd,a=>by
  rw [postG]
  refine Ge.ite (fun _=>(prop_ge L _).bind fun _ a2 h2=>(postG_ge hE n _ _).mono (by omega)) (fun _=>Ge.ite (fun _=>(hE _).bind fun _ a2 h2=>(want_ge L _ _).bind fun _ a3 h3=>(postG_ge hE n _ _).mono (by omega)) (fun _=>Ge.ite (fun _=>(listE_ge hE _).bind fun _ a2 h2=>(postG_ge hE n _ _).mono (by omega)) (fun _=>Ge.ok (Nat.le_refl _))))
theorem unionG_ge {L : List Tok} {E : Nat→Rs Nd} (hE : ∀ a,Ge (a+1) (E a)) : ∀ (n : Nat) (acc : List Nd) (a : Nat),Ge (a+1) (unionG L E n acc a)
 | 0,_,_=>Ge.bad _ _
 | n+1,acc,a=>by
  rw [unionG]
  exact (hE a).bind fun _ a1 h1=>Ge.ite (fun _=>(unionG_ge hE n _ _).mono (by omega)) (fun _=>Ge.ok (by omega))
theorem arrayG_ge {L : List Tok} : ∀ (n : Nat) (nd : Nd) (a : Nat),Ge a (arrayG L n nd a)
 | 0,_,_=>Ge.bad _ _
 | n+1,nd,a=>by
  rw [arrayG]
  exact Ge.ite (fun _=>(want_ge L _ _).bind fun _ a2 h2=>(arrayG_ge n _ _).mono (by omega)) (fun _=>Ge.ok (Nat.le_refl _))
theorem fieldsG_ge {L : List Tok} {T : Nat→Rs Nd} (hT : ∀ a,Ge a (T a)) : ∀ (n : Nat) (acc : List Nd) (ns : List (List UInt8)) (a : Nat),Ge (a+1) (fieldsG L T n acc ns a)
 | 0,_,_,_=>Ge.bad _ _
 | n+1,acc,ns,a=>by
  rw [fieldsG]
  exact Ge.ite (fun _=>Ge.ok (Nat.le_refl _)) (fun _=>(add_ge L _ _).bind fun _ _ _=>(prop_ge L a).bind fun _ a1 h1=>(hT a1).bind fun _ a2 h2=>(want_ge L _ a2).bind fun _ a3 h3=>(fieldsG_ge hT n _ _ _).mono (by omega))
structure Mono (L : List Tok) (f : Nat) : Prop where
 expr' : ∀ (a : Nat) (o : Nat),Ge (a+1) (exprF L f a o)
 assign' : ∀ (nd : Nd) (a : Nat) (o : Nat),Ge (a) (assignF L f nd a o)
 cond' : ∀ (a : Nat) (o : Nat),Ge (a+1) (condF L f a o)
 bin' : ∀ (m : Nat) (a : Nat) (o : Nat),Ge (a+1) (binF L f m a o)
 unary' : ∀ (a : Nat) (o : Nat),Ge (a+1) (unaryF L f a o)
 post' : ∀ (a : Nat) (o : Nat),Ge (a+1) (postF L f a o)
 prim' : ∀ (a : Nat) (o : Nat),Ge (a+1) (primF L f a o)
 wprim' : ∀ (a : Nat) (o : Nat),Ge (a+1) (wprimF L f a o)
 sprim' : ∀ (a : Nat) (o : Nat),Ge (a+1) (sprimF L f a o)
 prop' : ∀ (a : Nat) (o : Nat),Ge (a+1) (propF L f a o)
 arrow' : ∀ (a : Nat) (o : Nat),Ge (a+1) (arrowF L f a o)
 abody' : ∀ (a : Nat) (o : Nat),Ge (a+1) (abodyF L f a o)
 typeOr' : ∀ (a : Nat) (o : Nat),Ge (a) (typeOrF L f a o)
 typing' : ∀ (a : Nat) (o : Nat),Ge (a+1) (typingF L f a o)
 type' : ∀ (a : Nat) (o : Nat),Ge (a+1) (typeF L f a o)
 ptype' : ∀ (a : Nat) (o : Nat),Ge (a+1) (ptypeF L f a o)
 rtype' : ∀ (a : Nat) (o : Nat),Ge (a+1) (rtypeF L f a o)
 objt' : ∀ (a : Nat) (o : Nat),Ge (a+1) (objtF L f a o)
 ftype' : ∀ (a : Nat) (o : Nat),Ge (a+1) (ftypeF L f a o)
 blk' : ∀ (a : Nat) (o : Nat),Ge (a+1) (blkF L f a o)
 stmt' : ∀ (a : Nat) (o : Nat),Ge (a+1) (stmtF L f a o)
 let' : ∀ (q : Int) (a : Nat) (o : Nat),Ge (a+1) (letF L f q a o)
 condi' : ∀ (a : Nat) (o : Nat),Ge (a+1) (condiF L f a o)
 els' : ∀ (a : Nat) (o : Nat),Ge (a) (elseF L f a o)
 exprOr' : ∀ (a : Nat) (o : Nat),Ge (a) (exprOrF L f a o)
 any' : ∀ (a : Nat) (o : Nat),Ge (a+1) (anyF L f a o)
theorem mono_all (L : List Tok) : ∀ f,Mono L f:=by
 intro f
 induction f with
 | zero=>constructor <;> (intros;intro v b h;simp [exprF,assignF,condF,binF,unaryF,postF,primF,wprimF,sprimF,propF,arrowF,abodyF,typeOrF,typingF,typeF,ptypeF,rtypeF,objtF,ftypeF,blkF,stmtF,letF,condiF,elseF,exprOrF,anyF] at h)
 | succ f ih =>
  have hE:=fun o a=>ih.expr' a o
  constructor
  all_goals
   first
    | (intro a o;first | rw [exprF] | rw [condF] | rw [unaryF] | rw [postF] | rw [primF] | rw [wprimF] | rw [sprimF] | rw [propF] | rw [arrowF] | rw [abodyF] | rw [typeOrF] | rw [typingF] | rw [typeF] | rw [ptypeF] | rw [rtypeF] | rw [objtF] | rw [ftypeF] | rw [blkF] | rw [stmtF] | rw [condiF] | rw [elseF] | rw [exprOrF] | rw [anyF])
    | (intro nd a o;first | rw [assignF])
    | (intro m a o;first | rw [binF])
    | (intro q a o;first | rw [letF])
   repeat (first
    | exact (blockG_ge (fun a'=>ih.stmt' _ _) _).mono (by omega)
    | exact Ge.bad _ _
    | exact Ge.ok (by omega)
    | (refine Ge.ite (fun _=>?_) (fun _=>?_))
    | (refine Ge.bind (begin_ge L _ _) ?_;intro _ _ _)
    | (refine Ge.bind (want_ge L _ _) ?_;intro _ _ _)
    | (refine Ge.bind (id_ge L _) ?_;intro _ _ _)
    | (refine Ge.bind (prop_ge L _) ?_;intro _ _ _)
    | (refine Ge.bind (listE_ge (fun a'=>by first | exact ih.expr' _ _ | exact ih.prop' _ _) _) ?_;intro _ _ _)
    | (refine Ge.bind (paramsG_ge (fun a'=>by first | exact ih.typeOr' _ _ | exact (ih.typing' _ _).mono (by omega)) _) ?_;intro _ _ _)
    | (refine Ge.bind (unionG_ge (fun a'=>ih.ptype' _ _) _ _ _) ?_;intro _ _ _)
    | (refine Ge.bind (fieldsG_ge (fun a'=>(ih.typing' _ _).mono (by omega)) _ _ _ _) ?_;intro _ _ _)
    | exact (binG_ge (fun m' a'=>ih.bin' _ _ _) _ _ _ _).mono (by omega)
    | exact (postG_ge (fun a'=>ih.expr' _ _) _ _ _).mono (by omega)
    | exact (arrayG_ge _ _ _).mono (by omega)
    | (refine Ge.bind (by first | exact ih.expr' _ _ | exact ih.assign' _ _ _ | exact ih.cond' _ _ | exact ih.bin' _ _ _ | exact ih.unary' _ _ | exact ih.post' _ _ | exact ih.prim' _ _ | exact ih.wprim' _ _ | exact ih.sprim' _ _ | exact ih.prop' _ _ | exact ih.arrow' _ _ | exact ih.abody' _ _ | exact ih.typeOr' _ _ | exact ih.typing' _ _ | exact ih.type' _ _ | exact ih.ptype' _ _ | exact ih.rtype' _ _ | exact ih.objt' _ _ | exact ih.ftype' _ _ | exact ih.blk' _ _ | exact ih.stmt' _ _ | exact ih.let' _ _ _ | exact ih.condi' _ _ | exact ih.els' _ _ | exact ih.exprOr' _ _ | exact ih.any' _ _) ?_;intro _ _ _)
    | (first | exact (ih.expr' _ _).mono (by omega) | exact (ih.assign' _ _ _).mono (by omega) | exact (ih.cond' _ _).mono (by omega) | exact (ih.bin' _ _ _).mono (by omega) | exact (ih.unary' _ _).mono (by omega) | exact (ih.post' _ _).mono (by omega) | exact (ih.prim' _ _).mono (by omega) | exact (ih.wprim' _ _).mono (by omega) | exact (ih.sprim' _ _).mono (by omega) | exact (ih.prop' _ _).mono (by omega) | exact (ih.arrow' _ _).mono (by omega) | exact (ih.abody' _ _).mono (by omega) | exact (ih.typeOr' _ _).mono (by omega) | exact (ih.typing' _ _).mono (by omega) | exact (ih.type' _ _).mono (by omega) | exact (ih.ptype' _ _).mono (by omega) | exact (ih.rtype' _ _).mono (by omega) | exact (ih.objt' _ _).mono (by omega) | exact (ih.ftype' _ _).mono (by omega) | exact (ih.blk' _ _).mono (by omega) | exact (ih.stmt' _ _).mono (by omega) | exact (ih.let' _ _ _).mono (by omega) | exact (ih.condi' _ _).mono (by omega) | exact (ih.els' _ _).mono (by omega) | exact (ih.exprOr' _ _).mono (by omega) | exact (ih.any' _ _).mono (by omega)))
def opE (o : Nat) : Ex:=⟨[.int .i64 (o : Int)],128⟩
theorem Rd.cell2 {w : World} {P : Pl} {L : List Tok} {a o : Nat} (h : Rd w P L a (opE o)) : w.cell? ⟨P.R,2,none⟩=some (.int .i64 (o : Int))∧w.frozen? ⟨P.R,2,none⟩=false:=by
 simp [World.cell?,World.frozen?,h.r,opE]
theorem Rd.op {w : World} {P : Pl} {L : List Tok} {a o : Nat} (h : Rd w P L a (opE o)) (n : Nat) : Rd (w.setCell ⟨P.R,2,none⟩ (.int .i64 (n : Int))) P L a (opE n):=by
 refine ⟨by simp [World.setCell,Array.getElem?_modify,h.r,opE],h.t,⟨fun h0=>by simpa [World.setCell] using h.x.lt h0,fun i hi=>?_⟩,h.ne,h.le,h.small,h.cap⟩
 have hb : (w.setCell ⟨P.R,2,none⟩ (.int .i64 (n : Int))).heap[P.bl]?=w.heap[P.bl]?:=Below.heap_setCell _ _ _ _ (h.ne (by omega))
 have hc : ∀ j,(w.setCell ⟨P.R,2,none⟩ (.int .i64 (n : Int))).cell? ⟨P.bl,j,none⟩=w.cell? ⟨P.bl,j,none⟩:=fun j=>World.cell?_of_block (a:=⟨P.bl,j,none⟩) hb
 rw [hc,hc,hc,hc]
 exact h.x.c i hi
theorem begin_any {w : World} {P : Pl} {L : List Tok} {a o : Nat} (h : Rd w P L a (opE o)) (ho : o ≤ 400) :
 Calls Tryz.prog 112 #[.pointer (some ⟨P.R,0,none⟩)] w (AnsU P L (opE (o+1)) w (beginR L a o)):=by
 obtain ⟨⟨c0,c1⟩,f1⟩:=h.cells
 obtain ⟨c2,f2⟩:=h.cell2
 have hle:=h.le
 have C1:=rest_any h
 have CP:=fun {W : World} (r : Rd W P L a (opE o))=>place_any r
 unfold beginR
 have hR:=h
 by_cases hl : L.length ≤ a
 ·rw [if_pos hl]
  unfold AnsU
  have hz : ((L.length - a : Nat) : Int)=0:=by omega
  go_enter Tryz.func112,Tryz.ntmps112
  go_wp2_with (first
   | (go_at_call 91;refine C1.mono ?_;rintro e W1 ⟨⟨v,rfl,ad,rfl,had⟩,b1⟩;have r1:=hR.bel b1)
   | (go_at_call 72;refine (wrong_any r1).mono ?_;rintro e W2 ⟨rfl,b2⟩))
  exact ⟨rfl,rfl,(KeptR.of b1).trans (.of b2)⟩
 ·rw [if_neg hl]
  have hz : ¬ ((L.length - a : Nat) : Int)=0:=by omega
  have hz2 : (((L.length - a : Nat) : Int) == 0)=false:=by simpa using hz
  by_cases h4 : 400 ≤ o
  ·rw [if_pos h4]
   obtain rfl : o=400:=by omega
   unfold AnsU
   go_enter Tryz.func112,Tryz.ntmps112
   go_wp2_with (first
    | (go_at_call 91;refine C1.mono ?_;rintro e W1 ⟨⟨v,rfl,ad,rfl,had⟩,b1⟩;have r1:=hR.bel b1;obtain ⟨d2,g2⟩:=r1.cell2)
    | (go_at_call 34;refine (CP r1).mono ?_;rintro e W2 ⟨rfl,rfl⟩))
   exact ⟨rfl,rfl,KeptR.of b1⟩
  ·rw [if_neg h4]
   have hw : IntKind.i64.wrap ((o : Int)+1)=(o : Int)+1:=by rw [IntKind.wrap_i64];omega
   have ho' : ¬ (o : Int)=400:=by omega
   unfold AnsU
   go_enter Tryz.func112,Tryz.ntmps112
   go_wp2_with (go_at_call 91;refine C1.mono ?_;rintro e W1 ⟨⟨v,rfl,ad,rfl,had⟩,b1⟩;have r1:=hR.bel b1;obtain ⟨d2,g2⟩:=r1.cell2)
   go_end0
   exact ⟨rfl,by simpa using r1.op (o+1),(KeptR.of b1).trans (KeptR.set P.R W1 2 _)⟩
theorem end_any {w : World} {P : Pl} {L : List Tok} {a o : Nat} (h : Rd w P L a (opE (o+1))) (ho : o < 400) :
 Calls Tryz.prog 114 #[.pointer (some ⟨P.R,0,none⟩)] w fun e w'=>e = .returned (.tuple #[])∧Rd w' P L a (opE o)∧KeptR P.R w w':=by
 obtain ⟨c2,f2⟩:=h.cell2
 have hw : IntKind.i64.wrap (((o+1 : Nat) : Int) - 1)=(o : Int):=by rw [IntKind.wrap_i64];omega
 have hw2 : ((o+1 : Nat) : Int) - 1=(o : Int):=by omega
 go_enter Tryz.func114,Tryz.ntmps114
 go_wp2
 go_end0
 refine ⟨rfl,?_,KeptR.set P.R w 2 _⟩
 first
  | exact h.op o
  | simpa using h.op o
theorem opened_any (x : Tok) (w : World) : Calls Tryz.prog 154 #[x.v] w fun e w'=>e = .returned (.int .i64 (openI x))∧Below w.heap.size w w':=by
 obtain ⟨k,t,n,p⟩:=x
 have bel_n : ∀ o,Below w.heap.size w (w.alloc o):=fun o=>B0.alloc le0 o
 obtain ⟨z,hz⟩ : ∃ z,openI ⟨k,t,n,p⟩=z:=⟨_,rfl⟩
 rw [hz]
 have HZ : Hid (z=if k=5 then (if t.toList=[40] ∨ t.toList=[91] ∨ t.toList=[123] then 1 else if t.toList=[41] ∨ t.toList=[93] ∨ t.toList=[125] then -1 else 0) else 0):=hz.symm
 clear hz
 unfold Tok.v
 by_cases hk : k=5
 ·subst hk
  cases h1 : (t.toList == [40]) with
  | true =>
   obtain rfl : z=1:=by rw [HZ.out,eq_of_beq h1];rfl
   clear HZ
   go_enter Tryz.func154,Tryz.ntmps154
   go_wp2
   go_ret
   exact ⟨rfl,bel_n _⟩
  | false =>
   cases h2 : (t.toList == [91]) with
   | true =>
    obtain rfl : z=1:=by rw [HZ.out,eq_of_beq h2];rfl
    clear HZ
    go_enter Tryz.func154,Tryz.ntmps154
    go_wp2
    go_ret
    exact ⟨rfl,bel_n _⟩
   | false =>
    cases h3 : (t.toList == [123]) with
    | true =>
     obtain rfl : z=1:=by rw [HZ.out,eq_of_beq h3];rfl
     clear HZ
     go_enter Tryz.func154,Tryz.ntmps154
     go_wp2
     go_ret
     exact ⟨rfl,bel_n _⟩
    | false =>
     cases h4 : (t.toList == [41]) with
     | true =>
      obtain rfl : z = -1:=by rw [HZ.out,eq_of_beq h4];rfl
      clear HZ
      go_enter Tryz.func154,Tryz.ntmps154
      go_wp2
      go_ret
      exact ⟨rfl,bel_n _⟩
     | false =>
      cases h5 : (t.toList == [93]) with
      | true =>
       obtain rfl : z = -1:=by rw [HZ.out,eq_of_beq h5];rfl
       clear HZ
       go_enter Tryz.func154,Tryz.ntmps154
       go_wp2
       go_ret
       exact ⟨rfl,bel_n _⟩
      | false =>
       cases h6 : (t.toList == [125]) with
       | true =>
        obtain rfl : z = -1:=by rw [HZ.out,eq_of_beq h6];rfl
        clear HZ
        go_enter Tryz.func154,Tryz.ntmps154
        go_wp2
        go_ret
        exact ⟨rfl,bel_n _⟩
       | false =>
        have g : ∀ l : List UInt8,(t.toList == l)=false→¬ t.toList=l:=fun l h e=>by rw [e] at h;simp at h
        obtain rfl : z=0:=by rw [HZ.out,if_pos rfl,if_neg (by rintro (e | e | e);exact g _ h1 e;exact g _ h2 e;exact g _ h3 e),if_neg (by rintro (e | e | e);exact g _ h4 e;exact g _ h5 e;exact g _ h6 e)]
        clear HZ g
        go_enter Tryz.func154,Tryz.ntmps154
        go_wp2
        go_ret
        exact ⟨rfl,bel_n _⟩
 ·obtain rfl : z=0:=by rw [HZ.out,if_neg hk]
  clear HZ
  go_enter Tryz.func154,Tryz.ntmps154
  go_wp2
  go_ret
  exact ⟨rfl,bel_n _⟩
theorem lineOf_any (x : Tok) (w : World) : Calls Tryz.prog 159 #[x.v] w fun e w'=>e = .returned (.int .i64 (lineI x : Nat))∧Below w.heap.size w w':=by
 obtain ⟨k,t,n,p⟩:=x
 have bel_n : ∀ o,Below w.heap.size w (w.alloc o):=fun o=>B0.alloc le0 o
 obtain ⟨z,hz⟩ : ∃ z,lineI ⟨k,t,n,p⟩=z:=⟨_,rfl⟩
 rw [hz]
 have HZ : Hid (z=if k=5 then
  (if t.toList=[124,124] then 1 else if t.toList=[38,38] then 2 else if t.toList=[61,61,61] ∨ t.toList=[33,61,61] then 3
  else if t.toList=[60] ∨ t.toList=[60,61] ∨ t.toList=[62] ∨ t.toList=[62,61] then 4 else if t.toList=[43] ∨ t.toList=[45] then 5
  else if t.toList=[42] ∨ t.toList=[47] ∨ t.toList=[37] then 6 else 0) else 0):=hz.symm
 clear hz
 unfold Tok.v
 by_cases hk : k=5
 ·subst hk
  cases h1 : (t.toList == [124,124]) with
  | true =>
   obtain rfl : z=1:=by rw [HZ.out,eq_of_beq h1];rfl
   clear HZ
   go_enter Tryz.func159,Tryz.ntmps159
   go_wp2
   go_ret
   exact ⟨rfl,bel_n _⟩
  | false =>
   cases h2 : (t.toList == [38,38]) with
   | true =>
    obtain rfl : z=2:=by rw [HZ.out,eq_of_beq h2];rfl
    clear HZ
    go_enter Tryz.func159,Tryz.ntmps159
    go_wp2
    go_ret
    exact ⟨rfl,bel_n _⟩
   | false =>
    cases h3 : (t.toList == [61,61,61]) with
    | true =>
     obtain rfl : z=3:=by rw [HZ.out,eq_of_beq h3];rfl
     clear HZ
     go_enter Tryz.func159,Tryz.ntmps159
     go_wp2
     go_ret
     exact ⟨rfl,bel_n _⟩
    | false =>
     cases h4 : (t.toList == [33,61,61]) with
     | true =>
      obtain rfl : z=3:=by rw [HZ.out,eq_of_beq h4];rfl
      clear HZ
      go_enter Tryz.func159,Tryz.ntmps159
      go_wp2
      go_ret
      exact ⟨rfl,bel_n _⟩
     | false =>
      cases h5 : (t.toList == [60]) with
      | true =>
       obtain rfl : z=4:=by rw [HZ.out,eq_of_beq h5];rfl
       clear HZ
       go_enter Tryz.func159,Tryz.ntmps159
       go_wp2
       go_ret
       exact ⟨rfl,bel_n _⟩
      | false =>
       cases h6 : (t.toList == [60,61]) with
       | true =>
        obtain rfl : z=4:=by rw [HZ.out,eq_of_beq h6];rfl
        clear HZ
        go_enter Tryz.func159,Tryz.ntmps159
        go_wp2
        go_ret
        exact ⟨rfl,bel_n _⟩
       | false =>
        cases h7 : (t.toList == [62]) with
        | true =>
         obtain rfl : z=4:=by rw [HZ.out,eq_of_beq h7];rfl
         clear HZ
         go_enter Tryz.func159,Tryz.ntmps159
         go_wp2
         go_ret
         exact ⟨rfl,bel_n _⟩
        | false =>
         cases h8 : (t.toList == [62,61]) with
         | true =>
          obtain rfl : z=4:=by rw [HZ.out,eq_of_beq h8];rfl
          clear HZ
          go_enter Tryz.func159,Tryz.ntmps159
          go_wp2
          go_ret
          exact ⟨rfl,bel_n _⟩
         | false =>
          cases h9 : (t.toList == [43]) with
          | true =>
           obtain rfl : z=5:=by rw [HZ.out,eq_of_beq h9];rfl
           clear HZ
           go_enter Tryz.func159,Tryz.ntmps159
           go_wp2
           go_ret
           exact ⟨rfl,bel_n _⟩
          | false =>
           cases h10 : (t.toList == [45]) with
           | true =>
            obtain rfl : z=5:=by rw [HZ.out,eq_of_beq h10];rfl
            clear HZ
            go_enter Tryz.func159,Tryz.ntmps159
            go_wp2
            go_ret
            exact ⟨rfl,bel_n _⟩
           | false =>
            cases h11 : (t.toList == [42]) with
            | true =>
             obtain rfl : z=6:=by rw [HZ.out,eq_of_beq h11];rfl
             clear HZ
             go_enter Tryz.func159,Tryz.ntmps159
             go_wp2
             go_ret
             exact ⟨rfl,bel_n _⟩
            | false =>
             cases h12 : (t.toList == [47]) with
             | true =>
              obtain rfl : z=6:=by rw [HZ.out,eq_of_beq h12];rfl
              clear HZ
              go_enter Tryz.func159,Tryz.ntmps159
              go_wp2
              go_ret
              exact ⟨rfl,bel_n _⟩
             | false =>
              cases h13 : (t.toList == [37]) with
              | true =>
               obtain rfl : z=6:=by rw [HZ.out,eq_of_beq h13];rfl
               clear HZ
               go_enter Tryz.func159,Tryz.ntmps159
               go_wp2
               go_ret
               exact ⟨rfl,bel_n _⟩
              | false =>
               have g : ∀ l : List UInt8,(t.toList == l)=false→¬ t.toList=l:=fun l h e=>by rw [e] at h;simp at h
               obtain rfl : z=0:=by rw [HZ.out,if_pos rfl,if_neg (g _ h1),if_neg (g _ h2),if_neg (by rintro (e | e);exact g _ h3 e;exact g _ h4 e),if_neg (by rintro (e | e | e | e);exact g _ h5 e;exact g _ h6 e;exact g _ h7 e;exact g _ h8 e),if_neg (by rintro (e | e);exact g _ h9 e;exact g _ h10 e),if_neg (by rintro (e | e | e);exact g _ h11 e;exact g _ h12 e;exact g _ h13 e)]
               clear HZ g
               go_enter Tryz.func159,Tryz.ntmps159
               go_wp2
               go_ret
               exact ⟨rfl,bel_n _⟩
 ·obtain rfl : z=0:=by rw [HZ.out,if_neg hk]
  clear HZ
  go_enter Tryz.func159,Tryz.ntmps159
  go_wp2
  go_ret
  exact ⟨rfl,bel_n _⟩
theorem rb {b c : Bool} (h : b=c) : Ending.returned (Value.bool b)=Ending.returned (Value.bool c):=by rw [h]
theorem openI_le (x : Tok) : -1 ≤ openI x∧openI x ≤ 1:=by
 unfold openI
 repeat' split
 all_goals omega
theorem arrL_cons (L : List Tok) {i : Nat} (h : i < L.length) (d : Int) : arrL L (L.drop i) i d=if d+openI L[i]=0 then isS L (i+1) sAr else arrL L (L.drop (i+1)) (i+1) (d+openI L[i]):=by
 rw [List.drop_eq_getElem_cons h,arrL]
end Go.Proofs.YthfkfbcopinmiaaGreatDoor
