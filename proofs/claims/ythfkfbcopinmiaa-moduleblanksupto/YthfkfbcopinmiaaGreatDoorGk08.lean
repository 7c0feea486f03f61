/- Own text. Package parse: places and errors that are answered (of the model;no program is named here). -/
import Derived.Test.YthfkfbcopinmiaaGreatDoorGk05
set_option linter.unusedVariables false
set_option linter.unusedSimpArgs false
set_option maxHeartbeats 4000000
namespace Go.Proofs.YthfkfbcopinmiaaGreatDoor
open Go.RowKit
def Bd {α : Type} (L : List Tok) (r : Rs α) : Prop:=match r with
 | .ok _ b=>b ≤ L.length
 | .bad p e=>p ≤ L.length∧(e=60 ∨ e=2 ∨ e=0)
variable {L : List Tok}
theorem Bd.bad60 {α : Type} {p : Nat} (h : p ≤ L.length) : Bd L (.bad p 60 : Rs α):=⟨h,.inl rfl⟩
theorem Bd.bad0 {α : Type} {p : Nat} (h : p ≤ L.length) : Bd L (.bad p 0 : Rs α):=⟨h,.inr (.inr rfl)⟩
theorem Bd.ok {α : Type} {v : α} {b : Nat} (h : b ≤ L.length) : Bd L (.ok v b):=h
theorem Bd.bind {α β : Type} {r : Rs α} {f : α→Nat→Rs β} (hr : Bd L r) (hf : ∀ u a1,a1 ≤ L.length→Bd L (f u a1)) : Bd L (r.bind f):=by
 cases r with
 | ok u a1=>exact hf u a1 hr
 | bad p e=>exact hr
theorem Bd.iteS {α : Type} {a : Nat} {s : ByteArray} {x y : Rs α} (hx : a < L.length→Bd L x) (hy : Bd L y) : Bd L (if isS L a s=true then x else y):=by
 split
 ·rename_i h;exact hx (isS_lt h)
 ·exact hy
theorem Bd.iteW {α : Type} {a : Nat} {s : ByteArray} {x y : Rs α} (hx : a < L.length→Bd L x) (hy : Bd L y) : Bd L (if isWd L a s=true then x else y):=by
 split
 ·rename_i h;exact hx (isWd_lt h)
 ·exact hy
theorem Bd.iteN {α : Type} {a : Nat} {x y : Rs α} (hx : a < L.length→Bd L x) (hy : Bd L y) : Bd L (if isN L a=true then x else y):=by
 split
 ·rename_i h;exact hx (isN_lt h)
 ·exact hy
theorem Bd.iteK {α : Type} {a : Nat} {k : Int} (hk : k ≠ 0) {x y : Rs α} (hx : a < L.length→Bd L x) (hy : Bd L y) : Bd L (if (tokA L a).k=k then x else y):=by
 split
 ·rename_i h;exact hx (kind_lt (by rw [h];exact hk))
 ·exact hy
theorem Bd.ite3 {α : Type} {a : Nat} {s1 s2 : ByteArray} {w : ByteArray} {x y : Rs α} (hx : a < L.length→Bd L x) (hy : Bd L y) : Bd L (if isS L a s1=true ∨ isS L a s2=true ∨ isWd L a w=true then x else y):=by
 split
 ·rename_i h;exact hx (h.elim isS_lt (fun h=>h.elim isS_lt isWd_lt))
 ·exact hy
theorem Bd.iteT {α : Type} {a : Nat} {s2 : ByteArray} {w : ByteArray} {x y : Rs α} (hx : a < L.length→Bd L x) (hy : Bd L y) : Bd L (if isN L a=true ∨ isWd L a s2=true ∨ isWd L a w=true then x else y):=by
 split
 ·rename_i h;exact hx (h.elim isN_lt (fun h=>h.elim isWd_lt isWd_lt))
 ·exact hy
theorem Bd.ite {α : Type} {p : Prop} [Decidable p] {x y : Rs α} (hx : Bd L x) (hy : Bd L y) : Bd L (if p then x else y):=by
 split
 ·exact hx
 ·exact hy
theorem want_bd {a : Nat} {s : ByteArray} (h : a ≤ L.length) : Bd L (wantR L s a):=Bd.iteS (fun q=>Bd.ok (by omega)) (Bd.bad60 h)
theorem id_bd {a : Nat} (h : a ≤ L.length) : Bd L (idR L a):=Bd.iteN (fun q=>Bd.ok (by omega)) (Bd.bad60 h)
theorem prop_bd {a : Nat} (h : a ≤ L.length) : Bd L (propR' L a):=by
 unfold propR'
 split
 ·rename_i q
  have : a < L.length:=q.elim isN_lt (fun q=>kind_lt (by rw [q];decide))
  exact Bd.ok (by omega)
 ·exact Bd.bad60 h
theorem add_bd {a : Nat} {ns : List (List UInt8)} (h : a ≤ L.length) : Bd L (addR L ns a):=Bd.ite (Bd.bad60 h) (Bd.ok h)
theorem begin_bd {a o : Nat} (h : a ≤ L.length) : Bd L (beginR L a o):=Bd.ite (Bd.bad60 h) (Bd.ite ⟨h,.inr (.inl rfl)⟩ (Bd.ok h))
theorem listG_bd {σ : Type} {s : ByteArray} {F : σ→Nat→Rs (Nd × σ)} (hF : ∀ st a,a ≤ L.length→Bd L (F st a)) : ∀ (n : Nat) (acc : List Nd) (st : σ) (a : Nat),a ≤ L.length→Bd L (listG L s F n acc st a)
 | 0,_,_,_,h=>Bd.bad0 h
 | n+1,acc,st,a,h=>by
  rw [listG]
  refine Bd.iteS (fun q=>Bd.ok (by omega)) ?_
  have hf:=hF st a h
  split
  ·rename_i e;rw [e] at hf;exact hf
  ·rename_i x a1 e
   rw [e] at hf
   exact Bd.iteS (fun q=>listG_bd hF n _ _ _ (by omega)) (Bd.iteS (fun q=>listG_bd hF n _ _ _ (by omega)) (Bd.bad60 hf))
theorem listE_bd {s : ByteArray} {E : Nat→Rs Nd} (hE : ∀ a,a ≤ L.length→Bd L (E a)) {a : Nat} (h : a ≤ L.length) : Bd L (listE L E s a):=listG_bd (fun _ a h=>(hE a h).bind (fun _ _ h=>Bd.ok h)) _ _ _ _ h
theorem stmtsG_bd {F : Nat→Rs Nd} (hF : ∀ a,a ≤ L.length→Bd L (F a)) : ∀ (n : Nat) (acc : List Nd) (a : Nat),a ≤ L.length→Bd L (stmtsG L F n acc a)
 | 0,_,_,h=>Bd.bad0 h
 | n+1,acc,a,h=>by
  rw [stmtsG]
  refine Bd.iteS (fun q=>Bd.ok (by omega)) ?_
  have hf:=hF a h
  split
  ·rename_i e;rw [e] at hf;exact hf
  ·rename_i x a1 e
   rw [e] at hf
   exact stmtsG_bd hF n _ _ hf
theorem blockG_bd {F : Nat→Rs Nd} (hF : ∀ a,a ≤ L.length→Bd L (F a)) {a : Nat} (h : a ≤ L.length) : Bd L (blockG L F a):=(want_bd h).bind fun _ _ h1=>(stmtsG_bd hF _ _ _ h1).bind fun _ _ h2=>Bd.ok h2
theorem paramsG_bd {G : Nat→Rs Nd} (hG : ∀ a,a ≤ L.length→Bd L (G a)) {a : Nat} (h : a ≤ L.length) : Bd L (paramsG L G a) :=
 (want_bd h).bind fun _ _ h1=>(listG_bd (fun ns b hb=>(add_bd hb).bind fun _ _ _=>(id_bd hb).bind fun _ _ h2=>(hG _ h2).bind fun _ _ h3=>Bd.ok h3) _ _ _ _ h1).bind fun _ _ h2=>Bd.ok h2
theorem line_lt {a : Nat} (h : lineI (tokA L a) ≠ 0) : a < L.length:=kind_lt (fun e=>h (by unfold lineI;rw [if_neg (by omega)]))
theorem binG_bd {B : Nat→Nat→Rs Nd} (hB : ∀ m a,1 ≤ m→a ≤ L.length→Bd L (B m a)) (m : Nat) (hm : 1 ≤ m) : ∀ (n : Nat) (nd : Nd) (a : Nat),a ≤ L.length→Bd L (binG L B m n nd a)
 | 0,_,_,h=>Bd.bad0 h
 | n+1,nd,a,h=>by
  rw [binG]
  split
  ·exact Bd.ok h
  ·have:=line_lt (L:=L) (a:=a) (by omega)
   exact (hB _ _ (by omega) (by omega)).bind fun _ _ h2=>binG_bd hB m hm n _ _ h2
theorem postG_bd {E : Nat→Rs Nd} (hE : ∀ a,a ≤ L.length→Bd L (E a)) : ∀ (n : Nat) (nd : Nd) (a : Nat),a ≤ L.length→Bd L (postG L E n nd a)
 | 0,_,_,h=>Bd.bad0 h
 | n+1,nd,a,h=>by
  rw [postG]
  exact Bd.iteS (fun q=>(prop_bd (by omega)).bind fun _ _ h2=>postG_bd hE n _ _ h2) (Bd.iteS (fun q=>(hE _ (by omega)).bind fun _ _ h2=>(want_bd h2).bind fun _ _ h3=>postG_bd hE n _ _ h3) (Bd.iteS (fun q=>(listE_bd hE (by omega)).bind fun _ _ h2=>postG_bd hE n _ _ h2) (Bd.ok h)))
theorem unionG_bd {E : Nat→Rs Nd} (hE : ∀ a,a ≤ L.length→Bd L (E a)) : ∀ (n : Nat) (acc : List Nd) (a : Nat),a ≤ L.length→Bd L (unionG L E n acc a)
 | 0,_,_,h=>Bd.bad0 h
 | n+1,acc,a,h=>by
  rw [unionG]
  exact (hE a h).bind fun _ _ h1=>Bd.iteS (fun q=>unionG_bd hE n _ _ (by omega)) (Bd.ok h1)
theorem arrayG_bd : ∀ (n : Nat) (nd : Nd) (a : Nat),a ≤ L.length→Bd L (arrayG L n nd a)
 | 0,_,_,h=>Bd.bad0 h
 | n+1,nd,a,h=>by
  rw [arrayG]
  exact Bd.iteS (fun q=>(want_bd (by omega)).bind fun _ _ h2=>arrayG_bd n _ _ h2) (Bd.ok h)
theorem fieldsG_bd {T : Nat→Rs Nd} (hT : ∀ a,a ≤ L.length→Bd L (T a)) : ∀ (n : Nat) (acc : List Nd) (ns : List (List UInt8)) (a : Nat),a ≤ L.length→Bd L (fieldsG L T n acc ns a)
 | 0,_,_,_,h=>Bd.bad0 h
 | n+1,acc,ns,a,h=>by
  rw [fieldsG]
  exact Bd.iteS (fun q=>Bd.ok (by omega)) ((add_bd h).bind fun _ _ _=>(prop_bd h).bind fun _ _ h1=>(hT _ h1).bind fun _ _ h2=>(want_bd h2).bind fun _ _ h3=>fieldsG_bd hT n _ _ _ h3)
structure BdA (L : List Tok) (f : Nat) : Prop where
 expr' : ∀ (a : Nat) (o : Nat),a ≤ L.length→Bd L (exprF L f a o)
 assign' : ∀ (nd : Nd) (a : Nat) (o : Nat),a ≤ L.length→a < L.length→Bd L (assignF L f nd a o)
 cond' : ∀ (a : Nat) (o : Nat),a ≤ L.length→Bd L (condF L f a o)
 bin' : ∀ (m : Nat) (a : Nat) (o : Nat),1 ≤ m→a ≤ L.length→Bd L (binF L f m a o)
 unary' : ∀ (a : Nat) (o : Nat),a ≤ L.length→Bd L (unaryF L f a o)
 post' : ∀ (a : Nat) (o : Nat),a ≤ L.length→Bd L (postF L f a o)
 prim' : ∀ (a : Nat) (o : Nat),a ≤ L.length→Bd L (primF L f a o)
 wprim' : ∀ (a : Nat) (o : Nat),a ≤ L.length→Bd L (wprimF L f a o)
 sprim' : ∀ (a : Nat) (o : Nat),a ≤ L.length→Bd L (sprimF L f a o)
 prop' : ∀ (a : Nat) (o : Nat),a ≤ L.length→Bd L (propF L f a o)
 arrow' : ∀ (a : Nat) (o : Nat),a ≤ L.length→Bd L (arrowF L f a o)
 abody' : ∀ (a : Nat) (o : Nat),a ≤ L.length→Bd L (abodyF L f a o)
 typeOr' : ∀ (a : Nat) (o : Nat),a ≤ L.length→Bd L (typeOrF L f a o)
 typing' : ∀ (a : Nat) (o : Nat),a ≤ L.length→Bd L (typingF L f a o)
 type' : ∀ (a : Nat) (o : Nat),a ≤ L.length→Bd L (typeF L f a o)
 ptype' : ∀ (a : Nat) (o : Nat),a ≤ L.length→Bd L (ptypeF L f a o)
 rtype' : ∀ (a : Nat) (o : Nat),a ≤ L.length→Bd L (rtypeF L f a o)
 objt' : ∀ (a : Nat) (o : Nat),a ≤ L.length→Bd L (objtF L f a o)
 ftype' : ∀ (a : Nat) (o : Nat),a ≤ L.length→Bd L (ftypeF L f a o)
 blk' : ∀ (a : Nat) (o : Nat),a ≤ L.length→Bd L (blkF L f a o)
 stmt' : ∀ (a : Nat) (o : Nat),a ≤ L.length→Bd L (stmtF L f a o)
 let' : ∀ (q : Int) (a : Nat) (o : Nat),a ≤ L.length→Bd L (letF L f q a o)
 condi' : ∀ (a : Nat) (o : Nat),a ≤ L.length→Bd L (condiF L f a o)
 els' : ∀ (a : Nat) (o : Nat),a ≤ L.length→Bd L (elseF L f a o)
 exprOr' : ∀ (a : Nat) (o : Nat),a ≤ L.length→Bd L (exprOrF L f a o)
 any' : ∀ (a : Nat) (o : Nat),a ≤ L.length→Bd L (anyF L f a o)
theorem bd_all (L : List Tok) : ∀ f,BdA L f:=by
 intro f
 induction f with
 | zero=>constructor <;> (intros;simp [exprF,assignF,condF,binF,unaryF,postF,primF,wprimF,sprimF,propF,arrowF,abodyF,typeOrF,typingF,typeF,ptypeF,rtypeF,objtF,ftypeF,blkF,stmtF,letF,condiF,elseF,exprOrF,anyF];exact Bd.bad0 (by assumption))
 | succ f ih =>
  constructor
  ·intro a o h
   rw [exprF]
   repeat (first
    | exact Bd.ok (by omega)
    | (refine Bd.iteS (fun _=>?_) ?_)
    | (refine Bd.bind (begin_bd (by omega)) ?_;intro _ _ _)
    | (refine Bd.bind (by first | exact ih.assign' _ _ _ (by omega) (by omega) | exact ih.cond' _ _ (by omega)) ?_;intro _ _ _)
    | (first | exact ih.assign' _ _ _ (by omega) (by omega) | exact ih.cond' _ _ (by omega)))
  ·intro nd a o h hlt
   rw [assignF]
   repeat (first
    | exact Bd.bad60 (by omega)
    | exact Bd.ok (by omega)
    | (refine Bd.ite ?_ ?_)
    | (refine Bd.bind (by first | exact ih.expr' _ _ (by omega)) ?_;intro _ _ _)
    | (first | exact ih.expr' _ _ (by omega)))
  ·intro a o h
   rw [condF]
   repeat (first
    | exact Bd.ok (by omega)
    | (refine Bd.iteS (fun _=>?_) ?_)
    | (refine Bd.bind (want_bd (by omega)) ?_;intro _ _ _)
    | (refine Bd.bind (by first | exact ih.expr' _ _ (by omega) | exact ih.bin' _ _ _ (by omega) (by omega)) ?_;intro _ _ _)
    | (first | exact ih.expr' _ _ (by omega) | exact ih.bin' _ _ _ (by omega) (by omega)))
  ·intro m a o hm h
   rw [binF]
   repeat (first
    | exact binG_bd (fun _ _ h1 h=>ih.bin' _ _ _ h1 h) _ (by omega) _ _ _ (by omega)
    | (refine Bd.bind (by first | exact ih.unary' _ _ (by omega)) ?_;intro _ _ _)
    | (first | exact ih.unary' _ _ (by omega)))
  ·intro a o h
   rw [unaryF]
   repeat (first
    | exact Bd.ok (by omega)
    | (refine Bd.ite3 (fun _=>?_) ?_)
    | (refine Bd.bind (begin_bd (by omega)) ?_;intro _ _ _)
    | (refine Bd.bind (by first | exact ih.unary' _ _ (by omega) | exact ih.post' _ _ (by omega)) ?_;intro _ _ _)
    | (first | exact ih.unary' _ _ (by omega) | exact ih.post' _ _ (by omega)))
  ·intro a o h
   rw [postF]
   repeat (first
    | exact postG_bd (fun _ h=>ih.expr' _ _ h) _ _ _ (by omega)
    | (refine Bd.bind (by first | exact ih.prim' _ _ (by omega)) ?_;intro _ _ _)
    | (first | exact ih.prim' _ _ (by omega)))
  ·intro a o h
   rw [primF]
   repeat (first
    | exact Bd.ok (by omega)
    | (refine Bd.iteK (by decide) (fun _=>?_) ?_)
    | (refine Bd.bind (by first | exact ih.wprim' _ _ (by omega) | exact ih.sprim' _ _ (by omega)) ?_;intro _ _ _)
    | (first | exact ih.wprim' _ _ (by omega) | exact ih.sprim' _ _ (by omega)))
  ·intro a o h
   rw [wprimF]
   repeat (first
    | exact Bd.bad60 (by omega)
    | exact Bd.ok (by omega)
    | (refine Bd.iteW (fun _=>?_) ?_)
    | (refine Bd.bind (want_bd (by omega)) ?_;intro _ _ _)
    | (refine Bd.bind (id_bd (by omega)) ?_;intro _ _ _)
    | (refine Bd.bind (listE_bd (fun _ h=>by first | exact ih.expr' _ _ h | exact ih.prop' _ _ h) (by omega)) ?_;intro _ _ _)
    | (refine Bd.bind (paramsG_bd (fun _ h=>by first | exact ih.typeOr' _ _ h | exact ih.typing' _ _ h) (by omega)) ?_;intro _ _ _)
    | (refine Bd.bind (by first | exact ih.typeOr' _ _ (by omega) | exact ih.blk' _ _ (by omega)) ?_;intro _ _ _)
    | (first | exact ih.typeOr' _ _ (by omega) | exact ih.blk' _ _ (by omega)))
  ·intro a o h
   rw [sprimF]
   repeat (first
    | exact Bd.bad60 (by omega)
    | exact Bd.ok (by omega)
    | (refine Bd.iteS (fun _=>?_) ?_)
    | (refine Bd.ite ?_ ?_)
    | (refine Bd.bind (want_bd (by omega)) ?_;intro _ _ _)
    | (refine Bd.bind (listE_bd (fun _ h=>by first | exact ih.expr' _ _ h | exact ih.prop' _ _ h) (by omega)) ?_;intro _ _ _)
    | (refine Bd.bind (by first | exact ih.expr' _ _ (by omega) | exact ih.arrow' _ _ (by omega)) ?_;intro _ _ _)
    | (first | exact ih.expr' _ _ (by omega) | exact ih.arrow' _ _ (by omega)))
  ·intro a o h
   rw [propF]
   repeat (first
    | exact Bd.bad60 (by omega)
    | exact Bd.ok (by omega)
    | (refine Bd.iteS (fun _=>?_) ?_)
    | (refine Bd.iteN (fun _=>?_) ?_)
    | (refine Bd.bind (prop_bd (by omega)) ?_;intro _ _ _)
    | (refine Bd.bind (by first | exact ih.expr' _ _ (by omega)) ?_;intro _ _ _)
    | (first | exact ih.expr' _ _ (by omega)))
  ·intro a o h
   rw [arrowF]
   repeat (first
    | exact Bd.ok (by omega)
    | (refine Bd.bind (want_bd (by omega)) ?_;intro _ _ _)
    | (refine Bd.bind (paramsG_bd (fun _ h=>by first | exact ih.typeOr' _ _ h | exact ih.typing' _ _ h) (by omega)) ?_;intro _ _ _)
    | (refine Bd.bind (by first | exact ih.abody' _ _ (by omega)) ?_;intro _ _ _)
    | (first | exact ih.abody' _ _ (by omega)))
  ·intro a o h
   rw [abodyF]
   repeat (first
    | exact Bd.ok (by omega)
    | (refine Bd.iteS (fun _=>?_) ?_)
    | (refine Bd.bind (by first | exact ih.expr' _ _ (by omega) | exact ih.blk' _ _ (by omega)) ?_;intro _ _ _)
    | (first | exact ih.expr' _ _ (by omega) | exact ih.blk' _ _ (by omega)))
  ·intro a o h
   rw [typeOrF]
   repeat (first
    | exact Bd.ok (by omega)
    | (refine Bd.iteS (fun _=>?_) ?_)
    | (refine Bd.bind (by first | exact ih.typing' _ _ (by omega)) ?_;intro _ _ _)
    | (first | exact ih.typing' _ _ (by omega)))
  ·intro a o h
   rw [typingF]
   repeat (first
    | (refine Bd.bind (want_bd (by omega)) ?_;intro _ _ _)
    | (refine Bd.bind (by first | exact ih.type' _ _ (by omega)) ?_;intro _ _ _)
    | (first | exact ih.type' _ _ (by omega)))
  ·intro a o h
   rw [typeF]
   repeat (first
    | exact Bd.ok (by omega)
    | (refine Bd.bind (begin_bd (by omega)) ?_;intro _ _ _)
    | (refine Bd.bind (unionG_bd (fun _ h=>ih.ptype' _ _ h) _ _ _ (by omega)) ?_;intro _ _ _)
    | (refine Bd.bind (by first | fail) ?_;intro _ _ _)
    | (first | fail))
  ·intro a o h
   rw [ptypeF]
   repeat (first
    | exact arrayG_bd _ _ _ (by omega)
    | (refine Bd.bind (by first | exact ih.rtype' _ _ (by omega)) ?_;intro _ _ _)
    | (first | exact ih.rtype' _ _ (by omega)))
  ·intro a o h
   rw [rtypeF]
   repeat (first
    | exact Bd.bad60 (by omega)
    | exact Bd.ok (by omega)
    | (refine Bd.iteS (fun _=>?_) ?_)
    | (refine Bd.iteT (fun _=>?_) ?_)
    | (refine Bd.ite ?_ ?_)
    | (refine Bd.bind (want_bd (by omega)) ?_;intro _ _ _)
    | (refine Bd.bind (by first | exact ih.type' _ _ (by omega) | exact ih.objt' _ _ (by omega) | exact ih.ftype' _ _ (by omega)) ?_;intro _ _ _)
    | (first | exact ih.type' _ _ (by omega) | exact ih.objt' _ _ (by omega) | exact ih.ftype' _ _ (by omega)))
  ·intro a o h
   rw [objtF]
   repeat (first
    | exact Bd.ok (by omega)
    | (refine Bd.bind (fieldsG_bd (fun _ h=>ih.typing' _ _ h) _ _ _ _ (by omega)) ?_;intro _ _ _)
    | (refine Bd.bind (by first | fail) ?_;intro _ _ _)
    | (first | fail))
  ·intro a o h
   rw [ftypeF]
   repeat (first
    | exact Bd.ok (by omega)
    | (refine Bd.bind (want_bd (by omega)) ?_;intro _ _ _)
    | (refine Bd.bind (paramsG_bd (fun _ h=>by first | exact ih.typeOr' _ _ h | exact ih.typing' _ _ h) (by omega)) ?_;intro _ _ _)
    | (refine Bd.bind (by first | exact ih.type' _ _ (by omega)) ?_;intro _ _ _)
    | (first | exact ih.type' _ _ (by omega)))
  ·intro a o h
   rw [blkF]
   repeat (first
    | exact blockG_bd (fun _ h=>ih.stmt' _ _ h) (by omega)
    | (refine Bd.bind (by first | fail) ?_;intro _ _ _)
    | (first | fail))
  ·intro a o h
   rw [stmtF]
   repeat (first
    | (refine Bd.bind (begin_bd (by omega)) ?_;intro _ _ _)
    | (refine Bd.bind (by first | exact ih.any' _ _ (by omega)) ?_;intro _ _ _)
    | (first | exact ih.any' _ _ (by omega)))
  ·intro q a o h
   rw [letF]
   repeat (first
    | exact Bd.ok (by omega)
    | (refine Bd.bind (want_bd (by omega)) ?_;intro _ _ _)
    | (refine Bd.bind (id_bd (by omega)) ?_;intro _ _ _)
    | (refine Bd.bind (by first | exact ih.expr' _ _ (by omega) | exact ih.typeOr' _ _ (by omega)) ?_;intro _ _ _)
    | (first | exact ih.expr' _ _ (by omega) | exact ih.typeOr' _ _ (by omega)))
  ·intro a o h
   rw [condiF]
   repeat (first
    | exact Bd.ok (by omega)
    | (refine Bd.bind (want_bd (by omega)) ?_;intro _ _ _)
    | (refine Bd.bind (by first | exact ih.expr' _ _ (by omega)) ?_;intro _ _ _)
    | (first | exact ih.expr' _ _ (by omega)))
  ·intro a o h
   rw [elseF]
   repeat (first
    | exact Bd.ok (by omega)
    | (refine Bd.iteW (fun _=>?_) ?_)
    | (refine Bd.bind (by first | exact ih.blk' _ _ (by omega) | exact ih.stmt' _ _ (by omega)) ?_;intro _ _ _)
    | (first | exact ih.blk' _ _ (by omega) | exact ih.stmt' _ _ (by omega)))
  ·intro a o h
   rw [exprOrF]
   repeat (first
    | exact Bd.ok (by omega)
    | (refine Bd.iteS (fun _=>?_) ?_)
    | (refine Bd.bind (by first | exact ih.expr' _ _ (by omega)) ?_;intro _ _ _)
    | (first | exact ih.expr' _ _ (by omega)))
  ·intro a o h
   rw [anyF]
   repeat (first
    | exact Bd.ok (by omega)
    | (refine Bd.iteS (fun _=>?_) ?_)
    | (refine Bd.iteW (fun _=>?_) ?_)
    | (refine Bd.bind (want_bd (by omega)) ?_;intro _ _ _)
    | (refine Bd.bind (id_bd (by omega)) ?_;intro _ _ _)
    | (refine Bd.bind (paramsG_bd (fun _ h=>by first | exact ih.typeOr' _ _ h | exact ih.typing' _ _ h) (by omega)) ?_;intro _ _ _)
    | (refine Bd.bind (by first | exact ih.expr' _ _ (by omega) | exact ih.typeOr' _ _ (by omega) | exact ih.blk' _ _ (by omega) | exact ih.let' _ _ _ (by omega) | exact ih.condi' _ _ (by omega) | exact ih.els' _ _ (by omega) | exact ih.exprOr' _ _ (by omega)) ?_;intro _ _ _)
    | (first | exact ih.expr' _ _ (by omega) | exact ih.typeOr' _ _ (by omega) | exact ih.blk' _ _ (by omega) | exact ih.let' _ _ _ (by omega) | exact ih.condi' _ _ (by omega) | exact ih.els' _ _ (by omega) | exact ih.exprOr' _ _ (by omega)))
end Go.Proofs.YthfkfbcopinmiaaGreatDoor
