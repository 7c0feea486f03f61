/- Own text. Package parse: tokens from a place on are read as they are within all tokens (of the model;no program is named here). -/
import Derived.Test.YthfkfbcopinmiaaGreatDoorGk05
set_option linter.unusedVariables false
set_option linter.unusedSimpArgs false
set_option maxRecDepth 100000
set_option maxHeartbeats 20000000
namespace Go.Proofs.YthfkfbcopinmiaaGreatDoor
open Go.RowKit
def Rs.up {α : Type} (c : Nat) : Rs α→Rs α
 | .ok v b=>.ok v (b+c)
 | .bad p e=>.bad (p+c) e
def Up {α : Type} (c : Nat) (r' r : Rs α) : Prop:=r'=r.up c
theorem Up.ok {α : Type} {c b : Nat} {v : α} : Up c (.ok v (b+c)) (.ok v b):=rfl
theorem Up.bad {α : Type} {c p : Nat} {e : Int} : Up c (.bad (p+c) e : Rs α) (.bad p e):=rfl
theorem Up.bind {α β : Type} {c : Nat} {r' r : Rs α} {f g : α→Nat→Rs β} (hr : Up c r' r) (hf : ∀ v b,Up c (f v (b+c)) (g v b)) : Up c (r'.bind f) (r.bind g):=by
 unfold Up at hr
 subst hr
 cases r with
 | ok v b=>exact hf v b
 | bad p e=>exact rfl
theorem Up.ite {α : Type} {c : Nat} {p p' : Prop} [Decidable p] [Decidable p'] (hp : p'=p) {x y x' y' : Rs α} (hx : Up c x' x) (hy : Up c y' y) : Up c (if p' then x' else y') (if p then x else y):=by
 subst hp
 split
 ·exact hx
 ·exact hy
structure Sh (L M : List Tok) (c : Nat) : Prop where
 len : L.length=M.length+c
 k : ∀ a,(tokA L (a+c)).k=(tokA M a).k
 t : ∀ a,(tokA L (a+c)).t=(tokA M a).t
 n : ∀ a,(tokA L (a+c)).n=(tokA M a).n
variable {L M : List Tok} {c : Nat}
theorem sh_drop (h : c ≤ L.length) : Sh L (L.drop c) c:=by
 have e : ∀ a,tokA L (a+c)=tokA (L.drop c) a:=fun a=>by
  unfold tokA
  rw [List.getElem?_drop,Nat.add_comm]
 exact ⟨by rw [List.length_drop];omega,fun a=>by rw [e],fun a=>by rw [e],fun a=>by rw [e]⟩
theorem isS_up (h : Sh L M c) (a : Nat) (s : ByteArray) : isS L (a+c) s=isS M a s:=by unfold isS;rw [h.k,h.t]
theorem isWd_up (h : Sh L M c) (a : Nat) (s : ByteArray) : isWd L (a+c) s=isWd M a s:=by unfold isWd;rw [h.k,h.t]
theorem isN_up (h : Sh L M c) (a : Nat) : isN L (a+c)=isN M a:=by unfold isN;rw [h.k]
theorem line_up (h : Sh L M c) (a : Nat) : lineI (tokA L (a+c))=lineI (tokA M a):=by unfold lineI;rw [h.k,h.t]
theorem open_up (h : Sh L M c) (a : Nat) : openI (tokA L (a+c))=openI (tokA M a):=by unfold openI;rw [h.k,h.t]
theorem len_up (h : Sh L M c) (a : Nat) : L.length+1 - (a+c)=M.length+1 - a:=by have:=h.len;omega
theorem want_up (h : Sh L M c) (a : Nat) (s : ByteArray) : Up c (wantR L s (a+c)) (wantR M s a):=by
 unfold wantR
 rw [isS_up h,Nat.add_right_comm]
 exact Up.ite rfl Up.ok Up.bad
theorem id_up (h : Sh L M c) (a : Nat) : Up c (idR L (a+c)) (idR M a):=by
 unfold idR
 rw [isN_up h,h.t,Nat.add_right_comm]
 exact Up.ite rfl Up.ok Up.bad
theorem prop_up (h : Sh L M c) (a : Nat) : Up c (propR' L (a+c)) (propR' M a):=by
 unfold propR'
 rw [isN_up h,h.k,h.t,Nat.add_right_comm]
 exact Up.ite rfl Up.ok Up.bad
theorem add_up (h : Sh L M c) (ns : List (List UInt8)) (a : Nat) : Up c (addR L ns (a+c)) (addR M ns a):=by
 unfold addR
 rw [h.t]
 exact Up.ite rfl Up.bad Up.ok
theorem begin_up (h : Sh L M c) (a o : Nat) : Up c (beginR L (a+c) o) (beginR M a o):=by
 unfold beginR
 exact Up.ite (by have:=h.len;rw [eq_iff_iff];omega) Up.bad (Up.ite rfl Up.bad Up.ok)
theorem tok_get {N : List Tok} {i : Nat} (hi : i < N.length) : tokA N i=N[i]:=by simp [tokA,hi]
theorem arrL_up (h : Sh L M c) : ∀ (m i : Nat) (d : Int),M.length ≤ i+m→arrL L (L.drop (i+c)) (i+c) d=arrL M (M.drop i) i d:=by
 intro m
 induction m with
 | zero =>
  intro i d hm
  have:=h.len
  rw [List.drop_eq_nil_of_le (by omega),List.drop_eq_nil_of_le (by omega)]
  rfl
 | succ m ih =>
  intro i d hm
  have hl:=h.len
  by_cases hi : i < M.length
  ·have hi' : i+c < L.length:=by omega
   rw [List.drop_eq_getElem_cons hi',List.drop_eq_getElem_cons hi,arrL,arrL,← tok_get hi',← tok_get hi,open_up h,Nat.add_right_comm,isS_up h,ih (i+1) _ (by omega)]
  ·rw [List.drop_eq_nil_of_le (by omega),List.drop_eq_nil_of_le (by omega)]
   rfl
theorem arrow_up (h : Sh L M c) (a : Nat) : arrow L (a+c)=arrow M a:=arrL_up h M.length a 0 (by omega)
theorem listG_up (h : Sh L M c) {σ : Type} {s : ByteArray} {F F' : σ→Nat→Rs (Nd × σ)} (hF : ∀ st a,Up c (F' st (a+c)) (F st a)) : ∀ (n : Nat) (acc : List Nd) (st : σ) (a : Nat),Up c (listG L s F' n acc st (a+c)) (listG M s F n acc st a)
 | 0,_,_,_=>Up.bad
 | n+1,acc,st,a=>by
  rw [listG,listG,isS_up h,Nat.add_right_comm]
  refine Up.ite rfl Up.ok ?_
  have hf:=hF st a
  unfold Up at hf
  rw [hf]
  cases e : F st a with
  | bad p er=>exact rfl
  | ok x a1 =>
   show Up c (if isS L (a1+c) s=true then _ else if isS L (a1+c) sCm=true then _ else _) _
   rw [isS_up h,isS_up h,Nat.add_right_comm a1 c 1]
   exact Up.ite rfl (listG_up h hF n _ _ _) (Up.ite rfl (listG_up h hF n _ _ _) Up.bad)
theorem listE_up (h : Sh L M c) {s : ByteArray} {E E' : Nat→Rs Nd} (hE : ∀ a,Up c (E' (a+c)) (E a)) (a : Nat) : Up c (listE L E' s (a+c)) (listE M E s a):=by
 unfold listE
 rw [len_up h]
 exact listG_up h (fun _ a=>(hE a).bind (fun _ _=>Up.ok)) _ _ _ _
theorem stmtsG_up (h : Sh L M c) {F F' : Nat→Rs Nd} (hF : ∀ a,Up c (F' (a+c)) (F a)) : ∀ (n : Nat) (acc : List Nd) (a : Nat),Up c (stmtsG L F' n acc (a+c)) (stmtsG M F n acc a)
 | 0,_,_=>Up.bad
 | n+1,acc,a=>by
  rw [stmtsG,stmtsG,isS_up h,Nat.add_right_comm]
  refine Up.ite rfl Up.ok ?_
  have hf:=hF a
  unfold Up at hf
  rw [hf]
  cases e : F a with
  | bad p er=>exact rfl
  | ok x a1=>exact stmtsG_up h hF n _ _
theorem blockG_up (h : Sh L M c) {F F' : Nat→Rs Nd} (hF : ∀ a,Up c (F' (a+c)) (F a)) (a : Nat) : Up c (blockG L F' (a+c)) (blockG M F a):=by
 unfold blockG
 refine (want_up h a _).bind fun _ b=>?_
 rw [len_up h]
 exact (stmtsG_up h hF _ _ _).bind fun _ _=>Up.ok
theorem paramsG_up (h : Sh L M c) {G G' : Nat→Rs Nd} (hG : ∀ a,Up c (G' (a+c)) (G a)) (a : Nat) : Up c (paramsG L G' (a+c)) (paramsG M G a):=by
 unfold paramsG
 refine (want_up h a _).bind fun _ b=>?_
 rw [len_up h]
 refine (listG_up h (fun ns b=>?_) _ _ _ _).bind fun _ _=>Up.ok
 exact (add_up h ns b).bind fun _ _=>(id_up h b).bind fun _ _=>(hG _).bind fun _ _=>Up.ok
theorem binG_up (h : Sh L M c) {B B' : Nat→Nat→Rs Nd} (hB : ∀ m a,Up c (B' m (a+c)) (B m a)) (m : Nat) : ∀ (n : Nat) (nd : Nd) (a : Nat),Up c (binG L B' m n nd (a+c)) (binG M B m n nd a)
 | 0,_,_=>Up.bad
 | n+1,nd,a=>by
  rw [binG,binG,line_up h,h.t,Nat.add_right_comm]
  exact Up.ite rfl Up.ok ((hB _ _).bind fun _ _=>binG_up h hB m n _ _)
theorem postG_up (h : Sh L M c) {E E' : Nat→Rs Nd} (hE : ∀ a,Up c (E' (a+c)) (E a)) : ∀ (n : Nat) (nd : Nd) (a : Nat),Up c (postG L E' n nd (a+c)) (postG M E n nd a)
 | 0,_,_=>Up.bad
 | n+1,nd,a=>by
  rw [postG,postG,isS_up h,isS_up h,isS_up h,Nat.add_right_comm]
  exact Up.ite rfl ((prop_up h _).bind fun _ _=>postG_up h hE n _ _) (Up.ite rfl ((hE _).bind fun _ _=>(want_up h _ _).bind fun _ _=>postG_up h hE n _ _) (Up.ite rfl ((listE_up h hE _).bind fun _ _=>postG_up h hE n _ _) Up.ok))
theorem unionG_up (h : Sh L M c) {E E' : Nat→Rs Nd} (hE : ∀ a,Up c (E' (a+c)) (E a)) : ∀ (n : Nat) (acc : List Nd) (a : Nat),Up c (unionG L E' n acc (a+c)) (unionG M E n acc a)
 | 0,_,_=>Up.bad
 | n+1,acc,a=>by
  rw [unionG,unionG]
  refine (hE a).bind fun x a1=>?_
  rw [isS_up h,Nat.add_right_comm]
  exact Up.ite rfl (unionG_up h hE n _ _) Up.ok
theorem arrayG_up (h : Sh L M c) : ∀ (n : Nat) (nd : Nd) (a : Nat),Up c (arrayG L n nd (a+c)) (arrayG M n nd a)
 | 0,_,_=>Up.bad
 | n+1,nd,a=>by
  rw [arrayG,arrayG,isS_up h,Nat.add_right_comm]
  exact Up.ite rfl ((want_up h _ _).bind fun _ _=>arrayG_up h n _ _) Up.ok
theorem fieldsG_up (h : Sh L M c) {T T' : Nat→Rs Nd} (hT : ∀ a,Up c (T' (a+c)) (T a)) : ∀ (n : Nat) (acc : List Nd) (ns : List (List UInt8)) (a : Nat),Up c (fieldsG L T' n acc ns (a+c)) (fieldsG M T n acc ns a)
 | 0,_,_,_=>Up.bad
 | n+1,acc,ns,a=>by
  rw [fieldsG,fieldsG,isS_up h,Nat.add_right_comm]
  exact Up.ite rfl Up.ok ((add_up h _ _).bind fun _ _=>(prop_up h _).bind fun _ _=>(hT _).bind fun _ _=>(want_up h _ _).bind fun _ _=>fieldsG_up h hT n _ _ _)
structure UpA (L M : List Tok) (c f : Nat) : Prop where
 expr' : ∀ (a : Nat) (o : Nat),Up c (exprF L f (a+c) o) (exprF M f a o)
 assign' : ∀ (nd : Nd) (a : Nat) (o : Nat),Up c (assignF L f nd (a+c) o) (assignF M f nd a o)
 cond' : ∀ (a : Nat) (o : Nat),Up c (condF L f (a+c) o) (condF M f a o)
 bin' : ∀ (m : Nat) (a : Nat) (o : Nat),Up c (binF L f m (a+c) o) (binF M f m a o)
 unary' : ∀ (a : Nat) (o : Nat),Up c (unaryF L f (a+c) o) (unaryF M f a o)
 post' : ∀ (a : Nat) (o : Nat),Up c (postF L f (a+c) o) (postF M f a o)
 prim' : ∀ (a : Nat) (o : Nat),Up c (primF L f (a+c) o) (primF M f a o)
 wprim' : ∀ (a : Nat) (o : Nat),Up c (wprimF L f (a+c) o) (wprimF M f a o)
 sprim' : ∀ (a : Nat) (o : Nat),Up c (sprimF L f (a+c) o) (sprimF M f a o)
 prop' : ∀ (a : Nat) (o : Nat),Up c (propF L f (a+c) o) (propF M f a o)
 arrow' : ∀ (a : Nat) (o : Nat),Up c (arrowF L f (a+c) o) (arrowF M f a o)
 abody' : ∀ (a : Nat) (o : Nat),Up c (abodyF L f (a+c) o) (abodyF M f a o)
 typeOr' : ∀ (a : Nat) (o : Nat),Up c (typeOrF L f (a+c) o) (typeOrF M f a o)
 typing' : ∀ (a : Nat) (o : Nat),Up c (typingF L f (a+c) o) (typingF M f a o)
 type' : ∀ (a : Nat) (o : Nat),Up c (typeF L f (a+c) o) (typeF M f a o)
 ptype' : ∀ (a : Nat) (o : Nat),Up c (ptypeF L f (a+c) o) (ptypeF M f a o)
 rtype' : ∀ (a : Nat) (o : Nat),Up c (rtypeF L f (a+c) o) (rtypeF M f a o)
 objt' : ∀ (a : Nat) (o : Nat),Up c (objtF L f (a+c) o) (objtF M f a o)
 ftype' : ∀ (a : Nat) (o : Nat),Up c (ftypeF L f (a+c) o) (ftypeF M f a o)
 blk' : ∀ (a : Nat) (o : Nat),Up c (blkF L f (a+c) o) (blkF M f a o)
 stmt' : ∀ (a : Nat) (o : Nat),Up c (stmtF L f (a+c) o) (stmtF M f a o)
 let' : ∀ (q : Int) (a : Nat) (o : Nat),Up c (letF L f q (a+c) o) (letF M f q a o)
 condi' : ∀ (a : Nat) (o : Nat),Up c (condiF L f (a+c) o) (condiF M f a o)
 els' : ∀ (a : Nat) (o : Nat),Up c (elseF L f (a+c) o) (elseF M f a o)
 exprOr' : ∀ (a : Nat) (o : Nat),Up c (exprOrF L f (a+c) o) (exprOrF M f a o)
 any' : ∀ (a : Nat) (o : Nat),Up c (anyF L f (a+c) o) (anyF M f a o)
theorem up_all (h : Sh L M c) : ∀ f,UpA L M c f:=by
 intro f
 induction f with
 | zero=>constructor <;> (intros;simp [exprF,assignF,condF,binF,unaryF,postF,primF,wprimF,sprimF,propF,arrowF,abodyF,typeOrF,typingF,typeF,ptypeF,rtypeF,objtF,ftypeF,blkF,stmtF,letF,condiF,elseF,exprOrF,anyF];exact Up.bad)
 | succ f ih =>
  constructor
  all_goals
   first
    | (intro a o;first | rw [exprF,exprF] | rw [condF,condF] | rw [unaryF,unaryF] | rw [postF,postF] | rw [primF,primF] | rw [wprimF,wprimF] | rw [sprimF,sprimF] | rw [propF,propF] | rw [arrowF,arrowF] | rw [abodyF,abodyF] | rw [typeOrF,typeOrF] | rw [typingF,typingF] | rw [typeF,typeF] | rw [ptypeF,ptypeF] | rw [rtypeF,rtypeF] | rw [objtF,objtF] | rw [ftypeF,ftypeF] | rw [blkF,blkF] | rw [stmtF,stmtF] | rw [condiF,condiF] | rw [elseF,elseF] | rw [exprOrF,exprOrF] | rw [anyF,anyF])
    | (intro nd a o;first | rw [assignF,assignF])
    | (intro m a o;first | rw [binF,binF])
    | (intro q a o;first | rw [letF,letF])
   try simp only [Nat.add_right_comm _ c 1]
   repeat (first
    | exact Up.ok
    | exact Up.bad
    | (with_reducible refine Up.ite (by first | rfl | simp only [isS_up h,isWd_up h,isN_up h,h.k,arrow_up h]) ?_ ?_)
    | (with_reducible refine Up.bind (begin_up h _ _) ?_;intro _ _;(try simp only [Nat.add_right_comm _ c 1]))
    | (with_reducible refine Up.bind (want_up h _ _) ?_;intro _ _;(try simp only [Nat.add_right_comm _ c 1]))
    | (with_reducible refine Up.bind (id_up h _) ?_;intro _ _;(try simp only [Nat.add_right_comm _ c 1]))
    | (with_reducible refine Up.bind (prop_up h _) ?_;intro _ _;(try simp only [Nat.add_right_comm _ c 1]))
    | (with_reducible refine Up.bind (listE_up h ?_ _) ?_;(focus (intro _;first | (with_reducible exact ih.expr' _ _) | (with_reducible exact ih.prop' _ _)));intro _ _;(try simp only [Nat.add_right_comm _ c 1]))
    | (with_reducible refine Up.bind (paramsG_up h ?_ _) ?_;(focus (intro _;first | (with_reducible exact ih.typeOr' _ _) | (with_reducible exact ih.typing' _ _)));intro _ _;(try simp only [Nat.add_right_comm _ c 1]))
    | (rw [len_up h];with_reducible refine Up.bind (unionG_up h ?_ _ _ _) ?_;(focus (intro _;exact ih.ptype' _ _));intro _ _;(try simp only [Nat.add_right_comm _ c 1]))
    | (rw [len_up h];with_reducible refine Up.bind (fieldsG_up h ?_ _ _ _ _) ?_;(focus (intro _;exact ih.typing' _ _));intro _ _;(try simp only [Nat.add_right_comm _ c 1]))
    | (with_reducible refine blockG_up h ?_ _;(focus (intro _;exact ih.stmt' _ _)))
    | (rw [len_up h];with_reducible refine binG_up h ?_ _ _ _ _;(focus (intro _ _;exact ih.bin' _ _ _)))
    | (rw [len_up h];with_reducible refine postG_up h ?_ _ _ _;(focus (intro _;exact ih.expr' _ _)))
    | (rw [len_up h];with_reducible exact arrayG_up h _ _ _)
    | (with_reducible refine Up.bind (ih.cond' _ _) ?_;intro _ _;(try simp only [Nat.add_right_comm _ c 1]))
    | (with_reducible exact ih.cond' _ _)
    | (with_reducible refine Up.bind (ih.assign' _ _ _) ?_;intro _ _;(try simp only [Nat.add_right_comm _ c 1]))
    | (with_reducible exact ih.assign' _ _ _)
    | (with_reducible refine Up.bind (ih.bin' _ _ _) ?_;intro _ _;(try simp only [Nat.add_right_comm _ c 1]))
    | (with_reducible exact ih.bin' _ _ _)
    | (with_reducible refine Up.bind (ih.unary' _ _) ?_;intro _ _;(try simp only [Nat.add_right_comm _ c 1]))
    | (with_reducible exact ih.unary' _ _)
    | (with_reducible refine Up.bind (ih.post' _ _) ?_;intro _ _;(try simp only [Nat.add_right_comm _ c 1]))
    | (with_reducible exact ih.post' _ _)
    | (with_reducible refine Up.bind (ih.prim' _ _) ?_;intro _ _;(try simp only [Nat.add_right_comm _ c 1]))
    | (with_reducible exact ih.prim' _ _)
    | (with_reducible refine Up.bind (ih.wprim' _ _) ?_;intro _ _;(try simp only [Nat.add_right_comm _ c 1]))
    | (with_reducible exact ih.wprim' _ _)
    | (with_reducible refine Up.bind (ih.sprim' _ _) ?_;intro _ _;(try simp only [Nat.add_right_comm _ c 1]))
    | (with_reducible exact ih.sprim' _ _)
    | (with_reducible refine Up.bind (ih.arrow' _ _) ?_;intro _ _;(try simp only [Nat.add_right_comm _ c 1]))
    | (with_reducible exact ih.arrow' _ _)
    | (with_reducible refine Up.bind (ih.abody' _ _) ?_;intro _ _;(try simp only [Nat.add_right_comm _ c 1]))
    | (with_reducible exact ih.abody' _ _)
    | (with_reducible refine Up.bind (ih.typing' _ _) ?_;intro _ _;(try simp only [Nat.add_right_comm _ c 1]))
    | (with_reducible exact ih.typing' _ _)
    | (with_reducible refine Up.bind (ih.rtype' _ _) ?_;intro _ _;(try simp only [Nat.add_right_comm _ c 1]))
    | (with_reducible exact ih.rtype' _ _)
    | (with_reducible refine Up.bind (ih.objt' _ _) ?_;intro _ _;(try simp only [Nat.add_right_comm _ c 1]))
    | (with_reducible exact ih.objt' _ _)
    | (with_reducible refine Up.bind (ih.ftype' _ _) ?_;intro _ _;(try simp only [Nat.add_right_comm _ c 1]))
    | (with_reducible exact ih.ftype' _ _)
    | (with_reducible refine Up.bind (ih.type' _ _) ?_;intro _ _;(try simp only [Nat.add_right_comm _ c 1]))
    | (with_reducible exact ih.type' _ _)
    | (with_reducible refine Up.bind (ih.any' _ _) ?_;intro _ _;(try simp only [Nat.add_right_comm _ c 1]))
    | (with_reducible exact ih.any' _ _)
    | (with_reducible refine Up.bind (ih.stmt' _ _) ?_;intro _ _;(try simp only [Nat.add_right_comm _ c 1]))
    | (with_reducible exact ih.stmt' _ _)
    | (with_reducible refine Up.bind (ih.let' _ _ _) ?_;intro _ _;(try simp only [Nat.add_right_comm _ c 1]))
    | (with_reducible exact ih.let' _ _ _)
    | (with_reducible refine Up.bind (ih.typeOr' _ _) ?_;intro _ _;(try simp only [Nat.add_right_comm _ c 1]))
    | (with_reducible exact ih.typeOr' _ _)
    | (with_reducible refine Up.bind (ih.blk' _ _) ?_;intro _ _;(try simp only [Nat.add_right_comm _ c 1]))
    | (with_reducible exact ih.blk' _ _)
    | (with_reducible refine Up.bind (ih.condi' _ _) ?_;intro _ _;(try simp only [Nat.add_right_comm _ c 1]))
    | (with_reducible exact ih.condi' _ _)
    | (with_reducible refine Up.bind (ih.els' _ _) ?_;intro _ _;(try simp only [Nat.add_right_comm _ c 1]))
    | (with_reducible exact ih.els' _ _)
    | (with_reducible refine Up.bind (ih.exprOr' _ _) ?_;intro _ _;(try simp only [Nat.add_right_comm _ c 1]))
    | (with_reducible exact ih.exprOr' _ _)
    | (with_reducible refine Up.bind (ih.expr' _ _) ?_;intro _ _;(try simp only [Nat.add_right_comm _ c 1]))
    | (with_reducible exact ih.expr' _ _)
    | (simp only [h.t,h.n];exact Up.ok)
    | (simp only [h.t,h.n];fail_if_success (exact Up.ok)))
end Go.Proofs.YthfkfbcopinmiaaGreatDoor
