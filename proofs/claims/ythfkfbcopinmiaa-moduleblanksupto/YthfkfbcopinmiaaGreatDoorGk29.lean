/- Own text. Package module: a fault lies within the tokens,and it is one (of the model;no program is named here). Package parse: a tree has at most two trees a token (of the model;no program is named here). Package module: whether a tree is too deep. Package module: the byte at which a token begins. -/
import Derived.Test.YthfkfbcopinmiaaGreatDoorGk06
import Derived.Test.YthfkfbcopinmiaaGreatDoorGk09
import Derived.Test.YthfkfbcopinmiaaGreatDoorGk05
import Derived.Test.YthfkfbcopinmiaaGreatDoorGk01
import Derived.Deep.LoopGhost
import Derived.Test.YthfkfbcopinmiaaGreatDoorGk10
set_option linter.unusedVariables false
set_option linter.unusedSimpArgs false
namespace Go.Proofs.YthfkfbcopinmiaaGreatDoor
open Go.RowKit
variable {L : List Tok}
def Bq {α : Type} (L : List Tok) (c : Nat) (r : Rs α) : Prop:=match r with
 | .ok _ b=>c ≤ b∧b ≤ L.length
 | .bad p e=>p ≤ L.length∧e ≠ 0
theorem Bq.of {α : Type} {c : Nat} {r : Rs α} (h : Bd L r) (g : Gd L c r) : Bq L c r:=by
 cases r with
 | ok x b=>exact g.2 x b rfl
 | bad p e=>exact ⟨h.1,fun q=>g.1 p (by rw [q])⟩
theorem Bq.bad {α : Type} {c p : Nat} (h : p ≤ L.length) : Bq L c (.bad p 60 : Rs α):=⟨h,by decide⟩
theorem Bq.ok {α : Type} {c b : Nat} {v : α} (h1 : c ≤ b) (h2 : b ≤ L.length) : Bq L c (.ok v b):=⟨h1,h2⟩
theorem Bq.weak {α : Type} {c d : Nat} {r : Rs α} (h : Bq L d r) (hc : c ≤ d) : Bq L c r:=by
 cases r with
 | ok x b=>exact ⟨Nat.le_trans hc h.1,h.2⟩
 | bad p e=>exact h
theorem Bq.bind {α β : Type} {c d : Nat} {r : Rs α} {f : α→Nat→Rs β} (hr : Bq L d r) (hf : ∀ u a1,d ≤ a1→a1 ≤ L.length→Bq L c (f u a1)) : Bq L c (r.bind f):=by
 cases r with
 | ok u a1=>exact hf u a1 hr.1 hr.2
 | bad p e=>exact hr
theorem Bq.ite {α : Type} {c : Nat} {p : Prop} [Decidable p] {x y : Rs α} (hx : p→Bq L c x) (hy : ¬ p→Bq L c y) : Bq L c (if p then x else y):=by
 split
 ·rename_i h;exact hx h
 ·rename_i h;exact hy h
theorem Bq.gd {α : Type} {c : Nat} {r : Rs α} (h : Bq L c r) : Gd L c r:=by
 cases r with
 | ok x b=>exact Gd.ok h.1 h.2
 | bad p e=>exact Gd.bad h.2
theorem want_q {a : Nat} {s : ByteArray} (h : a ≤ L.length) : Bq L (a+1) (wantR L s a):=.of (want_bd h) want_gd
theorem id_q {a : Nat} (h : a ≤ L.length) : Bq L (a+1) (idR L a):=.of (id_bd h) id_gd
theorem prop_q {a : Nat} (h : a ≤ L.length) : Bq L (a+1) (propR' L a):=.of (prop_bd h) prop_gd
theorem add_q {a : Nat} {ns : List (List UInt8)} (h : a ≤ L.length) : Bq L a (addR L ns a):=.of (add_bd h) (add_gd h)
theorem expr_q {a : Nat} (h : a ≤ L.length) : Bq L (a+1) (exprM L a):=.of ((bd_all L _).expr' a 0 h) ((gd_all L _).expr' a 0 h (fuel_ok L a 0 20 (by omega)))
theorem type_q {a : Nat} (h : a ≤ L.length) : Bq L (a+1) (typeM L a):=.of ((bd_all L _).type' a 0 h) ((gd_all L _).type' a 0 h (fuel_ok L a 0 20 (by omega)))
theorem stmt_q {a : Nat} (h : a ≤ L.length) : Bq L (a+1) (stmtM L a):=.of ((bd_all L _).stmt' a 0 h) ((gd_all L _).stmt' a 0 h (fuel_ok L a 0 20 (by omega)))
theorem Bq.bd {α : Type} {c : Nat} {r : Rs α} (h : Bq L c r) (he : ∀ p e,r = .bad p e→e=60 ∨ e=2) : Bd L r:=by
 cases r with
 | ok x b=>exact h.2
 | bad p e=>exact ⟨h.1,(he p e rfl).elim .inl (fun q=>.inr (.inl q))⟩
theorem to_q {a : Nat} (h : a ≤ L.length) : Bq L a (toM L a):=Bq.ite (fun q=>(type_q (isS_lt q)).weak (by omega)) (fun _=>.ok (Nat.le_refl _) h)
theorem to_bd (a : Nat) (h : a ≤ L.length) : Bd L (toM L a):=Bd.iteS (fun q=>(bd_all L _).type' (a+1) 0 q) (Bd.ok h)
theorem end_q {n : Nd} {a : Nat} (h : a ≤ L.length) : Bq L (a+1) (endM L n a):=(want_q h).bind fun _ _ h1 h2=>.ok h1 h2
theorem params_q {a : Nat} (h : a ≤ L.length) : Bq L (a+1) (paramsG L (toM L) a):=.of (paramsG_bd to_bd h) (paramsG_gd fun a' _ h'=>(to_q h').gd)
theorem block_q {a : Nat} (h : a ≤ L.length) : Bq L (a+1) (blockG L (stmtM L) a):=.of (blockG_bd (fun a' h'=>(bd_all L _).stmt' a' 0 h') h) (blockG_gd fun a' _ h'=>(stmt_q h').gd)
theorem nm_q {a : Nat} {s : ByteArray} (h : a ≤ L.length) : Bq L (a+1) (nameM L s a):=Bq.ite (fun q=>.ok (Nat.le_refl _) (isNm_lt q)) (fun _=>.bad h)
theorem req_q {a : Nat} (h : a ≤ L.length) : Bq L (a+1) (requestM L a):=Bq.ite (fun q=>.ok (Nat.le_refl _) (kind_lt (by rw [q];decide))) (fun _=>.bad h)
theorem reqd_q {a : Nat} (h : a ≤ L.length) : Bq L (a+1) (requestedM L a):=Bq.ite (fun _=>.bad h) (fun _=>req_q h)
theorem alias_q {a : Nat} (h : a < L.length) : Bq L (a+1) (aliasM L a):=(id_q h).bind fun _ _ h1 l1=>(want_q l1).bind fun _ _ h2 l2=>(type_q l2).bind fun _ _ h3 l3=>(end_q l3).weak (by omega)
theorem ctor_q {m : Mem} {a : Nat} (h : a < L.length) : Bq L (a+1) (ctorM L m a):=Bq.ite (fun _=>(params_q h).bind fun _ _ h1 l1=>(block_q l1).bind fun _ _ h2 l2=>.ok (by omega) l2) (fun _=>.bad (by omega))
theorem method_q {m : Mem} {t : ByteArray} {a : Nat} (h : a ≤ L.length) : Bq L (a+1) (methodM L m t a):=(params_q h).bind fun _ _ h1 l1=>(to_q l1).bind fun _ _ h2 l2=>(block_q l2).bind fun _ _ h3 l3=>.ok (by omega) l3
theorem field_q {m : Mem} {t : ByteArray} {a : Nat} (h : a ≤ L.length) : Bq L (a+1) (fieldM L m t a):=(to_q h).bind fun _ _ h1 l1=>(want_q l1).bind fun _ _ h2 l2=>(expr_q l2).bind fun _ _ h3 l3=>(want_q l3).bind fun _ _ h4 l4=>.ok (by omega) l4
theorem member_q {m : Mem} {a : Nat} (h : a ≤ L.length) : Bq L (a+1) (memberM L m a):=Bq.ite (fun q=>ctor_q (isNm_lt q.1)) (fun _=>(add_q h).bind fun _ _ _ _=>(prop_q h).bind fun _ _ h1 l1=>Bq.ite (fun _=>(method_q l1).weak (by omega)) (fun _=>(field_q l1).weak (by omega)))
theorem members_q : ∀ (n : Nat) (m : Mem) (a : Nat),a ≤ L.length→L.length+1 ≤ n+a→Bq L (a+1) (membersM L n m a)
 | 0,_,_,h,hn=>by omega
 | n+1,m,a,h,hn=>by
  rw [membersM]
  exact Bq.ite (fun q=>.ok (Nat.le_refl _) (isS_lt q)) (fun _=>(member_q h).bind fun m1 a1 h1 l1=>(members_q n m1 a1 l1 (by omega)).weak (by omega))
theorem class_q {a : Nat} (h : a < L.length) : Bq L (a+1) (classM L a):=(id_q h).bind fun _ _ h1 l1=>(want_q l1).bind fun _ a2 h2 l2=>(members_q _ _ _ l2 (by omega)).bind fun _ _ h3 l3=>.ok (by omega) l3
theorem star_q {a : Nat} (h : a < L.length) : Bq L (a+1) (starM L a):=(nm_q h).bind fun _ _ h1 l1=>(id_q l1).bind fun _ _ h2 l2=>.ok (by omega) l2
theorem importOne_q {a : Nat} (h : a ≤ L.length) : Bq L (a+1) (importOneM L a):=(prop_q h).bind fun _ a1 h1 l1=>Bq.ite (fun q=>(id_q (isNm_lt q)).bind fun _ _ h2 l2=>.ok (by omega) l2) (fun _=>Bq.ite (fun _=>.ok h1 l1) (fun _=>.bad l1))
theorem listG_q {σ : Type} {s : ByteArray} {F : σ→Nat→Rs (Nd × σ)} (hF : ∀ st a,a ≤ L.length→Bq L (a+1) (F st a)) : ∀ (n : Nat) (acc : List Nd) (st : σ) (a : Nat),a ≤ L.length→L.length+1 ≤ n+a→Bq L (a+1) (listG L s F n acc st a)
 | 0,_,_,_,h,hn=>by omega
 | n+1,acc,st,a,h,hn=>by
  rw [listG]
  refine Bq.ite (fun q=>.ok (Nat.le_refl _) (isS_lt q)) fun _=>?_
  have hf:=hF st a h
  cases e : F st a with
  | bad p er=>rw [e] at hf;exact hf
  | ok x a1 =>
   rw [e] at hf
   have h1 : a+1 ≤ a1:=hf.1
   have h2 : a1 ≤ L.length:=hf.2
   refine Bq.ite (fun q=>(listG_q hF n _ _ _ h2 (by omega)).weak (by omega)) fun _=>Bq.ite (fun q=>(listG_q hF n _ _ _ (isS_lt q) (by omega)).weak (by omega)) fun _=>.bad h2
theorem listE_q {s : ByteArray} {E : Nat→Rs Nd} (hE : ∀ a,a ≤ L.length→Bq L (a+1) (E a)) {a : Nat} (h : a ≤ L.length) : Bq L (a+1) (listE L E s a):=listG_q (fun _ a h=>(hE a h).bind fun _ _ h1 h2=>.ok h1 h2) _ _ _ _ h (by omega)
theorem clauseRest_q {ty : Bool} {acc : List Nd} {a : Nat} (h : a ≤ L.length) : Bq L (a+1) (clauseRestM L ty acc a) :=
 Bq.ite (fun q=>(star_q (isS_lt q.2)).bind fun _ _ h1 l1=>.ok h1 l1) (fun _=>(want_q h).bind fun _ _ h1 l1=>Bq.ite (fun _=>.bad l1) (fun _=>(listE_q (fun a h=>importOne_q h) l1).bind fun _ _ h2 l2=>.ok (by omega) l2))
theorem clause_q {ty : Bool} {a : Nat} (h : a ≤ L.length) : Bq L (a+1) (clauseM L ty a) :=
 Bq.ite (fun q=>Bq.ite (fun r=>(clauseRest_q (isS_lt r)).weak (by omega)) (fun _=>.ok (Nat.le_refl _) (isN_lt q))) (fun _=>clauseRest_q h)
theorem import_q {a : Nat} (h : a < L.length) : Bq L (a+1) (importM L a) :=
 Bq.ite (fun _=>(req_q h).bind fun _ _ h1 l1=>(end_q l1).weak (by omega)) (fun _=>by
  have ht : a+1+(typesAloneM L (a+1)).toNat ≤ L.length:=by
   cases q : typesAloneM L (a+1) with
   | false=>exact h
   | true =>
    unfold typesAloneM at q
    have:=isNm_lt (Bool.and_eq_true_iff.1 q).1
    exact this
  exact (clause_q ht).bind fun _ _ h1 l1=>(nm_q l1).bind fun _ _ h2 l2=>(req_q l2).bind fun _ _ h3 l3=>(end_q l3).weak (by omega))
theorem exportOne_q {a : Nat} (h : a ≤ L.length) : Bq L (a+1) (exportOneM L a):=(prop_q h).bind fun _ a1 h1 l1=>Bq.ite (fun q=>(prop_q (isNm_lt q)).bind fun _ _ h2 l2=>.ok (by omega) l2) (fun _=>.ok h1 l1)
theorem exportAll_q {a : Nat} (h : a < L.length) : Bq L (a+1) (exportAllM L a) :=
 Bq.bind (d:=a+1) (Bq.ite (fun q=>(prop_q (isNm_lt q)).bind fun _ _ h1 l1=>.ok (by omega) l1) (fun _=>.ok (Nat.le_refl _) h)) fun _ _ h1 l1=>(nm_q l1).bind fun _ _ h2 l2=>(reqd_q l2).bind fun _ _ h3 l3=>(end_q l3).weak (by omega)
theorem exportNames_q {ty : Int} {a : Nat} (h : a < L.length) : Bq L (a+1) (exportNamesM L ty a) :=
 Bq.ite (fun _=>.bad h) (fun _=>(listE_q (fun a h=>exportOne_q h) h).bind fun _ _ h1 l1=>Bq.ite (fun _=>(end_q l1).weak (by omega)) (fun _=>(nm_q l1).bind fun _ _ h2 l2=>(reqd_q l2).bind fun _ _ h3 l3=>(end_q l3).weak (by omega)))
theorem declared_q {a : Nat} (h : a ≤ L.length) : Bq L (a+1) (declaredM L a):=Bq.ite (fun _=>stmt_q h) (fun _=>Bq.ite (fun q=>class_q (isWd_lt q)) (fun _=>Bq.ite (fun q=>alias_q (isNm_lt q)) (fun _=>.bad h)))
theorem defaulted_q {a : Nat} (h : a ≤ L.length) : Bq L (a+1) (defaultedM L a):=Bq.ite (fun _=>stmt_q h) (fun _=>Bq.ite (fun q=>class_q (isWd_lt q)) (fun _=>(expr_q h).bind fun _ _ h1 l1=>(end_q l1).weak (by omega)))
theorem export_q {a : Nat} (h : a < L.length) : Bq L (a+1) (exportM L a) :=
 Bq.ite (fun q=>(defaulted_q (isWd_lt q)).bind fun _ _ h1 l1=>.ok (by omega) l1) (fun _=>Bq.ite (fun q=>(exportAll_q (isS_lt q)).weak (by omega)) (fun _=>Bq.ite (fun q=>(exportNames_q (isS_lt q)).weak (by omega)) (fun _=>Bq.ite (fun q=>(exportNames_q (isS_lt q.2)).weak (by omega)) (fun _=>(declared_q h).bind fun _ _ h1 l1=>.ok (by omega) l1))))
theorem opens_q {a : Nat} {n s : ByteArray} (h : opensM L a n s=true) : a < L.length:=by
 unfold opensM at h
 exact isNm_lt (Bool.and_eq_true_iff.1 (Bool.and_eq_true_iff.1 h).1).1
theorem item_q {a : Nat} (h : a ≤ L.length) : Bq L (a+1) (itemM L a) :=
 Bq.ite (fun q=>class_q (isWd_lt q)) (fun _=>Bq.ite (fun q=>import_q (isWd_lt q)) (fun _=>Bq.ite (fun q=>export_q (isWd_lt q)) (fun _=>Bq.ite (fun q=>alias_q (opens_q q)) (fun _=>stmt_q h))))
set_option maxHeartbeats 8000000
def Zg {α : Type} (P : α→Nat→Prop) (r : Rs α) : Prop:=∀ x b,r = .ok x b→P x b
theorem Zg.bad {α : Type} {P : α→Nat→Prop} {p : Nat} {e : Int} : Zg P (.bad p e : Rs α):=fun x b h=>by cases h
theorem Zg.ok {α : Type} {P : α→Nat→Prop} {v : α} {b : Nat} (h : P v b) : Zg P (.ok v b):=fun x c e=>by cases e;exact h
theorem Zg.bind {α β : Type} {P : α→Nat→Prop} {Q : β→Nat→Prop} {r : Rs α} {f : α→Nat→Rs β} (hr : Zg P r) (hf : ∀ u a1,P u a1→Zg Q (f u a1)) : Zg Q (r.bind f):=by
 cases r with
 | ok u a1=>exact hf u a1 (hr u a1 rfl)
 | bad p e=>exact Zg.bad
theorem Zg.weak {α : Type} {P Q : α→Nat→Prop} {r : Rs α} (h : Zg P r) (hq : ∀ x b,P x b→Q x b) : Zg Q r:=fun x b e=>hq x b (h x b e)
theorem Zg.ite {α : Type} {P : α→Nat→Prop} {p : Prop} [Decidable p] {x y : Rs α} (hx : p→Zg P x) (hy : ¬ p→Zg P y) : Zg P (if p then x else y):=by
 split
 ·rename_i h;exact hx h
 ·rename_i h;exact hy h
theorem sizes_app' : ∀ (x y : List Nd),sizes (x ++ y)=sizes x+sizes y
 | [],y=>by simp [sizes]
 | a :: x,y=>by simp only [List.cons_append,sizes,sizes_app' x y];omega
variable {L : List Tok}
theorem want_sz {a : Nat} {s : ByteArray} : Zg (fun _ b=>b=a+1) (wantR L s a):=Zg.ite (fun _=>Zg.ok rfl) (fun _=>Zg.bad)
theorem id_sz {a : Nat} : Zg (fun _ b=>b=a+1) (idR L a):=Zg.ite (fun _=>Zg.ok rfl) (fun _=>Zg.bad)
theorem prop_sz {a : Nat} : Zg (fun _ b=>b=a+1) (propR' L a):=Zg.ite (fun _=>Zg.ok rfl) (fun _=>Zg.bad)
theorem add_sz {a : Nat} {ns : List (List UInt8)} : Zg (fun _ b=>b=a) (addR L ns a):=Zg.ite (fun _=>Zg.bad) (fun _=>Zg.ok rfl)
theorem begin_sz {a o : Nat} : Zg (fun _ b=>b=a) (beginR L a o):=Zg.ite (fun _=>Zg.bad) (fun _=>Zg.ite (fun _=>Zg.bad) (fun _=>Zg.ok rfl))
theorem listG_sz {σ : Type} {s : ByteArray} {F : σ→Nat→Rs (Nd × σ)} (hF : ∀ st a,Zg (fun x b=>x.1.size+2 * a ≤ 2 * b) (F st a)) : ∀ (n : Nat) (acc : List Nd) (st : σ) (a : Nat),Zg (fun l b=>sizes l+2 * a+2 ≤ sizes acc+2 * b) (listG L s F n acc st a)
 | 0,_,_,_=>Zg.bad
 | n+1,acc,st,a=>by
  rw [listG]
  refine Zg.ite (fun _=>Zg.ok (by omega)) (fun _=>?_)
  cases e : F st a with
  | bad p er=>exact Zg.bad
  | ok x a1 =>
   have h1:=hF st a x a1 e
   dsimp only at h1 ⊢
   have e2 : sizes (acc ++ [x.1])=sizes acc+x.1.size:=by rw [sizes_app'];simp [sizes]
   refine Zg.ite (fun _=>(listG_sz hF n _ _ _).weak (fun l b h=>?_)) (fun _=>Zg.ite (fun _=>(listG_sz hF n _ _ _).weak (fun l b h=>?_)) (fun _=>Zg.bad))
   ·(try dsimp only at h);omega
   ·(try dsimp only at h);omega
theorem listE_sz {s : ByteArray} {E : Nat→Rs Nd} (hE : ∀ a,Zg (fun x b=>x.size+2 * a ≤ 2 * b) (E a)) {a : Nat} : Zg (fun l b=>sizes l+2 * a+2 ≤ 2 * b) (listE L E s a):=by
 unfold listE
 refine (listG_sz (fun st a=>(hE a).bind (fun x c h=>Zg.ok h)) _ _ _ _).weak (fun l b h=>?_)
 simp only [sizes] at h
 omega
theorem stmtsG_sz {F : Nat→Rs Nd} (hF : ∀ a,Zg (fun x b=>x.size+2 * a ≤ 2 * b) (F a)) : ∀ (n : Nat) (acc : List Nd) (a : Nat),Zg (fun l b=>sizes l+2 * a+2 ≤ sizes acc+2 * b) (stmtsG L F n acc a)
 | 0,_,_=>Zg.bad
 | n+1,acc,a=>by
  rw [stmtsG]
  refine Zg.ite (fun _=>Zg.ok (by omega)) (fun _=>?_)
  cases e : F a with
  | bad p er=>exact Zg.bad
  | ok x a1 =>
   have h1:=hF a x a1 e
   dsimp only at h1 ⊢
   have e2 : sizes (acc ++ [x])=sizes acc+x.size:=by rw [sizes_app'];simp [sizes]
   exact (stmtsG_sz hF n _ _).weak (fun l b h=>by (try dsimp only at h);omega)
theorem blockG_sz {F : Nat→Rs Nd} (hF : ∀ a,Zg (fun x b=>x.size+2 * a ≤ 2 * b) (F a)) {a : Nat} : Zg (fun x b=>x.size+3+2 * a ≤ 2 * b) (blockG L F a) :=
 want_sz.bind fun _ _ h1=>(stmtsG_sz hF _ _ _).bind fun l b h2=>Zg.ok (by simp only [mk0,Nd.size,sizes] at *;omega)
theorem paramsG_sz {G : Nat→Rs Nd} (hG : ∀ a,Zg (fun x b=>x.size+2 * a ≤ 2 * b+1) (G a)) {a : Nat} : Zg (fun x b=>x.size+3+2 * a ≤ 2 * b) (paramsG L G a) :=
 want_sz.bind fun _ _ h1=>(listG_sz (F:=parG L G) (fun ns b=>add_sz.bind fun _ _ h3=>id_sz.bind fun _ _ h4=>(hG _).bind fun y c h5=>Zg.ok (by simp only [mk0,Nd.size,sizes] at *;omega)) _ _ _ _).bind fun l b h2=>Zg.ok (by simp only [mk0,Nd.size,sizes] at *;omega)
theorem binG_sz {B : Nat→Nat→Rs Nd} (hB : ∀ m a,Zg (fun x b=>x.size+2 * a ≤ 2 * b) (B m a)) (m a0 : Nat) : ∀ (n : Nat) (nd : Nd) (a : Nat),nd.size+2 * a0 ≤ 2 * a→Zg (fun x b=>x.size+2 * a0 ≤ 2 * b) (binG L B m n nd a)
 | 0,_,_,_=>Zg.bad
 | n+1,nd,a,h=>by
  rw [binG]
  exact Zg.ite (fun _=>Zg.ok h) (fun _=>(hB _ _).bind fun r a2 h2=>binG_sz hB m a0 n _ _ (by simp only [mk0,Nd.size,sizes];omega))
theorem postG_sz {E : Nat→Rs Nd} (hE : ∀ a,Zg (fun x b=>x.size+2 * a ≤ 2 * b) (E a)) (a0 : Nat) : ∀ (n : Nat) (nd : Nd) (a : Nat),nd.size+2 * a0 ≤ 2 * a→Zg (fun x b=>x.size+2 * a0 ≤ 2 * b) (postG L E n nd a)
 | 0,_,_,_=>Zg.bad
 | n+1,nd,a,h=>by
  rw [postG]
  exact Zg.ite (fun _=>prop_sz.bind fun _ _ h2=>postG_sz hE a0 n _ _ (by simp only [mk0,Nd.size,sizes];omega)) (fun _=>Zg.ite (fun _=>(hE _).bind fun _ _ h2=>want_sz.bind fun _ _ h3=>postG_sz hE a0 n _ _ (by simp only [mk0,Nd.size,sizes];omega)) (fun _=>Zg.ite (fun _=>(listE_sz hE).bind fun _ _ h2=>postG_sz hE a0 n _ _ (by simp only [mk0,Nd.size,sizes];omega)) (fun _=>Zg.ok h)))
theorem part_sz (x : Nd) : sizes (if x.k=32 then x.ks else [x]) ≤ x.size∧(oneOr (if x.k=32 then x.ks else [x])).size ≤ x.size:=by
 have hs : x.size=1+sizes x.ks:=by
  cases x
  rfl
 split
 ·refine ⟨by omega,?_⟩
  unfold oneOr
  split
  ·rename_i y e
   rw [hs,e]
   simp only [sizes]
   omega
  ·simp only [mk0,Nd.size]
   omega
 ·exact ⟨by simp [sizes],Nat.le_refl _⟩
theorem oneOr_sz (l : List Nd) : (oneOr l).size ≤ 1+sizes l:=by
 unfold oneOr
 split
 ·simp only [sizes];omega
 ·simp only [mk0,Nd.size];omega
theorem unionG_sz {E : Nat→Rs Nd} (hE : ∀ a,Zg (fun x b=>x.size+2 * a ≤ 2 * b) (E a)) : ∀ (n : Nat) (acc : List Nd) (a : Nat),Zg (fun l b=>sizes l+2 * a ≤ sizes acc+2 * b) (unionG L E n acc a)
 | 0,_,_=>Zg.bad
 | n+1,acc,a=>by
  rw [unionG]
  refine (hE a).bind fun x a1 h1=>?_
  try dsimp only at h1
  have e2 : sizes (acc ++ (if x.k=32 then x.ks else [x])) ≤ sizes acc+x.size:=by rw [sizes_app'];have:=(part_sz x).1;omega
  exact Zg.ite (fun _=>(unionG_sz hE n _ _).weak (fun l b h=>by (try dsimp only at h);omega)) (fun _=>Zg.ok (by omega))
theorem union_sz {E : Nat→Rs Nd} (hE : ∀ a,Zg (fun x b=>x.size+2 * a ≤ 2 * b) (E a)) (n a : Nat) : Zg (fun l b=>(oneOr l).size+2 * a ≤ 2 * b) (unionG L E n [] a):=by
 cases n with
 | zero=>exact Zg.bad
 | succ n =>
  rw [unionG]
  refine (hE a).bind fun x a1 h1=>?_
  try dsimp only at h1
  have h3:=part_sz x
  rw [List.nil_append]
  exact Zg.ite (fun _=>(unionG_sz hE n _ _).weak (fun l b h=>by (try dsimp only at h);have:=oneOr_sz l;omega)) (fun _=>Zg.ok (by omega))
theorem arrayG_sz (a0 : Nat) : ∀ (n : Nat) (nd : Nd) (a : Nat),nd.size+2 * a0 ≤ 2 * a→Zg (fun x b=>x.size+2 * a0 ≤ 2 * b) (arrayG L n nd a)
 | 0,_,_,_=>Zg.bad
 | n+1,nd,a,h=>by
  rw [arrayG]
  exact Zg.ite (fun _=>want_sz.bind fun _ _ h2=>arrayG_sz a0 n _ _ (by simp only [mk0,Nd.size,sizes];omega)) (fun _=>Zg.ok h)
theorem fieldsG_sz {T : Nat→Rs Nd} (hT : ∀ a,Zg (fun x b=>x.size+2 * a ≤ 2 * b+1) (T a)) : ∀ (n : Nat) (acc : List Nd) (ns : List (List UInt8)) (a : Nat),Zg (fun l b=>sizes l+2 * a+2 ≤ sizes acc+2 * b) (fieldsG L T n acc ns a)
 | 0,_,_,_=>Zg.bad
 | n+1,acc,ns,a=>by
  rw [fieldsG]
  refine Zg.ite (fun _=>Zg.ok (by omega)) (fun _=>add_sz.bind fun _ _ h0=>prop_sz.bind fun _ _ h1=>(hT _).bind fun y _ h2=>want_sz.bind fun _ _ h3=>(fieldsG_sz hT n _ _ _).weak (fun l b h=>?_))
  rw [sizes_app'] at h
  simp only [mk0,Nd.size,sizes] at h h2
  omega
structure SzA (L : List Tok) (f : Nat) : Prop where
 expr' : ∀ (a : Nat) (o : Nat),Zg (fun x b=>x.size+2 * a ≤ 2 * b) (exprF L f a o)
 assign' : ∀ (nd : Nd) (a : Nat) (o : Nat),∀ a0,nd.size+2 * a0 ≤ 2 * a→Zg (fun x b=>x.size+2 * a0 ≤ 2 * b) (assignF L f nd a o)
 cond' : ∀ (a : Nat) (o : Nat),Zg (fun x b=>x.size+2 * a ≤ 2 * b) (condF L f a o)
 bin' : ∀ (m : Nat) (a : Nat) (o : Nat),Zg (fun x b=>x.size+2 * a ≤ 2 * b) (binF L f m a o)
 unary' : ∀ (a : Nat) (o : Nat),Zg (fun x b=>x.size+2 * a ≤ 2 * b) (unaryF L f a o)
 post' : ∀ (a : Nat) (o : Nat),Zg (fun x b=>x.size+2 * a ≤ 2 * b) (postF L f a o)
 prim' : ∀ (a : Nat) (o : Nat),Zg (fun x b=>x.size+2 * a ≤ 2 * b) (primF L f a o)
 wprim' : ∀ (a : Nat) (o : Nat),Zg (fun x b=>x.size+2 * a ≤ 2 * b) (wprimF L f a o)
 sprim' : ∀ (a : Nat) (o : Nat),Zg (fun x b=>x.size+2 * a ≤ 2 * b) (sprimF L f a o)
 prop' : ∀ (a : Nat) (o : Nat),Zg (fun x b=>x.size+2 * a ≤ 2 * b) (propF L f a o)
 arrow' : ∀ (a : Nat) (o : Nat),Zg (fun x b=>x.size+2 * a ≤ 2 * b) (arrowF L f a o)
 abody' : ∀ (a : Nat) (o : Nat),Zg (fun x b=>x.size+2 * a ≤ 2 * b+2) (abodyF L f a o)
 typeOr' : ∀ (a : Nat) (o : Nat),Zg (fun x b=>x.size+2 * a ≤ 2 * b+1) (typeOrF L f a o)
 typing' : ∀ (a : Nat) (o : Nat),Zg (fun x b=>x.size+2 * a ≤ 2 * b+1) (typingF L f a o)
 type' : ∀ (a : Nat) (o : Nat),Zg (fun x b=>x.size+2 * a ≤ 2 * b) (typeF L f a o)
 ptype' : ∀ (a : Nat) (o : Nat),Zg (fun x b=>x.size+2 * a ≤ 2 * b) (ptypeF L f a o)
 rtype' : ∀ (a : Nat) (o : Nat),Zg (fun x b=>x.size+2 * a ≤ 2 * b) (rtypeF L f a o)
 objt' : ∀ (a : Nat) (o : Nat),Zg (fun x b=>x.size+2 * a+1 ≤ 2 * b) (objtF L f a o)
 ftype' : ∀ (a : Nat) (o : Nat),Zg (fun x b=>x.size+2 * a ≤ 2 * b) (ftypeF L f a o)
 blk' : ∀ (a : Nat) (o : Nat),Zg (fun x b=>x.size+3+2 * a ≤ 2 * b) (blkF L f a o)
 stmt' : ∀ (a : Nat) (o : Nat),Zg (fun x b=>x.size+2 * a ≤ 2 * b) (stmtF L f a o)
 let' : ∀ (q : Int) (a : Nat) (o : Nat),Zg (fun x b=>x.size+2 * a ≤ 2 * b) (letF L f q a o)
 condi' : ∀ (a : Nat) (o : Nat),Zg (fun x b=>x.size+2 * a ≤ 2 * b) (condiF L f a o)
 els' : ∀ (a : Nat) (o : Nat),Zg (fun x b=>x.size+2 * a ≤ 2 * b+1) (elseF L f a o)
 exprOr' : ∀ (a : Nat) (o : Nat),Zg (fun x b=>x.size+2 * a ≤ 2 * b+1) (exprOrF L f a o)
 any' : ∀ (a : Nat) (o : Nat),Zg (fun x b=>x.size+2 * a ≤ 2 * b) (anyF L f a o)
theorem sz_all (L : List Tok) : ∀ f,SzA L f:=by
 intro f
 induction f with
 | zero=>constructor <;> (intros;simp [exprF,assignF,condF,binF,unaryF,postF,primF,wprimF,sprimF,propF,arrowF,abodyF,typeOrF,typingF,typeF,ptypeF,rtypeF,objtF,ftypeF,blkF,stmtF,letF,condiF,elseF,exprOrF,anyF];exact Zg.bad)
 | succ f ih =>
  constructor
  all_goals
   intros
   first | rw [exprF] | rw [assignF] | rw [condF] | rw [binF] | rw [unaryF] | rw [postF] | rw [primF] | rw [wprimF] | rw [sprimF] | rw [propF] | rw [arrowF] | rw [abodyF] | rw [typeOrF] | rw [typingF] | rw [typeF] | rw [ptypeF] | rw [rtypeF] | rw [objtF] | rw [ftypeF] | rw [blkF] | rw [stmtF] | rw [letF] | rw [condiF] | rw [elseF] | rw [exprOrF] | rw [anyF]
   repeat (first
    | exact Zg.bad
    | exact Zg.ok (by omega)
    | exact Zg.ok (by simp only [mk0,noneN,Nd.size,sizes];omega)
    | exact blockG_sz (fun _=>ih.stmt' _ _)
    | exact binG_sz (fun _ _=>ih.bin' _ _ _) _ _ _ _ _ (by omega)
    | exact postG_sz (fun _=>ih.expr' _ _) _ _ _ _ (by omega)
    | exact arrayG_sz _ _ _ _ (by omega)
    | (refine Zg.ite (fun _=>?_) (fun _=>?_))
    | (refine Zg.bind begin_sz ?_;intro _ _ hh;(try dsimp only at hh))
    | (refine Zg.bind want_sz ?_;intro _ _ hh;(try dsimp only at hh))
    | (refine Zg.bind id_sz ?_;intro _ _ hh;(try dsimp only at hh))
    | (refine Zg.bind prop_sz ?_;intro _ _ hh;(try dsimp only at hh))
    | (refine Zg.bind (listE_sz (fun _=>by first | exact ih.expr' _ _ | exact ih.prop' _ _)) ?_;intro _ _ hh;(try dsimp only at hh))
    | (refine Zg.bind (paramsG_sz (fun _=>by first | exact ih.typeOr' _ _ | exact ih.typing' _ _)) ?_;intro _ _ hh;(try dsimp only at hh))
    | (refine Zg.bind (union_sz (fun _=>ih.ptype' _ _) _ _) ?_;intro _ _ hh;(try dsimp only at hh))
    | (refine Zg.bind (fieldsG_sz (fun _=>ih.typing' _ _) _ _ _ _) ?_;intro _ _ hh;simp only [sizes] at hh)
    | (refine Zg.bind (by first | exact ih.expr' _ _ | exact ih.assign' _ _ _ _ (by omega) | exact ih.cond' _ _ | exact ih.bin' _ _ _ | exact ih.unary' _ _ | exact ih.post' _ _ | exact ih.prim' _ _ | exact ih.wprim' _ _ | exact ih.sprim' _ _ | exact ih.prop' _ _ | exact ih.arrow' _ _ | exact ih.abody' _ _ | exact ih.typeOr' _ _ | exact ih.typing' _ _ | exact ih.type' _ _ | exact ih.ptype' _ _ | exact ih.rtype' _ _ | exact ih.objt' _ _ | exact ih.ftype' _ _ | exact ih.blk' _ _ | exact ih.stmt' _ _ | exact ih.let' _ _ _ | exact ih.condi' _ _ | exact ih.els' _ _ | exact ih.exprOr' _ _ | exact ih.any' _ _) ?_;intro _ _ hh;(try dsimp only at hh))
    | (first | exact ih.expr' _ _ | exact ih.assign' _ _ _ _ (by omega) | exact ih.cond' _ _ | exact ih.bin' _ _ _ | exact ih.unary' _ _ | exact ih.post' _ _ | exact ih.prim' _ _ | exact ih.wprim' _ _ | exact ih.sprim' _ _ | exact ih.prop' _ _ | exact ih.arrow' _ _ | exact ih.abody' _ _ | exact ih.typeOr' _ _ | exact ih.typing' _ _ | exact ih.type' _ _ | exact ih.ptype' _ _ | exact ih.rtype' _ _ | exact ih.objt' _ _ | exact ih.ftype' _ _ | exact ih.blk' _ _ | exact ih.stmt' _ _ | exact ih.let' _ _ _ | exact ih.condi' _ _ | exact ih.els' _ _ | exact ih.exprOr' _ _ | exact ih.any' _ _)
    | (first | exact (ih.expr' _ _).weak (fun _ _ h=>by (try dsimp only at h);omega) | exact (ih.cond' _ _).weak (fun _ _ h=>by (try dsimp only at h);omega) | exact (ih.bin' _ _ _).weak (fun _ _ h=>by (try dsimp only at h);omega) | exact (ih.unary' _ _).weak (fun _ _ h=>by (try dsimp only at h);omega) | exact (ih.post' _ _).weak (fun _ _ h=>by (try dsimp only at h);omega) | exact (ih.prim' _ _).weak (fun _ _ h=>by (try dsimp only at h);omega) | exact (ih.wprim' _ _).weak (fun _ _ h=>by (try dsimp only at h);omega) | exact (ih.sprim' _ _).weak (fun _ _ h=>by (try dsimp only at h);omega) | exact (ih.prop' _ _).weak (fun _ _ h=>by (try dsimp only at h);omega) | exact (ih.arrow' _ _).weak (fun _ _ h=>by (try dsimp only at h);omega) | exact (ih.abody' _ _).weak (fun _ _ h=>by (try dsimp only at h);omega) | exact (ih.typeOr' _ _).weak (fun _ _ h=>by (try dsimp only at h);omega) | exact (ih.typing' _ _).weak (fun _ _ h=>by (try dsimp only at h);omega) | exact (ih.type' _ _).weak (fun _ _ h=>by (try dsimp only at h);omega) | exact (ih.ptype' _ _).weak (fun _ _ h=>by (try dsimp only at h);omega) | exact (ih.rtype' _ _).weak (fun _ _ h=>by (try dsimp only at h);omega) | exact (ih.objt' _ _).weak (fun _ _ h=>by (try dsimp only at h);omega) | exact (ih.ftype' _ _).weak (fun _ _ h=>by (try dsimp only at h);omega) | exact (ih.blk' _ _).weak (fun _ _ h=>by (try dsimp only at h);omega) | exact (ih.stmt' _ _).weak (fun _ _ h=>by (try dsimp only at h);omega) | exact (ih.let' _ _ _).weak (fun _ _ h=>by (try dsimp only at h);omega) | exact (ih.condi' _ _).weak (fun _ _ h=>by (try dsimp only at h);omega) | exact (ih.els' _ _).weak (fun _ _ h=>by (try dsimp only at h);omega) | exact (ih.exprOr' _ _).weak (fun _ _ h=>by (try dsimp only at h);omega) | exact (ih.any' _ _).weak (fun _ _ h=>by (try dsimp only at h);omega)))
set_option maxRecDepth 100000
def deepB : Nat→Nd→Bool
 | 0,_=>true
 | m+1,x=>x.ks.any (deepB m)
theorem deeper_any : ∀ (m : Nat) (x : Nd) (w : World) (S : Nat→Prop) (v : Value),m ≤ 1000→LAt w S v x.ks→x.size ≤ 4194304 →
 Calls Tryz.prog 17 #[x.v v,.int .i64 (m : Int)] w fun e w'=>e = .returned (.bool (deepB m x))∧Below w.heap.size w w':=by
 intro m
 induction m with
 | zero =>
  intro x w S v hm hx zx
  obtain ⟨ax,cx,bx,ox,fx,rfl,px,qx,rx⟩:=hx.op
  unfold Nd.v
  go_enter Tryz.func17,Tryz.ntmps17
  go_wp2
  go_ret
  exact ⟨rfl,(Below.refl _ w).alloc le0 _⟩
 | succ m ih =>
  intro x w S v hm hx zx
  obtain ⟨ax,cx,bx,ox,fx,rfl,px,qx,rx⟩:=hx.op
  have zs:=x.size_eq
  have lx:=sizes_len x.ks
  have lx2 : x.ks.length ≤ 4194304:=by omega
  have i0 : ¬ ((m+1 : Nat) : Int)=0:=by omega
  have hw : IntKind.i64.wrap (((m+1 : Nat) : Int) - 1)=(m : Int):=by rw [IntKind.wrap_i64];omega
  have e0 : deepB (m+1) x=x.ks.any (deepB m):=rfl
  rw [e0]
  clear e0
  obtain ⟨res,hres⟩ : ∃ r,x.ks.any (deepB m)=r:=⟨_,rfl⟩
  have HR : Hid (x.ks.any (deepB m)=res):=hres
  rw [hres]
  clear hres
  unfold Nd.v
  go_enter Tryz.func17,Tryz.ntmps17
  go_wp2
  go_loopg [12] (x.ks.length+1) (fun gk i wr=>∃ k : Nat,i = .int .i64 (k : Nat)∧Hid (gk+k=x.ks.length+1)∧Hid ((x.ks.take k).any (deepB m)=false)∧Below w.heap.size w wr)
  case atStart=>exact ⟨0,rfl,by show _=_;omega,by show _=_;simp,(Below.refl _ w).alloc le0 _⟩
  case round =>
   obtain ⟨k,rfl,hg,hF,bel⟩:=hrel
   have hg':=hg.out
   by_cases hkl : k < x.ks.length
   ·obtain ⟨rfl,hSx,hbx⟩:=px (by omega)
    have zk:=x.kid_size hkl
    have HT : Hid ((x.ks.take (k+1)).any (deepB m)=deepB m x.ks[k]):=by
     show _=_
     rw [List.take_succ_eq_append_getElem hkl,List.any_append,hF.out]
     simp
    have HA : Hid (deepB m x.ks[k]=true→x.ks.any (deepB m)=true):=fun e=>List.any_eq_true.2 ⟨_,List.getElem_mem hkl,e⟩
    have i1 : (k : Int) < (x.ks.length : Int):=by omega
    have hw2 : IntKind.i64.wrap ((k : Int)+1)=((k+1 : Nat) : Int):=by rw [IntKind.wrap_i64];omega
    obtain ⟨⟨u1,u2,u3,u4⟩,gx⟩:=kid_at (qx k hkl) (rx k hkl) hbx bel
    have ihk:=fun W (b : Below wr.heap.size wr W)=>ih x.ks[k] W S (fx k) (by omega) (gx.bel b) (by omega)
    generalize x.ks[k]=xk at *
    generalize fx k=fxk at *
    obtain ⟨adk,ck,rfl⟩:=gx.sl
    unfold Nd.v at ihk
    have bA:=(Below.refl wr.heap.size wr).alloc le0 (Obj.cells #[.int .i64 xk.k,.string xk.t,.int .i64 xk.n,.slice adk xk.ks.length ck] 24)
    have C:=ihk _ bA
    cases hd : deepB m xk with
    | true =>
     rw [hd] at C
     obtain rfl : true=res:=by rw [← HR.out,HA.out hd]
     go_wp2_with fail
     go_at_call 17
     refine C.mono ?_
     rintro e W1 ⟨rfl,b1⟩
     go_wp2
     go_ret
     exact ⟨rfl,bel.trans ((bA.trans (b1.mono (by simp))).mono bel.size)⟩
    | false =>
     rw [hd] at C
     go_wp2_with fail
     go_at_call 17
     refine C.mono ?_
     rintro e W1 ⟨rfl,b1⟩
     go_wp2
     go_roundg (gk - 1)
     case rel=>exact ⟨k+1,rfl,by show _=_;omega,by show _=_;rw [HT.out,hd],bel.trans ((bA.trans (b1.mono (by simp))).mono bel.size)⟩
     case measure=>omega
   ·have e : x.ks.take k=x.ks:=List.take_of_length_le (by omega)
    have hF':=hF.out
    rw [e] at hF'
    have i1 : ¬ (k : Int) < (x.ks.length : Int):=by omega
    obtain rfl : false=res:=by rw [← HR.out,hF']
    clear e hF'
    go_wp2
    go_ret
    exact ⟨rfl,bel⟩
def beginP (L : List Tok) (s : ByteArray) (a : Nat) : Int:=if a=L.length then (s.size : Int) else (tokA L a).p
theorem beginsM_any {L : List Tok} {w : World} {v : Value} {a : Nat} (s : ByteArray) (hv : TkV w v L) (ha : a ≤ L.length) :
 Calls Tryz.prog 16 #[v,.int .i64 (a : Int),.string s] w fun e w'=>e = .returned (.int .i64 (beginP L s a))∧Below w.heap.size w w':=by
 obtain ⟨⟨ta,tc,bl,of,rfl,hta,hx,hcp⟩,hsm,htx⟩:=hv
 unfold beginP
 by_cases h : a=L.length
 ·have i1 : ((a : Int) == (L.length : Int))=true:=by simp [h]
  rw [if_pos h]
  clear h
  go_enter Tryz.func16,Tryz.ntmps16
  go_wp2
  go_ret
  exact ⟨rfl,Below.refl _ _⟩
 ·have hlt : a < L.length:=by omega
  have i1 : ((a : Int) == (L.length : Int))=false:=by simp;omega
  have i2 : (a : Int) < (L.length : Int):=by omega
  rw [if_neg h]
  have e : tokA L a=L[a]:=by unfold tokA;rw [List.getElem?_eq_getElem hlt];rfl
  rw [e]
  obtain rfl:=hta (by omega)
  obtain ⟨c0,c1,c2,c3⟩:=hx.c a hlt
  generalize L[a]=x at *
  clear e h hx
  go_enter Tryz.func16,Tryz.ntmps16
  go_wp2
  go_ret
  exact ⟨rfl,Below.refl _ _⟩
end Go.Proofs.YthfkfbcopinmiaaGreatDoor
