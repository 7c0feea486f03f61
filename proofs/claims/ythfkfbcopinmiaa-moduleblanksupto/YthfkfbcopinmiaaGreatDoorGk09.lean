/- Own text. Package parse: the fuel is enough (of the model;no program is named here). -/
import Derived.Test.YthfkfbcopinmiaaGreatDoorGk08
import Derived.Test.YthfkfbcopinmiaaGreatDoorGk06
set_option linter.unusedVariables false
set_option linter.unusedSimpArgs false
set_option maxRecDepth 100000
set_option maxHeartbeats 2000000
namespace Go.Proofs.YthfkfbcopinmiaaGreatDoor
open Go.RowKit
def Gd {α : Type} (L : List Tok) (c : Nat) (r : Rs α) : Prop:=(∀ p,r ≠ .bad p 0)∧∀ x b,r = .ok x b→c ≤ b∧b ≤ L.length
variable {L : List Tok}
theorem Gd.bad {α : Type} {c p : Nat} {e : Int} (he : e ≠ 0) : Gd L c (.bad p e : Rs α):=⟨fun q h=>he (by injection h),fun x b h=>by cases h⟩
theorem Gd.ok {α : Type} {c b : Nat} {v : α} (h1 : c ≤ b) (h2 : b ≤ L.length) : Gd L c (.ok v b):=⟨fun q h=>(by cases h),fun x d e=>(by cases e;exact ⟨h1,h2⟩)⟩
theorem Gd.weak {α : Type} {c d : Nat} {r : Rs α} (h : Gd L d r) (hc : c ≤ d) : Gd L c r:=⟨h.1,fun x b e=>⟨Nat.le_trans hc (h.2 x b e).1,(h.2 x b e).2⟩⟩
theorem Gd.bind {α β : Type} {c d : Nat} {r : Rs α} {f : α→Nat→Rs β} (hr : Gd L d r) (hf : ∀ u a1,d ≤ a1→a1 ≤ L.length→Gd L c (f u a1)) : Gd L c (r.bind f):=by
 cases r with
 | ok u a1=>exact hf u a1 (hr.2 u a1 rfl).1 (hr.2 u a1 rfl).2
 | bad p e=>exact ⟨fun q h=>hr.1 p (by simp only [Rs.bind] at h;injection h with h1 h2;rw [h2]),fun x b h=>by cases h⟩
theorem Gd.iteS {α : Type} {a c : Nat} {s : ByteArray} {x y : Rs α} (hx : a < L.length→Gd L c x) (hy : Gd L c y) : Gd L c (if isS L a s=true then x else y):=by
 split
 ·rename_i h;exact hx (isS_lt h)
 ·exact hy
theorem Gd.iteW {α : Type} {a c : Nat} {s : ByteArray} {x y : Rs α} (hx : a < L.length→Gd L c x) (hy : Gd L c y) : Gd L c (if isWd L a s=true then x else y):=by
 split
 ·rename_i h;exact hx (isWd_lt h)
 ·exact hy
theorem Gd.iteN {α : Type} {a c : Nat} {x y : Rs α} (hx : a < L.length→Gd L c x) (hy : Gd L c y) : Gd L c (if isN L a=true then x else y):=by
 split
 ·rename_i h;exact hx (isN_lt h)
 ·exact hy
theorem Gd.iteK {α : Type} {a c : Nat} {k : Int} (hk : k ≠ 0) {x y : Rs α} (hx : a < L.length→Gd L c x) (hy : Gd L c y) : Gd L c (if (tokA L a).k=k then x else y):=by
 split
 ·rename_i h;exact hx (kind_lt (by rw [h];exact hk))
 ·exact hy
theorem Gd.ite3 {α : Type} {a c : Nat} {s1 s2 w : ByteArray} {x y : Rs α} (hx : a < L.length→Gd L c x) (hy : Gd L c y) : Gd L c (if isS L a s1=true ∨ isS L a s2=true ∨ isWd L a w=true then x else y):=by
 split
 ·rename_i h;exact hx (h.elim isS_lt (fun h=>h.elim isS_lt isWd_lt))
 ·exact hy
theorem Gd.iteT {α : Type} {a c : Nat} {s2 w : ByteArray} {x y : Rs α} (hx : a < L.length→Gd L c x) (hy : Gd L c y) : Gd L c (if isN L a=true ∨ isWd L a s2=true ∨ isWd L a w=true then x else y):=by
 split
 ·rename_i h;exact hx (h.elim isN_lt (fun h=>h.elim isWd_lt isWd_lt))
 ·exact hy
theorem Gd.ite {α : Type} {c : Nat} {p : Prop} [Decidable p] {x y : Rs α} (hx : Gd L c x) (hy : Gd L c y) : Gd L c (if p then x else y):=by
 split
 ·exact hx
 ·exact hy
theorem want_gd {a : Nat} {s : ByteArray} : Gd L (a+1) (wantR L s a):=Gd.iteS (fun q=>Gd.ok (Nat.le_refl _) q) (Gd.bad (by decide))
theorem id_gd {a : Nat} : Gd L (a+1) (idR L a):=Gd.iteN (fun q=>Gd.ok (Nat.le_refl _) q) (Gd.bad (by decide))
theorem prop_gd {a : Nat} : Gd L (a+1) (propR' L a):=by
 unfold propR'
 split
 ·rename_i q
  exact Gd.ok (Nat.le_refl _) (q.elim isN_lt (fun q=>kind_lt (by rw [q];decide)))
 ·exact Gd.bad (by decide)
theorem add_gd {a : Nat} {ns : List (List UInt8)} (h : a ≤ L.length) : Gd L a (addR L ns a):=Gd.ite (Gd.bad (by decide)) (Gd.ok (Nat.le_refl _) h)
theorem begin_gd {β : Type} {a o c : Nat} {f : Unit→Nat→Rs β} (hf : a < L.length→o < 400→Gd L c (f () a)) : Gd L c ((beginR L a o).bind f):=by
 unfold beginR
 split
 ·exact Gd.bad (by decide)
 ·split
  ·exact Gd.bad (by decide)
  ·exact hf (by omega) (by omega)
theorem listG_gd {σ : Type} {s : ByteArray} {F : σ→Nat→Rs (Nd × σ)} {a0 : Nat} (hF : ∀ st a,a0 ≤ a→a ≤ L.length→Gd L (a+1) (F st a)) : ∀ (n : Nat) (acc : List Nd) (st : σ) (a : Nat),a0 ≤ a→a ≤ L.length→L.length+1 ≤ n+a→Gd L (a+1) (listG L s F n acc st a)
 | 0,_,_,_,_,h,hn=>by omega
 | n+1,acc,st,a,h0,h,hn=>by
  rw [listG]
  refine Gd.iteS (fun q=>Gd.ok (Nat.le_refl _) q) ?_
  have hf:=hF st a h0 h
  cases e : F st a with
  | bad p er=>rw [e] at hf;exact ⟨fun q h=>hf.1 p (by injection h with h1 h2;rw [h2]),fun x b h=>by cases h⟩
  | ok x a1 =>
   have h1:=hf.2 x a1 e
   exact Gd.iteS (fun q=>(listG_gd hF n _ _ _ (by omega) h1.2 (by omega)).weak (by omega)) (Gd.iteS (fun q=>(listG_gd hF n _ _ _ (by omega) q (by omega)).weak (by omega)) (Gd.bad (by decide)))
theorem listE_gd {s : ByteArray} {E : Nat→Rs Nd} {a : Nat} (hE : ∀ a',a ≤ a'→a' ≤ L.length→Gd L (a'+1) (E a')) (h : a ≤ L.length) : Gd L (a+1) (listE L E s a) :=
 listG_gd (a0:=a) (fun _ a h0 h=>(hE a h0 h).bind (fun _ _ h1 h2=>Gd.ok h1 h2)) _ _ _ _ (Nat.le_refl _) h (by omega)
theorem stmtsG_gd {F : Nat→Rs Nd} {a0 : Nat} (hF : ∀ a,a0 ≤ a→a ≤ L.length→Gd L (a+1) (F a)) : ∀ (n : Nat) (acc : List Nd) (a : Nat),a0 ≤ a→a ≤ L.length→L.length+1 ≤ n+a→Gd L (a+1) (stmtsG L F n acc a)
 | 0,_,_,_,h,hn=>by omega
 | n+1,acc,a,h0,h,hn=>by
  rw [stmtsG]
  refine Gd.iteS (fun q=>Gd.ok (Nat.le_refl _) q) ?_
  have hf:=hF a h0 h
  cases e : F a with
  | bad p er=>rw [e] at hf;exact ⟨fun q h=>hf.1 p (by injection h with h1 h2;rw [h2]),fun x b h=>by cases h⟩
  | ok x a1 =>
   have h1:=hf.2 x a1 e
   exact (stmtsG_gd hF n _ _ (by omega) h1.2 (by omega)).weak (by omega)
theorem blockG_gd {F : Nat→Rs Nd} {a : Nat} (hF : ∀ a',a+1 ≤ a'→a' ≤ L.length→Gd L (a'+1) (F a')) : Gd L (a+1) (blockG L F a) :=
 want_gd.bind fun _ a1 h1 h2=>(stmtsG_gd (a0:=a+1) hF _ _ _ h1 h2 (by omega)).bind fun _ _ h3 h4=>Gd.ok (by omega) h4
theorem paramsG_gd {G : Nat→Rs Nd} {a : Nat} (hG : ∀ a',a+1 ≤ a'→a' ≤ L.length→Gd L a' (G a')) : Gd L (a+1) (paramsG L G a) :=
 want_gd.bind fun _ a1 h1 h2=>(listG_gd (a0:=a+1) (F:=parG L G) (fun ns b hb0 hb=>(add_gd hb).bind fun _ _ _ _=>id_gd.bind fun _ _ h3 h4=>(hG _ (by omega) h4).bind fun _ _ h5 h6=>Gd.ok (by omega) h6) _ _ _ _ h1 h2 (by omega)).bind fun _ _ h3 h4=>Gd.ok (by omega) h4
theorem binG_gd {B : Nat→Nat→Rs Nd} {a0 : Nat} (hB : ∀ m a,1 ≤ m→a0 < a→a ≤ L.length→Gd L (a+1) (B m a)) (m : Nat) (hm : 1 ≤ m) : ∀ (n : Nat) (nd : Nd) (a : Nat),a0 ≤ a→a ≤ L.length→L.length+1 ≤ n+a→Gd L a (binG L B m n nd a)
 | 0,_,_,_,h,hn=>by omega
 | n+1,nd,a,h0,h,hn=>by
  rw [binG]
  split
  ·exact Gd.ok (Nat.le_refl _) h
  ·have hl:=line_lt (L:=L) (a:=a) (by omega)
   exact (hB _ _ (by omega) (by omega) hl).bind fun _ _ h2 h3=>(binG_gd hB m hm n _ _ (by omega) h3 (by omega)).weak (by omega)
theorem postG_gd {E : Nat→Rs Nd} {a0 : Nat} (hE : ∀ a,a0 < a→a ≤ L.length→Gd L (a+1) (E a)) : ∀ (n : Nat) (nd : Nd) (a : Nat),a0 ≤ a→a ≤ L.length→L.length+1 ≤ n+a→Gd L a (postG L E n nd a)
 | 0,_,_,_,h,hn=>by omega
 | n+1,nd,a,h0,h,hn=>by
  rw [postG]
  exact Gd.iteS (fun q=>prop_gd.bind fun _ _ h2 h3=>(postG_gd hE n _ _ (by omega) h3 (by omega)).weak (by omega)) (Gd.iteS (fun q=>(hE _ (by omega) q).bind fun _ _ h2 h3=>want_gd.bind fun _ _ h4 h5=>(postG_gd hE n _ _ (by omega) h5 (by omega)).weak (by omega)) (Gd.iteS (fun q=>(listE_gd (fun a' h1 h2=>hE a' (by omega) h2) q).bind fun _ _ h2 h3=>(postG_gd hE n _ _ (by omega) h3 (by omega)).weak (by omega)) (Gd.ok (Nat.le_refl _) h)))
theorem unionG_gd {E : Nat→Rs Nd} {a0 : Nat} (hE : ∀ a,a0 ≤ a→a ≤ L.length→Gd L (a+1) (E a)) : ∀ (n : Nat) (acc : List Nd) (a : Nat),a0 ≤ a→a ≤ L.length→L.length+1 ≤ n+a→Gd L (a+1) (unionG L E n acc a)
 | 0,_,_,_,h,hn=>by omega
 | n+1,acc,a,h0,h,hn=>by
  rw [unionG]
  exact (hE a h0 h).bind fun _ _ h1 h2=>Gd.iteS (fun q=>(unionG_gd hE n _ _ (by omega) q (by omega)).weak (by omega)) (Gd.ok h1 h2)
theorem arrayG_gd : ∀ (n : Nat) (nd : Nd) (a : Nat),a ≤ L.length→L.length+1 ≤ n+a→Gd L a (arrayG L n nd a)
 | 0,_,_,h,hn=>by omega
 | n+1,nd,a,h,hn=>by
  rw [arrayG]
  exact Gd.iteS (fun q=>want_gd.bind fun _ _ h2 h3=>(arrayG_gd n _ _ h3 (by omega)).weak (by omega)) (Gd.ok (Nat.le_refl _) h)
theorem fieldsG_gd {T : Nat→Rs Nd} {a0 : Nat} (hT : ∀ a,a0 < a→a ≤ L.length→Gd L a (T a)) : ∀ (n : Nat) (acc : List Nd) (ns : List (List UInt8)) (a : Nat),a0 ≤ a→a ≤ L.length→L.length+1 ≤ n+a→Gd L (a+1) (fieldsG L T n acc ns a)
 | 0,_,_,_,_,h,hn=>by omega
 | n+1,acc,ns,a,h0,h,hn=>by
  rw [fieldsG]
  exact Gd.iteS (fun q=>Gd.ok (Nat.le_refl _) q) ((add_gd h).bind fun _ _ _ _=>prop_gd.bind fun _ _ h1 h2=>(hT _ (by omega) h2).bind fun _ _ h3 h4=>want_gd.bind fun _ _ h5 h6=>(fieldsG_gd hT n _ _ _ (by omega) h6 (by omega)).weak (by omega))
structure GdA (L : List Tok) (f : Nat) : Prop where
 expr' : ∀ (a : Nat) (o : Nat),a ≤ L.length→Ms L a o 20 ≤ f→Gd L (a+1) (exprF L f a o)
 assign' : ∀ (nd : Nd) (a : Nat) (o : Nat),a < L.length→a ≤ L.length→Ms L a o 19 ≤ f→Gd L a (assignF L f nd a o)
 cond' : ∀ (a : Nat) (o : Nat),a ≤ L.length→Ms L a o 12 ≤ f→Gd L (a+1) (condF L f a o)
 bin' : ∀ (m : Nat) (a : Nat) (o : Nat),1 ≤ m→a ≤ L.length→Ms L a o 11 ≤ f→Gd L (a+1) (binF L f m a o)
 unary' : ∀ (a : Nat) (o : Nat),a ≤ L.length→Ms L a o 10 ≤ f→Gd L (a+1) (unaryF L f a o)
 post' : ∀ (a : Nat) (o : Nat),a ≤ L.length→Ms L a o 9 ≤ f→Gd L (a+1) (postF L f a o)
 prim' : ∀ (a : Nat) (o : Nat),a ≤ L.length→Ms L a o 8 ≤ f→Gd L (a+1) (primF L f a o)
 wprim' : ∀ (a : Nat) (o : Nat),a ≤ L.length→Ms L a o 7 ≤ f→Gd L (a+1) (wprimF L f a o)
 sprim' : ∀ (a : Nat) (o : Nat),a ≤ L.length→Ms L a o 7 ≤ f→Gd L (a+1) (sprimF L f a o)
 prop' : ∀ (a : Nat) (o : Nat),a ≤ L.length→Ms L a o 5 ≤ f→Gd L (a+1) (propF L f a o)
 arrow' : ∀ (a : Nat) (o : Nat),a ≤ L.length→Ms L a o 6 ≤ f→Gd L (a+1) (arrowF L f a o)
 abody' : ∀ (a : Nat) (o : Nat),a ≤ L.length→Ms L a o 21 ≤ f→Gd L (a+1) (abodyF L f a o)
 typeOr' : ∀ (a : Nat) (o : Nat),a ≤ L.length→Ms L a o 19 ≤ f→Gd L a (typeOrF L f a o)
 typing' : ∀ (a : Nat) (o : Nat),a ≤ L.length→Ms L a o 18 ≤ f→Gd L (a+1) (typingF L f a o)
 type' : ∀ (a : Nat) (o : Nat),a ≤ L.length→Ms L a o 20 ≤ f→Gd L (a+1) (typeF L f a o)
 ptype' : ∀ (a : Nat) (o : Nat),a ≤ L.length→Ms L a o 12 ≤ f→Gd L (a+1) (ptypeF L f a o)
 rtype' : ∀ (a : Nat) (o : Nat),a ≤ L.length→Ms L a o 11 ≤ f→Gd L (a+1) (rtypeF L f a o)
 objt' : ∀ (a : Nat) (o : Nat),a ≤ L.length→Ms L a o 9 ≤ f→Gd L (a+1) (objtF L f a o)
 ftype' : ∀ (a : Nat) (o : Nat),a ≤ L.length→Ms L a o 10 ≤ f→Gd L (a+1) (ftypeF L f a o)
 blk' : ∀ (a : Nat) (o : Nat),a ≤ L.length→Ms L a o 19 ≤ f→Gd L (a+1) (blkF L f a o)
 stmt' : ∀ (a : Nat) (o : Nat),a ≤ L.length→Ms L a o 20 ≤ f→Gd L (a+1) (stmtF L f a o)
 let' : ∀ (q : Int) (a : Nat) (o : Nat),a ≤ L.length→Ms L a o 30 ≤ f→Gd L (a+1) (letF L f q a o)
 condi' : ∀ (a : Nat) (o : Nat),a ≤ L.length→Ms L a o 21 ≤ f→Gd L (a+1) (condiF L f a o)
 els' : ∀ (a : Nat) (o : Nat),a ≤ L.length→Ms L a o 19 ≤ f→Gd L a (elseF L f a o)
 exprOr' : ∀ (a : Nat) (o : Nat),a ≤ L.length→Ms L a o 21 ≤ f→Gd L a (exprOrF L f a o)
 any' : ∀ (a : Nat) (o : Nat),a ≤ L.length→Ms L a o 22 ≤ f→Gd L (a+1) (anyF L f a o)
theorem gd_expr {f : Nat} (ih : GdA L f) : ∀ (a : Nat) (o : Nat),a ≤ L.length→Ms L a o 20 ≤ f+1→Gd L (a+1) (exprF L (f+1) a o):=by
 intros
 rw [exprF]
 repeat (first
  | exact Gd.ok (by omega) (by omega)
  | (with_reducible refine Gd.iteS (fun _=>?_) ?_)
  | (with_reducible refine begin_gd (fun _ _=>?_))
  | (with_reducible refine Gd.bind (ih.assign' _ _ _ ?_ ?_ ?_) ?_;(focus omega);(focus omega);(focus (unfold Ms at *;omega));intro _ _ _ _)
  | (with_reducible refine Gd.weak (ih.assign' _ _ _ ?_ ?_ ?_) ?_;(focus omega);(focus omega);(focus (unfold Ms at *;omega));(focus omega))
  | (with_reducible refine Gd.bind (ih.cond' _ _ ?_ ?_) ?_;(focus omega);(focus (unfold Ms at *;omega));intro _ _ _ _)
  | (with_reducible refine Gd.weak (ih.cond' _ _ ?_ ?_) ?_;(focus omega);(focus (unfold Ms at *;omega));(focus omega))
  | fail)
theorem gd_assign {f : Nat} (ih : GdA L f) : ∀ (nd : Nd) (a : Nat) (o : Nat),a < L.length→a ≤ L.length→Ms L a o 19 ≤ f+1→Gd L a (assignF L (f+1) nd a o):=by
 intros
 rw [assignF]
 repeat (first
  | exact Gd.bad (by decide)
  | exact Gd.ok (by omega) (by omega)
  | (with_reducible refine Gd.ite ?_ ?_)
  | (with_reducible refine Gd.bind (ih.expr' _ _ ?_ ?_) ?_;(focus omega);(focus (unfold Ms at *;omega));intro _ _ _ _)
  | (with_reducible refine Gd.weak (ih.expr' _ _ ?_ ?_) ?_;(focus omega);(focus (unfold Ms at *;omega));(focus omega))
  | fail)
theorem gd_cond {f : Nat} (ih : GdA L f) : ∀ (a : Nat) (o : Nat),a ≤ L.length→Ms L a o 12 ≤ f+1→Gd L (a+1) (condF L (f+1) a o):=by
 intros
 rw [condF]
 repeat (first
  | exact Gd.ok (by omega) (by omega)
  | (with_reducible refine Gd.iteS (fun _=>?_) ?_)
  | (with_reducible refine Gd.bind want_gd ?_;intro _ _ _ _)
  | (with_reducible refine Gd.bind (ih.expr' _ _ ?_ ?_) ?_;(focus omega);(focus (unfold Ms at *;omega));intro _ _ _ _)
  | (with_reducible refine Gd.weak (ih.expr' _ _ ?_ ?_) ?_;(focus omega);(focus (unfold Ms at *;omega));(focus omega))
  | (with_reducible refine Gd.bind (ih.bin' _ _ _ ?_ ?_ ?_) ?_;(focus omega);(focus omega);(focus (unfold Ms at *;omega));intro _ _ _ _)
  | (with_reducible refine Gd.weak (ih.bin' _ _ _ ?_ ?_ ?_) ?_;(focus omega);(focus omega);(focus (unfold Ms at *;omega));(focus omega))
  | fail)
theorem gd_bin {f : Nat} (ih : GdA L f) : ∀ (m : Nat) (a : Nat) (o : Nat),1 ≤ m→a ≤ L.length→Ms L a o 11 ≤ f+1→Gd L (a+1) (binF L (f+1) m a o):=by
 intros
 rw [binF]
 repeat (first
  | (with_reducible refine Gd.weak (binG_gd ?_ _ ?_ _ _ _ (Nat.le_refl _) ?_ ?_) ?_;(focus (intro _ _ _ _ _;exact ih.bin' _ _ _ (by omega) (by omega) (by unfold Ms at *;omega)));(focus omega);(focus omega);(focus omega);(focus omega))
  | (with_reducible refine Gd.bind (ih.unary' _ _ ?_ ?_) ?_;(focus omega);(focus (unfold Ms at *;omega));intro _ _ _ _)
  | (with_reducible refine Gd.weak (ih.unary' _ _ ?_ ?_) ?_;(focus omega);(focus (unfold Ms at *;omega));(focus omega))
  | fail)
theorem gd_unary {f : Nat} (ih : GdA L f) : ∀ (a : Nat) (o : Nat),a ≤ L.length→Ms L a o 10 ≤ f+1→Gd L (a+1) (unaryF L (f+1) a o):=by
 intros
 rw [unaryF]
 repeat (first
  | exact Gd.ok (by omega) (by omega)
  | (with_reducible refine Gd.ite3 (fun _=>?_) ?_)
  | (with_reducible refine begin_gd (fun _ _=>?_))
  | (with_reducible refine Gd.bind (ih.unary' _ _ ?_ ?_) ?_;(focus omega);(focus (unfold Ms at *;omega));intro _ _ _ _)
  | (with_reducible refine Gd.weak (ih.unary' _ _ ?_ ?_) ?_;(focus omega);(focus (unfold Ms at *;omega));(focus omega))
  | (with_reducible refine Gd.bind (ih.post' _ _ ?_ ?_) ?_;(focus omega);(focus (unfold Ms at *;omega));intro _ _ _ _)
  | (with_reducible refine Gd.weak (ih.post' _ _ ?_ ?_) ?_;(focus omega);(focus (unfold Ms at *;omega));(focus omega))
  | fail)
theorem gd_post {f : Nat} (ih : GdA L f) : ∀ (a : Nat) (o : Nat),a ≤ L.length→Ms L a o 9 ≤ f+1→Gd L (a+1) (postF L (f+1) a o):=by
 intros
 rw [postF]
 repeat (first
  | (with_reducible refine Gd.weak (postG_gd ?_ _ _ _ (Nat.le_refl _) ?_ ?_) ?_;(focus (intro _ _ _;exact ih.expr' _ _ (by omega) (by unfold Ms at *;omega)));(focus omega);(focus omega);(focus omega))
  | (with_reducible refine Gd.bind (ih.prim' _ _ ?_ ?_) ?_;(focus omega);(focus (unfold Ms at *;omega));intro _ _ _ _)
  | (with_reducible refine Gd.weak (ih.prim' _ _ ?_ ?_) ?_;(focus omega);(focus (unfold Ms at *;omega));(focus omega))
  | fail)
theorem gd_prim {f : Nat} (ih : GdA L f) : ∀ (a : Nat) (o : Nat),a ≤ L.length→Ms L a o 8 ≤ f+1→Gd L (a+1) (primF L (f+1) a o):=by
 intros
 rw [primF]
 repeat (first
  | exact Gd.ok (by omega) (by omega)
  | (with_reducible refine Gd.iteK (by decide) (fun _=>?_) ?_)
  | (with_reducible refine Gd.bind (ih.wprim' _ _ ?_ ?_) ?_;(focus omega);(focus (unfold Ms at *;omega));intro _ _ _ _)
  | (with_reducible refine Gd.weak (ih.wprim' _ _ ?_ ?_) ?_;(focus omega);(focus (unfold Ms at *;omega));(focus omega))
  | (with_reducible refine Gd.bind (ih.sprim' _ _ ?_ ?_) ?_;(focus omega);(focus (unfold Ms at *;omega));intro _ _ _ _)
  | (with_reducible refine Gd.weak (ih.sprim' _ _ ?_ ?_) ?_;(focus omega);(focus (unfold Ms at *;omega));(focus omega))
  | fail)
theorem gd_wprim {f : Nat} (ih : GdA L f) : ∀ (a : Nat) (o : Nat),a ≤ L.length→Ms L a o 7 ≤ f+1→Gd L (a+1) (wprimF L (f+1) a o):=by
 intros
 rw [wprimF]
 repeat (first
  | exact Gd.bad (by decide)
  | exact Gd.ok (by omega) (by omega)
  | (with_reducible refine Gd.iteW (fun _=>?_) ?_)
  | (with_reducible refine Gd.bind want_gd ?_;intro _ _ _ _)
  | (with_reducible refine Gd.bind id_gd ?_;intro _ _ _ _)
  | (with_reducible refine Gd.bind (listE_gd ?_ ?_) ?_;(focus (intro _ _ _;first | (with_reducible refine ih.expr' _ _ ?_ ?_;(focus omega);(focus (unfold Ms at *;omega))) | (with_reducible refine ih.prop' _ _ ?_ ?_;(focus omega);(focus (unfold Ms at *;omega)))));(focus omega);intro _ _ _ _)
  | (with_reducible refine Gd.bind (paramsG_gd ?_) ?_;(focus (intro _ _ _;first | (with_reducible refine ih.typeOr' _ _ ?_ ?_;(focus omega);(focus (unfold Ms at *;omega))) | (with_reducible refine Gd.weak (ih.typing' _ _ ?_ ?_) ?_;(focus omega);(focus (unfold Ms at *;omega));(focus omega))));intro _ _ _ _)
  | (with_reducible refine Gd.bind (ih.typeOr' _ _ ?_ ?_) ?_;(focus omega);(focus (unfold Ms at *;omega));intro _ _ _ _)
  | (with_reducible refine Gd.weak (ih.typeOr' _ _ ?_ ?_) ?_;(focus omega);(focus (unfold Ms at *;omega));(focus omega))
  | (with_reducible refine Gd.bind (ih.blk' _ _ ?_ ?_) ?_;(focus omega);(focus (unfold Ms at *;omega));intro _ _ _ _)
  | (with_reducible refine Gd.weak (ih.blk' _ _ ?_ ?_) ?_;(focus omega);(focus (unfold Ms at *;omega));(focus omega))
  | fail)
theorem gd_sprim {f : Nat} (ih : GdA L f) : ∀ (a : Nat) (o : Nat),a ≤ L.length→Ms L a o 7 ≤ f+1→Gd L (a+1) (sprimF L (f+1) a o):=by
 intros
 rw [sprimF]
 repeat (first
  | exact Gd.bad (by decide)
  | exact Gd.ok (by omega) (by omega)
  | (with_reducible refine Gd.iteS (fun _=>?_) ?_)
  | (with_reducible refine Gd.ite ?_ ?_)
  | (with_reducible refine Gd.bind want_gd ?_;intro _ _ _ _)
  | (with_reducible refine Gd.bind (listE_gd ?_ ?_) ?_;(focus (intro _ _ _;first | (with_reducible refine ih.expr' _ _ ?_ ?_;(focus omega);(focus (unfold Ms at *;omega))) | (with_reducible refine ih.prop' _ _ ?_ ?_;(focus omega);(focus (unfold Ms at *;omega)))));(focus omega);intro _ _ _ _)
  | (with_reducible refine Gd.bind (ih.expr' _ _ ?_ ?_) ?_;(focus omega);(focus (unfold Ms at *;omega));intro _ _ _ _)
  | (with_reducible refine Gd.weak (ih.expr' _ _ ?_ ?_) ?_;(focus omega);(focus (unfold Ms at *;omega));(focus omega))
  | (with_reducible refine Gd.bind (ih.arrow' _ _ ?_ ?_) ?_;(focus omega);(focus (unfold Ms at *;omega));intro _ _ _ _)
  | (with_reducible refine Gd.weak (ih.arrow' _ _ ?_ ?_) ?_;(focus omega);(focus (unfold Ms at *;omega));(focus omega))
  | fail)
theorem gd_prop {f : Nat} (ih : GdA L f) : ∀ (a : Nat) (o : Nat),a ≤ L.length→Ms L a o 5 ≤ f+1→Gd L (a+1) (propF L (f+1) a o):=by
 intros
 rw [propF]
 repeat (first
  | exact Gd.bad (by decide)
  | exact Gd.ok (by omega) (by omega)
  | (with_reducible refine Gd.iteS (fun _=>?_) ?_)
  | (with_reducible refine Gd.iteN (fun _=>?_) ?_)
  | (with_reducible refine Gd.bind prop_gd ?_;intro _ _ _ _)
  | (with_reducible refine Gd.bind (ih.expr' _ _ ?_ ?_) ?_;(focus omega);(focus (unfold Ms at *;omega));intro _ _ _ _)
  | (with_reducible refine Gd.weak (ih.expr' _ _ ?_ ?_) ?_;(focus omega);(focus (unfold Ms at *;omega));(focus omega))
  | fail)
theorem gd_arrow {f : Nat} (ih : GdA L f) : ∀ (a : Nat) (o : Nat),a ≤ L.length→Ms L a o 6 ≤ f+1→Gd L (a+1) (arrowF L (f+1) a o):=by
 intros
 rw [arrowF]
 repeat (first
  | exact Gd.ok (by omega) (by omega)
  | (with_reducible refine Gd.bind want_gd ?_;intro _ _ _ _)
  | (with_reducible refine Gd.bind (paramsG_gd ?_) ?_;(focus (intro _ _ _;first | (with_reducible refine ih.typeOr' _ _ ?_ ?_;(focus omega);(focus (unfold Ms at *;omega))) | (with_reducible refine Gd.weak (ih.typing' _ _ ?_ ?_) ?_;(focus omega);(focus (unfold Ms at *;omega));(focus omega))));intro _ _ _ _)
  | (with_reducible refine Gd.bind (ih.abody' _ _ ?_ ?_) ?_;(focus omega);(focus (unfold Ms at *;omega));intro _ _ _ _)
  | (with_reducible refine Gd.weak (ih.abody' _ _ ?_ ?_) ?_;(focus omega);(focus (unfold Ms at *;omega));(focus omega))
  | fail)
theorem gd_abody {f : Nat} (ih : GdA L f) : ∀ (a : Nat) (o : Nat),a ≤ L.length→Ms L a o 21 ≤ f+1→Gd L (a+1) (abodyF L (f+1) a o):=by
 intros
 rw [abodyF]
 repeat (first
  | exact Gd.ok (by omega) (by omega)
  | (with_reducible refine Gd.iteS (fun _=>?_) ?_)
  | (with_reducible refine Gd.bind (ih.expr' _ _ ?_ ?_) ?_;(focus omega);(focus (unfold Ms at *;omega));intro _ _ _ _)
  | (with_reducible refine Gd.weak (ih.expr' _ _ ?_ ?_) ?_;(focus omega);(focus (unfold Ms at *;omega));(focus omega))
  | (with_reducible refine Gd.bind (ih.blk' _ _ ?_ ?_) ?_;(focus omega);(focus (unfold Ms at *;omega));intro _ _ _ _)
  | (with_reducible refine Gd.weak (ih.blk' _ _ ?_ ?_) ?_;(focus omega);(focus (unfold Ms at *;omega));(focus omega))
  | fail)
theorem gd_typeOr {f : Nat} (ih : GdA L f) : ∀ (a : Nat) (o : Nat),a ≤ L.length→Ms L a o 19 ≤ f+1→Gd L a (typeOrF L (f+1) a o):=by
 intros
 rw [typeOrF]
 repeat (first
  | exact Gd.ok (by omega) (by omega)
  | (with_reducible refine Gd.iteS (fun _=>?_) ?_)
  | (with_reducible refine Gd.bind (ih.typing' _ _ ?_ ?_) ?_;(focus omega);(focus (unfold Ms at *;omega));intro _ _ _ _)
  | (with_reducible refine Gd.weak (ih.typing' _ _ ?_ ?_) ?_;(focus omega);(focus (unfold Ms at *;omega));(focus omega))
  | fail)
theorem gd_typing {f : Nat} (ih : GdA L f) : ∀ (a : Nat) (o : Nat),a ≤ L.length→Ms L a o 18 ≤ f+1→Gd L (a+1) (typingF L (f+1) a o):=by
 intros
 rw [typingF]
 repeat (first
  | (with_reducible refine Gd.bind want_gd ?_;intro _ _ _ _)
  | (with_reducible refine Gd.bind (ih.type' _ _ ?_ ?_) ?_;(focus omega);(focus (unfold Ms at *;omega));intro _ _ _ _)
  | (with_reducible refine Gd.weak (ih.type' _ _ ?_ ?_) ?_;(focus omega);(focus (unfold Ms at *;omega));(focus omega))
  | fail)
theorem gd_type {f : Nat} (ih : GdA L f) : ∀ (a : Nat) (o : Nat),a ≤ L.length→Ms L a o 20 ≤ f+1→Gd L (a+1) (typeF L (f+1) a o):=by
 intros
 rw [typeF]
 repeat (first
  | exact Gd.ok (by omega) (by omega)
  | (with_reducible refine begin_gd (fun _ _=>?_))
  | (with_reducible refine Gd.bind (unionG_gd ?_ _ _ _ (Nat.le_refl _) ?_ ?_) ?_;(focus (intro _ _ _;exact ih.ptype' _ _ (by omega) (by unfold Ms at *;omega)));(focus omega);(focus omega);intro _ _ _ _)
  | fail)
theorem gd_ptype {f : Nat} (ih : GdA L f) : ∀ (a : Nat) (o : Nat),a ≤ L.length→Ms L a o 12 ≤ f+1→Gd L (a+1) (ptypeF L (f+1) a o):=by
 intros
 rw [ptypeF]
 repeat (first
  | (with_reducible refine Gd.weak (arrayG_gd _ _ _ ?_ ?_) ?_;(focus omega);(focus omega);(focus omega))
  | (with_reducible refine Gd.bind (ih.rtype' _ _ ?_ ?_) ?_;(focus omega);(focus (unfold Ms at *;omega));intro _ _ _ _)
  | (with_reducible refine Gd.weak (ih.rtype' _ _ ?_ ?_) ?_;(focus omega);(focus (unfold Ms at *;omega));(focus omega))
  | fail)
theorem gd_rtype {f : Nat} (ih : GdA L f) : ∀ (a : Nat) (o : Nat),a ≤ L.length→Ms L a o 11 ≤ f+1→Gd L (a+1) (rtypeF L (f+1) a o):=by
 intros
 rw [rtypeF]
 repeat (first
  | exact Gd.bad (by decide)
  | exact Gd.ok (by omega) (by omega)
  | (with_reducible refine Gd.iteS (fun _=>?_) ?_)
  | (with_reducible refine Gd.iteT (fun _=>?_) ?_)
  | (with_reducible refine Gd.ite ?_ ?_)
  | (with_reducible refine Gd.bind want_gd ?_;intro _ _ _ _)
  | (with_reducible refine Gd.bind (ih.type' _ _ ?_ ?_) ?_;(focus omega);(focus (unfold Ms at *;omega));intro _ _ _ _)
  | (with_reducible refine Gd.weak (ih.type' _ _ ?_ ?_) ?_;(focus omega);(focus (unfold Ms at *;omega));(focus omega))
  | (with_reducible refine Gd.bind (ih.objt' _ _ ?_ ?_) ?_;(focus omega);(focus (unfold Ms at *;omega));intro _ _ _ _)
  | (with_reducible refine Gd.weak (ih.objt' _ _ ?_ ?_) ?_;(focus omega);(focus (unfold Ms at *;omega));(focus omega))
  | (with_reducible refine Gd.bind (ih.ftype' _ _ ?_ ?_) ?_;(focus omega);(focus (unfold Ms at *;omega));intro _ _ _ _)
  | (with_reducible refine Gd.weak (ih.ftype' _ _ ?_ ?_) ?_;(focus omega);(focus (unfold Ms at *;omega));(focus omega))
  | fail)
theorem gd_objt {f : Nat} (ih : GdA L f) : ∀ (a : Nat) (o : Nat),a ≤ L.length→Ms L a o 9 ≤ f+1→Gd L (a+1) (objtF L (f+1) a o):=by
 intros
 rw [objtF]
 repeat (first
  | exact Gd.ok (by omega) (by omega)
  | (with_reducible refine Gd.bind (fieldsG_gd ?_ _ _ _ _ (Nat.le_refl _) ?_ ?_) ?_;(focus (intro _ _ _;exact Gd.weak (ih.typing' _ _ (by omega) (by unfold Ms at *;omega)) (by omega)));(focus omega);(focus omega);intro _ _ _ _)
  | fail)
theorem gd_ftype {f : Nat} (ih : GdA L f) : ∀ (a : Nat) (o : Nat),a ≤ L.length→Ms L a o 10 ≤ f+1→Gd L (a+1) (ftypeF L (f+1) a o):=by
 intros
 rw [ftypeF]
 repeat (first
  | exact Gd.ok (by omega) (by omega)
  | (with_reducible refine Gd.bind want_gd ?_;intro _ _ _ _)
  | (with_reducible refine Gd.bind (paramsG_gd ?_) ?_;(focus (intro _ _ _;first | (with_reducible refine ih.typeOr' _ _ ?_ ?_;(focus omega);(focus (unfold Ms at *;omega))) | (with_reducible refine Gd.weak (ih.typing' _ _ ?_ ?_) ?_;(focus omega);(focus (unfold Ms at *;omega));(focus omega))));intro _ _ _ _)
  | (with_reducible refine Gd.bind (ih.type' _ _ ?_ ?_) ?_;(focus omega);(focus (unfold Ms at *;omega));intro _ _ _ _)
  | (with_reducible refine Gd.weak (ih.type' _ _ ?_ ?_) ?_;(focus omega);(focus (unfold Ms at *;omega));(focus omega))
  | fail)
theorem gd_blk {f : Nat} (ih : GdA L f) : ∀ (a : Nat) (o : Nat),a ≤ L.length→Ms L a o 19 ≤ f+1→Gd L (a+1) (blkF L (f+1) a o):=by
 intros
 rw [blkF]
 repeat (first
  | (with_reducible refine Gd.weak (blockG_gd ?_) ?_;(focus (intro _ _ _;with_reducible refine ih.stmt' _ _ ?_ ?_;(focus omega);(focus (unfold Ms at *;omega))));(focus omega))
  | fail)
theorem gd_stmt {f : Nat} (ih : GdA L f) : ∀ (a : Nat) (o : Nat),a ≤ L.length→Ms L a o 20 ≤ f+1→Gd L (a+1) (stmtF L (f+1) a o):=by
 intros
 rw [stmtF]
 repeat (first
  | (with_reducible refine begin_gd (fun _ _=>?_))
  | (with_reducible refine Gd.bind (ih.any' _ _ ?_ ?_) ?_;(focus omega);(focus (unfold Ms at *;omega));intro _ _ _ _)
  | (with_reducible refine Gd.weak (ih.any' _ _ ?_ ?_) ?_;(focus omega);(focus (unfold Ms at *;omega));(focus omega))
  | fail)
theorem gd_let {f : Nat} (ih : GdA L f) : ∀ (q : Int) (a : Nat) (o : Nat),a ≤ L.length→Ms L a o 30 ≤ f+1→Gd L (a+1) (letF L (f+1) q a o):=by
 intros
 rw [letF]
 repeat (first
  | exact Gd.ok (by omega) (by omega)
  | (with_reducible refine Gd.bind want_gd ?_;intro _ _ _ _)
  | (with_reducible refine Gd.bind id_gd ?_;intro _ _ _ _)
  | (with_reducible refine Gd.bind (ih.expr' _ _ ?_ ?_) ?_;(focus omega);(focus (unfold Ms at *;omega));intro _ _ _ _)
  | (with_reducible refine Gd.weak (ih.expr' _ _ ?_ ?_) ?_;(focus omega);(focus (unfold Ms at *;omega));(focus omega))
  | (with_reducible refine Gd.bind (ih.typeOr' _ _ ?_ ?_) ?_;(focus omega);(focus (unfold Ms at *;omega));intro _ _ _ _)
  | (with_reducible refine Gd.weak (ih.typeOr' _ _ ?_ ?_) ?_;(focus omega);(focus (unfold Ms at *;omega));(focus omega))
  | fail)
theorem gd_condi {f : Nat} (ih : GdA L f) : ∀ (a : Nat) (o : Nat),a ≤ L.length→Ms L a o 21 ≤ f+1→Gd L (a+1) (condiF L (f+1) a o):=by
 intros
 rw [condiF]
 repeat (first
  | exact Gd.ok (by omega) (by omega)
  | (with_reducible refine Gd.bind want_gd ?_;intro _ _ _ _)
  | (with_reducible refine Gd.bind (ih.expr' _ _ ?_ ?_) ?_;(focus omega);(focus (unfold Ms at *;omega));intro _ _ _ _)
  | (with_reducible refine Gd.weak (ih.expr' _ _ ?_ ?_) ?_;(focus omega);(focus (unfold Ms at *;omega));(focus omega))
  | fail)
theorem gd_els {f : Nat} (ih : GdA L f) : ∀ (a : Nat) (o : Nat),a ≤ L.length→Ms L a o 19 ≤ f+1→Gd L a (elseF L (f+1) a o):=by
 intros
 rw [elseF]
 repeat (first
  | exact Gd.ok (by omega) (by omega)
  | (with_reducible refine Gd.iteW (fun _=>?_) ?_)
  | (with_reducible refine Gd.bind (ih.blk' _ _ ?_ ?_) ?_;(focus omega);(focus (unfold Ms at *;omega));intro _ _ _ _)
  | (with_reducible refine Gd.weak (ih.blk' _ _ ?_ ?_) ?_;(focus omega);(focus (unfold Ms at *;omega));(focus omega))
  | (with_reducible refine Gd.bind (ih.stmt' _ _ ?_ ?_) ?_;(focus omega);(focus (unfold Ms at *;omega));intro _ _ _ _)
  | (with_reducible refine Gd.weak (ih.stmt' _ _ ?_ ?_) ?_;(focus omega);(focus (unfold Ms at *;omega));(focus omega))
  | fail)
theorem gd_exprOr {f : Nat} (ih : GdA L f) : ∀ (a : Nat) (o : Nat),a ≤ L.length→Ms L a o 21 ≤ f+1→Gd L a (exprOrF L (f+1) a o):=by
 intros
 rw [exprOrF]
 repeat (first
  | exact Gd.ok (by omega) (by omega)
  | (with_reducible refine Gd.iteS (fun _=>?_) ?_)
  | (with_reducible refine Gd.bind (ih.expr' _ _ ?_ ?_) ?_;(focus omega);(focus (unfold Ms at *;omega));intro _ _ _ _)
  | (with_reducible refine Gd.weak (ih.expr' _ _ ?_ ?_) ?_;(focus omega);(focus (unfold Ms at *;omega));(focus omega))
  | fail)
theorem gd_any {f : Nat} (ih : GdA L f) : ∀ (a : Nat) (o : Nat),a ≤ L.length→Ms L a o 22 ≤ f+1→Gd L (a+1) (anyF L (f+1) a o):=by
 intros
 rw [anyF]
 repeat (first
  | exact Gd.ok (by omega) (by omega)
  | (with_reducible refine Gd.iteS (fun _=>?_) ?_)
  | (with_reducible refine Gd.iteW (fun _=>?_) ?_)
  | (with_reducible refine Gd.bind want_gd ?_;intro _ _ _ _)
  | (with_reducible refine Gd.bind id_gd ?_;intro _ _ _ _)
  | (with_reducible refine Gd.bind (paramsG_gd ?_) ?_;(focus (intro _ _ _;first | (with_reducible refine ih.typeOr' _ _ ?_ ?_;(focus omega);(focus (unfold Ms at *;omega))) | (with_reducible refine Gd.weak (ih.typing' _ _ ?_ ?_) ?_;(focus omega);(focus (unfold Ms at *;omega));(focus omega))));intro _ _ _ _)
  | (with_reducible refine Gd.bind (ih.expr' _ _ ?_ ?_) ?_;(focus omega);(focus (unfold Ms at *;omega));intro _ _ _ _)
  | (with_reducible refine Gd.weak (ih.expr' _ _ ?_ ?_) ?_;(focus omega);(focus (unfold Ms at *;omega));(focus omega))
  | (with_reducible refine Gd.bind (ih.typeOr' _ _ ?_ ?_) ?_;(focus omega);(focus (unfold Ms at *;omega));intro _ _ _ _)
  | (with_reducible refine Gd.weak (ih.typeOr' _ _ ?_ ?_) ?_;(focus omega);(focus (unfold Ms at *;omega));(focus omega))
  | (with_reducible refine Gd.bind (ih.blk' _ _ ?_ ?_) ?_;(focus omega);(focus (unfold Ms at *;omega));intro _ _ _ _)
  | (with_reducible refine Gd.weak (ih.blk' _ _ ?_ ?_) ?_;(focus omega);(focus (unfold Ms at *;omega));(focus omega))
  | (with_reducible refine Gd.bind (ih.let' _ _ _ ?_ ?_) ?_;(focus omega);(focus (unfold Ms at *;omega));intro _ _ _ _)
  | (with_reducible refine Gd.weak (ih.let' _ _ _ ?_ ?_) ?_;(focus omega);(focus (unfold Ms at *;omega));(focus omega))
  | (with_reducible refine Gd.bind (ih.condi' _ _ ?_ ?_) ?_;(focus omega);(focus (unfold Ms at *;omega));intro _ _ _ _)
  | (with_reducible refine Gd.weak (ih.condi' _ _ ?_ ?_) ?_;(focus omega);(focus (unfold Ms at *;omega));(focus omega))
  | (with_reducible refine Gd.bind (ih.els' _ _ ?_ ?_) ?_;(focus omega);(focus (unfold Ms at *;omega));intro _ _ _ _)
  | (with_reducible refine Gd.weak (ih.els' _ _ ?_ ?_) ?_;(focus omega);(focus (unfold Ms at *;omega));(focus omega))
  | (with_reducible refine Gd.bind (ih.exprOr' _ _ ?_ ?_) ?_;(focus omega);(focus (unfold Ms at *;omega));intro _ _ _ _)
  | (with_reducible refine Gd.weak (ih.exprOr' _ _ ?_ ?_) ?_;(focus omega);(focus (unfold Ms at *;omega));(focus omega))
  | fail)
theorem gd_all (L : List Tok) : ∀ f,GdA L f:=by
 intro f
 induction f with
 | zero=>constructor <;> (intros;exfalso;unfold Ms at *;omega)
 | succ f ih=>exact ⟨gd_expr ih,gd_assign ih,gd_cond ih,gd_bin ih,gd_unary ih,gd_post ih,gd_prim ih,gd_wprim ih,gd_sprim ih,gd_prop ih,gd_arrow ih,gd_abody ih,gd_typeOr ih,gd_typing ih,gd_type ih,gd_ptype ih,gd_rtype ih,gd_objt ih,gd_ftype ih,gd_blk ih,gd_stmt ih,gd_let ih,gd_condi ih,gd_els ih,gd_exprOr ih,gd_any ih⟩
end Go.Proofs.YthfkfbcopinmiaaGreatDoor
