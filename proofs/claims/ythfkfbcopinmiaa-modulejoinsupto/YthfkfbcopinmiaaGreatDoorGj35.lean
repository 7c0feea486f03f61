/- Own text. Package parse: a statement that ends where the tokens end is read alike if more tokens follow,none of them an else at once (of the model;no program is named here). Package module: an item is read alike if more tokens follow (of the model;no program is named here). Package module: the items of a module are read alike if more tokens follow (of the model;no program is named here). -/
import Derived.Test.YthfkfbcopinmiaaGreatDoorGj34
import Derived.Test.YthfkfbcopinmiaaGreatDoorGj08
import Derived.Test.YthfkfbcopinmiaaGreatDoorGj22
import Derived.Test.YthfkfbcopinmiaaGreatDoorGj26
set_option linter.unusedVariables false
set_option linter.unusedSimpArgs false
set_option maxRecDepth 100000
namespace Go.Proofs.YthfkfbcopinmiaaGreatDoor
open Go.RowKit
set_option maxRecDepth 100000
variable {L M : List Tok}
def Sy {α : Type} (L : List Tok) (c : Nat) (r r' : Rs α) : Prop:=∀ x b,r = .ok x b → c ≤ b ∧ (b ≤ L.length → r' = .ok x b)
theorem Sy.bad {α : Type} {c p : Nat} {e : Int} {r' : Rs α} : Sy L c (.bad p e) r':=fun x b h=>by cases h
theorem Sy.ok {α : Type} {c b : Nat} {v : α} (h : c ≤ b) : Sy L c (.ok v b) (.ok v b):=fun x d e=>by cases e;exact ⟨h,fun _=>rfl⟩
theorem Sy.weak {α : Type} {c d : Nat} {r r' : Rs α} (h : Sy L d r r') (hc : c ≤ d) : Sy L c r r':=fun x b e=>⟨Nat.le_trans hc (h x b e).1,(h x b e).2⟩
theorem Sy.bind {α β : Type} {c d : Nat} {r r' : Rs α} {f g : α → Nat → Rs β} (hr : Sy L d r r') (hf : ∀ u a1,d ≤ a1 → Sy L (max c a1) (f u a1) (g u a1)) : Sy L c (r.bind f) (r'.bind g):=by
 cases r with
 | bad p e=>exact Sy.bad
 | ok u a1 =>
  obtain ⟨h1,h2⟩:=hr u a1 rfl
  intro x b e
  obtain ⟨h3,h4⟩:=hf u a1 h1 x b e
  refine ⟨by omega,fun hb=>?_⟩
  rw [h2 (by omega)]
  exact h4 hb
theorem Sx.then {α β : Type} {c d : Nat} {r r' : Rs α} {f g : α → Nat → Rs β} (hr : Sx L d r r') (hf : ∀ u a1,d ≤ a1 → Sy L (max c (a1 + 1)) (f u a1) (g u a1)) : Sy L c (r.bind f) (r'.bind g):=by
 cases r with
 | bad p e=>exact Sy.bad
 | ok u a1 =>
  obtain ⟨h1,h2⟩:=hr u a1 rfl
  intro x b e
  obtain ⟨h3,h4⟩:=hf u a1 h1 x b e
  refine ⟨by omega,fun hb=>?_⟩
  rw [h2 (by omega)]
  exact h4 hb
theorem Sy.ite {α : Type} {c a : Nat} {p p' : Prop} [Decidable p] [Decidable p'] {x y x' y' : Rs α} (ha : a < c) (hp : a < L.length → p' = p) (hx : p → Sy L c x x') (hy : ¬ p → Sy L c y y') : Sy L c (if p then x else y) (if p' then x' else y'):=by
 by_cases hl : a < L.length
 ·have:=hp hl
  subst this
  split
  ·rename_i h;exact hx h
  ·rename_i h;exact hy h
 ·intro z b e
  split at e
  ·rename_i h
   have:=(hx h z b e).1
   exact ⟨this,fun _=>by omega⟩
  ·rename_i h
   have:=(hy h z b e).1
   exact ⟨this,fun _=>by omega⟩
theorem want_sy (h : Pre L M) {a : Nat} {s : ByteArray} : Sy L (a + 1) (wantR L s a) (wantR M s a):=by
 unfold wantR
 by_cases q : isS L a s = true
 ·rw [if_pos q,if_pos (h.isS1 q)];exact Sy.ok (Nat.le_refl _)
 ·rw [if_neg q];exact Sy.bad
theorem id_sy (h : Pre L M) {a : Nat} : Sy L (a + 1) (idR L a) (idR M a):=by
 unfold idR
 by_cases q : isN L a = true
 ·have hl:=isN_lt q
  rw [if_pos q,if_pos (by rw [h.isN hl];exact q),(h.same a hl).2.1];exact Sy.ok (Nat.le_refl _)
 ·rw [if_neg q];exact Sy.bad
theorem begin_sy {β : Type} (h : Pre L M) {a o c : Nat} {f g : Unit → Nat → Rs β} (hf : Sy L c (f () a) (g () a)) : Sy L c ((beginR L a o).bind f) ((beginR M a o).bind g):=by
 have:=h.len
 unfold beginR
 by_cases q : L.length ≤ a
 ·rw [if_pos q];exact Sy.bad
 ·rw [if_neg q,if_neg (show ¬ M.length ≤ a by omega)]
  by_cases q2 : 400 ≤ o
  ·rw [if_pos q2];exact Sy.bad
  ·rw [if_neg q2];exact hf
theorem stmtsG_sy (h : Pre L M) {F F' : Nat → Rs Nd} (hF : ∀ a,Sx L (a + 1) (F a) (F' a)) : ∀ (n n' : Nat) (acc : List Nd) (a : Nat),n ≤ n' → Sy L (a + 1) (stmtsG L F n acc a) (stmtsG M F' n' acc a)
 | 0,_,_,_,_=>Sy.bad
 | n + 1,0,_,_,hn=>by omega
 | n + 1,n' + 1,acc,a,hn=>by
  rw [stmtsG,stmtsG]
  refine Sy.ite (a:=a) (by omega) (fun hl=>by rw [h.isS hl]) (fun _=>Sy.ok (Nat.le_refl _)) (fun _=>?_)
  cases e : F a with
  | bad p er=>exact Sy.bad
  | ok x a1 =>
   obtain ⟨h1,h2⟩:=hF a x a1 e
   intro l b el
   obtain ⟨h3,h4⟩:=stmtsG_sy h hF n n' _ _ (by omega) l b el
   refine ⟨by omega,fun hb=>?_⟩
   rw [h2 (by omega)]
   exact h4 hb
theorem blockG_sy (h : Pre L M) {F F' : Nat → Rs Nd} (hF : ∀ a,Sx L (a + 1) (F a) (F' a)) {a : Nat} : Sy L (a + 1) (blockG L F a) (blockG M F' a):=by
 have:=h.len
 exact (want_sy h).bind fun _ a1 h1=>(stmtsG_sy h hF _ _ _ _ (by omega)).bind fun _ _ h2=>Sy.ok (by omega)
def NoElse (L M : List Tok) : Prop:=isWd M L.length wElse = false
structure SyA (L M : List Tok) (f : Nat) : Prop where
 blk' : ∀ a o,Sy L (a + 1) (blkF L f a o) (blkF M f a o)
 stmt' : ∀ a o,Sy L (a + 1) (stmtF L f a o) (stmtF M f a o)
 let' : ∀ q a o,Sy L (a + 1) (letF L f q a o) (letF M f q a o)
 els' : ∀ a o,Sy L a (elseF L f a o) (elseF M f a o)
 any' : ∀ a o,Sy L (a + 1) (anyF L f a o) (anyF M f a o)
theorem sy_all (h : Pre L M) (he : NoElse L M) : ∀ f,SyA L M f:=by
 intro f
 induction f with
 | zero=>constructor <;> (intros;simp [blkF,stmtF,letF,elseF,anyF];exact Sy.bad)
 | succ f ih =>
  have X:=sx_all h f
  have hP : ∀ a o,Sx L (a + 1) (paramsG L (fun a'=>typeOrF L f a' o) a) (paramsG M (fun a'=>typeOrF M f a' o) a):=fun a o=>paramsG_sx h (fun a'=>X.typeOr' a' o)
  constructor
  ·intro a o;rw [blkF,blkF]
   exact blockG_sy h (fun a'=>X.stmt' a' o)
  ·intro a o;rw [stmtF,stmtF]
   exact begin_sy h (ih.any' _ _)
  ·intro q a o;rw [letF,letF]
   exact (id_sy h).bind fun _ _ _=>(X.typeOr' _ _).then fun _ _ _=>(want_sy h).bind fun _ _ _=>(X.expr' _ _).then fun _ _ _=>(want_sy h).bind fun _ _ _=>Sy.ok (by omega)
  ·intro a o;rw [elseF,elseF]
   by_cases hl : a < L.length
   ·rw [h.isWd hl]
    split
    ·refine Sy.weak (d:=a + 2) ?_ (by omega)
     exact Sy.ite (a:=a + 1) (by omega) (fun hl=>by rw [h.isWd hl]) (fun _=>(ih.stmt' _ _).bind fun _ _ _=>Sy.ok (by omega)) (fun _=>(ih.blk' _ _).weak (by omega))
    ·exact Sy.ok (Nat.le_refl _)
   ·rw [if_neg (fun q=>hl (isWd_lt q))]
    intro x b e
    cases e
    refine ⟨Nat.le_refl _,fun hb=>?_⟩
    obtain rfl : a = L.length:=by omega
    rw [if_neg (by rw [he];decide)]
  ·intro a o;rw [anyF,anyF]
   have hw : ∀ s : ByteArray,a < L.length → (isWd M a s = true) = (isWd L a s = true):=fun s hl=>by rw [h.isWd hl]
   refine Sy.ite (a:=a) (by omega) (hw _) (fun _=>(ih.let' _ _ _).weak (by omega)) (fun _=>?_)
   refine Sy.ite (a:=a) (by omega) (hw _) (fun _=>(ih.let' _ _ _).weak (by omega)) (fun _=>?_)
   refine Sy.ite (a:=a) (by omega) (hw _) (fun _=>(id_sy h).bind fun _ _ _=>(hP _ _).then fun _ _ _=>?_) (fun _=>?_)
   ·exact (X.typeOr' _ _).then fun _ _ _=>(ih.blk' _ _).bind fun _ _ _=>Sy.ok (by omega)
   refine Sy.ite (a:=a) (by omega) (hw _) (fun _=>(X.condi' _ _).then fun _ _ _=>?_) (fun _=>?_)
   ·exact (ih.blk' _ _).bind fun _ _ _=>(ih.els' _ _).bind fun _ _ _=>Sy.ok (by omega)
   refine Sy.ite (a:=a) (by omega) (hw _) (fun _=>(X.condi' _ _).then fun _ _ _=>(ih.blk' _ _).bind fun _ _ _=>Sy.ok (by omega)) (fun _=>?_)
   refine Sy.ite (a:=a) (by omega) (hw _) (fun _=>(X.exprOr' _ _).then fun _ _ _=>(want_sy h).bind fun _ _ _=>Sy.ok (by omega)) (fun _=>?_)
   refine Sy.ite (a:=a) (by omega) (hw _) (fun _=>(X.expr' _ _).then fun _ _ _=>(want_sy h).bind fun _ _ _=>Sy.ok (by omega)) (fun _=>?_)
   refine Sy.ite (a:=a) (by omega) (fun hl=>by rw [h.isS hl]) (fun _=>(ih.blk' _ _)) (fun _=>(X.expr' _ _).then fun _ _ _=>(want_sy h).bind fun _ _ _=>Sy.ok (by omega))
end Go.Proofs.YthfkfbcopinmiaaGreatDoor
set_option linter.unusedVariables false
set_option linter.unusedSimpArgs false
set_option maxRecDepth 100000
namespace Go.Proofs.YthfkfbcopinmiaaGreatDoor
open Go.RowKit
set_option maxRecDepth 100000
variable {L M : List Tok}
theorem fuel_pre (h : Pre L M) : fuelL L ≤ fuelL M:=by
 have:=h.len
 unfold fuelL
 omega
theorem okm_ne {x : Nd} {b : Nat} : ∀ p,(Rs.ok x b : Rs Nd) ≠ .bad p 0:=fun p h=>by cases h
theorem exprM_sx (h : Pre L M) (a : Nat) : Sx L (a + 1) (exprM L a) (exprM M a):=fun x b e=>⟨((sx_all h _).expr' a 0 x b e).1,fun hb=>expr_more (((sx_all h _).expr' a 0 x b e).2 hb) okm_ne (fuel_pre h)⟩
theorem typeM_sx (h : Pre L M) (a : Nat) : Sx L (a + 1) (typeM L a) (typeM M a):=fun x b e=>⟨((sx_all h _).type' a 0 x b e).1,fun hb=>type_more (((sx_all h _).type' a 0 x b e).2 hb) okm_ne (fuel_pre h)⟩
theorem stmtM_sx (h : Pre L M) (a : Nat) : Sx L (a + 1) (stmtM L a) (stmtM M a):=fun x b e=>⟨((sx_all h _).stmt' a 0 x b e).1,fun hb=>stmt_more (((sx_all h _).stmt' a 0 x b e).2 hb) okm_ne (fuel_pre h)⟩
theorem stmtM_sy (h : Pre L M) (he : NoElse L M) (a : Nat) : Sy L (a + 1) (stmtM L a) (stmtM M a):=fun x b e=>⟨((sy_all h he _).stmt' a 0 x b e).1,fun hb=>stmt_more (((sy_all h he _).stmt' a 0 x b e).2 hb) okm_ne (fuel_pre h)⟩
theorem toM_sx (h : Pre L M) (a : Nat) : Sx L a (toM L a) (toM M a):=Sx.iteS h (Nat.le_refl _) (fun _=>(typeM_sx h _).weak (by omega)) (Sx.ok (Nat.le_refl _))
theorem endM_sy (h : Pre L M) (n : Nd) (a : Nat) : Sy L (a + 1) (endM L n a) (endM M n a):=(want_sy h).bind fun _ _ _=>Sy.ok (by omega)
theorem prop_sy (h : Pre L M) {a : Nat} : Sy L (a + 1) (propR' L a) (propR' M a):=by
 unfold propR'
 by_cases q : isN L a = true ∨ (tokA L a).k = 2
 ·have hl : a < L.length:=q.elim isN_lt (fun q=>kind_lt (by rw [q];decide))
  rw [if_pos q,if_pos (by rw [h.isN hl,(h.same a hl).1];exact q),(h.same a hl).2.1];exact Sy.ok (Nat.le_refl _)
 ·rw [if_neg q];exact Sy.bad
theorem Pre.isNm (h : Pre L M) {a : Nat} (ha : a < L.length) (s : ByteArray) : isNm M a s = isNm L a s:=by unfold Go.Proofs.YthfkfbcopinmiaaGreatDoor.isNm;rw [(h.same a ha).1,(h.same a ha).2.1]
theorem nameM_sy (h : Pre L M) (s : ByteArray) (a : Nat) : Sy L (a + 1) (nameM L s a) (nameM M s a):=by
 unfold nameM
 by_cases q : isNm L a s = true
 ·rw [if_pos q,if_pos (by rw [h.isNm (isNm_lt q)];exact q)];exact Sy.ok (Nat.le_refl _)
 ·rw [if_neg q];exact Sy.bad
theorem requestM_sy (h : Pre L M) (a : Nat) : Sy L (a + 1) (requestM L a) (requestM M a):=by
 unfold requestM
 by_cases q : (tokA L a).k = 4
 ·have hl : a < L.length:=kind_lt (by rw [q];decide)
  rw [if_pos q,if_pos (by rw [(h.same a hl).1];exact q),(h.same a hl).2.1];exact Sy.ok (Nat.le_refl _)
 ·rw [if_neg q];exact Sy.bad
theorem requestedM_sy (h : Pre L M) (a : Nat) : Sy L (a + 1) (requestedM L a) (requestedM M a):=by
 unfold requestedM
 refine Sy.ite (a:=a) (by omega) (fun hl=>by rw [(h.same a hl).2.1]) (fun _=>Sy.bad) (fun _=>requestM_sy h a)
theorem aliasM_sy (h : Pre L M) (a : Nat) : Sy L (a + 2) (aliasM L a) (aliasM M a) :=
 (id_sy h).bind fun _ _ _=>(want_sy h).bind fun _ _ _=>(typeM_sx h _).then fun _ _ _=>(endM_sy h _ _).weak (by omega)
theorem parM_sx (h : Pre L M) {a : Nat} : Sx L (a + 1) (paramsG L (toM L) a) (paramsG M (toM M) a):=paramsG_sx h (toM_sx h)
theorem blkM_sy (h : Pre L M) {a : Nat} : Sy L (a + 1) (blockG L (stmtM L) a) (blockG M (stmtM M) a):=blockG_sy h (stmtM_sx h)
theorem ctorM_sy (h : Pre L M) (m : Mem) (a : Nat) : Sy L (a + 3) (ctorM L m a) (ctorM M m a):=by
 unfold ctorM
 split
 ·exact parM_sx h |>.then fun _ _ _=>(blkM_sy h).bind fun _ _ _=>Sy.ok (by omega)
 ·exact Sy.bad
theorem methodM_sy (h : Pre L M) (m : Mem) (t : ByteArray) (a : Nat) : Sy L (a + 2) (methodM L m t a) (methodM M m t a) :=
 (parM_sx h).then fun _ _ _=>(toM_sx h _).then fun _ _ _=>(blkM_sy h).bind fun _ _ _=>Sy.ok (by omega)
theorem fieldM_sy (h : Pre L M) (m : Mem) (t : ByteArray) (a : Nat) : Sy L (a + 1) (fieldM L m t a) (fieldM M m t a) :=
 (toM_sx h _).then fun _ _ _=>(want_sy h).bind fun _ _ _=>(exprM_sx h _).then fun _ _ _=>(want_sy h).bind fun _ _ _=>Sy.ok (by omega)
theorem add_sy {β : Type} (h : Pre L M) {a c : Nat} {ns : List (List UInt8)} (hl : a < L.length) {f g : List (List UInt8) → Nat → Rs β} (hf : ∀ u,Sy L c (f u a) (g u a)) : Sy L c ((addR L ns a).bind f) ((addR M ns a).bind g):=by
 unfold addR
 rw [(h.same a hl).2.1]
 by_cases q : (tokA L a).t.data.toList ∈ ns
 ·rw [if_pos q];exact Sy.bad
 ·rw [if_neg q];exact hf _
theorem memberM_sy (h : Pre L M) (m : Mem) (a : Nat) : Sy L (a + 2) (memberM L m a) (memberM M m a):=by
 unfold memberM
 by_cases hl : a < L.length
 ·refine Sy.ite (a:=a + 1) (by omega) (fun hl1=>by rw [h.isNm hl,h.isS hl1]) (fun _=>(ctorM_sy h m a).weak (by omega)) (fun _=>add_sy h hl fun ns=>(prop_sy h).bind fun t a1 h1=>?_)
  exact Sy.weak (d:=a1 + 1) (Sy.ite (a:=a1) (by omega) (fun hl=>by rw [h.isS hl]) (fun _=>(methodM_sy h _ _ _).weak (by omega)) (fun _=>(fieldM_sy h _ _ _).weak (by omega))) (by omega)
 ·intro x b e
  exfalso
  rw [if_neg (fun q=>hl (isNm_lt q.1))] at e
  cases e1 : addR L m.ns a with
  | bad p er=>rw [e1] at e;cases e
  | ok u c =>
   rw [e1,Rs.bind_ok] at e
   unfold propR' at e
   rw [if_neg (fun q=>hl (q.elim isN_lt (fun q=>kind_lt (by rw [q];decide))))] at e
   cases e
theorem membersM_sy (h : Pre L M) : ∀ (n n' : Nat) (m : Mem) (a : Nat),n ≤ n' → Sy L (a + 1) (membersM L n m a) (membersM M n' m a)
 | 0,_,_,_,_=>Sy.bad
 | n + 1,0,_,_,hn=>by omega
 | n + 1,n' + 1,m,a,hn=>Sy.ite (a:=a) (by omega) (fun hl=>by rw [h.isS hl]) (fun _=>Sy.ok (Nat.le_refl _)) (fun _=>(memberM_sy h m a).bind fun _ _ _=>(membersM_sy h n n' _ _ (by omega)).weak (by omega))
theorem classM_sy (h : Pre L M) (a : Nat) : Sy L (a + 2) (classM L a) (classM M a):=by
 have:=h.len
 exact (id_sy h).bind fun _ _ _=>(want_sy h).bind fun _ _ _=>(membersM_sy h _ _ _ _ (by omega)).bind fun _ _ _=>Sy.ok (by omega)
theorem starM_sx (h : Pre L M) {a : Nat} (hl : a < L.length) : Sy L (a + 1) (starM L a) (starM M a):=by
 unfold starM
 rw [(h.same a hl).2.1]
 exact (nameM_sy h _ _).bind fun _ _ _=>(id_sy h).bind fun _ _ _=>Sy.ok (by omega)
theorem Sy.sx {α : Type} {c : Nat} {r r' : Rs α} (h : Sy L c r r') : Sx L c r r':=fun x b e=>⟨(h x b e).1,fun hb=>(h x b e).2 (by omega)⟩
theorem importOneM_sx (h : Pre L M) (a : Nat) : Sx L (a + 1) (importOneM L a) (importOneM M a) :=
 (prop_sx h).bind fun _ a1 h1=>Sx.ite (a:=a1) (by omega) (fun hl=>by rw [h.isNm hl]) (fun _=>(id_sx h).bind fun _ _ _=>Sx.ok (by omega)) (fun _=>Sx.ite (a:=a) (by omega) (fun hl=>by rw [h.isN hl]) (fun _=>Sx.ok (by omega)) (fun _=>Sx.bad))
theorem clauseRestM_sx (h : Pre L M) (types : Bool) (acc : List Nd) (a : Nat) : Sx L (a + 1) (clauseRestM L types acc a) (clauseRestM M types acc a):=by
 unfold clauseRestM
 refine Sx.ite (a:=a) (by omega) (fun hl=>by rw [h.isS hl]) (fun q=>(starM_sx h (isS_lt q.2)).sx.bind fun _ _ _=>Sx.ok (by omega)) (fun _=>(want_sx h).bind fun _ a1 h1=>?_)
 exact Sx.weak (d:=max (a + 1) (a1 + 1)) (Sx.ite (a:=a1) (by omega) (fun hl=>by rw [h.isS hl]) (fun _=>Sx.bad) (fun _=>(listE_sx h (importOneM_sx h)).bind fun _ _ _=>Sx.ok (by omega))) (by omega)
theorem clauseM_sx (h : Pre L M) (types : Bool) (a : Nat) : Sx L (a + 1) (clauseM L types a) (clauseM M types a):=by
 unfold clauseM
 by_cases hl : a < L.length
 ·rw [h.isN hl,(h.same a hl).2.1]
  split
  ·exact Sx.ite (a:=a + 1) (by omega) (fun hl=>by rw [h.isS hl]) (fun _=>(clauseRestM_sx h types _ _).weak (by omega)) (fun _=>Sx.ok (Nat.le_refl _))
  ·exact clauseRestM_sx h types _ _
 ·intro x b e
  rw [if_neg (fun q=>hl (isN_lt q))] at e
  exact ⟨(clauseRestM_sx h types _ _ x b e).1,fun hb=>by have:=(clauseRestM_sx h types _ _ x b e).1;omega⟩
theorem Sy.swap {α : Type} {c a : Nat} {r r' r'' : Rs α} (h : Sy L c r r') (ha : a < c) (hp : a < L.length → r'' = r') : Sy L c r r'':=fun x b e=>⟨(h x b e).1,fun hb=>by rw [hp (by have:=(h x b e).1;omega)];exact (h x b e).2 hb⟩
theorem typesAlone_pre (h : Pre L M) {a : Nat} (ha : a + 2 < L.length) : typesAloneM M a = typesAloneM L a:=by
 unfold typesAloneM
 rw [h.isNm (by omega),h.isNm (by omega),(h.same (a + 2) ha).1,h.isN (by omega),h.isS (by omega)]
theorem importM_sy (h : Pre L M) (a : Nat) : Sy L (a + 3) (importM L a) (importM M a):=by
 unfold importM
 refine Sy.ite (a:=a + 1) (by omega) (fun hl=>by rw [(h.same _ hl).1]) (fun _=>(requestM_sy h _).bind fun _ _ _=>(endM_sy h _ _).weak (by omega)) (fun _=>?_)
 have key : ∀ T : Bool,Sy L (a + 5) ((clauseM L T (a + 1 + T.toNat)).bind fun l a1=>(nameM L nFrom a1).bind fun _ a2=>(requestM L a2).bind fun t a3=>endM L (.mk 60 t (if T = true then 1 else 0) l) a3) ((clauseM M T (a + 1 + T.toNat)).bind fun l a1=>(nameM M nFrom a1).bind fun _ a2=>(requestM M a2).bind fun t a3=>endM M (.mk 60 t (if T = true then 1 else 0) l) a3):=fun T =>
  (clauseM_sx h T _).then fun _ _ _=>(nameM_sy h _ _).bind fun _ _ _=>(requestM_sy h _).bind fun _ _ _=>(endM_sy h _ _).weak (by omega)
 exact (Sy.swap (a:=a + 3) (key (typesAloneM L (a + 1))) (by omega) (fun hl=>by rw [typesAlone_pre h (by omega)])).weak (by omega)
theorem exportOneM_sx (h : Pre L M) (a : Nat) : Sx L (a + 1) (exportOneM L a) (exportOneM M a) :=
 (prop_sx h).bind fun _ a1 h1=>Sx.ite (a:=a1) (by omega) (fun hl=>by rw [h.isNm hl]) (fun _=>(prop_sx h).bind fun _ _ _=>Sx.ok (by omega)) (fun _=>Sx.ok (by omega))
theorem exportAllM_sy (h : Pre L M) {a : Nat} (hl : a < L.length) : Sy L (a + 4) (exportAllM L a) (exportAllM M a):=by
 unfold exportAllM
 rw [(h.same a hl).2.1]
 have key : Sx L (a + 1) (if isNm L (a + 1) nAs = true then (propR' L (a + 2)).bind fun u a1=>Rs.ok (mk0 6 u []) a1 else .ok noneN (a + 1)) (if isNm M (a + 1) nAs = true then (propR' M (a + 2)).bind fun u a1=>Rs.ok (mk0 6 u []) a1 else .ok noneN (a + 1)) :=
  Sx.ite (a:=a + 1) (by omega) (fun hl=>by rw [h.isNm hl]) (fun _=>(prop_sx h).bind fun _ _ _=>Sx.ok (by omega)) (fun _=>Sx.ok (Nat.le_refl _))
 exact key.then fun _ _ _=>(nameM_sy h _ _).bind fun _ _ _=>(requestedM_sy h _).bind fun _ _ _=>(endM_sy h _ _).weak (by omega)
theorem here_pre (h : Pre L M) : ∀ (n k k' : Nat) (H : Bool) (acc : List Nd) (a : Nat) (l : List Nd) (b : Nat),n ≤ k → n ≤ k' → listG L sCc (fun (_ : Unit) b=>(exportOneM L b).bind fun x c=>.ok (x,()) c) n acc () a = .ok l b → b < L.length → hereM M k' H a = hereM L k H a
 | 0,_,_,_,_,_,_,_,_,_,e,_=>by rw [listG] at e;cases e
 | n + 1,0,_,_,_,_,_,_,hk,_,_,_=>by omega
 | n + 1,k + 1,0,_,_,_,_,_,_,hk,_,_=>by omega
 | n + 1,k + 1,k' + 1,H,acc,a,l,b,hk,hk',e,hb=>by
  have hlow:=(listG_sx h (s:=sCc) (F:=fun (_ : Unit) b=>(exportOneM L b).bind fun x c=>.ok (x,()) c) (F':=fun (_ : Unit) b=>(exportOneM M b).bind fun x c=>.ok (x,()) c) (fun _ a=>(exportOneM_sx h a).bind (fun x c hc=>Sx.ok (v:=(x,())) (by omega))) (n + 1) (n + 1) acc () a (Nat.le_refl _) l b e).1
  rw [listG] at e
  rw [hereM,hereM,h.isS (by omega)]
  by_cases hs : isS L a sCc = true
  ·rw [if_pos hs,if_pos hs]
  ·rw [if_neg hs] at e
   rw [if_neg hs,if_neg hs]
   cases hx : exportOneM L a with
   | bad p er=>rw [hx] at e;cases e
   | ok x a1 =>
    rw [hx] at e
    simp only [Rs.bind] at e
    obtain ⟨h1,h2⟩:=exportOneM_sx h a x a1 hx
    have hlow2 : a1 < b:=by
     by_cases q1 : isS L a1 sCc = true
     ·rw [if_pos q1] at e
      exact (listG_sx h (s:=sCc) (F:=fun (_ : Unit) b=>(exportOneM L b).bind fun x c=>.ok (x,()) c) (F':=fun (_ : Unit) b=>(exportOneM M b).bind fun x c=>.ok (x,()) c) (fun _ a=>(exportOneM_sx h a).bind (fun x c hc=>Sx.ok (v:=(x,())) (by omega))) n n _ () a1 (Nat.le_refl _) l b e).1
     ·rw [if_neg q1] at e
      by_cases q2 : isS L a1 sCm = true
      ·rw [if_pos q2] at e
       have:=(listG_sx h (s:=sCc) (F:=fun (_ : Unit) b=>(exportOneM L b).bind fun x c=>.ok (x,()) c) (F':=fun (_ : Unit) b=>(exportOneM M b).bind fun x c=>.ok (x,()) c) (fun _ a=>(exportOneM_sx h a).bind (fun x c hc=>Sx.ok (v:=(x,())) (by omega))) n n _ () (a1 + 1) (Nat.le_refl _) l b e).1
       omega
      ·rw [if_neg q2] at e
       cases e
    rw [h2 (by omega)]
    simp only
    rw [h.isS (by omega),h.isN (by omega)]
    by_cases q1 : isS L a1 sCc = true
    ·rw [if_pos q1] at e
     rw [if_pos q1]
     exact here_pre h n k k' _ _ _ l b (by omega) (by omega) e hb
    ·rw [if_neg q1] at e
     rw [if_neg q1]
     by_cases q2 : isS L a1 sCm = true
     ·rw [if_pos q2] at e
      exact here_pre h n k k' _ _ _ l b (by omega) (by omega) e hb
     ·rw [if_neg q2] at e
      cases e
theorem exportNamesM_sy (h : Pre L M) (types : Int) (a : Nat) : Sy L (a + 3) (exportNamesM L types a) (exportNamesM M types a):=by
 have hlen:=h.len
 unfold exportNamesM
 refine Sy.ite (a:=a + 1) (by omega) (fun hl=>by rw [h.isS hl]) (fun _=>Sy.bad) (fun _=>?_)
 cases e : listE L (exportOneM L) sCc (a + 1) with
 | bad p er=>exact Sy.bad
 | ok l a1 =>
  obtain ⟨h1,h2⟩:=listE_sx h (exportOneM_sx h) l a1 e
  intro x b ex
  rw [Rs.bind_ok] at ex
  have key : Sy L (a1 + 1) (if hereM L (L.length + 1) true (a + 1) = true ∧ isS L a1 sSe = true then endM L (.mk 64 mtT types l) a1 else (nameM L nFrom a1).bind fun _ a2=>(requestedM L a2).bind fun t a3=>endM L (.mk 64 t types l) a3) (if hereM M (M.length + 1) true (a + 1) = true ∧ isS M a1 sSe = true then endM M (.mk 64 mtT types l) a1 else (nameM M nFrom a1).bind fun _ a2=>(requestedM M a2).bind fun t a3=>endM M (.mk 64 t types l) a3) :=
   Sy.ite (a:=a1) (by omega) (fun hl=>by rw [h.isS hl,here_pre h (L.length + 1 - (a + 1)) (L.length + 1) (M.length + 1) true [] (a + 1) l a1 (by omega) (by omega) e hl]) (fun _=>endM_sy h _ _) (fun _=>(nameM_sy h _ _).bind fun _ _ _=>(requestedM_sy h _).bind fun _ _ _=>(endM_sy h _ _).weak (by omega))
  obtain ⟨h3,h4⟩:=key x b ex
  refine ⟨by omega,fun hb=>?_⟩
  rw [h2 (by omega),Rs.bind_ok]
  exact h4 hb
theorem declaredM_sy (h : Pre L M) (he : NoElse L M) (a : Nat) : Sy L (a + 1) (declaredM L a) (declaredM M a) :=
 Sy.ite (a:=a) (by omega) (fun hl=>by rw [h.isWd hl,h.isWd hl,h.isWd hl]) (fun _=>stmtM_sy h he a) (fun _=>Sy.ite (a:=a) (by omega) (fun hl=>by rw [h.isWd hl]) (fun _=>(classM_sy h a).weak (by omega)) (fun _=>Sy.ite (a:=a) (by omega) (fun hl=>by rw [h.isNm hl]) (fun _=>(aliasM_sy h a).weak (by omega)) (fun _=>Sy.bad)))
theorem defaultedM_sy (h : Pre L M) (he : NoElse L M) (a : Nat) : Sy L (a + 1) (defaultedM L a) (defaultedM M a) :=
 Sy.ite (a:=a) (by omega) (fun hl=>by rw [h.isWd hl]) (fun _=>stmtM_sy h he a) (fun _=>Sy.ite (a:=a) (by omega) (fun hl=>by rw [h.isWd hl]) (fun _=>(classM_sy h a).weak (by omega)) (fun _=>(exprM_sx h a).then fun _ _ _=>(endM_sy h _ _).weak (by omega)))
theorem exportM_sy (h : Pre L M) (he : NoElse L M) (a : Nat) : Sy L (a + 2) (exportM L a) (exportM M a):=by
 unfold exportM
 refine Sy.ite (a:=a + 1) (by omega) (fun hl=>by rw [h.isWd hl]) (fun _=>(defaultedM_sy h he _).bind fun _ _ _=>Sy.ok (by omega)) (fun _=>?_)
 refine Sy.ite (a:=a + 1) (by omega) (fun hl=>by rw [h.isS hl]) (fun q=>(exportAllM_sy h (isS_lt q)).weak (by omega)) (fun _=>?_)
 refine Sy.ite (a:=a + 1) (by omega) (fun hl=>by rw [h.isS hl]) (fun _=>(exportNamesM_sy h 0 _).weak (by omega)) (fun _=>?_)
 by_cases hn : isNm L (a + 1) nType = true
 ·have hl1:=isNm_lt hn
  have hd : ∀ {N : List Tok},isNm N (a + 1) nType = true → declaredM N (a + 1) = aliasM N (a + 1):=fun {N} q=>by
   have hk : (tokA N (a + 1)).k = 1:=by
    unfold isNm at q
    simp only [Bool.and_eq_true,beq_iff_eq] at q
    exact q.1
   have hw : ∀ s : ByteArray,isWd N (a + 1) s = false:=fun s=>by
    unfold isWd
    rw [hk]
    rfl
   unfold declaredM
   rw [hw,hw,hw,hw,if_neg (by decide),if_neg (by decide),if_pos q]
  rw [hd hn,hd (by rw [h.isNm hl1];exact hn)]
  exact Sy.weak (d:=a + 3) (Sy.ite (a:=a + 2) (by omega) (fun hl=>by rw [h.isNm hl1,h.isS hl]) (fun _=>(exportNamesM_sy h 1 _).weak (by omega)) (fun _=>(aliasM_sy h (a + 1)).bind fun _ _ _=>Sy.ok (by omega))) (by omega)
 ·rw [if_neg (fun q=>hn q.1)]
  exact Sy.swap (a:=a + 1) ((declaredM_sy h he (a + 1)).bind fun _ _ _=>Sy.ok (by omega)) (by omega) (fun hl=>by rw [if_neg (fun q=>hn (by rw [← h.isNm hl];exact q.1))])
end Go.Proofs.YthfkfbcopinmiaaGreatDoor
set_option linter.unusedVariables false
set_option linter.unusedSimpArgs false
set_option maxRecDepth 100000
namespace Go.Proofs.YthfkfbcopinmiaaGreatDoor
open Go.RowKit
set_option maxRecDepth 100000
variable {L M : List Tok}
theorem stmt_name {a b f o : Nat} {x : Nd} (hk : (tokA L a).k = 1) (e : stmtF L f a o = .ok x b) : ∃ a1,a + 1 ≤ a1 ∧ b = a1 + 1 ∧ isS L a1 sSe = true:=by
 have hw : ∀ s : ByteArray,isWd L a s = false:=fun s=>by unfold isWd;rw [hk];rfl
 have hs : ∀ s : ByteArray,isS L a s = false:=fun s=>by unfold isS;rw [hk];rfl
 cases f with
 | zero=>rw [stmtF] at e;cases e
 | succ f =>
  rw [stmtF] at e
  cases hb : beginR L a o with
  | bad p er=>rw [hb] at e;cases e
  | ok u c =>
   rw [hb,Rs.bind_ok] at e
   cases f with
   | zero=>rw [anyF] at e;cases e
   | succ f =>
    rw [anyF] at e
    simp only [hw,hs,Bool.false_eq_true,if_false] at e
    cases he : exprF L f a (o + 1) with
    | bad p er=>rw [he] at e;cases e
    | ok y a1 =>
     rw [he,Rs.bind_ok] at e
     have h1:=(mono_all L f).expr' a (o + 1) y a1 he
     by_cases q : isS L a1 sSe = true
     ·rw [wantR_yes q,Rs.bind_ok] at e
      cases e
      exact ⟨a1,h1,rfl,q⟩
     ·rw [wantR_no (by simpa using q)] at e
      cases e
theorem isN_of_nm {a : Nat} {s : ByteArray} (h : isNm L a s = true) : (tokA L a).k = 1:=by
 unfold isNm at h
 simp only [Bool.and_eq_true,beq_iff_eq] at h
 exact h.1
theorem opens_pre (h : Pre L M) {a b : Nat} {n s : ByteArray} {x : Nd} (e : stmtM L a = .ok x b) (hb : b ≤ L.length) (ho : opensM L a n s = false) : opensM M a n s = false:=by
 have hlow : a + 1 ≤ b:=(mono_all L _).stmt' a 0 x b e
 have ha : a < L.length:=by omega
 cases hM : opensM M a n s with
 | false=>rfl
 | true =>
  exfalso
  unfold opensM at hM ho
  simp only [Bool.and_eq_true] at hM
  rw [h.isNm ha] at hM
  obtain ⟨⟨h1,h2⟩,h3⟩:=hM
  obtain ⟨a1,h4,rfl,h6⟩:=stmt_name (isN_of_nm h1) e
  by_cases hl : a + 2 < L.length
  ·rw [h.isN (by omega)] at h2
   rw [h.isS hl] at h3
   rw [h1,h2,h3] at ho
   cases ho
  ·obtain rfl : a1 = a + 1:=by omega
   rw [h.isN (by omega)] at h2
   unfold isN at h2
   unfold isS at h6
   simp only [Bool.and_eq_true,beq_iff_eq] at h2 h6
   omega
theorem opens_lt {a : Nat} {n s : ByteArray} (h : opensM L a n s = true) : a + 2 < L.length:=by
 unfold opensM at h
 simp only [Bool.and_eq_true] at h
 exact isS_lt h.2
theorem opens_yes (h : Pre L M) {a : Nat} {n s : ByteArray} (ho : opensM L a n s = true) : opensM M a n s = true:=by
 have hl:=opens_lt ho
 unfold opensM at *
 rw [h.isNm (by omega),h.isN (by omega),h.isS hl]
 exact ho
theorem choice_sy (h : Pre L M) (he : NoElse L M) {n s : ByteArray} {X X' : Nat → Rs Nd} (hX : ∀ a,Sy L (a + 2) (X a) (X' a)) (a : Nat) : Sy L (a + 1) (if opensM L a n s = true then X a else stmtM L a) (if opensM M a n s = true then X' a else stmtM M a):=by
 by_cases ho : opensM L a n s = true
 ·rw [if_pos ho,if_pos (opens_yes h ho)]
  exact (hX a).weak (by omega)
 ·rw [if_neg ho]
  intro x b e
  obtain ⟨h1,h2⟩:=stmtM_sy h he a x b e
  refine ⟨h1,fun hb=>?_⟩
  rw [if_neg (by rw [opens_pre h e hb (by simpa using ho)];decide)]
  exact h2 hb
theorem itemM_sy (h : Pre L M) (he : NoElse L M) (a : Nat) : Sy L (a + 1) (itemM L a) (itemM M a) :=
 Sy.ite (a:=a) (by omega) (fun hl=>by rw [h.isWd hl]) (fun _=>(classM_sy h a).weak (by omega)) (fun _=>Sy.ite (a:=a) (by omega) (fun hl=>by rw [h.isWd hl]) (fun _=>(importM_sy h a).weak (by omega)) (fun _=>Sy.ite (a:=a) (by omega) (fun hl=>by rw [h.isWd hl]) (fun _=>(exportM_sy h he a).weak (by omega)) (fun _=>choice_sy h he (aliasM_sy h) a)))
theorem items_sy (h : Pre L M) {I I' : Nat → Rs Nd} (hI : ∀ a,Sy L (a + 1) (I a) (I' a)) (hB : ∀ a x b,I a = .ok x b → b ≤ L.length) : ∀ (n : Nat) (acc : List Nd) (a : Nat) (l : List Nd) (b : Nat),a ≤ L.length → itemsM L I n acc a = .ok l b → ∃ j,j < n ∧ j ≤ L.length - a ∧ ∀ k,itemsM M I' (j + k) acc a = itemsM M I' k l L.length
 | 0,_,_,_,_,_,e=>by rw [itemsM] at e;cases e
 | n + 1,acc,a,l,b,ha,e=>by
  rw [itemsM] at e
  by_cases hl : L.length ≤ a
  ·rw [if_pos hl] at e
   cases e
   obtain rfl : a = L.length:=by omega
   exact ⟨0,by omega,by omega,fun k=>by rw [Nat.zero_add]⟩
  ·rw [if_neg hl] at e
   cases hx : I a with
   | bad p er=>rw [hx] at e;cases e
   | ok x a1 =>
    rw [hx,Rs.bind_ok] at e
    obtain ⟨h1,h2⟩:=hI a x a1 hx
    have hb1:=hB a x a1 hx
    obtain ⟨j,h3,h4,h5⟩:=items_sy h hI hB n _ a1 l b hb1 e
    have hlen:=h.len
    refine ⟨j + 1,by omega,by omega,fun k=>?_⟩
    rw [show j + 1 + k = (j + k) + 1 by omega,itemsM,if_neg (by omega),h2 hb1,Rs.bind_ok]
    exact h5 k
end Go.Proofs.YthfkfbcopinmiaaGreatDoor
