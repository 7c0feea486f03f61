/- Own text. Package parse: what is read,and has a token behind it,is read alike if more tokens follow (of the model;no program is named here). -/
import Derived.Test.YthfkfbcopinmiaaGreatDoorGj33
set_option linter.unusedVariables false
set_option linter.unusedSimpArgs false
set_option maxRecDepth 100000
set_option maxHeartbeats 20000000
namespace Go.Proofs.YthfkfbcopinmiaaGreatDoor
open Go.RowKit
structure Pre (L M : List Tok) : Prop where
 len : L.length ≤ M.length
 same : ∀ a,a < L.length → (tokA M a).k = (tokA L a).k ∧ (tokA M a).t = (tokA L a).t ∧ (tokA M a).n = (tokA L a).n
variable {L M : List Tok}
theorem Pre.isS (h : Pre L M) {a : Nat} (ha : a < L.length) (s : ByteArray) : isS M a s = isS L a s:=by unfold Go.Proofs.YthfkfbcopinmiaaGreatDoor.isS;rw [(h.same a ha).1,(h.same a ha).2.1]
theorem Pre.isWd (h : Pre L M) {a : Nat} (ha : a < L.length) (s : ByteArray) : isWd M a s = isWd L a s:=by unfold Go.Proofs.YthfkfbcopinmiaaGreatDoor.isWd;rw [(h.same a ha).1,(h.same a ha).2.1]
theorem Pre.isN (h : Pre L M) {a : Nat} (ha : a < L.length) : isN M a = isN L a:=by unfold Go.Proofs.YthfkfbcopinmiaaGreatDoor.isN;rw [(h.same a ha).1]
theorem Pre.isS1 (h : Pre L M) {a : Nat} {s : ByteArray} (hs : Go.Proofs.YthfkfbcopinmiaaGreatDoor.isS L a s = true) : Go.Proofs.YthfkfbcopinmiaaGreatDoor.isS M a s = true:=by rw [h.isS (isS_lt hs)];exact hs
theorem Pre.sum (h : Pre L M) : ∀ c,c ≤ L.length → sumO M c = sumO L c
 | 0,_=>rfl
 | c + 1,hc=>by
  show sumO M c + openI (tokA M c) = sumO L c + openI (tokA L c)
  rw [h.sum c (by omega),open_eq (h.same c (by omega)).1 (h.same c (by omega)).2.1]
theorem Pre.arrow (h : Pre L M) {a b : Nat} (hA : AtO L a 0 b) (hab : a < b) (hb : b < L.length) : arrow M a = arrow L a:=by
 obtain ⟨j,h1,h2,h3,h4⟩:=first_zero hA hab
 have hl:=h.len
 unfold Go.Proofs.YthfkfbcopinmiaaGreatDoor.arrow
 rw [arr_at (L:=L) (j:=j) (by omega) (j - a) a 0 (by omega) (fun c hc1 hc2=>by have:=h4 c hc1 hc2;omega) (by omega)]
 rw [arr_at (L:=M) (j:=j) (by omega) (j - a) a 0 (by omega) ?_ ?_]
 ·exact h.isS (by omega) _
 ·intro c hc1 hc2
  have:=h4 c hc1 hc2
  rw [h.sum _ (by omega),h.sum _ (by omega)]
  omega
 ·rw [h.sum _ (by omega),h.sum _ (by omega)]
  omega
def Sx {α : Type} (L : List Tok) (c : Nat) (r r' : Rs α) : Prop:=∀ x b,r = .ok x b → c ≤ b ∧ (b < L.length → r' = .ok x b)
theorem Sx.bad {α : Type} {c p : Nat} {e : Int} {r' : Rs α} : Sx L c (.bad p e) r':=fun x b h=>by cases h
theorem Sx.ok {α : Type} {c b : Nat} {v : α} (h : c ≤ b) : Sx L c (.ok v b) (.ok v b):=fun x d e=>by cases e;exact ⟨h,fun _=>rfl⟩
theorem Sx.ok' {α : Type} {c b : Nat} {v v' : α} (h : c ≤ b) (hv : b < L.length → v' = v) : Sx L c (.ok v b) (.ok v' b):=fun x d e=>by cases e;exact ⟨h,fun q=>by rw [hv q]⟩
theorem Sx.weak {α : Type} {c d : Nat} {r r' : Rs α} (h : Sx L d r r') (hc : c ≤ d) : Sx L c r r':=fun x b e=>⟨Nat.le_trans hc (h x b e).1,(h x b e).2⟩
theorem Sx.bind {α β : Type} {c d : Nat} {r r' : Rs α} {f g : α → Nat → Rs β} (hr : Sx L d r r') (hf : ∀ u a1,d ≤ a1 → Sx L (max c a1) (f u a1) (g u a1)) : Sx L c (r.bind f) (r'.bind g):=by
 cases r with
 | bad p e=>exact Sx.bad
 | ok u a1 =>
  obtain ⟨h1,h2⟩:=hr u a1 rfl
  intro x b e
  obtain ⟨h3,h4⟩:=hf u a1 h1 x b e
  refine ⟨by omega,fun hb=>?_⟩
  rw [h2 (by omega)]
  exact h4 hb
theorem Sx.ite {α : Type} {c a : Nat} {p p' : Prop} [Decidable p] [Decidable p'] {x y x' y' : Rs α} (ha : a ≤ c) (hp : a < L.length → p' = p) (hx : p → Sx L c x x') (hy : ¬ p → Sx L c y y') : Sx L c (if p then x else y) (if p' then x' else y'):=by
 by_cases hl : a < L.length
 ·have:=hp hl
  subst this
  split
  ·rename_i h;exact hx h
  ·rename_i h;exact hy h
 ·intro z b e
  split at e
  ·rename_i h
   have:=(hx h z b e).1
   exact ⟨this,fun _=>by omega⟩
  ·rename_i h
   have:=(hy h z b e).1
   exact ⟨this,fun _=>by omega⟩
theorem Sx.same {α : Type} {c : Nat} {p : Prop} [Decidable p] {x y x' y' : Rs α} (hx : p → Sx L c x x') (hy : ¬ p → Sx L c y y') : Sx L c (if p then x else y) (if p then x' else y'):=by
 split
 ·rename_i h;exact hx h
 ·rename_i h;exact hy h
theorem Sx.iteS {α : Type} (h : Pre L M) {c a : Nat} {s : ByteArray} {x y x' y' : Rs α} (ha : a ≤ c) (hx : isS L a s = true → Sx L c x x') (hy : Sx L c y y') : Sx L c (if isS L a s = true then x else y) (if isS M a s = true then x' else y'):=Sx.ite ha (fun hl=>by rw [h.isS hl]) hx (fun _=>hy)
theorem Sx.iteW {α : Type} (h : Pre L M) {c a : Nat} {s : ByteArray} {x y x' y' : Rs α} (ha : a ≤ c) (hx : Sx L c x x') (hy : Sx L c y y') : Sx L c (if isWd L a s = true then x else y) (if isWd M a s = true then x' else y'):=Sx.ite ha (fun hl=>by rw [h.isWd hl]) (fun _=>hx) (fun _=>hy)
theorem Sx.iteN {α : Type} (h : Pre L M) {c a : Nat} {x y x' y' : Rs α} (ha : a ≤ c) (hx : Sx L c x x') (hy : Sx L c y y') : Sx L c (if isN L a = true then x else y) (if isN M a = true then x' else y'):=Sx.ite ha (fun hl=>by rw [h.isN hl]) (fun _=>hx) (fun _=>hy)
theorem Sx.iteK {α : Type} (h : Pre L M) {c a : Nat} {k : Int} {x y x' y' : Rs α} (ha : a ≤ c) (hx : Sx L c x x') (hy : Sx L c y y') : Sx L c (if (tokA L a).k = k then x else y) (if (tokA M a).k = k then x' else y'):=Sx.ite ha (fun hl=>by rw [(h.same a hl).1]) (fun _=>hx) (fun _=>hy)
theorem Sx.ite3 {α : Type} (h : Pre L M) {c a : Nat} {s1 s2 w : ByteArray} {x y x' y' : Rs α} (ha : a ≤ c) (hx : Sx L c x x') (hy : Sx L c y y') : Sx L c (if isS L a s1 = true ∨ isS L a s2 = true ∨ isWd L a w = true then x else y) (if isS M a s1 = true ∨ isS M a s2 = true ∨ isWd M a w = true then x' else y'):=Sx.ite ha (fun hl=>by rw [h.isS hl,h.isS hl,h.isWd hl]) (fun _=>hx) (fun _=>hy)
theorem Sx.iteT {α : Type} (h : Pre L M) {c a : Nat} {s2 w : ByteArray} {x y x' y' : Rs α} (ha : a ≤ c) (hx : Sx L c x x') (hy : Sx L c y y') : Sx L c (if isN L a = true ∨ isWd L a s2 = true ∨ isWd L a w = true then x else y) (if isN M a = true ∨ isWd M a s2 = true ∨ isWd M a w = true then x' else y'):=Sx.ite ha (fun hl=>by rw [h.isN hl,h.isWd hl,h.isWd hl]) (fun _=>hx) (fun _=>hy)
theorem want_sx (h : Pre L M) {a : Nat} {s : ByteArray} : Sx L (a + 1) (wantR L s a) (wantR M s a):=by
 unfold wantR
 by_cases q : isS L a s = true
 ·rw [if_pos q,if_pos (h.isS1 q)];exact Sx.ok (Nat.le_refl _)
 ·rw [if_neg q];exact Sx.bad
theorem id_sx (h : Pre L M) {a : Nat} : Sx L (a + 1) (idR L a) (idR M a):=by
 unfold idR
 by_cases q : isN L a = true
 ·have hl:=isN_lt q
  rw [if_pos q,if_pos (by rw [h.isN hl];exact q),(h.same a hl).2.1];exact Sx.ok (Nat.le_refl _)
 ·rw [if_neg q];exact Sx.bad
theorem prop_sx (h : Pre L M) {a : Nat} : Sx L (a + 1) (propR' L a) (propR' M a):=by
 unfold propR'
 by_cases q : isN L a = true ∨ (tokA L a).k = 2
 ·have hl : a < L.length:=q.elim isN_lt (fun q=>kind_lt (by rw [q];decide))
  rw [if_pos q,if_pos (by rw [h.isN hl,(h.same a hl).1];exact q),(h.same a hl).2.1];exact Sx.ok (Nat.le_refl _)
 ·rw [if_neg q];exact Sx.bad
theorem add_sx {β : Type} (h : Pre L M) {a c : Nat} {ns : List (List UInt8)} (hl : a < L.length) {f g : List (List UInt8) → Nat → Rs β} (hf : ∀ u,Sx L c (f u a) (g u a)) : Sx L c ((addR L ns a).bind f) ((addR M ns a).bind g):=by
 unfold addR
 rw [(h.same a hl).2.1]
 by_cases q : (tokA L a).t.data.toList ∈ ns
 ·rw [if_pos q];exact Sx.bad
 ·rw [if_neg q];exact hf _
theorem begin_sx {β : Type} (h : Pre L M) {a o c : Nat} {f g : Unit → Nat → Rs β} (hf : Sx L c (f () a) (g () a)) : Sx L c ((beginR L a o).bind f) ((beginR M a o).bind g):=by
 have:=h.len
 unfold beginR
 by_cases q : L.length ≤ a
 ·rw [if_pos q];exact Sx.bad
 ·rw [if_neg q,if_neg (show ¬ M.length ≤ a by omega)]
  by_cases q2 : 400 ≤ o
  ·rw [if_pos q2];exact Sx.bad
  ·rw [if_neg q2];exact hf
theorem listG_sx {σ : Type} (h : Pre L M) {s : ByteArray} {F F' : σ → Nat → Rs (Nd × σ)} (hF : ∀ st a,Sx L (a + 1) (F st a) (F' st a)) : ∀ (n n' : Nat) (acc : List Nd) (st : σ) (a : Nat),n ≤ n' → Sx L (a + 1) (listG L s F n acc st a) (listG M s F' n' acc st a)
 | 0,_,_,_,_,_=>Sx.bad
 | n + 1,0,_,_,_,hn=>by omega
 | n + 1,n' + 1,acc,st,a,hn=>by
  rw [listG,listG]
  refine Sx.ite (a:=a) (by omega) (fun hl=>by rw [h.isS hl]) (fun _=>Sx.ok (Nat.le_refl _)) (fun _=>?_)
  cases e : F st a with
  | bad p er=>exact Sx.bad
  | ok x a1 =>
   obtain ⟨h1,h2⟩:=hF st a x a1 e
   intro l b el
   have key : Sx L (a1 + 1) (if isS L a1 s = true then listG L s F n (acc ++ [x.1]) x.2 a1 else if isS L a1 sCm = true then listG L s F n (acc ++ [x.1]) x.2 (a1 + 1) else .bad a1 60) (if isS M a1 s = true then listG M s F' n' (acc ++ [x.1]) x.2 a1 else if isS M a1 sCm = true then listG M s F' n' (acc ++ [x.1]) x.2 (a1 + 1) else .bad a1 60) :=
    Sx.ite (a:=a1) (by omega) (fun hl=>by rw [h.isS hl]) (fun _=>listG_sx h hF n n' _ _ _ (by omega)) (fun _=>Sx.ite (a:=a1) (by omega) (fun hl=>by rw [h.isS hl]) (fun _=>(listG_sx h hF n n' _ _ _ (by omega)).weak (by omega)) (fun _=>Sx.bad))
   obtain ⟨h3,h4⟩:=key l b el
   refine ⟨by omega,fun hb=>?_⟩
   rw [h2 (by omega)]
   exact h4 hb
theorem listE_sx (h : Pre L M) {s : ByteArray} {E E' : Nat → Rs Nd} (hE : ∀ a,Sx L (a + 1) (E a) (E' a)) {a : Nat} : Sx L (a + 1) (listE L E s a) (listE M E' s a):=by
 have:=h.len
 exact listG_sx h (fun _ a=>(hE a).bind (fun x c hc=>Sx.ok (v:=(x,())) (by omega))) _ _ _ _ _ (by omega)
theorem stmtsG_sx (h : Pre L M) {F F' : Nat → Rs Nd} (hF : ∀ a,Sx L (a + 1) (F a) (F' a)) : ∀ (n n' : Nat) (acc : List Nd) (a : Nat),n ≤ n' → Sx L (a + 1) (stmtsG L F n acc a) (stmtsG M F' n' acc a)
 | 0,_,_,_,_=>Sx.bad
 | n + 1,0,_,_,hn=>by omega
 | n + 1,n' + 1,acc,a,hn=>by
  rw [stmtsG,stmtsG]
  refine Sx.ite (a:=a) (by omega) (fun hl=>by rw [h.isS hl]) (fun _=>Sx.ok (Nat.le_refl _)) (fun _=>?_)
  cases e : F a with
  | bad p er=>exact Sx.bad
  | ok x a1 =>
   obtain ⟨h1,h2⟩:=hF a x a1 e
   intro l b el
   obtain ⟨h3,h4⟩:=stmtsG_sx h hF n n' _ _ (by omega) l b el
   refine ⟨by omega,fun hb=>?_⟩
   rw [h2 (by omega)]
   exact h4 hb
theorem blockG_sx (h : Pre L M) {F F' : Nat → Rs Nd} (hF : ∀ a,Sx L (a + 1) (F a) (F' a)) {a : Nat} : Sx L (a + 1) (blockG L F a) (blockG M F' a):=by
 have:=h.len
 exact (want_sx h).bind fun _ a1 h1=>(stmtsG_sx h hF _ _ _ _ (by omega)).bind fun _ _ h2=>Sx.ok (by omega)
theorem parG_sx (h : Pre L M) {G G' : Nat → Rs Nd} (hG : ∀ a,Sx L a (G a) (G' a)) (ns : List (List UInt8)) (a : Nat) : Sx L (a + 1) (parG L G ns a) (parG M G' ns a):=by
 by_cases hl : a < L.length
 ·exact add_sx h hl fun _=>(id_sx h).bind fun _ _ h2=>(hG _).bind fun _ _ h3=>Sx.ok (by omega)
 ·intro x b e
  exfalso
  unfold parG at e
  cases e1 : addR L ns a with
  | bad p er=>rw [e1] at e;cases e
  | ok u c =>
   rw [e1,Rs.bind_ok] at e
   unfold idR at e
   rw [if_neg (fun q=>hl (isN_lt q))] at e
   cases e
theorem paramsG_sx (h : Pre L M) {G G' : Nat → Rs Nd} (hG : ∀ a,Sx L a (G a) (G' a)) {a : Nat} : Sx L (a + 1) (paramsG L G a) (paramsG M G' a):=by
 have:=h.len
 exact (want_sx h).bind fun _ a1 h1=>(listG_sx h (fun ns b=>parG_sx h hG ns b) _ _ _ _ _ (by omega)).bind fun _ _ h2=>Sx.ok (by omega)
theorem postG_sx (h : Pre L M) {E E' : Nat → Rs Nd} (hE : ∀ a,Sx L (a + 1) (E a) (E' a)) : ∀ (n n' : Nat) (nd : Nd) (a : Nat),n ≤ n' → Sx L a (postG L E n nd a) (postG M E' n' nd a)
 | 0,_,_,_,_=>Sx.bad
 | n + 1,0,_,_,hn=>by omega
 | n + 1,n' + 1,nd,a,hn=>by
  rw [postG,postG]
  exact Sx.ite (a:=a) (Nat.le_refl _) (fun hl=>by rw [h.isS hl]) (fun _=>(prop_sx h).bind fun _ _ h2=>(postG_sx h hE n n' _ _ (by omega)).weak (by omega)) (fun _=>Sx.ite (a:=a) (Nat.le_refl _) (fun hl=>by rw [h.isS hl]) (fun _=>(hE _).bind fun _ _ h2=>(want_sx h).bind fun _ _ h3=>(postG_sx h hE n n' _ _ (by omega)).weak (by omega)) (fun _=>Sx.ite (a:=a) (Nat.le_refl _) (fun hl=>by rw [h.isS hl]) (fun _=>(listE_sx h hE).bind fun _ _ h2=>(postG_sx h hE n n' _ _ (by omega)).weak (by omega)) (fun _=>Sx.ok (Nat.le_refl _))))
theorem unionG_sx (h : Pre L M) {E E' : Nat → Rs Nd} (hE : ∀ a,Sx L (a + 1) (E a) (E' a)) : ∀ (n n' : Nat) (acc : List Nd) (a : Nat),n ≤ n' → Sx L (a + 1) (unionG L E n acc a) (unionG M E' n' acc a)
 | 0,_,_,_,_=>Sx.bad
 | n + 1,0,_,_,hn=>by omega
 | n + 1,n' + 1,acc,a,hn=>by
  rw [unionG,unionG]
  exact (hE a).bind fun _ a1 h1=>Sx.ite (a:=a1) (by omega) (fun hl=>by rw [h.isS hl]) (fun _=>(unionG_sx h hE n n' _ _ (by omega)).weak (by omega)) (fun _=>Sx.ok (by omega))
theorem arrayG_sx (h : Pre L M) : ∀ (n n' : Nat) (nd : Nd) (a : Nat),n ≤ n' → Sx L a (arrayG L n nd a) (arrayG M n' nd a)
 | 0,_,_,_,_=>Sx.bad
 | n + 1,0,_,_,hn=>by omega
 | n + 1,n' + 1,nd,a,hn=>by
  rw [arrayG,arrayG]
  exact Sx.ite (a:=a) (Nat.le_refl _) (fun hl=>by rw [h.isS hl]) (fun _=>(want_sx h).bind fun _ _ h2=>(arrayG_sx h n n' _ _ (by omega)).weak (by omega)) (fun _=>Sx.ok (Nat.le_refl _))
theorem fieldsG_sx (h : Pre L M) {T T' : Nat → Rs Nd} (hT : ∀ a,Sx L a (T a) (T' a)) : ∀ (n n' : Nat) (acc : List Nd) (ns : List (List UInt8)) (a : Nat),n ≤ n' → Sx L (a + 1) (fieldsG L T n acc ns a) (fieldsG M T' n' acc ns a)
 | 0,_,_,_,_,_=>Sx.bad
 | n + 1,0,_,_,_,hn=>by omega
 | n + 1,n' + 1,acc,ns,a,hn=>by
  rw [fieldsG,fieldsG]
  refine Sx.ite (a:=a) (by omega) (fun hl=>by rw [h.isS hl]) (fun _=>Sx.ok (Nat.le_refl _)) (fun _=>?_)
  by_cases hl : a < L.length
  ·exact add_sx h hl fun _=>(prop_sx h).bind fun _ _ h1=>(hT _).bind fun _ _ h2=>(want_sx h).bind fun _ _ h3=>(fieldsG_sx h hT n n' _ _ _ (by omega)).weak (by omega)
  ·intro x b e
   exfalso
   cases e1 : addR L ns a with
   | bad p er=>rw [e1] at e;cases e
   | ok u c =>
    rw [e1,Rs.bind_ok] at e
    unfold propR' at e
    rw [if_neg (fun q=>hl (q.elim isN_lt (fun q=>kind_lt (by rw [q];decide))))] at e
    cases e
theorem binG_sx' (h : Pre L M) {B B' : Nat → Nat → Rs Nd} (hB : ∀ m a,1 ≤ m → Sx L (a + 1) (B m a) (B' m a)) (m : Nat) (hm : 1 ≤ m) : ∀ (n n' : Nat) (nd : Nd) (a : Nat),n ≤ n' → Sx L a (binG L B m n nd a) (binG M B' m n' nd a)
 | 0,_,_,_,_=>Sx.bad
 | n + 1,0,_,_,hn=>by omega
 | n + 1,n' + 1,nd,a,hn=>by
  rw [binG,binG]
  refine Sx.ite (a:=a) (Nat.le_refl _) (fun hl=>by rw [line_eq (h.same a hl).1 (h.same a hl).2.1]) (fun _=>Sx.ok (Nat.le_refl _)) (fun q=>?_)
  have hl:=line_lt (L:=L) (a:=a) (by omega)
  rw [(h.same a hl).2.1,line_eq (h.same a hl).1 (h.same a hl).2.1]
  exact (hB _ _ (by omega)).bind fun _ _ h2=>(binG_sx' h hB m hm n n' _ _ (by omega)).weak (by omega)
structure SxA (L M : List Tok) (f : Nat) : Prop where
 expr' : ∀ (a : Nat) (o : Nat),Sx L (a + 1) (exprF L f a o) (exprF M f a o)
 assign' : ∀ (nd : Nd) (a : Nat) (o : Nat),Sx L (a + 1) (assignF L f nd a o) (assignF M f nd a o)
 cond' : ∀ (a : Nat) (o : Nat),Sx L (a + 1) (condF L f a o) (condF M f a o)
 bin' : ∀ (m : Nat) (a : Nat) (o : Nat),1 ≤ m → Sx L (a + 1) (binF L f m a o) (binF M f m a o)
 unary' : ∀ (a : Nat) (o : Nat),Sx L (a + 1) (unaryF L f a o) (unaryF M f a o)
 post' : ∀ (a : Nat) (o : Nat),Sx L (a + 1) (postF L f a o) (postF M f a o)
 prim' : ∀ (a : Nat) (o : Nat),Sx L (a + 1) (primF L f a o) (primF M f a o)
 wprim' : ∀ (a : Nat) (o : Nat),Sx L (a + 1) (wprimF L f a o) (wprimF M f a o)
 sprim' : ∀ (a : Nat) (o : Nat),Sx L (a + 1) (sprimF L f a o) (sprimF M f a o)
 prop' : ∀ (a : Nat) (o : Nat),Sx L (a + 1) (propF L f a o) (propF M f a o)
 arrow' : ∀ (a : Nat) (o : Nat),Sx L (a + 1) (arrowF L f a o) (arrowF M f a o)
 abody' : ∀ (a : Nat) (o : Nat),Sx L (a + 1) (abodyF L f a o) (abodyF M f a o)
 typeOr' : ∀ (a : Nat) (o : Nat),Sx L a (typeOrF L f a o) (typeOrF M f a o)
 typing' : ∀ (a : Nat) (o : Nat),Sx L (a + 1) (typingF L f a o) (typingF M f a o)
 type' : ∀ (a : Nat) (o : Nat),Sx L (a + 1) (typeF L f a o) (typeF M f a o)
 ptype' : ∀ (a : Nat) (o : Nat),Sx L (a + 1) (ptypeF L f a o) (ptypeF M f a o)
 rtype' : ∀ (a : Nat) (o : Nat),Sx L (a + 1) (rtypeF L f a o) (rtypeF M f a o)
 objt' : ∀ (a : Nat) (o : Nat),Sx L (a + 1) (objtF L f a o) (objtF M f a o)
 ftype' : ∀ (a : Nat) (o : Nat),Sx L (a + 1) (ftypeF L f a o) (ftypeF M f a o)
 blk' : ∀ (a : Nat) (o : Nat),Sx L (a + 1) (blkF L f a o) (blkF M f a o)
 stmt' : ∀ (a : Nat) (o : Nat),Sx L (a + 1) (stmtF L f a o) (stmtF M f a o)
 let' : ∀ (q : Int) (a : Nat) (o : Nat),Sx L (a + 1) (letF L f q a o) (letF M f q a o)
 condi' : ∀ (a : Nat) (o : Nat),Sx L (a + 1) (condiF L f a o) (condiF M f a o)
 els' : ∀ (a : Nat) (o : Nat),Sx L a (elseF L f a o) (elseF M f a o)
 exprOr' : ∀ (a : Nat) (o : Nat),Sx L a (exprOrF L f a o) (exprOrF M f a o)
 any' : ∀ (a : Nat) (o : Nat),Sx L (a + 1) (anyF L f a o) (anyF M f a o)
theorem sx_all (h : Pre L M) : ∀ f,SxA L M f:=by
 intro f
 induction f with
 | zero=>constructor <;> (intros;simp [exprF,assignF,condF,binF,unaryF,postF,primF,wprimF,sprimF,propF,arrowF,abodyF,typeOrF,typingF,typeF,ptypeF,rtypeF,objtF,ftypeF,blkF,stmtF,letF,condiF,elseF,exprOrF,anyF];exact Sx.bad)
 | succ f ih =>
  constructor
  case sprim' =>
   intro a o
   by_cases hp : isS L a sPo = true
   ·intro x b e
    have hA:=(bl_all L (f + 1)).sprim' a o x b e
    have hlt : a + 1 ≤ b:=(mono_all L (f + 1)).sprim' a o x b e
    refine ⟨hlt,fun hb=>?_⟩
    have ea:=h.arrow hA (by omega) hb
    have key : Sx L (a + 1) (sprimF L (f + 1) a o) (sprimF M (f + 1) a o):=by
     rw [sprimF,sprimF,ea]
     repeat (first
      | exact Sx.bad
      | exact Sx.ok (by omega)
      | exact Sx.ok' (by omega) (fun hb=>by rw [(h.same _ (by omega)).2.1])
      | exact Sx.ok' (by omega) (fun hb=>by rw [(h.same _ (by omega)).2.2])
      | (with_reducible refine Sx.same (fun _=>?_) (fun _=>?_))
      | (with_reducible refine Sx.iteS h ?_ (fun _=>?_) ?_;(focus omega))
      | (with_reducible refine Sx.iteW h ?_ ?_ ?_;(focus omega))
      | (with_reducible refine Sx.iteN h ?_ ?_ ?_;(focus omega))
      | (with_reducible refine Sx.iteK h ?_ ?_ ?_;(focus omega))
      | (with_reducible refine Sx.ite3 h ?_ ?_ ?_;(focus omega))
      | (with_reducible refine Sx.iteT h ?_ ?_ ?_;(focus omega))
      | (with_reducible refine begin_sx h ?_)
      | (with_reducible refine Sx.bind (want_sx h) ?_;intro _ _ _)
      | (with_reducible refine Sx.bind (id_sx h) ?_;intro _ _ _)
      | (with_reducible refine Sx.bind (prop_sx h) ?_;intro _ _ _)
      | (with_reducible refine Sx.bind (listE_sx h ?_) ?_;(focus (intro _;first | (with_reducible exact ih.expr' _ _) | (with_reducible exact ih.prop' _ _)));intro _ _ _)
      | (with_reducible refine Sx.bind (paramsG_sx h ?_) ?_;(focus (intro _;first | (with_reducible exact ih.typeOr' _ _) | (with_reducible refine Sx.weak (ih.typing' _ _) ?_;(focus omega))));intro _ _ _)
      | (with_reducible refine Sx.bind (unionG_sx h ?_ _ _ _ _ ?_) ?_;(focus (intro _;exact ih.ptype' _ _));(focus (have:=h.len;omega));intro _ _ _)
      | (with_reducible refine Sx.bind (fieldsG_sx h ?_ _ _ _ _ _ ?_) ?_;(focus (intro _;exact Sx.weak (ih.typing' _ _) (by omega)));(focus (have:=h.len;omega));intro _ _ _)
      | (with_reducible refine Sx.weak (blockG_sx h ?_) ?_;(focus (intro _;exact ih.stmt' _ _));(focus omega))
      | (with_reducible refine Sx.weak (binG_sx' h ?_ _ ?_ _ _ _ _ ?_) ?_;(focus (intro _ _ _;exact ih.bin' _ _ _ (by omega)));(focus omega);(focus (have:=h.len;omega));(focus omega))
      | (with_reducible refine Sx.weak (postG_sx h ?_ _ _ _ _ ?_) ?_;(focus (intro _;exact ih.expr' _ _));(focus (have:=h.len;omega));(focus omega))
      | (with_reducible refine Sx.weak (arrayG_sx h _ _ _ _ ?_) ?_;(focus (have:=h.len;omega));(focus omega))
      | (with_reducible refine Sx.bind (ih.arrow' _ _) ?_;intro _ _ _)
      | (with_reducible refine Sx.weak (ih.arrow' _ _) ?_;(focus omega))
      | (with_reducible refine Sx.bind (ih.expr' _ _) ?_;intro _ _ _)
      | (with_reducible refine Sx.weak (ih.expr' _ _) ?_;(focus omega))
      | fail)
    exact (key x b e).2 hb
   ·rw [sprimF,sprimF]
    repeat (first
     | exact Sx.bad
     | exact absurd ‹isS L _ _ = true› hp
     | exact Sx.ok (by omega)
     | exact Sx.ok' (by omega) (fun hb=>by rw [(h.same _ (by omega)).2.1])
     | exact Sx.ok' (by omega) (fun hb=>by rw [(h.same _ (by omega)).2.2])
     | (with_reducible refine Sx.same (fun _=>?_) (fun _=>?_))
     | (with_reducible refine Sx.iteS h ?_ (fun _=>?_) ?_;(focus omega))
     | (with_reducible refine Sx.iteW h ?_ ?_ ?_;(focus omega))
     | (with_reducible refine Sx.iteN h ?_ ?_ ?_;(focus omega))
     | (with_reducible refine Sx.iteK h ?_ ?_ ?_;(focus omega))
     | (with_reducible refine Sx.ite3 h ?_ ?_ ?_;(focus omega))
     | (with_reducible refine Sx.iteT h ?_ ?_ ?_;(focus omega))
     | (with_reducible refine begin_sx h ?_)
     | (with_reducible refine Sx.bind (want_sx h) ?_;intro _ _ _)
     | (with_reducible refine Sx.bind (id_sx h) ?_;intro _ _ _)
     | (with_reducible refine Sx.bind (prop_sx h) ?_;intro _ _ _)
     | (with_reducible refine Sx.bind (listE_sx h ?_) ?_;(focus (intro _;first | (with_reducible exact ih.expr' _ _) | (with_reducible exact ih.prop' _ _)));intro _ _ _)
     | (with_reducible refine Sx.bind (paramsG_sx h ?_) ?_;(focus (intro _;first | (with_reducible exact ih.typeOr' _ _) | (with_reducible refine Sx.weak (ih.typing' _ _) ?_;(focus omega))));intro _ _ _)
     | (with_reducible refine Sx.bind (unionG_sx h ?_ _ _ _ _ ?_) ?_;(focus (intro _;exact ih.ptype' _ _));(focus (have:=h.len;omega));intro _ _ _)
     | (with_reducible refine Sx.bind (fieldsG_sx h ?_ _ _ _ _ _ ?_) ?_;(focus (intro _;exact Sx.weak (ih.typing' _ _) (by omega)));(focus (have:=h.len;omega));intro _ _ _)
     | (with_reducible refine Sx.weak (blockG_sx h ?_) ?_;(focus (intro _;exact ih.stmt' _ _));(focus omega))
     | (with_reducible refine Sx.weak (binG_sx' h ?_ _ ?_ _ _ _ _ ?_) ?_;(focus (intro _ _ _;exact ih.bin' _ _ _ (by omega)));(focus omega);(focus (have:=h.len;omega));(focus omega))
     | (with_reducible refine Sx.weak (postG_sx h ?_ _ _ _ _ ?_) ?_;(focus (intro _;exact ih.expr' _ _));(focus (have:=h.len;omega));(focus omega))
     | (with_reducible refine Sx.weak (arrayG_sx h _ _ _ _ ?_) ?_;(focus (have:=h.len;omega));(focus omega))
     | (with_reducible refine Sx.bind (ih.arrow' _ _) ?_;intro _ _ _)
     | (with_reducible refine Sx.weak (ih.arrow' _ _) ?_;(focus omega))
     | (with_reducible refine Sx.bind (ih.expr' _ _) ?_;intro _ _ _)
     | (with_reducible refine Sx.weak (ih.expr' _ _) ?_;(focus omega))
     | fail)
  case rtype' =>
   intro a o
   by_cases hp : isS L a sPo = true
   ·intro x b e
    have hA:=(bl_all L (f + 1)).rtype' a o x b e
    have hlt : a + 1 ≤ b:=(mono_all L (f + 1)).rtype' a o x b e
    refine ⟨hlt,fun hb=>?_⟩
    have ea:=h.arrow hA (by omega) hb
    have key : Sx L (a + 1) (rtypeF L (f + 1) a o) (rtypeF M (f + 1) a o):=by
     rw [rtypeF,rtypeF,ea]
     repeat (first
      | exact Sx.bad
      | exact Sx.ok (by omega)
      | exact Sx.ok' (by omega) (fun hb=>by rw [(h.same _ (by omega)).2.1])
      | exact Sx.ok' (by omega) (fun hb=>by rw [(h.same _ (by omega)).2.2])
      | (with_reducible refine Sx.same (fun _=>?_) (fun _=>?_))
      | (with_reducible refine Sx.iteS h ?_ (fun _=>?_) ?_;(focus omega))
      | (with_reducible refine Sx.iteW h ?_ ?_ ?_;(focus omega))
      | (with_reducible refine Sx.iteN h ?_ ?_ ?_;(focus omega))
      | (with_reducible refine Sx.iteK h ?_ ?_ ?_;(focus omega))
      | (with_reducible refine Sx.ite3 h ?_ ?_ ?_;(focus omega))
      | (with_reducible refine Sx.iteT h ?_ ?_ ?_;(focus omega))
      | (with_reducible refine begin_sx h ?_)
      | (with_reducible refine Sx.bind (want_sx h) ?_;intro _ _ _)
      | (with_reducible refine Sx.bind (id_sx h) ?_;intro _ _ _)
      | (with_reducible refine Sx.bind (prop_sx h) ?_;intro _ _ _)
      | (with_reducible refine Sx.bind (listE_sx h ?_) ?_;(focus (intro _;first | (with_reducible exact ih.expr' _ _) | (with_reducible exact ih.prop' _ _)));intro _ _ _)
      | (with_reducible refine Sx.bind (paramsG_sx h ?_) ?_;(focus (intro _;first | (with_reducible exact ih.typeOr' _ _) | (with_reducible refine Sx.weak (ih.typing' _ _) ?_;(focus omega))));intro _ _ _)
      | (with_reducible refine Sx.bind (unionG_sx h ?_ _ _ _ _ ?_) ?_;(focus (intro _;exact ih.ptype' _ _));(focus (have:=h.len;omega));intro _ _ _)
      | (with_reducible refine Sx.bind (fieldsG_sx h ?_ _ _ _ _ _ ?_) ?_;(focus (intro _;exact Sx.weak (ih.typing' _ _) (by omega)));(focus (have:=h.len;omega));intro _ _ _)
      | (with_reducible refine Sx.weak (blockG_sx h ?_) ?_;(focus (intro _;exact ih.stmt' _ _));(focus omega))
      | (with_reducible refine Sx.weak (binG_sx' h ?_ _ ?_ _ _ _ _ ?_) ?_;(focus (intro _ _ _;exact ih.bin' _ _ _ (by omega)));(focus omega);(focus (have:=h.len;omega));(focus omega))
      | (with_reducible refine Sx.weak (postG_sx h ?_ _ _ _ _ ?_) ?_;(focus (intro _;exact ih.expr' _ _));(focus (have:=h.len;omega));(focus omega))
      | (with_reducible refine Sx.weak (arrayG_sx h _ _ _ _ ?_) ?_;(focus (have:=h.len;omega));(focus omega))
      | (with_reducible refine Sx.bind (ih.objt' _ _) ?_;intro _ _ _)
      | (with_reducible refine Sx.weak (ih.objt' _ _) ?_;(focus omega))
      | (with_reducible refine Sx.bind (ih.ftype' _ _) ?_;intro _ _ _)
      | (with_reducible refine Sx.weak (ih.ftype' _ _) ?_;(focus omega))
      | (with_reducible refine Sx.bind (ih.type' _ _) ?_;intro _ _ _)
      | (with_reducible refine Sx.weak (ih.type' _ _) ?_;(focus omega))
      | fail)
    exact (key x b e).2 hb
   ·rw [rtypeF,rtypeF]
    repeat (first
     | exact Sx.bad
     | exact absurd ‹isS L _ _ = true› hp
     | exact Sx.ok (by omega)
     | exact Sx.ok' (by omega) (fun hb=>by rw [(h.same _ (by omega)).2.1])
     | exact Sx.ok' (by omega) (fun hb=>by rw [(h.same _ (by omega)).2.2])
     | (with_reducible refine Sx.same (fun _=>?_) (fun _=>?_))
     | (with_reducible refine Sx.iteS h ?_ (fun _=>?_) ?_;(focus omega))
     | (with_reducible refine Sx.iteW h ?_ ?_ ?_;(focus omega))
     | (with_reducible refine Sx.iteN h ?_ ?_ ?_;(focus omega))
     | (with_reducible refine Sx.iteK h ?_ ?_ ?_;(focus omega))
     | (with_reducible refine Sx.ite3 h ?_ ?_ ?_;(focus omega))
     | (with_reducible refine Sx.iteT h ?_ ?_ ?_;(focus omega))
     | (with_reducible refine begin_sx h ?_)
     | (with_reducible refine Sx.bind (want_sx h) ?_;intro _ _ _)
     | (with_reducible refine Sx.bind (id_sx h) ?_;intro _ _ _)
     | (with_reducible refine Sx.bind (prop_sx h) ?_;intro _ _ _)
     | (with_reducible refine Sx.bind (listE_sx h ?_) ?_;(focus (intro _;first | (with_reducible exact ih.expr' _ _) | (with_reducible exact ih.prop' _ _)));intro _ _ _)
     | (with_reducible refine Sx.bind (paramsG_sx h ?_) ?_;(focus (intro _;first | (with_reducible exact ih.typeOr' _ _) | (with_reducible refine Sx.weak (ih.typing' _ _) ?_;(focus omega))));intro _ _ _)
     | (with_reducible refine Sx.bind (unionG_sx h ?_ _ _ _ _ ?_) ?_;(focus (intro _;exact ih.ptype' _ _));(focus (have:=h.len;omega));intro _ _ _)
     | (with_reducible refine Sx.bind (fieldsG_sx h ?_ _ _ _ _ _ ?_) ?_;(focus (intro _;exact Sx.weak (ih.typing' _ _) (by omega)));(focus (have:=h.len;omega));intro _ _ _)
     | (with_reducible refine Sx.weak (blockG_sx h ?_) ?_;(focus (intro _;exact ih.stmt' _ _));(focus omega))
     | (with_reducible refine Sx.weak (binG_sx' h ?_ _ ?_ _ _ _ _ ?_) ?_;(focus (intro _ _ _;exact ih.bin' _ _ _ (by omega)));(focus omega);(focus (have:=h.len;omega));(focus omega))
     | (with_reducible refine Sx.weak (postG_sx h ?_ _ _ _ _ ?_) ?_;(focus (intro _;exact ih.expr' _ _));(focus (have:=h.len;omega));(focus omega))
     | (with_reducible refine Sx.weak (arrayG_sx h _ _ _ _ ?_) ?_;(focus (have:=h.len;omega));(focus omega))
     | (with_reducible refine Sx.bind (ih.objt' _ _) ?_;intro _ _ _)
     | (with_reducible refine Sx.weak (ih.objt' _ _) ?_;(focus omega))
     | (with_reducible refine Sx.bind (ih.ftype' _ _) ?_;intro _ _ _)
     | (with_reducible refine Sx.weak (ih.ftype' _ _) ?_;(focus omega))
     | (with_reducible refine Sx.bind (ih.type' _ _) ?_;intro _ _ _)
     | (with_reducible refine Sx.weak (ih.type' _ _) ?_;(focus omega))
     | fail)
  case els' =>
   intro a o
   rw [elseF,elseF]
   refine Sx.iteW h (Nat.le_refl _) ?_ (Sx.ok (Nat.le_refl _))
   refine Sx.weak (d:=a + 1) (Sx.iteW h (Nat.le_refl _) ((ih.stmt' _ _).bind fun _ _ h2=>Sx.ok (by omega)) ((ih.blk' _ _).weak (by omega))) (by omega)
  all_goals
   first
    | (intro a o;first | rw [exprF,exprF] | rw [condF,condF] | rw [unaryF,unaryF] | rw [postF,postF] | rw [primF,primF] | rw [wprimF,wprimF] | rw [propF,propF] | rw [arrowF,arrowF] | rw [abodyF,abodyF] | rw [typeOrF,typeOrF] | rw [typingF,typingF] | rw [typeF,typeF] | rw [ptypeF,ptypeF] | rw [objtF,objtF] | rw [ftypeF,ftypeF] | rw [blkF,blkF] | rw [stmtF,stmtF] | rw [condiF,condiF] | rw [exprOrF,exprOrF] | rw [anyF,anyF])
    | (intro nd a o;first | rw [assignF,assignF])
    | (intro m a o hm;first | rw [binF,binF])
    | (intro q a o;first | rw [letF,letF])
   repeat (first
    | exact Sx.bad
    | exact Sx.ok (by omega)
    | exact Sx.ok' (by omega) (fun hb=>by rw [(h.same _ (by omega)).2.1])
    | exact Sx.ok' (by omega) (fun hb=>by rw [(h.same _ (by omega)).2.2])
    | (with_reducible refine Sx.same (fun _=>?_) (fun _=>?_))
    | (with_reducible refine Sx.iteS h ?_ (fun _=>?_) ?_;(focus omega))
    | (with_reducible refine Sx.iteW h ?_ ?_ ?_;(focus omega))
    | (with_reducible refine Sx.iteN h ?_ ?_ ?_;(focus omega))
    | (with_reducible refine Sx.iteK h ?_ ?_ ?_;(focus omega))
    | (with_reducible refine Sx.ite3 h ?_ ?_ ?_;(focus omega))
    | (with_reducible refine Sx.iteT h ?_ ?_ ?_;(focus omega))
    | (with_reducible refine begin_sx h ?_)
    | (with_reducible refine Sx.bind (want_sx h) ?_;intro _ _ _)
    | (with_reducible refine Sx.bind (id_sx h) ?_;intro _ _ _)
    | (with_reducible refine Sx.bind (prop_sx h) ?_;intro _ _ _)
    | (with_reducible refine Sx.bind (listE_sx h ?_) ?_;(focus (intro _;first | (with_reducible exact ih.expr' _ _) | (with_reducible exact ih.prop' _ _)));intro _ _ _)
    | (with_reducible refine Sx.bind (paramsG_sx h ?_) ?_;(focus (intro _;first | (with_reducible exact ih.typeOr' _ _) | (with_reducible refine Sx.weak (ih.typing' _ _) ?_;(focus omega))));intro _ _ _)
    | (with_reducible refine Sx.bind (unionG_sx h ?_ _ _ _ _ ?_) ?_;(focus (intro _;exact ih.ptype' _ _));(focus (have:=h.len;omega));intro _ _ _)
    | (with_reducible refine Sx.bind (fieldsG_sx h ?_ _ _ _ _ _ ?_) ?_;(focus (intro _;exact Sx.weak (ih.typing' _ _) (by omega)));(focus (have:=h.len;omega));intro _ _ _)
    | (with_reducible refine Sx.weak (blockG_sx h ?_) ?_;(focus (intro _;exact ih.stmt' _ _));(focus omega))
    | (with_reducible refine Sx.weak (binG_sx' h ?_ _ ?_ _ _ _ _ ?_) ?_;(focus (intro _ _ _;exact ih.bin' _ _ _ (by omega)));(focus omega);(focus (have:=h.len;omega));(focus omega))
    | (with_reducible refine Sx.weak (postG_sx h ?_ _ _ _ _ ?_) ?_;(focus (intro _;exact ih.expr' _ _));(focus (have:=h.len;omega));(focus omega))
    | (with_reducible refine Sx.weak (arrayG_sx h _ _ _ _ ?_) ?_;(focus (have:=h.len;omega));(focus omega))
    | (with_reducible refine Sx.bind (ih.cond' _ _) ?_;intro _ _ _)
    | (with_reducible refine Sx.weak (ih.cond' _ _) ?_;(focus omega))
    | (with_reducible refine Sx.bind (ih.assign' _ _ _) ?_;intro _ _ _)
    | (with_reducible refine Sx.weak (ih.assign' _ _ _) ?_;(focus omega))
    | (with_reducible refine Sx.bind (ih.bin' _ _ _ (by omega)) ?_;intro _ _ _)
    | (with_reducible refine Sx.weak (ih.bin' _ _ _ (by omega)) ?_;(focus omega))
    | (with_reducible refine Sx.bind (ih.unary' _ _) ?_;intro _ _ _)
    | (with_reducible refine Sx.weak (ih.unary' _ _) ?_;(focus omega))
    | (with_reducible refine Sx.bind (ih.post' _ _) ?_;intro _ _ _)
    | (with_reducible refine Sx.weak (ih.post' _ _) ?_;(focus omega))
    | (with_reducible refine Sx.bind (ih.prim' _ _) ?_;intro _ _ _)
    | (with_reducible refine Sx.weak (ih.prim' _ _) ?_;(focus omega))
    | (with_reducible refine Sx.bind (ih.wprim' _ _) ?_;intro _ _ _)
    | (with_reducible refine Sx.weak (ih.wprim' _ _) ?_;(focus omega))
    | (with_reducible refine Sx.bind (ih.sprim' _ _) ?_;intro _ _ _)
    | (with_reducible refine Sx.weak (ih.sprim' _ _) ?_;(focus omega))
    | (with_reducible refine Sx.bind (ih.abody' _ _) ?_;intro _ _ _)
    | (with_reducible refine Sx.weak (ih.abody' _ _) ?_;(focus omega))
    | (with_reducible refine Sx.bind (ih.typing' _ _) ?_;intro _ _ _)
    | (with_reducible refine Sx.weak (ih.typing' _ _) ?_;(focus omega))
    | (with_reducible refine Sx.bind (ih.type' _ _) ?_;intro _ _ _)
    | (with_reducible refine Sx.weak (ih.type' _ _) ?_;(focus omega))
    | (with_reducible refine Sx.bind (ih.rtype' _ _) ?_;intro _ _ _)
    | (with_reducible refine Sx.weak (ih.rtype' _ _) ?_;(focus omega))
    | (with_reducible refine Sx.bind (ih.any' _ _) ?_;intro _ _ _)
    | (with_reducible refine Sx.weak (ih.any' _ _) ?_;(focus omega))
    | (with_reducible refine Sx.bind (ih.let' _ _ _) ?_;intro _ _ _)
    | (with_reducible refine Sx.weak (ih.let' _ _ _) ?_;(focus omega))
    | (with_reducible refine Sx.bind (ih.typeOr' _ _) ?_;intro _ _ _)
    | (with_reducible refine Sx.weak (ih.typeOr' _ _) ?_;(focus omega))
    | (with_reducible refine Sx.bind (ih.blk' _ _) ?_;intro _ _ _)
    | (with_reducible refine Sx.weak (ih.blk' _ _) ?_;(focus omega))
    | (with_reducible refine Sx.bind (ih.condi' _ _) ?_;intro _ _ _)
    | (with_reducible refine Sx.weak (ih.condi' _ _) ?_;(focus omega))
    | (with_reducible refine Sx.bind (ih.els' _ _) ?_;intro _ _ _)
    | (with_reducible refine Sx.weak (ih.els' _ _) ?_;(focus omega))
    | (with_reducible refine Sx.bind (ih.exprOr' _ _) ?_;intro _ _ _)
    | (with_reducible refine Sx.weak (ih.exprOr' _ _) ?_;(focus omega))
    | (with_reducible refine Sx.bind (ih.expr' _ _) ?_;intro _ _ _)
    | (with_reducible refine Sx.weak (ih.expr' _ _) ?_;(focus omega))
    | fail)
end Go.Proofs.YthfkfbcopinmiaaGreatDoor
