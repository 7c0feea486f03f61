/- Own text. Package parse: the tokens of what is read have their brackets closed (of the model;no program is named here). Package parse: the same tokens between a bracket and its end,one rule more being open (of the model;no program is named here). -/
import Derived.Test.YthfkfbcopinmiaaGreatDoorGj09
set_option linter.unusedVariables false
set_option linter.unusedSimpArgs false
set_option maxHeartbeats 8000000
namespace Go.Proofs.YthfkfbcopinmiaaGreatDoor
open Go.RowKit
def sumO (L : List Tok) : Nat → Int
 | 0=>0
 | c + 1=>sumO L c + openI (tokA L c)
structure AtO (L : List Tok) (a0 d c : Nat) : Prop where
 le : a0 ≤ c
 sum : sumO L c = sumO L a0 + (d : Int)
 pos : ∀ i,a0 ≤ i → i ≤ c → sumO L a0 ≤ sumO L i
variable {L : List Tok}
theorem AtO.refl (a : Nat) : AtO L a 0 a:=by
 refine ⟨Nat.le_refl _,by simp,fun i h1 h2=>?_⟩
 obtain rfl : i = a:=by omega
 exact Int.le_refl _
theorem AtO.go {a0 d c c' : Nat} (h : AtO L a0 d c) (h2 : AtO L c 0 c') : AtO L a0 d c':=by
 refine ⟨Nat.le_trans h.le h2.le,by have:=h.sum;have:=h2.sum;omega,fun i h3 h4=>?_⟩
 by_cases hi : i ≤ c
 ·exact h.pos i h3 hi
 ·have:=h2.pos i (by omega) h4
  have:=h.sum
  omega
theorem AtO.step {a0 d c : Nat} (h : AtO L a0 d c) (d' : Nat) (e : (d : Int) + openI (tokA L c) = d') : AtO L a0 d' (c + 1):=by
 have hs : sumO L (c + 1) = sumO L c + openI (tokA L c):=rfl
 have h1:=h.sum
 refine ⟨Nat.le_succ_of_le h.le,by omega,fun i h3 h4=>?_⟩
 by_cases hi : i ≤ c
 ·exact h.pos i h3 hi
 ·obtain rfl : i = c + 1:=by omega
  omega
theorem AtO.plain {a0 d c : Nat} (h : AtO L a0 d c) (e : openI (tokA L c) = 0) : AtO L a0 d (c + 1):=h.step d (by omega)
def opS (s : ByteArray) : Int:=if s.toList = [40] ∨ s.toList = [91] ∨ s.toList = [123] then 1 else if s.toList = [41] ∨ s.toList = [93] ∨ s.toList = [125] then -1 else 0
theorem open_isS {a : Nat} {s : ByteArray} (h : isS L a s = true) : openI (tokA L a) = opS s:=by
 unfold isS at h
 simp only [Bool.and_eq_true,beq_iff_eq] at h
 unfold openI opS
 rw [if_pos h.1,h.2]
theorem open_kind {a : Nat} (h : (tokA L a).k ≠ 5) : openI (tokA L a) = 0:=by unfold openI;rw [if_neg h]
theorem open_isWd {a : Nat} {s : ByteArray} (h : isWd L a s = true) : openI (tokA L a) = 0:=by
 unfold isWd at h
 simp only [Bool.and_eq_true,beq_iff_eq] at h
 exact open_kind (by omega)
theorem open_isN {a : Nat} (h : isN L a = true) : openI (tokA L a) = 0:=by
 unfold isN at h
 simp only [beq_iff_eq] at h
 exact open_kind (by omega)
theorem open_line {a : Nat} (h : lineI (tokA L a) ≠ 0) : openI (tokA L a) = 0:=by
 unfold lineI at h
 unfold openI
 split
 ·rename_i h5
  rw [if_pos h5] at h
  rw [if_neg,if_neg]
  ·intro hh
   apply h
   rcases hh with e | e | e <;> rw [e] <;> decide
  ·intro hh
   apply h
   rcases hh with e | e | e <;> rw [e] <;> decide
 ·rfl
def Bl {α : Type} (L : List Tok) (a0 d : Nat) (r : Rs α) : Prop:=∀ x b,r = .ok x b → AtO L a0 d b
theorem Bl.bad {α : Type} {a0 d p : Nat} {e : Int} : Bl L a0 d (.bad p e : Rs α):=fun x b h=>by cases h
theorem Bl.ok {α : Type} {a0 d b : Nat} {v : α} (h : AtO L a0 d b) : Bl L a0 d (.ok v b):=fun x c e=>by cases e;exact h
theorem Bl.bind {α β : Type} {a0 d d' : Nat} {r : Rs α} {f : α → Nat → Rs β} (hr : Bl L a0 d' r) (hf : ∀ u a1,AtO L a0 d' a1 → Bl L a0 d (f u a1)) : Bl L a0 d (r.bind f):=by
 cases r with
 | ok u a1=>exact hf u a1 (hr u a1 rfl)
 | bad p e=>exact Bl.bad
theorem Bl.lift {α : Type} {a0 d a : Nat} {r : Rs α} (hA : AtO L a0 d a) (h : Bl L a 0 r) : Bl L a0 d r:=fun x b e=>hA.go (h x b e)
theorem Bl.iteS1 {α : Type} {a0 d d' a : Nat} {s : ByteArray} {x y : Rs α} (hs : opS s = 1) (hA : AtO L a0 d a) (hx : AtO L a0 (d + 1) (a + 1) → Bl L a0 d' x) (hy : Bl L a0 d' y) : Bl L a0 d' (if isS L a s = true then x else y):=by
 split
 ·rename_i h;exact hx (hA.step _ (by rw [open_isS h,hs];simp))
 ·exact hy
theorem Bl.iteS0 {α : Type} {a0 d d' a : Nat} {s : ByteArray} {x y : Rs α} (hs : opS s = 0) (hA : AtO L a0 d a) (hx : AtO L a0 d (a + 1) → openI (tokA L a) = 0 → Bl L a0 d' x) (hy : Bl L a0 d' y) : Bl L a0 d' (if isS L a s = true then x else y):=by
 split
 ·rename_i h;exact hx (hA.plain (by rw [open_isS h,hs])) (by rw [open_isS h,hs])
 ·exact hy
theorem Bl.iteSc {α : Type} {a0 d d' a : Nat} {s : ByteArray} {x y : Rs α} (hs : opS s = -1) (hA : AtO L a0 (d + 1) a) (hx : AtO L a0 d (a + 1) → Bl L a0 d' x) (hy : Bl L a0 d' y) : Bl L a0 d' (if isS L a s = true then x else y):=by
 split
 ·rename_i h;exact hx (hA.step _ (by rw [open_isS h,hs];omega))
 ·exact hy
theorem Bl.iteW {α : Type} {a0 d d' a : Nat} {s : ByteArray} {x y : Rs α} (hA : AtO L a0 d a) (hx : AtO L a0 d (a + 1) → Bl L a0 d' x) (hy : Bl L a0 d' y) : Bl L a0 d' (if isWd L a s = true then x else y):=by
 split
 ·rename_i h;exact hx (hA.plain (open_isWd h))
 ·exact hy
theorem Bl.iteN {α : Type} {a0 d d' a : Nat} {x y : Rs α} (hx : Bl L a0 d' x) (hy : Bl L a0 d' y) : Bl L a0 d' (if isN L a = true then x else y):=by
 split
 ·exact hx
 ·exact hy
theorem Bl.iteK {α : Type} {a0 d d' a : Nat} {k : Int} (hk : k ≠ 5) {x y : Rs α} (hA : AtO L a0 d a) (hx : AtO L a0 d (a + 1) → Bl L a0 d' x) (hy : Bl L a0 d' y) : Bl L a0 d' (if (tokA L a).k = k then x else y):=by
 split
 ·rename_i h;exact hx (hA.plain (open_kind (by omega)))
 ·exact hy
theorem Bl.ite3 {α : Type} {a0 d d' a : Nat} {s1 s2 : ByteArray} {w : ByteArray} {x y : Rs α} (h1 : opS s1 = 0) (h2 : opS s2 = 0) (hA : AtO L a0 d a) (hx : AtO L a0 d (a + 1) → Bl L a0 d' x) (hy : Bl L a0 d' y) : Bl L a0 d' (if isS L a s1 = true ∨ isS L a s2 = true ∨ isWd L a w = true then x else y):=by
 split
 ·rename_i h;exact hx (hA.plain (h.elim (fun h=>by rw [open_isS h,h1]) (fun h=>h.elim (fun h=>by rw [open_isS h,h2]) open_isWd)))
 ·exact hy
theorem Bl.iteT {α : Type} {a0 d d' a : Nat} {s2 : ByteArray} {w : ByteArray} {x y : Rs α} (hA : AtO L a0 d a) (hx : AtO L a0 d (a + 1) → Bl L a0 d' x) (hy : Bl L a0 d' y) : Bl L a0 d' (if isN L a = true ∨ isWd L a s2 = true ∨ isWd L a w = true then x else y):=by
 split
 ·rename_i h;exact hx (hA.plain (h.elim open_isN (fun h=>h.elim open_isWd open_isWd)))
 ·exact hy
theorem Bl.ite {α : Type} {a0 d : Nat} {p : Prop} [Decidable p] {x y : Rs α} (hx : Bl L a0 d x) (hy : Bl L a0 d y) : Bl L a0 d (if p then x else y):=by
 split
 ·exact hx
 ·exact hy
theorem want_bl1 {a0 d a : Nat} {s : ByteArray} (hs : opS s = 1) (hA : AtO L a0 d a) : Bl L a0 (d + 1) (wantR L s a):=Bl.iteS1 hs hA (fun h=>Bl.ok h) Bl.bad
theorem want_bl0 {a0 d a : Nat} {s : ByteArray} (hs : opS s = 0) (hA : AtO L a0 d a) : Bl L a0 d (wantR L s a):=Bl.iteS0 hs hA (fun h _=>Bl.ok h) Bl.bad
theorem want_blc {a0 d a : Nat} {s : ByteArray} (hs : opS s = -1) (hA : AtO L a0 (d + 1) a) : Bl L a0 d (wantR L s a):=Bl.iteSc hs hA (fun h=>Bl.ok h) Bl.bad
theorem id_bl {a0 d a : Nat} (hA : AtO L a0 d a) : Bl L a0 d (idR L a):=by
 unfold idR
 split
 ·rename_i h;exact Bl.ok (hA.plain (open_isN h))
 ·exact Bl.bad
theorem prop_bl {a0 d a : Nat} (hA : AtO L a0 d a) : Bl L a0 d (propR' L a):=by
 unfold propR'
 split
 ·rename_i h;exact Bl.ok (hA.plain (h.elim open_isN (fun h=>open_kind (by omega))))
 ·exact Bl.bad
theorem add_bl {a0 d a : Nat} {ns : List (List UInt8)} (hA : AtO L a0 d a) : Bl L a0 d (addR L ns a):=Bl.ite Bl.bad (Bl.ok hA)
theorem begin_bl {a0 d a o : Nat} (hA : AtO L a0 d a) : Bl L a0 d (beginR L a o):=Bl.ite Bl.bad (Bl.ite Bl.bad (Bl.ok hA))
theorem listG_bl {σ : Type} {s : ByteArray} (hs : opS s = -1) {F : σ → Nat → Rs (Nd × σ)} (hF : ∀ st a,Bl L a 0 (F st a)) : ∀ (n : Nat) (acc : List Nd) (st : σ) (a a0 d : Nat),AtO L a0 (d + 1) a → Bl L a0 d (listG L s F n acc st a)
 | 0,_,_,_,_,_,_=>Bl.bad
 | n + 1,acc,st,a,a0,d,h=>by
  rw [listG]
  refine Bl.iteSc hs h (fun h=>Bl.ok h) ?_
  have hf:=hF st a
  split
  ·exact Bl.bad
  ·rename_i x a1 e
   have h1 : AtO L a0 (d + 1) a1:=h.go (hf _ _ e)
   split
   ·exact listG_bl hs hF n _ _ _ _ _ h1
   ·exact Bl.iteS0 (by decide +kernel) h1 (fun h2 _=>listG_bl hs hF n _ _ _ _ _ h2) Bl.bad
theorem listE_bl {s : ByteArray} (hs : opS s = -1) {E : Nat → Rs Nd} (hE : ∀ a,Bl L a 0 (E a)) {a a0 d : Nat} (h : AtO L a0 (d + 1) a) : Bl L a0 d (listE L E s a):=listG_bl hs (fun _ a=>(hE a).bind (fun _ _ h=>Bl.ok h)) _ _ _ _ _ _ h
theorem stmtsG_bl {F : Nat → Rs Nd} (hF : ∀ a,Bl L a 0 (F a)) : ∀ (n : Nat) (acc : List Nd) (a a0 d : Nat),AtO L a0 (d + 1) a → Bl L a0 d (stmtsG L F n acc a)
 | 0,_,_,_,_,_=>Bl.bad
 | n + 1,acc,a,a0,d,h=>by
  rw [stmtsG]
  refine Bl.iteSc (by decide +kernel) h (fun h=>Bl.ok h) ?_
  have hf:=hF a
  split
  ·exact Bl.bad
  ·rename_i x a1 e
   exact stmtsG_bl hF n _ _ _ _ (h.go (hf _ _ e))
theorem blockG_bl {F : Nat → Rs Nd} (hF : ∀ a,Bl L a 0 (F a)) {a a0 d : Nat} (h : AtO L a0 d a) : Bl L a0 d (blockG L F a):=(want_bl1 (by decide +kernel) h).bind fun _ _ h1=>(stmtsG_bl hF _ _ _ _ _ h1).bind fun _ _ h2=>Bl.ok h2
theorem paramsG_bl {G : Nat → Rs Nd} (hG : ∀ a,Bl L a 0 (G a)) {a a0 d : Nat} (h : AtO L a0 d a) : Bl L a0 d (paramsG L G a) :=
 (want_bl1 (by decide +kernel) h).bind fun _ _ h1=>(listG_bl (by decide +kernel) (fun ns b=>(add_bl (AtO.refl b)).bind fun _ _ _=>(id_bl (AtO.refl b)).bind fun _ _ h2=>(Bl.lift h2 (hG _)).bind fun _ _ h3=>Bl.ok h3) _ _ _ _ _ _ h1).bind fun _ _ h2=>Bl.ok h2
theorem binG_bl {B : Nat → Nat → Rs Nd} (hB : ∀ m a,1 ≤ m → Bl L a 0 (B m a)) (m : Nat) (hm : 1 ≤ m) : ∀ (n : Nat) (nd : Nd) (a a0 d : Nat),AtO L a0 d a → Bl L a0 d (binG L B m n nd a)
 | 0,_,_,_,_,_=>Bl.bad
 | n + 1,nd,a,a0,d,h=>by
  rw [binG]
  split
  ·exact Bl.ok h
  ·exact (Bl.lift (h.plain (open_line (by omega))) (hB _ _ (by omega))).bind fun _ _ h2=>binG_bl hB m hm n _ _ _ _ h2
theorem postG_bl {E : Nat → Rs Nd} (hE : ∀ a,Bl L a 0 (E a)) : ∀ (n : Nat) (nd : Nd) (a a0 d : Nat),AtO L a0 d a → Bl L a0 d (postG L E n nd a)
 | 0,_,_,_,_,_=>Bl.bad
 | n + 1,nd,a,a0,d,h=>by
  rw [postG]
  exact Bl.iteS0 (by decide +kernel) h (fun q _=>(prop_bl q).bind fun _ _ h2=>postG_bl hE n _ _ _ _ h2) (Bl.iteS1 (by decide +kernel) h (fun q=>(Bl.lift q (hE _)).bind fun _ _ h2=>(want_blc (by decide +kernel) h2).bind fun _ _ h3=>postG_bl hE n _ _ _ _ h3) (Bl.iteS1 (by decide +kernel) h (fun q=>(listE_bl (by decide +kernel) hE q).bind fun _ _ h2=>postG_bl hE n _ _ _ _ h2) (Bl.ok h)))
theorem unionG_bl {E : Nat → Rs Nd} (hE : ∀ a,Bl L a 0 (E a)) : ∀ (n : Nat) (acc : List Nd) (a a0 d : Nat),AtO L a0 d a → Bl L a0 d (unionG L E n acc a)
 | 0,_,_,_,_,_=>Bl.bad
 | n + 1,acc,a,a0,d,h=>by
  rw [unionG]
  exact (Bl.lift h (hE a)).bind fun _ _ h1=>Bl.iteS0 (by decide +kernel) h1 (fun q _=>unionG_bl hE n _ _ _ _ q) (Bl.ok h1)
theorem arrayG_bl : ∀ (n : Nat) (nd : Nd) (a a0 d : Nat),AtO L a0 d a → Bl L a0 d (arrayG L n nd a)
 | 0,_,_,_,_,_=>Bl.bad
 | n + 1,nd,a,a0,d,h=>by
  rw [arrayG]
  exact Bl.iteS1 (by decide +kernel) h (fun q=>(want_blc (by decide +kernel) q).bind fun _ _ h2=>arrayG_bl n _ _ _ _ h2) (Bl.ok h)
theorem fieldsG_bl {T : Nat → Rs Nd} (hT : ∀ a,Bl L a 0 (T a)) : ∀ (n : Nat) (acc : List Nd) (ns : List (List UInt8)) (a a0 d : Nat),AtO L a0 (d + 1) a → Bl L a0 d (fieldsG L T n acc ns a)
 | 0,_,_,_,_,_,_=>Bl.bad
 | n + 1,acc,ns,a,a0,d,h=>by
  rw [fieldsG]
  exact Bl.iteSc (by decide +kernel) h (fun q=>Bl.ok q) ((add_bl h).bind fun _ _ _=>(prop_bl h).bind fun _ _ h1=>(Bl.lift h1 (hT _)).bind fun _ _ h2=>(want_bl0 (by decide +kernel) h2).bind fun _ _ h3=>fieldsG_bl hT n _ _ _ _ _ h3)
structure BlA (L : List Tok) (f : Nat) : Prop where
 expr' : ∀ (a : Nat) (o : Nat),Bl L a 0 (exprF L f a o)
 assign' : ∀ (nd : Nd) (a : Nat) (o : Nat),openI (tokA L a) = 0 → Bl L a 0 (assignF L f nd a o)
 cond' : ∀ (a : Nat) (o : Nat),Bl L a 0 (condF L f a o)
 bin' : ∀ (m : Nat) (a : Nat) (o : Nat),1 ≤ m → Bl L a 0 (binF L f m a o)
 unary' : ∀ (a : Nat) (o : Nat),Bl L a 0 (unaryF L f a o)
 post' : ∀ (a : Nat) (o : Nat),Bl L a 0 (postF L f a o)
 prim' : ∀ (a : Nat) (o : Nat),Bl L a 0 (primF L f a o)
 wprim' : ∀ (a : Nat) (o : Nat),Bl L a 0 (wprimF L f a o)
 sprim' : ∀ (a : Nat) (o : Nat),Bl L a 0 (sprimF L f a o)
 prop' : ∀ (a : Nat) (o : Nat),Bl L a 0 (propF L f a o)
 arrow' : ∀ (a : Nat) (o : Nat),Bl L a 0 (arrowF L f a o)
 abody' : ∀ (a : Nat) (o : Nat),Bl L a 0 (abodyF L f a o)
 typeOr' : ∀ (a : Nat) (o : Nat),Bl L a 0 (typeOrF L f a o)
 typing' : ∀ (a : Nat) (o : Nat),Bl L a 0 (typingF L f a o)
 type' : ∀ (a : Nat) (o : Nat),Bl L a 0 (typeF L f a o)
 ptype' : ∀ (a : Nat) (o : Nat),Bl L a 0 (ptypeF L f a o)
 rtype' : ∀ (a : Nat) (o : Nat),Bl L a 0 (rtypeF L f a o)
 objt' : ∀ (a : Nat) (o : Nat),∀ (a0 d : Nat),AtO L a0 (d + 1) a → Bl L a0 d (objtF L f a o)
 ftype' : ∀ (a : Nat) (o : Nat),Bl L a 0 (ftypeF L f a o)
 blk' : ∀ (a : Nat) (o : Nat),Bl L a 0 (blkF L f a o)
 stmt' : ∀ (a : Nat) (o : Nat),Bl L a 0 (stmtF L f a o)
 let' : ∀ (q : Int) (a : Nat) (o : Nat),Bl L a 0 (letF L f q a o)
 condi' : ∀ (a : Nat) (o : Nat),Bl L a 0 (condiF L f a o)
 els' : ∀ (a : Nat) (o : Nat),Bl L a 0 (elseF L f a o)
 exprOr' : ∀ (a : Nat) (o : Nat),Bl L a 0 (exprOrF L f a o)
 any' : ∀ (a : Nat) (o : Nat),Bl L a 0 (anyF L f a o)
theorem bl_all (L : List Tok) : ∀ f,BlA L f:=by
 intro f
 induction f with
 | zero=>constructor <;> (intros;simp [exprF,assignF,condF,binF,unaryF,postF,primF,wprimF,sprimF,propF,arrowF,abodyF,typeOrF,typingF,typeF,ptypeF,rtypeF,objtF,ftypeF,blkF,stmtF,letF,condiF,elseF,exprOrF,anyF];exact Bl.bad)
 | succ f ih =>
  constructor
  all_goals
   first
    | (intro a o;have hA : AtO L a 0 a:=AtO.refl a;first | rw [exprF] | rw [condF] | rw [unaryF] | rw [postF] | rw [primF] | rw [wprimF] | rw [sprimF] | rw [propF] | rw [arrowF] | rw [abodyF] | rw [typeOrF] | rw [typingF] | rw [typeF] | rw [ptypeF] | rw [rtypeF] | rw [ftypeF] | rw [blkF] | rw [stmtF] | rw [condiF] | rw [elseF] | rw [exprOrF] | rw [anyF])
    | (intro nd a o hz;have hA : AtO L a 0 a:=AtO.refl a;have hA2 : AtO L a 0 (a + 1):=hA.plain hz;first | rw [assignF])
    | (intro m a o hm;have hA : AtO L a 0 a:=AtO.refl a;first | rw [binF])
    | (intro a o a0 d hA;first | rw [objtF])
    | (intro q a o;have hA : AtO L a 0 a:=AtO.refl a;first | rw [letF])
   repeat (first
    | exact Bl.bad
    | exact Bl.ok (by assumption)
    | exact blockG_bl (fun _=>ih.stmt' _ _) (by assumption)
    | exact binG_bl (fun _ _ h1=>ih.bin' _ _ _ h1) _ (by omega) _ _ _ _ _ (by assumption)
    | exact postG_bl (fun _=>ih.expr' _ _) _ _ _ _ _ (by assumption)
    | exact arrayG_bl _ _ _ _ _ (by assumption)
    | (refine Bl.iteS1 (by decide +kernel) (by assumption) (fun _=>?_) ?_)
    | (refine Bl.iteS0 (by decide +kernel) (by assumption) (fun _ _=>?_) ?_)
    | (refine Bl.iteW (by assumption) (fun _=>?_) ?_)
    | (refine Bl.iteN (d:=0) ?_ ?_)
    | (refine Bl.iteK (by decide) (by assumption) (fun _=>?_) ?_)
    | (refine Bl.ite3 (by decide +kernel) (by decide +kernel) (by assumption) (fun _=>?_) ?_)
    | (refine Bl.iteT (by assumption) (fun _=>?_) ?_)
    | (refine Bl.ite ?_ ?_)
    | (refine Bl.bind (begin_bl (by assumption)) ?_;intro _ _ _)
    | (refine Bl.bind (want_bl1 (by decide +kernel) (by assumption)) ?_;intro _ _ _)
    | (refine Bl.bind (want_bl0 (by decide +kernel) (by assumption)) ?_;intro _ _ _)
    | (refine Bl.bind (want_blc (by decide +kernel) (by assumption)) ?_;intro _ _ _)
    | (refine Bl.bind (id_bl (by assumption)) ?_;intro _ _ _)
    | (refine Bl.bind (prop_bl (by assumption)) ?_;intro _ _ _)
    | (refine Bl.bind (listE_bl (by decide +kernel) (fun _=>by first | exact ih.expr' _ _ | exact ih.prop' _ _) (by assumption)) ?_;intro _ _ _)
    | (refine Bl.bind (paramsG_bl (fun _=>by first | exact ih.typeOr' _ _ | exact ih.typing' _ _) (by assumption)) ?_;intro _ _ _)
    | (refine Bl.bind (unionG_bl (fun _=>ih.ptype' _ _) _ _ _ _ _ (by assumption)) ?_;intro _ _ _)
    | (refine Bl.bind (fieldsG_bl (fun _=>ih.typing' _ _) _ _ _ _ _ _ (by assumption)) ?_;intro _ _ _)
    | (refine Bl.bind (by first | exact Bl.lift (by assumption) (ih.assign' _ _ _ (by assumption)) | exact Bl.lift (by assumption) (ih.cond' _ _)) ?_;intro _ _ _)
    | (first | exact Bl.lift (by assumption) (ih.assign' _ _ _ (by assumption)) | exact Bl.lift (by assumption) (ih.cond' _ _))
    | (refine Bl.bind (by first | exact Bl.lift (by assumption) (ih.expr' _ _)) ?_;intro _ _ _)
    | (first | exact Bl.lift (by assumption) (ih.expr' _ _))
    | (refine Bl.bind (by first | exact Bl.lift (by assumption) (ih.expr' _ _) | exact Bl.lift (by assumption) (ih.bin' _ _ _ (by omega))) ?_;intro _ _ _)
    | (first | exact Bl.lift (by assumption) (ih.expr' _ _) | exact Bl.lift (by assumption) (ih.bin' _ _ _ (by omega)))
    | (refine Bl.bind (by first | exact Bl.lift (by assumption) (ih.unary' _ _)) ?_;intro _ _ _)
    | (first | exact Bl.lift (by assumption) (ih.unary' _ _))
    | (refine Bl.bind (by first | exact Bl.lift (by assumption) (ih.unary' _ _) | exact Bl.lift (by assumption) (ih.post' _ _)) ?_;intro _ _ _)
    | (first | exact Bl.lift (by assumption) (ih.unary' _ _) | exact Bl.lift (by assumption) (ih.post' _ _))
    | (refine Bl.bind (by first | exact Bl.lift (by assumption) (ih.prim' _ _)) ?_;intro _ _ _)
    | (first | exact Bl.lift (by assumption) (ih.prim' _ _))
    | (refine Bl.bind (by first | exact Bl.lift (by assumption) (ih.wprim' _ _) | exact Bl.lift (by assumption) (ih.sprim' _ _)) ?_;intro _ _ _)
    | (first | exact Bl.lift (by assumption) (ih.wprim' _ _) | exact Bl.lift (by assumption) (ih.sprim' _ _))
    | (refine Bl.bind (by first | exact Bl.lift (by assumption) (ih.typeOr' _ _) | exact Bl.lift (by assumption) (ih.blk' _ _)) ?_;intro _ _ _)
    | (first | exact Bl.lift (by assumption) (ih.typeOr' _ _) | exact Bl.lift (by assumption) (ih.blk' _ _))
    | (refine Bl.bind (by first | exact Bl.lift (by assumption) (ih.expr' _ _) | exact Bl.lift (by assumption) (ih.arrow' _ _)) ?_;intro _ _ _)
    | (first | exact Bl.lift (by assumption) (ih.expr' _ _) | exact Bl.lift (by assumption) (ih.arrow' _ _))
    | (refine Bl.bind (by first | exact Bl.lift (by assumption) (ih.abody' _ _)) ?_;intro _ _ _)
    | (first | exact Bl.lift (by assumption) (ih.abody' _ _))
    | (refine Bl.bind (by first | exact Bl.lift (by assumption) (ih.expr' _ _) | exact Bl.lift (by assumption) (ih.blk' _ _)) ?_;intro _ _ _)
    | (first | exact Bl.lift (by assumption) (ih.expr' _ _) | exact Bl.lift (by assumption) (ih.blk' _ _))
    | (refine Bl.bind (by first | exact Bl.lift (by assumption) (ih.typing' _ _)) ?_;intro _ _ _)
    | (first | exact Bl.lift (by assumption) (ih.typing' _ _))
    | (refine Bl.bind (by first | exact Bl.lift (by assumption) (ih.type' _ _)) ?_;intro _ _ _)
    | (first | exact Bl.lift (by assumption) (ih.type' _ _))
    | (refine Bl.bind (by first | fail) ?_;intro _ _ _)
    | (first | fail)
    | (refine Bl.bind (by first | exact Bl.lift (by assumption) (ih.rtype' _ _)) ?_;intro _ _ _)
    | (first | exact Bl.lift (by assumption) (ih.rtype' _ _))
    | (refine Bl.bind (by first | exact Bl.lift (by assumption) (ih.type' _ _) | exact ih.objt' _ _ _ _ (by assumption) | exact Bl.lift (by assumption) (ih.ftype' _ _)) ?_;intro _ _ _)
    | (first | exact Bl.lift (by assumption) (ih.type' _ _) | exact ih.objt' _ _ _ _ (by assumption) | exact Bl.lift (by assumption) (ih.ftype' _ _))
    | (refine Bl.bind (by first | exact Bl.lift (by assumption) (ih.any' _ _)) ?_;intro _ _ _)
    | (first | exact Bl.lift (by assumption) (ih.any' _ _))
    | (refine Bl.bind (by first | exact Bl.lift (by assumption) (ih.expr' _ _) | exact Bl.lift (by assumption) (ih.typeOr' _ _)) ?_;intro _ _ _)
    | (first | exact Bl.lift (by assumption) (ih.expr' _ _) | exact Bl.lift (by assumption) (ih.typeOr' _ _))
    | (refine Bl.bind (by first | exact Bl.lift (by assumption) (ih.blk' _ _) | exact Bl.lift (by assumption) (ih.stmt' _ _)) ?_;intro _ _ _)
    | (first | exact Bl.lift (by assumption) (ih.blk' _ _) | exact Bl.lift (by assumption) (ih.stmt' _ _))
    | (refine Bl.bind (by first | exact Bl.lift (by assumption) (ih.expr' _ _) | exact Bl.lift (by assumption) (ih.typeOr' _ _) | exact Bl.lift (by assumption) (ih.blk' _ _) | exact Bl.lift (by assumption) (ih.let' _ _ _) | exact Bl.lift (by assumption) (ih.condi' _ _) | exact Bl.lift (by assumption) (ih.els' _ _) | exact Bl.lift (by assumption) (ih.exprOr' _ _)) ?_;intro _ _ _)
    | (first | exact Bl.lift (by assumption) (ih.expr' _ _) | exact Bl.lift (by assumption) (ih.typeOr' _ _) | exact Bl.lift (by assumption) (ih.blk' _ _) | exact Bl.lift (by assumption) (ih.let' _ _ _) | exact Bl.lift (by assumption) (ih.condi' _ _) | exact Bl.lift (by assumption) (ih.els' _ _) | exact Bl.lift (by assumption) (ih.exprOr' _ _)))
end Go.Proofs.YthfkfbcopinmiaaGreatDoor
set_option linter.unusedVariables false
set_option linter.unusedSimpArgs false
set_option maxHeartbeats 8000000
namespace Go.Proofs.YthfkfbcopinmiaaGreatDoor
open Go.RowKit
structure Br (L M : List Tok) : Prop where
 len : M.length = L.length + 2
 same : ∀ a,a < L.length → (tokA M (a + 1)).k = (tokA L a).k ∧ (tokA M (a + 1)).t = (tokA L a).t ∧ (tokA M (a + 1)).n = (tokA L a).n
 fin : (tokA M (L.length + 1)).k = 5 ∧ (tokA M (L.length + 1)).t.toList = [41]
variable {L M : List Tok}
theorem tok_end {a : Nat} (h : L.length ≤ a) : tokA L a = endT:=by
 unfold tokA
 rw [List.getElem?_eq_none h]
 rfl
theorem Br.isSl (h : Br L M) {a : Nat} (ha : a < L.length) (s : ByteArray) : isS M (a + 1) s = isS L a s:=by
 obtain ⟨h1,h2,_⟩:=h.same a ha
 unfold isS
 rw [h1,h2]
theorem Br.isS (h : Br L M) {a : Nat} (ha : a ≤ L.length) {s : ByteArray} (hs : s.toList ≠ [41]) : isS M (a + 1) s = isS L a s:=by
 by_cases hl : a < L.length
 ·exact h.isSl hl s
 ·obtain rfl : a = L.length:=by omega
  have e : ([41] == s.toList) = false:=beq_eq_false_iff_ne.2 (fun e=>hs e.symm)
  unfold Go.Proofs.YthfkfbcopinmiaaGreatDoor.isS
  rw [tok_end (Nat.le_refl _),h.fin.1,h.fin.2,e]
  rfl
theorem Br.isS1 (h : Br L M) {a : Nat} {s : ByteArray} (hs : Go.Proofs.YthfkfbcopinmiaaGreatDoor.isS L a s = true) : Go.Proofs.YthfkfbcopinmiaaGreatDoor.isS M (a + 1) s = true:=by rw [h.isSl (isS_lt hs)];exact hs
theorem Br.kind (h : Br L M) {a : Nat} (ha : a ≤ L.length) {k : Int} (h0 : k ≠ 0) (h5 : k ≠ 5) : ((tokA M (a + 1)).k = k) = ((tokA L a).k = k):=by
 by_cases hl : a < L.length
 ·rw [(h.same a hl).1]
 ·obtain rfl : a = L.length:=by omega
  rw [tok_end (Nat.le_refl _),h.fin.1]
  simp only [eq_iff_iff]
  constructor
  ·intro e;exact absurd e.symm h5
  ·intro e;exact absurd e.symm h0
theorem Br.kindB (h : Br L M) {a : Nat} (ha : a ≤ L.length) {k : Int} (h0 : k ≠ 0) (h5 : k ≠ 5) : ((tokA M (a + 1)).k == k) = ((tokA L a).k == k):=by
 have:=h.kind ha h0 h5
 rw [Bool.eq_iff_iff,beq_iff_eq,beq_iff_eq,this]
theorem Br.isWd (h : Br L M) {a : Nat} (ha : a ≤ L.length) (s : ByteArray) : isWd M (a + 1) s = isWd L a s:=by
 by_cases hl : a < L.length
 ·obtain ⟨h1,h2,_⟩:=h.same a hl
  unfold Go.Proofs.YthfkfbcopinmiaaGreatDoor.isWd
  rw [h1,h2]
 ·unfold Go.Proofs.YthfkfbcopinmiaaGreatDoor.isWd
  rw [h.kindB ha (by decide) (by decide)]
  obtain rfl : a = L.length:=by omega
  rw [tok_end (Nat.le_refl _)]
  rfl
theorem Br.isN (h : Br L M) {a : Nat} (ha : a ≤ L.length) : isN M (a + 1) = isN L a:=by
 unfold Go.Proofs.YthfkfbcopinmiaaGreatDoor.isN
 exact h.kindB ha (by decide) (by decide)
theorem line_eq {x y : Tok} (hk : x.k = y.k) (ht : x.t = y.t) : lineI x = lineI y:=by unfold lineI;rw [hk,ht]
theorem open_eq {x y : Tok} (hk : x.k = y.k) (ht : x.t = y.t) : openI x = openI y:=by unfold openI;rw [hk,ht]
theorem Br.line (h : Br L M) {a : Nat} (ha : a ≤ L.length) : lineI (tokA M (a + 1)) = lineI (tokA L a):=by
 by_cases hl : a < L.length
 ·exact line_eq (h.same a hl).1 (h.same a hl).2.1
 ·obtain rfl : a = L.length:=by omega
  rw [tok_end (Nat.le_refl _)]
  unfold lineI
  rw [h.fin.1,h.fin.2]
  decide
theorem arr_at {j : Nat} (hj : j < L.length) : ∀ (m i : Nat) (d : Int),i + m = j → (∀ c,i ≤ c → c < j → d + (sumO L (c + 1) - sumO L i) ≠ 0) → d + (sumO L (j + 1) - sumO L i) = 0 → arrL L (L.drop i) i d = isS L (j + 1) sAr
 | 0,i,d,h,_,hz=>by
  obtain rfl : i = j:=by omega
  have e : tokA L i = L[i]:=by simp [tokA,hj]
  have e1 : sumO L (i + 1) = sumO L i + openI (tokA L i):=rfl
  rw [List.drop_eq_getElem_cons hj,arrL,if_pos (by rw [← e];omega)]
 | m + 1,i,d,h,hn,hz=>by
  have hi : i < L.length:=by omega
  have e : tokA L i = L[i]:=by simp [tokA,hi]
  have e1 : sumO L (i + 1) = sumO L i + openI (tokA L i):=rfl
  have h1:=hn i (by omega) (by omega)
  rw [List.drop_eq_getElem_cons hi,arrL,if_neg (by rw [← e];omega)]
  refine arr_at hj m (i + 1) _ (by omega) (fun c hc1 hc2=>?_) ?_
  ·have:=hn c (by omega) hc2
   rw [← e]
   omega
  ·rw [← e]
   omega
theorem least {P : Nat → Prop} (m : Nat) (h : P m) : ∃ j,j ≤ m ∧ P j ∧ ∀ c,c < j → ¬ P c:=by
 induction m using Nat.strongRecOn with
 | _ m ih =>
  by_cases hc : ∃ c,c < m ∧ P c
  ·obtain ⟨c,h1,h2⟩:=hc
   obtain ⟨j,h3,h4,h5⟩:=ih c h1 h2
   exact ⟨j,by omega,h4,h5⟩
  ·exact ⟨m,Nat.le_refl _,h,fun c h1 h2=>hc ⟨c,h1,h2⟩⟩
theorem first_zero {a b : Nat} (h : AtO L a 0 b) (hab : a < b) : ∃ j,a ≤ j ∧ j < b ∧ sumO L (j + 1) = sumO L a ∧ ∀ c,a ≤ c → c < j → sumO L (c + 1) ≠ sumO L a:=by
 obtain ⟨j,h1,h2,h3⟩:=least (P:=fun c=>a ≤ c ∧ sumO L (c + 1) = sumO L a) (b - 1) ⟨by omega,by rw [show b - 1 + 1 = b by omega,h.sum];simp⟩
 exact ⟨j,h2.1,by omega,h2.2,fun c h4 h5 h6=>h3 c h5 ⟨h4,h6⟩⟩
def Sm {α : Type} (L : List Tok) (r r' : Rs α) : Prop:=∀ x b,r = .ok x b → (b ≤ L.length ∧ r' = .ok x (b + 1)) ∨ ∃ p,r' = .bad p 2
theorem Sm.bad {α : Type} {p : Nat} {e : Int} {r' : Rs α} : Sm L (.bad p e) r':=fun x b h=>by cases h
theorem Sm.ok {α : Type} {b : Nat} {v : α} (h : b ≤ L.length) : Sm L (.ok v b) (.ok v (b + 1)):=fun x c e=>by cases e;exact .inl ⟨h,rfl⟩
theorem Sm.ok' {α : Type} {b : Nat} {v v' : α} (e : v' = v) (h : b ≤ L.length) : Sm L (.ok v b) (.ok v' (b + 1)):=by rw [e];exact Sm.ok h
theorem Sm.bind {α β : Type} {r r' : Rs α} {f g : α → Nat → Rs β} (hr : Sm L r r') (hf : ∀ u a1,a1 ≤ L.length → Sm L (f u a1) (g u (a1 + 1))) : Sm L (r.bind f) (r'.bind g):=by
 cases r with
 | bad p e=>exact Sm.bad
 | ok u a1 =>
  rcases hr u a1 rfl with ⟨h,rfl⟩ | ⟨p,rfl⟩
  ·exact hf u a1 h
  ·intro x b _
   exact .inr ⟨p,rfl⟩
theorem Sm.iteS {α : Type} {a : Nat} {s : ByteArray} {x y x' y' : Rs α} (hB : Br L M) (hs : s.toList ≠ [41]) (ha : a ≤ L.length) (hx : a < L.length → isS L a s = true → Sm L x x') (hy : Sm L y y') : Sm L (if isS L a s = true then x else y) (if isS M (a + 1) s = true then x' else y'):=by
 rw [hB.isS ha hs]
 split
 ·rename_i h;exact hx (isS_lt h) h
 ·exact hy
theorem Sm.iteW {α : Type} {a : Nat} {s : ByteArray} {x y x' y' : Rs α} (hB : Br L M) (ha : a ≤ L.length) (hx : a < L.length → Sm L x x') (hy : Sm L y y') : Sm L (if isWd L a s = true then x else y) (if isWd M (a + 1) s = true then x' else y'):=by
 rw [hB.isWd ha]
 split
 ·rename_i h;exact hx (isWd_lt h)
 ·exact hy
theorem Sm.iteN {α : Type} {a : Nat} {x y x' y' : Rs α} (hB : Br L M) (ha : a ≤ L.length) (hx : a < L.length → Sm L x x') (hy : Sm L y y') : Sm L (if isN L a = true then x else y) (if isN M (a + 1) = true then x' else y'):=by
 rw [hB.isN ha]
 split
 ·rename_i h;exact hx (isN_lt h)
 ·exact hy
theorem Sm.iteK {α : Type} {a : Nat} {k : Int} {x y x' y' : Rs α} (hB : Br L M) (h0 : k ≠ 0) (h5 : k ≠ 5) (ha : a ≤ L.length) (hx : a < L.length → (tokA M (a + 1)).t = (tokA L a).t → (tokA M (a + 1)).n = (tokA L a).n → Sm L x x') (hy : Sm L y y') : Sm L (if (tokA L a).k = k then x else y) (if (tokA M (a + 1)).k = k then x' else y'):=by
 simp only [hB.kind ha h0 h5]
 split
 ·rename_i h
  have hl : a < L.length:=kind_lt (by rw [h];exact h0)
  exact hx hl (hB.same a hl).2.1 (hB.same a hl).2.2
 ·exact hy
theorem Sm.ite3 {α : Type} {a : Nat} {s1 s2 w : ByteArray} {x y x' y' : Rs α} (hB : Br L M) (h1 : s1.toList ≠ [41]) (h2 : s2.toList ≠ [41]) (ha : a ≤ L.length) (hx : a < L.length → (tokA M (a + 1)).t = (tokA L a).t → Sm L x x') (hy : Sm L y y') : Sm L (if isS L a s1 = true ∨ isS L a s2 = true ∨ isWd L a w = true then x else y) (if isS M (a + 1) s1 = true ∨ isS M (a + 1) s2 = true ∨ isWd M (a + 1) w = true then x' else y'):=by
 rw [hB.isS ha h1,hB.isS ha h2,hB.isWd ha]
 split
 ·rename_i h
  have hl : a < L.length:=h.elim isS_lt (fun h=>h.elim isS_lt isWd_lt)
  exact hx hl (hB.same a hl).2.1
 ·exact hy
theorem Sm.iteT {α : Type} {a : Nat} {s2 w : ByteArray} {x y x' y' : Rs α} (hB : Br L M) (ha : a ≤ L.length) (hx : a < L.length → (tokA M (a + 1)).t = (tokA L a).t → Sm L x x') (hy : Sm L y y') : Sm L (if isN L a = true ∨ isWd L a s2 = true ∨ isWd L a w = true then x else y) (if isN M (a + 1) = true ∨ isWd M (a + 1) s2 = true ∨ isWd M (a + 1) w = true then x' else y'):=by
 rw [hB.isN ha,hB.isWd ha,hB.isWd ha]
 split
 ·rename_i h
  have hl : a < L.length:=h.elim isN_lt (fun h=>h.elim isWd_lt isWd_lt)
  exact hx hl (hB.same a hl).2.1
 ·exact hy
theorem Sm.ite {α : Type} {p : Prop} [Decidable p] {x y x' y' : Rs α} (hx : Sm L x x') (hy : Sm L y y') : Sm L (if p then x else y) (if p then x' else y'):=by
 split
 ·exact hx
 ·exact hy
end Go.Proofs.YthfkfbcopinmiaaGreatDoor
