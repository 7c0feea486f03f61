/- Own text. Package parse: its faces Expr,Type,Stmt. Package parse: more fuel changes nothing (of the model;no program is named here). Plain mathematics of texts as runes: a text of bytes cut into runes,and bytes that belong to none. Plain mathematics of texts in quotes: what stands for each rune of a text. Plain mathematics of the runes between two places of a text. A rune cut out of a text is that rune by itself. The contracts of the small functions of package runes and of the document's answer: letters and digits. -/
import Derived.Test.YthfkfbcopinmiaaGreatDoorGk10
import Derived.Test.YthfkfbcopinmiaaGreatDoorGk20
import Derived.Test.YthfkfbcopinmiaaGreatDoorGk05
import Derived.Lib.RuneCount
import Derived.Lib.Strings
import Derived.Lib.RuneBytes
import Derived.Test.YthfkfbcopinmiaaGreatDoorProg
import Derived.WalkKit
set_option linter.unusedVariables false
set_option linter.unusedSimpArgs false
set_option maxRecDepth 100000
set_option maxHeartbeats 4000000
namespace Go.Proofs.YthfkfbcopinmiaaGreatDoor
open Go.RowKit
theorem res_Expr {W : World} {p : Nat} {a b c d vq vr : Value} {tmps : Array Value} (mp : W.heap[p]?=some (.cells #[a,b,c,d] 24 (0,0))) (h4 : tmps[4]?.getD undef = .pointer (some ⟨p,0,none⟩)) (h5 : tmps[5]?.getD undef=vq) (h6 : tmps[6]?.getD undef=vr) : (results Tryz.f110 tmps).run Tryz.prog W = .ok (.tuple #[.agg #[a,b,c,d],vq,vr]) W:=by
 obtain ⟨⟨c0,c1,c2,c3⟩,_⟩:=t4 mp
 simp [results,Tryz.results110,go_sem,h4,h5,h6,c0,c1,c2,c3]
theorem faceExpr (L : List Tok) (w : World) (v : Value) (i : Int) (hv : TkV w v L) (hi : -9223372036854775808 ≤ i∧i ≤ 9223372036854775807) :
 Calls Tryz.prog 110 #[v,.int .i64 i] w (AnsF w (readP L (exprF L (fuelL L)) i)):=by
 have bel_n : ∀ o,Below w.heap.size w (w.alloc o):=fun o=>B0.alloc le0 o
 have hv' : ∀ o,TkV (w.alloc o) v L:=fun o=>by
  obtain ⟨⟨ta,tc,bl,of,e,h1,h2,h3⟩,h4,h5⟩:=hv
  exact ⟨⟨ta,tc,bl,of,e,h1,h2.bel (bel_n o),h3⟩,h4,h5⟩
 have C:=fun o=>read_any L _ _ eg_anExpr (allC L hv.texts (fuelL L)).hE _ v i (hv' o) hi
 generalize readP L (exprF L (fuelL L)) i=r at *
 have M0 : Hid (∀ W,Below (w.alloc zN).heap.size (w.alloc zN) W→W.heap[w.heap.size]?=some (.cells #[.int .i64 0,.string ⟨#[]⟩,.int .i64 0,.slice none 0 0] 24 (0,0))):=fun W b=>(b.block _ (by simp)).trans (heap_alloc_new w _)
 go_enter Tryz.func110,Tryz.ntmps110
 go_wp2_with (go_at_call 93;refine (C _).mono ?_;rintro e W1 ⟨ad,c,rfl,l1,b1⟩;have m1:=M0.out _ b1;obtain ⟨⟨_,_,_,_⟩,_,_,_,_⟩:=t4 m1)
 have b2 : Below w.heap.size w W1:=(bel_n _).trans (b1.mono (by simp))
 have s1:=b1.size
 simp at s1
 refine bodyPost_ret (res_Expr (t4_set _ _ _ _ m1) rfl rfl rfl) rfl ⟨ad,c,rfl,?_,?_⟩
 ·exact (l1.mono (T:=fun b=>w.heap.size+1 ≤ b) (fun b hb=>by simp at hb;omega)).set4 (by omega) (by omega) _ _ _ _
 ·exact (((b2.setCell le0 _).setCell le0 _).setCell le0 _).setCell le0 _
theorem eg_aType : ∀ args w,(callFunc 94 args).run Tryz.prog w = .ok (.enter 94 args) w:=Go.Proofs.enters_of Tryz.func94 (by kernel_rfl) rfl
theorem res_Type {W : World} {p : Nat} {a b c d vq vr : Value} {tmps : Array Value} (mp : W.heap[p]?=some (.cells #[a,b,c,d] 24 (0,0))) (h4 : tmps[4]?.getD undef = .pointer (some ⟨p,0,none⟩)) (h5 : tmps[5]?.getD undef=vq) (h6 : tmps[6]?.getD undef=vr) : (results Tryz.f59 tmps).run Tryz.prog W = .ok (.tuple #[.agg #[a,b,c,d],vq,vr]) W:=by
 obtain ⟨⟨c0,c1,c2,c3⟩,_⟩:=t4 mp
 simp [results,Tryz.results59,go_sem,h4,h5,h6,c0,c1,c2,c3]
theorem faceType (L : List Tok) (w : World) (v : Value) (i : Int) (hv : TkV w v L) (hi : -9223372036854775808 ≤ i∧i ≤ 9223372036854775807) :
 Calls Tryz.prog 59 #[v,.int .i64 i] w (AnsF w (readP L (typeF L (fuelL L)) i)):=by
 have bel_n : ∀ o,Below w.heap.size w (w.alloc o):=fun o=>B0.alloc le0 o
 have hv' : ∀ o,TkV (w.alloc o) v L:=fun o=>by
  obtain ⟨⟨ta,tc,bl,of,e,h1,h2,h3⟩,h4,h5⟩:=hv
  exact ⟨⟨ta,tc,bl,of,e,h1,h2.bel (bel_n o),h3⟩,h4,h5⟩
 have C:=fun o=>read_any L _ _ eg_aType (allC L hv.texts (fuelL L)).hT _ v i (hv' o) hi
 generalize readP L (typeF L (fuelL L)) i=r at *
 have M0 : Hid (∀ W,Below (w.alloc zN).heap.size (w.alloc zN) W→W.heap[w.heap.size]?=some (.cells #[.int .i64 0,.string ⟨#[]⟩,.int .i64 0,.slice none 0 0] 24 (0,0))):=fun W b=>(b.block _ (by simp)).trans (heap_alloc_new w _)
 go_enter Tryz.func59,Tryz.ntmps59
 go_wp2_with (go_at_call 93;refine (C _).mono ?_;rintro e W1 ⟨ad,c,rfl,l1,b1⟩;have m1:=M0.out _ b1;obtain ⟨⟨_,_,_,_⟩,_,_,_,_⟩:=t4 m1)
 have b2 : Below w.heap.size w W1:=(bel_n _).trans (b1.mono (by simp))
 have s1:=b1.size
 simp at s1
 refine bodyPost_ret (res_Type (t4_set _ _ _ _ m1) rfl rfl rfl) rfl ⟨ad,c,rfl,?_,?_⟩
 ·exact (l1.mono (T:=fun b=>w.heap.size+1 ≤ b) (fun b hb=>by simp at hb;omega)).set4 (by omega) (by omega) _ _ _ _
 ·exact (((b2.setCell le0 _).setCell le0 _).setCell le0 _).setCell le0 _
theorem res_Stmt {W : World} {p : Nat} {a b c d vq vr : Value} {tmps : Array Value} (mp : W.heap[p]?=some (.cells #[a,b,c,d] 24 (0,0))) (h4 : tmps[4]?.getD undef = .pointer (some ⟨p,0,none⟩)) (h5 : tmps[5]?.getD undef=vq) (h6 : tmps[6]?.getD undef=vr) : (results Tryz.f60 tmps).run Tryz.prog W = .ok (.tuple #[.agg #[a,b,c,d],vq,vr]) W:=by
 obtain ⟨⟨c0,c1,c2,c3⟩,_⟩:=t4 mp
 simp [results,Tryz.results60,go_sem,h4,h5,h6,c0,c1,c2,c3]
theorem faceStmt (L : List Tok) (w : World) (v : Value) (i : Int) (hv : TkV w v L) (hi : -9223372036854775808 ≤ i∧i ≤ 9223372036854775807) :
 Calls Tryz.prog 60 #[v,.int .i64 i] w (AnsF w (readP L (stmtF L (fuelL L)) i)):=by
 have bel_n : ∀ o,Below w.heap.size w (w.alloc o):=fun o=>B0.alloc le0 o
 have hv' : ∀ o,TkV (w.alloc o) v L:=fun o=>by
  obtain ⟨⟨ta,tc,bl,of,e,h1,h2,h3⟩,h4,h5⟩:=hv
  exact ⟨⟨ta,tc,bl,of,e,h1,h2.bel (bel_n o),h3⟩,h4,h5⟩
 have C:=fun o=>read_any L _ _ eg_aStmt (allC L hv.texts (fuelL L)).hS _ v i (hv' o) hi
 generalize readP L (stmtF L (fuelL L)) i=r at *
 have M0 : Hid (∀ W,Below (w.alloc zN).heap.size (w.alloc zN) W→W.heap[w.heap.size]?=some (.cells #[.int .i64 0,.string ⟨#[]⟩,.int .i64 0,.slice none 0 0] 24 (0,0))):=fun W b=>(b.block _ (by simp)).trans (heap_alloc_new w _)
 go_enter Tryz.func60,Tryz.ntmps60
 go_wp2_with (go_at_call 93;refine (C _).mono ?_;rintro e W1 ⟨ad,c,rfl,l1,b1⟩;have m1:=M0.out _ b1;obtain ⟨⟨_,_,_,_⟩,_,_,_,_⟩:=t4 m1)
 have b2 : Below w.heap.size w W1:=(bel_n _).trans (b1.mono (by simp))
 have s1:=b1.size
 simp at s1
 refine bodyPost_ret (res_Stmt (t4_set _ _ _ _ m1) rfl rfl rfl) rfl ⟨ad,c,rfl,?_,?_⟩
 ·exact (l1.mono (T:=fun b=>w.heap.size+1 ≤ b) (fun b hb=>by simp at hb;omega)).set4 (by omega) (by omega) _ _ _ _
 ·exact (((b2.setCell le0 _).setCell le0 _).setCell le0 _).setCell le0 _
set_option maxHeartbeats 20000000
def Le {α : Type} (r s : Rs α) : Prop:=(∃ p,r = .bad p 0) ∨ r=s
theorem Le.refl {α : Type} (r : Rs α) : Le r r:=.inr rfl
theorem Le.bind {α β : Type} {r s : Rs α} {f g : α→Nat→Rs β} (h : Le r s) (hf : ∀ u a,Le (f u a) (g u a)) : Le (r.bind f) (s.bind g):=by
 rcases h with ⟨p,rfl⟩ | rfl
 ·exact .inl ⟨p,rfl⟩
 ·cases r with
  | ok u a=>exact hf u a
  | bad p e=>exact .inr rfl
theorem Le.ite {α : Type} {p : Prop} [Decidable p] {x y x' y' : Rs α} (hx : Le x x') (hy : Le y y') : Le (if p then x else y) (if p then x' else y'):=by
 split
 ·exact hx
 ·exact hy
theorem le_listG {σ : Type} {L : List Tok} {s : ByteArray} {F F' : σ→Nat→Rs (Nd × σ)} (hF : ∀ st a,Le (F st a) (F' st a)) : ∀ (n : Nat) (acc : List Nd) (st : σ) (a : Nat),Le (listG L s F n acc st a) (listG L s F' n acc st a)
 | 0,_,_,_=>.refl _
 | n+1,acc,st,a=>by
  rw [listG,listG]
  split
  ·exact .refl _
  ·rcases hF st a with ⟨p,h⟩ | h
   ·rw [h];exact .inl ⟨p,rfl⟩
   ·rw [h]
    split
    ·exact .refl _
    ·exact Le.ite (le_listG hF n _ _ _) (Le.ite (le_listG hF n _ _ _) (.refl _))
theorem le_listE {L : List Tok} {s : ByteArray} {E E' : Nat→Rs Nd} (hE : ∀ a,Le (E a) (E' a)) (a : Nat) : Le (listE L E s a) (listE L E' s a) :=
 le_listG (fun _ a=>(hE a).bind (fun _ _=>.refl _)) _ _ _ _
theorem le_stmtsG {L : List Tok} {F F' : Nat→Rs Nd} (hF : ∀ a,Le (F a) (F' a)) : ∀ (n : Nat) (acc : List Nd) (a : Nat),Le (stmtsG L F n acc a) (stmtsG L F' n acc a)
 | 0,_,_=>.refl _
 | n+1,acc,a=>by
  rw [stmtsG,stmtsG]
  split
  ·exact .refl _
  ·rcases hF a with ⟨p,h⟩ | h
   ·rw [h];exact .inl ⟨p,rfl⟩
   ·rw [h]
    split
    ·exact .refl _
    ·exact le_stmtsG hF n _ _
theorem le_blockG {L : List Tok} {F F' : Nat→Rs Nd} (hF : ∀ a,Le (F a) (F' a)) (a : Nat) : Le (blockG L F a) (blockG L F' a) :=
 Le.bind (.refl _) (fun _ _=>Le.bind (le_stmtsG hF _ _ _) (fun _ _=>.refl _))
theorem le_paramsG {L : List Tok} {G G' : Nat→Rs Nd} (hG : ∀ a,Le (G a) (G' a)) (a : Nat) : Le (paramsG L G a) (paramsG L G' a) :=
 Le.bind (.refl _) (fun _ _=>Le.bind (le_listG (fun ns b=>Le.bind (.refl _) (fun _ _=>Le.bind (.refl _) (fun _ _=>Le.bind (hG _) (fun _ _=>.refl _)))) _ _ _ _) (fun _ _=>.refl _))
theorem le_binG {L : List Tok} {B B' : Nat→Nat→Rs Nd} (hB : ∀ m a,Le (B m a) (B' m a)) (m : Nat) : ∀ (n : Nat) (nd : Nd) (a : Nat),Le (binG L B m n nd a) (binG L B' m n nd a)
 | 0,_,_=>.refl _
 | n+1,nd,a=>by
  rw [binG,binG]
  exact Le.ite (.refl _) (Le.bind (hB _ _) (fun _ _=>le_binG hB m n _ _))
theorem le_postG {L : List Tok} {E E' : Nat→Rs Nd} (hE : ∀ a,Le (E a) (E' a)) : ∀ (n : Nat) (nd : Nd) (a : Nat),Le (postG L E n nd a) (postG L E' n nd a)
 | 0,_,_=>.refl _
 | n+1,nd,a=>by
  rw [postG,postG]
  exact Le.ite (Le.bind (.refl _) (fun _ _=>le_postG hE n _ _)) (Le.ite (Le.bind (hE _) (fun _ _=>Le.bind (.refl _) (fun _ _=>le_postG hE n _ _))) (Le.ite (Le.bind (le_listE hE _) (fun _ _=>le_postG hE n _ _)) (.refl _)))
theorem le_unionG {L : List Tok} {E E' : Nat→Rs Nd} (hE : ∀ a,Le (E a) (E' a)) : ∀ (n : Nat) (acc : List Nd) (a : Nat),Le (unionG L E n acc a) (unionG L E' n acc a)
 | 0,_,_=>.refl _
 | n+1,acc,a=>by
  rw [unionG,unionG]
  exact Le.bind (hE a) (fun _ _=>Le.ite (le_unionG hE n _ _) (.refl _))
theorem le_fieldsG {L : List Tok} {T T' : Nat→Rs Nd} (hT : ∀ a,Le (T a) (T' a)) : ∀ (n : Nat) (acc : List Nd) (ns : List (List UInt8)) (a : Nat),Le (fieldsG L T n acc ns a) (fieldsG L T' n acc ns a)
 | 0,_,_,_=>.refl _
 | n+1,acc,ns,a=>by
  rw [fieldsG,fieldsG]
  exact Le.ite (.refl _) (Le.bind (.refl _) (fun _ _=>Le.bind (.refl _) (fun _ _=>Le.bind (hT _) (fun _ _=>Le.bind (.refl _) (fun _ _=>le_fieldsG hT n _ _ _)))))
structure More (L : List Tok) (f : Nat) : Prop where
 expr' : ∀ (a : Nat) (o : Nat),Le (exprF L f a o) (exprF L (f+1) a o)
 assign' : ∀ (nd : Nd) (a : Nat) (o : Nat),Le (assignF L f nd a o) (assignF L (f+1) nd a o)
 cond' : ∀ (a : Nat) (o : Nat),Le (condF L f a o) (condF L (f+1) a o)
 bin' : ∀ (m : Nat) (a : Nat) (o : Nat),Le (binF L f m a o) (binF L (f+1) m a o)
 unary' : ∀ (a : Nat) (o : Nat),Le (unaryF L f a o) (unaryF L (f+1) a o)
 post' : ∀ (a : Nat) (o : Nat),Le (postF L f a o) (postF L (f+1) a o)
 prim' : ∀ (a : Nat) (o : Nat),Le (primF L f a o) (primF L (f+1) a o)
 wprim' : ∀ (a : Nat) (o : Nat),Le (wprimF L f a o) (wprimF L (f+1) a o)
 sprim' : ∀ (a : Nat) (o : Nat),Le (sprimF L f a o) (sprimF L (f+1) a o)
 prop' : ∀ (a : Nat) (o : Nat),Le (propF L f a o) (propF L (f+1) a o)
 arrow' : ∀ (a : Nat) (o : Nat),Le (arrowF L f a o) (arrowF L (f+1) a o)
 abody' : ∀ (a : Nat) (o : Nat),Le (abodyF L f a o) (abodyF L (f+1) a o)
 typeOr' : ∀ (a : Nat) (o : Nat),Le (typeOrF L f a o) (typeOrF L (f+1) a o)
 typing' : ∀ (a : Nat) (o : Nat),Le (typingF L f a o) (typingF L (f+1) a o)
 type' : ∀ (a : Nat) (o : Nat),Le (typeF L f a o) (typeF L (f+1) a o)
 ptype' : ∀ (a : Nat) (o : Nat),Le (ptypeF L f a o) (ptypeF L (f+1) a o)
 rtype' : ∀ (a : Nat) (o : Nat),Le (rtypeF L f a o) (rtypeF L (f+1) a o)
 objt' : ∀ (a : Nat) (o : Nat),Le (objtF L f a o) (objtF L (f+1) a o)
 ftype' : ∀ (a : Nat) (o : Nat),Le (ftypeF L f a o) (ftypeF L (f+1) a o)
 blk' : ∀ (a : Nat) (o : Nat),Le (blkF L f a o) (blkF L (f+1) a o)
 stmt' : ∀ (a : Nat) (o : Nat),Le (stmtF L f a o) (stmtF L (f+1) a o)
 let' : ∀ (q : Int) (a : Nat) (o : Nat),Le (letF L f q a o) (letF L (f+1) q a o)
 condi' : ∀ (a : Nat) (o : Nat),Le (condiF L f a o) (condiF L (f+1) a o)
 els' : ∀ (a : Nat) (o : Nat),Le (elseF L f a o) (elseF L (f+1) a o)
 exprOr' : ∀ (a : Nat) (o : Nat),Le (exprOrF L f a o) (exprOrF L (f+1) a o)
 any' : ∀ (a : Nat) (o : Nat),Le (anyF L f a o) (anyF L (f+1) a o)
theorem more_all (L : List Tok) : ∀ f,More L f:=by
 intro f
 induction f with
 | zero=>constructor <;> (intros;left;simp [exprF,assignF,condF,binF,unaryF,postF,primF,wprimF,sprimF,propF,arrowF,abodyF,typeOrF,typingF,typeF,ptypeF,rtypeF,objtF,ftypeF,blkF,stmtF,letF,condiF,elseF,exprOrF,anyF])
 | succ f ih =>
  constructor
  all_goals
   first
    | (intro a o;first | rw [exprF,exprF] | rw [condF,condF] | rw [unaryF,unaryF] | rw [postF,postF] | rw [primF,primF] | rw [wprimF,wprimF] | rw [sprimF,sprimF] | rw [propF,propF] | rw [arrowF,arrowF] | rw [abodyF,abodyF] | rw [typeOrF,typeOrF] | rw [typingF,typingF] | rw [typeF,typeF] | rw [ptypeF,ptypeF] | rw [rtypeF,rtypeF] | rw [objtF,objtF] | rw [ftypeF,ftypeF] | rw [blkF,blkF] | rw [stmtF,stmtF] | rw [condiF,condiF] | rw [elseF,elseF] | rw [exprOrF,exprOrF] | rw [anyF,anyF])
    | (intro nd a o;first | rw [assignF,assignF])
    | (intro m a o;first | rw [binF,binF])
    | (intro q a o;first | rw [letF,letF])
   repeat (first
    | exact Le.refl _
    | exact le_blockG (fun _=>ih.stmt' _ _) _
    | (refine Le.bind (Le.refl _) ?_;intro _ _)
    | (refine Le.ite ?_ ?_)
    | exact le_binG (fun _ _=>ih.bin' _ _ _) _ _ _ _
    | exact le_postG (fun _=>ih.expr' _ _) _ _ _
    | (refine Le.bind (le_listE (fun _=>by first | exact ih.expr' _ _ | exact ih.prop' _ _) _) ?_;intro _ _)
    | (refine Le.bind (le_paramsG (fun _=>by first | exact ih.typeOr' _ _ | exact ih.typing' _ _) _) ?_;intro _ _)
    | (refine Le.bind (le_unionG (fun _=>ih.ptype' _ _) _ _ _) ?_;intro _ _)
    | (refine Le.bind (le_fieldsG (fun _=>ih.typing' _ _) _ _ _ _) ?_;intro _ _)
    | (refine Le.bind (by first | exact ih.assign' _ _ _ | exact ih.cond' _ _) ?_;intro _ _)
    | (first | exact ih.assign' _ _ _ | exact ih.cond' _ _)
    | (refine Le.bind (by first | exact ih.expr' _ _) ?_;intro _ _)
    | (first | exact ih.expr' _ _)
    | (refine Le.bind (by first | exact ih.expr' _ _ | exact ih.bin' _ _ _) ?_;intro _ _)
    | (first | exact ih.expr' _ _ | exact ih.bin' _ _ _)
    | (refine Le.bind (by first | exact ih.unary' _ _) ?_;intro _ _)
    | (first | exact ih.unary' _ _)
    | (refine Le.bind (by first | exact ih.unary' _ _ | exact ih.post' _ _) ?_;intro _ _)
    | (first | exact ih.unary' _ _ | exact ih.post' _ _)
    | (refine Le.bind (by first | exact ih.prim' _ _) ?_;intro _ _)
    | (first | exact ih.prim' _ _)
    | (refine Le.bind (by first | exact ih.wprim' _ _ | exact ih.sprim' _ _) ?_;intro _ _)
    | (first | exact ih.wprim' _ _ | exact ih.sprim' _ _)
    | (refine Le.bind (by first | exact ih.typeOr' _ _ | exact ih.blk' _ _) ?_;intro _ _)
    | (first | exact ih.typeOr' _ _ | exact ih.blk' _ _)
    | (refine Le.bind (by first | exact ih.expr' _ _ | exact ih.arrow' _ _) ?_;intro _ _)
    | (first | exact ih.expr' _ _ | exact ih.arrow' _ _)
    | (refine Le.bind (by first | exact ih.abody' _ _) ?_;intro _ _)
    | (first | exact ih.abody' _ _)
    | (refine Le.bind (by first | exact ih.expr' _ _ | exact ih.blk' _ _) ?_;intro _ _)
    | (first | exact ih.expr' _ _ | exact ih.blk' _ _)
    | (refine Le.bind (by first | exact ih.typing' _ _) ?_;intro _ _)
    | (first | exact ih.typing' _ _)
    | (refine Le.bind (by first | exact ih.type' _ _) ?_;intro _ _)
    | (first | exact ih.type' _ _)
    | (refine Le.bind (by first | fail) ?_;intro _ _)
    | (first | fail)
    | (refine Le.bind (by first | exact ih.rtype' _ _) ?_;intro _ _)
    | (first | exact ih.rtype' _ _)
    | (refine Le.bind (by first | exact ih.type' _ _ | exact ih.objt' _ _ | exact ih.ftype' _ _) ?_;intro _ _)
    | (first | exact ih.type' _ _ | exact ih.objt' _ _ | exact ih.ftype' _ _)
    | (refine Le.bind (by first | exact ih.any' _ _) ?_;intro _ _)
    | (first | exact ih.any' _ _)
    | (refine Le.bind (by first | exact ih.expr' _ _ | exact ih.typeOr' _ _) ?_;intro _ _)
    | (first | exact ih.expr' _ _ | exact ih.typeOr' _ _)
    | (refine Le.bind (by first | exact ih.blk' _ _ | exact ih.stmt' _ _) ?_;intro _ _)
    | (first | exact ih.blk' _ _ | exact ih.stmt' _ _)
    | (refine Le.bind (by first | exact ih.expr' _ _ | exact ih.typeOr' _ _ | exact ih.blk' _ _ | exact ih.let' _ _ _ | exact ih.condi' _ _ | exact ih.els' _ _ | exact ih.exprOr' _ _) ?_;intro _ _)
    | (first | exact ih.expr' _ _ | exact ih.typeOr' _ _ | exact ih.blk' _ _ | exact ih.let' _ _ _ | exact ih.condi' _ _ | exact ih.els' _ _ | exact ih.exprOr' _ _))
theorem expr_more {L : List Tok} {f g a o : Nat} {r : Rs Nd} (h : exprF L f a o=r) (hr : ∀ p,r ≠ .bad p 0) (hg : f ≤ g) : exprF L g a o=r:=by
 induction g with
 | zero=>obtain rfl : f = 0:=by omega
         exact h
 | succ g ih =>
  by_cases e : f=g+1
  ·rw [← e];exact h
  ·have h1:=ih (by omega)
   rcases (more_all L g).expr' a o with ⟨p,h2⟩ | h2
   ·exact absurd (h1.symm.trans h2) (hr p)
   ·rw [← h2];exact h1
theorem type_more {L : List Tok} {f g a o : Nat} {r : Rs Nd} (h : typeF L f a o=r) (hr : ∀ p,r ≠ .bad p 0) (hg : f ≤ g) : typeF L g a o=r:=by
 induction g with
 | zero=>obtain rfl : f = 0:=by omega
         exact h
 | succ g ih =>
  by_cases e : f=g+1
  ·rw [← e];exact h
  ·have h1:=ih (by omega)
   rcases (more_all L g).type' a o with ⟨p,h2⟩ | h2
   ·exact absurd (h1.symm.trans h2) (hr p)
   ·rw [← h2];exact h1
theorem stmt_more {L : List Tok} {f g a o : Nat} {r : Rs Nd} (h : stmtF L f a o=r) (hr : ∀ p,r ≠ .bad p 0) (hg : f ≤ g) : stmtF L g a o=r:=by
 induction g with
 | zero=>obtain rfl : f = 0:=by omega
         exact h
 | succ g ih =>
  by_cases e : f=g+1
  ·rw [← e];exact h
  ·have h1:=ih (by omega)
   rcases (more_all L g).stmt' a o with ⟨p,h2⟩ | h2
   ·exact absurd (h1.symm.trans h2) (hr p)
   ·rw [← h2];exact h1
end Go.Proofs.YthfkfbcopinmiaaGreatDoor
namespace Go.Proofs.YthfkfbcopinmiaaGreatDoor
def atL (l : List UInt8) (k : Nat) : Nat:=(l.getD k 0).toNat
def contL (l : List UInt8) (k : Nat) : Bool:=decide (k < l.length) && (atL l k / 64 == 2)
def decL (l : List UInt8) : Nat × Nat :=
 if atL l 0 < 128 then (atL l 0,1)
 else if atL l 0 / 32 == 6 && contL l 1 then
  if atL l 0 % 32 * 64+atL l 1 % 64 ≥ 128 then (atL l 0 % 32 * 64+atL l 1 % 64,2) else (65533,1)
 else if atL l 0 / 16 == 14 && contL l 1 && contL l 2 then
  if atL l 0 % 16 * 4096+atL l 1 % 64 * 64+atL l 2 % 64 ≥ 2048 && Utf8.valid ((atL l 0 % 16 * 4096+atL l 1 % 64 * 64+atL l 2 % 64 : Nat) : Int) then (atL l 0 % 16 * 4096+atL l 1 % 64 * 64+atL l 2 % 64,3) else (65533,1)
 else if atL l 0 / 8 == 30 && contL l 1 && contL l 2 && contL l 3 then
  if atL l 0 % 8 * 262144+atL l 1 % 64 * 4096+atL l 2 % 64 * 64+atL l 3 % 64 ≥ 65536 && Utf8.valid ((atL l 0 % 8 * 262144+atL l 1 % 64 * 4096+atL l 2 % 64 * 64+atL l 3 % 64 : Nat) : Int) then (atL l 0 % 8 * 262144+atL l 1 % 64 * 4096+atL l 2 % 64 * 64+atL l 3 % 64,4) else (65533,1)
 else (65533,1)
theorem get_drop (s : ByteArray) (i k : Nat) : (s.get! (i+k)).toNat=atL (s.data.toList.drop i) k:=by
 unfold atL
 congr 1
 rw [List.getD_eq_getElem?_getD,List.getElem?_drop,Array.getElem?_toList]
 show s.data[i+k]! = _
 rw [getElem!_def]
 cases s.data[i+k]? <;> rfl
theorem decode_eq (s : ByteArray) (i : Nat) : Utf8.decode s i=decL (s.data.toList.drop i):=by
 have hc : ∀ k,decide (i+k < s.size)=decide (k < (s.data.toList.drop i).length):=by
  intro k
  simp only [List.length_drop,Array.length_toList]
  have e : s.size=s.data.size:=rfl
  rw [e,decide_eq_decide]
  omega
 simp only [Utf8.decode,decL,contL,get_drop,hc,Utf8.runeError]
 rfl
theorem atL_lt (l : List UInt8) (k : Nat) : atL l k < 256:=(l.getD k 0).toNat_lt
theorem decL_width (l : List UInt8) : 1 ≤ (decL l).2∧(decL l).2 ≤ 4:=by
 unfold decL
 repeat' split
 all_goals simp
theorem decL_le (l : List UInt8) (h : l ≠ []) : (decL l).2 ≤ l.length:=by
 have h0 : 1 ≤ l.length:=by cases l <;> simp_all
 unfold decL contL
 repeat' split
 all_goals simp_all
 all_goals omega
theorem decL_max (l : List UInt8) : (decL l).1 ≤ 1114111:=by
 have h0:=atL_lt l 0
 unfold decL
 repeat' split
 all_goals simp_all [Utf8.valid]
 all_goals omega
def scanF : Nat→List UInt8→List (Nat × List UInt8)
 | 0,_=>[]
 | f+1,l=>if l=[] then [] else ((decL l).1,l.take (decL l).2) :: scanF f (l.drop (decL l).2)
def scan (l : List UInt8) : List (Nat × List UInt8):=scanF l.length l
theorem scanF_more (l : List UInt8) : ∀ f g,l.length ≤ f→l.length ≤ g→scanF f l=scanF g l:=by
 intro f
 induction f generalizing l with
 | zero=>intro g hf _;cases l <;> cases g <;> simp_all [scanF]
 | succ f ih =>
  intro g hf hg
  by_cases hl : l=[]
  ·subst hl;cases g <;> simp [scanF]
  ·have hw:=decL_width l
   have : 1 ≤ l.length:=by cases l <;> simp_all
   cases g with
   | zero=>omega
   | succ g =>
    simp only [scanF,if_neg hl]
    rw [ih (l.drop (decL l).2) g (by simp;omega) (by simp;omega)]
theorem scan_nil : scan []=[]:=rfl
theorem scan_cons (l : List UInt8) (h : l ≠ []) : scan l=((decL l).1,l.take (decL l).2) :: scan (l.drop (decL l).2):=by
 have hw:=decL_width l
 have hl : 1 ≤ l.length:=by cases l <;> simp_all
 unfold scan
 obtain ⟨n,hn⟩ : ∃ n,l.length=n+1:=⟨l.length - 1,by omega⟩
 rw [hn]
 simp only [scanF,if_neg h]
 rw [scanF_more _ n _ (by simp;omega) (Nat.le_refl _)]
def strayL (l : List UInt8) : Bool:=(decL l).1 == 65533 && (decL l).2 == 1
def strayP (x : Nat × List UInt8) : Bool:=x.1 == 65533 && x.2.length == 1
theorem strayL_eq (l : List UInt8) (h : l ≠ []) : strayL l=strayP ((decL l).1,l.take (decL l).2):=by
 have:=decL_le l h
 simp [strayL,strayP,Nat.min_eq_left this]
theorem prefix_bytes (l : List UInt8) : Lib.hasPrefix l [239,191,189]=(decide (2 < l.length) && (atL l 0 == 239) && (atL l 1 == 191) && (atL l 2 == 189)):=by
 unfold Lib.hasPrefix atL
 match l with
 | []=>rfl
 | [a]=>simp [List.isPrefixOf]
 | [a,b]=>simp [List.isPrefixOf]
 | a :: b :: c :: r =>
  rw [Bool.eq_iff_iff]
  simp [List.isPrefixOf]
  constructor
  ·rintro ⟨rfl,rfl,rfl⟩
   simp
  ·rintro ⟨⟨h0,h1⟩,h2⟩
   exact ⟨(UInt8.toNat_inj.1 (by rw [h0];rfl)),(UInt8.toNat_inj.1 (by rw [h1];rfl)),(UInt8.toNat_inj.1 (by rw [h2];rfl))⟩
theorem prefix_stray (l : List UInt8) (h : (decL l).1=65533) : (Lib.hasPrefix l [239,191,189]) = !((decL l).2 == 1):=by
 have hb:=atL_lt l 0
 have hb1:=atL_lt l 1
 have hb2:=atL_lt l 2
 rw [prefix_bytes,Bool.eq_iff_iff]
 revert h
 unfold decL contL
 repeat' split
 all_goals simp_all [Utf8.valid]
 all_goals omega
end Go.Proofs.YthfkfbcopinmiaaGreatDoor
namespace Go.Proofs.YthfkfbcopinmiaaGreatDoor
theorem take_getD (l : List UInt8) : ∀ w,w ≤ l.length→l.take w=(List.range w).map fun k=>l.getD k 0:=by
 intro w
 induction w with
 | zero=>intro _;simp
 | succ w ih =>
  intro h
  rw [List.take_succ_eq_append_getElem (by omega),ih (by omega),List.range_succ,List.map_append]
  simp [List.getD_eq_getElem?_getD,List.getElem?_eq_getElem (show w < l.length by omega)]
theorem u8_of (x : UInt8) (n : Int) (h : n=x.toNat) : n.toNat.toUInt8=x:=by
 apply UInt8.toNat_inj.1
 have:=x.toNat_lt
 rw [h]
 simp
theorem enc_dec (l : List UInt8) (h : l ≠ []) (hs : strayL l=false) : Lib.encodeRune ((decL l).1 : Int)=l.take (decL l).2:=by
 have hle:=decL_le l h
 rw [take_getD l _ hle]
 have a0:=atL_lt l 0
 have a1:=atL_lt l 1
 have a2:=atL_lt l 2
 have a3:=atL_lt l 3
 have key : Lib.encodeRuneZ ((decL l).1 : Int)=(List.range (decL l).2).map fun k=>((atL l k : Nat) : Int):=by
  clear hle
  revert hs
  unfold strayL
  unfold decL contL
  split
  ·intro _
   rw [Lib.encodeRuneZ_one (by omega) (by omega)]
   rfl
  ·split
   ·rename_i h1 h2
    simp only [Bool.and_eq_true,beq_iff_eq,decide_eq_true_eq] at h2
    split
    ·intro _
     rw [Lib.encodeRuneZ_two (by omega) (by omega)]
     simp [List.range_succ]
     omega
    ·simp
   ·split
    ·rename_i h1 h2 h3
     simp only [Bool.and_eq_true,beq_iff_eq,decide_eq_true_eq] at h3
     split
     ·rename_i h4
      simp only [Bool.and_eq_true,decide_eq_true_eq,Utf8.valid,Bool.or_eq_true] at h4
      intro _
      rw [Lib.encodeRuneZ_three (by omega)]
      simp [List.range_succ]
      omega
     ·simp
    ·split
     ·rename_i h1 h2 h3 h4
      simp only [Bool.and_eq_true,beq_iff_eq,decide_eq_true_eq] at h4
      split
      ·rename_i h5
       simp only [Bool.and_eq_true,decide_eq_true_eq,Utf8.valid,Bool.or_eq_true] at h5
       intro _
       rw [Lib.encodeRuneZ_four (by omega) (by omega)]
       simp [List.range_succ]
       omega
      ·simp
     ·simp
 rw [Lib.encodeRune,key,List.map_map]
 apply List.map_congr_left
 intro k _
 exact u8_of _ _ rfl
def hexc (u : Nat) : UInt8:=if u < 10 then UInt8.ofNat (48+u) else UInt8.ofNat (87+u)
def hexL (u : Nat) : List UInt8:=if u < 16 then [hexc u] else [hexc (u / 16),hexc (u % 16)]
theorem hexL_one (u : Nat) (h : u < 16) : hexL u=[hexc u]:=by rw [hexL,if_pos h]
theorem hexL_two (u : Nat) (h : 16 ≤ u) : hexL u=[hexc (u / 16),hexc (u % 16)]:=by rw [hexL,if_neg (by omega)]
end Go.Proofs.YthfkfbcopinmiaaGreatDoor
namespace Go.Proofs.YthfkfbcopinmiaaGreatDoor
end Go.Proofs.YthfkfbcopinmiaaGreatDoor
namespace Go.Proofs.YthfkfbcopinmiaaGreatDoor
theorem atL_take_lt (l : List UInt8) (n k : Nat) (h : k < n) : atL (l.take n) k=atL l k:=by
 unfold atL
 rw [List.getD_eq_getElem?_getD,List.getD_eq_getElem?_getD,List.getElem?_take_of_lt h]
theorem contL_take (l : List UInt8) (n k : Nat) (h : k < n) (hn : n ≤ l.length) : contL (l.take n) k=contL l k:=by
 unfold contL
 rw [atL_take_lt l n k h]
 congr 1
 rw [List.length_take,decide_eq_decide]
 omega
theorem contL_one (l : List UInt8) (k : Nat) (h : 1 ≤ k) : contL (l.take 1) k=false:=by
 unfold contL
 rw [List.length_take]
 have : decide (k < min 1 l.length)=false:=by simp;omega
 rw [this];rfl
theorem decL_one_bad (l : List UInt8) (h : ¬ atL l 0 < 128) : decL (l.take 1)=(65533,1):=by
 unfold decL
 rw [atL_take_lt l 1 0 (by omega),if_neg h,contL_one l 1 (by omega)]
 simp
theorem decL_take (l : List UInt8) (hne : l ≠ []) : decL (l.take (decL l).2)=decL l:=by
 have hle:=decL_le l hne
 obtain ⟨d,hd⟩ : ∃ d,decL l=d:=⟨_,rfl⟩
 rw [hd] at hle ⊢
 unfold decL at hd
 split at hd
 ·rename_i h1
  subst hd
  show decL (l.take 1)=_
  rw [decL,atL_take_lt l 1 0 (by omega),if_pos h1]
 rename_i h1
 split at hd
 ·rename_i h2
  split at hd
  ·rename_i h3
   subst hd
   replace hle : 2 ≤ l.length:=hle
   show decL (l.take 2)=_
   rw [decL,atL_take_lt l 2 0 (by omega),atL_take_lt l 2 1 (by omega),contL_take l 2 1 (by omega) hle,if_neg h1,if_pos h2,if_pos h3]
  ·subst hd
   exact decL_one_bad l h1
 rename_i h2
 split at hd
 ·rename_i h3
  split at hd
  ·rename_i h4
   subst hd
   replace hle : 3 ≤ l.length:=hle
   show decL (l.take 3)=_
   rw [decL,atL_take_lt l 3 0 (by omega),atL_take_lt l 3 1 (by omega),atL_take_lt l 3 2 (by omega),contL_take l 3 1 (by omega) hle,contL_take l 3 2 (by omega) hle,if_neg h1,if_neg h2,if_pos h3,if_pos h4]
  ·subst hd
   exact decL_one_bad l h1
 rename_i h3
 split at hd
 ·rename_i h4
  split at hd
  ·rename_i h5
   subst hd
   replace hle : 4 ≤ l.length:=hle
   show decL (l.take 4)=_
   rw [decL,atL_take_lt l 4 0 (by omega),atL_take_lt l 4 1 (by omega),atL_take_lt l 4 2 (by omega),atL_take_lt l 4 3 (by omega),contL_take l 4 1 (by omega) hle,contL_take l 4 2 (by omega) hle,contL_take l 4 3 (by omega) hle,if_neg h1,if_neg h2,if_neg h3,if_pos h4,if_pos h5]
  ·subst hd
   exact decL_one_bad l h1
 ·subst hd
  exact decL_one_bad l h1
end Go.Proofs.YthfkfbcopinmiaaGreatDoor
namespace Go.Proofs.YthfkfbcopinmiaaGreatDoor
open Go.RowKit
def letterB (r : Int) : Bool :=
 decide ((97 ≤ r∧r ≤ 122) ∨ (65 ≤ r∧r ≤ 90) ∨ (192 ≤ r∧r ≤ 591∧r ≠ 215∧r ≠ 247) ∨ (913 ≤ r∧r ≤ 969∧r ≠ 930) ∨ (1040 ≤ r∧r ≤ 1103))
def digitB (r : Int) : Bool:=decide (48 ≤ r∧r ≤ 57)
def hexv (r : Int) : Int :=
 if 48 ≤ r∧r ≤ 57 then r - 48 else if 97 ≤ r∧r ≤ 102 then r - 87 else if 65 ≤ r∧r ≤ 70 then r - 55 else -1
def hexd (r : Int) : Int:=if hexv r < 0 then 0 else hexv r
def hexok (r : Int) : Bool:=decide (0 ≤ hexv r)
theorem ret_bool {a b : Bool} (h : a=b) : Ending.returned (.bool a) = .returned (.bool b):=by rw [h]
theorem ret_int {k : IntKind} {a b : Int} (h : a=b) : Ending.returned (.int k a) = .returned (.int k b):=by rw [h]
theorem hexv_range (r : Int) : -1 ≤ hexv r∧hexv r ≤ 15:=by
 unfold hexv
 repeat' split
 all_goals omega
theorem letter_any (r : Int) (w : World) :
 Calls Tryz.prog 121 #[.int .i32 r] w fun e w'=>e = .returned (.bool (letterB r))∧w'=w:=by
 go_enter Tryz.func121,Tryz.ntmps121
 go_wp2
 all_goals go_ret
 all_goals (refine ⟨ret_bool ?_,rfl⟩;rw [Bool.eq_iff_iff];simp [letterB];omega)
theorem refLetter_any (r : Int) (w : World) :
 Calls Tryz.prog 96 #[.int .i64 r] w fun e w'=>e = .returned (.bool (letterB r))∧w'=w:=by
 go_enter Tryz.func96,Tryz.ntmps96
 go_wp2
 all_goals go_ret
 all_goals (refine ⟨ret_bool ?_,rfl⟩;rw [Bool.eq_iff_iff];simp [letterB];omega)
theorem digit_any (r : Int) (w : World) :
 Calls Tryz.prog 104 #[.int .i32 r] w fun e w'=>e = .returned (.bool (digitB r))∧w'=w:=by
 go_enter Tryz.func104,Tryz.ntmps104
 go_wp2
 all_goals go_ret
 all_goals (refine ⟨ret_bool ?_,rfl⟩;rw [Bool.eq_iff_iff];simp [digitB];omega)
theorem ret_ib {k : IntKind} {a c : Int} {b d : Bool} (h : a=c) (h2 : b=d) : Ending.returned (.tuple #[.int k a,.bool b]) = .returned (.tuple #[.int k c,.bool d]):=by rw [h,h2]
theorem hexDigit_any (r : Int) (w : World) (h0 : -2147483648 ≤ r) (h1 : r ≤ 2147483647) :
 Calls Tryz.prog 157 #[.int .i32 r] w fun e w'=>e = .returned (.tuple #[.int .i32 (hexd r),.bool (hexok r)])∧w'=w:=by
 go_enter Tryz.func157,Tryz.ntmps157
 go_wp2_with (go_at_call 104;go_in)
 all_goals go_ret2
 all_goals (refine ⟨ret_ib ?_ ?_,rfl⟩ <;> (simp only [hexd,hexok,hexv];repeat' split) <;> (first | omega | (simp;done) | (simp;omega)))
theorem hexDigit_no (r : Int) (w : World) (h0 : -2147483648 ≤ r) (h1 : r ≤ 2147483647) (h : hexv r < 0) :
 Calls Tryz.prog 157 #[.int .i32 r] w fun e w'=>e = .returned (.tuple #[.int .i32 0,.bool false])∧w'=w:=by
 refine (hexDigit_any r w h0 h1).mono ?_
 rintro e w' ⟨rfl,rfl⟩
 exact ⟨ret_ib (by rw [hexd,if_pos h]) (by simp [hexok];omega),rfl⟩
theorem hexDigit_yes (r : Int) (w : World) (h0 : -2147483648 ≤ r) (h1 : r ≤ 2147483647) (h : 0 ≤ hexv r) :
 Calls Tryz.prog 157 #[.int .i32 r] w fun e w'=>e = .returned (.tuple #[.int .i32 (hexv r),.bool true])∧w'=w:=by
 refine (hexDigit_any r w h0 h1).mono ?_
 rintro e w' ⟨rfl,rfl⟩
 exact ⟨ret_ib (by rw [hexd,if_neg (by omega)]) (by simp [hexok];omega),rfl⟩
theorem refDigit_any (r : Int) (w : World) (h0 : 0 ≤ r) (h1 : r ≤ 255) :
 Calls Tryz.prog 116 #[.int .u8 r] w fun e w'=>e = .returned (.int .i64 (hexv r))∧w'=w:=by
 go_enter Tryz.func116,Tryz.ntmps116
 go_wp2
 all_goals go_ret
 all_goals (refine ⟨ret_int ?_,rfl⟩;unfold hexv;repeat' split)
 all_goals omega
end Go.Proofs.YthfkfbcopinmiaaGreatDoor
