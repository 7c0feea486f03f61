/- Own text. Trees in memory of their own,each list apart from all others;Copy of package tree. The contracts of the small functions of package runes and of the document's answer: letters and digits. Package scope: what is declared;scopes in memory. Package scope: scopes in memory. -/
import Derived.Test.YtfcocoadaajbjaaGreatDoorGd04
import Derived.Test.YtfcocoadaajbjaaGreatDoorShelf
import Derived.Laws.MakeOwn
import Derived.Test.YtfcocoadaajbjaaGreatDoorProg
import Derived.WalkKit
import Derived.Lib.RuneCount
import Derived.Deep.LoopGhost
set_option linter.unusedVariables false
namespace Go.Proofs.YtfcocoadaajbjaaGreatDoor
open Go.RowKit
def Nd.tx (x : Nd) : Prop:=∀ y ∈ x.flat,y.t.size ≤ 4194304
theorem flats_mem : ∀ {l : List Nd} {x y : Nd},x ∈ l→y ∈ x.flat→y ∈ flats l
 | z :: l,x,y,h,hy=>by
  rw [flats_cons]
  rcases List.mem_cons.1 h with rfl | h
  ·exact List.mem_append_left _ hy
  ·exact List.mem_append_right _ (flats_mem h hy)
theorem Nd.tx_kid {x y : Nd} (h : x.tx) (hy : y ∈ x.ks) : y.tx:=fun z hz=>h z (by rw [x.flat_eq];exact List.mem_cons_of_mem _ (flats_mem hy hz))
theorem Nd.tx_own {x : Nd} (h : x.tx) : x.t.size ≤ 4194304:=h x (by rw [x.flat_eq];exact List.mem_cons_self)
inductive Sep (w : World) : (Nat→Prop)→Value→List Nd→Prop
 | nil (S : Nat→Prop) : Sep w S (.slice none 0 0) []
 | row (S : Nat→Prop) (bl : Nat) (ks : List Nd) (f : Nat→Value) (T : Nat→Nat→Prop) (cur : Array Value) (hn : 0 < ks.length) (hS : S bl) (hT : ∀ i b,T i b→S b) (hTb : ∀ i,¬ T i bl) (hd : ∀ i j b,i ≠ j→T i b→¬ T j b)
  (hg : w.heap[bl]?=some (.cells cur 24 (0,0))) (hcs : cur.size=ks.length * 4) (h4 : ∀ i (h : i < ks.length),Four w bl (i * 4) ks[i] (f i)) (hk : ∀ i (h : i < ks.length),Sep w (T i) (f i) ks[i].ks) :
  Sep w S (.slice (some ⟨bl,0,none⟩) ks.length ks.length) ks
theorem Sep.lat {w : World} {S : Nat→Prop} {v : Value} {ks : List Nd} (h : Sep w S v ks) : LAt w S v ks:=by
 induction h with
 | nil S=>exact .nil _ _
 | row S bl ks f T cur hn hS hT hTb hd hg hcs h4 hk ih =>
  exact .row bl 0 _ ks f hS (Array.getElem?_eq_some_iff.1 hg).1 (fun i hi=>by rw [Nat.zero_add];exact h4 i hi) (fun i hi=>(ih i hi).mono (hT i))
theorem Sep.keep {w w' : World} {S : Nat→Prop} {v : Value} {ks : List Nd} (h : Sep w S v ks) (hb : ∀ b,S b→b < w.heap.size→w'.heap[b]?=w.heap[b]?) : Sep w' S v ks:=by
 induction h with
 | nil S=>exact .nil _
 | row S bl ks f T cur hn hS hT hTb hd hg hcs h4 hk ih =>
  have e:=hb bl hS (Array.getElem?_eq_some_iff.1 hg).1
  exact .row S bl ks f T cur hn hS hT hTb hd (e.trans hg) hcs (fun i hi=>(h4 i hi).of_block e) (fun i hi=>ih i hi (fun b hT' hl=>hb b (hT i b hT') hl))
theorem Sep.mono {w : World} {S S' : Nat→Prop} {v : Value} {ks : List Nd} (h : Sep w S v ks) (hS' : ∀ b,S b→S' b) : Sep w S' v ks:=by
 cases h with
 | nil=>exact .nil _
 | row _ bl ks f T cur hn hS hT hTb hd hg hcs h4 hk=>exact .row _ bl ks f T cur hn (hS' bl hS) (fun i b h=>hS' b (hT i b h)) hTb hd hg hcs h4 hk
theorem Sep.sl {w : World} {S : Nat→Prop} {v : Value} {ks : List Nd} (h : Sep w S v ks) : ∃ a c,v = .slice a ks.length c:=h.lat.sl
theorem clone_anyT (s : ByteArray) (w : World) (hs : s.size ≤ 281474976710656) : Calls Tryz.prog 26 #[.string s] w fun e w'=>e = .returned (.string s)∧Below w.heap.size w w':=by
 go_enter Tryz.func26,Tryz.ntmps26
 go_wp2_with (go_at_call 52;refine (Tryz.stringslite_Clone s _ hs).mono ?_;rintro e w' ⟨rfl,hb⟩)
 go_ret
 exact ⟨rfl,hb⟩
structure Half (w : World) (bl : Nat) (ks : List Nd) (k : Nat) (f : Nat→Value) (g : Nat→Nat) : Prop where
 row : ∃ cur,w.heap[bl]?=some (.cells cur 24 (0,0))∧cur.size=ks.length * 4
 lo : bl < g 0
 up : ∀ i,i < k→g i ≤ g (i+1)
 hi : g k ≤ w.heap.size
 four : ∀ i (h : i < ks.length),i < k→Four w bl (i * 4) ks[i] (f i)
 kid : ∀ i (h : i < ks.length),i < k→Sep w (fun b=>g i ≤ b∧b < g (i+1)) (f i) ks[i].ks
theorem Half.mono_g {w : World} {bl : Nat} {ks : List Nd} {k : Nat} {f : Nat→Value} {g : Nat→Nat} (h : Half w bl ks k f g) : ∀ {i j : Nat},i ≤ j→j ≤ k→g i ≤ g j:=by
 intro i j hij hjk
 induction j with
 | zero=>obtain rfl : i = 0:=by omega
         exact Nat.le_refl _
 | succ j ih =>
  by_cases e : i=j+1
  ·subst e;exact Nat.le_refl _
  ·exact Nat.le_trans (ih (by omega) (by omega)) (h.up j (by omega))
theorem Half.bel {w w' : World} {bl : Nat} {ks : List Nd} {k : Nat} {f : Nat→Value} {g : Nat→Nat} (h : Half w bl ks k f g) (b : Below w.heap.size w w') : Half w' bl ks k f g:=by
 obtain ⟨cur,hc,hs⟩:=h.row
 have hl:=(Array.getElem?_eq_some_iff.1 hc).1
 exact ⟨⟨cur,(b.block bl hl).trans hc,hs⟩,h.lo,h.up,Nat.le_trans h.hi b.size,fun i hi hk=>(h.four i hi hk).of_block (b.block bl hl),fun i hi hk=>(h.kid i hi hk).keep (fun j _ hj=>b.block j hj)⟩
theorem set4_block {W : World} {bl o : Nat} {cur : Array Value} {t : TypeId} {fr : Nat × Nat} (p q r s : Value) (h : W.heap[bl]?=some (.cells cur t fr)) :
 ((((W.setCell ⟨bl,o,none⟩ p).setCell ⟨bl,o+1,none⟩ q).setCell ⟨bl,o+2,none⟩ r).setCell ⟨bl,o+3,none⟩ s).heap[bl]?=some (.cells ((((cur.setIfInBounds o p).setIfInBounds (o+1) q).setIfInBounds (o+2) r).setIfInBounds (o+3) s) t fr):=by
 simp [World.setCell,Array.getElem?_modify,h]
theorem set4_other {W : World} {bl o b : Nat} (p q r s : Value) (h : b ≠ bl) :
 ((((W.setCell ⟨bl,o,none⟩ p).setCell ⟨bl,o+1,none⟩ q).setCell ⟨bl,o+2,none⟩ r).setCell ⟨bl,o+3,none⟩ s).heap[b]?=W.heap[b]?:=by
 rw [Below.heap_setCell _ _ _ _ h,Below.heap_setCell _ _ _ _ h,Below.heap_setCell _ _ _ _ h,Below.heap_setCell _ _ _ _ h]
theorem set4_size {W : World} {bl o : Nat} (p q r s : Value) : ((((W.setCell ⟨bl,o,none⟩ p).setCell ⟨bl,o+1,none⟩ q).setCell ⟨bl,o+2,none⟩ r).setCell ⟨bl,o+3,none⟩ s).heap.size=W.heap.size:=by simp [World.setCell]
theorem set4_cell {W : World} {bl o n : Nat} {cur : Array Value} {t : TypeId} {fr : Nat × Nat} (p q r s : Value) (h : W.heap[bl]?=some (.cells cur t fr)) (j : Nat) :
 ((((W.setCell ⟨bl,o,none⟩ p).setCell ⟨bl,o+1,none⟩ q).setCell ⟨bl,o+2,none⟩ r).setCell ⟨bl,o+3,none⟩ s).cell? ⟨bl,j,none⟩=((((cur.setIfInBounds o p).setIfInBounds (o+1) q).setIfInBounds (o+2) r).setIfInBounds (o+3) s)[j]? :=
 cell_of_row _ bl _ _ _ _ (set4_block p q r s h)
theorem Half.next {w W3 : World} {bl : Nat} {ks : List Nd} {k : Nat} {f : Nat→Value} {g : Nat→Nat} {v : Value} (h : Half w bl ks k f g) (b : Below w.heap.size w W3) (hk : k < ks.length) (hv : Sep W3 (fun b=>w.heap.size ≤ b∧b < W3.heap.size) v ks[k].ks) :
 Half ((((W3.setCell ⟨bl,k * 4,none⟩ (.int .i64 ks[k].k)).setCell ⟨bl,k * 4+1,none⟩ (.string ks[k].t)).setCell ⟨bl,k * 4+2,none⟩ (.int .i64 ks[k].n)).setCell ⟨bl,k * 4+3,none⟩ v) bl ks (k+1) (fun i=>if i=k then v else f i) (fun i=>if i=k+1 then W3.heap.size else g i):=by
 obtain ⟨cur,hc,hs⟩:=h.row
 have hl:=(Array.getElem?_eq_some_iff.1 hc).1
 have hc3 : W3.heap[bl]?=some (.cells cur 24 (0,0)):=(b.block bl hl).trans hc
 have sz3:=b.size
 have hi3:=h.hi
 have lo3:=h.lo
 have gk : bl < g k:=Nat.lt_of_lt_of_le lo3 (h.mono_g (Nat.zero_le k) (Nat.le_refl k))
 refine ⟨⟨_,set4_block _ _ _ _ hc3,by simpa using hs⟩,?_,?_,?_,?_,?_⟩
 ·simpa using lo3
 ·intro i hi
  by_cases e : i=k
  ·subst e;simp;omega
  ·have:=h.up i (by omega)
   simp only [show ¬ i=k+1 by omega,if_false,show ¬ i+1=k+1 by omega]
   exact this
 ·rw [set4_size];simp
 ·intro i hi hik
  have C:=fun j=>set4_cell (o:=k * 4) (n:=0) (.int .i64 ks[k].k) (.string ks[k].t) (.int .i64 ks[k].n) v hc3 j
  by_cases e : i=k
  ·subst e
   simp only [if_true]
   refine ⟨?_,?_,?_,?_⟩ <;> (rw [C];simp only [Array.getElem?_setIfInBounds,Array.size_setIfInBounds,hs]) <;> simp <;> omega
  ·simp only [e,if_false]
   have h0:=(h.four i hi (by omega)).of_block (b.block bl hl)
   have D : ∀ j,W3.cell? ⟨bl,j,none⟩=cur[j]?:=fun j=>cell_of_row W3 bl _ _ _ _ hc3
   have key : ∀ j,j < k * 4→(((((cur.setIfInBounds (k * 4) (.int .i64 ks[k].k)).setIfInBounds (k * 4+1) (.string ks[k].t)).setIfInBounds (k * 4+2) (.int .i64 ks[k].n)).setIfInBounds (k * 4+3) v)[j]? : Option Value)=cur[j]?:=fun j hj=>by
    simp only [Array.getElem?_setIfInBounds]
    rw [if_neg (by omega),if_neg (by omega),if_neg (by omega),if_neg (by omega)]
   refine ⟨?_,?_,?_,?_⟩
   ·rw [C,key _ (by omega),← D];exact h0.1
   ·rw [C,key _ (by omega),← D];exact h0.2.1
   ·rw [C,key _ (by omega),← D];exact h0.2.2.1
   ·rw [C,key _ (by omega),← D];exact h0.2.2.2
 ·intro i hi hik
  by_cases e : i=k
  ·subst e
   simp only [if_true,show ¬ i=i+1 by omega,if_false]
   refine (hv.keep (fun j hj hlt=>set4_other _ _ _ _ ?_)).mono (fun j hj=>⟨?_,hj.2⟩)
   ·have:=hj.1;omega
   ·have:=hj.1;omega
  ·simp only [e,if_false,show ¬ i=k+1 by omega,show ¬ i+1=k+1 by omega]
   refine (h.kid i hi (by omega)).keep (fun j hj hlt=>(set4_other _ _ _ _ ?_).trans (b.block j hlt))
   have:=hj.1
   have:=h.mono_g (i:=0) (j:=i) (by omega) (by omega)
   omega
def letterB (r : Int) : Bool :=
 decide ((97 ≤ r∧r ≤ 122) ∨ (65 ≤ r∧r ≤ 90) ∨ (192 ≤ r∧r ≤ 591∧r ≠ 215∧r ≠ 247) ∨ (913 ≤ r∧r ≤ 969∧r ≠ 930) ∨ (1040 ≤ r∧r ≤ 1103))
def digitB (r : Int) : Bool:=decide (48 ≤ r∧r ≤ 57)
theorem ret_bool {a b : Bool} (h : a=b) : Ending.returned (.bool a) = .returned (.bool b):=by rw [h]
theorem letter_any (r : Int) (w : World) :
 Calls Tryz.prog 117 #[.int .i32 r] w fun e w'=>e = .returned (.bool (letterB r))∧w'=w:=by
 go_enter Tryz.func117,Tryz.ntmps117
 go_wp2
 all_goals go_ret
 all_goals (refine ⟨ret_bool ?_,rfl⟩;rw [Bool.eq_iff_iff];simp [letterB];omega)
theorem refLetter_any (r : Int) (w : World) :
 Calls Tryz.prog 51 #[.int .i64 r] w fun e w'=>e = .returned (.bool (letterB r))∧w'=w:=by
 go_enter Tryz.func51,Tryz.ntmps51
 go_wp2
 all_goals go_ret
 all_goals (refine ⟨ret_bool ?_,rfl⟩;rw [Bool.eq_iff_iff];simp [letterB];omega)
theorem digit_any (r : Int) (w : World) :
 Calls Tryz.prog 118 #[.int .i32 r] w fun e w'=>e = .returned (.bool (digitB r))∧w'=w:=by
 go_enter Tryz.func118,Tryz.ntmps118
 go_wp2
 all_goals go_ret
 all_goals (refine ⟨ret_bool ?_,rfl⟩;rw [Bool.eq_iff_iff];simp [digitB];omega)
end Go.Proofs.YtfcocoadaajbjaaGreatDoor
set_option linter.unusedVariables false
set_option linter.unusedSimpArgs false
set_option maxRecDepth 100000
set_option maxHeartbeats 8000000
namespace Go.Proofs.YtfcocoadaajbjaaGreatDoor
open Go.RowKit Go.MapKept
theorem keyOk_plain {κ : Type} {P : Program} {t : TypeId} {d : TypeDesc} (hd : P.underlying t=some d) {ek : κ→Value} (hi : ∀ {a b : κ},ek a=ek b→a=b) (h : ∀ k,IsKey d (ek k)) : KeyOk P t ek (fun _=>True) where
 inj:=hi
 check w em k _:=run_checkKey hd (h k) em 9999
 find w x _ es hes:=by
  have hks : ∀ y ∈ es,IsKey d y.key:=fun y hy=>by
   obtain ⟨k,_,e⟩:=hes y hy
   rw [e];exact h k
  rcases findNow_spec (h x) es 0 hks with ⟨h1,h2⟩ | ⟨j,e0,h1,h2,h3⟩
  ·exact Or.inl ⟨run_findKey hd h1,h2⟩
  ·exact Or.inr ⟨j,e0,by simpa using run_findKey hd h1,h2,h3⟩
 stays w k _:=run_keyThatStays (h k)
theorem keyTX : KeyOk Tryz.prog 9 (fun k : ByteArray=>.string k) (fun _=>True):=keyOk_plain Tryz.underlying9 (fun h=>by injection h) (fun k=>trivial)
def Dc.v (d : Dc) : Value:=.agg #[.int .i64 d.kd,.int .i64 d.at_,.int .i64 d.us,.bool d.fr]
theorem bel2 (w : World) (o o' : Obj) : Below w.heap.size w ((w.alloc o).alloc o'):=(bel_a w o).alloc (by simp) o'
theorem res_dc {fn : Func} {p : Nat} (h : fn.results=#[.cell p 72]) {W : World} {n : Nat} {a b c d : Value} {t : TypeId} {tmps : Array Value} (hb : W.heap[n]?=some (.cells #[a,b,c,d] t (0,0))) (ht : tmps[p]?.getD undef = .pointer (some ⟨n,0,none⟩)) :
 (results fn tmps).run Tryz.prog W = .ok (.agg #[a,b,c,d]) W:=by
 obtain ⟨⟨c0,c1,c2,c3⟩,_⟩:=box4 hb
 simp [results,h,go_sem,ht,c0,c1,c2,c3]
theorem within_any (v : Value) (w : World) (hv : ∃ a,v = .pointer a) : Calls Tryz.prog 30 #[v] w fun e w'=>e = .returned (.pointer (some ⟨w.heap.size+1,0,none⟩))∧w'=(w.alloc (.map #[] 0)).alloc (.cells #[.map (some w.heap.size),v] 76):=by
 have hmm:=@run_makeMap Tryz.prog
 obtain ⟨a,rfl⟩:=hv
 go_enter Tryz.func30,Tryz.ntmps30
 go_wp2
 go_ret
 exact ⟨rfl,rfl⟩
theorem declaredBy_any (x : Nd) (v : Value) (p u : Int) (w : World) (hv : ∃ a n c,v = .slice a n c) (nm : ByteArray) : Calls Tryz.prog 63 #[x.v v,.int .i64 p,.int .i64 u] w fun e w'=>e = .returned (Dc.v ⟨nm,x.k,p,u,frB x⟩)∧Below w.heap.size w w':=by
 obtain ⟨a,n,c,rfl⟩:=hv
 unfold Nd.v Dc.v frB
 go_enter Tryz.func63,Tryz.ntmps63
 go_wp2
 all_goals refine bodyPost_ret (res_dc Tryz.results63 (hnew _ (by simp;done)) rfl) rfl ?_
 all_goals exact ⟨by simp_all;try (first | rfl | (rw [Bool.eq_iff_iff];simp)),bel2 _ _ _⟩
theorem dtyped_any (d : Dc) (w : World) : Calls Tryz.prog 101 #[d.v] w fun e w'=>e = .returned (.bool (typB d.kd))∧Below w.heap.size w w':=by
 unfold Dc.v typB
 go_enter Tryz.func101,Tryz.ntmps101
 go_wp2
 all_goals go_ret
 all_goals exact ⟨ret_bool (by rw [Bool.eq_iff_iff];simp_all),bel_a _ _⟩
theorem basic_any (s : ByteArray) (w : World) : Calls Tryz.prog 99 #[.string s] w fun e w'=>e = .returned (.bool (plnB s))∧w'=w:=by
 go_enter Tryz.func99,Tryz.ntmps99
 go_wp2
 all_goals go_ret
 all_goals exact ⟨by simp_all [plnB],rfl⟩
theorem declares0 (x : Nd) (v : Value) (w : World) (hv : ∃ a n c,v = .slice a n c) (h : x.k ≠ 61) (h2 : x.k ≠ 63) : Calls Tryz.prog 64 #[x.v v] w fun e w'=>e = .returned (.string (dclN x))∧Below w.heap.size w w':=by
 obtain ⟨a,n,c,rfl⟩:=hv
 obtain ⟨k,t,m,ks⟩:=x
 have h61 : (k == 61)=false:=by simpa [Nd.k] using h
 have h63 : (k == 63)=false:=by simpa [Nd.k] using h2
 have hd : dclN (.mk k t m ks)=if isDecl k=true then t else ⟨#[]⟩:=by
  show (if isDecl k=true then t else if k=61 then _ else if k=63 then _ else (⟨#[]⟩ : ByteArray))=_
  rw [if_neg (show ¬ k=61 from h),if_neg (show ¬ k=63 from h2)]
 have HD : Hid (dclN (.mk k t m ks)=if isDecl k=true then t else ⟨#[]⟩):=hd
 clear hd h h2
 unfold Nd.v
 simp only [Nd.k,Nd.t,Nd.n]
 go_enter Tryz.func64,Tryz.ntmps64
 go_wp2
 all_goals go_ret
 all_goals exact ⟨by rw [HD.out];simp_all [isDecl],bel_a _ _⟩
def Pre (x : Nd) : Prop:=(x.k=61 ∨ x.k=62 ∨ x.k=63 ∨ x.k=65 ∨ x.k=18 ∨ isFn x.k=true→x.ks ≠ [])∧(x.k=62 ∨ x.k=63→∀ a ∈ x.ks,a.k ≠ 61∧a.k ≠ 63)
theorem first_kid {w : World} {S : Nat→Prop} {v : Value} {x : Nd} (hx : LAt w S v x.ks) (h : x.ks ≠ []) : ∃ (a : Nd) (r : List Nd) (bl o c : Nat) (va : Value),x.ks=a :: r∧v = .slice (some ⟨bl,o,none⟩) x.ks.length c∧0 < x.ks.length∧bl < w.heap.size∧Four w bl o a va∧LAt w S va a.ks:=by
 obtain ⟨ax,cx,bx,ox,fx,rfl,px,qx,rx⟩:=hx.op
 cases hk : x.ks with
 | nil=>exact absurd hk h
 | cons a r =>
  rw [hk] at px qx rx
  obtain ⟨rfl,hS,hb⟩:=px (by simp)
  have q0:=qx 0 (by simp)
  have r0:=rx 0 (by simp)
  simp only [Nat.zero_mul,Nat.add_zero,List.getElem_cons_zero] at q0 r0
  exact ⟨a,r,bx,ox,cx,fx 0,rfl,rfl,by simp,hb,q0,r0⟩
theorem declares_any (x : Nd) (v : Value) (w : World) (S : Nat→Prop) (hx : LAt w S v x.ks) (hp : Pre x) : Calls Tryz.prog 64 #[x.v v] w fun e w'=>e = .returned (.string (dclN x))∧Below w.heap.size w w':=by
 by_cases h61 : x.k=61
 ·obtain ⟨a,r,bl,o,c,va,hks,rfl,hn,hb,h4,hl⟩:=first_kid hx (hp.1 (.inl h61))
  have HD : Hid (dclN x=a.t):=by
   obtain ⟨k,t,m,ks⟩:=x
   have h61 : k=61:=h61
   have hks : ks=a :: r:=hks
   subst h61 hks
   rfl
  have e1 : (x.k == 61)=true:=by simpa using h61
  have e2 : (x.k == 40)=false:=by rw [h61];decide
  have e3 : (x.k == 41)=false:=by rw [h61];decide
  have e4 : (x.k == 42)=false:=by rw [h61];decide
  have e5 : (x.k == 46)=false:=by rw [h61];decide
  have e6 : (x.k == 66)=false:=by rw [h61];decide
  obtain ⟨c0,c1,c2,c3⟩:=h4.of_block ((bel_a w (Obj.cells #[.int .i64 x.k,.string x.t,.int .i64 x.n,.slice (some ⟨bl,o,none⟩) x.ks.length c] 24)).block bl hb)
  clear h61 hks
  unfold Nd.v
  go_enter Tryz.func64,Tryz.ntmps64
  go_wp2
  all_goals go_ret
  all_goals exact ⟨by rw [HD.out];rfl,bel_a _ _⟩
 by_cases h63 : x.k=63
 ·obtain ⟨a,r,bl,o,c,va,hks,rfl,hn,hb,h4,hl⟩:=first_kid hx (hp.1 (.inr (.inr (.inl h63))))
  obtain ⟨ha1,ha2⟩:=hp.2 (.inr h63) a (by rw [hks];simp)
  have HD : Hid (dclN x=if isDecl a.k=true∧a.t.toList ≠ [] then ⟨#[]⟩ else dflt):=by
   obtain ⟨k,t,m,ks⟩:=x
   have h63 : k=63:=h63
   have hks : ks=a :: r:=hks
   subst h63 hks
   rfl
  have HA : Hid ((dclN a).toList=[] ↔ ¬ (isDecl a.k=true∧a.t.toList ≠ [])):=by
   obtain ⟨k',t',m',ks'⟩:=a
   have hd : dclN (.mk k' t' m' ks')=if isDecl k'=true then t' else ⟨#[]⟩:=by
    show (if isDecl k'=true then t' else if k'=61 then _ else if k'=63 then _ else (⟨#[]⟩ : ByteArray))=_
    rw [if_neg (show ¬ k'=61 from ha1),if_neg (show ¬ k'=63 from ha2)]
   show _ ↔ ¬ (isDecl k'=true∧t'.toList ≠ [])
   rw [hd]
   by_cases q : isDecl k'=true
   ·rw [if_pos q];simp [q]
   ·rw [if_neg q];simp [q,no_bytes]
  have e1 : (x.k == 63)=true:=by simpa using h63
  have e2 : (x.k == 40)=false:=by rw [h63];decide
  have e3 : (x.k == 41)=false:=by rw [h63];decide
  have e4 : (x.k == 42)=false:=by rw [h63];decide
  have e5 : (x.k == 46)=false:=by rw [h63];decide
  have e6 : (x.k == 66)=false:=by rw [h63];decide
  have e7 : (x.k == 61)=false:=by rw [h63];decide
  obtain ⟨aa,ca,rfl⟩:=hl.sl
  obtain ⟨W0,hW0⟩ : ∃ W,w.alloc (Obj.cells #[.int .i64 x.k,.string x.t,.int .i64 x.n,.slice (some ⟨bl,o,none⟩) x.ks.length c] 24)=W:=⟨_,rfl⟩
  have b0 : Below w.heap.size w W0:=by rw [← hW0];exact bel_a _ _
  obtain ⟨c0,c1,c2,c3⟩:=h4.of_block (b0.block bl hb)
  have m0 : W0.heap[w.heap.size]?=some (.cells #[.int .i64 x.k,.string x.t,.int .i64 x.n,.slice (some ⟨bl,o,none⟩) x.ks.length c] 24 (0,0)):=by rw [← hW0];exact hnew _ rfl
  obtain ⟨⟨d0,d1,d2,d3⟩,_⟩:=box4 m0
  have CD:=declares0 a (.slice aa a.ks.length ca) W0 ⟨_,_,_,rfl⟩ ha1 ha2
  generalize hda : dclN a=da at *
  clear h61 h63 hks m0
  unfold Nd.v at CD ⊢
  cases hz : (da.toList == []) with
  | true =>
   have hz' : da.toList=[]:=by simpa using hz
   have HE : Hid (dclN x=dflt):=by show _=_;rw [HD.out,if_neg (HA.out.1 hz')]
   clear HD HA hz'
   go_enter Tryz.func64,Tryz.ntmps64
   go_wp2_with (go_at_call 64;refine CD.mono ?_;rintro e W1 ⟨rfl,b1⟩)
   all_goals go_ret
   all_goals exact ⟨by rw [HE.out];rfl,b0.trans (b1.mono b0.size)⟩
  | false =>
   have hz' : ¬ da.toList=[]:=by simpa using hz
   have HE : Hid (dclN x=⟨#[]⟩):=by show _=_;rw [HD.out,if_pos (Classical.byContradiction fun q=>hz' (HA.out.2 q))]
   clear HD HA hz'
   go_enter Tryz.func64,Tryz.ntmps64
   go_wp2_with (go_at_call 64;refine CD.mono ?_;rintro e W1 ⟨rfl,b1⟩)
   all_goals go_ret
   all_goals exact ⟨by rw [HE.out];rfl,b0.trans (b1.mono b0.size)⟩
 ·obtain ⟨ax,cx,rfl⟩:=hx.sl
  exact declares0 x _ w ⟨_,_,_,rfl⟩ h61 h63
theorem exports_any (x : Nd) (v : Value) (w : World) (S : Nat→Prop) (hx : LAt w S v x.ks) (hp : Pre x) : Calls Tryz.prog 98 #[x.v v] w fun e w'=>e = .returned (.string (expN x))∧Below w.heap.size w w':=by
 by_cases h62 : x.k=62
 ·obtain ⟨a,r,bl,o,c,va,hks,rfl,hn,hb,h4,hl⟩:=first_kid hx (hp.1 (.inr (.inl h62)))
  obtain ⟨ha1,ha2⟩:=hp.2 (.inl h62) a (by rw [hks];simp)
  have HD : Hid (expN x=dclN a):=by
   obtain ⟨k,t,m,ks⟩:=x
   have h62 : k=62:=h62
   have hks : ks=a :: r:=hks
   subst h62 hks
   rfl
  have e1 : (x.k == 62)=true:=by simpa using h62
  obtain ⟨aa,ca,rfl⟩:=hl.sl
  obtain ⟨W0,hW0⟩ : ∃ W,w.alloc (Obj.cells #[.int .i64 x.k,.string x.t,.int .i64 x.n,.slice (some ⟨bl,o,none⟩) x.ks.length c] 24)=W:=⟨_,rfl⟩
  have b0 : Below w.heap.size w W0:=by rw [← hW0];exact bel_a _ _
  obtain ⟨c0,c1,c2,c3⟩:=h4.of_block (b0.block bl hb)
  have m0 : W0.heap[w.heap.size]?=some (.cells #[.int .i64 x.k,.string x.t,.int .i64 x.n,.slice (some ⟨bl,o,none⟩) x.ks.length c] 24 (0,0)):=by rw [← hW0];exact hnew _ rfl
  obtain ⟨⟨d0,d1,d2,d3⟩,_⟩:=box4 m0
  have CD:=declares0 a (.slice aa a.ks.length ca) W0 ⟨_,_,_,rfl⟩ ha1 ha2
  clear h62 hks m0
  unfold Nd.v at CD ⊢
  go_enter Tryz.func98,Tryz.ntmps98
  go_wp2_with (go_at_call 64;refine CD.mono ?_;rintro e W1 ⟨rfl,b1⟩)
  all_goals go_ret
  all_goals exact ⟨by rw [HD.out];rfl,b0.trans (b1.mono b0.size)⟩
 by_cases h65 : x.k=65
 ·obtain ⟨a,r,bl,o,c,va,hks,rfl,hn,hb,h4,hl⟩:=first_kid hx (hp.1 (.inr (.inr (.inr (.inl h65)))))
  have HD : Hid (expN x=if a.k=6 then a.t else if x.t.toList=[42] then ⟨#[]⟩ else x.t):=by
   obtain ⟨k,t,m,ks⟩:=x
   have h65 : k=65:=h65
   have hks : ks=a :: r:=hks
   subst h65 hks
   rfl
  have e1 : (x.k == 65)=true:=by simpa using h65
  have e2 : (x.k == 62)=false:=by rw [h65];decide
  have e3 : (x.k == 63)=false:=by rw [h65];decide
  obtain ⟨W0,hW0⟩ : ∃ W,w.alloc (Obj.cells #[.int .i64 x.k,.string x.t,.int .i64 x.n,.slice (some ⟨bl,o,none⟩) x.ks.length c] 24)=W:=⟨_,rfl⟩
  have b0 : Below w.heap.size w W0:=by rw [← hW0];exact bel_a _ _
  obtain ⟨c0,c1,c2,c3⟩:=h4.of_block (b0.block bl hb)
  have m0 : W0.heap[w.heap.size]?=some (.cells #[.int .i64 x.k,.string x.t,.int .i64 x.n,.slice (some ⟨bl,o,none⟩) x.ks.length c] 24 (0,0)):=by rw [← hW0];exact hnew _ rfl
  obtain ⟨⟨d0,d1,d2,d3⟩,_⟩:=box4 m0
  clear h65 hks m0 h62
  unfold Nd.v
  cases q : (a.k == 6) with
  | true =>
   have HE : Hid (expN x=a.t):=by show _=_;rw [HD.out,if_pos (by simpa using q)]
   clear HD
   go_enter Tryz.func98,Tryz.ntmps98
   go_wp2
   all_goals go_ret
   all_goals exact ⟨by rw [HE.out];rfl,b0⟩
  | false =>
   cases q2 : (x.t.toList == [42]) with
   | true =>
    have HE : Hid (expN x=⟨#[]⟩):=by show _=_;rw [HD.out,if_neg (by simpa using q),if_pos (by simpa using q2)]
    clear HD
    go_enter Tryz.func98,Tryz.ntmps98
    go_wp2
    all_goals go_ret
    all_goals exact ⟨by rw [HE.out];rfl,b0⟩
   | false =>
    have HE : Hid (expN x=x.t):=by show _=_;rw [HD.out,if_neg (by simpa using q),if_neg (by simpa using q2)]
    clear HD
    go_enter Tryz.func98,Tryz.ntmps98
    go_wp2
    all_goals go_ret
    all_goals exact ⟨by rw [HE.out];rfl,b0⟩
 ·obtain ⟨ax,cx,rfl⟩:=hx.sl
  have HD : Hid (expN x=if x.k=63 then dflt else ⟨#[]⟩):=by
   obtain ⟨k,t,m,ks⟩:=x
   show (if k=62 then _ else if k=63 then dflt else if k=65 then _ else (⟨#[]⟩ : ByteArray))=if k=63 then dflt else ⟨#[]⟩
   rw [if_neg (show ¬ k=62 from h62),if_neg (show ¬ k=65 from h65)]
  have e1 : (x.k == 62)=false:=by simpa using h62
  have e2 : (x.k == 65)=false:=by simpa using h65
  unfold Nd.v
  go_enter Tryz.func98,Tryz.ntmps98
  go_wp2
  all_goals go_ret
  all_goals exact ⟨by rw [HD.out];simp_all [dflt],bel_a _ _⟩
abbrev Sm (w : World) (m n : Nat) (f : List Dc) : Prop:=MF (fun _ : ByteArray=>True) (fun k : ByteArray=>Value.string k) Dc.v w m n (fnd1 f)
theorem eqT_eq (a b : ByteArray) : eqT a b=decide (a=b):=by
 rw [Bool.eq_iff_iff,eqT_iff,decide_eq_true_eq,bytes_eq]
theorem fnd_upd {f : List Dc} {d : Dc} (h : fnd1 f d.nm=none) : fnd1 (f ++ [d])=upd (fnd1 f) d.nm d:=by
 funext x
 unfold upd fnd1
 rw [List.find?_append]
 by_cases e : x=d.nm
 ·subst e
  rw [if_pos rfl]
  unfold fnd1 at h
  rw [h]
  simp [eqT]
 ·rw [if_neg e]
  cases hf : f.find? (fun d=>eqT d.nm x) with
  | some y=>rfl
  | none =>
   have : eqT d.nm x=false:=by rw [eqT_eq];exact decide_eq_false (fun q=>e q.symm)
   simp [this]
theorem fnd_same {f : List Dc} {d y : Dc} (h : fnd1 f d.nm=some y) : fnd1 (f ++ [d])=fnd1 f:=by
 funext x
 unfold fnd1 at h ⊢
 rw [List.find?_append]
 cases hf : f.find? (fun d=>eqT d.nm x) with
 | some y=>rfl
 | none =>
  have : eqT d.nm x=false:=by
   rw [eqT_eq]
   refine decide_eq_false (fun q=>?_)
   subst q
   rw [h] at hf
   cases hf
  simp [this]
theorem zeroDc (w : World) : (zeroValue 72).run Tryz.prog w = .ok (Dc.v ⟨⟨#[]⟩,0,0,0,false⟩) w:=Tryz.zeroValue72 w
theorem grown_bel {w w' : World} (h : Below w.heap.size w w') (r : Option Nat) : w.grownBy w' r:=⟨h.os,h.tape,h.output,h.size,fun k hk _=>h.block k hk⟩
theorem Sm.bel {w w' : World} {m n : Nat} {f : List Dc} (h : Sm w m n f) (b : Below w.heap.size w w') : Sm w' m n f:=MF.keep h (b.block m h.lt)
theorem declare_any {w : World} {b m n : Nat} {v : Value} {f : List Dc} (d : Dc) (hb : w.heap[b]?=some (.cells #[.map (some m),v] 76 (0,0))) (hm : Sm w m n f) :
 Calls Tryz.prog 31 #[.pointer (some ⟨b,0,none⟩),.string d.nm,d.v] w fun e w'=>e = .returned (.tuple #[])∧Sm w' m (n+1) (f ++ [d])∧w.grownBy w' (some m):=by
 have hbl : b < w.heap.size:=(Array.getElem?_eq_some_iff.1 hb).1
 obtain ⟨W0,hW0⟩ : ∃ W,w.alloc (Obj.cells #[.int .i64 d.kd,.int .i64 d.at_,.int .i64 d.us,.bool d.fr] 72)=W:=⟨_,rfl⟩
 have b0 : Below w.heap.size w W0:=by rw [← hW0];exact bel_a _ _
 have hs0 : W0.heap.size=w.heap.size+1:=by rw [← hW0];simp
 have HS : Hid (W0.heap.size=w.heap.size+1):=hs0
 have m0 : W0.heap[w.heap.size]?=some (.cells #[.int .i64 d.kd,.int .i64 d.at_,.int .i64 d.us,.bool d.fr] 72 (0,0)):=by rw [← hW0];exact hnew _ rfl
 have hb0:=(b0.block b hbl).trans hb
 have c0 : W0.cell? ⟨b,0,none⟩=some (.map (some m)):=by rw [cell_of_row W0 _ 0 _ _ _ hb0];rfl
 have hm0:=hm.bel b0
 have LK:=hm0.look keyTX Tryz.underlying74 (zeroDc W0) d.nm trivial true
 clear hs0
 cases hf : fnd1 f d.nm with
 | some y =>
  rw [hf] at LK
  have LK' : (Instr.lookup 74 (.map (some m)) (.string d.nm) true).run Tryz.prog W0 = .ok (.tuple #[.agg #[.int .i64 y.kd,.int .i64 y.at_,.int .i64 y.us,.bool y.fr],.bool true]) W0:=LK
  clear LK
  have HF : Hid (Sm W0 m (n+1) (f ++ [d])):=by
   have : Sm W0 m (n+1) f:=MF.mono hm0 (by omega)
   unfold Sm at this ⊢
   rw [fnd_same hf]
   exact this
  unfold Dc.v
  go_enter Tryz.func31,Tryz.ntmps31
  go_wp2
  go_end0
  exact ⟨rfl,HF.out.bel (bel_a _ _),grown_bel (b0.trans ((bel_a _ _).mono b0.size)) _⟩
 | none =>
  rw [hf] at LK
  have LK' : (Instr.lookup 74 (.map (some m)) (.string d.nm) true).run Tryz.prog W0 = .ok (.tuple #[.agg #[.int .i64 0,.int .i64 0,.int .i64 0,.bool false],.bool false]) W0:=LK
  clear LK
  obtain ⟨W1,hW1⟩ : ∃ W,W0.alloc (Obj.cells #[.int .i64 0,.int .i64 0,.int .i64 0,.bool false] 72)=W:=⟨_,rfl⟩
  have b1 : Below W0.heap.size W0 W1:=by rw [← hW1];exact bel_a _ _
  have hb1:=(b1.block b (by have:=b0.size;omega)).trans hb0
  have c1 : W1.cell? ⟨b,0,none⟩=some (.map (some m)):=by rw [cell_of_row W1 _ 0 _ _ _ hb1];rfl
  have m1:=(b1.block w.heap.size (by have:=HS.out;omega)).trans m0
  obtain ⟨⟨d0,d1,d2,d3⟩,_⟩:=box4 (w:=W1) m1
  have hm1 : Sm W1.drew m n f:=MF.keep (hm0.bel b1) rfl
  obtain ⟨W4,hrun,hmf,hgr⟩:=MF.update hm1 keyTX Tryz.underlying74 d.nm trivial d
  have hrun' : (Instr.mapUpdate 74 (.map (some m)) (.string d.nm) (.agg #[.int .i64 d.kd,.int .i64 d.at_,.int .i64 d.us,.bool d.fr])).run Tryz.prog W1.drew = .ok () W4:=hrun
  have HF : Hid (Sm W4 m (n+1) (f ++ [d])∧w.grownBy W4 (some m)):=by
   refine ⟨?_,?_⟩
   ·unfold Sm
    rw [fnd_upd hf]
    exact hmf
   ·have bb : Below w.heap.size w W1.drew:=(b0.trans (b1.mono b0.size)).drew
    exact ⟨hgr.os.trans bb.os,hgr.tape.trans bb.tape,hgr.output.trans bb.output,Nat.le_trans bb.size hgr.size,fun k hk hne=>(hgr.block k (Nat.lt_of_lt_of_le hk bb.size) hne).trans (bb.block k hk)⟩
  clear hrun hmf hgr hm1 m1 hb1 b1
  subst hW1
  unfold Dc.v
  go_enter Tryz.func31,Tryz.ntmps31
  go_wp2
  go_region
  go_wp2
  go_end0
  exact ⟨rfl,HF.out.1,HF.out.2⟩
inductive SAt (w : World) (S : Nat→Prop) : Value→List (List Dc)→Prop
 | nil : SAt w S (.pointer none) []
 | cons (b m n : Nat) (v : Value) (f : List Dc) (F : List (List Dc)) (hS : S b) (hM : S m) (hb : w.heap[b]?=some (.cells #[.map (some m),v] 76 (0,0))) (hm : Sm w m n f) (h : SAt w S v F) : SAt w S (.pointer (some ⟨b,0,none⟩)) (f :: F)
theorem SAt.keep {w w' : World} {S : Nat→Prop} {v : Value} {F : List (List Dc)} (h : SAt w S v F) (e : ∀ b,S b→b < w.heap.size→w'.heap[b]?=w.heap[b]?) : SAt w' S v F:=by
 induction h with
 | nil=>exact .nil
 | cons b m n v f F hS hM hb hm h ih=>exact .cons b m n v f F hS hM ((e b hS (Array.getElem?_eq_some_iff.1 hb).1).trans hb) (MF.keep hm (e m hM hm.lt)) ih
theorem SAt.bel {w w' : World} {S : Nat→Prop} {v : Value} {F : List (List Dc)} (h : SAt w S v F) (b : Below w.heap.size w w') : SAt w' S v F:=h.keep fun k _ hk=>b.block k hk
theorem SAt.mono {w : World} {S T : Nat→Prop} {v : Value} {F : List (List Dc)} (h : SAt w S v F) (hT : ∀ b,S b→b < w.heap.size→T b) : SAt w T v F:=by
 induction h with
 | nil=>exact .nil
 | cons b m n v f F hS hM hb hm h ih=>exact .cons b m n v f F (hT b hS (Array.getElem?_eq_some_iff.1 hb).1) (hT m hM hm.lt) hb hm ih
theorem SAt.ptr {w : World} {S : Nat→Prop} {v : Value} {F : List (List Dc)} (h : SAt w S v F) : ∃ a,v = .pointer a:=by
 cases h with
 | nil=>exact ⟨_,rfl⟩
 | cons b m n v f F hS hM hb hm h=>exact ⟨_,rfl⟩
def zDc : Dc:=⟨⟨#[]⟩,0,0,0,false⟩
theorem res_dc2 {fn : Func} {p q : Nat} (h : fn.results=#[.cell p 72,.tmp q]) {W : World} {n : Nat} {a b c d u : Value} {t : TypeId} {tmps : Array Value} (hb : W.heap[n]?=some (.cells #[a,b,c,d] t (0,0))) (ht : tmps[p]?.getD undef = .pointer (some ⟨n,0,none⟩)) (hq : tmps[q]?.getD undef=u) :
 (results fn tmps).run Tryz.prog W = .ok (.tuple #[.agg #[a,b,c,d],u]) W:=by
 obtain ⟨⟨c0,c1,c2,c3⟩,_⟩:=box4 hb
 simp [results,h,go_sem,ht,hq,c0,c1,c2,c3]
theorem fndF_some {f : List Dc} {F : List (List Dc)} {nm : ByteArray} {d : Dc} (h : fnd1 f nm=some d) : fndF (f :: F) nm=some d:=by rw [fndF,h]
theorem fndF_none {f : List Dc} {F : List (List Dc)} {nm : ByteArray} (h : fnd1 f nm=none) : fndF (f :: F) nm=fndF F nm:=by rw [fndF,h]
theorem find_any {w : World} {S : Nat→Prop} {v : Value} {F : List (List Dc)} (h : SAt w S v F) (nm : ByteArray) :
 Calls Tryz.prog 100 #[v,.string nm] w fun e w'=>e = .returned (.tuple #[((fndF F nm).getD zDc).v,.bool (fndF F nm).isSome])∧Below w.heap.size w w':=by
 obtain ⟨res,hres⟩ : ∃ r,fndF F nm=r:=⟨_,rfl⟩
 rw [hres]
 have HR : Hid (fndF F nm=res):=hres
 clear hres
 obtain ⟨a0,rfl⟩:=h.ptr
 have m0 : (w.alloc (Obj.cells #[.int .i64 0,.int .i64 0,.int .i64 0,.bool false] 72)).heap[w.heap.size]?=some (.cells #[.int .i64 0,.int .i64 0,.int .i64 0,.bool false] 72 (0,0)):=hnew _ rfl
 have b0:=bel_a w (Obj.cells #[.int .i64 0,.int .i64 0,.int .i64 0,.bool false] 72)
 go_enter Tryz.func100,Tryz.ntmps100
 go_wp2
 go_loopg [0] F.length (fun gk s wr=>∃ (G : List (List Dc)),gk=G.length∧SAt w S s G∧Hid (fndF G nm=res)∧Below w.heap.size w wr∧wr.heap[w.heap.size]?=some (.cells #[.int .i64 0,.int .i64 0,.int .i64 0,.bool false] 72 (0,0)))
 case atStart=>exact ⟨F,rfl,h,HR,b0,m0⟩
 case round =>
  clear m0 b0 h HR
  obtain ⟨G,rfl,hs,HG,bel,m0⟩:=hrel
  obtain ⟨⟨z0,z1,z2,z3⟩,g0,g1,g2,g3⟩:=box4 m0
  cases hs with
  | nil =>
   obtain rfl : none=res:=HG.out
   go_wp2
   refine bodyPost_ret (res_dc2 Tryz.results100 (box4_set _ _ _ _ m0) rfl rfl) rfl ?_
   exact ⟨rfl,(((bel.setCell (p:=⟨w.heap.size,0,none⟩) (by simp) _).setCell (p:=⟨w.heap.size,1,none⟩) (by simp) _).setCell (p:=⟨w.heap.size,2,none⟩) (by simp) _).setCell (p:=⟨w.heap.size,3,none⟩) (by simp) _⟩
  | cons b m n v f G' hS hM hb hm hs =>
   have hbl:=(Array.getElem?_eq_some_iff.1 hb).1
   have hb1:=(bel.block b hbl).trans hb
   have c0 : wr.cell? ⟨b,0,none⟩=some (.map (some m)):=by rw [cell_of_row wr _ 0 _ _ _ hb1];rfl
   have LK:=(MF.keep hm (bel.block m hm.lt)).look keyTX Tryz.underlying74 (zeroDc wr) nm trivial true
   obtain ⟨av,rfl⟩:=hs.ptr
   cases hf : fnd1 f nm with
   | some y =>
    obtain rfl : some y=res:=by rw [← HG.out,fndF_some hf]
    rw [hf] at LK
    have LK' : (Instr.lookup 74 (.map (some m)) (.string nm) true).run Tryz.prog wr = .ok (.tuple #[.agg #[.int .i64 y.kd,.int .i64 y.at_,.int .i64 y.us,.bool y.fr],.bool true]) wr:=LK
    have m1:=hold (w:=wr) (Obj.cells #[.int .i64 y.kd,.int .i64 y.at_,.int .i64 y.us,.bool y.fr] 72) (k:=w.heap.size) ((Array.getElem?_eq_some_iff.1 m0).1) m0
    obtain ⟨⟨z0,z1,z2,z3⟩,g0,g1,g2,g3⟩:=box4 m1
    clear LK hm hb hb1 HG hs
    go_wp2
    refine bodyPost_ret (res_dc2 Tryz.results100 (box4_set _ _ _ _ m1) rfl rfl) rfl ?_
    exact ⟨rfl,((((bel.alloc bel.size _).setCell (p:=⟨w.heap.size,0,none⟩) (by simp) _).setCell (p:=⟨w.heap.size,1,none⟩) (by simp) _).setCell (p:=⟨w.heap.size,2,none⟩) (by simp) _).setCell (p:=⟨w.heap.size,3,none⟩) (by simp) _⟩
   | none =>
    have HG2 : Hid (fndF G' nm=res):=by show _=_;rw [← HG.out,fndF_none hf]
    rw [hf] at LK
    have LK' : (Instr.lookup 74 (.map (some m)) (.string nm) true).run Tryz.prog wr = .ok (.tuple #[.agg #[.int .i64 0,.int .i64 0,.int .i64 0,.bool false],.bool false]) wr:=LK
    have m1:=hold (w:=wr) (Obj.cells #[.int .i64 0,.int .i64 0,.int .i64 0,.bool false] 72) (k:=w.heap.size) ((Array.getElem?_eq_some_iff.1 m0).1) m0
    have hb2:=hold (w:=wr) (Obj.cells #[.int .i64 0,.int .i64 0,.int .i64 0,.bool false] 72) (k:=b) (by have:=bel.size;omega) hb1
    have c1 : (wr.alloc (Obj.cells #[.int .i64 0,.int .i64 0,.int .i64 0,.bool false] 72)).cell? ⟨b,1,none⟩=some (.pointer av):=by rw [cell_of_row _ _ 1 _ _ _ hb2];rfl
    clear LK hm hb hb1 HG
    go_wp2
    go_roundg G'.length
    case measure=>simp
    case rel=>exact ⟨G',rfl,hs,HG2,bel.alloc bel.size _,m1⟩
end Go.Proofs.YtfcocoadaajbjaaGreatDoor
