/- Own text. Trees,and how they lie in memory. Whether two trees are the same: the document's answer. How many trees one is,and how deep: the document's answers,and Depth of package tree. A copy of a tree: the document's answer. Words for short. Package cursor: tokens in memory,the cursor's block,tokens looked at. -/
import Derived.Test.YthfkfbcopinmiaaGreatDoorChecked
import Derived.WalkKit
import Derived.WalkSmall
import Derived.WalkLawsBesides
import Derived.Laws.Rows
import Derived.Maps.AppendAt
import Derived.Deep.RegionHeld3
import Derived.Handy
import Derived.Deep.AppendLies
import Derived.Deep.RegionLaw
import Derived.RangeFuncNested
import Derived.Shelf.Abstract
import Derived.Recover
set_option linter.unusedVariables false
namespace Go.Proofs.YthfkfbcopinmiaaGreatDoor
open Go.RowKit
inductive Nd where
 | mk (k : Int) (t : ByteArray) (n : Int) (ks : List Nd)
def Nd.k : Nd→Int | .mk k _ _ _=>k
def Nd.t : Nd→ByteArray | .mk _ t _ _=>t
def Nd.n : Nd→Int | .mk _ _ n _=>n
def Nd.ks : Nd→List Nd | .mk _ _ _ ks=>ks
theorem Nd.ext' {x y : Nd} (h1 : x.k=y.k) (h2 : x.t=y.t) (h3 : x.n=y.n) (h4 : x.ks=y.ks) : x=y:=by
 cases x;cases y
 simp only [Nd.k,Nd.t,Nd.n,Nd.ks] at h1 h2 h3 h4
 subst h1 h2 h3 h4
 rfl
theorem Nd.ind {P : Nd→Prop} (h : ∀ x : Nd,(∀ y ∈ x.ks,P y)→P x) (x : Nd) : P x :=
 @Nd.rec P (fun ks=>∀ y ∈ ks,P y) (fun k t n ks ih=>h (.mk k t n ks) ih) (fun y hy=>by cases hy)
  (fun x xs hx hxs y hy=>by
   rcases List.mem_cons.1 hy with rfl | hy
   ·exact hx
   ·exact hxs y hy) x
mutual
def Nd.size : Nd→Nat
 | .mk _ _ _ ks=>1+sizes ks
def sizes : List Nd→Nat
 | []=>0
 | x :: xs=>x.size+sizes xs
end
theorem Nd.size_eq (x : Nd) : x.size=1+sizes x.ks:=by cases x;rw [Nd.size];rfl
theorem sizes_cons (x : Nd) (xs : List Nd) : sizes (x :: xs)=x.size+sizes xs:=by rw [sizes]
theorem Nd.size_pos (x : Nd) : 1 ≤ x.size:=by rw [Nd.size_eq];omega
theorem sizes_len : ∀ l : List Nd,l.length ≤ sizes l
 | []=>by simp
 | x :: l=>by rw [sizes_cons,List.length_cons];have:=x.size_pos;have:=sizes_len l;omega
theorem sizes_mem : ∀ {l : List Nd} {x : Nd},x ∈ l→x.size ≤ sizes l
 | y :: l,x,h=>by
  rw [sizes_cons]
  rcases List.mem_cons.1 h with rfl | h
  ·omega
  ·have:=sizes_mem h;omega
theorem Nd.kid_size (x : Nd) {i : Nat} (h : i < x.ks.length) : x.ks[i].size < x.size:=by
 have:=sizes_mem (List.getElem_mem h)
 rw [x.size_eq];omega
def Nd.v (x : Nd) (v : Value) : Value:=.agg #[.int .i64 x.k,.string x.t,.int .i64 x.n,v]
def Four (w : World) (b o : Nat) (x : Nd) (v : Value) : Prop :=
 w.cell? ⟨b,o,none⟩=some (.int .i64 x.k)∧w.cell? ⟨b,o+1,none⟩=some (.string x.t)∧w.cell? ⟨b,o+2,none⟩=some (.int .i64 x.n)∧w.cell? ⟨b,o+3,none⟩=some v
theorem Four.of_block {w w' : World} {b o : Nat} {x : Nd} {v : Value} (h : Four w b o x v) (e : w'.heap[b]?=w.heap[b]?) : Four w' b o x v :=
 ⟨(World.cell?_of_block (a:=⟨b,_,none⟩) e).trans h.1,(World.cell?_of_block (a:=⟨b,_,none⟩) e).trans h.2.1,(World.cell?_of_block (a:=⟨b,_,none⟩) e).trans h.2.2.1,(World.cell?_of_block (a:=⟨b,_,none⟩) e).trans h.2.2.2⟩
theorem Four.lt {w : World} {b o : Nat} {x : Nd} {v : Value} (h : Four w b o x v) : b < w.heap.size:=World.block_lt_of_cell? w _ h.1
inductive LAt (w : World) (S : Nat→Prop) : Value→List Nd→Prop
 | nil (a : Option Addr) (c : Nat) : LAt w S (.slice a 0 c) []
 | row (bl o c : Nat) (ks : List Nd) (f : Nat→Value) (hS : S bl) (hb : bl < w.heap.size) (h4 : ∀ i (h : i < ks.length),Four w bl (o+i * 4) ks[i] (f i))
  (hk : ∀ i (h : i < ks.length),LAt w S (f i) ks[i].ks) : LAt w S (.slice (some ⟨bl,o,none⟩) ks.length c) ks
theorem LAt.op {w : World} {S : Nat→Prop} {v : Value} {ks : List Nd} (h : LAt w S v ks) : ∃ (a : Option Addr) (c bl o : Nat) (f : Nat→Value),v = .slice a ks.length c ∧
 (0 < ks.length→a=some ⟨bl,o,none⟩∧S bl∧bl < w.heap.size)∧(∀ i (h : i < ks.length),Four w bl (o+i * 4) ks[i] (f i))∧(∀ i (h : i < ks.length),LAt w S (f i) ks[i].ks):=by
 cases h with
 | nil a c=>exact ⟨a,c,0,0,fun _=>default,rfl,fun h=>by simp at h,fun i h=>by simp at h,fun i h=>by simp at h⟩
 | row bl o c ks f hS hb h4 hk=>exact ⟨_,c,bl,o,f,rfl,fun _=>⟨rfl,hS,hb⟩,h4,hk⟩
theorem LAt.keep {w w' : World} {S : Nat→Prop} {v : Value} {ks : List Nd} (h : LAt w S v ks) (hs : w.heap.size ≤ w'.heap.size) (hb : ∀ b,S b→b < w.heap.size→w'.heap[b]?=w.heap[b]?) : LAt w' S v ks:=by
 induction h with
 | nil a c=>exact .nil a c
 | row bl o c ks f hS hl h4 hk ih=>exact .row bl o c ks f hS (by omega) (fun i hi=>(h4 i hi).of_block (hb bl hS hl)) ih
theorem LAt.bel {w w' : World} {S : Nat→Prop} {v : Value} {ks : List Nd} (h : LAt w S v ks) (k : Below w.heap.size w w') : LAt w' S v ks:=h.keep k.size (fun b _ hb=>k.block b hb)
theorem LAt.mono {w : World} {S T : Nat→Prop} {v : Value} {ks : List Nd} (h : LAt w S v ks) (hT : ∀ b,S b→T b) : LAt w T v ks:=by
 induction h with
 | nil a c=>exact .nil a c
 | row bl o c ks f hS hl h4 hk ih=>exact .row bl o c ks f (hT bl hS) hl h4 ih
theorem bytes_eq {a b : ByteArray} : a=b ↔ a.toList=b.toList:=by
 constructor
 ·rintro rfl;rfl
 ·intro h
  have e : ∀ s : ByteArray,s.toList=s.data.toList:=fun s=>ByteArray.toList_eq s
  rw [e,e] at h
  cases a;cases b
  congr
  exact Array.toList_inj.1 h
set_option maxHeartbeats 4000000
theorem rsame_any (x : Nd) : ∀ (y : Nd) (w : World) (S T : Nat→Prop) (vx vy : Value),LAt w S vx x.ks→LAt w T vy y.ks→x.size ≤ 4194304→y.size ≤ 4194304 →
 Calls Tryz.prog 7 #[x.v vx,y.v vy] w fun e w'=>∃ b : Bool,e = .returned (.bool b)∧(b=true ↔ x=y)∧Below w.heap.size w w':=by
 induction x using Nd.ind with
 | h x ih =>
  intro y w S T vx vy hx hy zx zy
  obtain ⟨ax,cx,bx,ox,fx,rfl,px,qx,rx⟩:=hx.op
  obtain ⟨ay,cy,b',oy,fy,rfl,py,qy,ry⟩:=hy.op
  have lx : x.ks.length ≤ 4194304:=by have:=sizes_len x.ks;rw [x.size_eq] at zx;omega
  have ly : y.ks.length ≤ 4194304:=by have:=sizes_len y.ks;rw [y.size_eq] at zy;omega
  have no : ∀ w',Below w.heap.size w w'→¬ x=y→∃ b : Bool,(Ending.returned (.bool false)) = .returned (.bool b)∧(b=true ↔ x=y)∧Below w.heap.size w w':=fun w' hb hn=>⟨false,rfl,by simp [hn],hb⟩
  unfold Nd.v
  by_cases h1 : x.k=y.k
  case neg =>
   go_enter Tryz.func7,Tryz.ntmps7
   go_wp2
   go_ret
   exact no _ (((Below.refl _ w).alloc (Nat.le_refl _) _).alloc (by simp) _) (fun e=>h1 (by rw [e]))
  by_cases h2 : x.t.toList=y.t.toList
  case neg =>
   go_enter Tryz.func7,Tryz.ntmps7
   go_wp2
   go_ret
   exact no _ (((Below.refl _ w).alloc (Nat.le_refl _) _).alloc (by simp) _) (fun e=>h2 (by rw [e]))
  by_cases h3 : x.n=y.n
  case neg =>
   go_enter Tryz.func7,Tryz.ntmps7
   go_wp2
   go_ret
   exact no _ (((Below.refl _ w).alloc (Nat.le_refl _) _).alloc (by simp) _) (fun e=>h3 (by rw [e]))
  by_cases h4 : x.ks.length=y.ks.length
  case neg =>
   go_enter Tryz.func7,Tryz.ntmps7
   go_wp2
   go_ret
   exact no _ (((Below.refl _ w).alloc (Nat.le_refl _) _).alloc (by simp) _) (fun e=>h4 (by rw [e]))
  rw [h1,h3,h4]
  have H1 : Hid (x.k=y.k):=h1
  have H3 : Hid (x.n=y.n):=h3
  clear h1 h3
  go_enter Tryz.func7,Tryz.ntmps7
  go_wp2
  have hb2 : Below w.heap.size w ((w.alloc (Obj.cells #[.int .i64 y.k,.string x.t,.int .i64 y.n,.slice ax y.ks.length cx] 24)).alloc (Obj.cells #[.int .i64 y.k,.string y.t,.int .i64 y.n,.slice ay y.ks.length cy] 24)) :=
   ((Below.refl _ w).alloc (Nat.le_refl _) _).alloc (by simp) _
  go_loopw [5] (fun i wr=>∃ k : Nat,i = .int .i64 (k : Nat)∧k ≤ y.ks.length∧Below w.heap.size w wr∧w.heap.size+2 ≤ wr.heap.size∧wr.cell? ⟨w.heap.size,3,none⟩=some (.slice ax y.ks.length cx)∧wr.cell? ⟨w.heap.size+1,3,none⟩=some (.slice ay y.ks.length cy)∧Hid (x.ks.take k=y.ks.take k)) (fun i _=>y.ks.length - (intOf i).toNat)
  case atStart=>exact ⟨0,rfl,by omega,hb2,by simp,by simp,by simp,by simp [Hid]⟩
  case round =>
   obtain ⟨k,rfl,hk,bel,sz,c1,c2,HT⟩:=hrel
   by_cases hky : k < y.ks.length
   ·have hkl : k < x.ks.length:=by omega
    obtain ⟨rfl,hSx,hbx⟩:=px (by omega)
    obtain ⟨rfl,hTy,hby⟩:=py (by omega)
    have iha:=ih x.ks[k] (List.getElem_mem hkl) y.ks[k]
    have zk:=x.kid_size hkl
    have zk':=y.kid_size hky
    have HS : Hid (x.ks[k]=y.ks[k]→x.ks.take (k+1)=y.ks.take (k+1)):=fun e=>by
     rw [List.take_succ_eq_append_getElem hkl,List.take_succ_eq_append_getElem hky,HT.out,e]
    have HN : Hid (¬ x.ks[k]=y.ks[k]→¬ x=y):=fun hn e=>hn (by subst e;rfl)
    have gx:=rx k hkl
    have gy:=ry k hky
    obtain ⟨u1,u2,u3,u4⟩:=(qx k hkl).of_block (bel.block bx hbx)
    obtain ⟨v1,v2,v3,v4⟩:=(qy k hky).of_block (bel.block b' hby)
    have four : ∀ W',Below wr.heap.size wr W'→(W'.cell? ⟨w.heap.size,3,none⟩=some (.slice (some ⟨bx,ox,none⟩) y.ks.length cx)∧W'.cell? ⟨w.heap.size+1,3,none⟩=some (.slice (some ⟨b',oy,none⟩) y.ks.length cy) ∧
     W'.cell? ⟨bx,ox+k * 4,none⟩=some (.int .i64 x.ks[k].k)∧W'.cell? ⟨bx,ox+k * 4+1,none⟩=some (.string x.ks[k].t)∧W'.cell? ⟨bx,ox+k * 4+2,none⟩=some (.int .i64 x.ks[k].n)∧W'.cell? ⟨bx,ox+k * 4+3,none⟩=some (fx k) ∧
     W'.cell? ⟨b',oy+k * 4,none⟩=some (.int .i64 y.ks[k].k)∧W'.cell? ⟨b',oy+k * 4+1,none⟩=some (.string y.ks[k].t)∧W'.cell? ⟨b',oy+k * 4+2,none⟩=some (.int .i64 y.ks[k].n)∧W'.cell? ⟨b',oy+k * 4+3,none⟩=some (fy k)):=fun W' b=>by
     have e1:=b.block w.heap.size (by omega)
     have e2:=b.block (w.heap.size+1) (by omega)
     have e3:=b.block bx (by omega)
     have e4:=b.block b' (by omega)
     exact ⟨(World.cell?_of_block (a:=⟨_,_,none⟩) e1).trans c1,(World.cell?_of_block (a:=⟨_,_,none⟩) e2).trans c2,(World.cell?_of_block (a:=⟨_,_,none⟩) e3).trans u1,(World.cell?_of_block (a:=⟨_,_,none⟩) e3).trans u2,(World.cell?_of_block (a:=⟨_,_,none⟩) e3).trans u3,(World.cell?_of_block (a:=⟨_,_,none⟩) e3).trans u4,
      (World.cell?_of_block (a:=⟨_,_,none⟩) e4).trans v1,(World.cell?_of_block (a:=⟨_,_,none⟩) e4).trans v2,(World.cell?_of_block (a:=⟨_,_,none⟩) e4).trans v3,(World.cell?_of_block (a:=⟨_,_,none⟩) e4).trans v4⟩
    have hst:=four wr.drew (Below.refl _ _).drew
    have gx' : LAt wr.drew S (fx k) x.ks[k].ks:=gx.bel bel.drew
    have gy' : LAt wr.drew T (fy k) y.ks[k].ks:=gy.bel bel.drew
    generalize x.ks[k]=xk at *
    generalize y.ks[k]=yk at *
    generalize fx k=fxk at *
    generalize fy k=fyk at *
    clear u1 u2 u3 u4 v1 v2 v3 v4
    go_wp2_with fail
    go_region_held3 (fun W'=>W'.cell? ⟨w.heap.size,3,none⟩=some (.slice (some ⟨bx,ox,none⟩) y.ks.length cx)∧W'.cell? ⟨w.heap.size+1,3,none⟩=some (.slice (some ⟨b',oy,none⟩) y.ks.length cy) ∧
     W'.cell? ⟨bx,ox+k * 4,none⟩=some (.int .i64 xk.k)∧W'.cell? ⟨bx,ox+k * 4+1,none⟩=some (.string xk.t)∧W'.cell? ⟨bx,ox+k * 4+2,none⟩=some (.int .i64 xk.n)∧W'.cell? ⟨bx,ox+k * 4+3,none⟩=some fxk ∧
     W'.cell? ⟨b',oy+k * 4,none⟩=some (.int .i64 yk.k)∧W'.cell? ⟨b',oy+k * 4+1,none⟩=some (.string yk.t)∧W'.cell? ⟨b',oy+k * 4+2,none⟩=some (.int .i64 yk.n)∧W'.cell? ⟨b',oy+k * 4+3,none⟩=some fyk)
     (first | assumption | exact hst | exact hst2)
     (first
      | (go_at_call 7;refine (iha _ S T fxk fyk gx' gy' (by omega) (by omega)).mono ?_;rintro e W1 ⟨b,rfl,hb,b1⟩;have hst2:=four W1 ((Below.refl _ _).drew.trans b1)))
    have bel1 : Below w.heap.size w W1:=bel.drew.trans (b1.mono bel.size)
    have sz1 : w.heap.size+2 ≤ W1.heap.size:=Nat.le_trans sz b1.size
    have d1:=hst2.1
    have d2:=hst2.2.1
    clear hst hst2 four c1 c2 gx gy gx' gy' iha
    cases b with
    | true =>
     have HT' : Hid (x.ks.take (k+1)=y.ks.take (k+1)):=HS.out (hb.1 rfl)
     clear HS HN hb
     go_wp2
     go_roundw
     case rel=>exact ⟨k+1,by simp,by omega,bel1,sz1,d1,d2,HT'⟩
     case measure=>simp [intOf];omega
    | false =>
     have HF : Hid (¬ x=y):=HN.out (fun e=>by simpa using hb.2 e)
     clear HS HN hb
     go_wp2
     go_ret
     exact no _ bel1 HF.out
   ·have HE : Hid (x=y):=by
     have e1 : x.ks.take k=x.ks:=List.take_of_length_le (by omega)
     have e2 : y.ks.take k=y.ks:=List.take_of_length_le (by omega)
     have e3:=HT.out
     rw [e1,e2] at e3
     exact Nd.ext' H1.out (bytes_eq.2 h2) H3.out e3
    clear HT
    go_wp2
    go_ret
    exact ⟨true,rfl,by simp [HE.out],bel⟩
theorem kid_at {w W : World} {S : Nat→Prop} {bl o k : Nat} {x : Nd} {v : Value} (h4 : Four w bl (o+k * 4) x v) (hk : LAt w S v x.ks) (hb : bl < w.heap.size) (bel : Below w.heap.size w W) :
 (W.cell? ⟨bl,o+k * 4,none⟩=some (.int .i64 x.k)∧W.cell? ⟨bl,o+k * 4+1,none⟩=some (.string x.t)∧W.cell? ⟨bl,o+k * 4+2,none⟩=some (.int .i64 x.n)∧W.cell? ⟨bl,o+k * 4+3,none⟩=some v)∧LAt W S v x.ks :=
 ⟨h4.of_block (bel.block bl hb),hk.bel bel⟩
theorem LAt.mono' {w : World} {S T : Nat→Prop} {v : Value} {ks : List Nd} (h : LAt w S v ks) (hT : ∀ b,b < w.heap.size→S b→T b) : LAt w T v ks:=by
 induction h with
 | nil a c=>exact .nil a c
 | row bl o c ks f hS hl h4 hk ih=>exact .row bl o c ks f (hT bl hl hS) hl h4 ih
theorem LAt.grown {w w' : World} {S : Nat→Prop} {v : Value} {ks : List Nd} {row : Option Nat} (h : LAt w S v ks) (hg : w.grownBy w' row) (hr : ∀ b,S b→row ≠ some b) : LAt w' S v ks :=
 h.keep hg.size (fun b hb hl=>hg.block b hl (fun e=>hr b hb e.symm))
theorem LAt.sl {w : World} {S : Nat→Prop} {v : Value} {ks : List Nd} (h : LAt w S v ks) : ∃ a c,v = .slice a ks.length c:=by
 obtain ⟨a,c,_,_,_,e,_⟩:=h.op
 exact ⟨a,c,e⟩
def rowN (L : List (Nd × Value)) : List Value:=L.flatMap fun p=>[.int .i64 p.1.k,.string p.1.t,.int .i64 p.1.n,p.2]
theorem rowN_cons (p : Nd × Value) (L : List (Nd × Value)) : rowN (p :: L) = .int .i64 p.1.k :: .string p.1.t :: .int .i64 p.1.n :: p.2 :: rowN L:=rfl
theorem rowN_append (L M : List (Nd × Value)) : rowN (L ++ M)=rowN L ++ rowN M:=by simp [rowN]
theorem rowN_length : ∀ L : List (Nd × Value),(rowN L).length=L.length * 4
 | []=>rfl
 | x :: F=>by rw [rowN_cons];simp [rowN_length F];omega
theorem rowN_get : ∀ (F : List (Nd × Value)) (i : Nat) (h : i < F.length),(rowN F)[i * 4]?=some (.int .i64 F[i].1.k)∧(rowN F)[i * 4+1]?=some (.string F[i].1.t)∧(rowN F)[i * 4+2]?=some (.int .i64 F[i].1.n)∧(rowN F)[i * 4+3]?=some F[i].2
 | x :: F,0,_=>by simp [rowN_cons]
 | x :: F,i+1,h=>by
  have:=rowN_get F i (by simpa using h)
  rw [rowN_cons,show (i+1) * 4=i * 4+1+1+1+1 by omega]
  simpa using this
theorem lat_of_row {w : World} {S : Nat→Prop} {base : Nat} {v : Value} {L : List (Nd × Value)} (h : w.ownsRow base 24 4 v L.length (rowN L)) (hk : ∀ p ∈ L,LAt w S p.2 p.1.ks) (hS : ∀ g,v.ownBlock=some g→S g) : LAt w S v (L.map (·.1)):=by
 rcases h.2 with ⟨rfl,h0⟩ | ⟨g,cap,cur,rfl,hb,hg,_,_,hcs,htk⟩
 ·rw [List.length_eq_zero_iff.1 h0];exact .nil _ _
 ·have key : ∀ i (hi : i < (L.map (·.1)).length),Four w g (0+i * 4) (L.map (·.1))[i] ((L[i]?.map (·.2)).getD default):=fun i hi=>by
   have hi' : i < L.length:=by simpa using hi
   have hf:=rowN_get L i hi'
   rw [← htk] at hf
   have g1 : ∀ j,j < L.length * 4→(cur.toList.take (L.length * 4))[j]?=cur[j]?:=fun j hj=>by rw [List.getElem?_take_of_lt hj];simp
   rw [g1 _ (by omega),g1 _ (by omega),g1 _ (by omega),g1 _ (by omega)] at hf
   have c : ∀ j,w.cell? ⟨g,j,none⟩=cur[j]?:=fun j=>cell_of_row w g _ _ _ _ hg
   simp only [List.getElem_map,List.getElem?_eq_getElem hi',Option.map_some,Option.getD_some,Nat.zero_add]
   exact ⟨(c _).trans hf.1,(c _).trans hf.2.1,(c _).trans hf.2.2.1,(c _).trans hf.2.2.2⟩
  have e : L.length=(L.map (·.1)).length:=by simp
  rw [e]
  refine .row g 0 cap _ _ (hS g rfl) (Array.getElem?_eq_some_iff.1 hg).1 key (fun i hi=>?_)
  have hi' : i < L.length:=by simpa using hi
  have:=hk L[i] (List.getElem_mem hi')
  simpa [List.getElem?_eq_getElem hi'] using this
def zeroN : Value:=.agg #[.int .i64 0,.string ByteArray.empty,.int .i64 0,.slice none 0 0]
theorem info_nd : (Tryz.prog.info? 24).map (fun i=>(i.zero,i.size,i.bytes))=some (some zeroN,4,56):=by kernel_rfl
theorem hnew {w : World} (o : Obj) {k : Nat} (h : k=w.heap.size) : (w.alloc o).heap[k]?=some o:=by subst h;exact heap_alloc_new w o
theorem hold {w : World} (o : Obj) {k : Nat} {u : Option Obj} (h : k < w.heap.size) (hu : w.heap[k]?=u) : (w.alloc o).heap[k]?=u:=(Below.heap_alloc w o k h).trans hu
theorem grow_bel {a b : World} (h : Below a.heap.size a b) : a.grownBy b none:=⟨h.os,h.tape,h.output,h.size,fun k hk _=>h.block k hk⟩
theorem row_bel {w w' : World} {base : Nat} {e : TypeId} {size : Nat} {v : Value} {n : Nat} {xs : List Value} (h : w.ownsRow base e size v n xs) (b : Below w.heap.size w w') : w'.ownsRow base e size v n xs :=
 h.kept (grow_bel b) (by cases v.ownBlock <;> simp)
theorem row_lt {w : World} {base : Nat} {e : TypeId} {size : Nat} {v : Value} {n : Nat} {xs : List Value} (h : w.ownsRow base e size v n xs) : ∀ g,v.ownBlock=some g→base ≤ g∧g < w.heap.size:=by
 rcases h.2 with ⟨rfl,h0⟩ | ⟨g,cap,cur,rfl,hb,hg,_⟩
 ·intro g hg;cases hg
 ·intro g' hg';cases hg';exact ⟨hb,(Array.getElem?_eq_some_iff.1 hg).1⟩
theorem box4_set3 {w : World} {b : Nat} {p q r s : Value} {t : TypeId} {fr : Nat × Nat} (u : Value) (h : w.heap[b]?=some (.cells #[p,q,r,s] t fr)) : (w.setCell ⟨b,3,none⟩ u).heap[b]?=some (.cells #[p,q,r,u] t fr):=by
 simp [World.setCell,Array.getElem?_modify,h]
structure Grow (B : Nat) (w : World) (v : Value) (L : List (Nd × Value)) (k : Nat) : Prop where
 own : w.ownsRow B 24 4 v k (rowN L)
 kids : ∀ p ∈ L,LAt w (fun b=>B ≤ b∧v.ownBlock ≠ some b) p.2 p.1.ks
theorem Grow.nil (B : Nat) (w : World) : Grow B w (.slice none 0 0) [] 0:=⟨World.ownsRow_nil _ _ _ _,by simp⟩
theorem Grow.bel {B : Nat} {w w' : World} {v : Value} {L : List (Nd × Value)} {k : Nat} (h : Grow B w v L k) (b : Below w.heap.size w w') : Grow B w' v L k :=
 ⟨row_bel h.own b,fun p hp=>(h.kids p hp).bel b⟩
theorem Grow.push {B k gg cap : Nat} {w W1 W3 : World} {v v1 : Value} {L : List (Nd × Value)} {x : Nd} {o : Obj} (h : Grow B w v L k) (hB : B ≤ w.heap.size) (b : Below w.heap.size w W1) (l1 : LAt W1 (fun b=>w.heap.size ≤ b) v1 x.ks)
 (hg : (W1.alloc o).grownBy W3 v.ownBlock) (hat : v.ownBlock=some gg ∨ gg=W1.heap.size+1) (hown : W3.ownsRow B 24 4 (.slice (some ⟨gg,0,none⟩) (k+1) cap) (k+1) (rowN L ++ [.int .i64 x.k,.string x.t,.int .i64 x.n,v1])) {p : Addr} (hp : p.block < B) (u : Value) :
 Grow B (W3.setCell p u) (.slice (some ⟨gg,0,none⟩) (k+1) cap) (L ++ [(x,v1)]) (k+1):=by
 have hs:=b.size
 have hs3 : W1.heap.size+1 ≤ W3.heap.size:=by have:=hg.size;simpa using this
 have hz : (W3.setCell p u).heap.size=W3.heap.size:=by simp [World.setCell]
 have olt:=row_lt h.own
 have blk : ∀ j,B ≤ j→j < W1.heap.size→v.ownBlock ≠ some j→(W3.setCell p u).heap[j]?=W1.heap[j]?:=fun j h1 h2 h3 =>
  (Below.heap_setCell _ _ _ _ (by omega)).trans ((hg.block j (by simp;omega) (fun e=>h3 e.symm)).trans (Below.heap_alloc _ _ _ h2))
 refine ⟨ownsRow_setCell_below (by rw [rowN_append];exact hown) hp u,fun q hq=>?_⟩
 rcases List.mem_append.1 hq with hq | hq
 ·have h1 : LAt w (fun b=>(B ≤ b∧v.ownBlock ≠ some b)∧gg ≠ b) q.2 q.1.ks:=(h.kids q hq).mono' (fun j hj hS=>⟨hS,fun e=>by
   subst e
   rcases hat with e | e
   ·exact hS.2 e
   ·omega⟩)
  exact (h1.keep (by omega) (fun j hj hl=>(blk j hj.1.1 (by omega) hj.1.2).trans (b.block j hl))).mono (fun j hj=>⟨hj.1.1,fun e=>hj.2 (by cases e;rfl)⟩)
 ·obtain rfl : q=(x,v1):=by simpa using hq
  have h1 : LAt W1 (fun b=>w.heap.size ≤ b∧b < W1.heap.size) v1 x.ks:=l1.mono' (fun j hj hS=>⟨hS,hj⟩)
  have ne : ∀ j,w.heap.size ≤ j→v.ownBlock ≠ some j:=fun j hj e=>by have:=(olt j e).2;omega
  exact (h1.keep (by omega) (fun j hj hl=>blk j (by omega) hl (ne j hj.1))).mono (fun j hj=>⟨by omega,fun e=>by
   obtain rfl : gg=j:=by simpa [Value.ownBlock] using e
   have h1:=hj.1
   have h2:=hj.2
   rcases hat with e | e
   ·exact ne gg h1 e
   ·omega⟩)
theorem Grow.lat {B k : Nat} {w : World} {v : Value} {L : List (Nd × Value)} {ks : List Nd} (h : Grow B w v L k) (e : L.map (·.1)=ks) : LAt w (fun b=>B ≤ b) v ks:=by
 subst e
 have hl : L.length=k:=by have h1:=h.own.1;have h2:=rowN_length L;omega
 have own:=h.own
 rw [← hl] at own
 exact lat_of_row own (fun p hp=>(h.kids p hp).mono (fun b hb=>hb.1)) (fun g hg=>(row_lt own g hg).1)
end Go.Proofs.YthfkfbcopinmiaaGreatDoor
set_option linter.unusedVariables false
set_option linter.unusedSimpArgs false
namespace Go.Proofs.YthfkfbcopinmiaaGreatDoor
open Go.RowKit Go.Maps
theorem B0 {B : Nat} {w : World} : Below B w w:=Below.refl B w
theorem le0 {n : Nat} : n ≤ n:=Nat.le_refl n
theorem tk (i : Nat) (v : Value) {P : Program} {md : Region.Mode} {ops : Array Oper} {Q : Exit→Act→World→Prop} {oi : Oper} {fuel : Nat} {listed : Array Bool} {a : Act} {w : World} (h : wpAny P md ops Q fuel (listed.setIfInBounds i true) (a.put oi.dst v) w)
 (hi : ops[i]?=some oi:=by rfl) (hs : Region.noSelect ops=true:=by kernel_rfl) (hf : Region.free md ops listed i=true:=by kernel_rfl) (hr : (Region.ready md ops listed).contains i=true:=by kernel_rfl)
 (hQ : ∀ c a w,Q (.panic c) (a.put oi.dst v) w→Q (.panic c) a w:=by exact fun _ _ _ h=>h) (hy : Yields P ops oi v a:=by exact Or.inl ⟨by rfl,fun w=>by go_simp⟩) : wpAny P md ops Q (fuel+1) listed a w:=wpAny_take hi hs hf hr hQ hy h
end Go.Proofs.YthfkfbcopinmiaaGreatDoor
set_option linter.unusedVariables false
set_option linter.unusedSimpArgs false
set_option maxRecDepth 100000
set_option maxHeartbeats 4000000
namespace Go.Proofs.YthfkfbcopinmiaaGreatDoor
open Go.RowKit
structure Tok where
 k : Int
 t : ByteArray
 n : Int
 p : Int
def Tok.v (x : Tok) : Value:=.agg #[.int .i64 x.k,.string x.t,.int .i64 x.n,.int .i64 x.p]
def endT : Tok:=⟨0,ByteArray.empty,0,0⟩
def tokA (L : List Tok) (i : Nat) : Tok:=(L[i]?).getD endT
structure Toks (w : World) (bl of : Nat) (L : List Tok) : Prop where
 lt : 0 < L.length→bl < w.heap.size
 c : ∀ i (h : i < L.length),w.cell? ⟨bl,of+i * 4,none⟩=some (.int .i64 L[i].k)∧w.cell? ⟨bl,of+i * 4+1,none⟩=some (.string L[i].t)∧w.cell? ⟨bl,of+i * 4+2,none⟩=some (.int .i64 L[i].n)∧w.cell? ⟨bl,of+i * 4+3,none⟩=some (.int .i64 L[i].p)
structure Ex where
 vs : List Value
 ty : TypeId
structure Pl where
 R : Nat
 bl : Nat
 of : Nat
 tc : Nat
 ta : Option Addr
structure Rd (w : World) (P : Pl) (L : List Tok) (a : Nat) (o : Ex) : Prop where
 r : w.heap[P.R]?=some (.cells ⟨.slice P.ta L.length P.tc :: .int .i64 (a : Int) :: o.vs⟩ o.ty (0,0))
 t : 0 < L.length→P.ta=some ⟨P.bl,P.of,none⟩
 x : Toks w P.bl P.of L
 ne : 0 < L.length→P.bl ≠ P.R
 le : a ≤ L.length
 small : L.length ≤ 4194304
 cap : L.length ≤ P.tc
theorem Rd.cells {w : World} {P : Pl} {L : List Tok} {a : Nat} {o : Ex} (h : Rd w P L a o) : (w.cell? ⟨P.R,0,none⟩=some (.slice P.ta L.length P.tc)∧w.cell? ⟨P.R,1,none⟩=some (.int .i64 (a : Int)))∧w.frozen? ⟨P.R,1,none⟩=false:=by
 simp [World.cell?,World.frozen?,h.r]
theorem Rd.lt {w : World} {P : Pl} {L : List Tok} {a : Nat} {o : Ex} (h : Rd w P L a o) : P.R < w.heap.size:=(Array.getElem?_eq_some_iff.1 h.r).1
theorem Toks.bel {w w' : World} {bl of : Nat} {L : List Tok} (h : Toks w bl of L) (b : Below w.heap.size w w') : Toks w' bl of L :=
 ⟨fun h0=>Nat.lt_of_lt_of_le (h.lt h0) b.size,fun i hi=>by
  have hl:=h.lt (by omega)
  obtain ⟨c0,c1,c2,c3⟩:=h.c i hi
  exact ⟨(b.cell (p:=⟨bl,of+i * 4,none⟩) hl).trans c0,(b.cell (p:=⟨bl,of+i * 4+1,none⟩) hl).trans c1,(b.cell (p:=⟨bl,of+i * 4+2,none⟩) hl).trans c2,(b.cell (p:=⟨bl,of+i * 4+3,none⟩) hl).trans c3⟩⟩
theorem Rd.bel {w w' : World} {P : Pl} {L : List Tok} {a : Nat} {o : Ex} (h : Rd w P L a o) (b : Below w.heap.size w w') : Rd w' P L a o :=
 ⟨(b.block P.R h.lt).trans h.r,h.t,h.x.bel b,h.ne,h.le,h.small,h.cap⟩
theorem t4 {w : World} {b : Nat} {p q r s : Value} {t : TypeId} (h : w.heap[b]?=some (.cells #[p,q,r,s] t (0,0))) :
 (w.cell? ⟨b,0,none⟩=some p∧w.cell? ⟨b,1,none⟩=some q∧w.cell? ⟨b,2,none⟩=some r∧w.cell? ⟨b,3,none⟩=some s)∧(w.frozen? ⟨b,0,none⟩=false∧w.frozen? ⟨b,1,none⟩=false∧w.frozen? ⟨b,2,none⟩=false∧w.frozen? ⟨b,3,none⟩=false):=by
 simp [World.cell?,World.frozen?,h]
theorem t4_set {w : World} {b : Nat} {p q r s : Value} {t : TypeId} {fr : Nat × Nat} (p' q' r' s' : Value) (h : w.heap[b]?=some (.cells #[p,q,r,s] t fr)) :
 ((((w.setCell ⟨b,0,none⟩ p').setCell ⟨b,1,none⟩ q').setCell ⟨b,2,none⟩ r').setCell ⟨b,3,none⟩ s').heap[b]?=some (.cells #[p',q',r',s'] t fr):=by
 simp [World.setCell,Array.getElem?_modify,h]
theorem res_tk {fn : Func} {p : Nat} (h : fn.results=#[.cell p 37]) {W : World} {n : Nat} {a b c d : Value} {t : TypeId} {tmps : Array Value} (hb : W.heap[n]?=some (.cells #[a,b,c,d] t (0,0))) (ht : tmps[p]?.getD undef = .pointer (some ⟨n,0,none⟩)) :
 (results fn tmps).run Tryz.prog W = .ok (.agg #[a,b,c,d]) W:=by
 obtain ⟨⟨c0,c1,c2,c3⟩,_⟩:=t4 hb
 simp [results,h,go_sem,ht,c0,c1,c2,c3]
theorem isSign_any (x : Tok) (s : ByteArray) (w : World) :
 Calls Tryz.prog 55 #[x.v,.string s] w fun e w'=>e = .returned (.bool ((x.k == 5) && (x.t.toList == s.toList)))∧Below w.heap.size w w':=by
 obtain ⟨k,t,n,p⟩:=x
 unfold Tok.v
 go_enter Tryz.func55,Tryz.ntmps55
 by_cases h : k=5
 ·subst h
  go_wp2
  go_ret
  exact ⟨by simp,B0.alloc le0 _⟩
 ·go_wp2
  go_ret
  exact ⟨by simp [h],B0.alloc le0 _⟩
theorem isWord_any (x : Tok) (s : ByteArray) (w : World) :
 Calls Tryz.prog 35 #[x.v,.string s] w fun e w'=>e = .returned (.bool ((x.k == 2) && (x.t.toList == s.toList)))∧Below w.heap.size w w':=by
 obtain ⟨k,t,n,p⟩:=x
 unfold Tok.v
 go_enter Tryz.func35,Tryz.ntmps35
 by_cases h : k=2
 ·subst h
  go_wp2
  go_ret
  exact ⟨by simp,B0.alloc le0 _⟩
 ·go_wp2
  go_ret
  exact ⟨by simp [h],B0.alloc le0 _⟩
theorem isName_any (x : Tok) (s : ByteArray) (w : World) :
 Calls Tryz.prog 54 #[x.v,.string s] w fun e w'=>e = .returned (.bool ((x.k == 1) && (x.t.toList == s.toList)))∧Below w.heap.size w w':=by
 obtain ⟨k,t,n,p⟩:=x
 unfold Tok.v
 go_enter Tryz.func54,Tryz.ntmps54
 by_cases h : k=1
 ·subst h
  go_wp2
  go_ret
  exact ⟨by simp,B0.alloc le0 _⟩
 ·go_wp2
  go_ret
  exact ⟨by simp [h],B0.alloc le0 _⟩
theorem place_any {w : World} {P : Pl} {L : List Tok} {a : Nat} {o : Ex} (h : Rd w P L a o) :
 Calls Tryz.prog 34 #[.pointer (some ⟨P.R,0,none⟩)] w fun e w'=>e = .returned (.int .i64 (a : Int))∧w'=w:=by
 obtain ⟨⟨c0,c1⟩,f1⟩:=h.cells
 go_enter Tryz.func34,Tryz.ntmps34
 go_wp2
 go_ret
 exact ⟨rfl,rfl⟩
def restV (P : Pl) (L : List Tok) (a : Nat) (v : Value) : Prop:=∃ ad,v = .slice ad (L.length - a) (P.tc - a)∧(a < L.length→ad=some ⟨P.bl,P.of+a * 4,none⟩)
theorem rest_any {w : World} {P : Pl} {L : List Tok} {a : Nat} {o : Ex} (h : Rd w P L a o) :
 Calls Tryz.prog 91 #[.pointer (some ⟨P.R,0,none⟩)] w fun e w'=>(∃ v,e = .returned v∧restV P L a v)∧Below w.heap.size w w':=by
 obtain ⟨⟨c0,c1⟩,f1⟩:=h.cells
 have hle:=h.le
 have hcp:=h.cap
 have hsm:=h.small
 have ht:=h.t
 obtain ⟨R,bl,of,tc,ta⟩:=P
 simp only at *
 have i1 : (a : Int) ≤ (L.length : Int):=by omega
 have i2 : (L.length : Int) ≤ (tc : Int):=by omega
 have i3 : (0 : Int) ≤ (a : Int):=by omega
 have i4 : (a : Int) ≤ (tc : Int):=by omega
 have h0 : ∀ v W,(∃ ad,v = .slice ad (L.length - a) (tc - a)∧(a < L.length→ad=some ⟨bl,of+a * 4,none⟩))→Below w.heap.size w W→(∃ u,Ending.returned v = .returned u∧restV ⟨R,bl,of,tc,ta⟩ L a u)∧Below w.heap.size w W:=fun v W h1 h2=>⟨⟨v,rfl,h1⟩,h2⟩
 rcases ta with _ | ⟨b0,o0,z0⟩
 ·obtain hl : L.length=0:=by
   by_cases q : 0 < L.length
   ·exact absurd (ht q) (by simp)
   ·omega
  obtain rfl : a=0:=by omega
  go_enter Tryz.func91,Tryz.ntmps91
  go_wp2
  go_region
  go_wp2
  go_ret
  exact h0 _ _ ⟨none,by simp [hl],fun q=>by omega⟩ B0.drew
 ·by_cases hc : a < tc
  ·have i5 : (a : Int) < (tc : Int):=by omega
   go_enter Tryz.func91,Tryz.ntmps91
   go_wp2
   go_region
   go_wp2
   go_ret
   exact h0 _ _ ⟨_,rfl,fun q=>by have:=ht (by omega);cases this;simp [Addr.add]⟩ B0.drew
  ·obtain rfl : a=tc:=by omega
   go_enter Tryz.func91,Tryz.ntmps91
   go_wp2
   go_region
   go_wp2
   go_ret
   exact h0 _ _ ⟨some ⟨b0,o0,z0⟩,by simp;omega,fun q=>by omega⟩ B0.drew
theorem ahead_any {w : World} {P : Pl} {L : List Tok} {a : Nat} {o : Ex} (h : Rd w P L a o) (n : Nat) (hn : n ≤ 4194304) :
 Calls Tryz.prog 56 #[.pointer (some ⟨P.R,0,none⟩),.int .i64 (n : Int)] w fun e w'=>e = .returned (tokA L (a+n)).v∧Below w.heap.size w w':=by
 have hle:=h.le
 have hsm:=h.small
 have bel_n : ∀ o,Below w.heap.size w (w.alloc o):=fun o=>B0.alloc le0 o
 have C1:=fun o=>rest_any (h.bel (bel_n o))
 have M0 : Hid (∀ W,Below (w.alloc (Obj.cells #[.int .i64 0,.string ⟨#[]⟩,.int .i64 0,.int .i64 0] 37)).heap.size (w.alloc (Obj.cells #[.int .i64 0,.string ⟨#[]⟩,.int .i64 0,.int .i64 0] 37)) W→W.heap[w.heap.size]?=some (.cells #[.int .i64 0,.string ⟨#[]⟩,.int .i64 0,.int .i64 0] 37 (0,0))):=fun W b=>(b.block _ (by simp)).trans (heap_alloc_new w _)
 have B0 : Hid (∀ W,Below (w.alloc (Obj.cells #[.int .i64 0,.string ⟨#[]⟩,.int .i64 0,.int .i64 0] 37)).heap.size (w.alloc (Obj.cells #[.int .i64 0,.string ⟨#[]⟩,.int .i64 0,.int .i64 0] 37)) W→Below w.heap.size w W):=fun W b=>(bel_n _).trans (b.mono (by simp))
 have hR:=h
 by_cases ha : a+n < L.length
 ·have e : tokA L (a+n)=L[a+n]:=by unfold tokA;rw [List.getElem?_eq_getElem ha];rfl
  rw [e]
  clear e
  have HC : Hid (∀ W,Below w.heap.size w W→W.cell? ⟨P.bl,P.of+(a+n) * 4,none⟩=some (.int .i64 L[a+n].k)∧W.cell? ⟨P.bl,P.of+(a+n) * 4+1,none⟩=some (.string L[a+n].t)∧W.cell? ⟨P.bl,P.of+(a+n) * 4+2,none⟩=some (.int .i64 L[a+n].n)∧W.cell? ⟨P.bl,P.of+(a+n) * 4+3,none⟩=some (.int .i64 L[a+n].p)):=fun W b=>(h.x.bel b).c (a+n) ha
  generalize L[a+n]=x at *
  have ea : P.of+(a+n) * 4=P.of+a * 4+n * 4:=by omega
  rw [ea] at HC
  have i1 : (n : Int) < ((L.length - a : Nat) : Int):=by omega
  unfold Tok.v
  go_enter Tryz.func56,Tryz.ntmps56
  go_wp2_with (go_at_call 91;refine (C1 _).mono ?_;rintro e W1 ⟨⟨v,rfl,ad,rfl,had⟩,b1⟩;obtain rfl:=had (by omega);obtain ⟨d0,d1,d2,d3⟩:=HC.out _ (B0.out _ b1);have m0:=M0.out _ b1;obtain ⟨⟨e0,e1,e2,e3⟩,g0,g1,g2,g3⟩:=t4 m0)
  have b0:=B0.out _ b1
  refine bodyPost_ret (res_tk Tryz.results56 (t4_set _ _ _ _ m0) rfl) rfl ⟨rfl,?_⟩
  exact (((b0.setCell le0 _).setCell le0 _).setCell le0 _).setCell le0 _
 ·have e : tokA L (a+n)=endT:=by unfold tokA;rw [List.getElem?_eq_none (by omega)];rfl
  rw [e]
  clear e
  have i1 : ¬ (n : Int) < ((L.length - a : Nat) : Int):=by omega
  unfold Tok.v
  go_enter Tryz.func56,Tryz.ntmps56
  go_wp2_with (go_at_call 91;refine (C1 _).mono ?_;rintro e W1 ⟨⟨v,rfl,ad,rfl,had⟩,b1⟩;have m0:=M0.out _ b1;obtain ⟨⟨e0,e1,e2,e3⟩,g0,g1,g2,g3⟩:=t4 m0)
  have b0:=B0.out _ b1
  refine bodyPost_ret (res_tk Tryz.results56 (t4_set _ _ _ _ m0) rfl) rfl ⟨rfl,?_⟩
  exact (((b0.setCell le0 _).setCell le0 _).setCell le0 _).setCell le0 _
theorem token_any {w : World} {P : Pl} {L : List Tok} {a : Nat} {o : Ex} (h : Rd w P L a o) :
 Calls Tryz.prog 36 #[.pointer (some ⟨P.R,0,none⟩)] w fun e w'=>e = .returned (tokA L a).v∧Below w.heap.size w w':=by
 have bel_n : ∀ o,Below w.heap.size w (w.alloc o):=fun o=>B0.alloc le0 o
 have C1:=fun o=>ahead_any (h.bel (bel_n o)) 0 (by omega)
 have M0 : Hid (∀ W,Below (w.alloc (Obj.cells #[.int .i64 0,.string ⟨#[]⟩,.int .i64 0,.int .i64 0] 37)).heap.size (w.alloc (Obj.cells #[.int .i64 0,.string ⟨#[]⟩,.int .i64 0,.int .i64 0] 37)) W→W.heap[w.heap.size]?=some (.cells #[.int .i64 0,.string ⟨#[]⟩,.int .i64 0,.int .i64 0] 37 (0,0))):=fun W b=>(b.block _ (by simp)).trans (heap_alloc_new w _)
 have B0 : Hid (∀ W,Below (w.alloc (Obj.cells #[.int .i64 0,.string ⟨#[]⟩,.int .i64 0,.int .i64 0] 37)).heap.size (w.alloc (Obj.cells #[.int .i64 0,.string ⟨#[]⟩,.int .i64 0,.int .i64 0] 37)) W→Below w.heap.size w W):=fun W b=>(bel_n _).trans (b.mono (by simp))
 simp only [Nat.add_zero,Int.natCast_zero] at C1
 generalize tokA L a=x at *
 unfold Tok.v at *
 go_enter Tryz.func36,Tryz.ntmps36
 go_wp2_with (go_at_call 56;refine (C1 _).mono ?_;rintro e W1 ⟨rfl,b1⟩;have m0:=M0.out _ b1;obtain ⟨⟨e0,e1,e2,e3⟩,g0,g1,g2,g3⟩:=t4 m0)
 have b0:=B0.out _ b1
 refine bodyPost_ret (res_tk Tryz.results36 (t4_set _ _ _ _ m0) rfl) rfl ⟨rfl,?_⟩
 exact (((b0.setCell le0 _).setCell le0 _).setCell le0 _).setCell le0 _
end Go.Proofs.YthfkfbcopinmiaaGreatDoor
