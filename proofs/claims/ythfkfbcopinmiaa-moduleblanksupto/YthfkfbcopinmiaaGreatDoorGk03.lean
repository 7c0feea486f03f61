/- Own text. Package cursor: lists of things,read by a function value. Package cursor: blocks of statements,names that may not stand twice. -/
import Derived.Test.YthfkfbcopinmiaaGreatDoorGk02
import Derived.Deep.LoopGhost
import Derived.Maps.Ext
set_option linter.unusedVariables false
set_option linter.unusedSimpArgs false
set_option maxRecDepth 100000
set_option maxHeartbeats 8000000
namespace Go.Proofs.YthfkfbcopinmiaaGreatDoor
open Go.RowKit
structure Kept2 (R M : Nat) (w w' : World) : Prop where
 os : w'.os=w.os
 tape : w'.tape=w.tape
 output : w'.output=w.output
 size : w.heap.size ≤ w'.heap.size
 block : ∀ k,k < w.heap.size→k ≠ R→k ≠ M→w'.heap[k]?=w.heap[k]?
theorem Kept2.trans {R M : Nat} {w w' w'' : World} (h : Kept2 R M w w') (k : Kept2 R M w' w'') : Kept2 R M w w'' :=
 ⟨k.os.trans h.os,k.tape.trans h.tape,k.output.trans h.output,Nat.le_trans h.size k.size,fun i hi hb hm=>(k.block i (Nat.lt_of_lt_of_le hi h.size) hb hm).trans (h.block i hi hb hm)⟩
theorem Kept2.of {R M : Nat} {w w' : World} (h : KeptR R w w') : Kept2 R M w w':=⟨h.os,h.tape,h.output,h.size,fun k hk hb _=>h.block k hk hb⟩
theorem Kept2.refl (R M : Nat) (w : World) : Kept2 R M w w:=.of (.refl R w)
theorem Kept2.one {R : Nat} {w w' : World} (h : Kept2 R R w w') : KeptR R w w':=⟨h.os,h.tape,h.output,h.size,fun k hk hb=>h.block k hk hb hb⟩
theorem Kept2.late {R M : Nat} {u w w' : World} (k : KeptR R u w) (h : Kept2 R M w w') (hM : u.heap.size ≤ M) : KeptR R u w' :=
 ⟨h.os.trans k.os,h.tape.trans k.tape,h.output.trans k.output,Nat.le_trans k.size h.size,fun i hi hb=>(h.block i (Nat.lt_of_lt_of_le hi k.size) hb (by omega)).trans (k.block i hi hb)⟩
def AnsS {σ : Type} (P : Pl) (L : List Tok) (o : Ex) (M : Nat) (I : σ→World→Prop) (w : World) (r : Rs (Nd × σ)) (e : Ending) (w' : World) : Prop:=match r with
 | .ok x a=>∃ ad c,e = .returned (.agg #[.int .i64 x.1.k,.string x.1.t,.int .i64 x.1.n,.slice ad x.1.ks.length c])∧LAt w' (fun b=>w.heap.size ≤ b) (.slice ad x.1.ks.length c) x.1.ks∧Rd w' P L a o∧I x.2 w'∧Kept2 P.R M w w'
 | .bad p er=>Gave p er e∧Kept2 P.R M w w'
def AnsL (P : Pl) (L : List Tok) (o : Ex) (M : Nat) (w : World) (r : Rs (List Nd)) (e : Ending) (w' : World) : Prop:=match r with
 | .ok l a=>∃ ad c,e = .returned (.slice ad l.length c)∧LAt w' (fun b=>w.heap.size ≤ b) (.slice ad l.length c) l∧Rd w' P L a o∧Kept2 P.R M w w'
 | .bad p er=>Gave p er e∧Kept2 P.R M w w'
def AnsN (P : Pl) (L : List Tok) (o : Ex) (w : World) (r : Rs Nd) (e : Ending) (w' : World) : Prop:=match r with
 | .ok x a=>∃ ad c,e = .returned (.agg #[.int .i64 x.k,.string x.t,.int .i64 x.n,.slice ad x.ks.length c])∧LAt w' (fun b=>w.heap.size ≤ b) (.slice ad x.ks.length c) x.ks∧Rd w' P L a o∧KeptR P.R w w'
 | .bad p er=>Gave p er e∧KeptR P.R w w'
def sCm : ByteArray:=⟨#[44]⟩
def sCc : ByteArray:=⟨#[125]⟩
def listG {σ : Type} (L : List Tok) (s : ByteArray) (F : σ→Nat→Rs (Nd × σ)) : Nat→List Nd→σ→Nat→Rs (List Nd)
 | 0,_,_,a=>.bad a 0
 | n+1,acc,st,a=>if isS L a s=true then .ok acc (a+1) else match F st a with
  | .bad p e=>.bad p e
  | .ok x a1=>if isS L a1 s=true then listG L s F n (acc ++ [x.1]) x.2 a1 else if isS L a1 sCm=true then listG L s F n (acc ++ [x.1]) x.2 (a1+1) else .bad a1 60
theorem listG_end {σ : Type} {L : List Tok} {s : ByteArray} {F : σ→Nat→Rs (Nd × σ)} {n : Nat} {acc : List Nd} {st : σ} {a : Nat} (hn : 0 < n) (h : isS L a s=true) : listG L s F n acc st a = .ok acc (a+1):=by
 obtain ⟨n,rfl⟩ : ∃ m,n=m+1:=⟨n - 1,by omega⟩
 rw [listG,if_pos h]
theorem listG_bad {σ : Type} {L : List Tok} {s : ByteArray} {F : σ→Nat→Rs (Nd × σ)} {n : Nat} {acc : List Nd} {st : σ} {a p : Nat} {e : Int} (hn : 0 < n) (h : isS L a s=false) (hf : F st a = .bad p e) : listG L s F n acc st a = .bad p e:=by
 obtain ⟨n,rfl⟩ : ∃ m,n=m+1:=⟨n - 1,by omega⟩
 rw [listG,if_neg (by rw [h];decide),hf]
theorem listG_ok {σ : Type} {L : List Tok} {s : ByteArray} {F : σ→Nat→Rs (Nd × σ)} {n : Nat} {acc : List Nd} {st : σ} {a a1 : Nat} {x : Nd × σ} (hn : 0 < n) (h : isS L a s=false) (hf : F st a = .ok x a1) :
 listG L s F n acc st a=if isS L a1 s=true then listG L s F (n - 1) (acc ++ [x.1]) x.2 a1 else if isS L a1 sCm=true then listG L s F (n - 1) (acc ++ [x.1]) x.2 (a1+1) else .bad a1 60:=by
 obtain ⟨n,rfl⟩ : ∃ m,n=m+1:=⟨n - 1,by omega⟩
 rw [listG,if_neg (by rw [h];decide),hf]
 rfl
theorem Grow.keepB {B : Nat} {w w' : World} {v : Value} {L : List (Nd × Value)} {k : Nat} (h : Grow B w v L k) (hs : w.heap.size ≤ w'.heap.size) (hb : ∀ b,B ≤ b→b < w.heap.size→w'.heap[b]?=w.heap[b]?) : Grow B w' v L k:=by
 refine ⟨⟨h.own.1,?_⟩,fun p hp=>(h.kids p hp).keep hs (fun b hS hl=>hb b hS.1 hl)⟩
 rcases h.own.2 with e | ⟨g,cap,cur,e1,e2,e3,e4⟩
 ·exact .inl e
 ·exact .inr ⟨g,cap,cur,e1,e2,(hb g e2 (Array.getElem?_eq_some_iff.1 e3).1).trans e3,e4⟩
theorem Grow.push' {B k gg cap : Nat} {w W1 W3 : World} {v v1 : Value} {L : List (Nd × Value)} {x : Nd} {o : Obj} (h : Grow B w v L k) (hB : B ≤ w.heap.size) (hs : w.heap.size ≤ W1.heap.size) (b : ∀ j,B ≤ j→j < w.heap.size→W1.heap[j]?=w.heap[j]?) (l1 : LAt W1 (fun b=>w.heap.size ≤ b) v1 x.ks)
 (hg : (W1.alloc o).grownBy W3 v.ownBlock) (hat : v.ownBlock=some gg ∨ gg=W1.heap.size+1) (hown : W3.ownsRow B 24 4 (.slice (some ⟨gg,0,none⟩) (k+1) cap) (k+1) (rowN L ++ [.int .i64 x.k,.string x.t,.int .i64 x.n,v1])) :
 Grow B W3 (.slice (some ⟨gg,0,none⟩) (k+1) cap) (L ++ [(x,v1)]) (k+1):=by
 have hs3 : W1.heap.size+1 ≤ W3.heap.size:=by have:=hg.size;simpa using this
 have olt:=row_lt h.own
 have blk : ∀ j,B ≤ j→j < W1.heap.size→v.ownBlock ≠ some j→W3.heap[j]?=W1.heap[j]?:=fun j h1 h2 h3 =>
  (hg.block j (by simp;omega) (fun e=>h3 e.symm)).trans (Below.heap_alloc _ _ _ h2)
 refine ⟨by rw [rowN_append];exact hown,fun q hq=>?_⟩
 rcases List.mem_append.1 hq with hq | hq
 ·have h1 : LAt w (fun b=>(B ≤ b∧v.ownBlock ≠ some b)∧gg ≠ b) q.2 q.1.ks:=(h.kids q hq).mono' (fun j hj hS=>⟨hS,fun e=>by
   subst e
   rcases hat with e | e
   ·exact hS.2 e
   ·omega⟩)
  exact (h1.keep (by omega) (fun j hj hl=>(blk j hj.1.1 (by omega) hj.1.2).trans (b j hj.1.1 hl))).mono (fun j hj=>⟨hj.1.1,fun e=>hj.2 (by cases e;rfl)⟩)
 ·obtain rfl : q=(x,v1):=by simpa using hq
  have h1 : LAt W1 (fun b=>w.heap.size ≤ b∧b < W1.heap.size) v1 x.ks:=l1.mono' (fun j hj hS=>⟨hS,hj⟩)
  have ne : ∀ j,w.heap.size ≤ j→v.ownBlock ≠ some j:=fun j hj e=>by have:=(olt j e).2;omega
  exact (h1.keep (by omega) (fun j hj hl=>blk j (by omega) hl (ne j hj.1))).mono (fun j hj=>⟨by omega,fun e=>by
   obtain rfl : gg=j:=by simpa [Value.ownBlock] using e
   have h1:=hj.1
   have h2:=hj.2
   rcases hat with e | e
   ·exact ne gg h1 e
   ·omega⟩)
theorem kept_push {R M : Nat} {w W2 W3 : World} {o : Obj} {row : Option Nat} (k : Kept2 R M w W2) (hg : (W2.alloc o).grownBy W3 row) (hr : ∀ g,row=some g→w.heap.size ≤ g) : Kept2 R M w W3 :=
 ⟨hg.os.trans k.os,hg.tape.trans k.tape,hg.output.trans k.output,by have h1:=hg.size;have h2:=k.size;simp at h1;omega,fun j hj h1 h2=>(hg.block j (by have:=k.size;simp;omega) (fun e=>by have:=hr j e.symm;omega)).trans ((Below.heap_alloc _ _ _ (by have:=k.size;omega)).trans (k.block j hj h1 h2))⟩
theorem rd_push {B : Nat} {P : Pl} {L : List Tok} {a : Nat} {o : Ex} {W2 W3 : World} {ob : Obj} {row : Option Nat} (r : Rd W2 P L a o) (hg : (W2.alloc ob).grownBy W3 row) (hr : ∀ g,row=some g→B ≤ g) (hR : P.R < B) (hb : 0 < L.length→P.bl < B) : Rd W3 P L a o:=by
 have hl:=r.lt
 refine r.keep (by have:=hg.size;simp at this;omega) ((hg.block _ (by simp;omega) (fun e=>by have:=hr _ e.symm;omega)).trans (Below.heap_alloc _ _ _ hl)) (fun h0=>?_)
 have hx:=r.x.lt h0
 exact (hg.block _ (by simp;omega) (fun e=>by have:=hr _ e.symm;have:=hb h0;omega)).trans (Below.heap_alloc _ _ _ hx)
theorem list_any {σ : Type} {P : Pl} {L : List Tok} {o : Ex} {s : ByteArray} {k : FuncId} {rs caps : Array Value} (eg : ∀ args w,(callFunc k args).run Tryz.prog w = .ok (.enter k args) w) (F : σ→Nat→Rs (Nd × σ)) (I : σ→World→Prop) (J : σ→Nat→Prop) (M : Nat) (w : World) (a : Nat) (st : σ) (h : Rd w P L a o) (hj : J st a) (hi : I st w) (hM : M < w.heap.size)
 (hmono : ∀ st a x b,F st a = .ok x b→a < b) (hJ : ∀ st b x a1 c,J st b→F st b = .ok x a1→a1 ≤ c→J x.2 c)
 (hI : ∀ st W W',I st W→w.heap.size ≤ W.heap.size→W.heap.size ≤ W'.heap.size→(∀ b,b < w.heap.size→b ≠ P.R→W'.heap[b]?=W.heap[b]?)→I st W')
 (hT : ∀ W st b,a ≤ b→J st b→Rd W P L b o→I st W→w.heap.size ≤ W.heap.size→Kept2 P.R M w W→Calls Tryz.prog k (rs ++ caps) W (AnsS P L o M I W (F st b))) :
 Calls Tryz.prog 84 #[.pointer (some ⟨P.R,0,none⟩),.string s,.func (.func k) rs caps] w (AnsL P L o M w (listG L s F (L.length+1 - a) [] st a)):=by
 have hR0:=h.lt
 have hsm:=h.small
 have hle:=h.le
 have hbl0:=h.x.lt
 obtain ⟨res,hres⟩ : ∃ res,listG L s F (L.length+1 - a) [] st a=res:=⟨_,rfl⟩
 rw [hres]
 have HRes : Hid (res=listG L s F (L.length+1 - a) [] st a):=hres.symm
 clear hres
 obtain ⟨i0,hi0,hz0,hz1,hz2⟩:=info_parts info_nd
 have HM : Hid (∀ st a x b,F st a = .ok x b→a < b):=hmono
 have HI : Hid (∀ st W W',I st W→w.heap.size ≤ W.heap.size→W.heap.size ≤ W'.heap.size→(∀ b,b < w.heap.size→b ≠ P.R→W'.heap[b]?=W.heap[b]?)→I st W'):=hI
 have HT : Hid (∀ W st b,a ≤ b→J st b→Rd W P L b o→I st W→w.heap.size ≤ W.heap.size→Kept2 P.R M w W→Calls Tryz.prog k (rs ++ caps) W (AnsS P L o M I W (F st b))):=hT
 have HJ : Hid (∀ st b x a1 c,J st b→F st b = .ok x a1→a1 ≤ c→J x.2 c):=hJ
 clear hmono hI hT hJ
 have HR0 : Hid (P.R < w.heap.size):=hR0
 clear hR0
 go_enter Tryz.func84,Tryz.ntmps84
 go_wp2
 go_loopg [7] (L.length+1 - a) (fun gk v7 wr=>∃ (st : σ) (b : Nat) (Lc : List (Nd × Value)),Hid (res=listG L s F gk (Lc.map (·.1)) st b)∧Hid (L.length+1 ≤ gk+b)∧Rd wr P L b o∧I st wr∧Grow w.heap.size wr v7 Lc Lc.length∧Kept2 P.R M w wr∧Hid (a+Lc.length ≤ b∧J st b))
 case atStart=>exact ⟨st,a,[],HRes,by show _ ≤ _;omega,h,hi,Grow.nil _ _,Kept2.refl _ _ _,by refine ⟨by simp,hj⟩⟩
 case round =>
  clear HRes h hi
  obtain ⟨st,b,Lc,HR,HG,r0,hI0,g0,k0,hb⟩:=hrel
  have hsz:=k0.size
  have hb':=hb.out.1
  have HJb : Hid (J st b):=hb.out.2
  have hgk:=HG.out
  have hbL:=r0.le
  have CT:=take_any r0 s
  have hR0 : P.R < w.heap.size:=HR0.out
  have B1 : Hid (∀ W,KeptR P.R wr W→I st W∧Kept2 P.R M w W∧Grow w.heap.size W u7 Lc Lc.length):=fun W b1=>⟨HI.out _ _ _ hI0 hsz b1.size (fun j h1 h2=>b1.block j (by omega) h2),k0.trans (.of b1),g0.keepB b1.size (fun j h1 h2=>b1.block j h2 (by omega))⟩
  cases hq : isS L b s with
  | true =>
   rw [hq] at CT
   have hres : res = .ok (Lc.map (·.1)) (b+1):=by rw [HR.out];exact listG_end (by omega) hq
   clear HR
   subst hres
   unfold AnsL
   go_wp2_with (go_at_call 40;refine CT.mono ?_;rintro e W1 ⟨rfl,r1,b1⟩)
   go_ret
   obtain ⟨i1,k1,g1⟩:=B1.out _ b1
   have hl:=g1.lat rfl
   obtain ⟨ad,c,e⟩:=hl.sl
   exact ⟨ad,c,by rw [← e];rfl,by rw [← e];exact hl,r1,k1⟩
  | false =>
   rw [hq] at CT
   cases hF : F st b with
   | bad p er =>
    have hres : res = .bad p er:=by rw [HR.out];exact listG_bad (by omega) hq hF
    clear HR
    subst hres
    unfold AnsL
    go_wp2_with (first
     | (go_at_call 40;refine CT.mono ?_;rintro e W1 ⟨rfl,r1,b1⟩;obtain ⟨hI1,k1,g1⟩:=B1.out _ b1;have s1:=b1.size)
     | (go_at_fn k;refine (HT.out W1 st b (by omega) HJb.out r1 hI1 (by omega) k1).mono ?_;rintro e W2 hA;rw [hF] at hA;obtain ⟨rfl,b2⟩:=hA))
    exact ⟨rfl,rfl,k1.trans b2⟩
   | ok x a1 =>
    have HR2 : Hid (res=if isS L a1 s=true then listG L s F (gk - 1) (Lc.map (·.1) ++ [x.1]) x.2 a1 else if isS L a1 sCm=true then listG L s F (gk - 1) (Lc.map (·.1) ++ [x.1]) x.2 (a1+1) else .bad a1 60):=by
     show _=_
     rw [HR.out];exact listG_ok (by omega) hq hF
    clear HR
    have hab:=HM.out _ _ _ _ hF
    have t1 : True:=trivial
    cases hq1 : isS L a1 s with
    | true =>
     have HR3 : Hid (res=listG L s F (gk - 1) ((Lc ++ [(x.1,(default : Value))]).map (·.1)) x.2 a1):=by
      show _=_
      rw [HR2.out,if_pos hq1];simp
     clear HR2
     go_wp2_with (first
      | (go_at_call 40;refine CT.mono ?_;rintro e W1 ⟨rfl,r1,b1⟩;obtain ⟨hI1,k1,g1⟩:=B1.out _ b1;have s1:=b1.size)
      | (go_at_fn k;refine (HT.out W1 st b (by omega) HJb.out r1 hI1 (by omega) k1).mono ?_;rintro e W2 hA;rw [hF] at hA;obtain ⟨ad,c,rfl,l2,r2,i2,b2⟩:=hA;have k2:=k1.trans b2;have s2:=k2.size;have g2:=g1.keepB b2.size (fun j h1 h2=>b2.block j h2 (by omega) (by omega)))
      | (at_builtin;refine wpList_append_lies _ (by rfl) _ _ _ (by rfl) w.heap.size 24 i0 _ 4 56 Tryz.underlying22 hi0 hz0 hz1 hz2 rfl (by omega) _ Lc.length (rowN Lc) (by rfl) (row_bel g2.own (B0.alloc le0 _)) ⟨W2.heap.size,0,none⟩ 1 1 [.int .i64 x.1.k,.string x.1.t,.int .i64 x.1.n,.slice ad x.1.ks.length c] (by rfl) (by rfl) (World.news_of_block (cs:=#[.int .i64 x.1.k,.string x.1.t,.int .i64 x.1.n,.slice ad x.1.ks.length c]) (t:=24) (fr:=(0,0)) (heap_alloc_new W2 _)) (by simp [Value.oneCell']) (by omega) (by unfold maxLen;omega) (by omega) (by simp;omega) (W2.heap.size+1) (by simp) ?_;intro gg cap W3 hown3 hgrow hat hlt3;have g3:=g1.push' (by omega) b2.size (fun j h1 h2=>b2.block j h2 (by omega) (by omega)) l2 hgrow hat hown3;have k3 : Kept2 P.R M w W3:=kept_push k2 hgrow (fun g e=>(row_lt g2.own g e).1) ;have r3:=rd_push r2 hgrow (fun g e=>(row_lt g2.own g e).1) hR0 hbl0)
      | (go_at_call 51;have CS:=stands_any r3 s;rw [hq1] at CS;refine CS.mono ?_;rintro e W4 ⟨rfl,b4⟩))
     go_roundg (gk - 1)
     case rel=>exact ⟨x.2,a1,Lc ++ [(x.1,Value.slice ad x.1.ks.length c)],by show _=_;rw [HR3.out,List.map_append,List.map_append];rfl,by show _ ≤ _;omega,r3.bel b4,HI.out _ _ _ i2 (by omega) (by have:=b4.size;have:=hgrow.size;simp at this;omega) (fun j h1 h2=>(b4.block j (by have:=k3.size;omega)).trans ((hgrow.block j (by simp;omega) (fun e=>by have:=(row_lt g2.own j e.symm).1;omega)).trans (Below.heap_alloc _ _ _ (by omega)))),by simpa using g3.bel b4,k3.trans (.of (.of b4)),by refine ⟨by simp;omega,HJ.out _ _ _ _ _ HJb.out hF le0⟩⟩
     case measure=>omega
    | false =>
     have CW:=fun W (r : Rd W P L a1 o)=>want_any r sCm
     cases hq2 : isS L a1 sCm with
     | false =>
      have hres : res = .bad a1 60:=by rw [HR2.out,if_neg (by rw [hq1];decide),if_neg (by rw [hq2];decide)]
      clear HR2
      subst hres
      have hw : wantR L sCm a1 = .bad a1 60:=by unfold wantR;rw [hq2];rfl
      rw [hw] at CW
      unfold sCm at CW
      unfold AnsL
      unfold AnsU at CW
      go_wp2_with (first
       | (go_at_call 40;refine CT.mono ?_;rintro e W1 ⟨rfl,r1,b1⟩;obtain ⟨hI1,k1,g1⟩:=B1.out _ b1;have s1:=b1.size)
       | (go_at_fn k;refine (HT.out W1 st b (by omega) HJb.out r1 hI1 (by omega) k1).mono ?_;rintro e W2 hA;rw [hF] at hA;obtain ⟨ad,c,rfl,l2,r2,i2,b2⟩:=hA;have k2:=k1.trans b2;have s2:=k2.size;have g2:=g1.keepB b2.size (fun j h1 h2=>b2.block j h2 (by omega) (by omega)))
       | (at_builtin;refine wpList_append_lies _ (by rfl) _ _ _ (by rfl) w.heap.size 24 i0 _ 4 56 Tryz.underlying22 hi0 hz0 hz1 hz2 rfl (by omega) _ Lc.length (rowN Lc) (by rfl) (row_bel g2.own (B0.alloc le0 _)) ⟨W2.heap.size,0,none⟩ 1 1 [.int .i64 x.1.k,.string x.1.t,.int .i64 x.1.n,.slice ad x.1.ks.length c] (by rfl) (by rfl) (World.news_of_block (cs:=#[.int .i64 x.1.k,.string x.1.t,.int .i64 x.1.n,.slice ad x.1.ks.length c]) (t:=24) (fr:=(0,0)) (heap_alloc_new W2 _)) (by simp [Value.oneCell']) (by omega) (by unfold maxLen;omega) (by omega) (by simp;omega) (W2.heap.size+1) (by simp) ?_;intro gg cap W3 hown3 hgrow hat hlt3;have g3:=g1.push' (by omega) b2.size (fun j h1 h2=>b2.block j h2 (by omega) (by omega)) l2 hgrow hat hown3;have k3 : Kept2 P.R M w W3:=kept_push k2 hgrow (fun g e=>(row_lt g2.own g e).1) ;have r3:=rd_push r2 hgrow (fun g e=>(row_lt g2.own g e).1) hR0 hbl0)
       | (go_at_call 51;have CS:=stands_any r3 s;rw [hq1] at CS;refine CS.mono ?_;rintro e W4 ⟨rfl,b4⟩)
       | (go_at_call 39;refine (CW _ (r3.bel b4)).mono ?_;rintro e W5 ⟨rfl,b5⟩))
      exact ⟨rfl,rfl,(k3.trans (.of (.of b4))).trans (.of b5)⟩
     | true =>
      have hlt:=isS_lt hq2
      have HR3 : Hid (res=listG L s F (gk - 1) ((Lc ++ [(x.1,(default : Value))]).map (·.1)) x.2 (a1+1)):=by
       show _=_
       rw [HR2.out,if_neg (by rw [hq1];decide),if_pos hq2];simp
      clear HR2
      have hw : wantR L sCm a1 = .ok () (a1+1):=by unfold wantR;rw [hq2];rfl
      rw [hw] at CW
      unfold sCm at CW
      unfold AnsU at CW
      go_wp2_with (first
       | (go_at_call 40;refine CT.mono ?_;rintro e W1 ⟨rfl,r1,b1⟩;obtain ⟨hI1,k1,g1⟩:=B1.out _ b1;have s1:=b1.size)
       | (go_at_fn k;refine (HT.out W1 st b (by omega) HJb.out r1 hI1 (by omega) k1).mono ?_;rintro e W2 hA;rw [hF] at hA;obtain ⟨ad,c,rfl,l2,r2,i2,b2⟩:=hA;have k2:=k1.trans b2;have s2:=k2.size;have g2:=g1.keepB b2.size (fun j h1 h2=>b2.block j h2 (by omega) (by omega)))
       | (at_builtin;refine wpList_append_lies _ (by rfl) _ _ _ (by rfl) w.heap.size 24 i0 _ 4 56 Tryz.underlying22 hi0 hz0 hz1 hz2 rfl (by omega) _ Lc.length (rowN Lc) (by rfl) (row_bel g2.own (B0.alloc le0 _)) ⟨W2.heap.size,0,none⟩ 1 1 [.int .i64 x.1.k,.string x.1.t,.int .i64 x.1.n,.slice ad x.1.ks.length c] (by rfl) (by rfl) (World.news_of_block (cs:=#[.int .i64 x.1.k,.string x.1.t,.int .i64 x.1.n,.slice ad x.1.ks.length c]) (t:=24) (fr:=(0,0)) (heap_alloc_new W2 _)) (by simp [Value.oneCell']) (by omega) (by unfold maxLen;omega) (by omega) (by simp;omega) (W2.heap.size+1) (by simp) ?_;intro gg cap W3 hown3 hgrow hat hlt3;have g3:=g1.push' (by omega) b2.size (fun j h1 h2=>b2.block j h2 (by omega) (by omega)) l2 hgrow hat hown3;have k3 : Kept2 P.R M w W3:=kept_push k2 hgrow (fun g e=>(row_lt g2.own g e).1) ;have r3:=rd_push r2 hgrow (fun g e=>(row_lt g2.own g e).1) hR0 hbl0)
       | (go_at_call 51;have CS:=stands_any r3 s;rw [hq1] at CS;refine CS.mono ?_;rintro e W4 ⟨rfl,b4⟩)
       | (go_at_call 39;refine (CW _ (r3.bel b4)).mono ?_;rintro e W5 ⟨rfl,r5,b5⟩))
      go_roundg (gk - 1)
      case rel=>exact ⟨x.2,a1+1,Lc ++ [(x.1,Value.slice ad x.1.ks.length c)],by show _=_;rw [HR3.out,List.map_append,List.map_append];rfl,by show _ ≤ _;omega,r5,HI.out _ _ _ i2 (by omega) (by have:=b4.size;have:=b5.size;have:=hgrow.size;simp at this;omega) (fun j h1 h2=>(b5.block j (by have:=k3.size;have:=b4.size;omega) h2).trans ((b4.block j (by have:=k3.size;omega)).trans ((hgrow.block j (by simp;omega) (fun e=>by have:=(row_lt g2.own j e.symm).1;omega)).trans (Below.heap_alloc _ _ _ (by omega))))),by simpa using (g3.bel b4).keepB b5.size (fun j h1 h2=>b5.block j h2 (by omega)),(k3.trans (.of (.of b4))).trans (.of b5),by refine ⟨by simp;omega,HJ.out _ _ _ _ _ HJb.out hF (by omega)⟩⟩
      case measure=>omega
def stmtsG (L : List Tok) (F : Nat→Rs Nd) : Nat→List Nd→Nat→Rs (List Nd)
 | 0,_,a=>.bad a 0
 | n+1,acc,a=>if isS L a sCc=true then .ok acc (a+1) else match F a with
  | .bad p e=>.bad p e
  | .ok x a1=>stmtsG L F n (acc ++ [x]) a1
theorem stmtsG_end {L : List Tok} {F : Nat→Rs Nd} {n : Nat} {acc : List Nd} {a : Nat} (hn : 0 < n) (h : isS L a sCc=true) : stmtsG L F n acc a = .ok acc (a+1):=by
 obtain ⟨n,rfl⟩ : ∃ m,n=m+1:=⟨n - 1,by omega⟩
 rw [stmtsG,if_pos h]
theorem stmtsG_bad {L : List Tok} {F : Nat→Rs Nd} {n : Nat} {acc : List Nd} {a p : Nat} {e : Int} (hn : 0 < n) (h : isS L a sCc=false) (hf : F a = .bad p e) : stmtsG L F n acc a = .bad p e:=by
 obtain ⟨n,rfl⟩ : ∃ m,n=m+1:=⟨n - 1,by omega⟩
 rw [stmtsG,if_neg (by rw [h];decide),hf]
theorem stmtsG_ok {L : List Tok} {F : Nat→Rs Nd} {n : Nat} {acc : List Nd} {a a1 : Nat} {x : Nd} (hn : 0 < n) (h : isS L a sCc=false) (hf : F a = .ok x a1) : stmtsG L F n acc a=stmtsG L F (n - 1) (acc ++ [x]) a1:=by
 obtain ⟨n,rfl⟩ : ∃ m,n=m+1:=⟨n - 1,by omega⟩
 rw [stmtsG,if_neg (by rw [h];decide),hf]
 rfl
def sCb : ByteArray:=⟨#[123]⟩
def mtT : ByteArray:=⟨#[]⟩
def mk0 (k : Int) (t : ByteArray) (ks : List Nd) : Nd:=.mk k t 0 ks
def blockG (L : List Tok) (F : Nat→Rs Nd) (a : Nat) : Rs Nd:=(wantR L sCb a).bind fun _ a1=>(stmtsG L F (L.length+1 - a1) [] a1).bind fun l a2=>.ok (mk0 52 mtT l) a2
theorem LAt.set4 {W : World} {B C n : Nat} {v : Value} {ks : List Nd} (h : LAt W (fun b=>B ≤ b) v ks) (hn : n < B) (hC : C ≤ B) (p q r s : Value) :
 LAt ((((W.setCell ⟨n,0,none⟩ p).setCell ⟨n,1,none⟩ q).setCell ⟨n,2,none⟩ r).setCell ⟨n,3,none⟩ s) (fun b=>C ≤ b) v ks:=by
 have h1 : LAt ((((W.setCell ⟨n,0,none⟩ p).setCell ⟨n,1,none⟩ q).setCell ⟨n,2,none⟩ r).setCell ⟨n,3,none⟩ s) (fun b=>B ≤ b) v ks:=h.keep (by simp [World.setCell]) (fun b hb hl=>by
  have hne : b ≠ n:=by omega
  rw [Below.heap_setCell _ _ _ _ hne,Below.heap_setCell _ _ _ _ hne,Below.heap_setCell _ _ _ _ hne,Below.heap_setCell _ _ _ _ hne])
 exact h1.mono (fun b hb=>Nat.le_trans hC hb)
theorem LAt.keepR {w w' : World} {R B : Nat} {v : Value} {ks : List Nd} (h : LAt w (fun b=>B ≤ b) v ks) (k : KeptR R w w') (hB : R < B) : LAt w' (fun b=>B ≤ b) v ks :=
 h.keep k.size (fun b hb hl=>k.block b hl (by omega))
theorem close_ok {w W : World} {P : Pl} {L : List Tok} {a0 a B : Nat} {o0 o : Ex} {x : Nd} {ad : Option Addr} {c : Nat} (h : Rd w P L a0 o0) (k : KeptR P.R w W) (l : LAt W (fun b=>B ≤ b) (.slice ad x.ks.length c) x.ks) (hB : w.heap.size < B) (r : Rd W P L a o) :
 AnsN P L o w (.ok x a) (.returned (.agg #[.int .i64 x.k,.string x.t,.int .i64 x.n,.slice ad x.ks.length c])) ((((W.setCell ⟨w.heap.size,0,none⟩ (.int .i64 x.k)).setCell ⟨w.heap.size,1,none⟩ (.string x.t)).setCell ⟨w.heap.size,2,none⟩ (.int .i64 x.n)).setCell ⟨w.heap.size,3,none⟩ (.slice ad x.ks.length c)):=by
 have hR:=h.lt
 have hbl : 0 < L.length→P.bl ≠ w.heap.size:=fun q=>by have:=h.x.lt q;omega
 exact ⟨ad,c,rfl,l.set4 hB (by omega) _ _ _ _,(((r.other (by omega) hbl _ _).other (by omega) hbl _ _).other (by omega) hbl _ _).other (by omega) hbl _ _,(((k.new le0 _ _).new le0 _ _).new le0 _ _).new le0 _ _⟩
abbrev zN : Obj:=Obj.cells #[.int .i64 0,.string ⟨#[]⟩,.int .i64 0,.slice none 0 0] 24
theorem begin_cell {w : World} {P : Pl} {L : List Tok} {a : Nat} {o : Ex} (h : Rd w P L a o) : Rd (w.alloc zN) P L a o∧KeptR P.R w (w.alloc zN)∧(w.alloc zN).heap.size=w.heap.size+1∧Hid (∀ W,KeptR P.R (w.alloc zN) W→W.heap[w.heap.size]?=some (.cells #[.int .i64 0,.string ⟨#[]⟩,.int .i64 0,.slice none 0 0] 24 (0,0))):=by
 have hb : Below w.heap.size w (w.alloc zN):=B0.alloc le0 _
 refine ⟨h.bel hb,.of hb,by simp,fun W k=>?_⟩
 exact (k.block w.heap.size (by simp) (by have:=h.lt;omega)).trans (heap_alloc_new w _)
end Go.Proofs.YthfkfbcopinmiaaGreatDoor
set_option linter.unusedVariables false
set_option linter.unusedSimpArgs false
set_option maxRecDepth 100000
set_option maxHeartbeats 8000000
namespace Go.Proofs.YthfkfbcopinmiaaGreatDoor
open Go.RowKit Go.Maps
theorem block_any {P : Pl} {L : List Tok} {o : Ex} {k : FuncId} {rs caps : Array Value} (eg : ∀ args w,(callFunc k args).run Tryz.prog w = .ok (.enter k args) w) (F : Nat→Rs Nd) (w : World) (a : Nat) (h : Rd w P L a o)
 (hmono : ∀ a x b,F a = .ok x b→a < b)
 (hT : ∀ W b,a < b→Rd W P L b o→Calls Tryz.prog k (rs ++ caps) W (AnsN P L o W (F b))) :
 Calls Tryz.prog 79 #[.pointer (some ⟨P.R,0,none⟩),.func (.func k) rs caps] w (AnsN P L o w (blockG L F a)):=by
 have hRw:=h.lt
 obtain ⟨h0,a0,z0,M0⟩:=begin_cell h
 have CW:=want_any h0 sCb
 unfold blockG
 cases hq : isS L a sCb with
 | false =>
  rw [wantR_no hq] at *
  rw [Rs.bind_bad]
  unfold AnsN
  unfold AnsU sCb at CW
  go_enter Tryz.func79,Tryz.ntmps79
  go_wp2_with (go_at_call 39;refine CW.mono ?_;rintro e W1 ⟨rfl,b1⟩)
  exact ⟨rfl,rfl,a0.trans b1⟩
 | true =>
  rw [wantR_yes hq] at *
  rw [Rs.bind_ok]
  unfold AnsU sCb at CW
  have hla:=isS_lt hq
  clear hq
  have hsm:=h.small
  have hbl0:=h.x.lt
  obtain ⟨res,hres⟩ : ∃ res,stmtsG L F (L.length+1 - (a+1)) [] (a+1)=res:=⟨_,rfl⟩
  rw [hres]
  have HRes : Hid (res=stmtsG L F (L.length+1 - (a+1)) [] (a+1)):=hres.symm
  clear hres
  obtain ⟨i0,hi0,hz0,hz1,hz2⟩:=info_parts info_nd
  have HM : Hid (∀ a x b,F a = .ok x b→a < b):=hmono
  have HT : Hid (∀ W b,a < b→Rd W P L b o→Calls Tryz.prog k (rs ++ caps) W (AnsN P L o W (F b))):=hT
  clear hmono hT
  go_enter Tryz.func79,Tryz.ntmps79
  go_wp2_with (go_at_call 39;refine CW.mono ?_;rintro e W0 ⟨rfl,r00,b00⟩)
  have s00:=b00.size
  go_loopg [5] (L.length+1 - (a+1)) (fun gk v7 wr=>∃ (b : Nat) (Lc : List (Nd × Value)),Hid (res=stmtsG L F gk (Lc.map (·.1)) b)∧Hid (L.length+1 ≤ gk+b)∧Rd wr P L b o∧Grow (w.heap.size+1) wr v7 Lc Lc.length∧Kept2 P.R P.R (w.alloc zN) wr∧Hid (a+1+Lc.length ≤ b))
  case atStart=>exact ⟨a+1,[],HRes,by show _ ≤ _;omega,r00,Grow.nil _ _,.of b00,by show _ ≤ _;simp⟩
  case round =>
   clear HRes r00 b00 CW
   obtain ⟨b,Lc,HR,HG,r0,g0,k0,hb⟩:=hrel
   have hsz:=k0.size
   have hb':=hb.out
   have hgk:=HG.out
   have hbL:=r0.le
   have CT:=take_any r0 sCc
   have B1 : Hid (∀ W,KeptR P.R wr W→Kept2 P.R P.R (w.alloc zN) W∧Grow (w.heap.size+1) W u5 Lc Lc.length):=fun W b1=>⟨k0.trans (.of b1),g0.keepB b1.size (fun j h1 h2=>b1.block j h2 (by omega))⟩
   cases hq : isS L b sCc with
   | true =>
    rw [hq] at CT
    unfold sCc at CT
    have hres : res = .ok (Lc.map (·.1)) (b+1):=by rw [HR.out];exact stmtsG_end (by omega) hq
    clear HR
    have HA : Hid (∀ e W,AnsN P L o w (.ok (mk0 52 mtT (Lc.map (·.1))) (b+1)) e W→AnsN P L o w (res.bind fun l a2=>.ok (mk0 52 mtT l) a2) e W):=fun e W q=>by rw [hres];exact q
    clear hres
    obtain ⟨ks,hks⟩ : ∃ ks,Lc.map (·.1)=ks:=⟨_,rfl⟩
    rw [hks] at HA
    have HK : Hid (Lc.map (·.1)=ks):=hks
    have hl0:=g0.lat hks
    clear hks
    obtain ⟨ad,c,hv⟩:=hl0.sl
    subst hv
    have CN:=fun W=>node_any 52 ⟨#[]⟩ ad ks.length c W
    go_wp2_with (first
     | (go_at_call 40;refine CT.mono ?_;rintro e W1 ⟨rfl,r1,b1⟩;obtain ⟨k1,g1⟩:=B1.out _ b1;have s1:=b1.size)
     | (go_at_call 42;refine (CN _).mono ?_;rintro e W2 ⟨rfl,b2⟩;have m2:=M0.out _ (k1.one.trans (.of b2));obtain ⟨⟨_,_,_,_⟩,_,_,_,_⟩:=t4 m2))
    refine bodyPost_ret (res_n4 Tryz.results79 (t4_set _ _ _ _ m2) rfl) rfl ?_
    exact HA.out _ _ (close_ok (x:=mk0 52 mtT ks) h ((a0.trans k1.one).trans (.of b2)) ((g1.bel b2).lat HK.out) (by omega) (r1.bel b2))
   | false =>
    rw [hq] at CT
    unfold sCc at CT
    cases hF : F b with
    | bad p er =>
     have hres : res = .bad p er:=by rw [HR.out];exact stmtsG_bad (by omega) hq hF
     clear HR
     have HA : Hid (∀ e W,AnsN P L o w (.bad p er) e W→AnsN P L o w (res.bind fun l a2=>.ok (mk0 52 mtT l) a2) e W):=fun e W q=>by rw [hres];exact q
     clear hres
     go_wp2_with (first
      | (go_at_call 40;refine CT.mono ?_;rintro e W1 ⟨rfl,r1,b1⟩;obtain ⟨k1,g1⟩:=B1.out _ b1;have s1:=b1.size)
      | (go_at_fn k;refine (HT.out W1 b (by omega) r1).mono ?_;rintro e W2 hA;rw [hF] at hA;obtain ⟨rfl,b2⟩:=hA))
     exact ⟨rfl,HA.out _ _ ⟨rfl,(a0.trans k1.one).trans b2⟩⟩
    | ok x a1 =>
     have HR3 : Hid (res=stmtsG L F (gk - 1) ((Lc ++ [(x,(default : Value))]).map (·.1)) a1):=by
      show _=_
      rw [HR.out,stmtsG_ok (by omega) hq hF];simp
     clear HR
     have hab:=HM.out _ _ _ hF
     go_wp2_with (first
      | (go_at_call 40;refine CT.mono ?_;rintro e W1 ⟨rfl,r1,b1⟩;obtain ⟨k1,g1⟩:=B1.out _ b1;have s1:=b1.size)
      | (go_at_fn k;refine (HT.out W1 b (by omega) r1).mono ?_;rintro e W2 hA;rw [hF] at hA;obtain ⟨ad,c,rfl,l2,r2,b2⟩:=hA;have k2:=k1.trans (.of b2);have s2:=k2.size;have g2:=g1.keepB b2.size (fun j h1 h2=>b2.block j h2 (by omega)))
      | (at_builtin;refine wpList_append_lies _ (by rfl) _ _ _ (by rfl) (w.heap.size+1) 24 i0 _ 4 56 Tryz.underlying22 hi0 hz0 hz1 hz2 rfl (by omega) _ Lc.length (rowN Lc) (by rfl) (row_bel g2.own (B0.alloc le0 _)) ⟨W2.heap.size,0,none⟩ 1 1 [.int .i64 x.k,.string x.t,.int .i64 x.n,.slice ad x.ks.length c] (by rfl) (by rfl) (World.news_of_block (cs:=#[.int .i64 x.k,.string x.t,.int .i64 x.n,.slice ad x.ks.length c]) (t:=24) (fr:=(0,0)) (heap_alloc_new W2 _)) (by simp [Value.oneCell']) (by omega) (by unfold maxLen;omega) (by omega) (by simp;omega) (W2.heap.size+1) (by simp) ?_;intro gg cap W3 hown3 hgrow hat hlt3;have g3:=g1.push' (by omega) b2.size (fun j h1 h2=>b2.block j h2 (by omega)) l2 hgrow hat hown3;have k3 : Kept2 P.R P.R (w.alloc zN) W3:=kept_push k2 hgrow (fun g e=>by rw [z0];exact (row_lt g2.own g e).1);have r3:=rd_push r2 hgrow (fun g e=>(row_lt g2.own g e).1) (by omega) (fun q=>by have:=hbl0 q;omega)))
     go_roundg (gk - 1)
     case rel=>exact ⟨a1,Lc ++ [(x,Value.slice ad x.ks.length c)],by show _=_;rw [HR3.out,List.map_append,List.map_append];rfl,by show _ ≤ _;omega,r3,by simpa using g3,k3,by show _ ≤ _;simp;omega⟩
     case measure=>omega
end Go.Proofs.YthfkfbcopinmiaaGreatDoor
