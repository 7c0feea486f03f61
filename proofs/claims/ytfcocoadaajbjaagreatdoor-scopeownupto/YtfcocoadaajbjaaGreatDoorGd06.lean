/- Own text. Package scope: the sizes of all places. Uses and tops as they lie in memory. Regions that draw their order: order by order;what loads from a block which nobody writes ahead of a certain operation is taken first. -/
import Derived.Test.YtfcocoadaajbjaaGreatDoorGd05
import Derived.Deep.AppendLies
import Derived.Deep.RegionLaw
import Derived.Laws.EntriesVeiled
import Derived.Test.YtfcocoadaajbjaaGreatDoorGd04
import Derived.OrdersHeld
import Derived.Deep.RegionHeld3
import Derived.OrdersIn
import Derived.TacticsIn
import Derived.RangeFuncCalls
set_option linter.unusedVariables false
set_option linter.unusedSimpArgs false
set_option maxRecDepth 100000
set_option maxHeartbeats 8000000
namespace Go.Proofs.YtfcocoadaajbjaaGreatDoor
open Go.RowKit Go.MapKept
theorem gl {w : World} {k : Nat} {o : Obj} (h : w.heap[k]?=some o) : k < w.heap.size:=(Array.getElem?_eq_some_iff.1 h).1
structure Kpt (M : Nat→Prop) (w w' : World) : Prop where
 os : w'.os=w.os
 tape : w'.tape=w.tape
 output : w'.output=w.output
 size : w.heap.size ≤ w'.heap.size
 block : ∀ k,k < w.heap.size→¬ M k→w'.heap[k]?=w.heap[k]?
theorem Kpt.refl (M : Nat→Prop) (w : World) : Kpt M w w:=⟨rfl,rfl,rfl,Nat.le_refl _,fun _ _ _=>rfl⟩
theorem Kpt.trans {M N : Nat→Prop} {a b c : World} (h : Kpt M a b) (k : Kpt N b c) (hN : ∀ i,i < a.heap.size→N i→M i) : Kpt M a c :=
 ⟨k.os.trans h.os,k.tape.trans h.tape,k.output.trans h.output,Nat.le_trans h.size k.size,fun i hi hm=>(k.block i (Nat.lt_of_lt_of_le hi h.size) (fun q=>hm (hN i hi q))).trans (h.block i hi hm)⟩
theorem Kpt.of {M : Nat→Prop} {a b : World} (h : Below a.heap.size a b) : Kpt M a b:=⟨h.os,h.tape,h.output,h.size,fun k hk _=>h.block k hk⟩
theorem Kpt.bel {M : Nat→Prop} {B : Nat} {a b : World} (h : Kpt M a b) (hB : B ≤ a.heap.size) (hM : ∀ k,k < B→¬ M k) : Below B a b:=⟨h.os,h.tape,h.output,h.size,fun k hk=>h.block k (Nat.lt_of_lt_of_le hk hB) (hM k hk)⟩
theorem Kpt.grown {M : Nat→Prop} {a b : World} {r : Option Nat} (h : a.grownBy b r) (hM : ∀ k,r=some k→M k) : Kpt M a b:=⟨h.os,h.tape,h.output,h.size,fun k hk hm=>h.block k hk (fun e=>hm (hM k e.symm))⟩
theorem Kpt.set {M : Nat→Prop} (w : World) (b o : Nat) (v : Value) (hM : M b) : Kpt M w (w.setCell ⟨b,o,none⟩ v):=⟨rfl,rfl,rfl,by simp [World.setCell],fun k hk hm=>Below.heap_setCell _ _ _ _ (fun e=>hm (by have e : k=b:=e;rw [e];exact hM))⟩
theorem Kpt.drew {M : Nat→Prop} {a b : World} (h : Kpt M a b) : Kpt M a b.drew:=⟨h.os,h.tape,h.output,h.size,h.block⟩
theorem rw_keep {w w' : World} {base : Nat} {e : TypeId} {size : Nat} {v : Value} {n : Nat} {xs : List Value} (h : w.ownsRow base e size v n xs) (k : ∀ b,v.ownBlock=some b→w'.heap[b]?=w.heap[b]?) : w'.ownsRow base e size v n xs:=by
 obtain ⟨h1,h2⟩:=h
 refine ⟨h1,h2.imp id ?_⟩
 rintro ⟨g,cap,cur,e1,q1,q2,q3⟩
 exact ⟨g,cap,cur,e1,q1,(k g (by rw [e1];rfl)).trans q2,q3⟩
theorem rw_lt {w : World} {base : Nat} {e : TypeId} {size : Nat} {v : Value} {n : Nat} {xs : List Value} (h : w.ownsRow base e size v n xs) (b : Nat) (hb : v.ownBlock=some b) : base ≤ b∧b < w.heap.size:=World.ownsRow.lt h b hb
theorem rw_form {w : World} {base : Nat} {e : TypeId} {size : Nat} {v : Value} {n : Nat} {xs : List Value} (h : w.ownsRow base e size v n xs) : ∃ A c,v = .slice A n c:=by
 obtain ⟨h1,h2⟩:=h
 rcases h2 with ⟨rfl,rfl⟩ | ⟨g,cap,cur,e1,_⟩
 ·exact ⟨_,_,rfl⟩
 ·exact ⟨_,_,e1⟩
def iV (l : List Nat) : List Value:=l.map fun x=>.int .i64 (x : Nat)
mutual
def szN : Nd→List Nat
 | .mk k t n ks=>(1+sizes ks) :: szL ks
def szL : List Nd→List Nat
 | []=>[]
 | a :: r=>szN a ++ szL r
end
theorem info_intS : (Tryz.prog.info? 3).map (fun i=>(i.zero,i.size,i.bytes))=some (some (.int .i64 0),1,8):=by kernel_rfl
structure Cn (W : World) (B lb cb : Nat) (vl : Value) (L : List Nat) : Prop where
 l : W.heap[lb]?=some (.cells #[vl] 40 (0,0))
 c : ∃ t,W.heap[cb]?=some (.cells #[.func (.func 56) #[] #[.pointer (some ⟨lb,0,none⟩),.pointer (some ⟨cb,0,none⟩)]] t (0,0))
 own : W.ownsRow B 3 1 vl L.length (iV L)
 hl : lb < B
 hc : cb < B
 ne : lb ≠ cb
theorem szN_eq (x : Nd) : szN x=x.size :: szL x.ks:=by cases x;rw [szN,Nd.size_eq];rfl
theorem szL_app : ∀ a b : List Nd,szL (a ++ b)=szL a ++ szL b
 | [],b=>by rw [szL];rfl
 | x :: a,b=>by rw [List.cons_append,szL,szL,szL_app a b,List.append_assoc]
theorem szL_len : ∀ l : List Nd,(∀ x ∈ l,(szN x).length=x.size)→(szL l).length=sizes l
 | [],_=>by rw [szL,sizes_nil];rfl
 | x :: l,h=>by rw [szL,sizes_cons,List.length_append,h x (by simp),szL_len l (fun y hy=>h y (by simp [hy]))]
theorem szN_len (x : Nd) : (szN x).length=x.size:=by
 induction x using Nd.ind with
 | h x ih=>rw [szN_eq,List.length_cons,szL_len _ ih,Nd.size_eq];omega
theorem szL_len' (l : List Nd) : (szL l).length=sizes l:=szL_len l fun x _=>szN_len x
theorem szL_take (l : List Nd) {i : Nat} (h : i < l.length) : szL (l.take (i+1))=szL (l.take i) ++ szN l[i]:=by
 rw [List.take_succ_eq_append_getElem h,szL_app,szL,szL,List.append_nil]
theorem iV_app (a b : List Nat) : iV (a ++ b)=iV a ++ iV b:=by unfold iV;simp
theorem Cn.bel {W W' : World} {B lb cb : Nat} {vl : Value} {L : List Nat} (h : Cn W B lb cb vl L) (b : Below W.heap.size W W') (hB : B ≤ W.heap.size) : Cn W' B lb cb vl L:=by
 obtain ⟨t,hc⟩:=h.c
 have h1:=h.hl
 have h2:=h.hc
 exact ⟨(b.block lb (by omega)).trans h.l,⟨t,(b.block cb (by omega)).trans hc⟩,rw_keep h.own fun k hk=>b.block k (rw_lt h.own k hk).2,h1,h2,h.ne⟩
theorem Cn.cells {W : World} {B lb cb : Nat} {vl : Value} {L : List Nat} (h : Cn W B lb cb vl L) : W.cell? ⟨lb,0,none⟩=some vl∧W.frozen? ⟨lb,0,none⟩=false∧W.cell? ⟨cb,0,none⟩=some (.func (.func 56) #[] #[.pointer (some ⟨lb,0,none⟩),.pointer (some ⟨cb,0,none⟩)]):=by
 obtain ⟨t,hc⟩:=h.c
 have hl:=h.l
 simp [World.cell?,World.frozen?,hl,hc]
theorem Cn.push {W W1 W3 : World} {B lb cb : Nat} {vl : Value} {L : List Nat} {gg cap n : Nat} (h : Cn W B lb cb vl L) (hB : B ≤ W.heap.size) (b : Below W.heap.size W W1)
 (r1 : W3.ownsRow B 3 1 (.slice (some ⟨gg,0,none⟩) (L.length+1) cap) (L.length+1) (iV L ++ [.int .i64 (n : Nat)])) (r2 : W1.grownBy W3 vl.ownBlock) (r3 : vl.ownBlock=some gg ∨ gg=W1.heap.size) :
 Cn (W3.setCell ⟨lb,0,none⟩ (.slice (some ⟨gg,0,none⟩) (L.length+1) cap)) B lb cb (.slice (some ⟨gg,0,none⟩) (L.length+1) cap) (L ++ [n])∧Kpt (fun k=>k=lb ∨ vl.ownBlock=some k) W (W3.setCell ⟨lb,0,none⟩ (.slice (some ⟨gg,0,none⟩) (L.length+1) cap)) ∧
  ∀ k,(Value.slice (some ⟨gg,0,none⟩) (L.length+1) cap).ownBlock=some k→vl.ownBlock=some k ∨ W.heap.size ≤ k:=by
 obtain ⟨t,hc⟩:=h.c
 have h1:=h.hl
 have h2:=h.hc
 have s1:=b.size
 have ne : ∀ k,k < B→some k ≠ vl.ownBlock:=fun k hk e=>by have:=(rw_lt h.own k e.symm).1;omega
 have gB : B ≤ gg:=by
  rcases r3 with e | e
  ·exact (rw_lt h.own gg e).1
  ·omega
 have kp : Kpt (fun k=>k=lb ∨ vl.ownBlock=some k) W W3:=(Kpt.of b).trans (Kpt.grown (M:=fun k=>k=lb ∨ vl.ownBlock=some k) r2 (fun k e=>.inr e)) (fun _ _ q=>q)
 refine ⟨⟨?_,⟨t,?_⟩,?_,h1,h2,h.ne⟩,kp.trans (Kpt.set (M:=fun k=>k=lb ∨ vl.ownBlock=some k) _ _ _ _ (.inl rfl)) (fun _ _ q=>q),fun k e=>?_⟩
 ·have : W3.heap[lb]?=some (.cells #[vl] 40 (0,0)):=(r2.block lb (by omega) (ne lb h1)).trans ((b.block lb (by omega)).trans h.l)
  simp [World.setCell,Array.getElem?_modify,this]
 ·exact (Below.heap_setCell _ _ _ _ (fun e=>h.ne (by have e : cb=lb:=e;exact e.symm))).trans ((r2.block cb (by omega) (ne cb h2)).trans ((b.block cb (by omega)).trans hc))
 ·have r1' : W3.ownsRow B 3 1 (.slice (some ⟨gg,0,none⟩) (L.length+1) cap) (L ++ [n]).length (iV (L ++ [n])):=by
   rw [iV_app,List.length_append];exact r1
  refine rw_keep r1' fun k hk=>Below.heap_setCell _ _ _ _ (fun e=>?_)
  have hk : gg=k:=by simpa [Value.ownBlock] using hk
  have e : k=lb:=e
  omega
 ·have e : gg=k:=by simpa [Value.ownBlock] using e
  subst e
  rcases r3 with e | e
  ·exact .inl e
  ·exact .inr (by omega)
theorem Cn.put {W : World} {B lb cb : Nat} {vl : Value} {L M : List Nat} {a n : Nat} {gg cap : Nat} (h : Cn W B lb cb (.slice (some ⟨gg,0,none⟩) (L ++ a :: M).length cap) (L ++ a :: M)) :
 Cn (W.setCell ⟨gg,L.length,none⟩ (.int .i64 (n : Nat))) B lb cb (.slice (some ⟨gg,0,none⟩) (L ++ a :: M).length cap) (L ++ n :: M):=by
 obtain ⟨t,hc⟩:=h.c
 have h1:=h.hl
 have h2:=h.hc
 have hg:=(rw_lt h.own gg rfl).1
 obtain ⟨q1,q2⟩:=World.ownsRow.stored h.own L.length (.int .i64 (n : Nat))
 refine ⟨(Below.heap_setCell _ _ _ _ (fun e=>by have e : lb=gg:=e;omega)).trans h.l,⟨t,(Below.heap_setCell _ _ _ _ (fun e=>by have e : cb=gg:=e;omega)).trans hc⟩,?_,h1,h2,h.ne⟩
 have e1 : (iV (L ++ a :: M)).set L.length (.int .i64 (n : Nat))=iV (L ++ n :: M):=by
  unfold iV
  rw [← List.map_set,List.set_append_right _ _ (Nat.le_refl _),Nat.sub_self]
  rfl
 rw [e1] at q1
 have e2 : (L ++ n :: M).length=(L ++ a :: M).length:=by simp
 rw [e2]
 exact q1
theorem count_any {B lb cb : Nat} (x : Nd) : ∀ (W : World) (vl : Value) (L : List Nat) (v : Value),Cn W B lb cb vl L→B ≤ W.heap.size→LAt W (fun b=>b < lb) v x.ks→L.length+x.size ≤ 4194304 →
 Calls Tryz.prog 56 #[x.v v,.pointer (some ⟨lb,0,none⟩),.pointer (some ⟨cb,0,none⟩)] W fun e W'=>∃ vl',e = .returned (.tuple #[])∧Cn W' B lb cb vl' (L ++ szN x)∧Kpt (fun k=>k=lb ∨ vl.ownBlock=some k) W W'∧∀ k,vl'.ownBlock=some k→vl.ownBlock=some k ∨ W.heap.size ≤ k:=by
 induction x using Nd.ind with
 | h x ih =>
  intro W vl L v hC hB hx hz
  obtain ⟨i0,hi,hz0,hz1,hz2⟩:=info_parts info_intS
  obtain ⟨ax,cx,bx,ox,fx,rfl,px,qx,rx⟩:=hx.op
  have zs:=x.size_eq
  have lx:=sizes_len x.ks
  obtain ⟨W0,hW0⟩ : ∃ X,W.alloc (Obj.cells #[.int .i64 x.k,.string x.t,.int .i64 x.n,.slice ax x.ks.length cx] 24)=X:=⟨_,rfl⟩
  have b0 : Below W.heap.size W W0:=by rw [← hW0];exact bel_a _ _
  have HS0 : Hid (W0.heap.size=W.heap.size+1):=by show _=_;rw [← hW0];simp
  have m0 : W0.heap[W.heap.size]?=some (.cells #[.int .i64 x.k,.string x.t,.int .i64 x.n,.slice ax x.ks.length cx] 24 (0,0)):=by rw [← hW0];exact hnew _ rfl
  have hC0:=hC.bel b0 hB
  have hB0 : B ≤ W0.heap.size:=by have:=b0.size;omega
  obtain ⟨A,c,rfl⟩:=rw_form hC.own
  obtain ⟨c1,c2,c3⟩:=hC0.cells
  have own1:=World.ownsRow.alloc hC0.own (.cells #[.int .i64 0] 3)
  have hn0:=hC.own
  have HP : Hid (∀ gg cap W3,W3.ownsRow B 3 1 (.slice (some ⟨gg,0,none⟩) (L.length+1) cap) (L.length+1) (iV L ++ [.int .i64 ((0 : Nat) : Int)])→(W0.alloc (.cells #[.int .i64 0] 3)).grownBy W3 (Value.slice A L.length c).ownBlock→((Value.slice A L.length c).ownBlock=some gg ∨ gg=W0.heap.size+1) →
   W3.cell? ⟨lb,0,none⟩=some (.slice A L.length c)∧W3.frozen? ⟨lb,0,none⟩=false∧(W3.setCell ⟨lb,0,none⟩ (.slice (some ⟨gg,0,none⟩) (L.length+1) cap)).cell? ⟨W.heap.size,3,none⟩=some (.slice ax x.ks.length cx) ∧
   Cn (W3.setCell ⟨lb,0,none⟩ (.slice (some ⟨gg,0,none⟩) (L.length+1) cap)) B lb cb (.slice (some ⟨gg,0,none⟩) (L.length+1) cap) (L ++ [0])∧Kpt (fun k=>k=lb ∨ (Value.slice A L.length c).ownBlock=some k) W (W3.setCell ⟨lb,0,none⟩ (.slice (some ⟨gg,0,none⟩) (L.length+1) cap)) ∧
   ∀ k,(Value.slice (some ⟨gg,0,none⟩) (L.length+1) cap).ownBlock=some k→(Value.slice A L.length c).ownBlock=some k ∨ W.heap.size ≤ k):=by
   intro gg cap W3 r1 r2 r3
   have bb : Below W.heap.size W (W0.alloc (.cells #[.int .i64 0] 3)):=b0.alloc b0.size _
   obtain ⟨k1,k2,k3⟩:=hC.push (n:=0) hB bb r1 r2 (r3.imp id (fun e=>by rw [e];simp))
   have hl1:=hC.hl
   have e1 : W3.heap[lb]?=some (.cells #[.slice A L.length c] 40 (0,0)):=(r2.block lb (by have:=bb.size;omega) (fun e=>by have:=(rw_lt hC.own lb e.symm).1;omega)).trans ((bb.block lb (by omega)).trans hC.l)
   have e2 : (W3.setCell ⟨lb,0,none⟩ (.slice (some ⟨gg,0,none⟩) (L.length+1) cap)).heap[W.heap.size]?=some (.cells #[.int .i64 x.k,.string x.t,.int .i64 x.n,.slice ax x.ks.length cx] 24 (0,0)):=by
    refine (Below.heap_setCell _ _ _ _ (fun e=>by have e : W.heap.size=lb:=e;omega)).trans ((r2.block _ (by have:=HS0.out;simp;omega) (fun e=>by have:=(rw_lt hC.own _ e.symm).2;omega)).trans ?_)
    exact hold _ (by have:=HS0.out;omega) m0
   refine ⟨?_,?_,(box4 e2).1.2.2.2,k1,k2,k3⟩
   ·simp [World.cell?,e1]
   ·simp [World.frozen?,e1]
  clear hC0 m0
  unfold Nd.v
  go_enter Tryz.func56,Tryz.ntmps56
  go_wp2_with (at_builtin;refine wpList_append_lies _ (by rfl) _ _ _ (by rfl) B 3 i0 _ 1 8 Tryz.underlying40 hi hz0 hz1 hz2 rfl (by omega) _ L.length (iV L) (by rfl) own1 ⟨W0.heap.size,0,none⟩ 1 1 [.int .i64 0] (by rfl) (by rfl) (World.news_of_block (cs:=#[.int .i64 0]) (t:=3) (fr:=(0,0)) (hnew _ rfl)) (by simp [Value.oneCell']) (by omega) (by unfold maxLen;omega) (by omega) (by simp;omega) (W0.heap.size+1) (by simp) ?_;intro gg cap W3 r1 r2 r3 r4;obtain ⟨d1,d2,d3,hC1,kp1,ow1⟩:=HP.out gg cap W3 r1 r2 r3)
  go_loopw [15] (fun i wr=>∃ (j : Nat) (vj : Value),i = .int .i64 (j : Nat)∧j ≤ x.ks.length∧Cn wr B lb cb vj (L ++ 0 :: szL (x.ks.take j))∧Kpt (fun k=>k=lb ∨ (Value.slice A L.length c).ownBlock=some k) W wr∧Hid (∀ k,vj.ownBlock=some k→(Value.slice A L.length c).ownBlock=some k ∨ W.heap.size ≤ k)) (fun i _=>x.ks.length - (intOf i).toNat)
  case atStart=>exact ⟨0,_,rfl,by omega,by rw [List.take_zero,szL];exact hC1,kp1,ow1⟩
  case round =>
   clear hC1 kp1 ow1 d1 d2 d3 r1 r2 r3 r4 HP own1 c1 c2 c3
   obtain ⟨j,vj,rfl,hj,hCj,kpj,owj⟩:=hrel
   have hBj : B ≤ wr.heap.size:=by have:=kpj.size;omega
   have hsz:=kpj.size
   have ll : (L ++ 0 :: szL (x.ks.take j)).length=L.length+1+sizes (x.ks.take j):=by rw [List.length_append,List.length_cons,szL_len'];omega
   have tl:=take_sizes_le x.ks j
   by_cases hjl : j < x.ks.length
   ·obtain ⟨rfl,hSx,hbx⟩:=px (by omega)
    have hl1:=hC.hl
    have Hbel : Hid (∀ b,b < lb→wr.heap[b]?=W.heap[b]?):=fun b hb=>kpj.block b (by omega) (fun q=>by
     rcases q with q | q
     ·omega
     ·have:=(rw_lt hC.own b q).1;omega)
    have HS : Hid (szL (x.ks.take (j+1))=szL (x.ks.take j) ++ szN x.ks[j]):=szL_take x.ks hjl
    have HZ : Hid (sizes (x.ks.take (j+1))=sizes (x.ks.take j)+x.ks[j].size):=take_sizes x.ks hjl
    have hle:=take_sizes_le x.ks (j+1)
    rw [HZ.out] at hle
    obtain ⟨u1,u2,u3,u4⟩:=(qx j hjl).of_block (Hbel.out bx hSx)
    have gx : LAt wr (fun b=>b < lb) (fx j) x.ks[j].ks:=(rx j hjl).keep hsz (fun b hb _=>Hbel.out b hb)
    obtain ⟨ak,ck,hfk⟩:=gx.sl
    rw [hfk] at u4 gx
    obtain ⟨WB,hWB⟩ : ∃ X,wr.alloc (Obj.cells #[.int .i64 x.ks[j].k,.string x.ks[j].t,.int .i64 x.ks[j].n,.slice ak x.ks[j].ks.length ck] 24)=X:=⟨_,rfl⟩
    have bB : Below wr.heap.size wr WB:=by rw [← hWB];exact bel_a _ _
    have mB : WB.heap[wr.heap.size]?=some (.cells #[.int .i64 x.ks[j].k,.string x.ks[j].t,.int .i64 x.ks[j].n,.slice ak x.ks[j].ks.length ck] 24 (0,0)):=by rw [← hWB];exact hnew _ rfl
    have hCB:=hCj.bel bB hBj
    obtain ⟨c1,c2,c3⟩:=hCB.cells
    obtain ⟨⟨e0,e1,e2,e3⟩,_⟩:=box4 mB
    have CI:=ih x.ks[j] (List.getElem_mem hjl) WB vj (L ++ 0 :: szL (x.ks.take j)) (.slice ak x.ks[j].ks.length ck) hCB (by have:=bB.size;omega) (gx.bel bB) (by rw [ll];omega)
    have HN : Hid (∀ W' vl',Cn W' B lb cb vl' (L ++ 0 :: szL (x.ks.take j) ++ szN x.ks[j])→Cn W' B lb cb vl' (L ++ 0 :: szL (x.ks.take (j+1)))):=fun W' vl' h=>by
     have e : L ++ 0 :: szL (x.ks.take (j+1))=L ++ 0 :: szL (x.ks.take j) ++ szN x.ks[j]:=by rw [HS.out];simp
     rw [e];exact h
    clear hCB hCj gx mB ll HS HZ hle tl Hbel hfk
    generalize x.ks[j]=xk at *
    unfold Nd.v at CI
    go_wp2_with (go_at_call 56;refine CI.mono ?_;rintro e W5 ⟨vl5,rfl,hC5,kp5,ow5⟩)
    go_roundw
    case rel =>
     refine ⟨j+1,vl5,by simp,by omega,HN.out _ _ hC5,kpj.trans ((Kpt.of bB).trans kp5 (fun _ _ q=>q)) (fun k hk q=>?_),fun k hk=>?_⟩
     ·rcases q with q | q
      ·exact .inl q
      ·rcases owj.out k q with q | q
       ·exact .inr q
       ·omega
     ·rcases ow5 k hk with q | q
      ·exact owj.out k q
      ·have:=bB.size;exact .inr (by omega)
    case measure=>simp [intOf];omega
   ·have e : x.ks.take j=x.ks:=List.take_of_length_le (by omega)
    rw [e] at hCj ll
    obtain ⟨g,hv⟩ : ∃ g cap,vj = .slice (some ⟨g,0,none⟩) (L ++ 0 :: szL x.ks).length cap:=by
     obtain ⟨q1,q2⟩:=hCj.own
     rcases q2 with ⟨e1,e2⟩ | ⟨g,cap,cur,e1,_⟩
     ·rw [ll] at e2;omega
     ·exact ⟨g,cap,e1⟩
    obtain ⟨cap,rfl⟩:=hv
    have HC2 : Hid (Cn (wr.setCell ⟨g,L.length,none⟩ (.int .i64 (x.size : Nat))) B lb cb (.slice (some ⟨g,0,none⟩) (L ++ 0 :: szL x.ks).length cap) (L ++ szN x)):=by rw [szN_eq];exact hCj.put (vl:=.slice none 0 0)
    have HM : Hid (g=lb ∨ (Value.slice A L.length c).ownBlock=some g ∨ W.heap.size ≤ g):=.inr (owj.out g rfl)
    obtain ⟨c1,c2,c3⟩:=hCj.cells
    have f1:=World.ownsRow.frozenAt hCj.own L.length
    have f2 : ∃ u,wr.cell? ⟨g,L.length,none⟩=some u:=⟨_,by rw [World.ownsRow.cellAt hCj.own L.length (by rw [ll];omega)];unfold iV;rw [List.getElem?_map,List.getElem?_append_right (Nat.le_refl _),Nat.sub_self];rfl⟩
    obtain ⟨u,f2⟩:=f2
    rw [ll] at c1 HC2
    have hzx : L.length+1+sizes x.ks=L.length+x.size:=by omega
    rw [hzx] at c1 HC2
    have hlt : L.length < L.length+x.size:=by omega
    have hsub : ((L.length+x.size : Nat) : Int) - (L.length : Int)=(x.size : Int):=by omega
    clear hCj ll tl e hzx zs lx
    go_wp2
    go_end0
    have e3 : ((L.length : Int)+(x.size : Int) - (L.length : Int))=((x.size : Nat) : Int):=by omega
    rw [e3]
    refine ⟨_,rfl,HC2.out,kpj.trans (Kpt.set (M:=fun k=>k=g) _ _ _ _ rfl) (fun k hk q=>?_),owj.out⟩
    subst q
    rcases owj.out k rfl with q | q
    ·exact .inr q
    ·omega
theorem sizes_any (x : Nd) (w : World) (S : Nat→Prop) (v : Value) (hx : LAt w S v x.ks) (hz : x.size ≤ 4194304) :
 Calls Tryz.prog 32 #[x.v v] w fun e w'=>∃ v',e = .returned v'∧w'.ownsRow w.heap.size 3 1 v' x.size (iV (szN x))∧Below w.heap.size w w':=by
 obtain ⟨ax,cx,rfl⟩:=hx.sl
 obtain ⟨W2,hW2⟩ : ∃ X,((w.alloc (Obj.cells #[.int .i64 x.k,.string x.t,.int .i64 x.n,.slice ax x.ks.length cx] 24)).alloc (Obj.cells #[.slice none 0 0] 40)).alloc (Obj.cells #[Value.nilFunc] 102)=X:=⟨_,rfl⟩
 have b2 : Below w.heap.size w W2:=by rw [← hW2];exact ((bel_a _ _).alloc (by simp) _).alloc (by simp;omega) _
 have HS2 : Hid (W2.heap.size=w.heap.size+3):=by show _=_;rw [← hW2];simp
 have m0 : W2.heap[w.heap.size]?=some (.cells #[.int .i64 x.k,.string x.t,.int .i64 x.n,.slice ax x.ks.length cx] 24 (0,0)):=by rw [← hW2];exact hold _ (by simp;omega) (hold _ (by simp) (hnew _ rfl))
 have m1 : W2.heap[w.heap.size+1]?=some (.cells #[.slice none 0 0] 40 (0,0)):=by rw [← hW2];exact hold _ (by simp) (hnew _ (by simp))
 have m2 : W2.heap[w.heap.size+1+1]?=some (.cells #[Value.nilFunc] 102 (0,0)):=by rw [← hW2];exact hnew _ (by simp)
 have d1 : W2.cell? ⟨w.heap.size+1+1,0,none⟩=some .nilFunc:=by simp [World.cell?,m2]
 have d2 : W2.frozen? ⟨w.heap.size+1+1,0,none⟩=false:=by simp [World.frozen?,m2]
 obtain ⟨W3,hW3⟩ : ∃ X,W2.setCell ⟨w.heap.size+1+1,0,none⟩ (.func (.func 56) #[] #[.pointer (some ⟨w.heap.size+1,0,none⟩),.pointer (some ⟨w.heap.size+1+1,0,none⟩)])=X:=⟨_,rfl⟩
 have HS3 : Hid (W3.heap.size=w.heap.size+3):=by show _=_;rw [← hW3];simp [World.setCell];exact HS2.out
 have b3 : Below w.heap.size w W3:=by rw [← hW3];exact b2.setCell (by simp;omega) _
 have ne : ∀ k,k ≠ w.heap.size+1+1→W3.heap[k]?=W2.heap[k]?:=fun k hk=>by rw [← hW3];exact Below.heap_setCell _ _ _ _ hk
 have hC : Cn W3 (w.heap.size+3) (w.heap.size+1) (w.heap.size+1+1) (.slice none 0 0) []:=by
  refine ⟨(ne _ (by omega)).trans m1,⟨102,?_⟩,World.ownsRow_nil _ _ _ _,by omega,by omega,by omega⟩
  rw [← hW3]
  simp [World.setCell,Array.getElem?_modify,m2]
 obtain ⟨c1,c2,c3⟩:=hC.cells
 obtain ⟨⟨e0,e1,e2,e3⟩,_⟩:=box4 ((ne w.heap.size (by omega)).trans m0)
 have CI:=count_any x W3 (.slice none 0 0) [] (.slice ax x.ks.length cx) hC (by have:=HS3.out;omega) ((hx.mono' (T:=fun b=>b < w.heap.size+1) (fun b hb _=>by omega)).bel b3) (by simpa using hz)
 clear hC m0 m1 m2 ne
 unfold Nd.v at CI ⊢
 go_enter Tryz.func32,Tryz.ntmps32
 go_wp2_with (go_at_call 56;refine CI.mono ?_;rintro e W5 ⟨vl5,rfl,hC5,kp5,ow5⟩;obtain ⟨c4,c5,c6⟩:=hC5.cells)
 go_ret
 refine ⟨_,rfl,?_,?_⟩
 ·have:=hC5.own
  rw [List.nil_append,szN_len] at this
  obtain ⟨h1,h2⟩:=this
  refine ⟨h1,h2.imp id ?_⟩
  rintro ⟨g,cap,cur,q1,q2,q3⟩
  exact ⟨g,cap,cur,q1,by omega,q3⟩
 ·refine b3.trans (kp5.bel (by have:=HS3.out;omega) (fun k hk q=>?_))
  rcases q with q | q
  ·omega
  ·simp [Value.ownBlock] at q
def Us.cs (u : Us) : List Value:=[.int .i64 u.at_,.int .i64 u.kd,.int .i64 u.dc,.string u.nm,.bool u.ty]
def usV (U : List Us) : List Value:=U.flatMap Us.cs
theorem usV_app (a b : List Us) : usV (a ++ b)=usV a ++ usV b:=by unfold usV;simp
theorem info_us : (Tryz.prog.info? 37).map (fun i=>(i.zero,i.size,i.bytes))=some (some (.agg #[.int .i64 0,.int .i64 0,.int .i64 0,.string ByteArray.empty,.bool false]),5,48):=by kernel_rfl
theorem own_cells {w : World} {base : Nat} {e : TypeId} {size : Nat} {v : Value} {n : Nat} {xs : List Value} (h : w.ownsRow base e size v n xs) {g : Nat} (hg : v.ownBlock=some g) : ∃ cur,w.heap[g]?=some (.cells cur e (0,0)):=by
 obtain ⟨h1,h2⟩:=h
 rcases h2 with ⟨rfl,rfl⟩ | ⟨g',cap,cur,e1,q1,q2,q3⟩
 ·cases hg
 ·subst e1
  have hg : g'=g:=by simpa [Value.ownBlock] using hg
  subst hg
  exact ⟨cur,q2⟩
def Tp.cs (t : Tp) : List Value:=[.string t.nm,.int .i64 t.kd,.int .i64 t.at_,.int .i64 t.it,.bool t.cn]
def tpV (T : List Tp) : List Value:=T.flatMap Tp.cs
theorem tpV_app (a b : List Tp) : tpV (a ++ b)=tpV a ++ tpV b:=by unfold tpV;simp
theorem info_tp : (Tryz.prog.info? 43).map (fun i=>(i.zero,i.size,i.bytes))=some (some (.agg #[.string ByteArray.empty,.int .i64 0,.int .i64 0,.int .i64 0,.bool false]),5,48):=by kernel_rfl
end Go.Proofs.YtfcocoadaajbjaaGreatDoor
set_option linter.unusedVariables false
set_option linter.unusedSimpArgs false
namespace Go.Proofs.YtfcocoadaajbjaaGreatDoor
open Go.RowKit
section
variable {PP : Program} {md : Region.Mode} {ops : Array Oper} {Q : Exit→Act→World→Prop}
def chainB (md : Region.Mode) (ops : Array Oper) : Array Bool→List Nat→Bool
 | listed,[]=>Region.ready md ops listed == []
 | listed,i :: is=>(Region.ready md ops listed == [i]) && chainB md ops (listed.setIfInBounds i true) is
theorem wpOp_list {i : Nat} {o : Oper} {rest : List Oper} {a : Act} {w : World} (ho : ops[i]?=some o) (h : wpList PP ops Q (o :: rest) a w) : wpOp PP ops Q i (wpList PP ops Q rest) a w:=by
 unfold wpOp
 rw [ho]
 unfold wpList at h
 exact h
theorem wpAny_chain : ∀ (os : List Oper) (is : List Nat) (fuel : Nat) (listed : Array Bool) (a : Act) (w : World),chainB md ops listed is=true→is.map (ops[·]?)=os.map some→is.length ≤ fuel→wpList PP ops Q os a w→wpAny PP md ops Q fuel listed a w
 | [],[],fuel,listed,a,w,hc,_,_,h=>by
  have hr : Region.ready md ops listed=[]:=by simpa [chainB] using hc
  cases fuel with
  | zero=>exact ⟨hr,h⟩
  | succ f=>exact ⟨fun _=>h,fun i hi=>by rw [hr] at hi;cases hi⟩
 | o :: os,i :: is,fuel,listed,a,w,hc,hm,hf,h=>by
  obtain ⟨f,rfl⟩ : ∃ f,fuel=f+1:=⟨fuel - 1,by simp at hf;omega⟩
  have hc' : Region.ready md ops listed=[i]∧chainB md ops (listed.setIfInBounds i true) is=true:=by simpa [chainB] using hc
  simp only [List.map_cons,List.cons.injEq] at hm
  refine ⟨fun h0=>(by rw [hc'.1] at h0;cases h0),fun j hj=>?_⟩
  rw [hc'.1] at hj
  obtain rfl : j=i:=by simpa using hj
  exact wpOp_mono (fun a' w' h'=>wpAny_chain os is f _ a' w' hc'.2 hm.2 (by simpa using hf) h') (wpOp_list hm.1 h)
 | [],_ :: _,_,_,_,_,_,hm,_,_=>by cases hm
 | _ :: _,[],_,_,_,_,_,hm,_,_=>by cases hm
end
section
variable {PP : Program} {ops : Array Oper} {Q : Exit→Act→World→Prop} {md : Region.Mode} {S : World→Prop} {u : Nat}
def wpAnyU (PP : Program) (md : Region.Mode) (ops : Array Oper) (Q : Exit→Act→World→Prop) (S : World→Prop) (u : Nat) : Nat→Array Bool→Act→World→Prop
 | 0,listed,a,w=>Region.ready md ops listed=[]∧Q .normal a w
 | fuel+1,listed,a,w=>(Region.ready md ops listed=[]→Q .normal a w)∧∀ i ∈ Region.ready md ops listed,wpOp PP ops Q i (fun a' w'=>if i=u then wpAny PP md ops Q fuel (listed.setIfInBounds i true) a' w' else S w'∧wpAnyU PP md ops Q S u fuel (listed.setIfInBounds i true) a' w') a w
theorem any_of_U : ∀ (fuel : Nat) (listed : Array Bool) (a : Act) (w : World),wpAnyU PP md ops Q S u fuel listed a w→wpAny PP md ops Q fuel listed a w
 | 0,_,_,_,h=>h
 | fuel+1,_,_,_,h=>⟨h.1,fun i hi=>wpOp_mono (fun a' w' h'=>by
  split at h'
  ·exact h'
  ·exact any_of_U fuel _ a' w' h'.2) (h.2 i hi)⟩
def waits (md : Region.Mode) (ops : Array Oper) (u i : Nat) : Bool:=match ops[u]? with
 | some o=>o.after.any fun e=>Region.binds md e && e.on == i
 | none=>false
theorem edge_free {listed : Array Bool} {i j : Nat} {oj : Oper} (hr : i ∈ Region.ready md ops listed) (hj : j ∈ Region.ready md ops listed) (hoj : ops[j]?=some oj) {e : Edge} (he : e ∈ oj.after) (hb : Region.binds md e=true) : e.on ≠ i:=by
 rintro rfl
 obtain ⟨h0,_⟩:=Go.mem_ready.1 hr
 obtain ⟨_,o,ho,hall⟩:=Go.mem_ready.1 hj
 obtain rfl : o=oj:=by rw [ho] at hoj;injection hoj
 have h1:=hall e he hb
 by_cases hl : e.on < listed.size
 ·simp only [hl,Array.getD,dite_true,Array.getElem?_eq_getElem] at h0 h1
  simp_all
 ·simp_all [Array.getD]
theorem unlisted {listed : Array Bool} {j k : Nat} (h : (listed.setIfInBounds j true).getD k true=false) : listed.getD k true=false:=by
 by_cases hjk : j=k
 ·exfalso
  subst hjk
  simp [Array.getD] at h
 ·rwa [getD_set_ne true hjk] at h
theorem U_first {i : Nat} {oi : Oper} {v : Value} (hi : ops[i]?=some oi) (hsel : ∀ (j : Nat) (o : Oper) cs b,ops[j]?=some o→o.op ≠ .select cs b)
 (hQ : ∀ c a w,Q (.panic c) (a.put oi.dst v) w→Q (.panic c) a w) (hiu : i ≠ u) (hu : waits md ops u i=true) (fuel : Nat) :
 ∀ (listed : Array Bool) (a : Act) (w : World),
   (∀ j oj,ops[j]?=some oj→j ≠ i→listed.getD j true=false→(∀ e ∈ oj.after,Region.binds md e=true→e.on ≠ i)→oi.apart ops oj=true) →
   i ∈ Region.ready md ops listed→YieldsIf PP ops S oi v a→S w →
   wpAnyU PP md ops Q S u fuel (listed.setIfInBounds i true) (a.put oi.dst v) w→wpAnyU PP md ops Q S u (fuel+1) listed a w:=by
 have hju : ∀ {listed : Array Bool} {j : Nat},i ∈ Region.ready md ops listed→j ∈ Region.ready md ops listed→j ≠ u:=by
  rintro listed j hr hj rfl
  obtain ⟨_,oj,hoj,_⟩:=Go.mem_ready.1 hj
  simp only [waits,hoj,Array.any_eq_true,Bool.and_eq_true,beq_iff_eq] at hu
  obtain ⟨k,hk,h1,h2⟩:=hu
  exact edge_free hr hj hoj (Array.getElem_mem hk) h1 h2
 induction fuel with
 | zero =>
  intro listed a w _ hr hy hS H
  have none : ∀ j ∈ Region.ready md ops listed,j=i:=fun j hj=>Classical.byContradiction fun hji=>by
   have:=ready_mono hj hji
   rw [H.1] at this
   cases this
  refine ⟨fun h0=>?_,fun j hj=>?_⟩
  ·rw [h0] at hr;cases hr
  ·cases none j hj
   exact hy.wpOp hi hS (by rw [if_neg hiu];exact ⟨hS,H⟩)
 | succ fuel ih =>
  intro listed a w hfree hr hy hS H
  refine ⟨fun h0=>?_,fun j hj=>?_⟩
  ·rw [h0] at hr;cases hr
  by_cases hji : j=i
  ·cases hji
   exact hy.wpOp hi hS (by rw [if_neg hiu];exact ⟨hS,H⟩)
  obtain ⟨hjun,oj,hoj,_⟩:=Go.mem_ready.1 hj
  have hne:=hju hr hj
  have hap:=hfree j oj hoj hji hjun (fun e he hb=>edge_free hr hj hoj he hb)
  refine wpOp_mono ?_ (wpOp_putIf hoj hap (fun cs b=>hsel i oi cs b hi) (fun cs b=>hsel j oj cs b hoj) hQ hy (H.2 j (ready_mono hj hji)))
  rintro a' w' ⟨hy',hW⟩
  rw [if_neg hne] at hW ⊢
  refine ⟨hW.1,ih _ _ _ (fun k ok hk hki hun=>hfree k ok hk hki (unlisted hun)) (ready_mono hr (Ne.symm hji)) hy' hW.1 ?_⟩
  rw [Array.setIfInBounds_comm _ _ hji]
  exact hW.2
theorem U_take {i : Nat} {oi : Oper} {v : Value} {fuel : Nat} {listed : Array Bool} {a : Act} {w : World} (hi : ops[i]?=some oi)
 (hs : Region.noSelect ops=true) (hf : Region.free md ops listed i=true) (hr : (Region.ready md ops listed).contains i=true) (hu : (waits md ops u i && decide (i ≠ u))=true)
 (hQ : ∀ c a w,Q (.panic c) (a.put oi.dst v) w→Q (.panic c) a w) (hy : YieldsIf PP ops S oi v a) (hS : S w)
 (h : wpAnyU PP md ops Q S u fuel (listed.setIfInBounds i true) (a.put oi.dst v) w) : wpAnyU PP md ops Q S u (fuel+1) listed a w:=by
 rw [Bool.and_eq_true,decide_eq_true_eq] at hu
 exact U_first hi (Region.noSelect_spec hs) hQ hu.2 hu.1 fuel listed a w (Region.free_spec hi hf) (by simpa using hr) hy hS h
theorem uT (i : Nat) (v : Value) {oi : Oper} {fuel : Nat} {listed : Array Bool} {a : Act} {w : World} (hS : S w) (h : wpAnyU PP md ops Q S u fuel (listed.setIfInBounds i true) (a.put oi.dst v) w) (hi : ops[i]?=some oi:=by rfl)
 (hy : YieldsIf PP ops S oi v a:=by exact Or.inl ⟨by kernel_rfl,by intro w hSw;(try dsimp only at hSw);go_simp⟩) (hs : Region.noSelect ops=true:=by kernel_rfl) (hf : Region.free md ops listed i=true:=by kernel_rfl) (hr : (Region.ready md ops listed).contains i=true:=by kernel_rfl) (hu : (waits md ops u i && decide (i ≠ u))=true:=by kernel_rfl)
 (hQ : ∀ c a w,Q (.panic c) (a.put oi.dst v) w→Q (.panic c) a w:=by exact fun _ _ _ h=>h) : wpAnyU PP md ops Q S u (fuel+1) listed a w:=U_take hi hs hf hr hu hQ hy hS h
theorem uS (i : Nat) {oi : Oper} {fuel : Nat} {listed : Array Bool} {a : Act} {w : World} (hS : S w) (h : wpAnyU PP md ops Q S u fuel (listed.setIfInBounds i true) (a.put oi.dst undef) w) (hi : ops[i]?=some oi:=by rfl)
 (hy : YieldsIf PP ops S oi undef a:=by exact Or.inr ⟨by kernel_rfl,rfl⟩) (hs : Region.noSelect ops=true:=by kernel_rfl) (hf : Region.free md ops listed i=true:=by kernel_rfl) (hr : (Region.ready md ops listed).contains i=true:=by kernel_rfl) (hu : (waits md ops u i && decide (i ≠ u))=true:=by kernel_rfl)
 (hQ : ∀ c a w,Q (.panic c) (a.put oi.dst undef) w→Q (.panic c) a w:=by exact fun _ _ _ h=>h) : wpAnyU PP md ops Q S u (fuel+1) listed a w:=U_take hi hs hf hr hu hQ hy hS h
theorem wp_region_U {id : Nat} {a : Act} {w : World} (hm : PP.follows .mixedOrders=true) (h : wpAnyU PP .any ops Q S u ops.size (Array.replicate ops.size false) a w.drew) : (Code.region id ops true).wp PP Q a w :=
 wp_region_any hm (any_of_U _ _ _ _ h)
theorem U_end {fuel : Nat} {listed : Array Bool} {a : Act} {w : World} (hr : Region.ready md ops listed=[u]) (h : wpAny PP md ops Q (fuel+1) listed a w) : wpAnyU PP md ops Q S u (fuel+1) listed a w :=
 ⟨h.1,fun i hi=>by
  have h1:=h.2 i hi
  rw [hr] at hi
  obtain rfl : i=u:=by simpa using hi
  simpa using h1⟩
def AllU (PP : Program) (md : Region.Mode) (ops : Array Oper) (Q : Exit→Act→World→Prop) (S : World→Prop) (u : Nat) (fuel : Nat) (listed : Array Bool) (a : Act) (w : World) (rs : List Nat) : Prop :=
 ∀ i ∈ rs,wpOp PP ops Q i (fun a' w'=>if i=u then wpAny PP md ops Q fuel (listed.setIfInBounds i true) a' w' else S w'∧wpAnyU PP md ops Q S u fuel (listed.setIfInBounds i true) a' w') a w
theorem AllU.nil {fuel : Nat} {listed : Array Bool} {a : Act} {w : World} : AllU PP md ops Q S u fuel listed a w []:=fun _ h=>by cases h
theorem AllU.cons {fuel : Nat} {listed : Array Bool} {a : Act} {w : World} {i : Nat} {o : Oper} {rs : List Nat} (ho : ops[i]?=some o) (hiu : i ≠ u)
 (h : ∀ K' : Act→World→Prop,Hid (∀ a w,S w→wpAnyU PP md ops Q S u fuel (listed.setIfInBounds i true) a w→K' a w)→if Region.wanted o (yielded ops a.tmps)=true then Oper.wp PP o a w K' Q else K' (a.put o.dst undef) w)
 (hs : AllU PP md ops Q S u fuel listed a w rs) : AllU PP md ops Q S u fuel listed a w (i :: rs):=fun j hj=>by
 rcases List.mem_cons.1 hj with rfl | hj
 ·refine wpOp_step ho (fun K' hK=>h K' (fun a w hS hW=>hK a w ?_))
  rw [if_neg hiu]
  exact ⟨hS,hW⟩
 ·exact hs j hj
theorem U_ready {rs : List Nat} {fuel : Nat} {listed : Array Bool} {a : Act} {w : World} (hr : Region.ready md ops listed=rs) (hne : rs ≠ [])
 (h : AllU PP md ops Q S u fuel listed a w rs) : wpAnyU PP md ops Q S u (fuel+1) listed a w :=
 ⟨fun h0=>absurd (hr.symm.trans h0) hne,fun i hi=>h i (by rw [← hr];exact hi)⟩
end
section
variable {PP : Program} {ops : Array Oper} {Q : Exit→Act→World→Prop} {md : Region.Mode} {l n : Nat}
def noDefer (ops : Array Oper) : Bool:=ops.all fun o=>match o.op with
 | .defer _=>false
 | _=>true
theorem op_round {o : Oper} {a : Act} {w : World} {K : Act→World→Prop} (hd : ∀ c,o.op ≠ .defer c) (h : o.wp PP a w K Q) : o.wpIn (Fence.wide.inRound l) n PP a w K Q:=by
 refine ⟨fun _ _=>trivial,?_⟩
 show Oper.uponIn _ _ _ _ _ _ _ ((Oper.semAt (some l) a.eval o).run _ _)
 rw [Oper.semAt_some _ _ _ hd]
 unfold Oper.wp at h
 generalize (execOp a.eval o).run PP w=r at h
 cases r with
 | ok v w' =>
  cases v with
  | value v=>exact h
  | skip=>exact h
  | defer d=>exact h
  | enter f args=>exact ⟨fun q=>(by cases q),CallsIn.inRound l (callsIn_wide.2 h)⟩
  | row r args =>
   refine ⟨fun q=>(by cases q),fun c cs _=>?_⟩
   obtain ⟨v,w2,r2,s2⟩:=h c cs
   exact ⟨v,w2,r2,stepsIn_wide.2 s2⟩
  | _=>exact (h : False).elim
 | halt x w'=>cases x <;> first | exact h | exact h.elim
theorem any_round (hd : noDefer ops=true) (hQ : ¬ LetsOut Q) : ∀ (fuel : Nat) (listed : Array Bool) (a : Act) (w : World),wpAny PP md ops Q fuel listed a w→wpAnyIn (Fence.wide.inRound l) n PP md ops Q fuel listed a w
 | 0,_,_,_,h=>h
 | fuel+1,listed,a,w,h=>⟨h.1,fun i hi=>by
  have h1:=h.2 i hi
  unfold wpOp at h1
  unfold wpOpIn
  cases ho : ops[i]? with
  | none=>rw [ho] at h1;exact any_round hd hQ fuel _ _ _ h1
  | some o =>
   rw [ho] at h1
   dsimp only at h1 ⊢
   have hdo : ∀ c,o.op ≠ .defer c:=fun c e=>by
    have:=Array.all_eq_true_iff_forall_mem.1 hd o (Array.mem_of_getElem? ho)
    rw [e] at this
    cases this
   split at h1
   ·rw [if_pos (by assumption)]
    rcases h1 with h1 | h1
    ·exact op_round hdo (Oper.wp_mono (fun a' w' h'=>any_round hd hQ fuel _ a' w' h') h1)
    ·exact absurd h1.2 hQ
   ·rw [if_neg (by assumption)]
    exact ⟨fun _ _=>trivial,any_round hd hQ fuel _ _ _ h1⟩⟩
theorem region_round {id : Nat} {a : Act} {w : World} (S : World→Prop) (hm : PP.follows .mixedOrders=true) (hd : noDefer ops=true) (hQ : ¬ LetsOut Q) (hS : S w.drew)
 (h : S w.drew→wpAnyH PP .any ops Q S ops.size (Array.replicate ops.size false) a w.drew) : (Code.region id ops true).wpIn (Fence.wide.inRound l) n PP Q a w :=
 wpIn_region_any hm (any_round hd hQ _ _ _ _ (wpAny_of_held _ _ _ _ (h hS)))
end
end Go.Proofs.YtfcocoadaajbjaaGreatDoor
