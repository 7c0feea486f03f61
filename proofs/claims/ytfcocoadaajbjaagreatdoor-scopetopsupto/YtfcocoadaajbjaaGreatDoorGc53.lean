/- Own text. Names in scopes: the tops of a module or script without an error (of the model);a list of numbers that is being made. ScopeTops: the statement's walk. ScopeTops: the walk as the law asks it. -/
import Derived.Test.YtfcocoadaajbjaaGreatDoorGc48
import Derived.Laws.MakeOwn
import Derived.Test.YtfcocoadaajbjaaGreatDoorGc49
import Derived.Test.YtfcocoadaajbjaaGreatDoorGc24
import Derived.Test.YtfcocoadaajbjaaGreatDoorGc42
set_option linter.unusedVariables false
set_option linter.unusedSimpArgs false
namespace Go.Proofs.YtfcocoadaajbjaaGreatDoor
open Go.RowKit Go.MapKept
structure TopTd (x : Nd) (T : List Tp) : Prop where
 at_ : ∀ i (h : i < T.length),∃ j m : Nat,T[i].at_=(j : Nat)∧1 ≤ j∧T[i].it=(m : Nat)∧m < x.ks.length∧1+sizes (x.ks.take m) ≤ j∧j < 1+sizes (x.ks.take (m+1))∧∃ hj : j < x.flat.length,x.flat[j].k=T[i].kd
 up : ∀ i j (hi : i < T.length) (hj : j < T.length),i < j→T[i].at_ < T[j].at_
 un : ∀ i j (hi : i < T.length) (hj : j < T.length),i < j→(T[i].nm.toList == T[j].nm.toList)=false
theorem fresh_pw : ∀ (r E : List ByteArray),freshB E r=true→(∀ e ∈ E,∀ a ∈ r,eqT e a=false)∧r.Pairwise (fun a b=>eqT a b=false)
 | [],E,_=>⟨fun e _ a ha=>(by cases ha),List.Pairwise.nil⟩
 | a :: r,E,h=>by
  rw [freshB,Bool.and_eq_true] at h
  obtain ⟨h1,h2⟩:=h
  obtain ⟨h3,h4⟩:=fresh_pw r (E ++ [a]) h2
  have h1 : ∀ e ∈ E,eqT e a=false:=fun e he=>by
   have : E.any (eqT · a)=false:=by simpa using h1
   have:=List.any_eq_false.1 this e he
   simpa using this
  refine ⟨fun e he b hb=>?_,List.Pairwise.cons (fun b hb=>h3 a (by simp) b hb) h4⟩
  rcases List.mem_cons.1 hb with rfl | hb
  ·exact h1 e he
  ·exact h3 e (by simp [he]) b hb
theorem ok_tops {x : Nd} (h : okX x) : TopTd x (dRes x).tops:=by
 obtain ⟨h1,h2,h3⟩:=ok_us h
 rw [h1]
 obtain ⟨t1,t2⟩:=ptL_o (W:=x.flat) x.ks 1 0 (by decide) (sit_kids x)
 have r:=(rise_L x.ks 1 0).2
 have f:=(fresh_pw _ _ h3).2
 refine ⟨fun i hi=>?_,fun i j hi hj hij=>List.pairwise_iff_getElem.1 r i j hi hj hij,fun i j hi hj hij=>?_⟩
 ·obtain ⟨j,e1,e2,d,e3,e4,_⟩:=t1 _ (List.getElem_mem hi)
  obtain ⟨m,g1,g2,g3,g4⟩:=t2 _ (List.getElem_mem hi)
  rw [e1] at g3 g4
  have hj : j < x.flat.length:=(List.getElem?_eq_some_iff.1 e3).1
  have e5 : x.flat[j]=d:=(List.getElem?_eq_some_iff.1 e3).2
  exact ⟨j,m,e1,e2,by rw [g2];omega,g1,by omega,by omega,hj,by rw [e5];exact e4⟩
 ·have:=List.pairwise_iff_getElem.1 f i j (by simpa using hi) (by simpa using hj) hij
  simpa [eqT] using this
theorem info_int9 : (Tryz.prog.info? 3).map (fun i=>(i.zero,i.size,i.bytes))=some (some (.int .i64 0),1,8):=by kernel_rfl
theorem make_ints (n : Nat) (hn : n ≤ 4194304) (W : World) : (Instr.makeSlice 40 (.int .i64 (n : Nat)) (.int .i64 (n : Nat))).run Tryz.prog W = .ok (.slice (some ⟨W.heap.size,0,none⟩) n n) (W.alloc (.cells (madeCells (Value.int .i64 0).cells n) 3)):=by
 obtain ⟨i0,hi0,hz0,hz1,hz2⟩:=info_parts info_int9
 have h:=run_make (P:=Tryz.prog) W 40 3 i0 (.int .i64 0) Tryz.underlying40 hi0 hz0 .i64 .i64 n n (by omega) (by omega) (by rw [hz2];omega) (by omega)
 rw [hz1] at h
 simpa using h
def AtB (l : List Nd) (ab : Nat) (W : World) (k : Nat) : Prop:=∃ A : Array Value,W.heap[ab]?=some (.cells A 3 (0,0))∧A.size=l.length+1∧∀ j,j ≤ k→A[j]?=some (.int .i64 (1+(sizes (l.take j) : Nat)))
theorem AtB.cell {l : List Nd} {ab : Nat} {W : World} {k : Nat} (h : AtB l ab W k) {j : Nat} (hj : j ≤ k) : W.cell? ⟨ab,j,none⟩=some (.int .i64 (1+(sizes (l.take j) : Nat))):=by
 obtain ⟨A,h1,h2,h3⟩:=h
 simp [World.cell?,h1,h3 j hj]
theorem AtB.has {l : List Nd} {ab : Nat} {W : World} {k : Nat} (h : AtB l ab W k) {j : Nat} (hj : j ≤ l.length) : (∃ v,W.cell? ⟨ab,j,none⟩=some v)∧W.frozen? ⟨ab,j,none⟩=false:=by
 obtain ⟨A,h1,h2,h3⟩:=h
 have hlt : j < A.size:=by omega
 exact ⟨⟨A[j],by simp [World.cell?,h1,hlt]⟩,by simp [World.frozen?,h1]⟩
theorem AtB.set {l : List Nd} {ab : Nat} {W : World} {k : Nat} (h : AtB l ab W k) (hk : k < l.length) : AtB l ab (W.setCell ⟨ab,k+1,none⟩ (.int .i64 (1+(sizes (l.take (k+1)) : Nat)))) (k+1):=by
 obtain ⟨A,h1,h2,h3⟩:=h
 refine ⟨A.set! (k+1) (.int .i64 (1+(sizes (l.take (k+1)) : Nat))),by simp [World.setCell,Array.getElem?_modify,h1],by simpa using h2,fun j hj=>?_⟩
 by_cases e : j=k+1
 ·subst e
  simp [Array.set!_eq_setIfInBounds,show k+1 < A.size by omega]
 ·rw [Array.set!_eq_setIfInBounds,Array.getElem?_setIfInBounds_ne (fun w=>e w.symm)]
  exact h3 j (by omega)
theorem AtB.first {l : List Nd} {ab : Nat} {W : World} {A : Array Value} (h : W.heap[ab]?=some (.cells A 3 (0,0))) (hs : A.size=l.length+1) : AtB l ab (W.setCell ⟨ab,0,none⟩ (.int .i64 1)) 0:=by
 refine ⟨A.set! 0 (.int .i64 1),by simp [World.setCell,Array.getElem?_modify,h],by simpa using hs,fun j hj=>?_⟩
 obtain rfl : j=0:=by omega
 simp [Array.set!_eq_setIfInBounds,show 0 < A.size by omega,sizes_nil]
theorem AtB.kept {l : List Nd} {ab : Nat} {W W' : World} {k : Nat} (h : AtB l ab W k) (e : W'.heap[ab]?=W.heap[ab]?) : AtB l ab W' k:=by
 obtain ⟨A,h1,h2,h3⟩:=h
 exact ⟨A,e.trans h1,h2,h3⟩
set_option maxRecDepth 100000
set_option maxHeartbeats 64000000
theorem tops_walk (x : Nd) (v : Value) (W : World) (hx : LAt W (fun b=>b < W.heap.size) v x.ks) (hz : x.size ≤ 1048576) (tx : x.tx) (he : WEnv W) : Calls Tryz.prog 4 #[x.v v] W fun e W'=>e = .returned (.bool true)∧Below W.heap.size W W':=by
 obtain ⟨av,cv,rfl⟩:=hx.sl
 obtain ⟨W0,hW0⟩ : ∃ X,W.alloc (nO x (.slice av x.ks.length cv))=X:=⟨_,rfl⟩
 have b0 : Below W.heap.size W W0:=by rw [← hW0];exact bel_a _ _
 have m0 : W0.heap[W.heap.size]?=some (nO x (.slice av x.ks.length cv)):=by rw [← hW0];exact hnew _ rfl
 have CR:=presolve_any x _ W0 (lat_up hx b0) (by omega) tx (he.bel b0)
 unfold Nd.v at CR
 obtain ⟨⟨n0,n1,n2,n3⟩,_⟩:=box4 m0
 have HX : Hid (LAt W (fun b=>b < W.heap.size) (.slice av x.ks.length cv) x.ks):=hx
 have B0 : Hid (Below W.heap.size W W0):=b0
 have M0 : Hid _:=m0
 have HE : Hid (WEnv W):=he
 have HT : Hid x.tx:=tx
 clear b0 m0 hx he tx
 unfold nO at hW0
 unfold Nd.v
 go_enter Tryz.func4,Tryz.ntmps4
 go_wp2_with fail
 go_at_call 7
 refine CR.mono ?_
 rintro e W1 ⟨b1,han⟩
 clear CR hW0 n0 n1 n2 n3
 have m1:=(b1.block _ (gl M0.out)).trans M0.out
 obtain ⟨⟨n0,n1,n2,n3⟩,_⟩:=box4 m1
 rcases han with ⟨hok,vt,vu,rfl,rt,ru⟩ | ⟨hno,a,b,hb,rfl⟩
 ·have ht:=ok_tops hok
  obtain ⟨at_,ct,rfl⟩:=rw_form rt
  obtain ⟨au,cu,rfl⟩:=rw_form ru
  obtain ⟨W2,hW2⟩ : ∃ X,W1.alloc (Obj.cells #[.slice at_ (dRes x).tops.length ct,.slice au (dRes x).uses.length cu] 28)=X:=⟨_,rfl⟩
  have b2 : Below W1.heap.size W1 W2:=by rw [← hW2];exact bel_a _ _
  have m2 : W2.heap[W1.heap.size]?=some (Obj.cells #[.slice at_ (dRes x).tops.length ct,.slice au (dRes x).uses.length cu] 28 (0,0)):=by rw [← hW2];exact hnew _ rfl
  have m3:=(b2.block _ (gl m1)).trans m1
  obtain ⟨⟨n0,n1,n2,n3⟩,_⟩:=box4 m3
  have bW2 : Below W.heap.size W W2:=below_tr (below_tr B0.out b1) b2
  have CF:=flat_new x W2 _ (lat_up HX.out bW2) (by omega)
  unfold Nd.v at CF
  have tlen : (dRes x).tops.length ≤ 4194304:=by have:=(res_len x).2;omega
  have HU : Hid (∀ k (hk : k < (dRes x).tops.length),∃ g,at_=some ⟨g,0,none⟩∧g < W2.heap.size∧∀ X : World,X.heap[g]?=W2.heap[g]?→(X.cell? ⟨g,k * 5,none⟩=some (.string (dRes x).tops[k].nm)∧X.cell? ⟨g,k * 5+1,none⟩=some (.int .i64 (dRes x).tops[k].kd)∧X.cell? ⟨g,k * 5+2,none⟩=some (.int .i64 (dRes x).tops[k].at_)∧X.cell? ⟨g,k * 5+3,none⟩=some (.int .i64 (dRes x).tops[k].it)∧X.cell? ⟨g,k * 5+4,none⟩=some (.bool (dRes x).tops[k].cn))):=fun k hk=>by
   obtain ⟨g,c',e',q0,q1,q2,q3,q4⟩:=tp_at rt hk
   injection e' with e1 e2 e3
   have lt:=World.block_lt_of_cell? W1 _ q0
   refine ⟨g,e1,Nat.lt_of_lt_of_le lt b2.size,fun X b=>?_⟩
   have bb : X.heap[g]?=W1.heap[g]?:=b.trans (b2.block _ lt)
   have cc:=fun i v (h : W1.cell? ⟨g,i,none⟩=some v)=>(World.cell?_of_block (a:=⟨g,i,none⟩) bb).trans h
   exact ⟨cc _ _ q0,cc _ _ q1,cc _ _ q2,cc _ _ q3,cc _ _ q4⟩
  have HS : Hid (∀ X,Below W2.heap.size W2 X→X.cell? ⟨W1.heap.size,0,none⟩=some (.slice at_ (dRes x).tops.length ct)):=fun X b=>by
   have:=(b.block _ (Array.getElem?_eq_some_iff.1 m2).1).trans m2
   simp [World.cell?,this]
  have HN : Hid (∀ X,Below W2.heap.size W2 X→X.cell? ⟨W.heap.size,3,none⟩=some (.slice av x.ks.length cv)):=fun X b=>(box4 ((b.block _ (Array.getElem?_eq_some_iff.1 m3).1).trans m3)).1.2.2.2
  have BW2 : Hid (Below W.heap.size W W2):=bW2
  have HTd : Hid (TopTd x (dRes x).tops):=ht
  obtain ⟨ax,cx,bx,ox,fx,hva,px,qx,rx⟩:=HX.out.op
  injection hva with hva1 _ hva2
  subst hva1 hva2
  have HPx : Hid (0 < x.ks.length→av=some ⟨bx,ox,none⟩∧bx < W.heap.size∧bx < W.heap.size):=px
  have HQ : Hid (∀ X,Below W2.heap.size W2 X→∀ i (h : i < x.ks.length),Four X bx (ox+i * 4) x.ks[i] (fx i)):=fun X b i h=>(qx i h).of_block ((below_tr bW2 b).block _ ((px (by omega)).2.1))
  have HRx : Hid (∀ X,Below W2.heap.size W2 X→∀ i (h : i < x.ks.length),LAt X (fun b=>b < X.heap.size) (fx i) x.ks[i].ks):=fun X b i h=>lat_up (rx i h) (below_tr bW2 b)
  have hln : x.ks.length ≤ 1048576:=by have:=sizes_len x.ks;have:=x.size_eq;omega
  clear rt ru m1 m2 m3 b1 b2 bW2 ht hok M0 B0 px qx rx
  generalize (dRes x).tops=T at *
  generalize (dRes x).uses.length=ul at *
  go_wp2_with fail
  go_at_call 10
  refine CF.mono ?_
  rintro e W3 ⟨bl,ol,cl,fl,rfl,⟨hbl,hq,hl⟩,b3⟩
  clear CF hW2 n0 n1 n2 n3 hl
  have hsz : x.flat.length=x.size:=x.flat_len
  have hflen : x.flat.length ≤ 1048576:=by omega
  have B3 : Hid (Below W2.heap.size W2 W3):=b3
  have BW3 : Hid (Below W.heap.size W W3):=below_tr BW2.out b3
  have HBl : Hid (bl < W3.heap.size∧∀ i (h : i < x.flat.length),Four W3 bl (ol+i * 4) x.flat[i] (fl i)):=⟨hbl,hq⟩
  have n3:=HN.out W3 b3
  have hmk : ∀ X : World,(Instr.makeSlice 40 (.int .i64 ((x.ks.length : Nat)+1)) (.int .i64 ((x.ks.length : Nat)+1))).run Tryz.prog X = .ok (.slice (some ⟨X.heap.size,0,none⟩) (x.ks.length+1) (x.ks.length+1)) (X.alloc (.cells (madeCells (Value.int .i64 0).cells (x.ks.length+1)) 3)):=fun X=>by
   have:=make_ints (x.ks.length+1) (by omega) X
   push_cast at this
   exact this
  obtain ⟨A,hA⟩ : ∃ A,madeCells (Value.int .i64 0).cells (x.ks.length+1)=A:=⟨_,rfl⟩
  have hAs : A.size=x.ks.length+1:=by rw [← hA,size_madeCells];try simp [Value.cells]
  rw [hA] at hmk
  obtain ⟨W4,hW4⟩ : ∃ X,W3.alloc (.cells A 3)=X:=⟨_,rfl⟩
  have b4 : Below W3.heap.size W3 W4:=by rw [← hW4];exact bel_a _ _
  have m4 : W4.heap[W3.heap.size]?=some (.cells A 3 (0,0)):=by rw [← hW4];exact hnew _ rfl
  have h0 : W4.cell? ⟨W3.heap.size,0,none⟩=some A[0]:=by simp [World.cell?,m4]
  have f0 : W4.frozen? ⟨W3.heap.size,0,none⟩=false:=by simp [World.frozen?,m4]
  obtain ⟨W5,hW5⟩ : ∃ X,W4.setCell ⟨W3.heap.size,0,none⟩ (.int .i64 1)=X:=⟨_,rfl⟩
  have B5 : Hid (Below W3.heap.size W3 W5):=by rw [← hW5];exact bel_set b4 (by simp)
  have A5 : Hid (AtB x.ks W3.heap.size W5 0):=by show AtB _ _ _ _;rw [← hW5];exact AtB.first m4 hAs
  clear hA m4 b4 hq hbl b3 hsz
  go_wp2
  clear hW4 hW5 hmk h0 f0 n3
  go_loopw [11] (fun v11 wo=>∃ k : Nat,v11 = .int .i64 (k : Nat)∧k ≤ x.ks.length∧Hid (Below W3.heap.size W3 wo)∧Hid (AtB x.ks W3.heap.size wo k)∧Hid (W3.heap.size < wo.heap.size)) (fun v11 _=>x.ks.length - (intOf v11).toNat)
  case atStart=>exact ⟨0,rfl,by omega,B5.out,A5.out,by obtain ⟨A',h,_⟩:=A5.out;exact (Array.getElem?_eq_some_iff.1 h).1⟩
  case round =>
   obtain ⟨k,rfl,hk,HB,HA,HLt⟩:=hrel
   have n3:=HN.out wr (below_tr B3.out HB.out)
   by_cases hkl : k < x.ks.length
   ·obtain ⟨rfl,hb1,_⟩:=HPx.out (by omega)
    have hd : (k : Int) < (x.ks.length : Int):=by omega
    obtain ⟨y1,y2,y3,y4⟩:=HQ.out wr (below_tr B3.out HB.out) k hkl
    have c1:=HA.out.cell (Nat.le_refl k)
    have HSz : Hid (sizes (x.ks.take (k+1))=sizes (x.ks.take k)+x.ks[k].size):=take_sizes x.ks hkl
    have htk:=take_sizes_le x.ks (k+1)
    rw [HSz.out] at htk
    have hzz:=x.size_eq
    have CS:=rsize_any x.ks[k] (World.drew wr) _ _ ((HRx.out wr (below_tr B3.out HB.out) k hkl).bel (Below.refl _ _).drew) (by omega)
    unfold Nd.v at CS
    have HSet : Hid (∀ X,Below wr.heap.size wr X→(X.cell? ⟨bx,ox+k * 4,none⟩=some (.int .i64 x.ks[k].k)∧X.cell? ⟨bx,ox+k * 4+1,none⟩=some (.string x.ks[k].t)∧X.cell? ⟨bx,ox+k * 4+2,none⟩=some (.int .i64 x.ks[k].n)∧X.cell? ⟨bx,ox+k * 4+3,none⟩=some (fx k))∧X.cell? ⟨W.heap.size,3,none⟩=some (.slice (some ⟨bx,ox,none⟩) x.ks.length cv)∧X.cell? ⟨W3.heap.size,k,none⟩=some (.int .i64 (1+(sizes (x.ks.take k) : Nat)))):=fun X b=>by
     have bX:=below_tr HB.out b
     exact ⟨HQ.out X (below_tr B3.out bX) k hkl,HN.out X (below_tr B3.out bX),(HA.out.kept (b.block _ HLt.out)).cell (Nat.le_refl k)⟩
    have HW : Hid (∀ X,Below wr.heap.size wr X→((∃ v,X.cell? ⟨W3.heap.size,k+1,none⟩=some v)∧X.frozen? ⟨W3.heap.size,k+1,none⟩=false)∧(((X.setCell ⟨W3.heap.size,k+1,none⟩ (.int .i64 (1+(sizes (x.ks.take k) : Nat)+(x.ks[k].size : Nat)))).cell? ⟨bx,ox+k * 4,none⟩=some (.int .i64 x.ks[k].k)∧(X.setCell ⟨W3.heap.size,k+1,none⟩ (.int .i64 (1+(sizes (x.ks.take k) : Nat)+(x.ks[k].size : Nat)))).cell? ⟨bx,ox+k * 4+1,none⟩=some (.string x.ks[k].t)∧(X.setCell ⟨W3.heap.size,k+1,none⟩ (.int .i64 (1+(sizes (x.ks.take k) : Nat)+(x.ks[k].size : Nat)))).cell? ⟨bx,ox+k * 4+2,none⟩=some (.int .i64 x.ks[k].n)∧(X.setCell ⟨W3.heap.size,k+1,none⟩ (.int .i64 (1+(sizes (x.ks.take k) : Nat)+(x.ks[k].size : Nat)))).cell? ⟨bx,ox+k * 4+3,none⟩=some (fx k))∧(X.setCell ⟨W3.heap.size,k+1,none⟩ (.int .i64 (1+(sizes (x.ks.take k) : Nat)+(x.ks[k].size : Nat)))).cell? ⟨W.heap.size,3,none⟩=some (.slice (some ⟨bx,ox,none⟩) x.ks.length cv)∧(X.setCell ⟨W3.heap.size,k+1,none⟩ (.int .i64 (1+(sizes (x.ks.take k) : Nat)+(x.ks[k].size : Nat)))).cell? ⟨W3.heap.size,k,none⟩=some (.int .i64 (1+(sizes (x.ks.take k) : Nat))))∧Below W3.heap.size W3 (X.setCell ⟨W3.heap.size,k+1,none⟩ (.int .i64 (1+(sizes (x.ks.take k) : Nat)+(x.ks[k].size : Nat))))∧AtB x.ks W3.heap.size (X.setCell ⟨W3.heap.size,k+1,none⟩ (.int .i64 (1+(sizes (x.ks.take k) : Nat)+(x.ks[k].size : Nat)))) (k+1)∧W3.heap.size < X.heap.size):=fun X b=>by
     have aX:=HA.out.kept (b.block _ HLt.out)
     have e : (1+(sizes (x.ks.take k) : Nat)+(x.ks[k].size : Nat) : Int)=1+((sizes (x.ks.take (k+1)) : Nat) : Int):=by rw [HSz.out];push_cast;omega
     have bs : Below W3.heap.size W3 (X.setCell ⟨W3.heap.size,k+1,none⟩ (.int .i64 (1+(sizes (x.ks.take k) : Nat)+(x.ks[k].size : Nat)))):=bel_set (below_tr HB.out b) (by simp)
     have a1:=aX.set hkl
     rw [← e] at a1
     exact ⟨aX.has (by omega),⟨HQ.out _ (below_tr B3.out bs) k hkl,HN.out _ (below_tr B3.out bs),a1.cell (by omega)⟩,bs,a1,Nat.lt_of_lt_of_le HLt.out b.size⟩
    have hS1 : (1 : Int)+(sizes (x.ks.take k) : Nat) ≤ 4194304:=by omega
    have hS2 : x.ks[k].size ≤ 4194304:=by omega
    clear htk hzz y1 y2 y3 y4 c1
    generalize x.ks[k]=y at *
    generalize hsk : sizes (x.ks.take k)=sk at *
    have su:=HSet.out (World.drew wr) (Below.refl _ _).drew
    have wk1 : IntKind.i64.wrap ((k : Int)+1)=(k : Int)+1:=by rw [IntKind.wrap_i64];omega
    have wk2 : ¬ ((x.ks.length : Nat) : Int)+1 ≤ ((k : Nat) : Int):=by omega
    have wk3 : ¬ ((k : Nat) : Int)+1 < 0:=by omega
    have wk4 : IntKind.i64.wrap (1+(sk : Int)+(y.size : Int))=1+(sk : Int)+(y.size : Int):=by rw [IntKind.wrap_i64];omega
    have wk5 : ¬ ((x.ks.length : Nat) : Int)+1 ≤ ((k : Nat) : Int)+1:=by omega
    go_wp2_with fail
    refine region_held (fun X=>(X.cell? ⟨bx,ox+k * 4,none⟩=some (.int .i64 y.k)∧X.cell? ⟨bx,ox+k * 4+1,none⟩=some (.string y.t)∧X.cell? ⟨bx,ox+k * 4+2,none⟩=some (.int .i64 y.n)∧X.cell? ⟨bx,ox+k * 4+3,none⟩=some (fx k))∧X.cell? ⟨W.heap.size,3,none⟩=some (.slice (some ⟨bx,ox,none⟩) x.ks.length cv)∧X.cell? ⟨W3.heap.size,k,none⟩=some (.int .i64 (1+(sk : Nat)))) (by kernel_rfl) su (fun hS=>?_)
    refine wpAnyH_take (i:=0) (v:=(.slice (some ⟨W3.heap.size,0,none⟩) (x.ks.length+1) (x.ks.length+1))) rfl (by kernel_rfl) (by kernel_rfl) (by kernel_rfl) (fun _ _ _ h=>h) (Or.inl ⟨by rfl,fun w _=>by go_simp⟩) hS ?_
    refine wpAnyH_take (i:=1) (v:=(.int .i64 (k : Nat))) rfl (by kernel_rfl) (by kernel_rfl) (by kernel_rfl) (fun _ _ _ h=>h) (Or.inl ⟨by rfl,fun w _=>by go_simp⟩) hS ?_
    refine wpAnyH_take (i:=2) (v:=(.int .i64 ((k : Nat)+1))) rfl (by kernel_rfl) (by kernel_rfl) (by kernel_rfl) (fun _ _ _ h=>h) (Or.inl ⟨by rfl,fun w _=>by go_simp⟩) hS ?_
    refine wpAnyH_take (i:=3) (v:=(.slice (some ⟨W3.heap.size,0,none⟩) (x.ks.length+1) (x.ks.length+1))) rfl (by kernel_rfl) (by kernel_rfl) (by kernel_rfl) (fun _ _ _ h=>h) (Or.inl ⟨by rfl,fun w _=>by go_simp⟩) hS ?_
    refine wpAnyH_take (i:=4) (v:=(.int .i64 (k : Nat))) rfl (by kernel_rfl) (by kernel_rfl) (by kernel_rfl) (fun _ _ _ h=>h) (Or.inl ⟨by rfl,fun w _=>by go_simp⟩) hS ?_
    refine wpAnyH_take (i:=5) (v:=(.pointer (some ⟨W3.heap.size,k,none⟩))) rfl (by kernel_rfl) (by kernel_rfl) (by kernel_rfl) (fun _ _ _ h=>h) (Or.inl ⟨by rfl,fun w _=>by go_simp⟩) hS ?_
    refine wpAnyH_take (i:=6) (v:=(.int .i64 (1+(sk : Nat)))) rfl (by kernel_rfl) (by kernel_rfl) (by kernel_rfl) (fun _ _ _ h=>h) (Or.inl ⟨by rfl,fun w hw=>by obtain ⟨⟨p0,p1,p2,p3⟩,q0,q1⟩:=hw;go_simp⟩) hS ?_
    refine wpAnyH_take (i:=7) (v:=(.pointer (some ⟨W.heap.size,3,none⟩))) rfl (by kernel_rfl) (by kernel_rfl) (by kernel_rfl) (fun _ _ _ h=>h) (Or.inl ⟨by rfl,fun w _=>by go_simp⟩) hS ?_
    refine wpAnyH_take (i:=8) (v:=(.slice (some ⟨bx,ox,none⟩) x.ks.length cv)) rfl (by kernel_rfl) (by kernel_rfl) (by kernel_rfl) (fun _ _ _ h=>h) (Or.inl ⟨by rfl,fun w hw=>by obtain ⟨⟨p0,p1,p2,p3⟩,q0,q1⟩:=hw;go_simp⟩) hS ?_
    refine wpAnyH_take (i:=9) (v:=(.int .i64 (k : Nat))) rfl (by kernel_rfl) (by kernel_rfl) (by kernel_rfl) (fun _ _ _ h=>h) (Or.inl ⟨by rfl,fun w _=>by go_simp⟩) hS ?_
    refine wpAnyH_take (i:=10) (v:=(.pointer (some ⟨bx,ox+k * 4,none⟩))) rfl (by kernel_rfl) (by kernel_rfl) (by kernel_rfl) (fun _ _ _ h=>h) (Or.inl ⟨by rfl,fun w _=>by go_simp⟩) hS ?_
    refine wpAnyH_take (i:=11) (v:=(.agg #[.int .i64 y.k,.string y.t,.int .i64 y.n,fx k])) rfl (by kernel_rfl) (by kernel_rfl) (by kernel_rfl) (fun _ _ _ h=>h) (Or.inl ⟨by rfl,fun w hw=>by obtain ⟨⟨p0,p1,p2,p3⟩,q0,q1⟩:=hw;go_simp⟩) hS ?_
    refine wpAnyH_ready (rs:=[12]) (by kernel_rfl) (by simp) ?_
    refine AllReadyH.cons rfl (fun K hK=>?_) AllReadyH.nil
    go_simp
    go_at_call 12
    refine CS.mono ?_
    rintro e W6 ⟨rfl,b6⟩
    have b6' : Below wr.heap.size wr W6:=(Below.refl _ _).drew.trans b6
    refine hK.out _ _ (HSet.out W6 b6') (fun hS6=>?_)
    clear hK K hS CS b6
    refine wpAnyH_take (i:=13) (v:=(.int .i64 (1+(sk : Nat)+(y.size : Nat)))) rfl (by kernel_rfl) (by kernel_rfl) (by kernel_rfl) (fun _ _ _ h=>h) (Or.inl ⟨by rfl,fun w _=>by go_simp⟩) hS6 ?_
    refine wpAnyH_take (i:=14) (v:=(.pointer (some ⟨W3.heap.size,k+1,none⟩))) rfl (by kernel_rfl) (by kernel_rfl) (by kernel_rfl) (fun _ _ _ h=>h) (Or.inl ⟨by rfl,fun w _=>by go_simp⟩) hS6 ?_
    obtain ⟨⟨⟨v9,w9⟩,f9⟩,sfin,hfin⟩:=HW.out W6 b6'
    refine wpAnyH_ready (rs:=[15]) (by kernel_rfl) (by simp) ?_
    refine AllReadyH.cons rfl (fun K hK=>?_) AllReadyH.nil
    go_simp
    refine hK.out _ _ sfin (fun hS7=>?_)
    clear hK K hS6 hS7 sfin
    refine wpAnyH_done (by kernel_rfl) ?_ _
    have HW9 : Hid _:=hfin
    obtain ⟨z1,z2,z3⟩:=HW9.out
    have Z1 : Hid _:=z1
    have Z2 : Hid _:=z2
    have Z3 : Hid _:=z3
    clear HW9 z1 z2 z3
    go_wp2
    go_roundw
    case rel=>exact ⟨k+1,by simp,by omega,Z1.out,Z2.out,by show _ < _;simp [World.setCell];exact Z3.out⟩
    case measure=>simp [intOf];omega
   ·obtain rfl : k=x.ks.length:=by omega
    have hd : ¬ ((x.ks.length : Nat) : Int) < ((x.ks.length : Nat) : Int):=by omega
    have s1:=HS.out wr (below_tr B3.out HB.out)
    go_wp2
    clear n3 s1
    obtain ⟨Wm,hWm⟩ : ∃ X,X=wr:=⟨_,rfl⟩
    subst hWm
    have BM : Hid (∀ X,Below Wm.heap.size Wm X→Below W2.heap.size W2 X):=fun X b=>below_tr B3.out (below_tr HB.out b)
    have HAt : Hid (∀ X,Below Wm.heap.size Wm X→∀ j,j ≤ x.ks.length→X.cell? ⟨W3.heap.size,j,none⟩=some (.int .i64 (1+(sizes (x.ks.take j) : Nat)))):=fun X b j hj=>(HA.out.kept (b.block _ HLt.out)).cell hj
    have HFl : Hid (∀ X,Below Wm.heap.size Wm X→∀ i (h : i < x.flat.length),X.cell? ⟨bl,ol+i * 4,none⟩=some (.int .i64 x.flat[i].k)):=fun X b i h=>((HBl.out.2 i h).of_block ((below_tr HB.out b).block _ HBl.out.1)).1
    have HCt : Hid (∀ k (hk : k < T.length),∃ g,at_=some ⟨g,0,none⟩∧∀ X : World,Below Wm.heap.size Wm X→(X.cell? ⟨g,k * 5,none⟩=some (.string T[k].nm)∧X.cell? ⟨g,k * 5+1,none⟩=some (.int .i64 T[k].kd)∧X.cell? ⟨g,k * 5+2,none⟩=some (.int .i64 T[k].at_)∧X.cell? ⟨g,k * 5+3,none⟩=some (.int .i64 T[k].it)∧X.cell? ⟨g,k * 5+4,none⟩=some (.bool T[k].cn))):=fun k hk=>by
     obtain ⟨g,e,hg,hc⟩:=HU.out k hk
     exact ⟨g,e,fun X b=>hc X ((BM.out X b).block _ hg)⟩
    have HBW : Hid (Below W.heap.size W Wm):=below_tr BW3.out HB.out
    clear HU HB HA HLt HBl HQ HRx B3 BW3 A5 B5 hd
    go_loopw [12] (fun v12 wo=>∃ k : Nat,v12 = .int .i64 (k : Nat)∧k ≤ T.length∧Hid (Below Wm.heap.size Wm wo)) (fun v12 _=>T.length - (intOf v12).toNat)
    case atStart=>exact ⟨0,rfl,by omega,Below.refl _ _⟩
    case round =>
     obtain ⟨k,rfl,hk2,HB2⟩:=hrel
     obtain ⟨Wn,hWn⟩ : ∃ X : World,X=wr:=⟨_,rfl⟩
     subst hWn
     have s1:=HS.out Wn (BM.out _ HB2.out)
     by_cases hkl : k < T.length
     ·obtain ⟨g,hau,HC0⟩:=HCt.out k hkl
      subst hau
      obtain ⟨u0,u1,u2,u3,u4⟩:=HC0 Wn HB2.out
      have hd : (k : Int) < (T.length : Int):=by omega
      obtain ⟨j,m,e1,hj1,e2,hm,l1,l2,hj,e3⟩:=HTd.out.at_ k hkl
      have HLo : Hid (∀ i (h : i < T.length),i < k→T[i].at_ < T[k].at_∧(T[i].nm.toList == T[k].nm.toList)=false):=fun i h hik=>⟨HTd.out.up i k h hkl hik,HTd.out.un i k h hkl hik⟩
      clear HC0
      generalize T[k]=t at *
      obtain ⟨tnm,tkd,tat,tit,tcn⟩:=t
      have e1 : tat=(j : Nat):=e1
      have e2 : tit=(m : Nat):=e2
      have e3 : x.flat[j].k=tkd:=e3
      subst e1 e2 e3
      simp only at u0 u1 u2 u3 u4
      obtain ⟨W6,hW6⟩ : ∃ X,Wn.alloc (Obj.cells #[.string tnm,.int .i64 x.flat[j].k,.int .i64 (j : Nat),.int .i64 (m : Nat),.bool tcn] 43)=X:=⟨_,rfl⟩
      have b6 : Below Wn.heap.size Wn W6:=by rw [← hW6];exact bel_a _ _
      have m6 : W6.heap[Wn.heap.size]?=some (Obj.cells #[.string tnm,.int .i64 x.flat[j].k,.int .i64 (j : Nat),.int .i64 (m : Nat),.bool tcn] 43 (0,0)):=by rw [← hW6];exact hnew _ rfl
      have B6 : Hid (Below Wm.heap.size Wm W6):=below_tr HB2.out b6
      have HZ : Hid (∀ X,Below W6.heap.size W6 X→X.cell? ⟨Wn.heap.size,0,none⟩=some (.string tnm)∧X.cell? ⟨Wn.heap.size,1,none⟩=some (.int .i64 x.flat[j].k)∧X.cell? ⟨Wn.heap.size,2,none⟩=some (.int .i64 (j : Nat))∧X.cell? ⟨Wn.heap.size,3,none⟩=some (.int .i64 (m : Nat))):=fun X b=>by
       have:=(b.block _ (Array.getElem?_eq_some_iff.1 m6).1).trans m6
       simp [World.cell?,this]
      have bd:=B6.out.trans ((Below.refl W6.heap.size W6).drew.mono B6.out.size)
      obtain ⟨z0,z1,z2,z3⟩:=HZ.out W6 (Below.refl _ _)
      have y1:=HFl.out W6 B6.out j hj
      have a1:=HAt.out W6 B6.out m (by omega)
      have a2:=HAt.out W6 B6.out (m+1) (by omega)
      have n3:=HN.out W6 (BM.out _ B6.out)
      have t1 : ¬ ((j : Nat) : Int) < 1:=by omega
      have t2 : ¬ ((x.flat.length : Nat) : Int) ≤ ((j : Nat) : Int):=by omega
      have t3 : ((j : Nat) : Int) < ((x.flat.length : Nat) : Int):=by omega
      have t4 : ¬ ((m : Nat) : Int) < 0:=by omega
      have t5 : ¬ ((x.ks.length : Nat) : Int) ≤ ((m : Nat) : Int):=by omega
      have t6 : ((m : Nat) : Int) < ((x.ks.length : Nat) : Int)+1:=by omega
      have t7 : ((m : Nat) : Int)+1 < ((x.ks.length : Nat) : Int)+1:=by omega
      have t8 : ¬ ((j : Nat) : Int) < 1+((sizes (x.ks.take m) : Nat) : Int):=by omega
      have t9 : ¬ 1+((sizes (x.ks.take (m+1)) : Nat) : Int) ≤ ((j : Nat) : Int):=by omega
      have tm : m ≤ 4194304:=by omega
      have tj : j ≤ 4194304:=by omega
      have wm1 : IntKind.i64.wrap ((m : Int)+1)=(m : Int)+1:=by rw [IntKind.wrap_i64];omega
      have wm2 : ¬ ((m : Nat) : Int)+1 < 0:=by omega
      have wm3 : ¬ ((x.ks.length : Nat) : Int)+1 ≤ ((m : Nat) : Int)+1:=by omega
      have wm4 : ¬ ((x.ks.length : Nat) : Int)+1 ≤ ((m : Nat) : Int):=by omega
      clear m6 b6 bd l1 l2
      generalize x.flat[j].k=kj at *
      generalize sizes (x.ks.take m)=sm at *
      generalize sizes (x.ks.take (m+1))=sm1 at *
      go_wp2_with fail
      refine region_held (fun X=>(X.cell? ⟨Wn.heap.size,0,none⟩=some (.string tnm)∧X.cell? ⟨Wn.heap.size,1,none⟩=some (.int .i64 kj)∧X.cell? ⟨Wn.heap.size,2,none⟩=some (.int .i64 (j : Nat))∧X.cell? ⟨Wn.heap.size,3,none⟩=some (.int .i64 (m : Nat)))∧X.cell? ⟨bl,ol+j * 4,none⟩=some (.int .i64 kj)∧X.cell? ⟨W3.heap.size,m,none⟩=some (.int .i64 (1+(sm : Nat)))∧X.cell? ⟨W3.heap.size,m+1,none⟩=some (.int .i64 (1+(sm1 : Nat)))∧X.cell? ⟨W.heap.size,3,none⟩=some (.slice av x.ks.length cv)) (by kernel_rfl) ⟨⟨z0,z1,z2,z3⟩,y1,a1,a2,n3⟩ (fun hS=>?_)
      refine tH 0 ?_
      simp only [List.set]
      refine tH 1 ?_
      simp only [List.set]
      refine tH 2 (v:=.bool false) ?_
      simp only [List.set]
      refine tH 3 (v:=.bool false) ?_
      simp only [List.set]
      refine tH 4 ?_
      simp only [List.set]
      refine tH 5 ?_
      simp only [List.set]
      refine tH 6 ?_
      simp only [List.set]
      refine tH 7 ?_
      simp only [List.set]
      refine tH 8 (v:=.bool false) ?_
      simp only [List.set]
      refine tH 9 (v:=.bool false) ?_
      simp only [List.set]
      refine tH 10 (v:=.bool false) ?_
      simp only [List.set]
      refine tH 11 ?_
      simp only [List.set]
      refine tH 12 ?_
      simp only [List.set]
      refine tH 13 ?_
      simp only [List.set]
      refine tH 14 ?_
      simp only [List.set]
      refine tH 15 ?_
      simp only [List.set]
      refine tH 16 ?_
      simp only [List.set]
      refine tH 17 ?_
      simp only [List.set]
      refine tH 18 ?_
      simp only [List.set]
      refine tH 19 (v:=.bool false) ?_
      simp only [List.set]
      refine tH 20 (v:=.bool false) ?_
      simp only [List.set]
      refine tH 21 (v:=.bool false) ?_
      simp only [List.set]
      refine tH 22 ?_
      simp only [List.set]
      refine tH 23 ?_
      simp only [List.set]
      refine tH 24 (v:=.bool false) ?_
      simp only [List.set]
      refine tH 25 (v:=.bool false) ?_
      simp only [List.set]
      refine tH 26 (v:=.bool false) ?_
      simp only [List.set]
      refine tH 27 ?_
      simp only [List.set]
      refine tH 28 ?_
      simp only [List.set]
      refine tH 29 ?_
      simp only [List.set]
      refine tH 30 ?_
      simp only [List.set]
      refine tH 31 ?_
      simp only [List.set]
      refine tH 32 (v:=.bool false) ?_
      simp only [List.set]
      refine tH 33 (v:=.bool false) ?_
      simp only [List.set]
      refine tH 34 (v:=.bool false) ?_
      simp only [List.set]
      refine tH 35 ?_
      simp only [List.set]
      refine tH 36 ?_
      simp only [List.set]
      refine tH 37 ?_
      simp only [List.set]
      refine tH 38 ?_
      simp only [List.set]
      refine tH 39 ?_
      simp only [List.set]
      refine tH 40 ?_
      simp only [List.set]
      refine tH 41 ?_
      simp only [List.set]
      refine tH 42 (v:=.bool false) ?_
      simp only [List.set]
      refine tH 43 (v:=.bool false) ?_
      simp only [List.set]
      refine tH 44 (v:=.bool false) ?_
      simp only [List.set]
      refine tH 45 ?_
      simp only [List.set]
      refine tH 46 ?_
      simp only [List.set]
      refine tH 47 ?_
      simp only [List.set]
      refine tH 48 ?_
      simp only [List.set]
      refine tH 49 ?_
      simp only [List.set]
      refine tH 50 ?_
      simp only [List.set]
      refine tH 51 ?_
      simp only [List.set]
      refine tH 52 ?_
      simp only [List.set]
      refine tH 53 (v:=.bool false) ?_
      simp only [List.set]
      refine tH 54 (v:=.bool false) ?_
      simp only [List.set]
      refine wpAnyH_done (by kernel_rfl) ?_ _
      clear hS z0 z1 z2 z3 y1 a1 a2 n3 t1 t2 t3 t4 t5 t6 t7 t8 t9 wm1 wm2 wm3 wm4 u0 u1 u2 u3 u4 hW6
      have s1':=HS.out (World.drew W6) (BM.out _ (B6.out.trans ((Below.refl W6.heap.size W6).drew.mono B6.out.size)))
      clear s1
      go_wp2
      go_loopw [14] (fun v14 wo=>∃ i : Nat,v14 = .int .i64 (i : Nat)∧i ≤ k∧Hid (Below W6.heap.size W6 wo)) (fun v14 _=>k - (intOf v14).toNat)
      case atStart=>exact ⟨0,rfl,by omega,(Below.refl _ _).drew⟩
      case round =>
       obtain ⟨i,rfl,hik,HB3⟩:=hrel
       by_cases hil : i < k
       ·have hil' : ((i : Nat) : Int) < ((k : Nat) : Int):=by omega
        obtain ⟨g',eg,HC1⟩:=HCt.out i (by omega)
        injection eg with eg
        injection eg with eg
        subst eg
        have bX : Below Wm.heap.size Wm wr:=below_tr B6.out HB3.out
        obtain ⟨u0,u1,u2,u3,u4⟩:=HC1 wr bX
        obtain ⟨z0,z1,z2,z3⟩:=HZ.out wr HB3.out
        obtain ⟨g1,g2⟩:=HLo.out i (by omega) hil
        have g1 : T[i].at_ < ((j : Nat) : Int):=g1
        have g3 : ¬ ((j : Nat) : Int) ≤ T[i].at_:=by omega
        have s2:=HS.out wr (BM.out _ bX)
        have hiT : ((i : Nat) : Int) < ((T.length : Nat) : Int):=by omega
        have g2 : (T[i].nm.toList == tnm.toList)=false:=g2
        clear g1 HC1 bX s1'
        generalize T[i]=ti at *
        obtain ⟨inm,ikd,iat,iit,icn⟩:=ti
        simp only at u0 u1 u2 u3 u4 g2 g3
        go_wp2_with fail
        go_region
        go_wp2
        go_roundw
        case rel=>exact ⟨i+1,by simp,by omega,HB3.out.drew⟩
        case measure=>simp [intOf];omega
       ·obtain rfl : i=k:=by omega
        have hd2 : ¬ ((i : Nat) : Int) < ((i : Nat) : Int):=by omega
        clear s1'
        go_wp2
        go_roundw
        case rel=>exact ⟨i+1,by simp,by omega,below_tr B6.out HB3.out⟩
        case measure=>simp [intOf];omega
     ·obtain rfl : k=T.length:=by omega
      have hd : ¬ ((T.length : Nat) : Int) < ((T.length : Nat) : Int):=by omega
      have CA:=awakeS_any Wn (HE.out.bel (below_tr HBW.out HB2.out))
      go_wp2_with fail
      go_at_call 9
      refine CA.mono ?_
      rintro e W9 ⟨rfl,b9⟩
      have BW9 : Hid (Below W.heap.size W W9):=below_tr (below_tr HBW.out HB2.out) b9
      clear CA b9 s1
      go_wp2
      go_ret
      exact ⟨rfl,BW9.out⟩
 ·have b2 : Below W1.heap.size W1 (W1.alloc (Obj.cells #[.slice none 0 0,.slice none 0 0] 28)):=bel_a _ _
  have m3:=(b2.block _ (gl m1)).trans m1
  clear n0 n1 n2 n3
  obtain ⟨⟨n0,n1,n2,n3⟩,_⟩:=box4 m3
  have bW2:=below_tr (below_tr B0.out b1) b2
  have hb2 : (b != 0)=true:=by simpa using hb
  have CD:=rresolve_any x _ _ (lat_up HX.out bW2) (by omega) HT.out
  unfold Nd.v at CD
  have BW2 : Hid (Below W.heap.size W (W1.alloc (Obj.cells #[.slice none 0 0,.slice none 0 0] 28))):=bW2
  clear m1 m3 b1 b2 bW2 M0 B0 hb
  go_wp2_with fail
  go_at_call 8
  refine CD.mono ?_
  rintro e W3 ⟨b3,han⟩
  rcases han with ⟨hok,_⟩ | ⟨_,a',b',hb3,rfl⟩
  case inl=>exact absurd hok hno
  clear CD n0 n1 n2 n3
  have bW4:=below_tr (below_tr BW2.out b3) (bel_a W3 (Obj.cells #[.slice none 0 0,.slice none 0 0] 28))
  have CA:=awakeS_any _ (HE.out.bel bW4)
  have BW4 : Hid (Below W.heap.size W (W3.alloc (Obj.cells #[.slice none 0 0,.slice none 0 0] 28))):=bW4
  have hb4 : (b' != 0)=true:=by simpa using hb3
  clear b3 bW4 BW2 hno hb3
  go_wp2_with fail
  go_at_call 9
  refine CA.mono ?_
  rintro e W9 ⟨rfl,b9⟩
  have BW9 : Hid (Below W.heap.size W W9):=below_tr BW4.out b9
  clear CA b9
  go_wp2
  go_ret
  exact ⟨rfl,BW9.out⟩
end Go.Proofs.YtfcocoadaajbjaaGreatDoor
set_option linter.unusedVariables false
namespace Go.Proofs.YtfcocoadaajbjaaGreatDoor.SoU
open Go.RowKit
theorem walk (x : Nd) (u : Value) (w : World) (f : LAt w (fun b=>b < w.heap.size) u x.ks) (s : x.size ≤ 1048576) (t : ∀ y ∈ x.flat,y.t.size ≤ 1048576) (he : WEnv w) :
 Calls Tryz.prog 4 #[x.v u] w fun e w'=>e = .returned (.bool true)∧Below w.heap.size w w' :=
 tops_walk x u w f s (fun y hy=>Nat.le_trans (t y hy) (by decide)) he
end Go.Proofs.YtfcocoadaajbjaaGreatDoor.SoU
