/- Own text. Package parse: the rules,one by one: what stands behind a primary. -/
import Derived.Test.YthfkfbcopinmiaaGreatDoorGk18
set_option linter.unusedVariables false
set_option linter.unusedSimpArgs false
set_option maxRecDepth 100000
set_option maxHeartbeats 8000000
namespace Go.Proofs.YthfkfbcopinmiaaGreatDoor
open Go.RowKit
theorem kept_own {R : Nat} {u W W' : World} {row : Option Nat} (k : KeptR R u W) (hg : W.grownBy W' row) (hr : ∀ g,row=some g→u.heap.size ≤ g) : KeptR R u W' :=
 ⟨hg.os.trans k.os,hg.tape.trans k.tape,hg.output.trans k.output,Nat.le_trans k.size hg.size,fun j hj h1=>(hg.block j (Nat.lt_of_lt_of_le hj k.size) (fun e=>by have:=hr j e.symm;omega)).trans (k.block j hj h1)⟩
theorem rd_own {B : Nat} {P : Pl} {L : List Tok} {a : Nat} {o : Ex} {W W' : World} {row : Option Nat} (r : Rd W P L a o) (hg : W.grownBy W' row) (hr : ∀ g,row=some g→B ≤ g) (hR : P.R < B) (hb : 0 < L.length→P.bl < B) : Rd W' P L a o :=
 r.keep hg.size (hg.block _ r.lt (fun e=>by have:=hr _ e.symm;omega)) (fun q=>hg.block _ (r.x.lt q) (fun e=>by have:=hr _ e.symm;have:=hb q;omega))
theorem post_step (L : List Tok) (hs : Small L) (f : Nat) (MN : Mono L f) (hPr : CN 163 L f 8 (primF L f)) (hE : CN 126 L f 20 (exprF L f)) : CN 161 L (f+1) 9 (postF L (f+1)):=by
 intro w P a o h ho hM
 have hRw:=h.lt
 have hle:=h.le
 obtain ⟨h0,a0,z0,M0⟩:=begin_cell h
 obtain ⟨res,hres⟩ : ∃ r,postF L (f+1) a o=r:=⟨_,rfl⟩
 have HR : Hid (postF L (f+1) a o=res):=hres
 rw [hres]
 clear hres
 have HPR' : Hid (CN 163 L f 8 (primF L f)):=hPr
 have HE' : Hid (CN 126 L f 20 (exprF L f)):=hE
 clear hPr
 clear hE
 go_enter Tryz.func161,Tryz.ntmps161
 go_wp2_with fail
 go_at_call 163
 refine (HPR'.out _ _ _ _ h0 (by omega) (by unfold Ms at *;omega)).mono ?_
 rintro e W1 A1
 cases h1 : primF L f a o with
 | bad p er =>
  rw [h1] at A1
  obtain ⟨rfl,b1⟩:=A1
  obtain rfl : Rs.bad p er=res:=by rw [← HR.out,postF];simp [Rs.bind,mtT,h1]
  exact ⟨rfl,rfl,a0.trans ((KeptR.refl P.R (w.alloc zN)).trans b1)⟩
 | ok x1 a1 =>
  rw [h1] at A1
  obtain ⟨ad1,c1,rfl,l1',r1,b1⟩:=A1
  have g1:=(MN.prim' a o) _ _ h1
  have y1:=r1.le
  have k1:=(KeptR.refl P.R (w.alloc zN)).trans b1
  have z1:=k1.size
  have l1:=l1'.mono (T:=fun b=>w.heap.size+1 ≤ b) (fun b hb=>by have:=(KeptR.refl P.R (w.alloc zN)).size;omega)
  go_wp2
  have HR2 : Hid (postG L (fun a'=>exprF L f a' o) (L.length+1 - a1) x1 a1=res):=by show _=_;rw [← HR.out,postF,h1];rfl
  clear HR
  have HR:=HR2
  clear HR2
  have gV : w.heap.size+1 ≤ W1.heap.size:=by have:=k1.size;omega
  have k0:=(k1.alloc (Obj.cells #[.int .i64 x1.k,.string x1.t,.int .i64 x1.n,.slice ad1 x1.ks.length c1] 24))
  have r0:=(r1.bel (B0.alloc le0 (Obj.cells #[.int .i64 x1.k,.string x1.t,.int .i64 x1.n,.slice ad1 x1.ks.length c1] 24)))
  have v0:=heap_alloc_new W1 (Obj.cells #[.int .i64 x1.k,.string x1.t,.int .i64 x1.n,.slice ad1 x1.ks.length c1] 24)
  have l0:=(l1'.mono' (T:=fun b=>w.heap.size+1 ≤ b∧b ≠ W1.heap.size) (fun b hl hb=>by have:=a0.size;exact ⟨by omega,by omega⟩)).bel (B0.alloc le0 (Obj.cells #[.int .i64 x1.k,.string x1.t,.int .i64 x1.n,.slice ad1 x1.ks.length c1] 24))
  go_loopg [6] (L.length+1 - a1) (fun gk v6 wr=>∃ (nd : Nd) (b : Nat) (ad : Option Addr) (c : Nat),Hid (postG L (fun a'=>exprF L f a' o) gk nd b=res)∧Hid (L.length+1 ≤ gk+b)∧Rd wr P L b (opE o)∧wr.heap[W1.heap.size]?=some (.cells #[.int .i64 nd.k,.string nd.t,.int .i64 nd.n,.slice ad nd.ks.length c] 24 (0,0))∧LAt wr (fun b=>w.heap.size+1 ≤ b∧b ≠ W1.heap.size) (Value.slice ad nd.ks.length c) nd.ks∧KeptR P.R (w.alloc zN) wr∧W1.heap.size < wr.heap.size∧a1 ≤ b)
  case atStart=>exact ⟨x1,a1,ad1,c1,HR.out,by show _ ≤ _;omega,r0,v0,l0,k0,by simp,Nat.le_refl _⟩
  case round =>
   clear k0 r0 v0 l0 HR
   obtain ⟨nd,b,ad,c,HR,HG,r0,v0,lN,k0,hV0,hab⟩:=hrel
   have hgk:=HG.out
   have hbl:=r0.le
   obtain ⟨g,rfl⟩ : ∃ g,gk=g+1:=⟨gk - 1,by omega⟩
   have z0k:=k0.size
   cases q3 : isS L b sDo with
   | true =>
    have T3:=take_any r0 sDo
    rw [q3] at T3
    have u3:=isS_lt q3
    go_wp2_with fail
    go_at_call 40
    refine T3.mono ?_
    rintro e W3 ⟨rfl,r3',b3⟩
    have r3 : Rd W3 P L (b+1) (opE o):=r3'
    clear r3'
    have k3:=k0.trans b3
    have z3:=k3.size
    have y3:=r3.le
    go_wp2_with fail
    refine wp_region_any (by kernel_rfl) ?_
    change wpAny _ _ _ _ _ _ _ (World.drew _)
    have zd4 : W3.drew.heap.size=W3.heap.size:=rfl
    refine tk 0 (.pointer (some ⟨P.R,0,none⟩)) ?_
    refine tk 1 (.pointer (some ⟨P.R,0,none⟩)) ?_
    refine tk 2 (.pointer (some ⟨P.R,0,none⟩)) ?_
    have vv : W3.drew.heap[W1.heap.size]?=_:=((((KeptR.refl P.R wr).trans b3).trans (.of (B0.drew))).block W1.heap.size hV0 (by omega)).trans v0
    obtain ⟨⟨_,_,_,_⟩,_,_,_,_⟩:=t4 vv
    refine wpAny_ready (rs:=[3,4]) (by kernel_rfl) (by simp) ?_
    refine AllReady.cons rfl (fun K hK=>?_) (AllReady.cons rfl (fun K hK=>?_) AllReady.nil)
    ·go_simp
     go_at_call 76
     refine (prop_any (r3.bel (B0.drew)) hs).mono ?_
     rintro e W5 A5
     cases h5 : propR' L (b+1) with
     | bad p er =>
      rw [h5] at A5
      obtain ⟨rfl,b5⟩:=A5
      obtain rfl : Rs.bad p er=res:=by rw [← HR.out,postG];simp [Rs.bind,mtT,q3,h5]
      exact ⟨rfl,rfl,a0.trans ((k3.trans (.of (B0.drew))).trans b5)⟩
     | ok x5 a5 =>
      rw [h5] at A5
      obtain ⟨rfl,r5,b5⟩:=A5
      have g5:=(prop_ge L (b+1)) _ _ h5
      have y5:=r5.le
      have k5:=(k3.trans (.of (B0.drew))).trans b5
      have z5:=k5.size
      refine hK _ _ ?_
      clear hK K
      clear vv
      have vv : W5.heap[W1.heap.size]?=_:=(((((KeptR.refl P.R wr).trans b3).trans (.of (B0.drew))).trans b5).block W1.heap.size hV0 (by omega)).trans v0
      obtain ⟨⟨_,_,_,_⟩,_,_,_,_⟩:=t4 vv
      refine wpAny_chain [_,_,_,_] [4,5,6,7] _ _ _ _ (by kernel_rfl) rfl (by decide) ?_
      go_wp2_with fail
      go_at_call 42
      refine (node_any 21 x5 (some ⟨W5.heap.size,0,none⟩) 1 1 _).mono ?_
      rintro e W6 ⟨rfl,b6'⟩
      have j6 : W6.heap[W5.heap.size]?=_:=(b6'.block _ (by simp)).trans (heap_alloc_new W5 _)
      have r6:=(r5.bel (B0.alloc le0 _)).bel b6'
      have b6 : KeptR P.R W5 W6:=(KeptR.of (B0.alloc le0 _)).trans (.of b6')
      have k6:=k5.trans b6
      have z6:=k6.size
      have l6 : LAt W6 (fun b=>w.heap.size+1 ≤ b∧b ≠ W1.heap.size) (.slice (some ⟨W5.heap.size,0,none⟩) 1 1) [nd]:=LAt.n1 j6 (by have:=k5.size;have:=((((KeptR.refl P.R wr).trans b3).trans (.of (B0.drew))).trans b5).size;exact ⟨by omega,by omega⟩) (lN.keep (((((KeptR.refl P.R wr).trans b3).trans (.of (B0.drew))).trans b5).trans b6).size (fun b hb hl=>(((((KeptR.refl P.R wr).trans b3).trans (.of (B0.drew))).trans b5).trans b6).block b hl (by have:=hb.1;omega)))
      clear vv
      have vv : W6.heap[W1.heap.size]?=_:=((((((KeptR.refl P.R wr).trans b3).trans (.of (B0.drew))).trans b5).trans b6).block W1.heap.size hV0 (by omega)).trans v0
      obtain ⟨⟨_,_,_,_⟩,_,_,_,_⟩:=t4 vv
      go_wp2
      go_roundg g
      case rel=>exact ⟨(mk0 21 x5 [nd]),a5,some _,1,by show _=_;rw [← HR.out,postG];simp [Rs.bind,mtT,q3,h5],by show _ ≤ _;omega,r6.set4 (by omega) (fun q=>by have:=h.x.lt q;omega) _ _ _ _,t4_set _ _ _ _ vv,((l6.keep (KeptR.refl P.R W6).size (fun b hb hl=>(KeptR.refl P.R W6).block b hl (by have:=hb.1;omega)))).keep (by simp [World.setCell]) (fun b hb hl=>blk_set4 hb.2 _ _ _ _),(((k6.new (by omega) _ _).new (by omega) _ _).new (by omega) _ _).new (by omega) _ _,by simp [World.setCell];have:=(((((KeptR.refl P.R wr).trans b3).trans (.of (B0.drew))).trans b5).trans b6).size;omega,by omega⟩
      case measure=>omega
    ·go_simp
     refine hK _ _ ?_
     clear hK K
     refine wpAny_two (i:=3) (j:=5) (is:=[5,6,7]) (js:=[3,6,7]) (os:=[_,_,_]) (us:=[_,_,_]) (by kernel_rfl) rfl rfl (by kernel_rfl) (by kernel_rfl) rfl rfl (by decide) (by decide) ?_ ?_
     ·go_wp2_with fail
      go_at_call 76
      refine (prop_any (r3.bel (B0.drew)) hs).mono ?_
      rintro e W7 A7
      cases h7 : propR' L (b+1) with
      | bad p er =>
       rw [h7] at A7
       obtain ⟨rfl,b7⟩:=A7
       obtain rfl : Rs.bad p er=res:=by rw [← HR.out,postG];simp [Rs.bind,mtT,q3,h7]
       exact ⟨rfl,rfl,a0.trans ((k3.trans (.of (B0.drew))).trans b7)⟩
      | ok x7 a7 =>
       rw [h7] at A7
       obtain ⟨rfl,r7,b7⟩:=A7
       have g7:=(prop_ge L (b+1)) _ _ h7
       have y7:=r7.le
       have k7:=(k3.trans (.of (B0.drew))).trans b7
       have z7:=k7.size
       clear vv
       have vv : W7.heap[W1.heap.size]?=_:=(((((KeptR.refl P.R wr).trans b3).trans (.of (B0.drew))).trans b7).block W1.heap.size hV0 (by omega)).trans v0
       obtain ⟨⟨_,_,_,_⟩,_,_,_,_⟩:=t4 vv
       go_wp2_with fail
       go_at_call 42
       refine (node_any 21 x7 (some ⟨W7.heap.size,0,none⟩) 1 1 _).mono ?_
       rintro e W8 ⟨rfl,b8'⟩
       have j8 : W8.heap[W7.heap.size]?=_:=(b8'.block _ (by simp)).trans (heap_alloc_new W7 _)
       have r8:=(r7.bel (B0.alloc le0 _)).bel b8'
       have b8 : KeptR P.R W7 W8:=(KeptR.of (B0.alloc le0 _)).trans (.of b8')
       have k8:=k7.trans b8
       have z8:=k8.size
       have l8 : LAt W8 (fun b=>w.heap.size+1 ≤ b∧b ≠ W1.heap.size) (.slice (some ⟨W7.heap.size,0,none⟩) 1 1) [nd]:=LAt.n1 j8 (by have:=k7.size;have:=((((KeptR.refl P.R wr).trans b3).trans (.of (B0.drew))).trans b7).size;exact ⟨by omega,by omega⟩) (lN.keep (((((KeptR.refl P.R wr).trans b3).trans (.of (B0.drew))).trans b7).trans b8).size (fun b hb hl=>(((((KeptR.refl P.R wr).trans b3).trans (.of (B0.drew))).trans b7).trans b8).block b hl (by have:=hb.1;omega)))
       clear vv
       have vv : W8.heap[W1.heap.size]?=_:=((((((KeptR.refl P.R wr).trans b3).trans (.of (B0.drew))).trans b7).trans b8).block W1.heap.size hV0 (by omega)).trans v0
       obtain ⟨⟨_,_,_,_⟩,_,_,_,_⟩:=t4 vv
       go_wp2
       go_roundg g
       case rel=>exact ⟨(mk0 21 x7 [nd]),a7,some _,1,by show _=_;rw [← HR.out,postG];simp [Rs.bind,mtT,q3,h7],by show _ ≤ _;omega,r8.set4 (by omega) (fun q=>by have:=h.x.lt q;omega) _ _ _ _,t4_set _ _ _ _ vv,((l8.keep (KeptR.refl P.R W8).size (fun b hb hl=>(KeptR.refl P.R W8).block b hl (by have:=hb.1;omega)))).keep (by simp [World.setCell]) (fun b hb hl=>blk_set4 hb.2 _ _ _ _),(((k8.new (by omega) _ _).new (by omega) _ _).new (by omega) _ _).new (by omega) _ _,by simp [World.setCell];have:=(((((KeptR.refl P.R wr).trans b3).trans (.of (B0.drew))).trans b7).trans b8).size;omega,by omega⟩
       case measure=>omega
     ·go_wp2_with fail
      go_at_call 76
      refine (prop_any ((r3.bel (B0.drew)).bel (B0.alloc le0 _)) hs).mono ?_
      rintro e W10 A10
      cases h10 : propR' L (b+1) with
      | bad p er =>
       rw [h10] at A10
       obtain ⟨rfl,b10⟩:=A10
       obtain rfl : Rs.bad p er=res:=by rw [← HR.out,postG];simp [Rs.bind,mtT,q3,h10]
       exact ⟨rfl,rfl,a0.trans (((k3.trans (.of (B0.drew))).alloc _).trans b10)⟩
      | ok x10 a10 =>
       rw [h10] at A10
       obtain ⟨rfl,r10,b10⟩:=A10
       have g10:=(prop_ge L (b+1)) _ _ h10
       have y10:=r10.le
       have k10:=((k3.trans (.of (B0.drew))).alloc (Obj.cells #[.int .i64 nd.k,.string nd.t,.int .i64 nd.n,.slice ad nd.ks.length c] 24)).trans b10
       have z10:=k10.size
       clear vv
       have vv : W10.heap[W1.heap.size]?=_:=((((((KeptR.refl P.R wr).trans b3).trans (.of (B0.drew))).alloc _).trans b10).block W1.heap.size hV0 (by omega)).trans v0
       obtain ⟨⟨_,_,_,_⟩,_,_,_,_⟩:=t4 vv
       have j9 : W10.heap[W3.drew.heap.size]?=_:=(((KeptR.refl P.R _).trans b10).block (W3.drew.heap.size) (by simp) (by have:=(k3.trans (.of (B0.drew))).size;omega)).trans (heap_alloc_new W3.drew _)
       have l9 : LAt W10 (fun b=>w.heap.size+1 ≤ b∧b ≠ W1.heap.size) (.slice (some ⟨W3.drew.heap.size,0,none⟩) 1 1) [nd]:=LAt.n1 j9 (by have:=(k3.trans (.of (B0.drew))).size;have:=(((KeptR.refl P.R wr).trans b3).trans (.of (B0.drew))).size;exact ⟨by omega,by omega⟩) (lN.keep (((((KeptR.refl P.R wr).trans b3).trans (.of (B0.drew))).alloc _).trans b10).size (fun b hb hl=>(((((KeptR.refl P.R wr).trans b3).trans (.of (B0.drew))).alloc _).trans b10).block b hl (by have:=hb.1;omega)))
       go_wp2_with fail
       go_at_call 42
       refine (node_any 21 x10 (some ⟨W3.drew.heap.size,0,none⟩) 1 1 _).mono ?_
       rintro e W11 ⟨rfl,b11'⟩
       have r11:=r10.bel b11'
       have b11:=KeptR.of (b:=P.R) b11'
       have k11:=k10.trans b11
       have z11:=k11.size
       clear vv
       have vv : W11.heap[W1.heap.size]?=_:=(((((((KeptR.refl P.R wr).trans b3).trans (.of (B0.drew))).alloc _).trans b10).trans b11).block W1.heap.size hV0 (by omega)).trans v0
       obtain ⟨⟨_,_,_,_⟩,_,_,_,_⟩:=t4 vv
       go_wp2
       go_roundg g
       case rel=>exact ⟨(mk0 21 x10 [nd]),a10,some _,1,by show _=_;rw [← HR.out,postG];simp [Rs.bind,mtT,q3,h10],by show _ ≤ _;omega,r11.set4 (by omega) (fun q=>by have:=h.x.lt q;omega) _ _ _ _,t4_set _ _ _ _ vv,((l9.keep ((KeptR.refl P.R W10).trans b11).size (fun b hb hl=>((KeptR.refl P.R W10).trans b11).block b hl (by have:=hb.1;omega)))).keep (by simp [World.setCell]) (fun b hb hl=>blk_set4 hb.2 _ _ _ _),(((k11.new (by omega) _ _).new (by omega) _ _).new (by omega) _ _).new (by omega) _ _,by simp [World.setCell];have:=((((((KeptR.refl P.R wr).trans b3).trans (.of (B0.drew))).alloc (Obj.cells #[.int .i64 nd.k,.string nd.t,.int .i64 nd.n,.slice ad nd.ks.length c] 24)).trans b10).trans b11).size;omega,by omega⟩
       case measure=>omega
   | false =>
    have T3:=take_any r0 sDo
    rw [q3] at T3
    go_wp2_with fail
    go_at_call 40
    refine T3.mono ?_
    rintro e W3 ⟨rfl,r3',b3⟩
    have r3 : Rd W3 P L b (opE o):=r3'
    clear r3'
    have k3:=k0.trans b3
    have z3:=k3.size
    have y3:=r3.le
    cases q12 : isS L b sBo with
    | true =>
     have T12:=take_any r3 sBo
     rw [q12] at T12
     have u12:=isS_lt q12
     go_wp2_with fail
     go_at_call 40
     refine T12.mono ?_
     rintro e W12 ⟨rfl,r12',b12⟩
     have r12 : Rd W12 P L (b+1) (opE o):=r12'
     clear r12'
     have k12:=k3.trans b12
     have z12:=k12.size
     have y12:=r12.le
     go_wp2_with fail
     refine wp_region_any (by kernel_rfl) ?_
     change wpAny _ _ _ _ _ _ _ (World.drew _)
     have zd13 : W12.drew.heap.size=W12.heap.size:=rfl
     refine tk 1 (.pointer (some ⟨P.R,0,none⟩)) ?_
     have vv : W12.drew.heap[W1.heap.size]?=_:=(((((KeptR.refl P.R wr).trans b3).trans b12).trans (.of (B0.drew))).block W1.heap.size hV0 (by omega)).trans v0
     obtain ⟨⟨_,_,_,_⟩,_,_,_,_⟩:=t4 vv
     refine wpAny_two (i:=0) (j:=2) (is:=[2,3,4,5]) (js:=[0,3,4,5]) (os:=[_,_,_,_]) (us:=[_,_,_,_]) (by kernel_rfl) rfl rfl (by kernel_rfl) (by kernel_rfl) rfl rfl (by decide) (by decide) ?_ ?_
     all_goals
      go_wp2_with fail
      go_at_call 126
      refine (HE'.out _ _ _ _ (r12.bel (B0.drew)) (by omega) (by unfold Ms at *;omega)).mono ?_
      rintro e W14 A14
      cases h14 : exprF L f (b+1) o with
      | bad p er =>
       rw [h14] at A14
       obtain ⟨rfl,b14⟩:=A14
       obtain rfl : Rs.bad p er=res:=by rw [← HR.out,postG];simp [Rs.bind,mtT,q3,q12,h14]
       exact ⟨rfl,rfl,a0.trans ((k12.trans (.of (B0.drew))).trans b14)⟩
      | ok x14 a14 =>
       rw [h14] at A14
       obtain ⟨ad14,c14,rfl,l14',r14,b14⟩:=A14
       have g14:=(MN.expr' (b+1) o) _ _ h14
       have y14:=r14.le
       have k14:=(k12.trans (.of (B0.drew))).trans b14
       have z14:=k14.size
       have l14:=l14'.mono (T:=fun b=>w.heap.size+1 ≤ b∧b ≠ W1.heap.size) (fun b hb=>by have:=(k12.trans (.of (B0.drew))).size;have:=((((KeptR.refl P.R wr).trans b3).trans b12).trans (.of (B0.drew))).size;exact ⟨by omega,by omega⟩)
       clear vv
       have vv : W14.heap[W1.heap.size]?=_:=((((((KeptR.refl P.R wr).trans b3).trans b12).trans (.of (B0.drew))).trans b14).block W1.heap.size hV0 (by omega)).trans v0
       obtain ⟨⟨_,_,_,_⟩,_,_,_,_⟩:=t4 vv
       go_wp2_with fail
       go_at_call 42
       refine (node_any 22 ⟨#[]⟩ (some ⟨W14.heap.size,0,none⟩) 2 2 _).mono ?_
       rintro e W15 ⟨rfl,b15'⟩
       have j15 : W15.heap[W14.heap.size]?=_:=(b15'.block _ (by simp)).trans (heap_alloc_new W14 _)
       have r15:=(r14.bel (B0.alloc le0 _)).bel b15'
       have b15 : KeptR P.R W14 W15:=(KeptR.of (B0.alloc le0 _)).trans (.of b15')
       have k15:=k14.trans b15
       have z15:=k15.size
       have l15 : LAt W15 (fun b=>w.heap.size+1 ≤ b∧b ≠ W1.heap.size) (.slice (some ⟨W14.heap.size,0,none⟩) 2 2) [nd,x14]:=LAt.n2 j15 (by have:=k14.size;have:=(((((KeptR.refl P.R wr).trans b3).trans b12).trans (.of (B0.drew))).trans b14).size;exact ⟨by omega,by omega⟩) (lN.keep ((((((KeptR.refl P.R wr).trans b3).trans b12).trans (.of (B0.drew))).trans b14).trans b15).size (fun b hb hl=>((((((KeptR.refl P.R wr).trans b3).trans b12).trans (.of (B0.drew))).trans b14).trans b15).block b hl (by have:=hb.1;omega))) (l14.keep ((KeptR.refl P.R W14).trans b15).size (fun b hb hl=>((KeptR.refl P.R W14).trans b15).block b hl (by have:=hb.1;omega)))
       clear vv
       have vv : W15.heap[W1.heap.size]?=_:=(((((((KeptR.refl P.R wr).trans b3).trans b12).trans (.of (B0.drew))).trans b14).trans b15).block W1.heap.size hV0 (by omega)).trans v0
       obtain ⟨⟨_,_,_,_⟩,_,_,_,_⟩:=t4 vv
       have s16:=t4_set (.int .i64 22) (.string ⟨#[]⟩) (.int .i64 0) (Value.slice (some ⟨W14.heap.size,0,none⟩) 2 2) vv
       have k16:=(((k15.new (n:=W1.heap.size) (by omega) 0 (.int .i64 22)).new (n:=W1.heap.size) (by omega) 1 (.string ⟨#[]⟩)).new (n:=W1.heap.size) (by omega) 2 (.int .i64 0)).new (n:=W1.heap.size) (by omega) 3 (Value.slice (some ⟨W14.heap.size,0,none⟩) 2 2)
       have z16:=k16.size
       have r16:=r15.set4 (n:=W1.heap.size) (by omega) (fun q=>by have:=h.x.lt q;omega) (.int .i64 22) (.string ⟨#[]⟩) (.int .i64 0) (Value.slice (some ⟨W14.heap.size,0,none⟩) 2 2)
       have l16:=((l15.keep (KeptR.refl P.R W15).size (fun b hb hl=>(KeptR.refl P.R W15).block b hl (by have:=hb.1;omega)))).keep (w':=((((W15.setCell ⟨W1.heap.size,0,none⟩ (.int .i64 22)).setCell ⟨W1.heap.size,1,none⟩ (.string ⟨#[]⟩)).setCell ⟨W1.heap.size,2,none⟩ (.int .i64 0)).setCell ⟨W1.heap.size,3,none⟩ (Value.slice (some ⟨W14.heap.size,0,none⟩) 2 2))) (by simp [World.setCell]) (fun b hb hl=>blk_set4 hb.2 _ _ _ _)
       have hV16:=(Array.getElem?_eq_some_iff.1 s16).1
       go_wp2_with fail
       go_at_call 39
       refine (want_any r16 sBc).mono ?_
       rintro e W17 A17
       cases h17 : wantR L sBc a14 with
       | bad p er =>
        rw [h17] at A17
        obtain ⟨rfl,b17⟩:=A17
        obtain rfl : Rs.bad p er=res:=by rw [← HR.out,postG];simp [Rs.bind,mtT,q3,q12,h14,h17]
        exact ⟨rfl,rfl,a0.trans (k16.trans b17)⟩
       | ok x17 a17 =>
        rw [h17] at A17
        obtain ⟨rfl,r17,b17⟩:=A17
        have g17:=(want_ge L sBc a14) _ _ h17
        have y17:=r17.le
        have k17:=k16.trans b17
        have z17:=k17.size
        have v16:=(((KeptR.refl P.R _).trans b17).block W1.heap.size hV16 (by omega)).trans s16
        go_wp2
        go_roundg g
        case rel=>exact ⟨(mk0 22 ⟨#[]⟩ [nd,x14]),a17,some _,2,by show _=_;rw [← HR.out,postG];simp [Rs.bind,mtT,q3,q12,h14,h17],by show _ ≤ _;omega,r17,v16,l16.keep ((KeptR.refl P.R _).trans b17).size (fun b hb hl=>((KeptR.refl P.R _).trans b17).block b hl (by have:=hb.1;omega)),k17,by have:=((KeptR.refl P.R _).trans b17).size;omega,by omega⟩
        case measure=>omega
    | false =>
     have T12:=take_any r3 sBo
     rw [q12] at T12
     go_wp2_with fail
     go_at_call 40
     refine T12.mono ?_
     rintro e W12 ⟨rfl,r12',b12⟩
     have r12 : Rd W12 P L b (opE o):=r12'
     clear r12'
     have k12:=k3.trans b12
     have z12:=k12.size
     have y12:=r12.le
     cases q22 : isS L b sPo with
     | true =>
      have T22:=take_any r12 sPo
      rw [q22] at T22
      have u22:=isS_lt q22
      go_wp2_with fail
      go_at_call 40
      refine T22.mono ?_
      rintro e W22 ⟨rfl,r22',b22⟩
      have r22 : Rd W22 P L (b+1) (opE o):=r22'
      clear r22'
      have k22:=k12.trans b22
      have z22:=k22.size
      have y22:=r22.le
      go_wp2_with fail
      refine wp_region_any (by kernel_rfl) ?_
      change wpAny _ _ _ _ _ _ _ (World.drew _)
      have zd23 : W22.drew.heap.size=W22.heap.size:=rfl
      refine tk 2 (.pointer (some ⟨P.R,0,none⟩)) ?_
      refine tk 3 (.pointer (some ⟨P.R,0,none⟩)) ?_
      refine tk 4 (.pointer (some ⟨P.R,0,none⟩)) ?_
      refine tk 5 (.pointer (some ⟨P.R,0,none⟩)) ?_
      refine tk 6 (.func (.func 126) #[.pointer (some ⟨P.R,0,none⟩)] #[]) ?_
      have vv : W22.drew.heap[W1.heap.size]?=_:=((((((KeptR.refl P.R wr).trans b3).trans b12).trans b22).trans (.of (B0.drew))).block W1.heap.size hV0 (by omega)).trans v0
      obtain ⟨⟨_,_,_,_⟩,_,_,_,_⟩:=t4 vv
      refine wpAny_ready (rs:=[0,7]) (by kernel_rfl) (by simp) ?_
      refine AllReady.cons rfl (fun K hK=>?_) (AllReady.cons rfl (fun K hK=>?_) AllReady.nil)
      ·go_simp
       refine hK _ _ ?_
       clear hK K
       refine wpAny_two (i:=1) (j:=7) (is:=[7,8,9,10]) (js:=[1,8,9,10]) (os:=[_,_,_,_]) (us:=[_,_,_,_]) (by kernel_rfl) rfl rfl (by kernel_rfl) (by kernel_rfl) rfl rfl (by decide) (by decide) ?_ ?_
       ·simp only [List.getElem_toArray,List.getElem_cons_zero,List.getElem_cons_succ]
        go_wp2_with fail
        go_at_call 84
        refine (listE_any (k:=126) (rs:=#[.pointer (some ⟨P.R,0,none⟩)]) (caps:=#[]) eg_anExpr hs ((r22.bel (B0.drew)).bel (B0.alloc le0 _)) (fun b=>exprF L f b o) (fun b=>MN.expr' b o) (fun W b hb r=>HE'.out _ _ _ _ r (by omega) (by have:=r.le;unfold Ms at *;omega)) (s:=sPc)).mono ?_
        rintro e W25 A25
        cases h25 : listE L (fun b=>exprF L f b o) sPc (b+1) with
        | bad p er =>
         rw [h25] at A25
         obtain ⟨rfl,b25⟩:=A25
         obtain rfl : Rs.bad p er=res:=by rw [← HR.out,postG];simp [Rs.bind,mtT,q3,q12,q22,h25]
         exact ⟨rfl,rfl,a0.trans (((k22.trans (.of (B0.drew))).alloc _).trans b25.one)⟩
        | ok x25 a25 =>
         rw [h25] at A25
         obtain ⟨ad25,c25,he25,l25',r25,b25'⟩:=A25
         obtain ⟨yv25,hyv25⟩ : ∃ y,y=Value.slice ad25 x25.length c25:=⟨_,rfl⟩
         rw [← hyv25] at he25
         subst he25
         have HY25 : Hid (yv25=Value.slice ad25 x25.length c25):=hyv25
         clear hyv25
         have b25:=b25'.one
         have g25:=(listE_ge (fun b=>MN.expr' b o) (b+1)) _ _ h25
         have y25:=r25.le
         have k25:=((k22.trans (.of (B0.drew))).alloc (Obj.cells #[.int .i64 nd.k,.string nd.t,.int .i64 nd.n,.slice ad nd.ks.length c] 24)).trans b25
         have z25:=k25.size
         have l25:=l25'.mono (T:=fun b=>w.heap.size+1 ≤ b∧b ≠ W1.heap.size) (fun b hb=>by have:=((k22.trans (.of (B0.drew))).alloc (Obj.cells #[.int .i64 nd.k,.string nd.t,.int .i64 nd.n,.slice ad nd.ks.length c] 24)).size;have:=((((((KeptR.refl P.R wr).trans b3).trans b12).trans b22).trans (.of (B0.drew))).alloc (Obj.cells #[.int .i64 nd.k,.string nd.t,.int .i64 nd.n,.slice ad nd.ks.length c] 24)).size;exact ⟨by omega,by omega⟩)
         clear vv
         have vv : W25.heap[W1.heap.size]?=_:=((((((((KeptR.refl P.R wr).trans b3).trans b12).trans b22).trans (.of (B0.drew))).alloc _).trans b25).block W1.heap.size hV0 (by omega)).trans v0
         obtain ⟨⟨_,_,_,_⟩,_,_,_,_⟩:=t4 vv
         have j24 : W25.heap[W22.drew.heap.size]?=_:=(((KeptR.refl P.R _).trans b25).block (W22.drew.heap.size) (by simp) (by have:=(k22.trans (.of (B0.drew))).size;omega)).trans (heap_alloc_new W22.drew _)
         have hblk : w.heap.size+1 ≤ W22.drew.heap.size:=by have:=(k22.trans (.of (B0.drew))).size;omega
         have hVb : W1.heap.size < W22.drew.heap.size:=by have:=(((((KeptR.refl P.R wr).trans b3).trans b12).trans b22).trans (.of (B0.drew))).size;omega
         have hbW : W22.drew.heap.size < W25.heap.size:=(Array.getElem?_eq_some_iff.1 j24).1
         have LN : LAt W25 (fun b=>w.heap.size+1 ≤ b∧b ≠ W1.heap.size∧b ≠ W22.drew.heap.size) (Value.slice ad nd.ks.length c) nd.ks:=(lN.mono' (T:=fun b=>w.heap.size+1 ≤ b∧b ≠ W1.heap.size∧b ≠ W22.drew.heap.size) (fun b hl hb=>⟨hb.1,hb.2,by have:=(((((KeptR.refl P.R wr).trans b3).trans b12).trans b22).trans (.of (B0.drew))).size;omega⟩)).keep (((((((KeptR.refl P.R wr).trans b3).trans b12).trans b22).trans (.of (B0.drew))).alloc _).trans b25).size (fun b hb hl=>(((((((KeptR.refl P.R wr).trans b3).trans b12).trans b22).trans (.of (B0.drew))).alloc _).trans b25).block b hl (by have:=hb.1;omega))
         have LX : LAt W25 (fun b=>w.heap.size+1 ≤ b∧b ≠ W1.heap.size∧b ≠ W22.drew.heap.size) (Value.slice ad25 x25.length c25) x25:=l25'.mono (fun b hb=>by simp at hb;exact ⟨by omega,by omega,by omega⟩)
         have o26 : W25.ownsRow (w.heap.size+1) 24 4 (.slice (some ⟨W22.drew.heap.size,0,none⟩) 1 1) 1 (rowN [(nd,Value.slice ad nd.ks.length c)]):=⟨rfl,.inr ⟨_,_,_,rfl,hblk,j24,by omega,by unfold maxLen;omega,rfl,rfl⟩⟩
         dsimp only
         refine ‹∀ (a : Act) (w : World),wpList _ _ _ _ a w→_› _ _ ?_
         have hxl:=listE_len (fun b=>MN.expr' b o) h25
         go_wp2_with (at_builtin;refine wpList_append_lat _ (by rfl) _ _ (by rfl) (w.heap.size+1) _ 1 _ (by rfl) o26 (fun b=>w.heap.size+1 ≤ b∧b ≠ W1.heap.size∧b ≠ W22.drew.heap.size) ad25 c25 x25 (by exact HY25.out) LX (by have:=h.small;omega) (by omega) ?_;intro vA WA FA hFA oA gA hA kA)
         have nB : ∀ b,b < W25.heap.size→b ≠ W22.drew.heap.size→WA.heap[b]?=W25.heap[b]?:=fun b h1 h2=>gA.block b h1 (by simp [Value.ownBlock];omega)
         have zB:=gA.size
         have kA0 : KeptR P.R (w.alloc zN) WA:=kept_own k25 gA (fun g e=>by simp [Value.ownBlock] at e;omega)
         have rA:=rd_own (B:=w.heap.size) r25 gA (fun g e=>by simp [Value.ownBlock] at e;omega) (by omega) h.x.lt
         have v0:=(nB W1.heap.size (by omega) (by omega)).trans vv
         have hV0 : W1.heap.size < WA.heap.size:=by omega
         have hgA : ∀ g,vA.ownBlock=some g→w.heap.size+1 ≤ g∧g ≠ W1.heap.size:=fun g e=>(hA g e).elim (fun e1=>by simp [Value.ownBlock] at e1;exact ⟨by omega,by omega⟩) (fun e1=>⟨by omega,by omega⟩)
         have eF : ((nd,Value.slice ad nd.ks.length c) :: FA).length=1+x25.length:=by rw [← hFA];simp;omega
         have lA0 : LAt WA (fun b=>w.heap.size+1 ≤ b∧b ≠ W1.heap.size) vA ((((nd,Value.slice ad nd.ks.length c) :: FA)).map (·.1)):=lat_of_row (base:=w.heap.size+1) (by rw [eF];exact oA) (fun p hp=>(List.mem_cons.1 hp).elim (fun e=>by subst e;exact (LN.keep zB (fun b hb hl=>nB b hl hb.2.2)).mono (fun b hb=>⟨hb.1,hb.2.1⟩)) (fun hp=>((kA p hp).keep zB (fun b hb hl=>nB b hl hb.2.2)).mono (fun b hb=>⟨hb.1,hb.2.1⟩))) hgA
         have lA : LAt WA (fun b=>w.heap.size+1 ≤ b∧b ≠ W1.heap.size) vA (nd :: x25):=by rw [List.map_cons,hFA] at lA0;exact lA0
         obtain ⟨adA,cA,eA⟩:=lA.sl
         subst eA
         clear vv
         have vv : WA.heap[W1.heap.size]?=_:=((KeptR.refl P.R WA).block W1.heap.size hV0 (by omega)).trans v0
         obtain ⟨⟨_,_,_,_⟩,_,_,_,_⟩:=t4 vv
         go_at_call 42
         refine (node_any 19 ⟨#[]⟩ adA (nd :: x25).length cA _).mono ?_
         rintro e W27 ⟨rfl,b27'⟩
         have r27:=rA.bel b27'
         have b27:=KeptR.of (b:=P.R) b27'
         have k27:=kA0.trans b27
         have z27:=k27.size
         clear vv
         have vv : W27.heap[W1.heap.size]?=_:=(((KeptR.refl P.R WA).trans b27).block W1.heap.size hV0 (by omega)).trans v0
         obtain ⟨⟨_,_,_,_⟩,_,_,_,_⟩:=t4 vv
         go_wp2
         go_roundg g
         case rel=>exact ⟨(mk0 19 mtT (nd :: x25)),a25,adA,cA,by show _=_;rw [← HR.out,postG];simp [Rs.bind,mtT,q3,q12,q22,h25],by show _ ≤ _;omega,r27.set4 (by omega) (fun q=>by have:=h.x.lt q;omega) _ _ _ _,t4_set _ _ _ _ vv,((lA.keep ((KeptR.refl P.R WA).trans b27).size (fun b hb hl=>((KeptR.refl P.R WA).trans b27).block b hl (by have:=hb.1;omega)))).keep (by simp [World.setCell]) (fun b hb hl=>blk_set4 hb.2 _ _ _ _),(((k27.new (by omega) _ _).new (by omega) _ _).new (by omega) _ _).new (by omega) _ _,by simp [World.setCell];have:=((KeptR.refl P.R WA).trans b27).size;omega,by omega⟩
         case measure=>omega
       ·simp only [List.getElem_toArray,List.getElem_cons_zero,List.getElem_cons_succ]
        go_wp2_with fail
        go_at_call 84
        refine (listE_any (k:=126) (rs:=#[.pointer (some ⟨P.R,0,none⟩)]) (caps:=#[]) eg_anExpr hs (r22.bel (B0.drew)) (fun b=>exprF L f b o) (fun b=>MN.expr' b o) (fun W b hb r=>HE'.out _ _ _ _ r (by omega) (by have:=r.le;unfold Ms at *;omega)) (s:=sPc)).mono ?_
        rintro e W28 A28
        cases h28 : listE L (fun b=>exprF L f b o) sPc (b+1) with
        | bad p er =>
         rw [h28] at A28
         obtain ⟨rfl,b28⟩:=A28
         obtain rfl : Rs.bad p er=res:=by rw [← HR.out,postG];simp [Rs.bind,mtT,q3,q12,q22,h28]
         exact ⟨rfl,rfl,a0.trans ((k22.trans (.of (B0.drew))).trans b28.one)⟩
        | ok x28 a28 =>
         rw [h28] at A28
         obtain ⟨ad28,c28,he28,l28',r28,b28'⟩:=A28
         obtain ⟨yv28,hyv28⟩ : ∃ y,y=Value.slice ad28 x28.length c28:=⟨_,rfl⟩
         rw [← hyv28] at he28
         subst he28
         have HY28 : Hid (yv28=Value.slice ad28 x28.length c28):=hyv28
         clear hyv28
         have b28:=b28'.one
         have g28:=(listE_ge (fun b=>MN.expr' b o) (b+1)) _ _ h28
         have y28:=r28.le
         have k28:=(k22.trans (.of (B0.drew))).trans b28
         have z28:=k28.size
         have l28:=l28'.mono (T:=fun b=>w.heap.size+1 ≤ b∧b ≠ W1.heap.size) (fun b hb=>by have:=(k22.trans (.of (B0.drew))).size;have:=(((((KeptR.refl P.R wr).trans b3).trans b12).trans b22).trans (.of (B0.drew))).size;exact ⟨by omega,by omega⟩)
         clear vv
         have vv : W28.heap[W1.heap.size]?=_:=(((((((KeptR.refl P.R wr).trans b3).trans b12).trans b22).trans (.of (B0.drew))).trans b28).block W1.heap.size hV0 (by omega)).trans v0
         obtain ⟨⟨_,_,_,_⟩,_,_,_,_⟩:=t4 vv
         clear vv
         have vv : (W28.alloc (Obj.cells #[.int .i64 nd.k,.string nd.t,.int .i64 nd.n,.slice ad nd.ks.length c] 24)).heap[W1.heap.size]?=_:=((((((((KeptR.refl P.R wr).trans b3).trans b12).trans b22).trans (.of (B0.drew))).trans b28).alloc _).block W1.heap.size hV0 (by omega)).trans v0
         obtain ⟨⟨_,_,_,_⟩,_,_,_,_⟩:=t4 vv
         have j29 : (W28.alloc (Obj.cells #[.int .i64 nd.k,.string nd.t,.int .i64 nd.n,.slice ad nd.ks.length c] 24)).heap[W28.heap.size]?=some (.cells #[.int .i64 nd.k,.string nd.t,.int .i64 nd.n,.slice ad nd.ks.length c] 24 (0,0)):=((KeptR.refl P.R _).block (W28.heap.size) (by simp) (by have:=k28.size;omega)).trans (heap_alloc_new W28 _)
         have hblk : w.heap.size+1 ≤ W28.heap.size:=by have:=k28.size;omega
         have hVb : W1.heap.size < W28.heap.size:=by have:=((((((KeptR.refl P.R wr).trans b3).trans b12).trans b22).trans (.of (B0.drew))).trans b28).size;omega
         have hbW : W28.heap.size < (W28.alloc (Obj.cells #[.int .i64 nd.k,.string nd.t,.int .i64 nd.n,.slice ad nd.ks.length c] 24)).heap.size:=(Array.getElem?_eq_some_iff.1 j29).1
         have LN : LAt (W28.alloc (Obj.cells #[.int .i64 nd.k,.string nd.t,.int .i64 nd.n,.slice ad nd.ks.length c] 24)) (fun b=>w.heap.size+1 ≤ b∧b ≠ W1.heap.size∧b ≠ W28.heap.size) (Value.slice ad nd.ks.length c) nd.ks:=(lN.mono' (T:=fun b=>w.heap.size+1 ≤ b∧b ≠ W1.heap.size∧b ≠ W28.heap.size) (fun b hl hb=>⟨hb.1,hb.2,by have:=((((((KeptR.refl P.R wr).trans b3).trans b12).trans b22).trans (.of (B0.drew))).trans b28).size;omega⟩)).keep (((((((KeptR.refl P.R wr).trans b3).trans b12).trans b22).trans (.of (B0.drew))).trans b28).alloc _).size (fun b hb hl=>(((((((KeptR.refl P.R wr).trans b3).trans b12).trans b22).trans (.of (B0.drew))).trans b28).alloc _).block b hl (by have:=hb.1;omega))
         have LX : LAt (W28.alloc (Obj.cells #[.int .i64 nd.k,.string nd.t,.int .i64 nd.n,.slice ad nd.ks.length c] 24)) (fun b=>w.heap.size+1 ≤ b∧b ≠ W1.heap.size∧b ≠ W28.heap.size) (Value.slice ad28 x28.length c28) x28:=(l28.mono' (T:=fun b=>w.heap.size+1 ≤ b∧b ≠ W1.heap.size∧b ≠ W28.heap.size) (fun b hl hb=>⟨hb.1,hb.2,by omega⟩)).keep ((KeptR.refl P.R W28).alloc _).size (fun b hb hl=>((KeptR.refl P.R W28).alloc _).block b hl (by have:=hb.1;omega))
         have o30 : (W28.alloc (Obj.cells #[.int .i64 nd.k,.string nd.t,.int .i64 nd.n,.slice ad nd.ks.length c] 24)).ownsRow (w.heap.size+1) 24 4 (.slice (some ⟨W28.heap.size,0,none⟩) 1 1) 1 (rowN [(nd,Value.slice ad nd.ks.length c)]):=⟨rfl,.inr ⟨_,_,_,rfl,hblk,j29,by omega,by unfold maxLen;omega,rfl,rfl⟩⟩
         dsimp only
         refine ‹∀ (a : Act) (w : World),wpList _ _ _ _ a w→_› _ _ ?_
         have hxl:=listE_len (fun b=>MN.expr' b o) h28
         go_wp2_with (at_builtin;refine wpList_append_lat _ (by rfl) _ _ (by rfl) (w.heap.size+1) _ 1 _ (by rfl) o30 (fun b=>w.heap.size+1 ≤ b∧b ≠ W1.heap.size∧b ≠ W28.heap.size) ad28 c28 x28 (by exact HY28.out) LX (by have:=h.small;omega) (by omega) ?_;intro vA WA FA hFA oA gA hA kA)
         have nB : ∀ b,b < (W28.alloc (Obj.cells #[.int .i64 nd.k,.string nd.t,.int .i64 nd.n,.slice ad nd.ks.length c] 24)).heap.size→b ≠ W28.heap.size→WA.heap[b]?=(W28.alloc (Obj.cells #[.int .i64 nd.k,.string nd.t,.int .i64 nd.n,.slice ad nd.ks.length c] 24)).heap[b]?:=fun b h1 h2=>gA.block b h1 (by simp [Value.ownBlock];omega)
         have zB:=gA.size
         have kA0 : KeptR P.R (w.alloc zN) WA:=kept_own (k28.alloc _) gA (fun g e=>by simp [Value.ownBlock] at e;omega)
         have rA:=rd_own (B:=w.heap.size) (r28.bel (B0.alloc le0 (Obj.cells #[.int .i64 nd.k,.string nd.t,.int .i64 nd.n,.slice ad nd.ks.length c] 24))) gA (fun g e=>by simp [Value.ownBlock] at e;omega) (by omega) h.x.lt
         have v0:=(nB W1.heap.size (by omega) (by omega)).trans vv
         have hV0 : W1.heap.size < WA.heap.size:=by omega
         have hgA : ∀ g,vA.ownBlock=some g→w.heap.size+1 ≤ g∧g ≠ W1.heap.size:=fun g e=>(hA g e).elim (fun e1=>by simp [Value.ownBlock] at e1;exact ⟨by omega,by omega⟩) (fun e1=>⟨by omega,by omega⟩)
         have eF : ((nd,Value.slice ad nd.ks.length c) :: FA).length=1+x28.length:=by rw [← hFA];simp;omega
         have lA0 : LAt WA (fun b=>w.heap.size+1 ≤ b∧b ≠ W1.heap.size) vA ((((nd,Value.slice ad nd.ks.length c) :: FA)).map (·.1)):=lat_of_row (base:=w.heap.size+1) (by rw [eF];exact oA) (fun p hp=>(List.mem_cons.1 hp).elim (fun e=>by subst e;exact (LN.keep zB (fun b hb hl=>nB b hl hb.2.2)).mono (fun b hb=>⟨hb.1,hb.2.1⟩)) (fun hp=>((kA p hp).keep zB (fun b hb hl=>nB b hl hb.2.2)).mono (fun b hb=>⟨hb.1,hb.2.1⟩))) hgA
         have lA : LAt WA (fun b=>w.heap.size+1 ≤ b∧b ≠ W1.heap.size) vA (nd :: x28):=by rw [List.map_cons,hFA] at lA0;exact lA0
         obtain ⟨adA,cA,eA⟩:=lA.sl
         subst eA
         clear vv
         have vv : WA.heap[W1.heap.size]?=_:=((KeptR.refl P.R WA).block W1.heap.size hV0 (by omega)).trans v0
         obtain ⟨⟨_,_,_,_⟩,_,_,_,_⟩:=t4 vv
         go_at_call 42
         refine (node_any 19 ⟨#[]⟩ adA (nd :: x28).length cA _).mono ?_
         rintro e W31 ⟨rfl,b31'⟩
         have r31:=rA.bel b31'
         have b31:=KeptR.of (b:=P.R) b31'
         have k31:=kA0.trans b31
         have z31:=k31.size
         clear vv
         have vv : W31.heap[W1.heap.size]?=_:=(((KeptR.refl P.R WA).trans b31).block W1.heap.size hV0 (by omega)).trans v0
         obtain ⟨⟨_,_,_,_⟩,_,_,_,_⟩:=t4 vv
         go_wp2
         go_roundg g
         case rel=>exact ⟨(mk0 19 mtT (nd :: x28)),a28,adA,cA,by show _=_;rw [← HR.out,postG];simp [Rs.bind,mtT,q3,q12,q22,h28],by show _ ≤ _;omega,r31.set4 (by omega) (fun q=>by have:=h.x.lt q;omega) _ _ _ _,t4_set _ _ _ _ vv,((lA.keep ((KeptR.refl P.R WA).trans b31).size (fun b hb hl=>((KeptR.refl P.R WA).trans b31).block b hl (by have:=hb.1;omega)))).keep (by simp [World.setCell]) (fun b hb hl=>blk_set4 hb.2 _ _ _ _),(((k31.new (by omega) _ _).new (by omega) _ _).new (by omega) _ _).new (by omega) _ _,by simp [World.setCell];have:=((KeptR.refl P.R WA).trans b31).size;omega,by omega⟩
         case measure=>omega
      ·go_simp
       go_at_call 84
       refine (listE_any (k:=126) (rs:=#[.pointer (some ⟨P.R,0,none⟩)]) (caps:=#[]) eg_anExpr hs (r22.bel (B0.drew)) (fun b=>exprF L f b o) (fun b=>MN.expr' b o) (fun W b hb r=>HE'.out _ _ _ _ r (by omega) (by have:=r.le;unfold Ms at *;omega)) (s:=sPc)).mono ?_
       rintro e W32 A32
       cases h32 : listE L (fun b=>exprF L f b o) sPc (b+1) with
       | bad p er =>
        rw [h32] at A32
        obtain ⟨rfl,b32⟩:=A32
        obtain rfl : Rs.bad p er=res:=by rw [← HR.out,postG];simp [Rs.bind,mtT,q3,q12,q22,h32]
        exact ⟨rfl,rfl,a0.trans ((k22.trans (.of (B0.drew))).trans b32.one)⟩
       | ok x32 a32 =>
        rw [h32] at A32
        obtain ⟨ad32,c32,he32,l32',r32,b32'⟩:=A32
        obtain ⟨yv32,hyv32⟩ : ∃ y,y=Value.slice ad32 x32.length c32:=⟨_,rfl⟩
        rw [← hyv32] at he32
        subst he32
        have HY32 : Hid (yv32=Value.slice ad32 x32.length c32):=hyv32
        clear hyv32
        have b32:=b32'.one
        have g32:=(listE_ge (fun b=>MN.expr' b o) (b+1)) _ _ h32
        have y32:=r32.le
        have k32:=(k22.trans (.of (B0.drew))).trans b32
        have z32:=k32.size
        have l32:=l32'.mono (T:=fun b=>w.heap.size+1 ≤ b∧b ≠ W1.heap.size) (fun b hb=>by have:=(k22.trans (.of (B0.drew))).size;have:=(((((KeptR.refl P.R wr).trans b3).trans b12).trans b22).trans (.of (B0.drew))).size;exact ⟨by omega,by omega⟩)
        refine hK _ _ ?_
        clear hK K
        clear vv
        have vv : W32.heap[W1.heap.size]?=_:=(((((((KeptR.refl P.R wr).trans b3).trans b12).trans b22).trans (.of (B0.drew))).trans b32).block W1.heap.size hV0 (by omega)).trans v0
        obtain ⟨⟨_,_,_,_⟩,_,_,_,_⟩:=t4 vv
        refine wpAny_chain [_,_,_,_,_] [0,1,8,9,10] _ _ _ _ (by kernel_rfl) rfl (by decide) ?_
        simp only [List.getElem_toArray,List.getElem_cons_zero,List.getElem_cons_succ]
        clear vv
        have vv : (W32.alloc (Obj.cells #[.int .i64 nd.k,.string nd.t,.int .i64 nd.n,.slice ad nd.ks.length c] 24)).heap[W1.heap.size]?=_:=((((((((KeptR.refl P.R wr).trans b3).trans b12).trans b22).trans (.of (B0.drew))).trans b32).alloc _).block W1.heap.size hV0 (by omega)).trans v0
        obtain ⟨⟨_,_,_,_⟩,_,_,_,_⟩:=t4 vv
        have j33 : (W32.alloc (Obj.cells #[.int .i64 nd.k,.string nd.t,.int .i64 nd.n,.slice ad nd.ks.length c] 24)).heap[W32.heap.size]?=some (.cells #[.int .i64 nd.k,.string nd.t,.int .i64 nd.n,.slice ad nd.ks.length c] 24 (0,0)):=((KeptR.refl P.R _).block (W32.heap.size) (by simp) (by have:=k32.size;omega)).trans (heap_alloc_new W32 _)
        have hblk : w.heap.size+1 ≤ W32.heap.size:=by have:=k32.size;omega
        have hVb : W1.heap.size < W32.heap.size:=by have:=((((((KeptR.refl P.R wr).trans b3).trans b12).trans b22).trans (.of (B0.drew))).trans b32).size;omega
        have hbW : W32.heap.size < (W32.alloc (Obj.cells #[.int .i64 nd.k,.string nd.t,.int .i64 nd.n,.slice ad nd.ks.length c] 24)).heap.size:=(Array.getElem?_eq_some_iff.1 j33).1
        have LN : LAt (W32.alloc (Obj.cells #[.int .i64 nd.k,.string nd.t,.int .i64 nd.n,.slice ad nd.ks.length c] 24)) (fun b=>w.heap.size+1 ≤ b∧b ≠ W1.heap.size∧b ≠ W32.heap.size) (Value.slice ad nd.ks.length c) nd.ks:=(lN.mono' (T:=fun b=>w.heap.size+1 ≤ b∧b ≠ W1.heap.size∧b ≠ W32.heap.size) (fun b hl hb=>⟨hb.1,hb.2,by have:=((((((KeptR.refl P.R wr).trans b3).trans b12).trans b22).trans (.of (B0.drew))).trans b32).size;omega⟩)).keep (((((((KeptR.refl P.R wr).trans b3).trans b12).trans b22).trans (.of (B0.drew))).trans b32).alloc _).size (fun b hb hl=>(((((((KeptR.refl P.R wr).trans b3).trans b12).trans b22).trans (.of (B0.drew))).trans b32).alloc _).block b hl (by have:=hb.1;omega))
        have LX : LAt (W32.alloc (Obj.cells #[.int .i64 nd.k,.string nd.t,.int .i64 nd.n,.slice ad nd.ks.length c] 24)) (fun b=>w.heap.size+1 ≤ b∧b ≠ W1.heap.size∧b ≠ W32.heap.size) (Value.slice ad32 x32.length c32) x32:=(l32.mono' (T:=fun b=>w.heap.size+1 ≤ b∧b ≠ W1.heap.size∧b ≠ W32.heap.size) (fun b hl hb=>⟨hb.1,hb.2,by omega⟩)).keep ((KeptR.refl P.R W32).alloc _).size (fun b hb hl=>((KeptR.refl P.R W32).alloc _).block b hl (by have:=hb.1;omega))
        have o34 : (W32.alloc (Obj.cells #[.int .i64 nd.k,.string nd.t,.int .i64 nd.n,.slice ad nd.ks.length c] 24)).ownsRow (w.heap.size+1) 24 4 (.slice (some ⟨W32.heap.size,0,none⟩) 1 1) 1 (rowN [(nd,Value.slice ad nd.ks.length c)]):=⟨rfl,.inr ⟨_,_,_,rfl,hblk,j33,by omega,by unfold maxLen;omega,rfl,rfl⟩⟩
        have hxl:=listE_len (fun b=>MN.expr' b o) h32
        go_wp2_with (at_builtin;refine wpList_append_lat _ (by rfl) _ _ (by rfl) (w.heap.size+1) _ 1 _ (by rfl) o34 (fun b=>w.heap.size+1 ≤ b∧b ≠ W1.heap.size∧b ≠ W32.heap.size) ad32 c32 x32 (by exact HY32.out) LX (by have:=h.small;omega) (by omega) ?_;intro vA WA FA hFA oA gA hA kA)
        have nB : ∀ b,b < (W32.alloc (Obj.cells #[.int .i64 nd.k,.string nd.t,.int .i64 nd.n,.slice ad nd.ks.length c] 24)).heap.size→b ≠ W32.heap.size→WA.heap[b]?=(W32.alloc (Obj.cells #[.int .i64 nd.k,.string nd.t,.int .i64 nd.n,.slice ad nd.ks.length c] 24)).heap[b]?:=fun b h1 h2=>gA.block b h1 (by simp [Value.ownBlock];omega)
        have zB:=gA.size
        have kA0 : KeptR P.R (w.alloc zN) WA:=kept_own (k32.alloc _) gA (fun g e=>by simp [Value.ownBlock] at e;omega)
        have rA:=rd_own (B:=w.heap.size) (r32.bel (B0.alloc le0 (Obj.cells #[.int .i64 nd.k,.string nd.t,.int .i64 nd.n,.slice ad nd.ks.length c] 24))) gA (fun g e=>by simp [Value.ownBlock] at e;omega) (by omega) h.x.lt
        have v0:=(nB W1.heap.size (by omega) (by omega)).trans vv
        have hV0 : W1.heap.size < WA.heap.size:=by omega
        have hgA : ∀ g,vA.ownBlock=some g→w.heap.size+1 ≤ g∧g ≠ W1.heap.size:=fun g e=>(hA g e).elim (fun e1=>by simp [Value.ownBlock] at e1;exact ⟨by omega,by omega⟩) (fun e1=>⟨by omega,by omega⟩)
        have eF : ((nd,Value.slice ad nd.ks.length c) :: FA).length=1+x32.length:=by rw [← hFA];simp;omega
        have lA0 : LAt WA (fun b=>w.heap.size+1 ≤ b∧b ≠ W1.heap.size) vA ((((nd,Value.slice ad nd.ks.length c) :: FA)).map (·.1)):=lat_of_row (base:=w.heap.size+1) (by rw [eF];exact oA) (fun p hp=>(List.mem_cons.1 hp).elim (fun e=>by subst e;exact (LN.keep zB (fun b hb hl=>nB b hl hb.2.2)).mono (fun b hb=>⟨hb.1,hb.2.1⟩)) (fun hp=>((kA p hp).keep zB (fun b hb hl=>nB b hl hb.2.2)).mono (fun b hb=>⟨hb.1,hb.2.1⟩))) hgA
        have lA : LAt WA (fun b=>w.heap.size+1 ≤ b∧b ≠ W1.heap.size) vA (nd :: x32):=by rw [List.map_cons,hFA] at lA0;exact lA0
        obtain ⟨adA,cA,eA⟩:=lA.sl
        subst eA
        clear vv
        have vv : WA.heap[W1.heap.size]?=_:=((KeptR.refl P.R WA).block W1.heap.size hV0 (by omega)).trans v0
        obtain ⟨⟨_,_,_,_⟩,_,_,_,_⟩:=t4 vv
        go_at_call 42
        refine (node_any 19 ⟨#[]⟩ adA (nd :: x32).length cA _).mono ?_
        rintro e W35 ⟨rfl,b35'⟩
        have r35:=rA.bel b35'
        have b35:=KeptR.of (b:=P.R) b35'
        have k35:=kA0.trans b35
        have z35:=k35.size
        clear vv
        have vv : W35.heap[W1.heap.size]?=_:=(((KeptR.refl P.R WA).trans b35).block W1.heap.size hV0 (by omega)).trans v0
        obtain ⟨⟨_,_,_,_⟩,_,_,_,_⟩:=t4 vv
        go_wp2
        go_roundg g
        case rel=>exact ⟨(mk0 19 mtT (nd :: x32)),a32,adA,cA,by show _=_;rw [← HR.out,postG];simp [Rs.bind,mtT,q3,q12,q22,h32],by show _ ≤ _;omega,r35.set4 (by omega) (fun q=>by have:=h.x.lt q;omega) _ _ _ _,t4_set _ _ _ _ vv,((lA.keep ((KeptR.refl P.R WA).trans b35).size (fun b hb hl=>((KeptR.refl P.R WA).trans b35).block b hl (by have:=hb.1;omega)))).keep (by simp [World.setCell]) (fun b hb hl=>blk_set4 hb.2 _ _ _ _),(((k35.new (by omega) _ _).new (by omega) _ _).new (by omega) _ _).new (by omega) _ _,by simp [World.setCell];have:=((KeptR.refl P.R WA).trans b35).size;omega,by omega⟩
        case measure=>omega
     | false =>
      have T22:=take_any r12 sPo
      rw [q22] at T22
      go_wp2_with fail
      go_at_call 40
      refine T22.mono ?_
      rintro e W22 ⟨rfl,r22',b22⟩
      have r22 : Rd W22 P L b (opE o):=r22'
      clear r22'
      have k22:=k12.trans b22
      have z22:=k22.size
      have y22:=r22.le
      have vv : W22.heap[W1.heap.size]?=_:=(((((KeptR.refl P.R wr).trans b3).trans b12).trans b22).block W1.heap.size hV0 (by omega)).trans v0
      obtain ⟨⟨_,_,_,_⟩,_,_,_,_⟩:=t4 vv
      obtain rfl : Rs.ok nd b=res:=by rw [← HR.out,postG];simp [Rs.bind,mtT,q3,q12,q22]
      have m0:=M0.out _ k22
      obtain ⟨⟨_,_,_,_⟩,_,_,_,_⟩:=t4 m0
      go_wp2
      refine bodyPost_ret (res_n4 Tryz.results161 (t4_set _ _ _ _ m0) rfl) rfl ?_
      exact close_ok (x:=nd) h (a0.trans k22) ((lN.keep ((((KeptR.refl P.R wr).trans b3).trans b12).trans b22).size (fun b hb hl=>((((KeptR.refl P.R wr).trans b3).trans b12).trans b22).block b hl (by have:=hb.1;omega))).mono (fun b hb=>hb.1)) (by omega) r22
end Go.Proofs.YthfkfbcopinmiaaGreatDoor
