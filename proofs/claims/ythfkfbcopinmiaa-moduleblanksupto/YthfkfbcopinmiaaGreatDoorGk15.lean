/- Own text. Package parse: the rules,one by one: a primary. Package parse: the rules,one by one: let and const. -/
import Derived.Test.YthfkfbcopinmiaaGreatDoorGk12
import Derived.Test.YthfkfbcopinmiaaGreatDoorGk13
set_option linter.unusedVariables false
set_option linter.unusedSimpArgs false
set_option maxRecDepth 100000
set_option maxHeartbeats 8000000
namespace Go.Proofs.YthfkfbcopinmiaaGreatDoor
open Go.RowKit
theorem prim_step (L : List Tok) (hs : Small L) (f : Nat) (MN : Mono L f) (hWp : CN 164 L f 7 (wprimF L f)) (hSp : CN 165 L f 7 (sprimF L f)) : CN 163 L (f+1) 8 (primF L (f+1)):=by
 intro w P a o h ho hM
 have hRw:=h.lt
 have hle:=h.le
 obtain ⟨h0,a0,z0,M0⟩:=begin_cell h
 obtain ⟨res,hres⟩ : ∃ r,primF L (f+1) a o=r:=⟨_,rfl⟩
 have HR : Hid (primF L (f+1) a o=res):=hres
 rw [hres]
 clear hres
 have HWP' : Hid (CN 164 L f 7 (wprimF L f)):=hWp
 have HSP' : Hid (CN 165 L f 7 (sprimF L f)):=hSp
 clear hWp
 clear hSp
 go_enter Tryz.func163,Tryz.ntmps163
 have TK:=token_any h0
 unfold Tok.v at TK
 have hlt : (tokA L a).k ≠ 0→a < L.length:=kind_lt
 go_wp2_with fail
 go_at_call 36
 refine TK.mono ?_
 rintro e W40 ⟨rfl,b40'⟩
 have r40:=h0.bel b40'
 have b40:=KeptR.of (b:=P.R) b40'
 have k40:=(KeptR.refl P.R (w.alloc zN)).trans b40
 have z40:=k40.size
 obtain ⟨WT,hWT⟩ : ∃ W,W40.alloc (Obj.cells #[.int .i64 (tokA L a).k,.string (tokA L a).t,.int .i64 (tokA L a).n,.int .i64 (tokA L a).p] 37)=W:=⟨_,rfl⟩
 have bT : Below W40.heap.size W40 WT:=by rw [← hWT];exact B0.alloc le0 _
 have mT : WT.heap[W40.heap.size]?=some (.cells #[.int .i64 (tokA L a).k,.string (tokA L a).t,.int .i64 (tokA L a).n,.int .i64 (tokA L a).p] 37 (0,0)):=by rw [← hWT];exact hnew _ rfl
 have rT:=r40.bel bT
 have kT:=k40.trans (.of bT)
 have zT:=kT.size
 obtain ⟨⟨_,_,_,_⟩,_,_,_,_⟩:=t4 mT
 have sT : W40.heap.size < WT.heap.size:=(Array.getElem?_eq_some_iff.1 mT).1
 by_cases e41 : (tokA L a).k=3
 ·have hla:=hlt (by rw [e41];decide)
  have f41 : ((tokA L a).k == 3)=true:=by simp [e41]
  have E41 : Hid ((tokA L a).k=3):=e41
  clear e41
  go_wp2_with fail
  go_at_call 37
  refine (pass_any rT hla (hs.at _)).mono ?_
  rintro e W42 ⟨rfl,r42,b42⟩
  have k42:=kT.trans b42
  have z42:=k42.size
  have y42:=r42.le
  have mN:=(((KeptR.refl P.R WT).trans b42).block W40.heap.size (by omega) (by omega)).trans mT
  obtain ⟨⟨_,_,_,_⟩,_,_,_,_⟩:=t4 mN
  obtain rfl : Rs.ok (Nd.mk 1 mtT (tokA L a).n []) (a+1)=res:=by rw [← HR.out,primF];simp [Rs.bind,mtT,E41.out]
  have m0:=M0.out _ k42
  obtain ⟨⟨_,_,_,_⟩,_,_,_,_⟩:=t4 m0
  go_wp2
  refine bodyPost_ret (res_n4 Tryz.results163 (t4_set _ _ _ _ m0) rfl) rfl ?_
  exact close_ok (x:=(Nd.mk 1 mtT (tokA L a).n [])) h (a0.trans k42) (LAt.nil (S:=fun b=>w.heap.size+1 ≤ b) none 0) (by omega) r42
 ·have f41 : ((tokA L a).k == 3)=false:=by simpa using e41
  have E41 : Hid (¬ (tokA L a).k=3):=e41
  clear e41
  by_cases e43 : (tokA L a).k=4
  ·have hla:=hlt (by rw [e43];decide)
   have f43 : ((tokA L a).k == 4)=true:=by simp [e43]
   have E43 : Hid ((tokA L a).k=4):=e43
   clear e43
   go_wp2_with fail
   go_at_call 37
   refine (pass_any rT hla (hs.at _)).mono ?_
   rintro e W44 ⟨rfl,r44,b44⟩
   have k44:=kT.trans b44
   have z44:=k44.size
   have y44:=r44.le
   go_wp2_with fail
   go_at_call 42
   refine (node_any 2 (tokA L a).t none 0 0 _).mono ?_
   rintro e W46 ⟨rfl,b46'⟩
   have r46:=r44.bel b46'
   have b46:=KeptR.of (b:=P.R) b46'
   have k46:=k44.trans b46
   have z46:=k46.size
   obtain rfl : Rs.ok (mk0 2 (tokA L a).t []) (a+1)=res:=by rw [← HR.out,primF];simp [Rs.bind,mtT,E41.out,E43.out]
   have m0:=M0.out _ k46
   obtain ⟨⟨_,_,_,_⟩,_,_,_,_⟩:=t4 m0
   go_wp2
   refine bodyPost_ret (res_n4 Tryz.results163 (t4_set _ _ _ _ m0) rfl) rfl ?_
   exact close_ok (x:=(mk0 2 (tokA L a).t [])) h (a0.trans k46) (LAt.nil (S:=fun b=>w.heap.size+1 ≤ b) none 0) (by omega) r46
  ·have f43 : ((tokA L a).k == 4)=false:=by simpa using e43
   have E43 : Hid (¬ (tokA L a).k=4):=e43
   clear e43
   by_cases e47 : (tokA L a).k=1
   ·have hla:=hlt (by rw [e47];decide)
    have f47 : ((tokA L a).k == 1)=true:=by simp [e47]
    have E47 : Hid ((tokA L a).k=1):=e47
    clear e47
    go_wp2_with fail
    go_at_call 37
    refine (pass_any rT hla (hs.at _)).mono ?_
    rintro e W48 ⟨rfl,r48,b48⟩
    have k48:=kT.trans b48
    have z48:=k48.size
    have y48:=r48.le
    go_wp2_with fail
    go_at_call 42
    refine (node_any 6 (tokA L a).t none 0 0 _).mono ?_
    rintro e W50 ⟨rfl,b50'⟩
    have r50:=r48.bel b50'
    have b50:=KeptR.of (b:=P.R) b50'
    have k50:=k48.trans b50
    have z50:=k50.size
    obtain rfl : Rs.ok (mk0 6 (tokA L a).t []) (a+1)=res:=by rw [← HR.out,primF];simp [Rs.bind,mtT,E41.out,E43.out,E47.out]
    have m0:=M0.out _ k50
    obtain ⟨⟨_,_,_,_⟩,_,_,_,_⟩:=t4 m0
    go_wp2
    refine bodyPost_ret (res_n4 Tryz.results163 (t4_set _ _ _ _ m0) rfl) rfl ?_
    exact close_ok (x:=(mk0 6 (tokA L a).t [])) h (a0.trans k50) (LAt.nil (S:=fun b=>w.heap.size+1 ≤ b) none 0) (by omega) r50
   ·have f47 : ((tokA L a).k == 1)=false:=by simpa using e47
    have E47 : Hid (¬ (tokA L a).k=1):=e47
    clear e47
    by_cases e51 : (tokA L a).k=2
    ·have hla:=hlt (by rw [e51];decide)
     have f51 : ((tokA L a).k == 2)=true:=by simp [e51]
     have E51 : Hid ((tokA L a).k=2):=e51
     clear e51
     go_wp2_with fail
     go_at_call 164
     refine (HWP'.out _ _ _ _ rT (by omega) (by unfold Ms at *;omega)).mono ?_
     rintro e W52 A52
     cases h52 : wprimF L f a o with
     | bad p er =>
      rw [h52] at A52
      obtain ⟨rfl,b52⟩:=A52
      obtain rfl : Rs.bad p er=res:=by rw [← HR.out,primF];simp [Rs.bind,mtT,E41.out,E43.out,E47.out,E51.out,h52]
      exact ⟨rfl,rfl,a0.trans (kT.trans b52)⟩
     | ok x52 a52 =>
      rw [h52] at A52
      obtain ⟨ad52,c52,rfl,l52',r52,b52⟩:=A52
      have g52:=(MN.wprim' a o) _ _ h52
      have y52:=r52.le
      have k52:=kT.trans b52
      have z52:=k52.size
      have l52:=l52'.mono (T:=fun b=>w.heap.size+1 ≤ b) (fun b hb=>by have:=kT.size;omega)
      obtain rfl : Rs.ok x52 a52=res:=by rw [← HR.out,primF];simp [Rs.bind,mtT,E41.out,E43.out,E47.out,E51.out,h52]
      have m0:=M0.out _ k52
      obtain ⟨⟨_,_,_,_⟩,_,_,_,_⟩:=t4 m0
      go_wp2
      refine bodyPost_ret (res_n4 Tryz.results163 (t4_set _ _ _ _ m0) rfl) rfl ?_
      exact close_ok (x:=x52) h (a0.trans k52) (l52.keepR (KeptR.refl P.R W52) (by omega)) (by omega) r52
    ·have f51 : ((tokA L a).k == 2)=false:=by simpa using e51
     have E51 : Hid (¬ (tokA L a).k=2):=e51
     clear e51
     go_wp2_with fail
     go_at_call 165
     refine (HSP'.out _ _ _ _ rT (by omega) (by unfold Ms at *;omega)).mono ?_
     rintro e W53 A53
     cases h53 : sprimF L f a o with
     | bad p er =>
      rw [h53] at A53
      obtain ⟨rfl,b53⟩:=A53
      obtain rfl : Rs.bad p er=res:=by rw [← HR.out,primF];simp [Rs.bind,mtT,E41.out,E43.out,E47.out,E51.out,h53]
      exact ⟨rfl,rfl,a0.trans (kT.trans b53)⟩
     | ok x53 a53 =>
      rw [h53] at A53
      obtain ⟨ad53,c53,rfl,l53',r53,b53⟩:=A53
      have g53:=(MN.sprim' a o) _ _ h53
      have y53:=r53.le
      have k53:=kT.trans b53
      have z53:=k53.size
      have l53:=l53'.mono (T:=fun b=>w.heap.size+1 ≤ b) (fun b hb=>by have:=kT.size;omega)
      obtain rfl : Rs.ok x53 a53=res:=by rw [← HR.out,primF];simp [Rs.bind,mtT,E41.out,E43.out,E47.out,E51.out,h53]
      have m0:=M0.out _ k53
      obtain ⟨⟨_,_,_,_⟩,_,_,_,_⟩:=t4 m0
      go_wp2
      refine bodyPost_ret (res_n4 Tryz.results163 (t4_set _ _ _ _ m0) rfl) rfl ?_
      exact close_ok (x:=x53) h (a0.trans k53) (l53.keepR (KeptR.refl P.R W53) (by omega)) (by omega) r53
def CL (L : List Tok) (f : Nat) : Prop:=∀ (w : World) (P : Pl) (a o : Nat) (n : Int),Rd w P L a (opE o) → o ≤ 400 → Ms L a o 30 ≤ f →
    Calls Tryz.prog 128 #[.pointer (some ⟨P.R,0,none⟩),.int .i64 n] w (AnsN P L (opE o) w (letF L f n a o))
theorem let_step (L : List Tok) (hs : Small L) (f : Nat) (MN : Mono L f) (hTo : CN 129 L f 19 (typeOrF L f)) (hE : CN 126 L f 20 (exprF L f)) : CL L (f+1):=by
 intro w P a o n h ho hM
 have hRw:=h.lt
 have hle:=h.le
 obtain ⟨h0,a0,z0,M0⟩:=begin_cell h
 obtain ⟨res,hres⟩ : ∃ r,letF L (f+1) n a o=r:=⟨_,rfl⟩
 have HR : Hid (letF L (f+1) n a o=res):=hres
 rw [hres]
 clear hres
 have HTO' : Hid (CN 129 L f 19 (typeOrF L f)):=hTo
 have HE' : Hid (CN 126 L f 20 (exprF L f)):=hE
 clear hTo
 clear hE
 go_enter Tryz.func128,Tryz.ntmps128
 go_wp2_with fail
 go_at_call 38
 refine (id_any h0 hs).mono ?_
 rintro e W1 A1
 cases h1 : idR L a with
 | bad p er =>
  rw [h1] at A1
  obtain ⟨rfl,b1⟩:=A1
  obtain rfl : Rs.bad p er=res:=by rw [← HR.out,letF];simp [Rs.bind,mtT,h1]
  exact ⟨rfl,rfl,a0.trans ((KeptR.refl P.R (w.alloc zN)).trans b1)⟩
 | ok x1 a1 =>
  rw [h1] at A1
  obtain ⟨rfl,r1,b1⟩:=A1
  have g1:=(id_ge L a) _ _ h1
  have y1:=r1.le
  have k1:=(KeptR.refl P.R (w.alloc zN)).trans b1
  have z1:=k1.size
  go_wp2_with fail
  go_at_call 129
  refine (HTO'.out _ _ _ _ (r1.bel (B0.alloc le0 (Obj.cells #[.int .i64 40,.string x1,.int .i64 n,.slice none 0 0] 24))) (by omega) (by unfold Ms at *;omega)).mono ?_
  rintro e W3 A3
  cases h3 : typeOrF L f a1 o with
  | bad p er =>
   rw [h3] at A3
   obtain ⟨rfl,b3⟩:=A3
   obtain rfl : Rs.bad p er=res:=by rw [← HR.out,letF];simp [Rs.bind,mtT,h1,h3]
   exact ⟨rfl,rfl,a0.trans ((k1.alloc (Obj.cells #[.int .i64 40,.string x1,.int .i64 n,.slice none 0 0] 24)).trans b3)⟩
  | ok x3 a3 =>
   rw [h3] at A3
   obtain ⟨ad3,c3,rfl,l3',r3,b3⟩:=A3
   have g3:=(MN.typeOr' a1 o) _ _ h3
   have y3:=r3.le
   have k3:=(k1.alloc (Obj.cells #[.int .i64 40,.string x1,.int .i64 n,.slice none 0 0] 24)).trans b3
   have z3:=k3.size
   have l3:=l3'.mono (T:=fun b=>w.heap.size+1 ≤ b) (fun b hb=>by have:=(k1.alloc (Obj.cells #[.int .i64 40,.string x1,.int .i64 n,.slice none 0 0] 24)).size;omega)
   have LY : Hid (∀ W,KeptR P.R W3 W→LAt W (fun b=>W1.heap.size < b) (Value.slice ad3 x3.ks.length c3) x3.ks):=fun W kk=>(l3'.mono (T:=fun b=>W1.heap.size < b) (fun b hb=>by simp at hb;omega)).keep kk.size (fun b hb hl=>kk.block b hl (by have:=k1.size;omega))
   go_wp2_with fail
   go_at_call 39
   refine (want_any (r3.bel (B0.alloc le0 (Obj.cells #[.int .i64 x3.k,.string x3.t,.int .i64 x3.n,.slice ad3 x3.ks.length c3] 24))) sAs).mono ?_
   rintro e W5 A5
   cases h5 : wantR L sAs a3 with
   | bad p er =>
    rw [h5] at A5
    obtain ⟨rfl,b5⟩:=A5
    obtain rfl : Rs.bad p er=res:=by rw [← HR.out,letF];simp [Rs.bind,mtT,h1,h3,h5]
    exact ⟨rfl,rfl,a0.trans ((k3.alloc (Obj.cells #[.int .i64 x3.k,.string x3.t,.int .i64 x3.n,.slice ad3 x3.ks.length c3] 24)).trans b5)⟩
   | ok x5 a5 =>
    rw [h5] at A5
    obtain ⟨rfl,r5,b5⟩:=A5
    have g5:=(want_ge L sAs a3) _ _ h5
    have y5:=r5.le
    have k5:=(k3.alloc (Obj.cells #[.int .i64 x3.k,.string x3.t,.int .i64 x3.n,.slice ad3 x3.ks.length c3] 24)).trans b5
    have z5:=k5.size
    go_wp2_with fail
    refine wp_region_any (by kernel_rfl) ?_
    change wpAny _ _ _ _ _ _ _ (World.drew _)
    refine tk 1 (.pointer (some ⟨P.R,0,none⟩)) ?_
    have v4 : W5.drew.heap[W3.heap.size]?=some (.cells #[.int .i64 x3.k,.string x3.t,.int .i64 x3.n,.slice ad3 x3.ks.length c3] 24 (0,0)):=((((KeptR.refl P.R (W3.alloc (Obj.cells #[.int .i64 x3.k,.string x3.t,.int .i64 x3.n,.slice ad3 x3.ks.length c3] 24))).trans b5).trans (.of (B0.drew))).block (W3.heap.size) (by simp) (by have:=k3.size;omega)).trans (heap_alloc_new W3 _)
    obtain ⟨⟨_,_,_,_⟩,_,_,_,_⟩:=t4 v4
    have YB : Hid (W1.heap.size < W5.drew.heap.size):=by show W1.heap.size < W5.heap.size;have:=(((((KeptR.refl P.R (W1.alloc (Obj.cells #[.int .i64 40,.string x1,.int .i64 n,.slice none 0 0] 24))).trans b3).alloc (Obj.cells #[.int .i64 x3.k,.string x3.t,.int .i64 x3.n,.slice ad3 x3.ks.length c3] 24)).trans b5)).size;simp at this;omega
    refine wpAny_two (i:=0) (j:=2) (is:=[2,3,4,5]) (js:=[0,3,4,5]) (os:=[_,_,_,_]) (us:=[_,_,_,_]) (by kernel_rfl) rfl rfl (by kernel_rfl) (by kernel_rfl) rfl rfl (by decide) (by decide) ?_ ?_
    all_goals
     go_wp2_with fail
     go_at_call 126
     refine (HE'.out _ _ _ _ (r5.bel (B0.drew)) (by omega) (by unfold Ms at *;omega)).mono ?_
     rintro e W6 A6
     cases h6 : exprF L f a5 o with
     | bad p er =>
      rw [h6] at A6
      obtain ⟨rfl,b6⟩:=A6
      obtain rfl : Rs.bad p er=res:=by rw [← HR.out,letF];simp [Rs.bind,mtT,h1,h3,h5,h6]
      exact ⟨rfl,rfl,a0.trans ((k5.trans (.of (B0.drew))).trans b6)⟩
     | ok x6 a6 =>
      rw [h6] at A6
      obtain ⟨ad6,c6,rfl,l6',r6,b6⟩:=A6
      have g6:=(MN.expr' a5 o) _ _ h6
      have y6:=r6.le
      have k6:=(k5.trans (.of (B0.drew))).trans b6
      have z6:=k6.size
      have l6:=l6'.mono (T:=fun b=>w.heap.size+1 ≤ b) (fun b hb=>by have:=(k5.trans (.of (B0.drew))).size;omega)
      have v4 : W6.heap[W3.heap.size]?=some (.cells #[.int .i64 x3.k,.string x3.t,.int .i64 x3.n,.slice ad3 x3.ks.length c3] 24 (0,0)):=(((((KeptR.refl P.R (W3.alloc (Obj.cells #[.int .i64 x3.k,.string x3.t,.int .i64 x3.n,.slice ad3 x3.ks.length c3] 24))).trans b5).trans (.of (B0.drew))).trans b6).block (W3.heap.size) (by simp) (by have:=k3.size;omega)).trans (heap_alloc_new W3 _)
      obtain ⟨⟨_,_,_,_⟩,_,_,_,_⟩:=t4 v4
      have v2 : W6.heap[W1.heap.size]?=some (.cells #[.int .i64 40,.string x1,.int .i64 n,.slice none 0 0] 24 (0,0)):=(((((((KeptR.refl P.R (W1.alloc (Obj.cells #[.int .i64 40,.string x1,.int .i64 n,.slice none 0 0] 24))).trans b3).alloc (Obj.cells #[.int .i64 x3.k,.string x3.t,.int .i64 x3.n,.slice ad3 x3.ks.length c3] 24)).trans b5).trans (.of (B0.drew))).trans b6).block (W1.heap.size) (by simp) (by have:=k1.size;omega)).trans (heap_alloc_new W1 _)
      obtain ⟨⟨_,_,_,_⟩,_,_,_,_⟩:=t4 v2
      have sS : (W6.setCell ⟨W1.heap.size,3,none⟩ (.slice (some ⟨W6.heap.size,0,none⟩) 2 2)).heap.size=W6.heap.size:=by simp [World.setCell]
      have j7 : ((W6.setCell ⟨W1.heap.size,3,none⟩ (.slice (some ⟨W6.heap.size,0,none⟩) 2 2)).alloc (Obj.cells #[.int .i64 x3.k,.string x3.t,.int .i64 x3.n,.slice ad3 x3.ks.length c3,.int .i64 x6.k,.string x6.t,.int .i64 x6.n,.slice ad6 x6.ks.length c6] 24)).heap[W6.heap.size]?=some (.cells #[.int .i64 x3.k,.string x3.t,.int .i64 x3.n,.slice ad3 x3.ks.length c3,.int .i64 x6.k,.string x6.t,.int .i64 x6.n,.slice ad6 x6.ks.length c6] 24 (0,0)):=hnew _ sS.symm
      have gv : w.heap.size+1 ≤ W1.heap.size:=by have:=k1.size;omega
      have gw : W1.heap.size < W6.heap.size:=(Array.getElem?_eq_some_iff.1 v2).1
      have p7:=(Below.heap_alloc (W6.setCell ⟨W1.heap.size,3,none⟩ (.slice (some ⟨W6.heap.size,0,none⟩) 2 2)) (Obj.cells #[.int .i64 x3.k,.string x3.t,.int .i64 x3.n,.slice ad3 x3.ks.length c3,.int .i64 x6.k,.string x6.t,.int .i64 x6.n,.slice ad6 x6.ks.length c6] 24) _ (by omega)).trans (box4_set3 (.slice (some ⟨W6.heap.size,0,none⟩) 2 2) v2)
      obtain ⟨⟨_,_,_,_⟩,_,_,_,_⟩:=t4 p7
      have k7 : KeptR P.R (w.alloc zN) ((W6.setCell ⟨W1.heap.size,3,none⟩ (.slice (some ⟨W6.heap.size,0,none⟩) 2 2)).alloc (Obj.cells #[.int .i64 x3.k,.string x3.t,.int .i64 x3.n,.slice ad3 x3.ks.length c3,.int .i64 x6.k,.string x6.t,.int .i64 x6.n,.slice ad6 x6.ks.length c6] 24)):=(k6.new (by omega) _ _).alloc (Obj.cells #[.int .i64 x3.k,.string x3.t,.int .i64 x3.n,.slice ad3 x3.ks.length c3,.int .i64 x6.k,.string x6.t,.int .i64 x6.n,.slice ad6 x6.ks.length c6] 24)
      have z7:=k7.size
      have r7 : Rd ((W6.setCell ⟨W1.heap.size,3,none⟩ (.slice (some ⟨W6.heap.size,0,none⟩) 2 2)).alloc (Obj.cells #[.int .i64 x3.k,.string x3.t,.int .i64 x3.n,.slice ad3 x3.ks.length c3,.int .i64 x6.k,.string x6.t,.int .i64 x6.n,.slice ad6 x6.ks.length c6] 24)) P L a6 (opE o):=(r6.other (by omega) (fun q=>by have:=h.x.lt q;omega) _ _).bel (B0.alloc le0 (Obj.cells #[.int .i64 x3.k,.string x3.t,.int .i64 x3.n,.slice ad3 x3.ks.length c3,.int .i64 x6.k,.string x6.t,.int .i64 x6.n,.slice ad6 x6.ks.length c6] 24))
      have ly:=(l3.keepR (((((KeptR.refl P.R W3).alloc (Obj.cells #[.int .i64 x3.k,.string x3.t,.int .i64 x3.n,.slice ad3 x3.ks.length c3] 24)).trans b5).trans (.of (B0.drew))).trans b6) (by omega))
      have lx:=(l6.keepR (KeptR.refl P.R W6) (by omega))
      have ly2 : LAt ((W6.setCell ⟨W1.heap.size,3,none⟩ (.slice (some ⟨W6.heap.size,0,none⟩) 2 2)).alloc (Obj.cells #[.int .i64 x3.k,.string x3.t,.int .i64 x3.n,.slice ad3 x3.ks.length c3,.int .i64 x6.k,.string x6.t,.int .i64 x6.n,.slice ad6 x6.ks.length c6] 24)) (fun b=>w.heap.size+1 ≤ b) (Value.slice ad3 x3.ks.length c3) x3.ks:=(LY.out _ (((((KeptR.refl P.R W3).alloc (Obj.cells #[.int .i64 x3.k,.string x3.t,.int .i64 x3.n,.slice ad3 x3.ks.length c3] 24)).trans b5).trans (.of (B0.drew))).trans b6)).keep (by simp [World.setCell]) (fun b hb hl=>(Below.heap_alloc _ _ _ (by omega)).trans (Below.heap_setCell _ _ _ _ (by show b ≠ W1.heap.size;omega))) |>.mono (fun b hb=>by omega)
      have lx2 : LAt ((W6.setCell ⟨W1.heap.size,3,none⟩ (.slice (some ⟨W6.heap.size,0,none⟩) 2 2)).alloc (Obj.cells #[.int .i64 x3.k,.string x3.t,.int .i64 x3.n,.slice ad3 x3.ks.length c3,.int .i64 x6.k,.string x6.t,.int .i64 x6.n,.slice ad6 x6.ks.length c6] 24)) (fun b=>w.heap.size+1 ≤ b) (Value.slice ad6 x6.ks.length c6) x6.ks:=(l6'.mono (T:=fun b=>W1.heap.size < b) (fun b hb=>by have:=YB.out;omega)).keep (by simp [World.setCell]) (fun b hb hl=>(Below.heap_alloc _ _ _ (by omega)).trans (Below.heap_setCell _ _ _ _ (by show b ≠ W1.heap.size;omega))) |>.mono (fun b hb=>by omega)
      have lf : LAt ((W6.setCell ⟨W1.heap.size,3,none⟩ (.slice (some ⟨W6.heap.size,0,none⟩) 2 2)).alloc (Obj.cells #[.int .i64 x3.k,.string x3.t,.int .i64 x3.n,.slice ad3 x3.ks.length c3,.int .i64 x6.k,.string x6.t,.int .i64 x6.n,.slice ad6 x6.ks.length c6] 24)) (fun b=>w.heap.size+1 ≤ b) (.slice (some ⟨W6.heap.size,0,none⟩) 2 2) [x3,x6]:=LAt.n2 (x:=x3) (y:=x6) (t:=24) (fr:=(0,0)) j7 (by show _ ≤ _;omega) ly2 lx2
      go_wp2_with fail
      go_at_call 133
      refine (ended_any r7 _ _ _ _ _ _).mono ?_
      rintro e W8 A8
      cases h8 : wantR L sSe a6 with
      | bad p er =>
       rw [h8] at A8
       obtain ⟨rfl,b8⟩:=A8
       obtain rfl : Rs.bad p er=res:=by rw [← HR.out,letF];simp [Rs.bind,mtT,h1,h3,h5,h6,h8]
       exact ⟨rfl,rfl,a0.trans (k7.trans b8)⟩
      | ok x8 a8 =>
       rw [h8] at A8
       obtain ⟨rfl,r8,b8⟩:=A8
       have g8:=(want_ge L sSe a6) _ _ h8
       have y8:=r8.le
       have k8:=k7.trans b8
       have z8:=k8.size
       obtain rfl : Rs.ok (Nd.mk 40 x1 n [x3,x6]) a8=res:=by rw [← HR.out,letF];simp [Rs.bind,mtT,h1,h3,h5,h6,h8]
       have m0:=M0.out _ k8
       obtain ⟨⟨_,_,_,_⟩,_,_,_,_⟩:=t4 m0
       go_wp2
       refine bodyPost_ret (res_n4 Tryz.results128 (t4_set _ _ _ _ m0) rfl) rfl ?_
       exact close_ok (x:=(Nd.mk 40 x1 n [x3,x6])) h (a0.trans k8) (lf.keepR ((KeptR.refl P.R _).trans b8) (by omega)) (by omega) r8
end Go.Proofs.YthfkfbcopinmiaaGreatDoor
