/- Own text. Package parse: the rules,one by one: conditions. Package parse: the rules,one by one: operators of two. Append of a list of trees,empty or not,to a list that is owned. -/
import Derived.Test.YthfkfbcopinmiaaGreatDoorGk12
import Derived.Laws.OwnMore
set_option linter.unusedVariables false
set_option linter.unusedSimpArgs false
set_option maxRecDepth 100000
set_option maxHeartbeats 8000000
namespace Go.Proofs.YthfkfbcopinmiaaGreatDoor
open Go.RowKit
def CBn (L : List Tok) (f : Nat) : Prop:=∀ (w : World) (P : Pl) (a o m : Nat),Rd w P L a (opE o) → o ≤ 400 → 1 ≤ m → m ≤ 7 → Ms L a o 11 ≤ f →
    Calls Tryz.prog 153 #[.pointer (some ⟨P.R,0,none⟩),.int .i64 (m : Int)] w (AnsN P L (opE o) w (binF L f m a o))
theorem cond_step (L : List Tok) (hs : Small L) (f : Nat) (MN : Mono L f) (hBn : CBn L f) (hE : CN 126 L f 20 (exprF L f)) : CN 142 L (f+1) 12 (condF L (f+1)):=by
 intro w P a o h ho hM
 have hRw:=h.lt
 have hle:=h.le
 obtain ⟨h0,a0,z0,M0⟩:=begin_cell h
 obtain ⟨res,hres⟩ : ∃ r,condF L (f+1) a o=r:=⟨_,rfl⟩
 have HR : Hid (condF L (f+1) a o=res):=hres
 rw [hres]
 clear hres
 have HBN' : Hid (CBn L f):=hBn
 have HE' : Hid (CN 126 L f 20 (exprF L f)):=hE
 clear hBn
 clear hE
 go_enter Tryz.func142,Tryz.ntmps142
 go_wp2_with fail
 go_at_call 153
 refine (HBN'.out _ _ _ _ 1 h0 (by omega) (by omega) (by omega) (by unfold Ms at *;omega)).mono ?_
 rintro e W1 A1
 cases h1 : binF L f 1 a o with
 | bad p er =>
  rw [h1] at A1
  obtain ⟨rfl,b1⟩:=A1
  obtain rfl : Rs.bad p er=res:=by rw [← HR.out,condF];simp [Rs.bind,mtT,h1]
  exact ⟨rfl,rfl,a0.trans ((KeptR.refl P.R (w.alloc zN)).trans b1)⟩
 | ok x1 a1 =>
  rw [h1] at A1
  obtain ⟨ad1,c1,rfl,l1',r1,b1⟩:=A1
  have g1:=(MN.bin' 1 a o) _ _ h1
  have y1:=r1.le
  have k1:=(KeptR.refl P.R (w.alloc zN)).trans b1
  have z1:=k1.size
  have l1:=l1'.mono (T:=fun b=>w.heap.size+1 ≤ b) (fun b hb=>by have:=(KeptR.refl P.R (w.alloc zN)).size;omega)
  cases q3 : isS L a1 sQu with
  | true =>
   have T3:=take_any (r1.bel (B0.alloc le0 (Obj.cells #[.int .i64 x1.k,.string x1.t,.int .i64 x1.n,.slice ad1 x1.ks.length c1] 24))) sQu
   rw [q3] at T3
   have u3:=isS_lt q3
   go_wp2_with fail
   go_at_call 40
   refine T3.mono ?_
   rintro e W3 ⟨rfl,r3',b3⟩
   have r3 : Rd W3 P L (a1+1) (opE o):=r3'
   clear r3'
   have k3:=(k1.alloc (Obj.cells #[.int .i64 x1.k,.string x1.t,.int .i64 x1.n,.slice ad1 x1.ks.length c1] 24)).trans b3
   have z3:=k3.size
   have y3:=r3.le
   go_wp2_with fail
   go_at_call 126
   refine (HE'.out _ _ _ _ r3 (by omega) (by unfold Ms at *;omega)).mono ?_
   rintro e W4 A4
   cases h4 : exprF L f (a1+1) o with
   | bad p er =>
    rw [h4] at A4
    obtain ⟨rfl,b4⟩:=A4
    obtain rfl : Rs.bad p er=res:=by rw [← HR.out,condF];simp [Rs.bind,mtT,h1,q3,h4]
    exact ⟨rfl,rfl,a0.trans (k3.trans b4)⟩
   | ok x4 a4 =>
    rw [h4] at A4
    obtain ⟨ad4,c4,rfl,l4',r4,b4⟩:=A4
    have g4:=(MN.expr' (a1+1) o) _ _ h4
    have y4:=r4.le
    have k4:=k3.trans b4
    have z4:=k4.size
    have l4:=l4'.mono (T:=fun b=>w.heap.size+1 ≤ b) (fun b hb=>by have:=k3.size;omega)
    go_wp2_with fail
    go_at_call 39
    refine (want_any (r4.bel (B0.alloc le0 _)) sCo).mono ?_
    rintro e W6 A6
    cases h6 : wantR L sCo a4 with
    | bad p er =>
     rw [h6] at A6
     obtain ⟨rfl,b6⟩:=A6
     obtain rfl : Rs.bad p er=res:=by rw [← HR.out,condF];simp [Rs.bind,mtT,h1,q3,h4,h6]
     exact ⟨rfl,rfl,a0.trans ((k4.alloc _).trans b6)⟩
    | ok x6 a6 =>
     rw [h6] at A6
     obtain ⟨rfl,r6,b6⟩:=A6
     have g6:=(want_ge L sCo a4) _ _ h6
     have y6:=r6.le
     have k6:=(k4.alloc (Obj.cells #[.int .i64 x4.k,.string x4.t,.int .i64 x4.n,.slice ad4 x4.ks.length c4] 24)).trans b6
     have z6:=k6.size
     go_wp2_with fail
     refine wp_region_any (by kernel_rfl) ?_
     change wpAny _ _ _ _ _ _ _ (World.drew _)
     refine tk 2 (.pointer (some ⟨P.R,0,none⟩)) ?_
     have v2 : W6.drew.heap[W1.heap.size]?=_:=(((((((KeptR.refl P.R _).trans b3).trans b4).alloc _).trans b6).trans (.of (B0.drew))).block (W1.heap.size) (by simp) (by have:=k1.size;omega)).trans (heap_alloc_new W1 _)
     obtain ⟨⟨_,_,_,_⟩,_,_,_,_⟩:=t4 v2
     have v5 : W6.drew.heap[W4.heap.size]?=_:=((((KeptR.refl P.R _).trans b6).trans (.of (B0.drew))).block (W4.heap.size) (by simp) (by have:=k4.size;omega)).trans (heap_alloc_new W4 _)
     obtain ⟨⟨_,_,_,_⟩,_,_,_,_⟩:=t4 v5
     refine wpAny_ready (rs:=[0,1,3]) (by kernel_rfl) (by simp) ?_
     refine AllReady.cons rfl (fun K hK=>?_) (AllReady.cons rfl (fun K hK=>?_) (AllReady.cons rfl (fun K hK=>?_) AllReady.nil))
     ·go_simp
      refine hK _ _ ?_
      clear hK K
      refine wpAny_two (i:=1) (j:=3) (is:=[3,4,5,6]) (js:=[1,4,5,6]) (os:=[_,_,_,_]) (us:=[_,_,_,_]) (by kernel_rfl) rfl rfl (by kernel_rfl) (by kernel_rfl) rfl rfl (by decide) (by decide) ?_ ?_
      all_goals
       go_wp2_with fail
       go_at_call 126
       refine (HE'.out _ _ _ _ (r6.bel (B0.drew)) (by omega) (by unfold Ms at *;omega)).mono ?_
       rintro e W7 A7
       cases h7 : exprF L f a6 o with
       | bad p er =>
        rw [h7] at A7
        obtain ⟨rfl,b7⟩:=A7
        obtain rfl : Rs.bad p er=res:=by rw [← HR.out,condF];simp [Rs.bind,mtT,h1,q3,h4,h6,h7]
        exact ⟨rfl,rfl,a0.trans ((k6.trans (.of (B0.drew))).trans b7)⟩
       | ok x7 a7 =>
        rw [h7] at A7
        obtain ⟨ad7,c7,rfl,l7',r7,b7⟩:=A7
        have g7:=(MN.expr' a6 o) _ _ h7
        have y7:=r7.le
        have k7:=(k6.trans (.of (B0.drew))).trans b7
        have z7:=k7.size
        have l7:=l7'.mono (T:=fun b=>w.heap.size+1 ≤ b) (fun b hb=>by have:=(k6.trans (.of (B0.drew))).size;omega)
        have v2 : W7.heap[W1.heap.size]?=_:=((((((((KeptR.refl P.R _).trans b3).trans b4).alloc _).trans b6).trans (.of (B0.drew))).trans b7).block (W1.heap.size) (by simp) (by have:=k1.size;omega)).trans (heap_alloc_new W1 _)
        obtain ⟨⟨_,_,_,_⟩,_,_,_,_⟩:=t4 v2
        have v5 : W7.heap[W4.heap.size]?=_:=(((((KeptR.refl P.R _).trans b6).trans (.of (B0.drew))).trans b7).block (W4.heap.size) (by simp) (by have:=k4.size;omega)).trans (heap_alloc_new W4 _)
        obtain ⟨⟨_,_,_,_⟩,_,_,_,_⟩:=t4 v5
        go_wp2_with fail
        go_at_call 42
        refine (node_any 17 ⟨#[]⟩ (some ⟨W7.heap.size,0,none⟩) 3 3 _).mono ?_
        rintro e W8 ⟨rfl,b8'⟩
        have j8 : W8.heap[W7.heap.size]?=_:=(b8'.block _ (by simp)).trans (heap_alloc_new W7 _)
        have r8:=(r7.bel (B0.alloc le0 _)).bel b8'
        have b8 : KeptR P.R W7 W8:=(KeptR.of (B0.alloc le0 _)).trans (.of b8')
        have k8:=k7.trans b8
        have z8:=k8.size
        have l8 : LAt W8 (fun b=>w.heap.size+1 ≤ b) (.slice (some ⟨W7.heap.size,0,none⟩) 3 3) [x1,x4,x7]:=LAt.n3 j8 (by have:=k7.size;show _ ≤ _;omega) (l1.keepR (((((((((KeptR.refl P.R W1).alloc _).trans b3).trans b4).alloc _).trans b6).trans (.of (B0.drew))).trans b7).trans b8) (by omega)) (l4.keepR ((((((KeptR.refl P.R W4).alloc _).trans b6).trans (.of (B0.drew))).trans b7).trans b8) (by omega)) (l7.keepR ((KeptR.refl P.R W7).trans b8) (by omega))
        obtain rfl : Rs.ok (mk0 17 ⟨#[]⟩ [x1,x4,x7]) a7=res:=by rw [← HR.out,condF];simp [Rs.bind,mtT,h1,q3,h4,h6,h7]
        have m0:=M0.out _ k8
        obtain ⟨⟨_,_,_,_⟩,_,_,_,_⟩:=t4 m0
        go_wp2
        refine bodyPost_ret (res_n4 Tryz.results142 (t4_set _ _ _ _ m0) rfl) rfl ?_
        exact close_ok (x:=(mk0 17 ⟨#[]⟩ [x1,x4,x7])) h (a0.trans k8) (l8.keepR (KeptR.refl P.R W8) (by omega)) (by omega) r8
     ·go_simp
      refine hK _ _ ?_
      clear hK K
      refine wpAny_two (i:=0) (j:=3) (is:=[3,4,5,6]) (js:=[0,4,5,6]) (os:=[_,_,_,_]) (us:=[_,_,_,_]) (by kernel_rfl) rfl rfl (by kernel_rfl) (by kernel_rfl) rfl rfl (by decide) (by decide) ?_ ?_
      all_goals
       go_wp2_with fail
       go_at_call 126
       refine (HE'.out _ _ _ _ (r6.bel (B0.drew)) (by omega) (by unfold Ms at *;omega)).mono ?_
       rintro e W11 A11
       cases h11 : exprF L f a6 o with
       | bad p er =>
        rw [h11] at A11
        obtain ⟨rfl,b11⟩:=A11
        obtain rfl : Rs.bad p er=res:=by rw [← HR.out,condF];simp [Rs.bind,mtT,h1,q3,h4,h6,h11]
        exact ⟨rfl,rfl,a0.trans ((k6.trans (.of (B0.drew))).trans b11)⟩
       | ok x11 a11 =>
        rw [h11] at A11
        obtain ⟨ad11,c11,rfl,l11',r11,b11⟩:=A11
        have g11:=(MN.expr' a6 o) _ _ h11
        have y11:=r11.le
        have k11:=(k6.trans (.of (B0.drew))).trans b11
        have z11:=k11.size
        have l11:=l11'.mono (T:=fun b=>w.heap.size+1 ≤ b) (fun b hb=>by have:=(k6.trans (.of (B0.drew))).size;omega)
        have v2 : W11.heap[W1.heap.size]?=_:=((((((((KeptR.refl P.R _).trans b3).trans b4).alloc _).trans b6).trans (.of (B0.drew))).trans b11).block (W1.heap.size) (by simp) (by have:=k1.size;omega)).trans (heap_alloc_new W1 _)
        obtain ⟨⟨_,_,_,_⟩,_,_,_,_⟩:=t4 v2
        have v5 : W11.heap[W4.heap.size]?=_:=(((((KeptR.refl P.R _).trans b6).trans (.of (B0.drew))).trans b11).block (W4.heap.size) (by simp) (by have:=k4.size;omega)).trans (heap_alloc_new W4 _)
        obtain ⟨⟨_,_,_,_⟩,_,_,_,_⟩:=t4 v5
        go_wp2_with fail
        go_at_call 42
        refine (node_any 17 ⟨#[]⟩ (some ⟨W11.heap.size,0,none⟩) 3 3 _).mono ?_
        rintro e W12 ⟨rfl,b12'⟩
        have j12 : W12.heap[W11.heap.size]?=_:=(b12'.block _ (by simp)).trans (heap_alloc_new W11 _)
        have r12:=(r11.bel (B0.alloc le0 _)).bel b12'
        have b12 : KeptR P.R W11 W12:=(KeptR.of (B0.alloc le0 _)).trans (.of b12')
        have k12:=k11.trans b12
        have z12:=k12.size
        have l12 : LAt W12 (fun b=>w.heap.size+1 ≤ b) (.slice (some ⟨W11.heap.size,0,none⟩) 3 3) [x1,x4,x11]:=LAt.n3 j12 (by have:=k11.size;show _ ≤ _;omega) (l1.keepR (((((((((KeptR.refl P.R W1).alloc _).trans b3).trans b4).alloc _).trans b6).trans (.of (B0.drew))).trans b11).trans b12) (by omega)) (l4.keepR ((((((KeptR.refl P.R W4).alloc _).trans b6).trans (.of (B0.drew))).trans b11).trans b12) (by omega)) (l11.keepR ((KeptR.refl P.R W11).trans b12) (by omega))
        obtain rfl : Rs.ok (mk0 17 ⟨#[]⟩ [x1,x4,x11]) a11=res:=by rw [← HR.out,condF];simp [Rs.bind,mtT,h1,q3,h4,h6,h11]
        have m0:=M0.out _ k12
        obtain ⟨⟨_,_,_,_⟩,_,_,_,_⟩:=t4 m0
        go_wp2
        refine bodyPost_ret (res_n4 Tryz.results142 (t4_set _ _ _ _ m0) rfl) rfl ?_
        exact close_ok (x:=(mk0 17 ⟨#[]⟩ [x1,x4,x11])) h (a0.trans k12) (l12.keepR (KeptR.refl P.R W12) (by omega)) (by omega) r12
     ·go_simp
      go_at_call 126
      refine (HE'.out _ _ _ _ (r6.bel (B0.drew)) (by omega) (by unfold Ms at *;omega)).mono ?_
      rintro e W15 A15
      cases h15 : exprF L f a6 o with
      | bad p er =>
       rw [h15] at A15
       obtain ⟨rfl,b15⟩:=A15
       obtain rfl : Rs.bad p er=res:=by rw [← HR.out,condF];simp [Rs.bind,mtT,h1,q3,h4,h6,h15]
       exact ⟨rfl,rfl,a0.trans ((k6.trans (.of (B0.drew))).trans b15)⟩
      | ok x15 a15 =>
       rw [h15] at A15
       obtain ⟨ad15,c15,rfl,l15',r15,b15⟩:=A15
       have g15:=(MN.expr' a6 o) _ _ h15
       have y15:=r15.le
       have k15:=(k6.trans (.of (B0.drew))).trans b15
       have z15:=k15.size
       have l15:=l15'.mono (T:=fun b=>w.heap.size+1 ≤ b) (fun b hb=>by have:=(k6.trans (.of (B0.drew))).size;omega)
       refine hK _ _ ?_
       clear hK K
       have v2 : W15.heap[W1.heap.size]?=_:=((((((((KeptR.refl P.R _).trans b3).trans b4).alloc _).trans b6).trans (.of (B0.drew))).trans b15).block (W1.heap.size) (by simp) (by have:=k1.size;omega)).trans (heap_alloc_new W1 _)
       obtain ⟨⟨_,_,_,_⟩,_,_,_,_⟩:=t4 v2
       have v5 : W15.heap[W4.heap.size]?=_:=(((((KeptR.refl P.R _).trans b6).trans (.of (B0.drew))).trans b15).block (W4.heap.size) (by simp) (by have:=k4.size;omega)).trans (heap_alloc_new W4 _)
       obtain ⟨⟨_,_,_,_⟩,_,_,_,_⟩:=t4 v5
       refine wpAny_two (i:=0) (j:=1) (is:=[1,4,5,6]) (js:=[0,4,5,6]) (os:=[_,_,_,_]) (us:=[_,_,_,_]) (by kernel_rfl) rfl rfl (by kernel_rfl) (by kernel_rfl) rfl rfl (by decide) (by decide) ?_ ?_
       all_goals
        go_wp2_with fail
        go_at_call 42
        refine (node_any 17 ⟨#[]⟩ (some ⟨W15.heap.size,0,none⟩) 3 3 _).mono ?_
        rintro e W16 ⟨rfl,b16'⟩
        have j16 : W16.heap[W15.heap.size]?=_:=(b16'.block _ (by simp)).trans (heap_alloc_new W15 _)
        have r16:=(r15.bel (B0.alloc le0 _)).bel b16'
        have b16 : KeptR P.R W15 W16:=(KeptR.of (B0.alloc le0 _)).trans (.of b16')
        have k16:=k15.trans b16
        have z16:=k16.size
        have l16 : LAt W16 (fun b=>w.heap.size+1 ≤ b) (.slice (some ⟨W15.heap.size,0,none⟩) 3 3) [x1,x4,x15]:=LAt.n3 j16 (by have:=k15.size;show _ ≤ _;omega) (l1.keepR (((((((((KeptR.refl P.R W1).alloc _).trans b3).trans b4).alloc _).trans b6).trans (.of (B0.drew))).trans b15).trans b16) (by omega)) (l4.keepR ((((((KeptR.refl P.R W4).alloc _).trans b6).trans (.of (B0.drew))).trans b15).trans b16) (by omega)) (l15.keepR ((KeptR.refl P.R W15).trans b16) (by omega))
        obtain rfl : Rs.ok (mk0 17 ⟨#[]⟩ [x1,x4,x15]) a15=res:=by rw [← HR.out,condF];simp [Rs.bind,mtT,h1,q3,h4,h6,h15]
        have m0:=M0.out _ k16
        obtain ⟨⟨_,_,_,_⟩,_,_,_,_⟩:=t4 m0
        go_wp2
        refine bodyPost_ret (res_n4 Tryz.results142 (t4_set _ _ _ _ m0) rfl) rfl ?_
        exact close_ok (x:=(mk0 17 ⟨#[]⟩ [x1,x4,x15])) h (a0.trans k16) (l16.keepR (KeptR.refl P.R W16) (by omega)) (by omega) r16
  | false =>
   have T3:=take_any (r1.bel (B0.alloc le0 (Obj.cells #[.int .i64 x1.k,.string x1.t,.int .i64 x1.n,.slice ad1 x1.ks.length c1] 24))) sQu
   rw [q3] at T3
   go_wp2_with fail
   go_at_call 40
   refine T3.mono ?_
   rintro e W3 ⟨rfl,r3',b3⟩
   have r3 : Rd W3 P L a1 (opE o):=r3'
   clear r3'
   have k3:=(k1.alloc (Obj.cells #[.int .i64 x1.k,.string x1.t,.int .i64 x1.n,.slice ad1 x1.ks.length c1] 24)).trans b3
   have z3:=k3.size
   have y3:=r3.le
   have v2 : W3.heap[W1.heap.size]?=_:=(((KeptR.refl P.R _).trans b3).block (W1.heap.size) (by simp) (by have:=k1.size;omega)).trans (heap_alloc_new W1 _)
   obtain ⟨⟨_,_,_,_⟩,_,_,_,_⟩:=t4 v2
   obtain rfl : Rs.ok x1 a1=res:=by rw [← HR.out,condF];simp [Rs.bind,mtT,h1,q3]
   have m0:=M0.out _ k3
   obtain ⟨⟨_,_,_,_⟩,_,_,_,_⟩:=t4 m0
   go_wp2
   refine bodyPost_ret (res_n4 Tryz.results142 (t4_set _ _ _ _ m0) rfl) rfl ?_
   exact close_ok (x:=x1) h (a0.trans k3) (l1.keepR (((KeptR.refl P.R W1).alloc _).trans b3) (by omega)) (by omega) r3
theorem lineI_le (x : Tok) : lineI x ≤ 6:=by
 unfold lineI
 repeat' split
 all_goals omega
theorem bin_step (L : List Tok) (hs : Small L) (f : Nat) (MN : Mono L f) (hU : CN 158 L f 10 (unaryF L f)) (hBn : CBn L f) : CBn L (f+1):=by
 intro w P a o m h ho hm1 hm7 hM
 have hRw:=h.lt
 have hle:=h.le
 obtain ⟨h0,a0,z0,M0⟩:=begin_cell h
 obtain ⟨res,hres⟩ : ∃ r,binF L (f+1) m a o=r:=⟨_,rfl⟩
 have HR : Hid (binF L (f+1) m a o=res):=hres
 rw [hres]
 clear hres
 have HU' : Hid (CN 158 L f 10 (unaryF L f)):=hU
 have HBN' : Hid (CBn L f):=hBn
 clear hU
 clear hBn
 go_enter Tryz.func153,Tryz.ntmps153
 go_wp2_with fail
 go_at_call 158
 refine (HU'.out _ _ _ _ h0 (by omega) (by unfold Ms at *;omega)).mono ?_
 rintro e W1 A1
 cases h1 : unaryF L f a o with
 | bad p er =>
  rw [h1] at A1
  obtain ⟨rfl,b1⟩:=A1
  obtain rfl : Rs.bad p er=res:=by rw [← HR.out,binF];simp [Rs.bind,mtT,h1]
  exact ⟨rfl,rfl,a0.trans ((KeptR.refl P.R (w.alloc zN)).trans b1)⟩
 | ok x1 a1 =>
  rw [h1] at A1
  obtain ⟨ad1,c1,rfl,l1',r1,b1⟩:=A1
  have g1:=(MN.unary' a o) _ _ h1
  have y1:=r1.le
  have k1:=(KeptR.refl P.R (w.alloc zN)).trans b1
  have z1:=k1.size
  have l1:=l1'.mono (T:=fun b=>w.heap.size+1 ≤ b) (fun b hb=>by have:=(KeptR.refl P.R (w.alloc zN)).size;omega)
  go_wp2
  have HR2 : Hid (binG L (fun m' a'=>binF L f m' a' o) m (L.length+1 - a1) x1 a1=res):=by show _=_;rw [← HR.out,binF,h1];rfl
  clear HR
  have HR:=HR2
  clear HR2
  have gV : w.heap.size+1 ≤ W1.heap.size:=by have:=k1.size;omega
  have k0:=(k1.alloc (Obj.cells #[.int .i64 x1.k,.string x1.t,.int .i64 x1.n,.slice ad1 x1.ks.length c1] 24))
  have r0:=(r1.bel (B0.alloc le0 (Obj.cells #[.int .i64 x1.k,.string x1.t,.int .i64 x1.n,.slice ad1 x1.ks.length c1] 24)))
  have v0:=heap_alloc_new W1 (Obj.cells #[.int .i64 x1.k,.string x1.t,.int .i64 x1.n,.slice ad1 x1.ks.length c1] 24)
  have l0:=(l1'.mono' (T:=fun b=>w.heap.size+1 ≤ b∧b ≠ W1.heap.size) (fun b hl hb=>by have:=a0.size;exact ⟨by omega,by omega⟩)).bel (B0.alloc le0 (Obj.cells #[.int .i64 x1.k,.string x1.t,.int .i64 x1.n,.slice ad1 x1.ks.length c1] 24))
  go_loopg [6] (L.length+1 - a1) (fun gk v6 wr=>∃ (nd : Nd) (b : Nat) (ad : Option Addr) (c : Nat),Hid (binG L (fun m' a'=>binF L f m' a' o) m gk nd b=res)∧Hid (L.length+1 ≤ gk+b)∧Rd wr P L b (opE o)∧wr.heap[W1.heap.size]?=some (.cells #[.int .i64 nd.k,.string nd.t,.int .i64 nd.n,.slice ad nd.ks.length c] 24 (0,0))∧LAt wr (fun b=>w.heap.size+1 ≤ b∧b ≠ W1.heap.size) (Value.slice ad nd.ks.length c) nd.ks∧KeptR P.R (w.alloc zN) wr∧W1.heap.size < wr.heap.size∧a1 ≤ b)
  case atStart=>exact ⟨x1,a1,ad1,c1,HR.out,by show _ ≤ _;omega,r0,v0,l0,k0,by simp,Nat.le_refl _⟩
  case round =>
   clear k0 r0 v0 l0 HR
   obtain ⟨nd,b,ad,c,HR,HG,r0,v0,lN,k0,hV0,hab⟩:=hrel
   have hgk:=HG.out
   have hbl:=r0.le
   obtain ⟨g,rfl⟩ : ∃ g,gk=g+1:=⟨gk - 1,by omega⟩
   have z0k:=k0.size
   have TK:=token_any r0
   have CLn:=fun W=>lineOf_any (tokA L b) W
   have hLn : lineI (tokA L b) ≤ 6:=lineI_le _
   have hLz : lineI (tokA L b) ≠ 0→b < L.length:=fun q=>kind_lt (fun e=>q (by unfold lineI;rw [if_neg (by omega)]))
   have HLn : Hid (lineI (tokA L b)=lineI (tokA L b)):=rfl
   go_wp2_with fail
   go_at_call 36
   refine TK.mono ?_
   rintro e W3 ⟨rfl,b3'⟩
   have r3:=r0.bel b3'
   have b3:=KeptR.of (b:=P.R) b3'
   have k3:=k0.trans b3
   have z3:=k3.size
   go_wp2_with fail
   go_at_call 159
   refine (CLn _).mono ?_
   rintro e W4 ⟨rfl,b4'⟩
   have r4:=r3.bel b4'
   have b4:=KeptR.of (b:=P.R) b4'
   have k4:=k3.trans b4
   have z4:=k4.size
   by_cases hl : lineI (tokA L b) < m
   ·have hl2 : (lineI (tokA L b) : Int) < (m : Int):=by omega
    have vv : W4.heap[W1.heap.size]?=_:=((((KeptR.refl P.R wr).trans b3).trans b4).block W1.heap.size hV0 (by omega)).trans v0
    obtain ⟨⟨_,_,_,_⟩,_,_,_,_⟩:=t4 vv
    obtain rfl : Rs.ok nd b=res:=by rw [← HR.out,binG];simp [Rs.bind,mtT,hl]
    have m0:=M0.out _ k4
    obtain ⟨⟨_,_,_,_⟩,_,_,_,_⟩:=t4 m0
    go_wp2
    refine bodyPost_ret (res_n4 Tryz.results153 (t4_set _ _ _ _ m0) rfl) rfl ?_
    exact close_ok (x:=nd) h (a0.trans k4) ((lN.keep (((KeptR.refl P.R wr).trans b3).trans b4).size (fun b hb hl=>(((KeptR.refl P.R wr).trans b3).trans b4).block b hl (by have:=hb.1;omega))).mono (fun b hb=>hb.1)) (by omega) r4
   ·have hl2 : ¬ (lineI (tokA L b) : Int) < (m : Int):=by omega
    have hlb:=hLz (by omega)
    have hw : IntKind.i64.wrap ((lineI (tokA L b) : Int)+1)=((lineI (tokA L b)+1 : Nat) : Int):=by rw [IntKind.wrap_i64];omega
    clear TK CLn
    go_wp2_with fail
    go_at_call 37
    refine (pass_any r4 hlb (hs.at _)).mono ?_
    rintro e W5 ⟨rfl,r5,b5⟩
    have k5:=k4.trans b5
    have z5:=k5.size
    have y5:=r5.le
    go_wp2_with fail
    refine wp_region_any (by kernel_rfl) ?_
    change wpAny _ _ _ _ _ _ _ (World.drew _)
    refine tk 0 (.string (tokA L b).t) ?_
    refine tk 2 (.pointer (some ⟨P.R,0,none⟩)) ?_
    refine tk 3 (.int .i64 (lineI (tokA L b) : Int)) ?_
    have vv : W5.drew.heap[W1.heap.size]?=_:=((((((KeptR.refl P.R wr).trans b3).trans b4).trans b5).trans (.of (B0.drew))).block W1.heap.size hV0 (by omega)).trans v0
    obtain ⟨⟨_,_,_,_⟩,_,_,_,_⟩:=t4 vv
    refine wpAny_ready (rs:=[1,4]) (by kernel_rfl) (by simp) ?_
    refine AllReady.cons rfl (fun K hK=>?_) (AllReady.cons rfl (fun K hK=>?_) AllReady.nil)
    ·go_simp
     refine hK _ _ ?_
     clear hK K
     refine wpAny_chain [_,_,_,_,_] [4,5,6,7,8] _ _ _ _ (by kernel_rfl) rfl (by decide) ?_
     go_wp2_with fail
     go_at_call 153
     refine (HBN'.out _ _ _ _ (lineI (tokA L b)+1) (r5.bel (B0.drew)) (by omega) (by omega) (by omega) (by unfold Ms at *;omega)).mono ?_
     rintro e W6 A6
     cases h6 : binF L f (lineI (tokA L b)+1) (b+1) o with
     | bad p er =>
      rw [h6] at A6
      obtain ⟨rfl,b6⟩:=A6
      obtain rfl : Rs.bad p er=res:=by rw [← HR.out,binG];simp [Rs.bind,mtT,hl,h6]
      exact ⟨rfl,rfl,a0.trans ((k5.trans (.of (B0.drew))).trans b6)⟩
     | ok x6 a6 =>
      rw [h6] at A6
      obtain ⟨ad6,c6,rfl,l6',r6,b6⟩:=A6
      have g6:=(MN.bin' (lineI (tokA L b)+1) (b+1) o) _ _ h6
      have y6:=r6.le
      have k6:=(k5.trans (.of (B0.drew))).trans b6
      have z6:=k6.size
      have l6:=l6'.mono (T:=fun b=>w.heap.size+1 ≤ b∧b ≠ W1.heap.size) (fun b hb=>by have:=(k5.trans (.of (B0.drew))).size;have:=(((((KeptR.refl P.R wr).trans b3).trans b4).trans b5).trans (.of (B0.drew))).size;exact ⟨by omega,by omega⟩)
      clear vv
      have vv : W6.heap[W1.heap.size]?=_:=(((((((KeptR.refl P.R wr).trans b3).trans b4).trans b5).trans (.of (B0.drew))).trans b6).block W1.heap.size hV0 (by omega)).trans v0
      obtain ⟨⟨_,_,_,_⟩,_,_,_,_⟩:=t4 vv
      go_wp2_with fail
      go_at_call 42
      refine (node_any 16 (tokA L b).t (some ⟨W6.heap.size,0,none⟩) 2 2 _).mono ?_
      rintro e W7 ⟨rfl,b7'⟩
      have j7 : W7.heap[W6.heap.size]?=_:=(b7'.block _ (by simp)).trans (heap_alloc_new W6 _)
      have r7:=(r6.bel (B0.alloc le0 _)).bel b7'
      have b7 : KeptR P.R W6 W7:=(KeptR.of (B0.alloc le0 _)).trans (.of b7')
      have k7:=k6.trans b7
      have z7:=k7.size
      have l7 : LAt W7 (fun b=>w.heap.size+1 ≤ b∧b ≠ W1.heap.size) (.slice (some ⟨W6.heap.size,0,none⟩) 2 2) [nd,x6]:=LAt.n2 j7 (by have:=k6.size;have:=((((((KeptR.refl P.R wr).trans b3).trans b4).trans b5).trans (.of (B0.drew))).trans b6).size;exact ⟨by omega,by omega⟩) (lN.keep (((((((KeptR.refl P.R wr).trans b3).trans b4).trans b5).trans (.of (B0.drew))).trans b6).trans b7).size (fun b hb hl=>(((((((KeptR.refl P.R wr).trans b3).trans b4).trans b5).trans (.of (B0.drew))).trans b6).trans b7).block b hl (by have:=hb.1;omega))) (l6.keep ((KeptR.refl P.R W6).trans b7).size (fun b hb hl=>((KeptR.refl P.R W6).trans b7).block b hl (by have:=hb.1;omega)))
      clear vv
      have vv : W7.heap[W1.heap.size]?=_:=((((((((KeptR.refl P.R wr).trans b3).trans b4).trans b5).trans (.of (B0.drew))).trans b6).trans b7).block W1.heap.size hV0 (by omega)).trans v0
      obtain ⟨⟨_,_,_,_⟩,_,_,_,_⟩:=t4 vv
      go_wp2
      go_roundg g
      case rel=>exact ⟨(mk0 16 (tokA L b).t [nd,x6]),a6,some _,2,by show _=_;rw [← HR.out,binG];simp [Rs.bind,mtT,hl,h6],by show _ ≤ _;omega,r7.set4 (by omega) (fun q=>by have:=h.x.lt q;omega) _ _ _ _,t4_set _ _ _ _ vv,((l7.keep (KeptR.refl P.R W7).size (fun b hb hl=>(KeptR.refl P.R W7).block b hl (by have:=hb.1;omega)))).keep (by simp [World.setCell]) (fun b hb hl=>blk_set4 hb.2 _ _ _ _),(((k7.new (by omega) _ _).new (by omega) _ _).new (by omega) _ _).new (by omega) _ _,by simp [World.setCell];have:=(((((((KeptR.refl P.R wr).trans b3).trans b4).trans b5).trans (.of (B0.drew))).trans b6).trans b7).size;omega,by omega⟩
      case measure=>omega
    ·go_simp
     refine hK _ _ ?_
     clear hK K
     refine wpAny_two (i:=1) (j:=5) (is:=[5,6,7,8]) (js:=[1,6,7,8]) (os:=[_,_,_,_]) (us:=[_,_,_,_]) (by kernel_rfl) rfl rfl (by kernel_rfl) (by kernel_rfl) rfl rfl (by decide) (by decide) ?_ ?_
     all_goals
      go_wp2_with fail
      go_at_call 153
      refine (HBN'.out _ _ _ _ (lineI (tokA L b)+1) (r5.bel (B0.drew)) (by omega) (by omega) (by omega) (by unfold Ms at *;omega)).mono ?_
      rintro e W8 A8
      cases h8 : binF L f (lineI (tokA L b)+1) (b+1) o with
      | bad p er =>
       rw [h8] at A8
       obtain ⟨rfl,b8⟩:=A8
       obtain rfl : Rs.bad p er=res:=by rw [← HR.out,binG];simp [Rs.bind,mtT,hl,h8]
       exact ⟨rfl,rfl,a0.trans ((k5.trans (.of (B0.drew))).trans b8)⟩
      | ok x8 a8 =>
       rw [h8] at A8
       obtain ⟨ad8,c8,rfl,l8',r8,b8⟩:=A8
       have g8:=(MN.bin' (lineI (tokA L b)+1) (b+1) o) _ _ h8
       have y8:=r8.le
       have k8:=(k5.trans (.of (B0.drew))).trans b8
       have z8:=k8.size
       have l8:=l8'.mono (T:=fun b=>w.heap.size+1 ≤ b∧b ≠ W1.heap.size) (fun b hb=>by have:=(k5.trans (.of (B0.drew))).size;have:=(((((KeptR.refl P.R wr).trans b3).trans b4).trans b5).trans (.of (B0.drew))).size;exact ⟨by omega,by omega⟩)
       clear vv
       have vv : W8.heap[W1.heap.size]?=_:=(((((((KeptR.refl P.R wr).trans b3).trans b4).trans b5).trans (.of (B0.drew))).trans b8).block W1.heap.size hV0 (by omega)).trans v0
       obtain ⟨⟨_,_,_,_⟩,_,_,_,_⟩:=t4 vv
       go_wp2_with fail
       go_at_call 42
       refine (node_any 16 (tokA L b).t (some ⟨W8.heap.size,0,none⟩) 2 2 _).mono ?_
       rintro e W9 ⟨rfl,b9'⟩
       have j9 : W9.heap[W8.heap.size]?=_:=(b9'.block _ (by simp)).trans (heap_alloc_new W8 _)
       have r9:=(r8.bel (B0.alloc le0 _)).bel b9'
       have b9 : KeptR P.R W8 W9:=(KeptR.of (B0.alloc le0 _)).trans (.of b9')
       have k9:=k8.trans b9
       have z9:=k9.size
       have l9 : LAt W9 (fun b=>w.heap.size+1 ≤ b∧b ≠ W1.heap.size) (.slice (some ⟨W8.heap.size,0,none⟩) 2 2) [nd,x8]:=LAt.n2 j9 (by have:=k8.size;have:=((((((KeptR.refl P.R wr).trans b3).trans b4).trans b5).trans (.of (B0.drew))).trans b8).size;exact ⟨by omega,by omega⟩) (lN.keep (((((((KeptR.refl P.R wr).trans b3).trans b4).trans b5).trans (.of (B0.drew))).trans b8).trans b9).size (fun b hb hl=>(((((((KeptR.refl P.R wr).trans b3).trans b4).trans b5).trans (.of (B0.drew))).trans b8).trans b9).block b hl (by have:=hb.1;omega))) (l8.keep ((KeptR.refl P.R W8).trans b9).size (fun b hb hl=>((KeptR.refl P.R W8).trans b9).block b hl (by have:=hb.1;omega)))
       clear vv
       have vv : W9.heap[W1.heap.size]?=_:=((((((((KeptR.refl P.R wr).trans b3).trans b4).trans b5).trans (.of (B0.drew))).trans b8).trans b9).block W1.heap.size hV0 (by omega)).trans v0
       obtain ⟨⟨_,_,_,_⟩,_,_,_,_⟩:=t4 vv
       go_wp2
       go_roundg g
       case rel=>exact ⟨(mk0 16 (tokA L b).t [nd,x8]),a8,some _,2,by show _=_;rw [← HR.out,binG];simp [Rs.bind,mtT,hl,h8],by show _ ≤ _;omega,r9.set4 (by omega) (fun q=>by have:=h.x.lt q;omega) _ _ _ _,t4_set _ _ _ _ vv,((l9.keep (KeptR.refl P.R W9).size (fun b hb hl=>(KeptR.refl P.R W9).block b hl (by have:=hb.1;omega)))).keep (by simp [World.setCell]) (fun b hb hl=>blk_set4 hb.2 _ _ _ _),(((k9.new (by omega) _ _).new (by omega) _ _).new (by omega) _ _).new (by omega) _ _,by simp [World.setCell];have:=(((((((KeptR.refl P.R wr).trans b3).trans b4).trans b5).trans (.of (B0.drew))).trans b8).trans b9).size;omega,by omega⟩
       case measure=>omega
theorem LAt.news {w : World} {S : Nat→Prop} {ad : Option Addr} {c : Nat} {ks : List Nd} (h : LAt w S (.slice ad ks.length c) ks) (h0 : 0 < ks.length) : ∃ (F : List (Nd × Value)) (a0 : Addr),ad=some a0∧F.map (·.1)=ks∧(∀ j u,(rowN F)[j]?=some u→w.cell? (a0.add j)=some u)∧(∀ u ∈ rowN F,u.oneCell'=true)∧(∀ p ∈ F,LAt w S p.2 p.1.ks):=by
 obtain ⟨a',c',bl,o,f,e,hp,h4,hk⟩:=h.op
 obtain ⟨rfl,hS,hb⟩:=hp h0
 cases e
 have hl : (List.range ks.length).length=ks.length:=by simp
 obtain ⟨F,hF⟩ : ∃ F : List (Nd × Value),F=ks.zip ((List.range ks.length).map f):=⟨_,rfl⟩
 have hlen : F.length=ks.length:=by rw [hF];simp
 have hget : ∀ i (hi : i < F.length),F[i]=(ks[i]'(by omega),f i):=fun i hi=>by subst hF;simp
 refine ⟨F,⟨bl,o,none⟩,rfl,?_,?_,?_,?_⟩
 ·rw [hF];exact List.map_fst_zip (by simp)
 ·intro j u hj
  have hjl : j < F.length * 4:=by
   have:=(List.getElem?_eq_some_iff.1 hj).1
   rw [rowN_length] at this
   exact this
  have hi : j / 4 < F.length:=by omega
  have hr:=rowN_get F (j / 4) hi
  have h4':=h4 (j / 4) (by omega)
  rw [hget _ hi] at hr
  have ej : j=j / 4 * 4+j % 4:=by omega
  have hm : j % 4=0 ∨ j % 4=1 ∨ j % 4=2 ∨ j % 4=3:=by omega
  obtain ⟨f0,f1,f2,f3⟩:=h4'
  rw [Addr.add_lit]
  rcases hm with e | e | e | e
  ·rw [show j=j / 4 * 4 by omega,hr.1] at hj
   cases hj
   rw [show o+j=o+j / 4 * 4 by omega]
   exact f0
  ·rw [show j=j / 4 * 4+1 by omega,hr.2.1] at hj
   cases hj
   rw [show o+j=o+j / 4 * 4+1 by omega]
   exact f1
  ·rw [show j=j / 4 * 4+2 by omega,hr.2.2.1] at hj
   cases hj
   rw [show o+j=o+j / 4 * 4+2 by omega]
   exact f2
  ·rw [show j=j / 4 * 4+3 by omega,hr.2.2.2] at hj
   cases hj
   rw [show o+j=o+j / 4 * 4+3 by omega]
   exact f3
 ·intro u hu
  obtain ⟨p,hp,hu⟩:=List.mem_flatMap.1 hu
  obtain ⟨i,hi,rfl⟩:=List.mem_iff_getElem.1 hp
  rw [hget i hi] at hu
  obtain ⟨a2,c2,e2⟩:=(hk i (by omega)).sl
  rw [e2] at hu
  rcases List.mem_cons.1 hu with rfl | hu
  ·rfl
  rcases List.mem_cons.1 hu with rfl | hu
  ·rfl
  rcases List.mem_cons.1 hu with rfl | hu
  ·rfl
  rcases List.mem_cons.1 hu with rfl | hu
  ·rfl
  ·cases hu
 ·intro p hp
  obtain ⟨i,hi,rfl⟩:=List.mem_iff_getElem.1 hp
  rw [hget i hi]
  exact hk i (by omega)
theorem run_append_empty (w : World) (ty : TypeId) {base n : Nat} {xs : List Value} (v : Value) (hown : w.ownsRow base 24 4 v n xs) (ad : Option Addr) (c : Nat) : (Builtin.append_ #[22,22] ty #[v,.slice ad 0 c]).run Tryz.prog w = .ok v w:=by
 obtain ⟨i0,hi0,hz0,hz1,hz2⟩:=info_parts info_nd
 rcases hown.2 with ⟨rfl,rfl⟩ | ⟨g,cap,cur,rfl,_,_,hnc,_⟩
 ·cases ad <;> simp [Builtin.append_,run_underlying Tryz.underlying22,sizeOf,typeInfo,hi0,hz1,Builtin.lenOf,Builtin.firstCells,loadCells,loadCellsFrom]
 ·cases ad <;> simp [Builtin.append_,run_underlying Tryz.underlying22,sizeOf,typeInfo,hi0,hz1,Builtin.lenOf,Builtin.firstCells,hnc,storeCells,loadCells,loadCellsFrom]
theorem wpList_append_lat (w : World) {ops : Array Oper} {rest : List Oper} {o : Oper} {a : Act} {Q : Exit→Act→World→Prop} (hgd : o.guard=none) (s x : Operand)
 (ho : o.op = .call { callee:=.builtin .append,args:=#[s,x],argTypes:=#[22,22] })
 (base : Nat) (v : Value) (n : Nat) (xs : List Value) (hs : a.eval s=v) (hown : w.ownsRow base 24 4 v n xs) (S : Nat→Prop) (ad : Option Addr) (c : Nat) (ks : List Nd) (hx : a.eval x = .slice ad ks.length c) (hl : LAt w S (.slice ad ks.length c) ks)
 (hn : n+ks.length ≤ 4194304) (hbase : base ≤ w.heap.size)
 (h : ∀ (v' : Value) (w' : World) (F : List (Nd × Value)),F.map (·.1)=ks→w'.ownsRow base 24 4 v' (n+ks.length) (xs ++ rowN F)→w.grownBy w' v.ownBlock→(∀ g,v'.ownBlock=some g→v.ownBlock=some g ∨ g=w.heap.size)→(∀ p ∈ F,LAt w S p.2 p.1.ks)→wpList Tryz.prog ops Q rest (a.put o.dst v') w') : wpList Tryz.prog ops Q (o :: rest) a w:=by
 obtain ⟨i0,hi0,hz0,hz1,hz2⟩:=info_parts info_nd
 by_cases h0 : 0 < ks.length
 ·obtain ⟨F,a0,rfl,hF,hc,h1,hk⟩:=hl.news h0
  have hFl : F.length=ks.length:=by rw [← hF];simp
  refine wpList_append_lies w hgd s x _ ho base 24 i0 _ 4 56 Tryz.underlying22 hi0 hz0 hz1 hz2 rfl (by omega) v n xs hs hown a0 ks.length c (rowN F) hx (by rw [rowN_length,hFl]) hc h1 h0 (by unfold maxLen;omega) (by omega) hbase w.heap.size rfl ?_
  intro g cap w' h2 h3 h4 h5
  exact h _ _ F hF h2 h3 (fun g' e=>by cases e;exact h4) hk
 ·obtain rfl : ks=[]:=List.length_eq_zero_iff.1 (by omega)
  refine wpList_plain hgd fun K hK=>?_
  have hr:=fun ty=>run_append_empty w ty v hown ad c
  unfold Oper.wp
  have e : (execOp a.eval o).run Tryz.prog w = .ok (.value v) w:=by
   simp only [List.length_nil] at hx
   obtain ⟨dst,op,ty,pos,after,guard⟩:=o
   simp only at ho
   subst ho
   rw [BigFrame.execOp_builtin,BigFrame.builtin_append]
   have e2 : (#[s,x] : Array Operand).map a.eval=#[v,.slice ad 0 c]:=by simp [hs,hx]
   rw [e2]
   simp only [Sem.run_bind,hr,Result.andThen]
   rfl
  rw [e]
  exact hK _ _ (h v w [] rfl (by simpa [rowN] using hown) ⟨rfl,rfl,rfl,Nat.le_refl _,fun _ _ _=>rfl⟩ (fun g e=>.inl e) (by simp))
theorem listG_len {σ : Type} {L : List Tok} {s : ByteArray} {F : σ→Nat→Rs (Nd × σ)} (hF : ∀ st a,Ge (a+1) (F st a)) : ∀ (n : Nat) (acc : List Nd) (st : σ) (a : Nat) (l : List Nd) (b : Nat),listG L s F n acc st a = .ok l b→l.length+a+1 ≤ acc.length+b
 | 0,_,_,_,_,_,h=>by rw [listG] at h;cases h
 | n+1,acc,st,a,l,b,h=>by
  rw [listG] at h
  split at h
  ·cases h;omega
  ·have hf:=hF st a
   split at h
   ·cases h
   ·rename_i x a1 e
    have h1:=hf _ _ e
    split at h
    ·have:=listG_len hF n _ _ _ _ _ h;simp at this;omega
    ·split at h
     ·have:=listG_len hF n _ _ _ _ _ h;simp at this;omega
     ·cases h
theorem listE_len {L : List Tok} {s : ByteArray} {E : Nat→Rs Nd} (hE : ∀ a,Ge (a+1) (E a)) {a : Nat} {l : List Nd} {b : Nat} (h : listE L E s a = .ok l b) : l.length+a+1 ≤ b:=by
 have:=listG_len (fun (_ : Unit) a=>(hE a).bind (c:=a+1) (fun u b hb=>Ge.ok hb)) _ _ _ _ _ _ h
 simpa using this
end Go.Proofs.YthfkfbcopinmiaaGreatDoor
