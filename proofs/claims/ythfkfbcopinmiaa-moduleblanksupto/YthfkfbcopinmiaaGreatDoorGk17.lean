/- Own text. Package parse: the rules,one by one: arrows and types of functions. Package parse: the rules,one by one: what types begin with. Package parse: the rules,one by one: lists of a type. -/
import Derived.Test.YthfkfbcopinmiaaGreatDoorGk12
set_option linter.unusedVariables false
set_option linter.unusedSimpArgs false
set_option maxRecDepth 100000
set_option maxHeartbeats 8000000
namespace Go.Proofs.YthfkfbcopinmiaaGreatDoor
open Go.RowKit
theorem arrow_step (L : List Tok) (hs : Small L) (f : Nat) (MN : Mono L f) (hTo : CN 129 L f 19 (typeOrF L f)) (hAb : CN 168 L f 21 (abodyF L f)) : CN 167 L (f+1) 6 (arrowF L (f+1)):=by
 intro w P a o h ho hM
 have hRw:=h.lt
 have hle:=h.le
 obtain ⟨h0,a0,z0,M0⟩:=begin_cell h
 obtain ⟨res,hres⟩ : ∃ r,arrowF L (f+1) a o=r:=⟨_,rfl⟩
 have HR : Hid (arrowF L (f+1) a o=res):=hres
 rw [hres]
 clear hres
 have HTO' : Hid (CN 129 L f 19 (typeOrF L f)):=hTo
 have HAB' : Hid (CN 168 L f 21 (abodyF L f)):=hAb
 clear hTo
 clear hAb
 go_enter Tryz.func167,Tryz.ntmps167
 go_wp2_with fail
 go_at_call 77
 refine (params_any (k:=129) (rs:=#[.pointer (some ⟨P.R,0,none⟩)]) (caps:=#[]) eg_typeOrNone (fun b=>typeOrF L f b o) _ _ h0 hs (fun b x c hx=>(MN.typeOr' b o) _ _ hx) (fun W b hb r=>HTO'.out _ _ _ _ r (by omega) (by have:=r.le;unfold Ms at *;omega))).mono ?_
 rintro e W18 A18
 cases h18 : paramsG L (fun b=>typeOrF L f b o) a with
 | bad p er =>
  rw [h18] at A18
  obtain ⟨rfl,b18⟩:=A18
  obtain rfl : Rs.bad p er=res:=by rw [← HR.out,arrowF];simp [Rs.bind,mtT,h18]
  exact ⟨rfl,rfl,a0.trans ((KeptR.refl P.R (w.alloc zN)).trans b18)⟩
 | ok x18 a18 =>
  rw [h18] at A18
  obtain ⟨ad18,c18,rfl,l18',r18,b18⟩:=A18
  have g18:=(paramsG_ge (fun b=>MN.typeOr' b o) a) _ _ h18
  have y18:=r18.le
  have k18:=(KeptR.refl P.R (w.alloc zN)).trans b18
  have z18:=k18.size
  have l18:=l18'.mono (T:=fun b=>w.heap.size+1 ≤ b) (fun b hb=>by have:=(KeptR.refl P.R (w.alloc zN)).size;omega)
  go_wp2_with fail
  go_at_call 39
  refine (want_any (r18.bel (B0.alloc le0 _)) sAr).mono ?_
  rintro e W20 A20
  cases h20 : wantR L sAr a18 with
  | bad p er =>
   rw [h20] at A20
   obtain ⟨rfl,b20⟩:=A20
   obtain rfl : Rs.bad p er=res:=by rw [← HR.out,arrowF];simp [Rs.bind,mtT,h18,h20]
   exact ⟨rfl,rfl,a0.trans ((k18.alloc _).trans b20)⟩
  | ok x20 a20 =>
   rw [h20] at A20
   obtain ⟨rfl,r20,b20⟩:=A20
   have g20:=(want_ge L sAr a18) _ _ h20
   have y20:=r20.le
   have k20:=(k18.alloc (Obj.cells #[.int .i64 x18.k,.string x18.t,.int .i64 x18.n,.slice ad18 x18.ks.length c18] 24)).trans b20
   have z20:=k20.size
   go_wp2_with fail
   refine wp_region_any (by kernel_rfl) ?_
   change wpAny _ _ _ _ _ _ _ (World.drew _)
   refine tk 2 (.pointer (some ⟨P.R,0,none⟩)) ?_
   have v19 : W20.drew.heap[W18.heap.size]?=_:=((((KeptR.refl P.R _).trans b20).trans (.of (B0.drew))).block (W18.heap.size) (by simp) (by have:=k18.size;omega)).trans (heap_alloc_new W18 _)
   obtain ⟨⟨_,_,_,_⟩,_,_,_,_⟩:=t4 v19
   refine wpAny_ready (rs:=[0,1]) (by kernel_rfl) (by simp) ?_
   refine AllReady.cons rfl (fun K hK=>?_) (AllReady.cons rfl (fun K hK=>?_) AllReady.nil)
   ·go_simp
    refine hK _ _ ?_
    clear hK K
    refine wpAny_chain [_,_,_,_,_] [1,3,4,5,6] _ _ _ _ (by kernel_rfl) rfl (by decide) ?_
    go_wp2_with fail
    go_at_call 42
    refine (node_any 14 ⟨#[]⟩ none 0 0 _).mono ?_
    rintro e W21 ⟨rfl,b21'⟩
    have r21:=(r20.bel (B0.drew)).bel b21'
    have b21:=KeptR.of (b:=P.R) b21'
    have k21:=(k20.trans (.of (B0.drew))).trans b21
    have z21:=k21.size
    go_wp2_with fail
    go_at_call 168
    refine (HAB'.out _ _ _ _ r21 (by omega) (by unfold Ms at *;omega)).mono ?_
    rintro e W22 A22
    cases h22 : abodyF L f a20 o with
    | bad p er =>
     rw [h22] at A22
     obtain ⟨rfl,b22⟩:=A22
     obtain rfl : Rs.bad p er=res:=by rw [← HR.out,arrowF];simp [Rs.bind,mtT,h18,h20,h22]
     exact ⟨rfl,rfl,a0.trans (k21.trans b22)⟩
    | ok x22 a22 =>
     rw [h22] at A22
     obtain ⟨ad22,c22,rfl,l22',r22,b22⟩:=A22
     have g22:=(MN.abody' a20 o) _ _ h22
     have y22:=r22.le
     have k22:=k21.trans b22
     have z22:=k22.size
     have l22:=l22'.mono (T:=fun b=>w.heap.size+1 ≤ b) (fun b hb=>by have:=k21.size;omega)
     have v19 : W22.heap[W18.heap.size]?=_:=((((((KeptR.refl P.R _).trans b20).trans (.of (B0.drew))).trans b21).trans b22).block (W18.heap.size) (by simp) (by have:=k18.size;omega)).trans (heap_alloc_new W18 _)
     obtain ⟨⟨_,_,_,_⟩,_,_,_,_⟩:=t4 v19
     go_wp2_with fail
     go_at_call 42
     refine (node_any 11 ⟨#[]⟩ (some ⟨W22.heap.size,0,none⟩) 3 3 _).mono ?_
     rintro e W23 ⟨rfl,b23'⟩
     have j23 : W23.heap[W22.heap.size]?=_:=(b23'.block _ (by simp)).trans (heap_alloc_new W22 _)
     have r23:=(r22.bel (B0.alloc le0 _)).bel b23'
     have b23 : KeptR P.R W22 W23:=(KeptR.of (B0.alloc le0 _)).trans (.of b23')
     have k23:=k22.trans b23
     have z23:=k23.size
     have l23 : LAt W23 (fun b=>w.heap.size+1 ≤ b) (.slice (some ⟨W22.heap.size,0,none⟩) 3 3) [x18,noneN,x22]:=LAt.n3 j23 (by have:=k22.size;show _ ≤ _;omega) (l18.keepR (((((((KeptR.refl P.R W18).alloc _).trans b20).trans (.of (B0.drew))).trans b21).trans b22).trans b23) (by omega)) (LAt.nil (S:=fun b=>w.heap.size+1 ≤ b) none 0) (l22.keepR ((KeptR.refl P.R W22).trans b23) (by omega))
     obtain rfl : Rs.ok (mk0 11 ⟨#[]⟩ [x18,noneN,x22]) a22=res:=by rw [← HR.out,arrowF];simp [Rs.bind,mtT,h18,h20,h22]
     have m0:=M0.out _ k23
     obtain ⟨⟨_,_,_,_⟩,_,_,_,_⟩:=t4 m0
     go_wp2
     refine bodyPost_ret (res_n4 Tryz.results167 (t4_set _ _ _ _ m0) rfl) rfl ?_
     exact close_ok (x:=(mk0 11 ⟨#[]⟩ [x18,noneN,x22])) h (a0.trans k23) (l23.keepR (KeptR.refl P.R W23) (by omega)) (by omega) r23
   ·go_simp
    go_at_call 42
    refine (node_any 14 ⟨#[]⟩ none 0 0 _).mono ?_
    rintro e W24 ⟨rfl,b24'⟩
    have r24:=(r20.bel (B0.drew)).bel b24'
    have b24:=KeptR.of (b:=P.R) b24'
    have k24:=(k20.trans (.of (B0.drew))).trans b24
    have z24:=k24.size
    refine hK _ _ ?_
    clear hK K
    have v19 : W24.heap[W18.heap.size]?=_:=(((((KeptR.refl P.R _).trans b20).trans (.of (B0.drew))).trans b24).block (W18.heap.size) (by simp) (by have:=k18.size;omega)).trans (heap_alloc_new W18 _)
    obtain ⟨⟨_,_,_,_⟩,_,_,_,_⟩:=t4 v19
    refine wpAny_two (i:=0) (j:=3) (is:=[3,4,5,6]) (js:=[0,4,5,6]) (os:=[_,_,_,_]) (us:=[_,_,_,_]) (by kernel_rfl) rfl rfl (by kernel_rfl) (by kernel_rfl) rfl rfl (by decide) (by decide) ?_ ?_
    all_goals
     go_wp2_with fail
     go_at_call 168
     refine (HAB'.out _ _ _ _ r24 (by omega) (by unfold Ms at *;omega)).mono ?_
     rintro e W25 A25
     cases h25 : abodyF L f a20 o with
     | bad p er =>
      rw [h25] at A25
      obtain ⟨rfl,b25⟩:=A25
      obtain rfl : Rs.bad p er=res:=by rw [← HR.out,arrowF];simp [Rs.bind,mtT,h18,h20,h25]
      exact ⟨rfl,rfl,a0.trans (k24.trans b25)⟩
     | ok x25 a25 =>
      rw [h25] at A25
      obtain ⟨ad25,c25,rfl,l25',r25,b25⟩:=A25
      have g25:=(MN.abody' a20 o) _ _ h25
      have y25:=r25.le
      have k25:=k24.trans b25
      have z25:=k25.size
      have l25:=l25'.mono (T:=fun b=>w.heap.size+1 ≤ b) (fun b hb=>by have:=k24.size;omega)
      have v19 : W25.heap[W18.heap.size]?=_:=((((((KeptR.refl P.R _).trans b20).trans (.of (B0.drew))).trans b24).trans b25).block (W18.heap.size) (by simp) (by have:=k18.size;omega)).trans (heap_alloc_new W18 _)
      obtain ⟨⟨_,_,_,_⟩,_,_,_,_⟩:=t4 v19
      go_wp2_with fail
      go_at_call 42
      refine (node_any 11 ⟨#[]⟩ (some ⟨W25.heap.size,0,none⟩) 3 3 _).mono ?_
      rintro e W26 ⟨rfl,b26'⟩
      have j26 : W26.heap[W25.heap.size]?=_:=(b26'.block _ (by simp)).trans (heap_alloc_new W25 _)
      have r26:=(r25.bel (B0.alloc le0 _)).bel b26'
      have b26 : KeptR P.R W25 W26:=(KeptR.of (B0.alloc le0 _)).trans (.of b26')
      have k26:=k25.trans b26
      have z26:=k26.size
      have l26 : LAt W26 (fun b=>w.heap.size+1 ≤ b) (.slice (some ⟨W25.heap.size,0,none⟩) 3 3) [x18,noneN,x25]:=LAt.n3 j26 (by have:=k25.size;show _ ≤ _;omega) (l18.keepR (((((((KeptR.refl P.R W18).alloc _).trans b20).trans (.of (B0.drew))).trans b24).trans b25).trans b26) (by omega)) (LAt.nil (S:=fun b=>w.heap.size+1 ≤ b) none 0) (l25.keepR ((KeptR.refl P.R W25).trans b26) (by omega))
      obtain rfl : Rs.ok (mk0 11 ⟨#[]⟩ [x18,noneN,x25]) a25=res:=by rw [← HR.out,arrowF];simp [Rs.bind,mtT,h18,h20,h25]
      have m0:=M0.out _ k26
      obtain ⟨⟨_,_,_,_⟩,_,_,_,_⟩:=t4 m0
      go_wp2
      refine bodyPost_ret (res_n4 Tryz.results167 (t4_set _ _ _ _ m0) rfl) rfl ?_
      exact close_ok (x:=(mk0 11 ⟨#[]⟩ [x18,noneN,x25])) h (a0.trans k26) (l26.keepR (KeptR.refl P.R W26) (by omega)) (by omega) r26
theorem ftype_step (L : List Tok) (hs : Small L) (f : Nat) (MN : Mono L f) (hTy : CN 147 L f 18 (typingF L f)) (hT : CN 94 L f 20 (typeF L f)) : CN 146 L (f+1) 10 (ftypeF L (f+1)):=by
 intro w P a o h ho hM
 have hRw:=h.lt
 have hle:=h.le
 obtain ⟨h0,a0,z0,M0⟩:=begin_cell h
 obtain ⟨res,hres⟩ : ∃ r,ftypeF L (f+1) a o=r:=⟨_,rfl⟩
 have HR : Hid (ftypeF L (f+1) a o=res):=hres
 rw [hres]
 clear hres
 have HTY' : Hid (CN 147 L f 18 (typingF L f)):=hTy
 have HT' : Hid (CN 94 L f 20 (typeF L f)):=hT
 clear hTy
 clear hT
 go_enter Tryz.func146,Tryz.ntmps146
 go_wp2_with fail
 go_at_call 77
 refine (params_any (k:=147) (rs:=#[.pointer (some ⟨P.R,0,none⟩)]) (caps:=#[]) eg_typing (fun b=>typingF L f b o) _ _ h0 hs (fun b x c hx=>((MN.typing' b o).mono (by omega)) _ _ hx) (fun W b hb r=>HTY'.out _ _ _ _ r (by omega) (by have:=r.le;unfold Ms at *;omega))).mono ?_
 rintro e W29 A29
 cases h29 : paramsG L (fun b=>typingF L f b o) a with
 | bad p er =>
  rw [h29] at A29
  obtain ⟨rfl,b29⟩:=A29
  obtain rfl : Rs.bad p er=res:=by rw [← HR.out,ftypeF];simp [Rs.bind,mtT,h29]
  exact ⟨rfl,rfl,a0.trans ((KeptR.refl P.R (w.alloc zN)).trans b29)⟩
 | ok x29 a29 =>
  rw [h29] at A29
  obtain ⟨ad29,c29,rfl,l29',r29,b29⟩:=A29
  have g29:=(paramsG_ge (fun b=>(MN.typing' b o).mono (by omega)) a) _ _ h29
  have y29:=r29.le
  have k29:=(KeptR.refl P.R (w.alloc zN)).trans b29
  have z29:=k29.size
  have l29:=l29'.mono (T:=fun b=>w.heap.size+1 ≤ b) (fun b hb=>by have:=(KeptR.refl P.R (w.alloc zN)).size;omega)
  go_wp2_with fail
  go_at_call 39
  refine (want_any (r29.bel (B0.alloc le0 _)) sAr).mono ?_
  rintro e W31 A31
  cases h31 : wantR L sAr a29 with
  | bad p er =>
   rw [h31] at A31
   obtain ⟨rfl,b31⟩:=A31
   obtain rfl : Rs.bad p er=res:=by rw [← HR.out,ftypeF];simp [Rs.bind,mtT,h29,h31]
   exact ⟨rfl,rfl,a0.trans ((k29.alloc _).trans b31)⟩
  | ok x31 a31 =>
   rw [h31] at A31
   obtain ⟨rfl,r31,b31⟩:=A31
   have g31:=(want_ge L sAr a29) _ _ h31
   have y31:=r31.le
   have k31:=(k29.alloc (Obj.cells #[.int .i64 x29.k,.string x29.t,.int .i64 x29.n,.slice ad29 x29.ks.length c29] 24)).trans b31
   have z31:=k31.size
   go_wp2_with fail
   refine wp_region_any (by kernel_rfl) ?_
   change wpAny _ _ _ _ _ _ _ (World.drew _)
   refine tk 1 (.pointer (some ⟨P.R,0,none⟩)) ?_
   have v30 : W31.drew.heap[W29.heap.size]?=_:=((((KeptR.refl P.R _).trans b31).trans (.of (B0.drew))).block (W29.heap.size) (by simp) (by have:=k29.size;omega)).trans (heap_alloc_new W29 _)
   obtain ⟨⟨_,_,_,_⟩,_,_,_,_⟩:=t4 v30
   refine wpAny_two (i:=0) (j:=2) (is:=[2,3,4,5]) (js:=[0,3,4,5]) (os:=[_,_,_,_]) (us:=[_,_,_,_]) (by kernel_rfl) rfl rfl (by kernel_rfl) (by kernel_rfl) rfl rfl (by decide) (by decide) ?_ ?_
   all_goals
    go_wp2_with fail
    go_at_call 94
    refine (HT'.out _ _ _ _ (r31.bel (B0.drew)) (by omega) (by unfold Ms at *;omega)).mono ?_
    rintro e W32 A32
    cases h32 : typeF L f a31 o with
    | bad p er =>
     rw [h32] at A32
     obtain ⟨rfl,b32⟩:=A32
     obtain rfl : Rs.bad p er=res:=by rw [← HR.out,ftypeF];simp [Rs.bind,mtT,h29,h31,h32]
     exact ⟨rfl,rfl,a0.trans ((k31.trans (.of (B0.drew))).trans b32)⟩
    | ok x32 a32 =>
     rw [h32] at A32
     obtain ⟨ad32,c32,rfl,l32',r32,b32⟩:=A32
     have g32:=(MN.type' a31 o) _ _ h32
     have y32:=r32.le
     have k32:=(k31.trans (.of (B0.drew))).trans b32
     have z32:=k32.size
     have l32:=l32'.mono (T:=fun b=>w.heap.size+1 ≤ b) (fun b hb=>by have:=(k31.trans (.of (B0.drew))).size;omega)
     have v30 : W32.heap[W29.heap.size]?=_:=(((((KeptR.refl P.R _).trans b31).trans (.of (B0.drew))).trans b32).block (W29.heap.size) (by simp) (by have:=k29.size;omega)).trans (heap_alloc_new W29 _)
     obtain ⟨⟨_,_,_,_⟩,_,_,_,_⟩:=t4 v30
     go_wp2_with fail
     go_at_call 42
     refine (node_any 35 ⟨#[]⟩ (some ⟨W32.heap.size,0,none⟩) 2 2 _).mono ?_
     rintro e W33 ⟨rfl,b33'⟩
     have j33 : W33.heap[W32.heap.size]?=_:=(b33'.block _ (by simp)).trans (heap_alloc_new W32 _)
     have r33:=(r32.bel (B0.alloc le0 _)).bel b33'
     have b33 : KeptR P.R W32 W33:=(KeptR.of (B0.alloc le0 _)).trans (.of b33')
     have k33:=k32.trans b33
     have z33:=k33.size
     have l33 : LAt W33 (fun b=>w.heap.size+1 ≤ b) (.slice (some ⟨W32.heap.size,0,none⟩) 2 2) [x29,x32]:=LAt.n2 j33 (by have:=k32.size;show _ ≤ _;omega) (l29.keepR ((((((KeptR.refl P.R W29).alloc _).trans b31).trans (.of (B0.drew))).trans b32).trans b33) (by omega)) (l32.keepR ((KeptR.refl P.R W32).trans b33) (by omega))
     obtain rfl : Rs.ok (mk0 35 ⟨#[]⟩ [x29,x32]) a32=res:=by rw [← HR.out,ftypeF];simp [Rs.bind,mtT,h29,h31,h32]
     have m0:=M0.out _ k33
     obtain ⟨⟨_,_,_,_⟩,_,_,_,_⟩:=t4 m0
     go_wp2
     refine bodyPost_ret (res_n4 Tryz.results146 (t4_set _ _ _ _ m0) rfl) rfl ?_
     exact close_ok (x:=(mk0 35 ⟨#[]⟩ [x29,x32])) h (a0.trans k33) (l33.keepR (KeptR.refl P.R W33) (by omega)) (by omega) r33
theorem rtype_step (L : List Tok) (hs : Small L) (f : Nat) (MN : Mono L f) (hOt : CN 144 L f 9 (objtF L f)) (hFt : CN 146 L f 10 (ftypeF L f)) (hT : CN 94 L f 20 (typeF L f)) : CN 127 L (f+1) 11 (rtypeF L (f+1)):=by
 intro w P a o h ho hM
 have hRw:=h.lt
 have hle:=h.le
 obtain ⟨h0,a0,z0,M0⟩:=begin_cell h
 obtain ⟨res,hres⟩ : ∃ r,rtypeF L (f+1) a o=r:=⟨_,rfl⟩
 have HR : Hid (rtypeF L (f+1) a o=res):=hres
 rw [hres]
 clear hres
 have HOT' : Hid (CN 144 L f 9 (objtF L f)):=hOt
 have HFT' : Hid (CN 146 L f 10 (ftypeF L f)):=hFt
 have HT' : Hid (CN 94 L f 20 (typeF L f)):=hT
 clear hOt
 clear hFt
 clear hT
 go_enter Tryz.func127,Tryz.ntmps127
 cases q36 : isN L a with
 | true =>
  have T36:=standsId_any h0
  rw [q36] at T36
  have u36:=isN_lt q36
  go_wp2_with fail
  go_at_call 71
  refine T36.mono ?_
  rintro e W36 ⟨rfl,b36'⟩
  have r36:=h0.bel b36'
  have b36:=KeptR.of (b:=P.R) b36'
  have k36:=(KeptR.refl P.R (w.alloc zN)).trans b36
  have z36:=k36.size
  have y36:=r36.le
  go_wp2_with fail
  go_at_call 37
  refine (pass_any r36 (by omega) (hs.at _)).mono ?_
  rintro e W37 ⟨rfl,r37,b37⟩
  have k37:=k36.trans b37
  have z37:=k37.size
  have y37:=r37.le
  go_wp2_with fail
  go_at_call 42
  refine (node_any 30 (tokA L a).t none 0 0 _).mono ?_
  rintro e W39 ⟨rfl,b39'⟩
  have r39:=r37.bel b39'
  have b39:=KeptR.of (b:=P.R) b39'
  have k39:=k37.trans b39
  have z39:=k39.size
  obtain rfl : Rs.ok (mk0 30 (tokA L a).t []) (a+1)=res:=by rw [← HR.out,rtypeF];simp [Rs.bind,mtT,q36]
  have m0:=M0.out _ k39
  obtain ⟨⟨_,_,_,_⟩,_,_,_,_⟩:=t4 m0
  go_wp2
  refine bodyPost_ret (res_n4 Tryz.results127 (t4_set _ _ _ _ m0) rfl) rfl ?_
  exact close_ok (x:=(mk0 30 (tokA L a).t [])) h (a0.trans k39) (LAt.nil (S:=fun b=>w.heap.size+1 ≤ b) none 0) (by omega) r39
 | false =>
  have T36:=standsId_any h0
  rw [q36] at T36
  go_wp2_with fail
  go_at_call 71
  refine T36.mono ?_
  rintro e W36 ⟨rfl,b36'⟩
  have r36:=h0.bel b36'
  have b36:=KeptR.of (b:=P.R) b36'
  have k36:=(KeptR.refl P.R (w.alloc zN)).trans b36
  have z36:=k36.size
  have y36:=r36.le
  cases q40 : isWd L a wNull with
  | true =>
   have T40:=standsWord_any r36 wNull
   rw [q40] at T40
   have u40:=isWd_lt q40
   go_wp2_with fail
   go_at_call 18
   refine T40.mono ?_
   rintro e W40 ⟨rfl,b40'⟩
   have r40:=r36.bel b40'
   have b40:=KeptR.of (b:=P.R) b40'
   have k40:=k36.trans b40
   have z40:=k40.size
   have y40:=r40.le
   go_wp2_with fail
   go_at_call 37
   refine (pass_any r40 (by omega) (hs.at _)).mono ?_
   rintro e W41 ⟨rfl,r41,b41⟩
   have k41:=k40.trans b41
   have z41:=k41.size
   have y41:=r41.le
   go_wp2_with fail
   go_at_call 42
   refine (node_any 30 (tokA L a).t none 0 0 _).mono ?_
   rintro e W43 ⟨rfl,b43'⟩
   have r43:=r41.bel b43'
   have b43:=KeptR.of (b:=P.R) b43'
   have k43:=k41.trans b43
   have z43:=k43.size
   obtain rfl : Rs.ok (mk0 30 (tokA L a).t []) (a+1)=res:=by rw [← HR.out,rtypeF];simp [Rs.bind,mtT,q36,q40]
   have m0:=M0.out _ k43
   obtain ⟨⟨_,_,_,_⟩,_,_,_,_⟩:=t4 m0
   go_wp2
   refine bodyPost_ret (res_n4 Tryz.results127 (t4_set _ _ _ _ m0) rfl) rfl ?_
   exact close_ok (x:=(mk0 30 (tokA L a).t [])) h (a0.trans k43) (LAt.nil (S:=fun b=>w.heap.size+1 ≤ b) none 0) (by omega) r43
  | false =>
   have T40:=standsWord_any r36 wNull
   rw [q40] at T40
   go_wp2_with fail
   go_at_call 18
   refine T40.mono ?_
   rintro e W40 ⟨rfl,b40'⟩
   have r40:=r36.bel b40'
   have b40:=KeptR.of (b:=P.R) b40'
   have k40:=k36.trans b40
   have z40:=k40.size
   have y40:=r40.le
   cases q44 : isWd L a wUndef with
   | true =>
    have T44:=standsWord_any r40 wUndef
    rw [q44] at T44
    have u44:=isWd_lt q44
    go_wp2_with fail
    go_at_call 18
    refine T44.mono ?_
    rintro e W44 ⟨rfl,b44'⟩
    have r44:=r40.bel b44'
    have b44:=KeptR.of (b:=P.R) b44'
    have k44:=k40.trans b44
    have z44:=k44.size
    have y44:=r44.le
    go_wp2_with fail
    go_at_call 37
    refine (pass_any r44 (by omega) (hs.at _)).mono ?_
    rintro e W45 ⟨rfl,r45,b45⟩
    have k45:=k44.trans b45
    have z45:=k45.size
    have y45:=r45.le
    go_wp2_with fail
    go_at_call 42
    refine (node_any 30 (tokA L a).t none 0 0 _).mono ?_
    rintro e W47 ⟨rfl,b47'⟩
    have r47:=r45.bel b47'
    have b47:=KeptR.of (b:=P.R) b47'
    have k47:=k45.trans b47
    have z47:=k47.size
    obtain rfl : Rs.ok (mk0 30 (tokA L a).t []) (a+1)=res:=by rw [← HR.out,rtypeF];simp [Rs.bind,mtT,q36,q40,q44]
    have m0:=M0.out _ k47
    obtain ⟨⟨_,_,_,_⟩,_,_,_,_⟩:=t4 m0
    go_wp2
    refine bodyPost_ret (res_n4 Tryz.results127 (t4_set _ _ _ _ m0) rfl) rfl ?_
    exact close_ok (x:=(mk0 30 (tokA L a).t [])) h (a0.trans k47) (LAt.nil (S:=fun b=>w.heap.size+1 ≤ b) none 0) (by omega) r47
   | false =>
    have T44:=standsWord_any r40 wUndef
    rw [q44] at T44
    go_wp2_with fail
    go_at_call 18
    refine T44.mono ?_
    rintro e W44 ⟨rfl,b44'⟩
    have r44:=r40.bel b44'
    have b44:=KeptR.of (b:=P.R) b44'
    have k44:=k40.trans b44
    have z44:=k44.size
    have y44:=r44.le
    cases q48 : isS L a sCb with
    | true =>
     have T48:=take_any r44 sCb
     rw [q48] at T48
     have u48:=isS_lt q48
     go_wp2_with fail
     go_at_call 40
     refine T48.mono ?_
     rintro e W48 ⟨rfl,r48',b48⟩
     have r48 : Rd W48 P L (a+1) (opE o):=r48'
     clear r48'
     have k48:=k44.trans b48
     have z48:=k48.size
     have y48:=r48.le
     go_wp2_with fail
     go_at_call 144
     refine (HOT'.out _ _ _ _ r48 (by omega) (by unfold Ms at *;omega)).mono ?_
     rintro e W49 A49
     cases h49 : objtF L f (a+1) o with
     | bad p er =>
      rw [h49] at A49
      obtain ⟨rfl,b49⟩:=A49
      obtain rfl : Rs.bad p er=res:=by rw [← HR.out,rtypeF];simp [Rs.bind,mtT,q36,q40,q44,q48,h49]
      exact ⟨rfl,rfl,a0.trans (k48.trans b49)⟩
     | ok x49 a49 =>
      rw [h49] at A49
      obtain ⟨ad49,c49,rfl,l49',r49,b49⟩:=A49
      have g49:=(MN.objt' (a+1) o) _ _ h49
      have y49:=r49.le
      have k49:=k48.trans b49
      have z49:=k49.size
      have l49:=l49'.mono (T:=fun b=>w.heap.size+1 ≤ b) (fun b hb=>by have:=k48.size;omega)
      obtain rfl : Rs.ok x49 a49=res:=by rw [← HR.out,rtypeF];simp [Rs.bind,mtT,q36,q40,q44,q48,h49]
      have m0:=M0.out _ k49
      obtain ⟨⟨_,_,_,_⟩,_,_,_,_⟩:=t4 m0
      go_wp2
      refine bodyPost_ret (res_n4 Tryz.results127 (t4_set _ _ _ _ m0) rfl) rfl ?_
      exact close_ok (x:=x49) h (a0.trans k49) (l49.keepR (KeptR.refl P.R W49) (by omega)) (by omega) r49
    | false =>
     have T48:=take_any r44 sCb
     rw [q48] at T48
     go_wp2_with fail
     go_at_call 40
     refine T48.mono ?_
     rintro e W48 ⟨rfl,r48',b48⟩
     have r48 : Rd W48 P L a (opE o):=r48'
     clear r48'
     have k48:=k44.trans b48
     have z48:=k48.size
     have y48:=r48.le
     cases q50 : isS L a sPo with
     | true =>
      have T50:=stands_any r48 sPo
      rw [q50] at T50
      have u50:=isS_lt q50
      go_wp2_with fail
      go_at_call 51
      refine T50.mono ?_
      rintro e W50 ⟨rfl,b50'⟩
      have r50:=r48.bel b50'
      have b50:=KeptR.of (b:=P.R) b50'
      have k50:=k48.trans b50
      have z50:=k50.size
      have y50:=r50.le
      cases q51 : arrow L a with
      | true =>
       have T51:=beforeArrow_any r50 (by omega)
       rw [q51] at T51
       go_wp2_with fail
       go_at_call 145
       refine T51.mono ?_
       rintro e W51 ⟨rfl,b51'⟩
       have r51:=r50.bel b51'
       have b51:=KeptR.of (b:=P.R) b51'
       have k51:=k50.trans b51
       have z51:=k51.size
       have y51:=r51.le
       go_wp2_with fail
       go_at_call 146
       refine (HFT'.out _ _ _ _ r51 (by omega) (by unfold Ms at *;omega)).mono ?_
       rintro e W52 A52
       cases h52 : ftypeF L f a o with
       | bad p er =>
        rw [h52] at A52
        obtain ⟨rfl,b52⟩:=A52
        obtain rfl : Rs.bad p er=res:=by rw [← HR.out,rtypeF];simp [Rs.bind,mtT,q36,q40,q44,q48,q50,q51,h52]
        exact ⟨rfl,rfl,a0.trans (k51.trans b52)⟩
       | ok x52 a52 =>
        rw [h52] at A52
        obtain ⟨ad52,c52,rfl,l52',r52,b52⟩:=A52
        have g52:=(MN.ftype' a o) _ _ h52
        have y52:=r52.le
        have k52:=k51.trans b52
        have z52:=k52.size
        have l52:=l52'.mono (T:=fun b=>w.heap.size+1 ≤ b) (fun b hb=>by have:=k51.size;omega)
        obtain rfl : Rs.ok x52 a52=res:=by rw [← HR.out,rtypeF];simp [Rs.bind,mtT,q36,q40,q44,q48,q50,q51,h52]
        have m0:=M0.out _ k52
        obtain ⟨⟨_,_,_,_⟩,_,_,_,_⟩:=t4 m0
        go_wp2
        refine bodyPost_ret (res_n4 Tryz.results127 (t4_set _ _ _ _ m0) rfl) rfl ?_
        exact close_ok (x:=x52) h (a0.trans k52) (l52.keepR (KeptR.refl P.R W52) (by omega)) (by omega) r52
      | false =>
       have T51:=beforeArrow_any r50 (by omega)
       rw [q51] at T51
       go_wp2_with fail
       go_at_call 145
       refine T51.mono ?_
       rintro e W51 ⟨rfl,b51'⟩
       have r51:=r50.bel b51'
       have b51:=KeptR.of (b:=P.R) b51'
       have k51:=k50.trans b51
       have z51:=k51.size
       have y51:=r51.le
       have T53:=take_any r51 sPo
       rw [q50] at T53
       go_wp2_with fail
       go_at_call 40
       refine T53.mono ?_
       rintro e W53 ⟨rfl,r53',b53⟩
       have r53 : Rd W53 P L (a+1) (opE o):=r53'
       clear r53'
       have k53:=k51.trans b53
       have z53:=k53.size
       have y53:=r53.le
       go_wp2_with fail
       go_at_call 94
       refine (HT'.out _ _ _ _ r53 (by omega) (by unfold Ms at *;omega)).mono ?_
       rintro e W54 A54
       cases h54 : typeF L f (a+1) o with
       | bad p er =>
        rw [h54] at A54
        obtain ⟨rfl,b54⟩:=A54
        obtain rfl : Rs.bad p er=res:=by rw [← HR.out,rtypeF];simp [Rs.bind,mtT,q36,q40,q44,q48,q50,q51,h54]
        exact ⟨rfl,rfl,a0.trans (k53.trans b54)⟩
       | ok x54 a54 =>
        rw [h54] at A54
        obtain ⟨ad54,c54,rfl,l54',r54,b54⟩:=A54
        have g54:=(MN.type' (a+1) o) _ _ h54
        have y54:=r54.le
        have k54:=k53.trans b54
        have z54:=k54.size
        have l54:=l54'.mono (T:=fun b=>w.heap.size+1 ≤ b) (fun b hb=>by have:=k53.size;omega)
        go_wp2_with fail
        go_at_call 39
        refine (want_any (r54.bel (B0.alloc le0 _)) sPc).mono ?_
        rintro e W56 A56
        cases h56 : wantR L sPc a54 with
        | bad p er =>
         rw [h56] at A56
         obtain ⟨rfl,b56⟩:=A56
         obtain rfl : Rs.bad p er=res:=by rw [← HR.out,rtypeF];simp [Rs.bind,mtT,q36,q40,q44,q48,q50,q51,h54,h56]
         exact ⟨rfl,rfl,a0.trans ((k54.alloc _).trans b56)⟩
        | ok x56 a56 =>
         rw [h56] at A56
         obtain ⟨rfl,r56,b56⟩:=A56
         have g56:=(want_ge L sPc a54) _ _ h56
         have y56:=r56.le
         have k56:=(k54.alloc (Obj.cells #[.int .i64 x54.k,.string x54.t,.int .i64 x54.n,.slice ad54 x54.ks.length c54] 24)).trans b56
         have z56:=k56.size
         have v55 : W56.heap[W54.heap.size]?=_:=(((KeptR.refl P.R _).trans b56).block (W54.heap.size) (by simp) (by have:=k54.size;omega)).trans (heap_alloc_new W54 _)
         obtain ⟨⟨_,_,_,_⟩,_,_,_,_⟩:=t4 v55
         obtain rfl : Rs.ok x54 a56=res:=by rw [← HR.out,rtypeF];simp [Rs.bind,mtT,q36,q40,q44,q48,q50,q51,h54,h56]
         have m0:=M0.out _ k56
         obtain ⟨⟨_,_,_,_⟩,_,_,_,_⟩:=t4 m0
         go_wp2
         refine bodyPost_ret (res_n4 Tryz.results127 (t4_set _ _ _ _ m0) rfl) rfl ?_
         exact close_ok (x:=x54) h (a0.trans k56) (l54.keepR (((KeptR.refl P.R W54).alloc _).trans b56) (by omega)) (by omega) r56
     | false =>
      have T50:=stands_any r48 sPo
      rw [q50] at T50
      go_wp2_with fail
      go_at_call 51
      refine T50.mono ?_
      rintro e W50 ⟨rfl,b50'⟩
      have r50:=r48.bel b50'
      have b50:=KeptR.of (b:=P.R) b50'
      have k50:=k48.trans b50
      have z50:=k50.size
      have y50:=r50.le
      have T57:=take_any r50 sPo
      rw [q50] at T57
      go_wp2_with fail
      go_at_call 40
      refine T57.mono ?_
      rintro e W57 ⟨rfl,r57',b57⟩
      have r57 : Rd W57 P L a (opE o):=r57'
      clear r57'
      have k57:=k50.trans b57
      have z57:=k57.size
      have y57:=r57.le
      go_wp2_with fail
      go_at_call 72
      refine (wrong_any r57).mono ?_
      rintro e W58 ⟨rfl,b58'⟩
      obtain rfl : Rs.bad a 60=res:=by rw [← HR.out,rtypeF];simp [Rs.bind,mtT,q36,q40,q44,q48,q50]
      go_wp2
      exact ⟨rfl,rfl,a0.trans (k57.trans (.of b58'))⟩
theorem ptype_step (L : List Tok) (hs : Small L) (f : Nat) (MN : Mono L f) (hRt : CN 127 L f 11 (rtypeF L f)) : CN 113 L (f+1) 12 (ptypeF L (f+1)):=by
 intro w P a o h ho hM
 have hRw:=h.lt
 have hle:=h.le
 obtain ⟨h0,a0,z0,M0⟩:=begin_cell h
 obtain ⟨res,hres⟩ : ∃ r,ptypeF L (f+1) a o=r:=⟨_,rfl⟩
 have HR : Hid (ptypeF L (f+1) a o=res):=hres
 rw [hres]
 clear hres
 have HRT' : Hid (CN 127 L f 11 (rtypeF L f)):=hRt
 clear hRt
 go_enter Tryz.func113,Tryz.ntmps113
 go_wp2_with fail
 go_at_call 127
 refine (HRT'.out _ _ _ _ h0 (by omega) (by unfold Ms at *;omega)).mono ?_
 rintro e W1 A1
 cases h1 : rtypeF L f a o with
 | bad p er =>
  rw [h1] at A1
  obtain ⟨rfl,b1⟩:=A1
  obtain rfl : Rs.bad p er=res:=by rw [← HR.out,ptypeF];simp [Rs.bind,mtT,h1]
  exact ⟨rfl,rfl,a0.trans ((KeptR.refl P.R (w.alloc zN)).trans b1)⟩
 | ok x1 a1 =>
  rw [h1] at A1
  obtain ⟨ad1,c1,rfl,l1',r1,b1⟩:=A1
  have g1:=(MN.rtype' a o) _ _ h1
  have y1:=r1.le
  have k1:=(KeptR.refl P.R (w.alloc zN)).trans b1
  have z1:=k1.size
  have l1:=l1'.mono (T:=fun b=>w.heap.size+1 ≤ b) (fun b hb=>by have:=(KeptR.refl P.R (w.alloc zN)).size;omega)
  go_wp2
  have HR2 : Hid (arrayG L (L.length+1 - a1) x1 a1=res):=by show _=_;rw [← HR.out,ptypeF,h1];rfl
  clear HR
  have HR:=HR2
  clear HR2
  have gV : w.heap.size+1 ≤ W1.heap.size:=by have:=k1.size;omega
  have k0:=(k1.alloc (Obj.cells #[.int .i64 x1.k,.string x1.t,.int .i64 x1.n,.slice ad1 x1.ks.length c1] 24))
  have r0:=(r1.bel (B0.alloc le0 (Obj.cells #[.int .i64 x1.k,.string x1.t,.int .i64 x1.n,.slice ad1 x1.ks.length c1] 24)))
  have v0:=heap_alloc_new W1 (Obj.cells #[.int .i64 x1.k,.string x1.t,.int .i64 x1.n,.slice ad1 x1.ks.length c1] 24)
  have l0:=(l1'.mono' (T:=fun b=>w.heap.size+1 ≤ b∧b ≠ W1.heap.size) (fun b hl hb=>by have:=a0.size;exact ⟨by omega,by omega⟩)).bel (B0.alloc le0 (Obj.cells #[.int .i64 x1.k,.string x1.t,.int .i64 x1.n,.slice ad1 x1.ks.length c1] 24))
  go_loopg [6] (L.length+1 - a1) (fun gk v6 wr=>∃ (nd : Nd) (b : Nat) (ad : Option Addr) (c : Nat),Hid (arrayG L gk nd b=res)∧Hid (L.length+1 ≤ gk+b)∧Rd wr P L b (opE o)∧wr.heap[W1.heap.size]?=some (.cells #[.int .i64 nd.k,.string nd.t,.int .i64 nd.n,.slice ad nd.ks.length c] 24 (0,0))∧LAt wr (fun b=>w.heap.size+1 ≤ b∧b ≠ W1.heap.size) (Value.slice ad nd.ks.length c) nd.ks∧KeptR P.R (w.alloc zN) wr∧W1.heap.size < wr.heap.size)
  case atStart=>exact ⟨x1,a1,ad1,c1,HR.out,by show _ ≤ _;omega,r0,v0,l0,k0,by simp⟩
  case round =>
   clear k0 r0 v0 l0 HR
   obtain ⟨nd,b,ad,c,HR,HG,r0,v0,lN,k0,hV0⟩:=hrel
   have hgk:=HG.out
   have hbl:=r0.le
   obtain ⟨g,rfl⟩ : ∃ g,gk=g+1:=⟨gk - 1,by omega⟩
   have z0k:=k0.size
   cases q3 : isS L b sBo with
   | true =>
    have T3:=take_any r0 sBo
    rw [q3] at T3
    have u3:=isS_lt q3
    go_wp2_with fail
    go_at_call 40
    refine T3.mono ?_
    rintro e W3 ⟨rfl,r3',b3⟩
    have r3 : Rd W3 P L (b+1) (opE o):=r3'
    clear r3'
    have k3:=k0.trans b3
    have z3:=k3.size
    have y3:=r3.le
    go_wp2_with fail
    go_at_call 39
    refine (want_any r3 sBc).mono ?_
    rintro e W4 A4
    cases h4 : wantR L sBc (b+1) with
    | bad p er =>
     rw [h4] at A4
     obtain ⟨rfl,b4⟩:=A4
     obtain rfl : Rs.bad p er=res:=by rw [← HR.out,arrayG];simp [Rs.bind,mtT,q3,h4]
     exact ⟨rfl,rfl,a0.trans (k3.trans b4)⟩
    | ok x4 a4 =>
     rw [h4] at A4
     obtain ⟨rfl,r4,b4⟩:=A4
     have g4:=(want_ge L sBc (b+1)) _ _ h4
     have y4:=r4.le
     have k4:=k3.trans b4
     have z4:=k4.size
     have vv : W4.heap[W1.heap.size]?=_:=((((KeptR.refl P.R wr).trans b3).trans b4).block W1.heap.size hV0 (by omega)).trans v0
     obtain ⟨⟨_,_,_,_⟩,_,_,_,_⟩:=t4 vv
     go_wp2_with fail
     go_at_call 42
     refine (node_any 31 ⟨#[]⟩ (some ⟨W4.heap.size,0,none⟩) 1 1 _).mono ?_
     rintro e W5 ⟨rfl,b5'⟩
     have j5 : W5.heap[W4.heap.size]?=_:=(b5'.block _ (by simp)).trans (heap_alloc_new W4 _)
     have r5:=(r4.bel (B0.alloc le0 _)).bel b5'
     have b5 : KeptR P.R W4 W5:=(KeptR.of (B0.alloc le0 _)).trans (.of b5')
     have k5:=k4.trans b5
     have z5:=k5.size
     have l5 : LAt W5 (fun b=>w.heap.size+1 ≤ b∧b ≠ W1.heap.size) (.slice (some ⟨W4.heap.size,0,none⟩) 1 1) [nd]:=LAt.n1 j5 (by have:=k4.size;have:=(((KeptR.refl P.R wr).trans b3).trans b4).size;exact ⟨by omega,by omega⟩) (lN.keep ((((KeptR.refl P.R wr).trans b3).trans b4).trans b5).size (fun b hb hl=>((((KeptR.refl P.R wr).trans b3).trans b4).trans b5).block b hl (by have:=hb.1;omega)))
     clear vv
     have vv : W5.heap[W1.heap.size]?=_:=(((((KeptR.refl P.R wr).trans b3).trans b4).trans b5).block W1.heap.size hV0 (by omega)).trans v0
     obtain ⟨⟨_,_,_,_⟩,_,_,_,_⟩:=t4 vv
     go_wp2
     go_roundg g
     case rel=>exact ⟨(mk0 31 ⟨#[]⟩ [nd]),a4,some _,1,by show _=_;rw [← HR.out,arrayG];simp [Rs.bind,mtT,q3,h4],by show _ ≤ _;omega,r5.set4 (by omega) (fun q=>by have:=h.x.lt q;omega) _ _ _ _,t4_set _ _ _ _ vv,((l5.keep (KeptR.refl P.R W5).size (fun b hb hl=>(KeptR.refl P.R W5).block b hl (by have:=hb.1;omega)))).keep (by simp [World.setCell]) (fun b hb hl=>blk_set4 hb.2 _ _ _ _),(((k5.new (by omega) _ _).new (by omega) _ _).new (by omega) _ _).new (by omega) _ _,by simp [World.setCell];have:=((((KeptR.refl P.R wr).trans b3).trans b4).trans b5).size;omega⟩
     case measure=>omega
   | false =>
    have T3:=take_any r0 sBo
    rw [q3] at T3
    go_wp2_with fail
    go_at_call 40
    refine T3.mono ?_
    rintro e W3 ⟨rfl,r3',b3⟩
    have r3 : Rd W3 P L b (opE o):=r3'
    clear r3'
    have k3:=k0.trans b3
    have z3:=k3.size
    have y3:=r3.le
    have vv : W3.heap[W1.heap.size]?=_:=(((KeptR.refl P.R wr).trans b3).block W1.heap.size hV0 (by omega)).trans v0
    obtain ⟨⟨_,_,_,_⟩,_,_,_,_⟩:=t4 vv
    obtain rfl : Rs.ok nd b=res:=by rw [← HR.out,arrayG];simp [Rs.bind,mtT,q3]
    have m0:=M0.out _ k3
    obtain ⟨⟨_,_,_,_⟩,_,_,_,_⟩:=t4 m0
    go_wp2
    refine bodyPost_ret (res_n4 Tryz.results113 (t4_set _ _ _ _ m0) rfl) rfl ?_
    exact close_ok (x:=nd) h (a0.trans k3) ((lN.keep ((KeptR.refl P.R wr).trans b3).size (fun b hb hl=>((KeptR.refl P.R wr).trans b3).block b hl (by have:=hb.1;omega))).mono (fun b hb=>hb.1)) (by omega) r3
end Go.Proofs.YthfkfbcopinmiaaGreatDoor
