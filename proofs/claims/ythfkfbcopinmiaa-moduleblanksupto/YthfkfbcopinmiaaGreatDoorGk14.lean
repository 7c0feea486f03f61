/- Own text. Package parse: the rules,one by one: what begins with a word. Package parse: the rules,one by one: what begins with a sign. -/
import Derived.Test.YthfkfbcopinmiaaGreatDoorGk12
set_option linter.unusedVariables false
set_option linter.unusedSimpArgs false
set_option maxRecDepth 100000
set_option maxHeartbeats 8000000
namespace Go.Proofs.YthfkfbcopinmiaaGreatDoor
open Go.RowKit
theorem wprim_step (L : List Tok) (hs : Small L) (f : Nat) (MN : Mono L f) (hE : CN 126 L f 20 (exprF L f)) (hTo : CN 129 L f 19 (typeOrF L f)) (hB : CN 130 L f 19 (blkF L f)) : CN 164 L (f+1) 7 (wprimF L (f+1)):=by
 intro w P a o h ho hM
 have hRw:=h.lt
 have hle:=h.le
 obtain ⟨h0,a0,z0,M0⟩:=begin_cell h
 obtain ⟨res,hres⟩ : ∃ r,wprimF L (f+1) a o=r:=⟨_,rfl⟩
 have HR : Hid (wprimF L (f+1) a o=res):=hres
 rw [hres]
 clear hres
 have HE' : Hid (CN 126 L f 20 (exprF L f)):=hE
 have HTO' : Hid (CN 129 L f 19 (typeOrF L f)):=hTo
 have HB' : Hid (CN 130 L f 19 (blkF L f)):=hB
 clear hE
 clear hTo
 clear hB
 go_enter Tryz.func164,Tryz.ntmps164
 cases q1 : isWd L a wTrue with
 | true =>
  have T1:=takeWord_any h0 wTrue
  rw [q1] at T1
  have u1:=isWd_lt q1
  go_wp2_with fail
  go_at_call 49
  refine T1.mono ?_
  rintro e W1 ⟨rfl,r1',b1⟩
  have r1 : Rd W1 P L (a+1) (opE o):=r1'
  clear r1'
  have k1:=(KeptR.refl P.R (w.alloc zN)).trans b1
  have z1:=k1.size
  have y1:=r1.le
  obtain rfl : Rs.ok (Nd.mk 3 mtT 1 []) (a+1)=res:=by rw [← HR.out,wprimF];simp [Rs.bind,mtT,q1]
  have m0:=M0.out _ k1
  obtain ⟨⟨_,_,_,_⟩,_,_,_,_⟩:=t4 m0
  go_wp2
  refine bodyPost_ret (res_n4 Tryz.results164 (t4_set _ _ _ _ m0) rfl) rfl ?_
  exact close_ok (x:=(Nd.mk 3 mtT 1 [])) h (a0.trans k1) (LAt.nil (S:=fun b=>w.heap.size+1 ≤ b) none 0) (by omega) r1
 | false =>
  have T1:=takeWord_any h0 wTrue
  rw [q1] at T1
  go_wp2_with fail
  go_at_call 49
  refine T1.mono ?_
  rintro e W1 ⟨rfl,r1',b1⟩
  have r1 : Rd W1 P L a (opE o):=r1'
  clear r1'
  have k1:=(KeptR.refl P.R (w.alloc zN)).trans b1
  have z1:=k1.size
  have y1:=r1.le
  cases q2 : isWd L a wFalse with
  | true =>
   have T2:=takeWord_any r1 wFalse
   rw [q2] at T2
   have u2:=isWd_lt q2
   go_wp2_with fail
   go_at_call 49
   refine T2.mono ?_
   rintro e W2 ⟨rfl,r2',b2⟩
   have r2 : Rd W2 P L (a+1) (opE o):=r2'
   clear r2'
   have k2:=k1.trans b2
   have z2:=k2.size
   have y2:=r2.le
   go_wp2_with fail
   go_at_call 42
   refine (node_any 3 ⟨#[]⟩ none 0 0 _).mono ?_
   rintro e W4 ⟨rfl,b4'⟩
   have r4:=r2.bel b4'
   have b4:=KeptR.of (b:=P.R) b4'
   have k4:=k2.trans b4
   have z4:=k4.size
   obtain rfl : Rs.ok (mk0 3 ⟨#[]⟩ []) (a+1)=res:=by rw [← HR.out,wprimF];simp [Rs.bind,mtT,q1,q2]
   have m0:=M0.out _ k4
   obtain ⟨⟨_,_,_,_⟩,_,_,_,_⟩:=t4 m0
   go_wp2
   refine bodyPost_ret (res_n4 Tryz.results164 (t4_set _ _ _ _ m0) rfl) rfl ?_
   exact close_ok (x:=(mk0 3 ⟨#[]⟩ [])) h (a0.trans k4) (LAt.nil (S:=fun b=>w.heap.size+1 ≤ b) none 0) (by omega) r4
  | false =>
   have T2:=takeWord_any r1 wFalse
   rw [q2] at T2
   go_wp2_with fail
   go_at_call 49
   refine T2.mono ?_
   rintro e W2 ⟨rfl,r2',b2⟩
   have r2 : Rd W2 P L a (opE o):=r2'
   clear r2'
   have k2:=k1.trans b2
   have z2:=k2.size
   have y2:=r2.le
   cases q5 : isWd L a wNull with
   | true =>
    have T5:=takeWord_any r2 wNull
    rw [q5] at T5
    have u5:=isWd_lt q5
    go_wp2_with fail
    go_at_call 49
    refine T5.mono ?_
    rintro e W5 ⟨rfl,r5',b5⟩
    have r5 : Rd W5 P L (a+1) (opE o):=r5'
    clear r5'
    have k5:=k2.trans b5
    have z5:=k5.size
    have y5:=r5.le
    go_wp2_with fail
    go_at_call 42
    refine (node_any 4 ⟨#[]⟩ none 0 0 _).mono ?_
    rintro e W7 ⟨rfl,b7'⟩
    have r7:=r5.bel b7'
    have b7:=KeptR.of (b:=P.R) b7'
    have k7:=k5.trans b7
    have z7:=k7.size
    obtain rfl : Rs.ok (mk0 4 ⟨#[]⟩ []) (a+1)=res:=by rw [← HR.out,wprimF];simp [Rs.bind,mtT,q1,q2,q5]
    have m0:=M0.out _ k7
    obtain ⟨⟨_,_,_,_⟩,_,_,_,_⟩:=t4 m0
    go_wp2
    refine bodyPost_ret (res_n4 Tryz.results164 (t4_set _ _ _ _ m0) rfl) rfl ?_
    exact close_ok (x:=(mk0 4 ⟨#[]⟩ [])) h (a0.trans k7) (LAt.nil (S:=fun b=>w.heap.size+1 ≤ b) none 0) (by omega) r7
   | false =>
    have T5:=takeWord_any r2 wNull
    rw [q5] at T5
    go_wp2_with fail
    go_at_call 49
    refine T5.mono ?_
    rintro e W5 ⟨rfl,r5',b5⟩
    have r5 : Rd W5 P L a (opE o):=r5'
    clear r5'
    have k5:=k2.trans b5
    have z5:=k5.size
    have y5:=r5.le
    cases q8 : isWd L a wUndef with
    | true =>
     have T8:=takeWord_any r5 wUndef
     rw [q8] at T8
     have u8:=isWd_lt q8
     go_wp2_with fail
     go_at_call 49
     refine T8.mono ?_
     rintro e W8 ⟨rfl,r8',b8⟩
     have r8 : Rd W8 P L (a+1) (opE o):=r8'
     clear r8'
     have k8:=k5.trans b8
     have z8:=k8.size
     have y8:=r8.le
     go_wp2_with fail
     go_at_call 42
     refine (node_any 5 ⟨#[]⟩ none 0 0 _).mono ?_
     rintro e W10 ⟨rfl,b10'⟩
     have r10:=r8.bel b10'
     have b10:=KeptR.of (b:=P.R) b10'
     have k10:=k8.trans b10
     have z10:=k10.size
     obtain rfl : Rs.ok (mk0 5 ⟨#[]⟩ []) (a+1)=res:=by rw [← HR.out,wprimF];simp [Rs.bind,mtT,q1,q2,q5,q8]
     have m0:=M0.out _ k10
     obtain ⟨⟨_,_,_,_⟩,_,_,_,_⟩:=t4 m0
     go_wp2
     refine bodyPost_ret (res_n4 Tryz.results164 (t4_set _ _ _ _ m0) rfl) rfl ?_
     exact close_ok (x:=(mk0 5 ⟨#[]⟩ [])) h (a0.trans k10) (LAt.nil (S:=fun b=>w.heap.size+1 ≤ b) none 0) (by omega) r10
    | false =>
     have T8:=takeWord_any r5 wUndef
     rw [q8] at T8
     go_wp2_with fail
     go_at_call 49
     refine T8.mono ?_
     rintro e W8 ⟨rfl,r8',b8⟩
     have r8 : Rd W8 P L a (opE o):=r8'
     clear r8'
     have k8:=k5.trans b8
     have z8:=k8.size
     have y8:=r8.le
     cases q11 : isWd L a wThis with
     | true =>
      have T11:=takeWord_any r8 wThis
      rw [q11] at T11
      have u11:=isWd_lt q11
      go_wp2_with fail
      go_at_call 49
      refine T11.mono ?_
      rintro e W11 ⟨rfl,r11',b11⟩
      have r11 : Rd W11 P L (a+1) (opE o):=r11'
      clear r11'
      have k11:=k8.trans b11
      have z11:=k11.size
      have y11:=r11.le
      go_wp2_with fail
      go_at_call 42
      refine (node_any 7 ⟨#[]⟩ none 0 0 _).mono ?_
      rintro e W13 ⟨rfl,b13'⟩
      have r13:=r11.bel b13'
      have b13:=KeptR.of (b:=P.R) b13'
      have k13:=k11.trans b13
      have z13:=k13.size
      obtain rfl : Rs.ok (mk0 7 ⟨#[]⟩ []) (a+1)=res:=by rw [← HR.out,wprimF];simp [Rs.bind,mtT,q1,q2,q5,q8,q11]
      have m0:=M0.out _ k13
      obtain ⟨⟨_,_,_,_⟩,_,_,_,_⟩:=t4 m0
      go_wp2
      refine bodyPost_ret (res_n4 Tryz.results164 (t4_set _ _ _ _ m0) rfl) rfl ?_
      exact close_ok (x:=(mk0 7 ⟨#[]⟩ [])) h (a0.trans k13) (LAt.nil (S:=fun b=>w.heap.size+1 ≤ b) none 0) (by omega) r13
     | false =>
      have T11:=takeWord_any r8 wThis
      rw [q11] at T11
      go_wp2_with fail
      go_at_call 49
      refine T11.mono ?_
      rintro e W11 ⟨rfl,r11',b11⟩
      have r11 : Rd W11 P L a (opE o):=r11'
      clear r11'
      have k11:=k8.trans b11
      have z11:=k11.size
      have y11:=r11.le
      cases q14 : isWd L a wNew with
      | true =>
       have T14:=takeWord_any r11 wNew
       rw [q14] at T14
       have u14:=isWd_lt q14
       go_wp2_with fail
       go_at_call 49
       refine T14.mono ?_
       rintro e W14 ⟨rfl,r14',b14⟩
       have r14 : Rd W14 P L (a+1) (opE o):=r14'
       clear r14'
       have k14:=k11.trans b14
       have z14:=k14.size
       have y14:=r14.le
       go_wp2_with fail
       go_at_call 38
       refine (id_any r14 hs).mono ?_
       rintro e W15 A15
       cases h15 : idR L (a+1) with
       | bad p er =>
        rw [h15] at A15
        obtain ⟨rfl,b15⟩:=A15
        obtain rfl : Rs.bad p er=res:=by rw [← HR.out,wprimF];simp [Rs.bind,mtT,q1,q2,q5,q8,q11,q14,h15]
        exact ⟨rfl,rfl,a0.trans (k14.trans b15)⟩
       | ok x15 a15 =>
        rw [h15] at A15
        obtain ⟨rfl,r15,b15⟩:=A15
        have g15:=(id_ge L (a+1)) _ _ h15
        have y15:=r15.le
        have k15:=k14.trans b15
        have z15:=k15.size
        go_wp2_with fail
        go_at_call 39
        refine (want_any r15 sPo).mono ?_
        rintro e W16 A16
        cases h16 : wantR L sPo a15 with
        | bad p er =>
         rw [h16] at A16
         obtain ⟨rfl,b16⟩:=A16
         obtain rfl : Rs.bad p er=res:=by rw [← HR.out,wprimF];simp [Rs.bind,mtT,q1,q2,q5,q8,q11,q14,h15,h16]
         exact ⟨rfl,rfl,a0.trans (k15.trans b16)⟩
        | ok x16 a16 =>
         rw [h16] at A16
         obtain ⟨rfl,r16,b16⟩:=A16
         have g16:=(want_ge L sPo a15) _ _ h16
         have y16:=r16.le
         have k16:=k15.trans b16
         have z16:=k16.size
         go_wp2_with fail
         go_at_call 84
         refine (listE_any (k:=126) (rs:=#[.pointer (some ⟨P.R,0,none⟩)]) (caps:=#[]) eg_anExpr hs r16 (fun b=>exprF L f b o) (fun b=>MN.expr' b o) (fun W b hb r=>HE'.out _ _ _ _ r (by omega) (by have:=r.le;unfold Ms at *;omega)) (s:=sPc)).mono ?_
         rintro e W17 A17
         cases h17 : listE L (fun b=>exprF L f b o) sPc a16 with
         | bad p er =>
          rw [h17] at A17
          obtain ⟨rfl,b17⟩:=A17
          obtain rfl : Rs.bad p er=res:=by rw [← HR.out,wprimF];simp [Rs.bind,mtT,q1,q2,q5,q8,q11,q14,h15,h16,h17]
          exact ⟨rfl,rfl,a0.trans (k16.trans b17.one)⟩
         | ok x17 a17 =>
          rw [h17] at A17
          obtain ⟨ad17,c17,rfl,l17',r17,b17'⟩:=A17
          have b17:=b17'.one
          have g17:=(listE_ge (fun b=>MN.expr' b o) a16) _ _ h17
          have y17:=r17.le
          have k17:=k16.trans b17
          have z17:=k17.size
          have l17:=l17'.mono (T:=fun b=>w.heap.size+1 ≤ b) (fun b hb=>by have:=k16.size;omega)
          go_wp2_with fail
          go_at_call 42
          refine (node_any 20 x15 ad17 x17.length c17 _).mono ?_
          rintro e W18 ⟨rfl,b18'⟩
          have r18:=r17.bel b18'
          have b18:=KeptR.of (b:=P.R) b18'
          have k18:=k17.trans b18
          have z18:=k18.size
          obtain rfl : Rs.ok (mk0 20 x15 x17) a17=res:=by rw [← HR.out,wprimF];simp [Rs.bind,mtT,q1,q2,q5,q8,q11,q14,h15,h16,h17]
          have m0:=M0.out _ k18
          obtain ⟨⟨_,_,_,_⟩,_,_,_,_⟩:=t4 m0
          go_wp2
          refine bodyPost_ret (res_n4 Tryz.results164 (t4_set _ _ _ _ m0) rfl) rfl ?_
          exact close_ok (x:=(mk0 20 x15 x17)) h (a0.trans k18) (l17.keepR ((KeptR.refl P.R W17).trans b18) (by omega)) (by omega) r18
      | false =>
       have T14:=takeWord_any r11 wNew
       rw [q14] at T14
       go_wp2_with fail
       go_at_call 49
       refine T14.mono ?_
       rintro e W14 ⟨rfl,r14',b14⟩
       have r14 : Rd W14 P L a (opE o):=r14'
       clear r14'
       have k14:=k11.trans b14
       have z14:=k14.size
       have y14:=r14.le
       cases q19 : isWd L a wFunc with
       | true =>
        have T19:=takeWord_any r14 wFunc
        rw [q19] at T19
        have u19:=isWd_lt q19
        go_wp2_with fail
        go_at_call 49
        refine T19.mono ?_
        rintro e W19 ⟨rfl,r19',b19⟩
        have r19 : Rd W19 P L (a+1) (opE o):=r19'
        clear r19'
        have k19:=k14.trans b19
        have z19:=k19.size
        have y19:=r19.le
        go_wp2_with fail
        go_at_call 77
        refine (params_any (k:=129) (rs:=#[.pointer (some ⟨P.R,0,none⟩)]) (caps:=#[]) eg_typeOrNone (fun b=>typeOrF L f b o) _ _ r19 hs (fun b x c hx=>(MN.typeOr' b o) _ _ hx) (fun W b hb r=>HTO'.out _ _ _ _ r (by omega) (by have:=r.le;unfold Ms at *;omega))).mono ?_
        rintro e W20 A20
        cases h20 : paramsG L (fun b=>typeOrF L f b o) (a+1) with
        | bad p er =>
         rw [h20] at A20
         obtain ⟨rfl,b20⟩:=A20
         obtain rfl : Rs.bad p er=res:=by rw [← HR.out,wprimF];simp [Rs.bind,mtT,q1,q2,q5,q8,q11,q14,q19,h20]
         exact ⟨rfl,rfl,a0.trans (k19.trans b20)⟩
        | ok x20 a20 =>
         rw [h20] at A20
         obtain ⟨ad20,c20,rfl,l20',r20,b20⟩:=A20
         have g20:=(paramsG_ge (fun b=>MN.typeOr' b o) (a+1)) _ _ h20
         have y20:=r20.le
         have k20:=k19.trans b20
         have z20:=k20.size
         have l20:=l20'.mono (T:=fun b=>w.heap.size+1 ≤ b) (fun b hb=>by have:=k19.size;omega)
         go_wp2_with fail
         go_at_call 129
         refine (HTO'.out _ _ _ _ r20 (by omega) (by unfold Ms at *;omega)).mono ?_
         rintro e W21 A21
         cases h21 : typeOrF L f a20 o with
         | bad p er =>
          rw [h21] at A21
          obtain ⟨rfl,b21⟩:=A21
          obtain rfl : Rs.bad p er=res:=by rw [← HR.out,wprimF];simp [Rs.bind,mtT,q1,q2,q5,q8,q11,q14,q19,h20,h21]
          exact ⟨rfl,rfl,a0.trans (k20.trans b21)⟩
         | ok x21 a21 =>
          rw [h21] at A21
          obtain ⟨ad21,c21,rfl,l21',r21,b21⟩:=A21
          have g21:=(MN.typeOr' a20 o) _ _ h21
          have y21:=r21.le
          have k21:=k20.trans b21
          have z21:=k21.size
          have l21:=l21'.mono (T:=fun b=>w.heap.size+1 ≤ b) (fun b hb=>by have:=k20.size;omega)
          go_wp2_with fail
          go_at_call 130
          refine (HB'.out _ _ _ _ r21 (by omega) (by unfold Ms at *;omega)).mono ?_
          rintro e W22 A22
          cases h22 : blkF L f a21 o with
          | bad p er =>
           rw [h22] at A22
           obtain ⟨rfl,b22⟩:=A22
           obtain rfl : Rs.bad p er=res:=by rw [← HR.out,wprimF];simp [Rs.bind,mtT,q1,q2,q5,q8,q11,q14,q19,h20,h21,h22]
           exact ⟨rfl,rfl,a0.trans (k21.trans b22)⟩
          | ok x22 a22 =>
           rw [h22] at A22
           obtain ⟨ad22,c22,rfl,l22',r22,b22⟩:=A22
           have g22:=(MN.blk' a21 o) _ _ h22
           have y22:=r22.le
           have k22:=k21.trans b22
           have z22:=k22.size
           have l22:=l22'.mono (T:=fun b=>w.heap.size+1 ≤ b) (fun b hb=>by have:=k21.size;omega)
           go_wp2_with fail
           go_at_call 42
           refine (node_any 11 ⟨#[]⟩ (some ⟨W22.heap.size,0,none⟩) 3 3 _).mono ?_
           rintro e W23 ⟨rfl,b23'⟩
           have j23 : W23.heap[W22.heap.size]?=_:=(b23'.block _ (by simp)).trans (heap_alloc_new W22 _)
           have r23:=(r22.bel (B0.alloc le0 _)).bel b23'
           have b23 : KeptR P.R W22 W23:=(KeptR.of (B0.alloc le0 _)).trans (.of b23')
           have k23:=k22.trans b23
           have z23:=k23.size
           have l23 : LAt W23 (fun b=>w.heap.size+1 ≤ b) (.slice (some ⟨W22.heap.size,0,none⟩) 3 3) [x20,x21,x22]:=LAt.n3 j23 (by have:=k22.size;show _ ≤ _;omega) (l20.keepR ((((KeptR.refl P.R W20).trans b21).trans b22).trans b23) (by omega)) (l21.keepR (((KeptR.refl P.R W21).trans b22).trans b23) (by omega)) (l22.keepR ((KeptR.refl P.R W22).trans b23) (by omega))
           obtain rfl : Rs.ok (mk0 11 ⟨#[]⟩ [x20,x21,x22]) a22=res:=by rw [← HR.out,wprimF];simp [Rs.bind,mtT,q1,q2,q5,q8,q11,q14,q19,h20,h21,h22]
           have m0:=M0.out _ k23
           obtain ⟨⟨_,_,_,_⟩,_,_,_,_⟩:=t4 m0
           go_wp2
           refine bodyPost_ret (res_n4 Tryz.results164 (t4_set _ _ _ _ m0) rfl) rfl ?_
           exact close_ok (x:=(mk0 11 ⟨#[]⟩ [x20,x21,x22])) h (a0.trans k23) (l23.keepR (KeptR.refl P.R W23) (by omega)) (by omega) r23
       | false =>
        have T19:=takeWord_any r14 wFunc
        rw [q19] at T19
        go_wp2_with fail
        go_at_call 49
        refine T19.mono ?_
        rintro e W19 ⟨rfl,r19',b19⟩
        have r19 : Rd W19 P L a (opE o):=r19'
        clear r19'
        have k19:=k14.trans b19
        have z19:=k19.size
        have y19:=r19.le
        go_wp2_with fail
        go_at_call 72
        refine (wrong_any r19).mono ?_
        rintro e W24 ⟨rfl,b24'⟩
        obtain rfl : Rs.bad a 60=res:=by rw [← HR.out,wprimF];simp [Rs.bind,mtT,q1,q2,q5,q8,q11,q14,q19]
        go_wp2
        exact ⟨rfl,rfl,a0.trans (k19.trans (.of b24'))⟩
theorem sprim_step (L : List Tok) (hs : Small L) (f : Nat) (MN : Mono L f) (hE : CN 126 L f 20 (exprF L f)) (hOp : CN 166 L f 5 (propF L f)) (hAr : CN 167 L f 6 (arrowF L f)) : CN 165 L (f+1) 7 (sprimF L (f+1)):=by
 intro w P a o h ho hM
 have hRw:=h.lt
 have hle:=h.le
 obtain ⟨h0,a0,z0,M0⟩:=begin_cell h
 obtain ⟨res,hres⟩ : ∃ r,sprimF L (f+1) a o=r:=⟨_,rfl⟩
 have HR : Hid (sprimF L (f+1) a o=res):=hres
 rw [hres]
 clear hres
 have HE' : Hid (CN 126 L f 20 (exprF L f)):=hE
 have HOP' : Hid (CN 166 L f 5 (propF L f)):=hOp
 have HAR' : Hid (CN 167 L f 6 (arrowF L f)):=hAr
 clear hE
 clear hOp
 clear hAr
 go_enter Tryz.func165,Tryz.ntmps165
 cases q25 : isS L a sBo with
 | true =>
  have T25:=take_any h0 sBo
  rw [q25] at T25
  have u25:=isS_lt q25
  go_wp2_with fail
  go_at_call 40
  refine T25.mono ?_
  rintro e W25 ⟨rfl,r25',b25⟩
  have r25 : Rd W25 P L (a+1) (opE o):=r25'
  clear r25'
  have k25:=(KeptR.refl P.R (w.alloc zN)).trans b25
  have z25:=k25.size
  have y25:=r25.le
  go_wp2_with fail
  go_at_call 84
  refine (listE_any (k:=126) (rs:=#[.pointer (some ⟨P.R,0,none⟩)]) (caps:=#[]) eg_anExpr hs r25 (fun b=>exprF L f b o) (fun b=>MN.expr' b o) (fun W b hb r=>HE'.out _ _ _ _ r (by omega) (by have:=r.le;unfold Ms at *;omega)) (s:=sBc)).mono ?_
  rintro e W26 A26
  cases h26 : listE L (fun b=>exprF L f b o) sBc (a+1) with
  | bad p er =>
   rw [h26] at A26
   obtain ⟨rfl,b26⟩:=A26
   obtain rfl : Rs.bad p er=res:=by rw [← HR.out,sprimF];simp [Rs.bind,mtT,q25,h26]
   exact ⟨rfl,rfl,a0.trans (k25.trans b26.one)⟩
  | ok x26 a26 =>
   rw [h26] at A26
   obtain ⟨ad26,c26,rfl,l26',r26,b26'⟩:=A26
   have b26:=b26'.one
   have g26:=(listE_ge (fun b=>MN.expr' b o) (a+1)) _ _ h26
   have y26:=r26.le
   have k26:=k25.trans b26
   have z26:=k26.size
   have l26:=l26'.mono (T:=fun b=>w.heap.size+1 ≤ b) (fun b hb=>by have:=k25.size;omega)
   go_wp2_with fail
   go_at_call 42
   refine (node_any 8 ⟨#[]⟩ ad26 x26.length c26 _).mono ?_
   rintro e W27 ⟨rfl,b27'⟩
   have r27:=r26.bel b27'
   have b27:=KeptR.of (b:=P.R) b27'
   have k27:=k26.trans b27
   have z27:=k27.size
   obtain rfl : Rs.ok (mk0 8 ⟨#[]⟩ x26) a26=res:=by rw [← HR.out,sprimF];simp [Rs.bind,mtT,q25,h26]
   have m0:=M0.out _ k27
   obtain ⟨⟨_,_,_,_⟩,_,_,_,_⟩:=t4 m0
   go_wp2
   refine bodyPost_ret (res_n4 Tryz.results165 (t4_set _ _ _ _ m0) rfl) rfl ?_
   exact close_ok (x:=(mk0 8 ⟨#[]⟩ x26)) h (a0.trans k27) (l26.keepR ((KeptR.refl P.R W26).trans b27) (by omega)) (by omega) r27
 | false =>
  have T25:=take_any h0 sBo
  rw [q25] at T25
  go_wp2_with fail
  go_at_call 40
  refine T25.mono ?_
  rintro e W25 ⟨rfl,r25',b25⟩
  have r25 : Rd W25 P L a (opE o):=r25'
  clear r25'
  have k25:=(KeptR.refl P.R (w.alloc zN)).trans b25
  have z25:=k25.size
  have y25:=r25.le
  cases q28 : isS L a sCb with
  | true =>
   have T28:=take_any r25 sCb
   rw [q28] at T28
   have u28:=isS_lt q28
   go_wp2_with fail
   go_at_call 40
   refine T28.mono ?_
   rintro e W28 ⟨rfl,r28',b28⟩
   have r28 : Rd W28 P L (a+1) (opE o):=r28'
   clear r28'
   have k28:=k25.trans b28
   have z28:=k28.size
   have y28:=r28.le
   go_wp2_with fail
   go_at_call 84
   refine (listE_any (k:=166) (rs:=#[.pointer (some ⟨P.R,0,none⟩)]) (caps:=#[]) eg_objectProp hs r28 (fun b=>propF L f b o) (fun b=>MN.prop' b o) (fun W b hb r=>HOP'.out _ _ _ _ r (by omega) (by have:=r.le;unfold Ms at *;omega)) (s:=sCc)).mono ?_
   rintro e W29 A29
   cases h29 : listE L (fun b=>propF L f b o) sCc (a+1) with
   | bad p er =>
    rw [h29] at A29
    obtain ⟨rfl,b29⟩:=A29
    obtain rfl : Rs.bad p er=res:=by rw [← HR.out,sprimF];simp [Rs.bind,mtT,q25,q28,h29]
    exact ⟨rfl,rfl,a0.trans (k28.trans b29.one)⟩
   | ok x29 a29 =>
    rw [h29] at A29
    obtain ⟨ad29,c29,rfl,l29',r29,b29'⟩:=A29
    have b29:=b29'.one
    have g29:=(listE_ge (fun b=>MN.prop' b o) (a+1)) _ _ h29
    have y29:=r29.le
    have k29:=k28.trans b29
    have z29:=k29.size
    have l29:=l29'.mono (T:=fun b=>w.heap.size+1 ≤ b) (fun b hb=>by have:=k28.size;omega)
    go_wp2_with fail
    go_at_call 42
    refine (node_any 9 ⟨#[]⟩ ad29 x29.length c29 _).mono ?_
    rintro e W30 ⟨rfl,b30'⟩
    have r30:=r29.bel b30'
    have b30:=KeptR.of (b:=P.R) b30'
    have k30:=k29.trans b30
    have z30:=k30.size
    obtain rfl : Rs.ok (mk0 9 ⟨#[]⟩ x29) a29=res:=by rw [← HR.out,sprimF];simp [Rs.bind,mtT,q25,q28,h29]
    have m0:=M0.out _ k30
    obtain ⟨⟨_,_,_,_⟩,_,_,_,_⟩:=t4 m0
    go_wp2
    refine bodyPost_ret (res_n4 Tryz.results165 (t4_set _ _ _ _ m0) rfl) rfl ?_
    exact close_ok (x:=(mk0 9 ⟨#[]⟩ x29)) h (a0.trans k30) (l29.keepR ((KeptR.refl P.R W29).trans b30) (by omega)) (by omega) r30
  | false =>
   have T28:=take_any r25 sCb
   rw [q28] at T28
   go_wp2_with fail
   go_at_call 40
   refine T28.mono ?_
   rintro e W28 ⟨rfl,r28',b28⟩
   have r28 : Rd W28 P L a (opE o):=r28'
   clear r28'
   have k28:=k25.trans b28
   have z28:=k28.size
   have y28:=r28.le
   cases q31 : isS L a sPo with
   | true =>
    have T31:=stands_any r28 sPo
    rw [q31] at T31
    have u31:=isS_lt q31
    go_wp2_with fail
    go_at_call 51
    refine T31.mono ?_
    rintro e W31 ⟨rfl,b31'⟩
    have r31:=r28.bel b31'
    have b31:=KeptR.of (b:=P.R) b31'
    have k31:=k28.trans b31
    have z31:=k31.size
    have y31:=r31.le
    cases q32 : arrow L a with
    | true =>
     have T32:=beforeArrow_any r31 (by omega)
     rw [q32] at T32
     go_wp2_with fail
     go_at_call 145
     refine T32.mono ?_
     rintro e W32 ⟨rfl,b32'⟩
     have r32:=r31.bel b32'
     have b32:=KeptR.of (b:=P.R) b32'
     have k32:=k31.trans b32
     have z32:=k32.size
     have y32:=r32.le
     go_wp2_with fail
     go_at_call 167
     refine (HAR'.out _ _ _ _ r32 (by omega) (by unfold Ms at *;omega)).mono ?_
     rintro e W33 A33
     cases h33 : arrowF L f a o with
     | bad p er =>
      rw [h33] at A33
      obtain ⟨rfl,b33⟩:=A33
      obtain rfl : Rs.bad p er=res:=by rw [← HR.out,sprimF];simp [Rs.bind,mtT,q25,q28,q31,q32,h33]
      exact ⟨rfl,rfl,a0.trans (k32.trans b33)⟩
     | ok x33 a33 =>
      rw [h33] at A33
      obtain ⟨ad33,c33,rfl,l33',r33,b33⟩:=A33
      have g33:=(MN.arrow' a o) _ _ h33
      have y33:=r33.le
      have k33:=k32.trans b33
      have z33:=k33.size
      have l33:=l33'.mono (T:=fun b=>w.heap.size+1 ≤ b) (fun b hb=>by have:=k32.size;omega)
      obtain rfl : Rs.ok x33 a33=res:=by rw [← HR.out,sprimF];simp [Rs.bind,mtT,q25,q28,q31,q32,h33]
      have m0:=M0.out _ k33
      obtain ⟨⟨_,_,_,_⟩,_,_,_,_⟩:=t4 m0
      go_wp2
      refine bodyPost_ret (res_n4 Tryz.results165 (t4_set _ _ _ _ m0) rfl) rfl ?_
      exact close_ok (x:=x33) h (a0.trans k33) (l33.keepR (KeptR.refl P.R W33) (by omega)) (by omega) r33
    | false =>
     have T32:=beforeArrow_any r31 (by omega)
     rw [q32] at T32
     go_wp2_with fail
     go_at_call 145
     refine T32.mono ?_
     rintro e W32 ⟨rfl,b32'⟩
     have r32:=r31.bel b32'
     have b32:=KeptR.of (b:=P.R) b32'
     have k32:=k31.trans b32
     have z32:=k32.size
     have y32:=r32.le
     have T34:=take_any r32 sPo
     rw [q31] at T34
     go_wp2_with fail
     go_at_call 40
     refine T34.mono ?_
     rintro e W34 ⟨rfl,r34',b34⟩
     have r34 : Rd W34 P L (a+1) (opE o):=r34'
     clear r34'
     have k34:=k32.trans b34
     have z34:=k34.size
     have y34:=r34.le
     go_wp2_with fail
     go_at_call 126
     refine (HE'.out _ _ _ _ r34 (by omega) (by unfold Ms at *;omega)).mono ?_
     rintro e W35 A35
     cases h35 : exprF L f (a+1) o with
     | bad p er =>
      rw [h35] at A35
      obtain ⟨rfl,b35⟩:=A35
      obtain rfl : Rs.bad p er=res:=by rw [← HR.out,sprimF];simp [Rs.bind,mtT,q25,q28,q31,q32,h35]
      exact ⟨rfl,rfl,a0.trans (k34.trans b35)⟩
     | ok x35 a35 =>
      rw [h35] at A35
      obtain ⟨ad35,c35,rfl,l35',r35,b35⟩:=A35
      have g35:=(MN.expr' (a+1) o) _ _ h35
      have y35:=r35.le
      have k35:=k34.trans b35
      have z35:=k35.size
      have l35:=l35'.mono (T:=fun b=>w.heap.size+1 ≤ b) (fun b hb=>by have:=k34.size;omega)
      go_wp2_with fail
      go_at_call 39
      refine (want_any (r35.bel (B0.alloc le0 _)) sPc).mono ?_
      rintro e W37 A37
      cases h37 : wantR L sPc a35 with
      | bad p er =>
       rw [h37] at A37
       obtain ⟨rfl,b37⟩:=A37
       obtain rfl : Rs.bad p er=res:=by rw [← HR.out,sprimF];simp [Rs.bind,mtT,q25,q28,q31,q32,h35,h37]
       exact ⟨rfl,rfl,a0.trans ((k35.alloc _).trans b37)⟩
      | ok x37 a37 =>
       rw [h37] at A37
       obtain ⟨rfl,r37,b37⟩:=A37
       have g37:=(want_ge L sPc a35) _ _ h37
       have y37:=r37.le
       have k37:=(k35.alloc (Obj.cells #[.int .i64 x35.k,.string x35.t,.int .i64 x35.n,.slice ad35 x35.ks.length c35] 24)).trans b37
       have z37:=k37.size
       have v36 : W37.heap[W35.heap.size]?=_:=(((KeptR.refl P.R _).trans b37).block (W35.heap.size) (by simp) (by have:=k35.size;omega)).trans (heap_alloc_new W35 _)
       obtain ⟨⟨_,_,_,_⟩,_,_,_,_⟩:=t4 v36
       obtain rfl : Rs.ok x35 a37=res:=by rw [← HR.out,sprimF];simp [Rs.bind,mtT,q25,q28,q31,q32,h35,h37]
       have m0:=M0.out _ k37
       obtain ⟨⟨_,_,_,_⟩,_,_,_,_⟩:=t4 m0
       go_wp2
       refine bodyPost_ret (res_n4 Tryz.results165 (t4_set _ _ _ _ m0) rfl) rfl ?_
       exact close_ok (x:=x35) h (a0.trans k37) (l35.keepR (((KeptR.refl P.R W35).alloc _).trans b37) (by omega)) (by omega) r37
   | false =>
    have T31:=stands_any r28 sPo
    rw [q31] at T31
    go_wp2_with fail
    go_at_call 51
    refine T31.mono ?_
    rintro e W31 ⟨rfl,b31'⟩
    have r31:=r28.bel b31'
    have b31:=KeptR.of (b:=P.R) b31'
    have k31:=k28.trans b31
    have z31:=k31.size
    have y31:=r31.le
    have T38:=take_any r31 sPo
    rw [q31] at T38
    go_wp2_with fail
    go_at_call 40
    refine T38.mono ?_
    rintro e W38 ⟨rfl,r38',b38⟩
    have r38 : Rd W38 P L a (opE o):=r38'
    clear r38'
    have k38:=k31.trans b38
    have z38:=k38.size
    have y38:=r38.le
    go_wp2_with fail
    go_at_call 72
    refine (wrong_any r38).mono ?_
    rintro e W39 ⟨rfl,b39'⟩
    obtain rfl : Rs.bad a 60=res:=by rw [← HR.out,sprimF];simp [Rs.bind,mtT,q25,q28,q31]
    go_wp2
    exact ⟨rfl,rfl,a0.trans (k38.trans (.of b39'))⟩
end Go.Proofs.YthfkfbcopinmiaaGreatDoor
