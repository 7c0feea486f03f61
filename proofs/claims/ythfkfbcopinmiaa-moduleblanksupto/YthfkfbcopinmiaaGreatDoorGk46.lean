/- Own text. Package module: the rules,one by one: an export. -/
import Derived.Test.YthfkfbcopinmiaaGreatDoorGk41
import Derived.Test.YthfkfbcopinmiaaGreatDoorGk43
import Derived.Test.YthfkfbcopinmiaaGreatDoorGk44
import Derived.Test.YthfkfbcopinmiaaGreatDoorGk45
set_option linter.unusedVariables false
set_option linter.unusedSimpArgs false
set_option maxRecDepth 100000
set_option maxHeartbeats 8000000
namespace Go.Proofs.YthfkfbcopinmiaaGreatDoor
open Go.RowKit
theorem defaulted_eq (L : List Tok) (a : Nat) : defaultedM L a=if isWd L a wFunc=true then stmtM L a else if isWd L a wClass=true then classM L a else defExprM L a:=rfl
theorem eg_class : ∀ args w,(callFunc 19 args).run Tryz.prog w = .ok (.enter 19 args) w:=Go.Proofs.enters_of Tryz.func19 (by kernel_rfl) rfl
theorem eg_alias : ∀ args w,(callFunc 23 args).run Tryz.prog w = .ok (.enter 23 args) w:=Go.Proofs.enters_of Tryz.func23 (by kernel_rfl) rfl
theorem eg_defaultExpr : ∀ args w,(callFunc 87 args).run Tryz.prog w = .ok (.enter 87 args) w:=Go.Proofs.enters_of Tryz.func87 (by kernel_rfl) rfl
theorem exports_m {L : List Tok} (hs : Small L) {w : World} {P : Pl} {a : Nat} (h : Rd w P L a mE) (hlt : a < L.length) : Calls Tryz.prog 21 #[.pointer (some ⟨P.R,0,none⟩)] w (AnsN P L mE w (exportM L a)):=by
 have hRw:=h.lt
 have hle:=h.le
 obtain ⟨h0,a0,z0,M0⟩:=begin_cell h
 obtain ⟨res,hres⟩ : ∃ r,exportM L a=r:=⟨_,rfl⟩
 have HR : Hid (exportM L a=res):=hres
 rw [hres]
 clear hres
 go_enter Tryz.func21,Tryz.ntmps21
 go_wp2_with fail
 go_at_call 37
 refine (pass_any h0 hlt (hs.at _)).mono ?_
 rintro e W1 ⟨rfl,r1,b1⟩
 have k1:=(KeptR.refl P.R (w.alloc zN)).trans b1
 have z1:=k1.size
 have y1:=r1.le
 cases q2 : isWd L (a+1) wDefault with
 | true =>
  have T2:=takeWord_any r1 wDefault
  rw [q2] at T2
  have u2:=isWd_lt q2
  go_wp2_with fail
  go_at_call 49
  refine T2.mono ?_
  rintro e W2 ⟨rfl,r2',b2⟩
  have r2 : Rd W2 P L (a+1+1) mE:=r2'
  clear r2'
  have k2:=k1.trans b2
  have z2:=k2.size
  have y2:=r2.le
  cases q3 : isWd L (a+1+1) wFunc with
  | true =>
   have D4:=defaulted_any r2
   rw [show dfK L (a+1+1)=24 by unfold dfK;simp [q3]] at D4
   go_wp2_with fail
   go_at_call 50
   refine D4.mono ?_
   rintro e W4 ⟨rfl,b4'⟩
   have r4:=r2.bel b4'
   have b4:=KeptR.of (b:=P.R) b4'
   have k4:=k2.trans b4
   have z4:=k4.size
   unfold bound
   have eg5:=eg_stmt
   go_wp2_with fail
   go_at_fn 24
   refine (stmt_m hs r4).mono ?_
   rintro e W6 A6
   cases h6 : stmtM L (a+1+1) with
   | bad p er =>
    rw [h6] at A6
    obtain ⟨rfl,b6⟩:=A6
    obtain rfl : Rs.bad p er=res:=by rw [← HR.out,exportM];simp [Rs.bind,mtT,declaredM,defaulted_eq,q2,q3,h6]
    exact ⟨rfl,rfl,a0.trans (k4.trans b6)⟩
   | ok x6 a6 =>
    rw [h6] at A6
    obtain ⟨ad6,c6,rfl,l6',r6,b6⟩:=A6
    have y6:=r6.le
    have k6:=k4.trans b6
    have z6:=k6.size
    have l6:=l6'.mono (T:=fun b=>w.heap.size+1 ≤ b) (fun b hb=>by have:=k4.size;omega)
    go_wp2_with fail
    go_at_call 42
    refine (node_any 63 ⟨#[]⟩ (some ⟨W6.heap.size,0,none⟩) 1 1 _).mono ?_
    rintro e W7 ⟨rfl,b7'⟩
    have j7 : W7.heap[W6.heap.size]?=_:=(b7'.block _ (by simp)).trans (heap_alloc_new W6 _)
    have r7:=(r6.bel (B0.alloc le0 _)).bel b7'
    have b7 : KeptR P.R W6 W7:=(KeptR.of (B0.alloc le0 _)).trans (.of b7')
    have k7:=k6.trans b7
    have z7:=k7.size
    have l7 : LAt W7 (fun b=>w.heap.size+1 ≤ b) (.slice (some ⟨W6.heap.size,0,none⟩) 1 1) [x6]:=LAt.n1 j7 (by have:=k6.size;show _ ≤ _;omega) (l6.keepR ((KeptR.refl P.R W6).trans b7) (by omega))
    obtain rfl : Rs.ok (mk0 63 ⟨#[]⟩ [x6]) a6=res:=by rw [← HR.out,exportM];simp [Rs.bind,mtT,declaredM,defaulted_eq,q2,q3,h6]
    have m0:=M0.out _ k7
    obtain ⟨⟨_,_,_,_⟩,_,_,_,_⟩:=t4 m0
    go_wp2
    refine bodyPost_ret (res_n4 Tryz.results21 (t4_set _ _ _ _ m0) rfl) rfl ?_
    exact close_ok (x:=(mk0 63 ⟨#[]⟩ [x6])) h (a0.trans k7) (l7.keepR (KeptR.refl P.R W7) (by omega)) (by omega) r7
  | false =>
   cases q8 : isWd L (a+1+1) wClass with
   | true =>
    have u9:=isWd_lt q8
    have D9:=defaulted_any r2
    rw [show dfK L (a+1+1)=19 by unfold dfK;simp [q3,q8]] at D9
    go_wp2_with fail
    go_at_call 50
    refine D9.mono ?_
    rintro e W9 ⟨rfl,b9'⟩
    have r9:=r2.bel b9'
    have b9:=KeptR.of (b:=P.R) b9'
    have k9:=k2.trans b9
    have z9:=k9.size
    unfold bound
    have eg10:=eg_class
    go_wp2_with fail
    go_at_fn 19
    refine (class_m hs r9 (by omega)).mono ?_
    rintro e W11 A11
    cases h11 : classM L (a+1+1) with
    | bad p er =>
     rw [h11] at A11
     obtain ⟨rfl,b11⟩:=A11
     obtain rfl : Rs.bad p er=res:=by rw [← HR.out,exportM];simp [Rs.bind,mtT,declaredM,defaulted_eq,q2,q3,q8,h11]
     exact ⟨rfl,rfl,a0.trans (k9.trans b11)⟩
    | ok x11 a11 =>
     rw [h11] at A11
     obtain ⟨ad11,c11,rfl,l11',r11,b11⟩:=A11
     have y11:=r11.le
     have k11:=k9.trans b11
     have z11:=k11.size
     have l11:=l11'.mono (T:=fun b=>w.heap.size+1 ≤ b) (fun b hb=>by have:=k9.size;omega)
     go_wp2_with fail
     go_at_call 42
     refine (node_any 63 ⟨#[]⟩ (some ⟨W11.heap.size,0,none⟩) 1 1 _).mono ?_
     rintro e W12 ⟨rfl,b12'⟩
     have j12 : W12.heap[W11.heap.size]?=_:=(b12'.block _ (by simp)).trans (heap_alloc_new W11 _)
     have r12:=(r11.bel (B0.alloc le0 _)).bel b12'
     have b12 : KeptR P.R W11 W12:=(KeptR.of (B0.alloc le0 _)).trans (.of b12')
     have k12:=k11.trans b12
     have z12:=k12.size
     have l12 : LAt W12 (fun b=>w.heap.size+1 ≤ b) (.slice (some ⟨W11.heap.size,0,none⟩) 1 1) [x11]:=LAt.n1 j12 (by have:=k11.size;show _ ≤ _;omega) (l11.keepR ((KeptR.refl P.R W11).trans b12) (by omega))
     obtain rfl : Rs.ok (mk0 63 ⟨#[]⟩ [x11]) a11=res:=by rw [← HR.out,exportM];simp [Rs.bind,mtT,declaredM,defaulted_eq,q2,q3,q8,h11]
     have m0:=M0.out _ k12
     obtain ⟨⟨_,_,_,_⟩,_,_,_,_⟩:=t4 m0
     go_wp2
     refine bodyPost_ret (res_n4 Tryz.results21 (t4_set _ _ _ _ m0) rfl) rfl ?_
     exact close_ok (x:=(mk0 63 ⟨#[]⟩ [x11])) h (a0.trans k12) (l12.keepR (KeptR.refl P.R W12) (by omega)) (by omega) r12
   | false =>
    have D13:=defaulted_any r2
    rw [show dfK L (a+1+1)=87 by unfold dfK;simp [q3,q8]] at D13
    go_wp2_with fail
    go_at_call 50
    refine D13.mono ?_
    rintro e W13 ⟨rfl,b13'⟩
    have r13:=r2.bel b13'
    have b13:=KeptR.of (b:=P.R) b13'
    have k13:=k2.trans b13
    have z13:=k13.size
    unfold bound
    have eg14:=eg_defaultExpr
    go_wp2_with fail
    go_at_fn 87
    refine (defaultExpr_m hs r13).mono ?_
    rintro e W15 A15
    cases h15 : defExprM L (a+1+1) with
    | bad p er =>
     rw [h15] at A15
     obtain ⟨rfl,b15⟩:=A15
     obtain rfl : Rs.bad p er=res:=by rw [← HR.out,exportM];simp [Rs.bind,mtT,declaredM,defaulted_eq,q2,q3,q8,h15]
     exact ⟨rfl,rfl,a0.trans (k13.trans b15)⟩
    | ok x15 a15 =>
     rw [h15] at A15
     obtain ⟨ad15,c15,rfl,l15',r15,b15⟩:=A15
     have y15:=r15.le
     have k15:=k13.trans b15
     have z15:=k15.size
     have l15:=l15'.mono (T:=fun b=>w.heap.size+1 ≤ b) (fun b hb=>by have:=k13.size;omega)
     go_wp2_with fail
     go_at_call 42
     refine (node_any 63 ⟨#[]⟩ (some ⟨W15.heap.size,0,none⟩) 1 1 _).mono ?_
     rintro e W16 ⟨rfl,b16'⟩
     have j16 : W16.heap[W15.heap.size]?=_:=(b16'.block _ (by simp)).trans (heap_alloc_new W15 _)
     have r16:=(r15.bel (B0.alloc le0 _)).bel b16'
     have b16 : KeptR P.R W15 W16:=(KeptR.of (B0.alloc le0 _)).trans (.of b16')
     have k16:=k15.trans b16
     have z16:=k16.size
     have l16 : LAt W16 (fun b=>w.heap.size+1 ≤ b) (.slice (some ⟨W15.heap.size,0,none⟩) 1 1) [x15]:=LAt.n1 j16 (by have:=k15.size;show _ ≤ _;omega) (l15.keepR ((KeptR.refl P.R W15).trans b16) (by omega))
     obtain rfl : Rs.ok (mk0 63 ⟨#[]⟩ [x15]) a15=res:=by rw [← HR.out,exportM];simp [Rs.bind,mtT,declaredM,defaulted_eq,q2,q3,q8,h15]
     have m0:=M0.out _ k16
     obtain ⟨⟨_,_,_,_⟩,_,_,_,_⟩:=t4 m0
     go_wp2
     refine bodyPost_ret (res_n4 Tryz.results21 (t4_set _ _ _ _ m0) rfl) rfl ?_
     exact close_ok (x:=(mk0 63 ⟨#[]⟩ [x15])) h (a0.trans k16) (l16.keepR (KeptR.refl P.R W16) (by omega)) (by omega) r16
 | false =>
  have T2:=takeWord_any r1 wDefault
  rw [q2] at T2
  go_wp2_with fail
  go_at_call 49
  refine T2.mono ?_
  rintro e W2 ⟨rfl,r2',b2⟩
  have r2 : Rd W2 P L (a+1) mE:=r2'
  clear r2'
  have k2:=k1.trans b2
  have z2:=k2.size
  have y2:=r2.le
  cases q17 : isS L (a+1) sSt with
  | true =>
   have T17:=stands_any r2 sSt
   rw [q17] at T17
   have u17:=isS_lt q17
   go_wp2_with fail
   go_at_call 51
   refine T17.mono ?_
   rintro e W17 ⟨rfl,b17'⟩
   have r17:=r2.bel b17'
   have b17:=KeptR.of (b:=P.R) b17'
   have k17:=k2.trans b17
   have z17:=k17.size
   have y17:=r17.le
   go_wp2_with fail
   go_at_call 52
   refine (exportAll_m hs r17 (by omega)).mono ?_
   rintro e W18 A18
   cases h18 : exportAllM L (a+1) with
   | bad p er =>
    rw [h18] at A18
    obtain ⟨rfl,b18⟩:=A18
    obtain rfl : Rs.bad p er=res:=by rw [← HR.out,exportM];simp [Rs.bind,mtT,declaredM,defaulted_eq,q2,q17,h18]
    exact ⟨rfl,rfl,a0.trans (k17.trans b18)⟩
   | ok x18 a18 =>
    rw [h18] at A18
    obtain ⟨ad18,c18,rfl,l18',r18,b18⟩:=A18
    have y18:=r18.le
    have k18:=k17.trans b18
    have z18:=k18.size
    have l18:=l18'.mono (T:=fun b=>w.heap.size+1 ≤ b) (fun b hb=>by have:=k17.size;omega)
    obtain rfl : Rs.ok x18 a18=res:=by rw [← HR.out,exportM];simp [Rs.bind,mtT,declaredM,defaulted_eq,q2,q17,h18]
    have m0:=M0.out _ k18
    obtain ⟨⟨_,_,_,_⟩,_,_,_,_⟩:=t4 m0
    go_wp2
    refine bodyPost_ret (res_n4 Tryz.results21 (t4_set _ _ _ _ m0) rfl) rfl ?_
    exact close_ok (x:=x18) h (a0.trans k18) (l18.keepR (KeptR.refl P.R W18) (by omega)) (by omega) r18
  | false =>
   have T17:=stands_any r2 sSt
   rw [q17] at T17
   go_wp2_with fail
   go_at_call 51
   refine T17.mono ?_
   rintro e W17 ⟨rfl,b17'⟩
   have r17:=r2.bel b17'
   have b17:=KeptR.of (b:=P.R) b17'
   have k17:=k2.trans b17
   have z17:=k17.size
   have y17:=r17.le
   cases q19 : isS L (a+1) sCb with
   | true =>
    have T19:=stands_any r17 sCb
    rw [q19] at T19
    have u19:=isS_lt q19
    go_wp2_with fail
    go_at_call 51
    refine T19.mono ?_
    rintro e W19 ⟨rfl,b19'⟩
    have r19:=r17.bel b19'
    have b19:=KeptR.of (b:=P.R) b19'
    have k19:=k17.trans b19
    have z19:=k19.size
    have y19:=r19.le
    go_wp2_with fail
    go_at_call 53
    refine (exportNames_m hs r19 (by omega) 0).mono ?_
    rintro e W20 A20
    cases h20 : exportNamesM L 0 (a+1) with
    | bad p er =>
     rw [h20] at A20
     obtain ⟨rfl,b20⟩:=A20
     obtain rfl : Rs.bad p er=res:=by rw [← HR.out,exportM];simp [Rs.bind,mtT,declaredM,defaulted_eq,q2,q17,q19,h20]
     exact ⟨rfl,rfl,a0.trans (k19.trans b20)⟩
    | ok x20 a20 =>
     rw [h20] at A20
     obtain ⟨ad20,c20,rfl,l20',r20,b20⟩:=A20
     have y20:=r20.le
     have k20:=k19.trans b20
     have z20:=k20.size
     have l20:=l20'.mono (T:=fun b=>w.heap.size+1 ≤ b) (fun b hb=>by have:=k19.size;omega)
     obtain rfl : Rs.ok x20 a20=res:=by rw [← HR.out,exportM];simp [Rs.bind,mtT,declaredM,defaulted_eq,q2,q17,q19,h20]
     have m0:=M0.out _ k20
     obtain ⟨⟨_,_,_,_⟩,_,_,_,_⟩:=t4 m0
     go_wp2
     refine bodyPost_ret (res_n4 Tryz.results21 (t4_set _ _ _ _ m0) rfl) rfl ?_
     exact close_ok (x:=x20) h (a0.trans k20) (l20.keepR (KeptR.refl P.R W20) (by omega)) (by omega) r20
   | false =>
    have T19:=stands_any r17 sCb
    rw [q19] at T19
    go_wp2_with fail
    go_at_call 51
    refine T19.mono ?_
    rintro e W19 ⟨rfl,b19'⟩
    have r19:=r17.bel b19'
    have b19:=KeptR.of (b:=P.R) b19'
    have k19:=k17.trans b19
    have z19:=k19.size
    have y19:=r19.le
    have TK21:=token_any r19
    have TN21 : ∀ W,Calls Tryz.prog 54 #[(tokA L (a+1)).v,.string nType] W fun e w'=>e = .returned (.bool (isNm L (a+1) nType))∧Below W.heap.size W w':=fun W=>isName_any (tokA L (a+1)) nType W
    go_wp2_with fail
    go_at_call 36
    refine TK21.mono ?_
    rintro e W21 ⟨rfl,b21'⟩
    have r21:=r19.bel b21'
    have b21:=KeptR.of (b:=P.R) b21'
    have k21:=k19.trans b21
    have z21:=k21.size
    cases q23 : isNm L (a+1) nType with
    | true =>
     rw [q23] at TN21
     go_wp2_with fail
     go_at_call 54
     refine (TN21 _).mono ?_
     rintro e W22 ⟨rfl,b22'⟩
     have r22:=r21.bel b22'
     have b22:=KeptR.of (b:=P.R) b22'
     have k22:=k21.trans b22
     have z22:=k22.size
     have ut:=isNm_lt q23
     have TA:=ahead_any r22 1 (by omega)
     have TS : ∀ W,Calls Tryz.prog 55 #[(tokA L (a+1+1)).v,.string sCb] W fun e w'=>e = .returned (.bool (isS L (a+1+1) sCb))∧Below W.heap.size W w':=fun W=>isSign_any (tokA L (a+1+1)) sCb W
     go_wp2_with fail
     go_at_call 56
     refine TA.mono ?_
     rintro e W24 ⟨rfl,b24'⟩
     have r24:=r22.bel b24'
     have b24:=KeptR.of (b:=P.R) b24'
     have k24:=k22.trans b24
     have z24:=k24.size
     cases q26 : isS L (a+1+1) sCb with
     | true =>
      rw [q26] at TS
      go_wp2_with fail
      go_at_call 55
      refine (TS _).mono ?_
      rintro e W25 ⟨rfl,b25'⟩
      have r25:=r24.bel b25'
      have b25:=KeptR.of (b:=P.R) b25'
      have k25:=k24.trans b25
      have z25:=k25.size
      have us:=isS_lt q26
      go_wp2_with fail
      go_at_call 37
      refine (pass_any r25 ut (hs.at _)).mono ?_
      rintro e W27 ⟨rfl,r27,b27⟩
      have k27:=k25.trans b27
      have z27:=k27.size
      have y27:=r27.le
      go_wp2_with fail
      go_at_call 53
      refine (exportNames_m hs r27 (by omega) 1).mono ?_
      rintro e W28 A28
      cases h28 : exportNamesM L 1 (a+1+1) with
      | bad p er =>
       rw [h28] at A28
       obtain ⟨rfl,b28⟩:=A28
       obtain rfl : Rs.bad p er=res:=by rw [← HR.out,exportM];simp [Rs.bind,mtT,declaredM,defaulted_eq,q2,q17,q19,q23,q26,h28]
       exact ⟨rfl,rfl,a0.trans (k27.trans b28)⟩
      | ok x28 a28 =>
       rw [h28] at A28
       obtain ⟨ad28,c28,rfl,l28',r28,b28⟩:=A28
       have y28:=r28.le
       have k28:=k27.trans b28
       have z28:=k28.size
       have l28:=l28'.mono (T:=fun b=>w.heap.size+1 ≤ b) (fun b hb=>by have:=k27.size;omega)
       obtain rfl : Rs.ok x28 a28=res:=by rw [← HR.out,exportM];simp [Rs.bind,mtT,declaredM,defaulted_eq,q2,q17,q19,q23,q26,h28]
       have m0:=M0.out _ k28
       obtain ⟨⟨_,_,_,_⟩,_,_,_,_⟩:=t4 m0
       go_wp2
       refine bodyPost_ret (res_n4 Tryz.results21 (t4_set _ _ _ _ m0) rfl) rfl ?_
       exact close_ok (x:=x28) h (a0.trans k28) (l28.keepR (KeptR.refl P.R W28) (by omega)) (by omega) r28
     | false =>
      rw [q26] at TS
      go_wp2_with fail
      go_at_call 55
      refine (TS _).mono ?_
      rintro e W25 ⟨rfl,b25'⟩
      have r25:=r24.bel b25'
      have b25:=KeptR.of (b:=P.R) b25'
      have k25:=k24.trans b25
      have z25:=k25.size
      cases q29 : isWd L (a+1) wLet with
      | true =>
       have D30:=declared_any r25
       rw [show dcK L (a+1)=some 24 by unfold dcK;simp [q29]] at D30
       go_wp2_with fail
       go_at_call 57
       refine D30.mono ?_
       rintro e W30 ⟨rfl,b30'⟩
       have r30:=r25.bel b30'
       have b30:=KeptR.of (b:=P.R) b30'
       have k30:=k25.trans b30
       have z30:=k30.size
       unfold bound
       have eg31:=eg_stmt
       go_wp2_with fail
       go_at_fn 24
       refine (stmt_m hs r30).mono ?_
       rintro e W32 A32
       cases h32 : stmtM L (a+1) with
       | bad p er =>
        rw [h32] at A32
        obtain ⟨rfl,b32⟩:=A32
        obtain rfl : Rs.bad p er=res:=by rw [← HR.out,exportM];simp [Rs.bind,mtT,declaredM,defaulted_eq,q2,q17,q19,q23,q26,q29,h32]
        exact ⟨rfl,rfl,a0.trans (k30.trans b32)⟩
       | ok x32 a32 =>
        rw [h32] at A32
        obtain ⟨ad32,c32,rfl,l32',r32,b32⟩:=A32
        have y32:=r32.le
        have k32:=k30.trans b32
        have z32:=k32.size
        have l32:=l32'.mono (T:=fun b=>w.heap.size+1 ≤ b) (fun b hb=>by have:=k30.size;omega)
        go_wp2_with fail
        go_at_call 42
        refine (node_any 62 ⟨#[]⟩ (some ⟨W32.heap.size,0,none⟩) 1 1 _).mono ?_
        rintro e W33 ⟨rfl,b33'⟩
        have j33 : W33.heap[W32.heap.size]?=_:=(b33'.block _ (by simp)).trans (heap_alloc_new W32 _)
        have r33:=(r32.bel (B0.alloc le0 _)).bel b33'
        have b33 : KeptR P.R W32 W33:=(KeptR.of (B0.alloc le0 _)).trans (.of b33')
        have k33:=k32.trans b33
        have z33:=k33.size
        have l33 : LAt W33 (fun b=>w.heap.size+1 ≤ b) (.slice (some ⟨W32.heap.size,0,none⟩) 1 1) [x32]:=LAt.n1 j33 (by have:=k32.size;show _ ≤ _;omega) (l32.keepR ((KeptR.refl P.R W32).trans b33) (by omega))
        obtain rfl : Rs.ok (mk0 62 ⟨#[]⟩ [x32]) a32=res:=by rw [← HR.out,exportM];simp [Rs.bind,mtT,declaredM,defaulted_eq,q2,q17,q19,q23,q26,q29,h32]
        have m0:=M0.out _ k33
        obtain ⟨⟨_,_,_,_⟩,_,_,_,_⟩:=t4 m0
        go_wp2
        refine bodyPost_ret (res_n4 Tryz.results21 (t4_set _ _ _ _ m0) rfl) rfl ?_
        exact close_ok (x:=(mk0 62 ⟨#[]⟩ [x32])) h (a0.trans k33) (l33.keepR (KeptR.refl P.R W33) (by omega)) (by omega) r33
      | false =>
       cases q34 : isWd L (a+1) wConst with
       | true =>
        have D35:=declared_any r25
        rw [show dcK L (a+1)=some 24 by unfold dcK;simp [q29,q34]] at D35
        go_wp2_with fail
        go_at_call 57
        refine D35.mono ?_
        rintro e W35 ⟨rfl,b35'⟩
        have r35:=r25.bel b35'
        have b35:=KeptR.of (b:=P.R) b35'
        have k35:=k25.trans b35
        have z35:=k35.size
        unfold bound
        have eg36:=eg_stmt
        go_wp2_with fail
        go_at_fn 24
        refine (stmt_m hs r35).mono ?_
        rintro e W37 A37
        cases h37 : stmtM L (a+1) with
        | bad p er =>
         rw [h37] at A37
         obtain ⟨rfl,b37⟩:=A37
         obtain rfl : Rs.bad p er=res:=by rw [← HR.out,exportM];simp [Rs.bind,mtT,declaredM,defaulted_eq,q2,q17,q19,q23,q26,q29,q34,h37]
         exact ⟨rfl,rfl,a0.trans (k35.trans b37)⟩
        | ok x37 a37 =>
         rw [h37] at A37
         obtain ⟨ad37,c37,rfl,l37',r37,b37⟩:=A37
         have y37:=r37.le
         have k37:=k35.trans b37
         have z37:=k37.size
         have l37:=l37'.mono (T:=fun b=>w.heap.size+1 ≤ b) (fun b hb=>by have:=k35.size;omega)
         go_wp2_with fail
         go_at_call 42
         refine (node_any 62 ⟨#[]⟩ (some ⟨W37.heap.size,0,none⟩) 1 1 _).mono ?_
         rintro e W38 ⟨rfl,b38'⟩
         have j38 : W38.heap[W37.heap.size]?=_:=(b38'.block _ (by simp)).trans (heap_alloc_new W37 _)
         have r38:=(r37.bel (B0.alloc le0 _)).bel b38'
         have b38 : KeptR P.R W37 W38:=(KeptR.of (B0.alloc le0 _)).trans (.of b38')
         have k38:=k37.trans b38
         have z38:=k38.size
         have l38 : LAt W38 (fun b=>w.heap.size+1 ≤ b) (.slice (some ⟨W37.heap.size,0,none⟩) 1 1) [x37]:=LAt.n1 j38 (by have:=k37.size;show _ ≤ _;omega) (l37.keepR ((KeptR.refl P.R W37).trans b38) (by omega))
         obtain rfl : Rs.ok (mk0 62 ⟨#[]⟩ [x37]) a37=res:=by rw [← HR.out,exportM];simp [Rs.bind,mtT,declaredM,defaulted_eq,q2,q17,q19,q23,q26,q29,q34,h37]
         have m0:=M0.out _ k38
         obtain ⟨⟨_,_,_,_⟩,_,_,_,_⟩:=t4 m0
         go_wp2
         refine bodyPost_ret (res_n4 Tryz.results21 (t4_set _ _ _ _ m0) rfl) rfl ?_
         exact close_ok (x:=(mk0 62 ⟨#[]⟩ [x37])) h (a0.trans k38) (l38.keepR (KeptR.refl P.R W38) (by omega)) (by omega) r38
       | false =>
        cases q39 : isWd L (a+1) wFunc with
        | true =>
         have D40:=declared_any r25
         rw [show dcK L (a+1)=some 24 by unfold dcK;simp [q29,q34,q39]] at D40
         go_wp2_with fail
         go_at_call 57
         refine D40.mono ?_
         rintro e W40 ⟨rfl,b40'⟩
         have r40:=r25.bel b40'
         have b40:=KeptR.of (b:=P.R) b40'
         have k40:=k25.trans b40
         have z40:=k40.size
         unfold bound
         have eg41:=eg_stmt
         go_wp2_with fail
         go_at_fn 24
         refine (stmt_m hs r40).mono ?_
         rintro e W42 A42
         cases h42 : stmtM L (a+1) with
         | bad p er =>
          rw [h42] at A42
          obtain ⟨rfl,b42⟩:=A42
          obtain rfl : Rs.bad p er=res:=by rw [← HR.out,exportM];simp [Rs.bind,mtT,declaredM,defaulted_eq,q2,q17,q19,q23,q26,q29,q34,q39,h42]
          exact ⟨rfl,rfl,a0.trans (k40.trans b42)⟩
         | ok x42 a42 =>
          rw [h42] at A42
          obtain ⟨ad42,c42,rfl,l42',r42,b42⟩:=A42
          have y42:=r42.le
          have k42:=k40.trans b42
          have z42:=k42.size
          have l42:=l42'.mono (T:=fun b=>w.heap.size+1 ≤ b) (fun b hb=>by have:=k40.size;omega)
          go_wp2_with fail
          go_at_call 42
          refine (node_any 62 ⟨#[]⟩ (some ⟨W42.heap.size,0,none⟩) 1 1 _).mono ?_
          rintro e W43 ⟨rfl,b43'⟩
          have j43 : W43.heap[W42.heap.size]?=_:=(b43'.block _ (by simp)).trans (heap_alloc_new W42 _)
          have r43:=(r42.bel (B0.alloc le0 _)).bel b43'
          have b43 : KeptR P.R W42 W43:=(KeptR.of (B0.alloc le0 _)).trans (.of b43')
          have k43:=k42.trans b43
          have z43:=k43.size
          have l43 : LAt W43 (fun b=>w.heap.size+1 ≤ b) (.slice (some ⟨W42.heap.size,0,none⟩) 1 1) [x42]:=LAt.n1 j43 (by have:=k42.size;show _ ≤ _;omega) (l42.keepR ((KeptR.refl P.R W42).trans b43) (by omega))
          obtain rfl : Rs.ok (mk0 62 ⟨#[]⟩ [x42]) a42=res:=by rw [← HR.out,exportM];simp [Rs.bind,mtT,declaredM,defaulted_eq,q2,q17,q19,q23,q26,q29,q34,q39,h42]
          have m0:=M0.out _ k43
          obtain ⟨⟨_,_,_,_⟩,_,_,_,_⟩:=t4 m0
          go_wp2
          refine bodyPost_ret (res_n4 Tryz.results21 (t4_set _ _ _ _ m0) rfl) rfl ?_
          exact close_ok (x:=(mk0 62 ⟨#[]⟩ [x42])) h (a0.trans k43) (l43.keepR (KeptR.refl P.R W43) (by omega)) (by omega) r43
        | false =>
         cases q44 : isWd L (a+1) wClass with
         | true =>
          have u45:=isWd_lt q44
          have D45:=declared_any r25
          rw [show dcK L (a+1)=some 19 by unfold dcK;simp [q29,q34,q39,q44]] at D45
          go_wp2_with fail
          go_at_call 57
          refine D45.mono ?_
          rintro e W45 ⟨rfl,b45'⟩
          have r45:=r25.bel b45'
          have b45:=KeptR.of (b:=P.R) b45'
          have k45:=k25.trans b45
          have z45:=k45.size
          unfold bound
          have eg46:=eg_class
          go_wp2_with fail
          go_at_fn 19
          refine (class_m hs r45 (by omega)).mono ?_
          rintro e W47 A47
          cases h47 : classM L (a+1) with
          | bad p er =>
           rw [h47] at A47
           obtain ⟨rfl,b47⟩:=A47
           obtain rfl : Rs.bad p er=res:=by rw [← HR.out,exportM];simp [Rs.bind,mtT,declaredM,defaulted_eq,q2,q17,q19,q23,q26,q29,q34,q39,q44,h47]
           exact ⟨rfl,rfl,a0.trans (k45.trans b47)⟩
          | ok x47 a47 =>
           rw [h47] at A47
           obtain ⟨ad47,c47,rfl,l47',r47,b47⟩:=A47
           have y47:=r47.le
           have k47:=k45.trans b47
           have z47:=k47.size
           have l47:=l47'.mono (T:=fun b=>w.heap.size+1 ≤ b) (fun b hb=>by have:=k45.size;omega)
           go_wp2_with fail
           go_at_call 42
           refine (node_any 62 ⟨#[]⟩ (some ⟨W47.heap.size,0,none⟩) 1 1 _).mono ?_
           rintro e W48 ⟨rfl,b48'⟩
           have j48 : W48.heap[W47.heap.size]?=_:=(b48'.block _ (by simp)).trans (heap_alloc_new W47 _)
           have r48:=(r47.bel (B0.alloc le0 _)).bel b48'
           have b48 : KeptR P.R W47 W48:=(KeptR.of (B0.alloc le0 _)).trans (.of b48')
           have k48:=k47.trans b48
           have z48:=k48.size
           have l48 : LAt W48 (fun b=>w.heap.size+1 ≤ b) (.slice (some ⟨W47.heap.size,0,none⟩) 1 1) [x47]:=LAt.n1 j48 (by have:=k47.size;show _ ≤ _;omega) (l47.keepR ((KeptR.refl P.R W47).trans b48) (by omega))
           obtain rfl : Rs.ok (mk0 62 ⟨#[]⟩ [x47]) a47=res:=by rw [← HR.out,exportM];simp [Rs.bind,mtT,declaredM,defaulted_eq,q2,q17,q19,q23,q26,q29,q34,q39,q44,h47]
           have m0:=M0.out _ k48
           obtain ⟨⟨_,_,_,_⟩,_,_,_,_⟩:=t4 m0
           go_wp2
           refine bodyPost_ret (res_n4 Tryz.results21 (t4_set _ _ _ _ m0) rfl) rfl ?_
           exact close_ok (x:=(mk0 62 ⟨#[]⟩ [x47])) h (a0.trans k48) (l48.keepR (KeptR.refl P.R W48) (by omega)) (by omega) r48
         | false =>
          have u49:=isNm_lt q23
          have D49:=declared_any r25
          rw [show dcK L (a+1)=some 23 by unfold dcK;simp [q29,q34,q39,q44,q23]] at D49
          go_wp2_with fail
          go_at_call 57
          refine D49.mono ?_
          rintro e W49 ⟨rfl,b49'⟩
          have r49:=r25.bel b49'
          have b49:=KeptR.of (b:=P.R) b49'
          have k49:=k25.trans b49
          have z49:=k49.size
          unfold bound
          have eg50:=eg_alias
          go_wp2_with fail
          go_at_fn 23
          refine (alias_m hs r49 (by omega)).mono ?_
          rintro e W51 A51
          cases h51 : aliasM L (a+1) with
          | bad p er =>
           rw [h51] at A51
           obtain ⟨rfl,b51⟩:=A51
           obtain rfl : Rs.bad p er=res:=by rw [← HR.out,exportM];simp [Rs.bind,mtT,declaredM,defaulted_eq,q2,q17,q19,q23,q26,q29,q34,q39,q44,h51]
           exact ⟨rfl,rfl,a0.trans (k49.trans b51)⟩
          | ok x51 a51 =>
           rw [h51] at A51
           obtain ⟨ad51,c51,rfl,l51',r51,b51⟩:=A51
           have y51:=r51.le
           have k51:=k49.trans b51
           have z51:=k51.size
           have l51:=l51'.mono (T:=fun b=>w.heap.size+1 ≤ b) (fun b hb=>by have:=k49.size;omega)
           go_wp2_with fail
           go_at_call 42
           refine (node_any 62 ⟨#[]⟩ (some ⟨W51.heap.size,0,none⟩) 1 1 _).mono ?_
           rintro e W52 ⟨rfl,b52'⟩
           have j52 : W52.heap[W51.heap.size]?=_:=(b52'.block _ (by simp)).trans (heap_alloc_new W51 _)
           have r52:=(r51.bel (B0.alloc le0 _)).bel b52'
           have b52 : KeptR P.R W51 W52:=(KeptR.of (B0.alloc le0 _)).trans (.of b52')
           have k52:=k51.trans b52
           have z52:=k52.size
           have l52 : LAt W52 (fun b=>w.heap.size+1 ≤ b) (.slice (some ⟨W51.heap.size,0,none⟩) 1 1) [x51]:=LAt.n1 j52 (by have:=k51.size;show _ ≤ _;omega) (l51.keepR ((KeptR.refl P.R W51).trans b52) (by omega))
           obtain rfl : Rs.ok (mk0 62 ⟨#[]⟩ [x51]) a51=res:=by rw [← HR.out,exportM];simp [Rs.bind,mtT,declaredM,defaulted_eq,q2,q17,q19,q23,q26,q29,q34,q39,q44,h51]
           have m0:=M0.out _ k52
           obtain ⟨⟨_,_,_,_⟩,_,_,_,_⟩:=t4 m0
           go_wp2
           refine bodyPost_ret (res_n4 Tryz.results21 (t4_set _ _ _ _ m0) rfl) rfl ?_
           exact close_ok (x:=(mk0 62 ⟨#[]⟩ [x51])) h (a0.trans k52) (l52.keepR (KeptR.refl P.R W52) (by omega)) (by omega) r52
    | false =>
     rw [q23] at TN21
     go_wp2_with fail
     go_at_call 54
     refine (TN21 _).mono ?_
     rintro e W22 ⟨rfl,b22'⟩
     have r22:=r21.bel b22'
     have b22:=KeptR.of (b:=P.R) b22'
     have k22:=k21.trans b22
     have z22:=k22.size
     cases q53 : isWd L (a+1) wLet with
     | true =>
      have D54:=declared_any r22
      rw [show dcK L (a+1)=some 24 by unfold dcK;simp [q53]] at D54
      go_wp2_with fail
      go_at_call 57
      refine D54.mono ?_
      rintro e W54 ⟨rfl,b54'⟩
      have r54:=r22.bel b54'
      have b54:=KeptR.of (b:=P.R) b54'
      have k54:=k22.trans b54
      have z54:=k54.size
      unfold bound
      have eg55:=eg_stmt
      go_wp2_with fail
      go_at_fn 24
      refine (stmt_m hs r54).mono ?_
      rintro e W56 A56
      cases h56 : stmtM L (a+1) with
      | bad p er =>
       rw [h56] at A56
       obtain ⟨rfl,b56⟩:=A56
       obtain rfl : Rs.bad p er=res:=by rw [← HR.out,exportM];simp [Rs.bind,mtT,declaredM,defaulted_eq,q2,q17,q19,q23,q53,h56]
       exact ⟨rfl,rfl,a0.trans (k54.trans b56)⟩
      | ok x56 a56 =>
       rw [h56] at A56
       obtain ⟨ad56,c56,rfl,l56',r56,b56⟩:=A56
       have y56:=r56.le
       have k56:=k54.trans b56
       have z56:=k56.size
       have l56:=l56'.mono (T:=fun b=>w.heap.size+1 ≤ b) (fun b hb=>by have:=k54.size;omega)
       go_wp2_with fail
       go_at_call 42
       refine (node_any 62 ⟨#[]⟩ (some ⟨W56.heap.size,0,none⟩) 1 1 _).mono ?_
       rintro e W57 ⟨rfl,b57'⟩
       have j57 : W57.heap[W56.heap.size]?=_:=(b57'.block _ (by simp)).trans (heap_alloc_new W56 _)
       have r57:=(r56.bel (B0.alloc le0 _)).bel b57'
       have b57 : KeptR P.R W56 W57:=(KeptR.of (B0.alloc le0 _)).trans (.of b57')
       have k57:=k56.trans b57
       have z57:=k57.size
       have l57 : LAt W57 (fun b=>w.heap.size+1 ≤ b) (.slice (some ⟨W56.heap.size,0,none⟩) 1 1) [x56]:=LAt.n1 j57 (by have:=k56.size;show _ ≤ _;omega) (l56.keepR ((KeptR.refl P.R W56).trans b57) (by omega))
       obtain rfl : Rs.ok (mk0 62 ⟨#[]⟩ [x56]) a56=res:=by rw [← HR.out,exportM];simp [Rs.bind,mtT,declaredM,defaulted_eq,q2,q17,q19,q23,q53,h56]
       have m0:=M0.out _ k57
       obtain ⟨⟨_,_,_,_⟩,_,_,_,_⟩:=t4 m0
       go_wp2
       refine bodyPost_ret (res_n4 Tryz.results21 (t4_set _ _ _ _ m0) rfl) rfl ?_
       exact close_ok (x:=(mk0 62 ⟨#[]⟩ [x56])) h (a0.trans k57) (l57.keepR (KeptR.refl P.R W57) (by omega)) (by omega) r57
     | false =>
      cases q58 : isWd L (a+1) wConst with
      | true =>
       have D59:=declared_any r22
       rw [show dcK L (a+1)=some 24 by unfold dcK;simp [q53,q58]] at D59
       go_wp2_with fail
       go_at_call 57
       refine D59.mono ?_
       rintro e W59 ⟨rfl,b59'⟩
       have r59:=r22.bel b59'
       have b59:=KeptR.of (b:=P.R) b59'
       have k59:=k22.trans b59
       have z59:=k59.size
       unfold bound
       have eg60:=eg_stmt
       go_wp2_with fail
       go_at_fn 24
       refine (stmt_m hs r59).mono ?_
       rintro e W61 A61
       cases h61 : stmtM L (a+1) with
       | bad p er =>
        rw [h61] at A61
        obtain ⟨rfl,b61⟩:=A61
        obtain rfl : Rs.bad p er=res:=by rw [← HR.out,exportM];simp [Rs.bind,mtT,declaredM,defaulted_eq,q2,q17,q19,q23,q53,q58,h61]
        exact ⟨rfl,rfl,a0.trans (k59.trans b61)⟩
       | ok x61 a61 =>
        rw [h61] at A61
        obtain ⟨ad61,c61,rfl,l61',r61,b61⟩:=A61
        have y61:=r61.le
        have k61:=k59.trans b61
        have z61:=k61.size
        have l61:=l61'.mono (T:=fun b=>w.heap.size+1 ≤ b) (fun b hb=>by have:=k59.size;omega)
        go_wp2_with fail
        go_at_call 42
        refine (node_any 62 ⟨#[]⟩ (some ⟨W61.heap.size,0,none⟩) 1 1 _).mono ?_
        rintro e W62 ⟨rfl,b62'⟩
        have j62 : W62.heap[W61.heap.size]?=_:=(b62'.block _ (by simp)).trans (heap_alloc_new W61 _)
        have r62:=(r61.bel (B0.alloc le0 _)).bel b62'
        have b62 : KeptR P.R W61 W62:=(KeptR.of (B0.alloc le0 _)).trans (.of b62')
        have k62:=k61.trans b62
        have z62:=k62.size
        have l62 : LAt W62 (fun b=>w.heap.size+1 ≤ b) (.slice (some ⟨W61.heap.size,0,none⟩) 1 1) [x61]:=LAt.n1 j62 (by have:=k61.size;show _ ≤ _;omega) (l61.keepR ((KeptR.refl P.R W61).trans b62) (by omega))
        obtain rfl : Rs.ok (mk0 62 ⟨#[]⟩ [x61]) a61=res:=by rw [← HR.out,exportM];simp [Rs.bind,mtT,declaredM,defaulted_eq,q2,q17,q19,q23,q53,q58,h61]
        have m0:=M0.out _ k62
        obtain ⟨⟨_,_,_,_⟩,_,_,_,_⟩:=t4 m0
        go_wp2
        refine bodyPost_ret (res_n4 Tryz.results21 (t4_set _ _ _ _ m0) rfl) rfl ?_
        exact close_ok (x:=(mk0 62 ⟨#[]⟩ [x61])) h (a0.trans k62) (l62.keepR (KeptR.refl P.R W62) (by omega)) (by omega) r62
      | false =>
       cases q63 : isWd L (a+1) wFunc with
       | true =>
        have D64:=declared_any r22
        rw [show dcK L (a+1)=some 24 by unfold dcK;simp [q53,q58,q63]] at D64
        go_wp2_with fail
        go_at_call 57
        refine D64.mono ?_
        rintro e W64 ⟨rfl,b64'⟩
        have r64:=r22.bel b64'
        have b64:=KeptR.of (b:=P.R) b64'
        have k64:=k22.trans b64
        have z64:=k64.size
        unfold bound
        have eg65:=eg_stmt
        go_wp2_with fail
        go_at_fn 24
        refine (stmt_m hs r64).mono ?_
        rintro e W66 A66
        cases h66 : stmtM L (a+1) with
        | bad p er =>
         rw [h66] at A66
         obtain ⟨rfl,b66⟩:=A66
         obtain rfl : Rs.bad p er=res:=by rw [← HR.out,exportM];simp [Rs.bind,mtT,declaredM,defaulted_eq,q2,q17,q19,q23,q53,q58,q63,h66]
         exact ⟨rfl,rfl,a0.trans (k64.trans b66)⟩
        | ok x66 a66 =>
         rw [h66] at A66
         obtain ⟨ad66,c66,rfl,l66',r66,b66⟩:=A66
         have y66:=r66.le
         have k66:=k64.trans b66
         have z66:=k66.size
         have l66:=l66'.mono (T:=fun b=>w.heap.size+1 ≤ b) (fun b hb=>by have:=k64.size;omega)
         go_wp2_with fail
         go_at_call 42
         refine (node_any 62 ⟨#[]⟩ (some ⟨W66.heap.size,0,none⟩) 1 1 _).mono ?_
         rintro e W67 ⟨rfl,b67'⟩
         have j67 : W67.heap[W66.heap.size]?=_:=(b67'.block _ (by simp)).trans (heap_alloc_new W66 _)
         have r67:=(r66.bel (B0.alloc le0 _)).bel b67'
         have b67 : KeptR P.R W66 W67:=(KeptR.of (B0.alloc le0 _)).trans (.of b67')
         have k67:=k66.trans b67
         have z67:=k67.size
         have l67 : LAt W67 (fun b=>w.heap.size+1 ≤ b) (.slice (some ⟨W66.heap.size,0,none⟩) 1 1) [x66]:=LAt.n1 j67 (by have:=k66.size;show _ ≤ _;omega) (l66.keepR ((KeptR.refl P.R W66).trans b67) (by omega))
         obtain rfl : Rs.ok (mk0 62 ⟨#[]⟩ [x66]) a66=res:=by rw [← HR.out,exportM];simp [Rs.bind,mtT,declaredM,defaulted_eq,q2,q17,q19,q23,q53,q58,q63,h66]
         have m0:=M0.out _ k67
         obtain ⟨⟨_,_,_,_⟩,_,_,_,_⟩:=t4 m0
         go_wp2
         refine bodyPost_ret (res_n4 Tryz.results21 (t4_set _ _ _ _ m0) rfl) rfl ?_
         exact close_ok (x:=(mk0 62 ⟨#[]⟩ [x66])) h (a0.trans k67) (l67.keepR (KeptR.refl P.R W67) (by omega)) (by omega) r67
       | false =>
        cases q68 : isWd L (a+1) wClass with
        | true =>
         have u69:=isWd_lt q68
         have D69:=declared_any r22
         rw [show dcK L (a+1)=some 19 by unfold dcK;simp [q53,q58,q63,q68]] at D69
         go_wp2_with fail
         go_at_call 57
         refine D69.mono ?_
         rintro e W69 ⟨rfl,b69'⟩
         have r69:=r22.bel b69'
         have b69:=KeptR.of (b:=P.R) b69'
         have k69:=k22.trans b69
         have z69:=k69.size
         unfold bound
         have eg70:=eg_class
         go_wp2_with fail
         go_at_fn 19
         refine (class_m hs r69 (by omega)).mono ?_
         rintro e W71 A71
         cases h71 : classM L (a+1) with
         | bad p er =>
          rw [h71] at A71
          obtain ⟨rfl,b71⟩:=A71
          obtain rfl : Rs.bad p er=res:=by rw [← HR.out,exportM];simp [Rs.bind,mtT,declaredM,defaulted_eq,q2,q17,q19,q23,q53,q58,q63,q68,h71]
          exact ⟨rfl,rfl,a0.trans (k69.trans b71)⟩
         | ok x71 a71 =>
          rw [h71] at A71
          obtain ⟨ad71,c71,rfl,l71',r71,b71⟩:=A71
          have y71:=r71.le
          have k71:=k69.trans b71
          have z71:=k71.size
          have l71:=l71'.mono (T:=fun b=>w.heap.size+1 ≤ b) (fun b hb=>by have:=k69.size;omega)
          go_wp2_with fail
          go_at_call 42
          refine (node_any 62 ⟨#[]⟩ (some ⟨W71.heap.size,0,none⟩) 1 1 _).mono ?_
          rintro e W72 ⟨rfl,b72'⟩
          have j72 : W72.heap[W71.heap.size]?=_:=(b72'.block _ (by simp)).trans (heap_alloc_new W71 _)
          have r72:=(r71.bel (B0.alloc le0 _)).bel b72'
          have b72 : KeptR P.R W71 W72:=(KeptR.of (B0.alloc le0 _)).trans (.of b72')
          have k72:=k71.trans b72
          have z72:=k72.size
          have l72 : LAt W72 (fun b=>w.heap.size+1 ≤ b) (.slice (some ⟨W71.heap.size,0,none⟩) 1 1) [x71]:=LAt.n1 j72 (by have:=k71.size;show _ ≤ _;omega) (l71.keepR ((KeptR.refl P.R W71).trans b72) (by omega))
          obtain rfl : Rs.ok (mk0 62 ⟨#[]⟩ [x71]) a71=res:=by rw [← HR.out,exportM];simp [Rs.bind,mtT,declaredM,defaulted_eq,q2,q17,q19,q23,q53,q58,q63,q68,h71]
          have m0:=M0.out _ k72
          obtain ⟨⟨_,_,_,_⟩,_,_,_,_⟩:=t4 m0
          go_wp2
          refine bodyPost_ret (res_n4 Tryz.results21 (t4_set _ _ _ _ m0) rfl) rfl ?_
          exact close_ok (x:=(mk0 62 ⟨#[]⟩ [x71])) h (a0.trans k72) (l72.keepR (KeptR.refl P.R W72) (by omega)) (by omega) r72
        | false =>
         have D73:=declared_any r22
         rw [show dcK L (a+1)=none by unfold dcK;simp [q53,q58,q63,q68,q23]] at D73
         go_wp2_with fail
         go_at_call 57
         refine D73.mono ?_
         rintro e W73 ⟨rfl,b73⟩
         obtain rfl : Rs.bad (a+1) 60=res:=by rw [← HR.out,exportM];simp [Rs.bind,mtT,declaredM,defaulted_eq,q2,q17,q19,q23,q53,q58,q63,q68]
         exact ⟨rfl,rfl,a0.trans (k22.trans b73)⟩
end Go.Proofs.YthfkfbcopinmiaaGreatDoor
