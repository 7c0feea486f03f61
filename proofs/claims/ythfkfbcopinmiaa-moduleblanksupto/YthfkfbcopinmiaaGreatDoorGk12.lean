/- Own text. Package parse: the rules,one by one: conditions,statements opened and closed,types or nothing. Package parse: the rules,one by one: else,bodies of arrows,blocks,properties. -/
import Derived.Test.YthfkfbcopinmiaaGreatDoorGk06
set_option linter.unusedVariables false
set_option linter.unusedSimpArgs false
set_option maxRecDepth 100000
set_option maxHeartbeats 8000000
namespace Go.Proofs.YthfkfbcopinmiaaGreatDoor
open Go.RowKit
theorem beginR_ok {L : List Tok} {a o b : Nat} {u : Unit} (h : beginR L a o = .ok u b) : a=b∧a < L.length∧o < 400:=by
 unfold beginR at h
 split at h
 ·cases h
 ·split at h
  ·cases h
  ·cases h;omega
theorem condi_step (L : List Tok) (hs : Small L) (f : Nat) (MN : Mono L f) (hE : CN 126 L f 20 (exprF L f)) : CN 131 L (f+1) 21 (condiF L (f+1)):=by
 intro w P a o h ho hM
 have hRw:=h.lt
 have hle:=h.le
 obtain ⟨h0,a0,z0,M0⟩:=begin_cell h
 obtain ⟨res,hres⟩ : ∃ r,condiF L (f+1) a o=r:=⟨_,rfl⟩
 have HR : Hid (condiF L (f+1) a o=res):=hres
 rw [hres]
 clear hres
 have HE' : Hid (CN 126 L f 20 (exprF L f)):=hE
 clear hE
 go_enter Tryz.func131,Tryz.ntmps131
 go_wp2_with fail
 go_at_call 39
 refine (want_any h0 sPo).mono ?_
 rintro e W1 A1
 cases h1 : wantR L sPo a with
 | bad p er =>
  rw [h1] at A1
  obtain ⟨rfl,b1⟩:=A1
  obtain rfl : Rs.bad p er=res:=by rw [← HR.out,condiF];simp [Rs.bind,mtT,h1]
  exact ⟨rfl,rfl,a0.trans ((KeptR.refl P.R (w.alloc zN)).trans b1)⟩
 | ok x1 a1 =>
  rw [h1] at A1
  obtain ⟨rfl,r1,b1⟩:=A1
  have g1:=(want_ge L sPo a) _ _ h1
  have y1:=r1.le
  have k1:=(KeptR.refl P.R (w.alloc zN)).trans b1
  have z1:=k1.size
  go_wp2_with fail
  go_at_call 126
  refine (HE'.out _ _ _ _ r1 (by omega) (by unfold Ms at *;omega)).mono ?_
  rintro e W2 A2
  cases h2 : exprF L f a1 o with
  | bad p er =>
   rw [h2] at A2
   obtain ⟨rfl,b2⟩:=A2
   obtain rfl : Rs.bad p er=res:=by rw [← HR.out,condiF];simp [Rs.bind,mtT,h1,h2]
   exact ⟨rfl,rfl,a0.trans (k1.trans b2)⟩
  | ok x2 a2 =>
   rw [h2] at A2
   obtain ⟨ad2,c2,rfl,l2',r2,b2⟩:=A2
   have g2:=(MN.expr' a1 o) _ _ h2
   have y2:=r2.le
   have k2:=k1.trans b2
   have z2:=k2.size
   have l2:=l2'.mono (T:=fun b=>w.heap.size+1 ≤ b) (fun b hb=>by have:=k1.size;omega)
   go_wp2_with fail
   go_at_call 39
   refine (want_any (r2.bel (B0.alloc le0 _)) sPc).mono ?_
   rintro e W4 A4
   cases h4 : wantR L sPc a2 with
   | bad p er =>
    rw [h4] at A4
    obtain ⟨rfl,b4⟩:=A4
    obtain rfl : Rs.bad p er=res:=by rw [← HR.out,condiF];simp [Rs.bind,mtT,h1,h2,h4]
    exact ⟨rfl,rfl,a0.trans ((k2.alloc _).trans b4)⟩
   | ok x4 a4 =>
    rw [h4] at A4
    obtain ⟨rfl,r4,b4⟩:=A4
    have g4:=(want_ge L sPc a2) _ _ h4
    have y4:=r4.le
    have k4:=(k2.alloc (Obj.cells #[.int .i64 x2.k,.string x2.t,.int .i64 x2.n,.slice ad2 x2.ks.length c2] 24)).trans b4
    have z4:=k4.size
    have v3 : W4.heap[W2.heap.size]?=_:=(((KeptR.refl P.R _).trans b4).block (W2.heap.size) (by simp) (by have:=k2.size;omega)).trans (heap_alloc_new W2 _)
    obtain ⟨⟨_,_,_,_⟩,_,_,_,_⟩:=t4 v3
    obtain rfl : Rs.ok x2 a4=res:=by rw [← HR.out,condiF];simp [Rs.bind,mtT,h1,h2,h4]
    have m0:=M0.out _ k4
    obtain ⟨⟨_,_,_,_⟩,_,_,_,_⟩:=t4 m0
    go_wp2
    refine bodyPost_ret (res_n4 Tryz.results131 (t4_set _ _ _ _ m0) rfl) rfl ?_
    exact close_ok (x:=x2) h (a0.trans k4) (l2.keepR (((KeptR.refl P.R W2).alloc _).trans b4) (by omega)) (by omega) r4
theorem stmt_step (L : List Tok) (hs : Small L) (f : Nat) (MN : Mono L f) (hAny : CN 115 L f 22 (anyF L f)) : CN 95 L (f+1) 20 (stmtF L (f+1)):=by
 intro w P a o h ho hM
 have hRw:=h.lt
 have hle:=h.le
 obtain ⟨h0,a0,z0,M0⟩:=begin_cell h
 obtain ⟨res,hres⟩ : ∃ r,stmtF L (f+1) a o=r:=⟨_,rfl⟩
 have HR : Hid (stmtF L (f+1) a o=res):=hres
 rw [hres]
 clear hres
 have HANY' : Hid (CN 115 L f 22 (anyF L f)):=hAny
 clear hAny
 go_enter Tryz.func95,Tryz.ntmps95
 go_wp2_with fail
 go_at_call 112
 refine (begin_any h0 (by omega)).mono ?_
 rintro e W5 A5
 cases h5 : beginR L a o with
 | bad p er =>
  rw [h5] at A5
  obtain ⟨rfl,b5⟩:=A5
  obtain rfl : Rs.bad p er=res:=by rw [← HR.out,stmtF];simp [Rs.bind,mtT,h5]
  exact ⟨rfl,rfl,a0.trans ((KeptR.refl P.R (w.alloc zN)).trans b5)⟩
 | ok x5 a5 =>
  rw [h5] at A5
  obtain ⟨rfl,r5,b5⟩:=A5
  have y5:=r5.le
  have k5:=(KeptR.refl P.R (w.alloc zN)).trans b5
  have z5:=k5.size
  obtain ⟨rfl,e1,e2⟩:=beginR_ok h5
  go_wp2_with fail
  go_at_call 115
  refine (HANY'.out _ _ _ _ r5 (by omega) (by unfold Ms at *;omega)).mono ?_
  rintro e W6 A6
  cases h6 : anyF L f a (o+1) with
  | bad p er =>
   rw [h6] at A6
   obtain ⟨rfl,b6⟩:=A6
   obtain rfl : Rs.bad p er=res:=by rw [← HR.out,stmtF];simp [Rs.bind,mtT,h5,h6]
   exact ⟨rfl,rfl,a0.trans (k5.trans b6)⟩
  | ok x6 a6 =>
   rw [h6] at A6
   obtain ⟨ad6,c6,rfl,l6',r6,b6⟩:=A6
   have g6:=(MN.any' a (o+1)) _ _ h6
   have y6:=r6.le
   have k6:=k5.trans b6
   have z6:=k6.size
   have l6:=l6'.mono (T:=fun b=>w.heap.size+1 ≤ b) (fun b hb=>by have:=k5.size;omega)
   go_wp2_with fail
   go_at_call 114
   refine (end_any (r6.bel (B0.alloc le0 _)) (by omega)).mono ?_
   rintro e W8 ⟨rfl,r8,b8⟩
   have k8:=(k6.alloc (Obj.cells #[.int .i64 x6.k,.string x6.t,.int .i64 x6.n,.slice ad6 x6.ks.length c6] 24)).trans b8
   have z8:=k8.size
   have v7 : W8.heap[W6.heap.size]?=_:=(((KeptR.refl P.R _).trans b8).block (W6.heap.size) (by simp) (by have:=k6.size;omega)).trans (heap_alloc_new W6 _)
   obtain ⟨⟨_,_,_,_⟩,_,_,_,_⟩:=t4 v7
   obtain rfl : Rs.ok x6 a6=res:=by rw [← HR.out,stmtF];simp [Rs.bind,mtT,h5,h6]
   have m0:=M0.out _ k8
   obtain ⟨⟨_,_,_,_⟩,_,_,_,_⟩:=t4 m0
   go_wp2
   refine bodyPost_ret (res_n4 Tryz.results95 (t4_set _ _ _ _ m0) rfl) rfl ?_
   exact close_ok (x:=x6) h (a0.trans k8) (l6.keepR (((KeptR.refl P.R W6).alloc _).trans b8) (by omega)) (by omega) r8
theorem typing_step (L : List Tok) (hs : Small L) (f : Nat) (MN : Mono L f) (hT : CN 94 L f 20 (typeF L f)) : CN 147 L (f+1) 18 (typingF L (f+1)):=by
 intro w P a o h ho hM
 have hRw:=h.lt
 have hle:=h.le
 obtain ⟨h0,a0,z0,M0⟩:=begin_cell h
 obtain ⟨res,hres⟩ : ∃ r,typingF L (f+1) a o=r:=⟨_,rfl⟩
 have HR : Hid (typingF L (f+1) a o=res):=hres
 rw [hres]
 clear hres
 have HT' : Hid (CN 94 L f 20 (typeF L f)):=hT
 clear hT
 go_enter Tryz.func147,Tryz.ntmps147
 go_wp2_with fail
 go_at_call 39
 refine (want_any h0 sCo).mono ?_
 rintro e W9 A9
 cases h9 : wantR L sCo a with
 | bad p er =>
  rw [h9] at A9
  obtain ⟨rfl,b9⟩:=A9
  obtain rfl : Rs.bad p er=res:=by rw [← HR.out,typingF];simp [Rs.bind,mtT,h9]
  exact ⟨rfl,rfl,a0.trans ((KeptR.refl P.R (w.alloc zN)).trans b9)⟩
 | ok x9 a9 =>
  rw [h9] at A9
  obtain ⟨rfl,r9,b9⟩:=A9
  have g9:=(want_ge L sCo a) _ _ h9
  have y9:=r9.le
  have k9:=(KeptR.refl P.R (w.alloc zN)).trans b9
  have z9:=k9.size
  go_wp2_with fail
  go_at_call 94
  refine (HT'.out _ _ _ _ r9 (by omega) (by unfold Ms at *;omega)).mono ?_
  rintro e W10 A10
  cases h10 : typeF L f a9 o with
  | bad p er =>
   rw [h10] at A10
   obtain ⟨rfl,b10⟩:=A10
   obtain rfl : Rs.bad p er=res:=by rw [← HR.out,typingF];simp [Rs.bind,mtT,h9,h10]
   exact ⟨rfl,rfl,a0.trans (k9.trans b10)⟩
  | ok x10 a10 =>
   rw [h10] at A10
   obtain ⟨ad10,c10,rfl,l10',r10,b10⟩:=A10
   have g10:=(MN.type' a9 o) _ _ h10
   have y10:=r10.le
   have k10:=k9.trans b10
   have z10:=k10.size
   have l10:=l10'.mono (T:=fun b=>w.heap.size+1 ≤ b) (fun b hb=>by have:=k9.size;omega)
   obtain rfl : Rs.ok x10 a10=res:=by rw [← HR.out,typingF];simp [Rs.bind,mtT,h9,h10]
   have m0:=M0.out _ k10
   obtain ⟨⟨_,_,_,_⟩,_,_,_,_⟩:=t4 m0
   go_wp2
   refine bodyPost_ret (res_n4 Tryz.results147 (t4_set _ _ _ _ m0) rfl) rfl ?_
   exact close_ok (x:=x10) h (a0.trans k10) (l10.keepR (KeptR.refl P.R W10) (by omega)) (by omega) r10
theorem typeOr_step (L : List Tok) (hs : Small L) (f : Nat) (MN : Mono L f) (hTy : CN 147 L f 18 (typingF L f)) : CN 129 L (f+1) 19 (typeOrF L (f+1)):=by
 intro w P a o h ho hM
 have hRw:=h.lt
 have hle:=h.le
 obtain ⟨h0,a0,z0,M0⟩:=begin_cell h
 obtain ⟨res,hres⟩ : ∃ r,typeOrF L (f+1) a o=r:=⟨_,rfl⟩
 have HR : Hid (typeOrF L (f+1) a o=res):=hres
 rw [hres]
 clear hres
 have HTY' : Hid (CN 147 L f 18 (typingF L f)):=hTy
 clear hTy
 go_enter Tryz.func129,Tryz.ntmps129
 cases q11 : isS L a sCo with
 | true =>
  have T11:=stands_any h0 sCo
  rw [q11] at T11
  have u11:=isS_lt q11
  go_wp2_with fail
  go_at_call 51
  refine T11.mono ?_
  rintro e W11 ⟨rfl,b11'⟩
  have r11:=h0.bel b11'
  have b11:=KeptR.of (b:=P.R) b11'
  have k11:=(KeptR.refl P.R (w.alloc zN)).trans b11
  have z11:=k11.size
  have y11:=r11.le
  go_wp2_with fail
  go_at_call 147
  refine (HTY'.out _ _ _ _ r11 (by omega) (by unfold Ms at *;omega)).mono ?_
  rintro e W12 A12
  cases h12 : typingF L f a o with
  | bad p er =>
   rw [h12] at A12
   obtain ⟨rfl,b12⟩:=A12
   obtain rfl : Rs.bad p er=res:=by rw [← HR.out,typeOrF];simp [Rs.bind,mtT,q11,h12]
   exact ⟨rfl,rfl,a0.trans (k11.trans b12)⟩
  | ok x12 a12 =>
   rw [h12] at A12
   obtain ⟨ad12,c12,rfl,l12',r12,b12⟩:=A12
   have g12:=(MN.typing' a o) _ _ h12
   have y12:=r12.le
   have k12:=k11.trans b12
   have z12:=k12.size
   have l12:=l12'.mono (T:=fun b=>w.heap.size+1 ≤ b) (fun b hb=>by have:=k11.size;omega)
   obtain rfl : Rs.ok x12 a12=res:=by rw [← HR.out,typeOrF];simp [Rs.bind,mtT,q11,h12]
   have m0:=M0.out _ k12
   obtain ⟨⟨_,_,_,_⟩,_,_,_,_⟩:=t4 m0
   go_wp2
   refine bodyPost_ret (res_n4 Tryz.results129 (t4_set _ _ _ _ m0) rfl) rfl ?_
   exact close_ok (x:=x12) h (a0.trans k12) (l12.keepR (KeptR.refl P.R W12) (by omega)) (by omega) r12
 | false =>
  have T11:=stands_any h0 sCo
  rw [q11] at T11
  go_wp2_with fail
  go_at_call 51
  refine T11.mono ?_
  rintro e W11 ⟨rfl,b11'⟩
  have r11:=h0.bel b11'
  have b11:=KeptR.of (b:=P.R) b11'
  have k11:=(KeptR.refl P.R (w.alloc zN)).trans b11
  have z11:=k11.size
  have y11:=r11.le
  go_wp2_with fail
  go_at_call 42
  refine (node_any 14 ⟨#[]⟩ none 0 0 _).mono ?_
  rintro e W14 ⟨rfl,b14'⟩
  have r14:=r11.bel b14'
  have b14:=KeptR.of (b:=P.R) b14'
  have k14:=k11.trans b14
  have z14:=k14.size
  obtain rfl : Rs.ok noneN a=res:=by rw [← HR.out,typeOrF];simp [Rs.bind,mtT,q11]
  have m0:=M0.out _ k14
  obtain ⟨⟨_,_,_,_⟩,_,_,_,_⟩:=t4 m0
  go_wp2
  refine bodyPost_ret (res_n4 Tryz.results129 (t4_set _ _ _ _ m0) rfl) rfl ?_
  exact close_ok (x:=noneN) h (a0.trans k14) (LAt.nil (S:=fun b=>w.heap.size+1 ≤ b) none 0) (by omega) r14
theorem exprOr_step (L : List Tok) (hs : Small L) (f : Nat) (MN : Mono L f) (hE : CN 126 L f 20 (exprF L f)) : CN 134 L (f+1) 21 (exprOrF L (f+1)):=by
 intro w P a o h ho hM
 have hRw:=h.lt
 have hle:=h.le
 obtain ⟨h0,a0,z0,M0⟩:=begin_cell h
 obtain ⟨res,hres⟩ : ∃ r,exprOrF L (f+1) a o=r:=⟨_,rfl⟩
 have HR : Hid (exprOrF L (f+1) a o=res):=hres
 rw [hres]
 clear hres
 have HE' : Hid (CN 126 L f 20 (exprF L f)):=hE
 clear hE
 go_enter Tryz.func134,Tryz.ntmps134
 cases q15 : isS L a sSe with
 | true =>
  have T15:=stands_any h0 sSe
  rw [q15] at T15
  have u15:=isS_lt q15
  go_wp2_with fail
  go_at_call 51
  refine T15.mono ?_
  rintro e W15 ⟨rfl,b15'⟩
  have r15:=h0.bel b15'
  have b15:=KeptR.of (b:=P.R) b15'
  have k15:=(KeptR.refl P.R (w.alloc zN)).trans b15
  have z15:=k15.size
  have y15:=r15.le
  go_wp2_with fail
  go_at_call 42
  refine (node_any 14 ⟨#[]⟩ none 0 0 _).mono ?_
  rintro e W17 ⟨rfl,b17'⟩
  have r17:=r15.bel b17'
  have b17:=KeptR.of (b:=P.R) b17'
  have k17:=k15.trans b17
  have z17:=k17.size
  obtain rfl : Rs.ok noneN a=res:=by rw [← HR.out,exprOrF];simp [Rs.bind,mtT,q15]
  have m0:=M0.out _ k17
  obtain ⟨⟨_,_,_,_⟩,_,_,_,_⟩:=t4 m0
  go_wp2
  refine bodyPost_ret (res_n4 Tryz.results134 (t4_set _ _ _ _ m0) rfl) rfl ?_
  exact close_ok (x:=noneN) h (a0.trans k17) (LAt.nil (S:=fun b=>w.heap.size+1 ≤ b) none 0) (by omega) r17
 | false =>
  have T15:=stands_any h0 sSe
  rw [q15] at T15
  go_wp2_with fail
  go_at_call 51
  refine T15.mono ?_
  rintro e W15 ⟨rfl,b15'⟩
  have r15:=h0.bel b15'
  have b15:=KeptR.of (b:=P.R) b15'
  have k15:=(KeptR.refl P.R (w.alloc zN)).trans b15
  have z15:=k15.size
  have y15:=r15.le
  go_wp2_with fail
  go_at_call 126
  refine (HE'.out _ _ _ _ r15 (by omega) (by unfold Ms at *;omega)).mono ?_
  rintro e W18 A18
  cases h18 : exprF L f a o with
  | bad p er =>
   rw [h18] at A18
   obtain ⟨rfl,b18⟩:=A18
   obtain rfl : Rs.bad p er=res:=by rw [← HR.out,exprOrF];simp [Rs.bind,mtT,q15,h18]
   exact ⟨rfl,rfl,a0.trans (k15.trans b18)⟩
  | ok x18 a18 =>
   rw [h18] at A18
   obtain ⟨ad18,c18,rfl,l18',r18,b18⟩:=A18
   have g18:=(MN.expr' a o) _ _ h18
   have y18:=r18.le
   have k18:=k15.trans b18
   have z18:=k18.size
   have l18:=l18'.mono (T:=fun b=>w.heap.size+1 ≤ b) (fun b hb=>by have:=k15.size;omega)
   obtain rfl : Rs.ok x18 a18=res:=by rw [← HR.out,exprOrF];simp [Rs.bind,mtT,q15,h18]
   have m0:=M0.out _ k18
   obtain ⟨⟨_,_,_,_⟩,_,_,_,_⟩:=t4 m0
   go_wp2
   refine bodyPost_ret (res_n4 Tryz.results134 (t4_set _ _ _ _ m0) rfl) rfl ?_
   exact close_ok (x:=x18) h (a0.trans k18) (l18.keepR (KeptR.refl P.R W18) (by omega)) (by omega) r18
theorem else_step (L : List Tok) (hs : Small L) (f : Nat) (MN : Mono L f) (hS : CN 95 L f 20 (stmtF L f)) (hB : CN 130 L f 19 (blkF L f)) : CN 132 L (f+1) 19 (elseF L (f+1)):=by
 intro w P a o h ho hM
 have hRw:=h.lt
 have hle:=h.le
 obtain ⟨h0,a0,z0,M0⟩:=begin_cell h
 obtain ⟨res,hres⟩ : ∃ r,elseF L (f+1) a o=r:=⟨_,rfl⟩
 have HR : Hid (elseF L (f+1) a o=res):=hres
 rw [hres]
 clear hres
 have HS' : Hid (CN 95 L f 20 (stmtF L f)):=hS
 have HB' : Hid (CN 130 L f 19 (blkF L f)):=hB
 clear hS
 clear hB
 go_enter Tryz.func132,Tryz.ntmps132
 cases q1 : isWd L a wElse with
 | true =>
  have T1:=takeWord_any h0 wElse
  rw [q1] at T1
  have u1:=isWd_lt q1
  go_wp2_with fail
  go_at_call 49
  refine T1.mono ?_
  rintro e W1 ⟨rfl,r1',b1⟩
  have r1 : Rd W1 P L (a+1) (opE o):=r1'
  clear r1'
  have k1:=(KeptR.refl P.R (w.alloc zN)).trans b1
  have z1:=k1.size
  have y1:=r1.le
  cases q2 : isWd L (a+1) wIf with
  | true =>
   have T2:=standsWord_any r1 wIf
   rw [q2] at T2
   have u2:=isWd_lt q2
   go_wp2_with fail
   go_at_call 18
   refine T2.mono ?_
   rintro e W2 ⟨rfl,b2'⟩
   have r2:=r1.bel b2'
   have b2:=KeptR.of (b:=P.R) b2'
   have k2:=k1.trans b2
   have z2:=k2.size
   have y2:=r2.le
   go_wp2_with fail
   go_at_call 95
   refine (HS'.out _ _ _ _ r2 (by omega) (by unfold Ms at *;omega)).mono ?_
   rintro e W3 A3
   cases h3 : stmtF L f (a+1) o with
   | bad p er =>
    rw [h3] at A3
    obtain ⟨rfl,b3⟩:=A3
    obtain rfl : Rs.bad p er=res:=by rw [← HR.out,elseF];simp [Rs.bind,mtT,q1,q2,h3]
    exact ⟨rfl,rfl,a0.trans (k2.trans b3)⟩
   | ok x3 a3 =>
    rw [h3] at A3
    obtain ⟨ad3,c3,rfl,l3',r3,b3⟩:=A3
    have g3:=(MN.stmt' (a+1) o) _ _ h3
    have y3:=r3.le
    have k3:=k2.trans b3
    have z3:=k3.size
    have l3:=l3'.mono (T:=fun b=>w.heap.size+1 ≤ b) (fun b hb=>by have:=k2.size;omega)
    go_wp2_with fail
    go_at_call 42
    refine (node_any 52 ⟨#[]⟩ (some ⟨W3.heap.size,0,none⟩) 1 1 _).mono ?_
    rintro e W4 ⟨rfl,b4'⟩
    have j4 : W4.heap[W3.heap.size]?=_:=(b4'.block _ (by simp)).trans (heap_alloc_new W3 _)
    have r4:=(r3.bel (B0.alloc le0 _)).bel b4'
    have b4 : KeptR P.R W3 W4:=(KeptR.of (B0.alloc le0 _)).trans (.of b4')
    have k4:=k3.trans b4
    have z4:=k4.size
    have l4 : LAt W4 (fun b=>w.heap.size+1 ≤ b) (.slice (some ⟨W3.heap.size,0,none⟩) 1 1) [x3]:=LAt.n1 j4 (by have:=k3.size;show _ ≤ _;omega) (l3.keepR ((KeptR.refl P.R W3).trans b4) (by omega))
    obtain rfl : Rs.ok (mk0 52 ⟨#[]⟩ [x3]) a3=res:=by rw [← HR.out,elseF];simp [Rs.bind,mtT,q1,q2,h3]
    have m0:=M0.out _ k4
    obtain ⟨⟨_,_,_,_⟩,_,_,_,_⟩:=t4 m0
    go_wp2
    refine bodyPost_ret (res_n4 Tryz.results132 (t4_set _ _ _ _ m0) rfl) rfl ?_
    exact close_ok (x:=(mk0 52 ⟨#[]⟩ [x3])) h (a0.trans k4) (l4.keepR (KeptR.refl P.R W4) (by omega)) (by omega) r4
  | false =>
   have T2:=standsWord_any r1 wIf
   rw [q2] at T2
   go_wp2_with fail
   go_at_call 18
   refine T2.mono ?_
   rintro e W2 ⟨rfl,b2'⟩
   have r2:=r1.bel b2'
   have b2:=KeptR.of (b:=P.R) b2'
   have k2:=k1.trans b2
   have z2:=k2.size
   have y2:=r2.le
   go_wp2_with fail
   go_at_call 130
   refine (HB'.out _ _ _ _ r2 (by omega) (by unfold Ms at *;omega)).mono ?_
   rintro e W5 A5
   cases h5 : blkF L f (a+1) o with
   | bad p er =>
    rw [h5] at A5
    obtain ⟨rfl,b5⟩:=A5
    obtain rfl : Rs.bad p er=res:=by rw [← HR.out,elseF];simp [Rs.bind,mtT,q1,q2,h5]
    exact ⟨rfl,rfl,a0.trans (k2.trans b5)⟩
   | ok x5 a5 =>
    rw [h5] at A5
    obtain ⟨ad5,c5,rfl,l5',r5,b5⟩:=A5
    have g5:=(MN.blk' (a+1) o) _ _ h5
    have y5:=r5.le
    have k5:=k2.trans b5
    have z5:=k5.size
    have l5:=l5'.mono (T:=fun b=>w.heap.size+1 ≤ b) (fun b hb=>by have:=k2.size;omega)
    obtain rfl : Rs.ok x5 a5=res:=by rw [← HR.out,elseF];simp [Rs.bind,mtT,q1,q2,h5]
    have m0:=M0.out _ k5
    obtain ⟨⟨_,_,_,_⟩,_,_,_,_⟩:=t4 m0
    go_wp2
    refine bodyPost_ret (res_n4 Tryz.results132 (t4_set _ _ _ _ m0) rfl) rfl ?_
    exact close_ok (x:=x5) h (a0.trans k5) (l5.keepR (KeptR.refl P.R W5) (by omega)) (by omega) r5
 | false =>
  have T1:=takeWord_any h0 wElse
  rw [q1] at T1
  go_wp2_with fail
  go_at_call 49
  refine T1.mono ?_
  rintro e W1 ⟨rfl,r1',b1⟩
  have r1 : Rd W1 P L a (opE o):=r1'
  clear r1'
  have k1:=(KeptR.refl P.R (w.alloc zN)).trans b1
  have z1:=k1.size
  have y1:=r1.le
  go_wp2_with fail
  go_at_call 42
  refine (node_any 14 ⟨#[]⟩ none 0 0 _).mono ?_
  rintro e W7 ⟨rfl,b7'⟩
  have r7:=r1.bel b7'
  have b7:=KeptR.of (b:=P.R) b7'
  have k7:=k1.trans b7
  have z7:=k7.size
  obtain rfl : Rs.ok noneN a=res:=by rw [← HR.out,elseF];simp [Rs.bind,mtT,q1]
  have m0:=M0.out _ k7
  obtain ⟨⟨_,_,_,_⟩,_,_,_,_⟩:=t4 m0
  go_wp2
  refine bodyPost_ret (res_n4 Tryz.results132 (t4_set _ _ _ _ m0) rfl) rfl ?_
  exact close_ok (x:=noneN) h (a0.trans k7) (LAt.nil (S:=fun b=>w.heap.size+1 ≤ b) none 0) (by omega) r7
theorem abody_step (L : List Tok) (hs : Small L) (f : Nat) (MN : Mono L f) (hB : CN 130 L f 19 (blkF L f)) (hE : CN 126 L f 20 (exprF L f)) : CN 168 L (f+1) 21 (abodyF L (f+1)):=by
 intro w P a o h ho hM
 have hRw:=h.lt
 have hle:=h.le
 obtain ⟨h0,a0,z0,M0⟩:=begin_cell h
 obtain ⟨res,hres⟩ : ∃ r,abodyF L (f+1) a o=r:=⟨_,rfl⟩
 have HR : Hid (abodyF L (f+1) a o=res):=hres
 rw [hres]
 clear hres
 have HB' : Hid (CN 130 L f 19 (blkF L f)):=hB
 have HE' : Hid (CN 126 L f 20 (exprF L f)):=hE
 clear hB
 clear hE
 go_enter Tryz.func168,Tryz.ntmps168
 cases q8 : isS L a sCb with
 | true =>
  have T8:=stands_any h0 sCb
  rw [q8] at T8
  have u8:=isS_lt q8
  go_wp2_with fail
  go_at_call 51
  refine T8.mono ?_
  rintro e W8 ⟨rfl,b8'⟩
  have r8:=h0.bel b8'
  have b8:=KeptR.of (b:=P.R) b8'
  have k8:=(KeptR.refl P.R (w.alloc zN)).trans b8
  have z8:=k8.size
  have y8:=r8.le
  go_wp2_with fail
  go_at_call 130
  refine (HB'.out _ _ _ _ r8 (by omega) (by unfold Ms at *;omega)).mono ?_
  rintro e W9 A9
  cases h9 : blkF L f a o with
  | bad p er =>
   rw [h9] at A9
   obtain ⟨rfl,b9⟩:=A9
   obtain rfl : Rs.bad p er=res:=by rw [← HR.out,abodyF];simp [Rs.bind,mtT,q8,h9]
   exact ⟨rfl,rfl,a0.trans (k8.trans b9)⟩
  | ok x9 a9 =>
   rw [h9] at A9
   obtain ⟨ad9,c9,rfl,l9',r9,b9⟩:=A9
   have g9:=(MN.blk' a o) _ _ h9
   have y9:=r9.le
   have k9:=k8.trans b9
   have z9:=k9.size
   have l9:=l9'.mono (T:=fun b=>w.heap.size+1 ≤ b) (fun b hb=>by have:=k8.size;omega)
   obtain rfl : Rs.ok x9 a9=res:=by rw [← HR.out,abodyF];simp [Rs.bind,mtT,q8,h9]
   have m0:=M0.out _ k9
   obtain ⟨⟨_,_,_,_⟩,_,_,_,_⟩:=t4 m0
   go_wp2
   refine bodyPost_ret (res_n4 Tryz.results168 (t4_set _ _ _ _ m0) rfl) rfl ?_
   exact close_ok (x:=x9) h (a0.trans k9) (l9.keepR (KeptR.refl P.R W9) (by omega)) (by omega) r9
 | false =>
  have T8:=stands_any h0 sCb
  rw [q8] at T8
  go_wp2_with fail
  go_at_call 51
  refine T8.mono ?_
  rintro e W8 ⟨rfl,b8'⟩
  have r8:=h0.bel b8'
  have b8:=KeptR.of (b:=P.R) b8'
  have k8:=(KeptR.refl P.R (w.alloc zN)).trans b8
  have z8:=k8.size
  have y8:=r8.le
  go_wp2_with fail
  go_at_call 126
  refine (HE'.out _ _ _ _ r8 (by omega) (by unfold Ms at *;omega)).mono ?_
  rintro e W10 A10
  cases h10 : exprF L f a o with
  | bad p er =>
   rw [h10] at A10
   obtain ⟨rfl,b10⟩:=A10
   obtain rfl : Rs.bad p er=res:=by rw [← HR.out,abodyF];simp [Rs.bind,mtT,q8,h10]
   exact ⟨rfl,rfl,a0.trans (k8.trans b10)⟩
  | ok x10 a10 =>
   rw [h10] at A10
   obtain ⟨ad10,c10,rfl,l10',r10,b10⟩:=A10
   have g10:=(MN.expr' a o) _ _ h10
   have y10:=r10.le
   have k10:=k8.trans b10
   have z10:=k10.size
   have l10:=l10'.mono (T:=fun b=>w.heap.size+1 ≤ b) (fun b hb=>by have:=k8.size;omega)
   go_wp2_with fail
   go_at_call 42
   refine (node_any 50 ⟨#[]⟩ (some ⟨W10.heap.size,0,none⟩) 1 1 _).mono ?_
   rintro e W11 ⟨rfl,b11'⟩
   have j11 : W11.heap[W10.heap.size]?=_:=(b11'.block _ (by simp)).trans (heap_alloc_new W10 _)
   have r11:=(r10.bel (B0.alloc le0 _)).bel b11'
   have b11 : KeptR P.R W10 W11:=(KeptR.of (B0.alloc le0 _)).trans (.of b11')
   have k11:=k10.trans b11
   have z11:=k11.size
   have l11 : LAt W11 (fun b=>w.heap.size+1 ≤ b) (.slice (some ⟨W10.heap.size,0,none⟩) 1 1) [x10]:=LAt.n1 j11 (by have:=k10.size;show _ ≤ _;omega) (l10.keepR ((KeptR.refl P.R W10).trans b11) (by omega))
   go_wp2_with fail
   go_at_call 42
   refine (node_any 52 ⟨#[]⟩ (some ⟨W11.heap.size,0,none⟩) 1 1 _).mono ?_
   rintro e W12 ⟨rfl,b12'⟩
   have j12 : W12.heap[W11.heap.size]?=_:=(b12'.block _ (by simp)).trans (heap_alloc_new W11 _)
   have r12:=(r11.bel (B0.alloc le0 _)).bel b12'
   have b12 : KeptR P.R W11 W12:=(KeptR.of (B0.alloc le0 _)).trans (.of b12')
   have k12:=k11.trans b12
   have z12:=k12.size
   have l12 : LAt W12 (fun b=>w.heap.size+1 ≤ b) (.slice (some ⟨W11.heap.size,0,none⟩) 1 1) [(mk0 50 ⟨#[]⟩ [x10])]:=LAt.n1 j12 (by have:=k11.size;show _ ≤ _;omega) (l11.keepR ((KeptR.refl P.R W11).trans b12) (by omega))
   obtain rfl : Rs.ok (mk0 52 ⟨#[]⟩ [(mk0 50 ⟨#[]⟩ [x10])]) a10=res:=by rw [← HR.out,abodyF];simp [Rs.bind,mtT,q8,h10]
   have m0:=M0.out _ k12
   obtain ⟨⟨_,_,_,_⟩,_,_,_,_⟩:=t4 m0
   go_wp2
   refine bodyPost_ret (res_n4 Tryz.results168 (t4_set _ _ _ _ m0) rfl) rfl ?_
   exact close_ok (x:=(mk0 52 ⟨#[]⟩ [(mk0 50 ⟨#[]⟩ [x10])])) h (a0.trans k12) (l12.keepR (KeptR.refl P.R W12) (by omega)) (by omega) r12
theorem block_step (L : List Tok) (hs : Small L) (f : Nat) (MN : Mono L f) (hS : CN 95 L f 20 (stmtF L f)) : CN 130 L (f+1) 19 (blkF L (f+1)):=by
 intro w P a o h ho hM
 have hRw:=h.lt
 have hle:=h.le
 obtain ⟨h0,a0,z0,M0⟩:=begin_cell h
 obtain ⟨res,hres⟩ : ∃ r,blkF L (f+1) a o=r:=⟨_,rfl⟩
 have HR : Hid (blkF L (f+1) a o=res):=hres
 rw [hres]
 clear hres
 have HS' : Hid (CN 95 L f 20 (stmtF L f)):=hS
 clear hS
 go_enter Tryz.func130,Tryz.ntmps130
 go_wp2_with fail
 go_at_call 79
 refine (block_any (k:=95) (rs:=#[.pointer (some ⟨P.R,0,none⟩)]) (caps:=#[]) eg_aStmt (fun b=>stmtF L f b o) _ _ h0 (fun b x c hx=>MN.stmt' b o _ _ hx) (fun W b hb r=>HS'.out _ _ _ _ r (by omega) (by have:=r.le;unfold Ms at *;omega))).mono ?_
 rintro e W13 A13
 cases h13 : blockG L (fun b=>stmtF L f b o) a with
 | bad p er =>
  rw [h13] at A13
  obtain ⟨rfl,b13⟩:=A13
  obtain rfl : Rs.bad p er=res:=by rw [← HR.out,blkF];simp [Rs.bind,mtT,h13]
  exact ⟨rfl,rfl,a0.trans ((KeptR.refl P.R (w.alloc zN)).trans b13)⟩
 | ok x13 a13 =>
  rw [h13] at A13
  obtain ⟨ad13,c13,rfl,l13',r13,b13⟩:=A13
  have y13:=r13.le
  have k13:=(KeptR.refl P.R (w.alloc zN)).trans b13
  have z13:=k13.size
  have l13:=l13'.mono (T:=fun b=>w.heap.size+1 ≤ b) (fun b hb=>by have:=(KeptR.refl P.R (w.alloc zN)).size;omega)
  obtain rfl : Rs.ok x13 a13=res:=by rw [← HR.out,blkF];simp [Rs.bind,mtT,h13]
  have m0:=M0.out _ k13
  obtain ⟨⟨_,_,_,_⟩,_,_,_,_⟩:=t4 m0
  go_wp2
  refine bodyPost_ret (res_n4 Tryz.results130 (t4_set _ _ _ _ m0) rfl) rfl ?_
  exact close_ok (x:=x13) h (a0.trans k13) (l13.keepR (KeptR.refl P.R W13) (by omega)) (by omega) r13
theorem prop_step (L : List Tok) (hs : Small L) (f : Nat) (MN : Mono L f) (hE : CN 126 L f 20 (exprF L f)) : CN 166 L (f+1) 5 (propF L (f+1)):=by
 intro w P a o h ho hM
 have hRw:=h.lt
 have hle:=h.le
 obtain ⟨h0,a0,z0,M0⟩:=begin_cell h
 obtain ⟨res,hres⟩ : ∃ r,propF L (f+1) a o=r:=⟨_,rfl⟩
 have HR : Hid (propF L (f+1) a o=res):=hres
 rw [hres]
 clear hres
 have HE' : Hid (CN 126 L f 20 (exprF L f)):=hE
 clear hE
 go_enter Tryz.func166,Tryz.ntmps166
 cases q14 : isN L a with
 | true =>
  have T14:=standsId_any h0
  rw [q14] at T14
  have u14:=isN_lt q14
  go_wp2_with fail
  go_at_call 71
  refine T14.mono ?_
  rintro e W14 ⟨rfl,b14'⟩
  have r14:=h0.bel b14'
  have b14:=KeptR.of (b:=P.R) b14'
  have k14:=(KeptR.refl P.R (w.alloc zN)).trans b14
  have z14:=k14.size
  have y14:=r14.le
  go_wp2_with fail
  go_at_call 76
  refine (prop_any r14 hs).mono ?_
  rintro e W15 A15
  cases h15 : propR' L a with
  | bad p er =>
   rw [h15] at A15
   obtain ⟨rfl,b15⟩:=A15
   obtain rfl : Rs.bad p er=res:=by rw [← HR.out,propF];simp [Rs.bind,mtT,q14,h15]
   exact ⟨rfl,rfl,a0.trans (k14.trans b15)⟩
  | ok x15 a15 =>
   rw [h15] at A15
   obtain ⟨rfl,r15,b15⟩:=A15
   have g15:=(prop_ge L a) _ _ h15
   have y15:=r15.le
   have k15:=k14.trans b15
   have z15:=k15.size
   cases q16 : isS L a15 sCo with
   | true =>
    have T16:=take_any r15 sCo
    rw [q16] at T16
    have u16:=isS_lt q16
    go_wp2_with fail
    go_at_call 40
    refine T16.mono ?_
    rintro e W16 ⟨rfl,r16',b16⟩
    have r16 : Rd W16 P L (a15+1) (opE o):=r16'
    clear r16'
    have k16:=k15.trans b16
    have z16:=k16.size
    have y16:=r16.le
    go_wp2_with fail
    go_at_call 126
    refine (HE'.out _ _ _ _ r16 (by omega) (by unfold Ms at *;omega)).mono ?_
    rintro e W17 A17
    cases h17 : exprF L f (a15+1) o with
    | bad p er =>
     rw [h17] at A17
     obtain ⟨rfl,b17⟩:=A17
     obtain rfl : Rs.bad p er=res:=by rw [← HR.out,propF];simp [Rs.bind,mtT,q14,h15,q16,h17]
     exact ⟨rfl,rfl,a0.trans (k16.trans b17)⟩
    | ok x17 a17 =>
     rw [h17] at A17
     obtain ⟨ad17,c17,rfl,l17',r17,b17⟩:=A17
     have g17:=(MN.expr' (a15+1) o) _ _ h17
     have y17:=r17.le
     have k17:=k16.trans b17
     have z17:=k17.size
     have l17:=l17'.mono (T:=fun b=>w.heap.size+1 ≤ b) (fun b hb=>by have:=k16.size;omega)
     go_wp2_with fail
     go_at_call 42
     refine (node_any 10 x15 (some ⟨W17.heap.size,0,none⟩) 1 1 _).mono ?_
     rintro e W18 ⟨rfl,b18'⟩
     have j18 : W18.heap[W17.heap.size]?=_:=(b18'.block _ (by simp)).trans (heap_alloc_new W17 _)
     have r18:=(r17.bel (B0.alloc le0 _)).bel b18'
     have b18 : KeptR P.R W17 W18:=(KeptR.of (B0.alloc le0 _)).trans (.of b18')
     have k18:=k17.trans b18
     have z18:=k18.size
     have l18 : LAt W18 (fun b=>w.heap.size+1 ≤ b) (.slice (some ⟨W17.heap.size,0,none⟩) 1 1) [x17]:=LAt.n1 j18 (by have:=k17.size;show _ ≤ _;omega) (l17.keepR ((KeptR.refl P.R W17).trans b18) (by omega))
     obtain rfl : Rs.ok (mk0 10 x15 [x17]) a17=res:=by rw [← HR.out,propF];simp [Rs.bind,mtT,q14,h15,q16,h17]
     have m0:=M0.out _ k18
     obtain ⟨⟨_,_,_,_⟩,_,_,_,_⟩:=t4 m0
     go_wp2
     refine bodyPost_ret (res_n4 Tryz.results166 (t4_set _ _ _ _ m0) rfl) rfl ?_
     exact close_ok (x:=(mk0 10 x15 [x17])) h (a0.trans k18) (l18.keepR (KeptR.refl P.R W18) (by omega)) (by omega) r18
   | false =>
    have T16:=take_any r15 sCo
    rw [q16] at T16
    go_wp2_with fail
    go_at_call 40
    refine T16.mono ?_
    rintro e W16 ⟨rfl,r16',b16⟩
    have r16 : Rd W16 P L a15 (opE o):=r16'
    clear r16'
    have k16:=k15.trans b16
    have z16:=k16.size
    have y16:=r16.le
    go_wp2_with fail
    go_at_call 70
    refine (clone_any x15 _ (by have:=hs.at a;rw [← propR_t h15] at this;omega)).mono ?_
    rintro e W19 ⟨rfl,b19'⟩
    have r19:=r16.bel b19'
    have b19:=KeptR.of (b:=P.R) b19'
    have k19:=k16.trans b19
    have z19:=k19.size
    go_wp2_with fail
    go_at_call 42
    refine (node_any 6 x15 none 0 0 _).mono ?_
    rintro e W21 ⟨rfl,b21'⟩
    have r21:=r19.bel b21'
    have b21:=KeptR.of (b:=P.R) b21'
    have k21:=k19.trans b21
    have z21:=k21.size
    go_wp2_with fail
    go_at_call 42
    refine (node_any 10 x15 (some ⟨W21.heap.size,0,none⟩) 1 1 _).mono ?_
    rintro e W22 ⟨rfl,b22'⟩
    have j22 : W22.heap[W21.heap.size]?=_:=(b22'.block _ (by simp)).trans (heap_alloc_new W21 _)
    have r22:=(r21.bel (B0.alloc le0 _)).bel b22'
    have b22 : KeptR P.R W21 W22:=(KeptR.of (B0.alloc le0 _)).trans (.of b22')
    have k22:=k21.trans b22
    have z22:=k22.size
    have l22 : LAt W22 (fun b=>w.heap.size+1 ≤ b) (.slice (some ⟨W21.heap.size,0,none⟩) 1 1) [(mk0 6 x15 [])]:=LAt.n1 j22 (by have:=k21.size;show _ ≤ _;omega) (LAt.nil (S:=fun b=>w.heap.size+1 ≤ b) none 0)
    obtain rfl : Rs.ok (mk0 10 x15 [(mk0 6 x15 [])]) a15=res:=by rw [← HR.out,propF];simp [Rs.bind,mtT,q14,h15,q16]
    have m0:=M0.out _ k22
    obtain ⟨⟨_,_,_,_⟩,_,_,_,_⟩:=t4 m0
    go_wp2
    refine bodyPost_ret (res_n4 Tryz.results166 (t4_set _ _ _ _ m0) rfl) rfl ?_
    exact close_ok (x:=(mk0 10 x15 [(mk0 6 x15 [])])) h (a0.trans k22) (l22.keepR (KeptR.refl P.R W22) (by omega)) (by omega) r22
 | false =>
  have T14:=standsId_any h0
  rw [q14] at T14
  go_wp2_with fail
  go_at_call 71
  refine T14.mono ?_
  rintro e W14 ⟨rfl,b14'⟩
  have r14:=h0.bel b14'
  have b14:=KeptR.of (b:=P.R) b14'
  have k14:=(KeptR.refl P.R (w.alloc zN)).trans b14
  have z14:=k14.size
  have y14:=r14.le
  go_wp2_with fail
  go_at_call 76
  refine (prop_any r14 hs).mono ?_
  rintro e W23 A23
  cases h23 : propR' L a with
  | bad p er =>
   rw [h23] at A23
   obtain ⟨rfl,b23⟩:=A23
   obtain rfl : Rs.bad p er=res:=by rw [← HR.out,propF];simp [Rs.bind,mtT,q14,h23]
   exact ⟨rfl,rfl,a0.trans (k14.trans b23)⟩
  | ok x23 a23 =>
   rw [h23] at A23
   obtain ⟨rfl,r23,b23⟩:=A23
   have g23:=(prop_ge L a) _ _ h23
   have y23:=r23.le
   have k23:=k14.trans b23
   have z23:=k23.size
   cases q24 : isS L a23 sCo with
   | true =>
    have T24:=take_any r23 sCo
    rw [q24] at T24
    have u24:=isS_lt q24
    go_wp2_with fail
    go_at_call 40
    refine T24.mono ?_
    rintro e W24 ⟨rfl,r24',b24⟩
    have r24 : Rd W24 P L (a23+1) (opE o):=r24'
    clear r24'
    have k24:=k23.trans b24
    have z24:=k24.size
    have y24:=r24.le
    go_wp2_with fail
    go_at_call 126
    refine (HE'.out _ _ _ _ r24 (by omega) (by unfold Ms at *;omega)).mono ?_
    rintro e W25 A25
    cases h25 : exprF L f (a23+1) o with
    | bad p er =>
     rw [h25] at A25
     obtain ⟨rfl,b25⟩:=A25
     obtain rfl : Rs.bad p er=res:=by rw [← HR.out,propF];simp [Rs.bind,mtT,q14,h23,q24,h25]
     exact ⟨rfl,rfl,a0.trans (k24.trans b25)⟩
    | ok x25 a25 =>
     rw [h25] at A25
     obtain ⟨ad25,c25,rfl,l25',r25,b25⟩:=A25
     have g25:=(MN.expr' (a23+1) o) _ _ h25
     have y25:=r25.le
     have k25:=k24.trans b25
     have z25:=k25.size
     have l25:=l25'.mono (T:=fun b=>w.heap.size+1 ≤ b) (fun b hb=>by have:=k24.size;omega)
     go_wp2_with fail
     go_at_call 42
     refine (node_any 10 x23 (some ⟨W25.heap.size,0,none⟩) 1 1 _).mono ?_
     rintro e W26 ⟨rfl,b26'⟩
     have j26 : W26.heap[W25.heap.size]?=_:=(b26'.block _ (by simp)).trans (heap_alloc_new W25 _)
     have r26:=(r25.bel (B0.alloc le0 _)).bel b26'
     have b26 : KeptR P.R W25 W26:=(KeptR.of (B0.alloc le0 _)).trans (.of b26')
     have k26:=k25.trans b26
     have z26:=k26.size
     have l26 : LAt W26 (fun b=>w.heap.size+1 ≤ b) (.slice (some ⟨W25.heap.size,0,none⟩) 1 1) [x25]:=LAt.n1 j26 (by have:=k25.size;show _ ≤ _;omega) (l25.keepR ((KeptR.refl P.R W25).trans b26) (by omega))
     obtain rfl : Rs.ok (mk0 10 x23 [x25]) a25=res:=by rw [← HR.out,propF];simp [Rs.bind,mtT,q14,h23,q24,h25]
     have m0:=M0.out _ k26
     obtain ⟨⟨_,_,_,_⟩,_,_,_,_⟩:=t4 m0
     go_wp2
     refine bodyPost_ret (res_n4 Tryz.results166 (t4_set _ _ _ _ m0) rfl) rfl ?_
     exact close_ok (x:=(mk0 10 x23 [x25])) h (a0.trans k26) (l26.keepR (KeptR.refl P.R W26) (by omega)) (by omega) r26
   | false =>
    have T24:=take_any r23 sCo
    rw [q24] at T24
    go_wp2_with fail
    go_at_call 40
    refine T24.mono ?_
    rintro e W24 ⟨rfl,r24',b24⟩
    have r24 : Rd W24 P L a23 (opE o):=r24'
    clear r24'
    have k24:=k23.trans b24
    have z24:=k24.size
    have y24:=r24.le
    go_wp2_with fail
    go_at_call 72
    refine (wrong_any r24).mono ?_
    rintro e W27 ⟨rfl,b27'⟩
    obtain rfl : Rs.bad a23 60=res:=by rw [← HR.out,propF];simp [Rs.bind,mtT,q14,h23,q24]
    go_wp2
    exact ⟨rfl,rfl,a0.trans (k24.trans (.of b27'))⟩
end Go.Proofs.YthfkfbcopinmiaaGreatDoor
