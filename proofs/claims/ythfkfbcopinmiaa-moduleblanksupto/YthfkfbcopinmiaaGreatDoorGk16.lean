/- Own text. Package parse: the rules,one by one: statements. -/
import Derived.Test.YthfkfbcopinmiaaGreatDoorGk15
set_option linter.unusedVariables false
set_option linter.unusedSimpArgs false
set_option maxRecDepth 100000
set_option maxHeartbeats 8000000
namespace Go.Proofs.YthfkfbcopinmiaaGreatDoor
open Go.RowKit
theorem any_step (L : List Tok) (hs : Small L) (f : Nat) (MN : Mono L f) (hL : CL L f) (hTo : CN 129 L f 19 (typeOrF L f)) (hB : CN 130 L f 19 (blkF L f)) (hCi : CN 131 L f 21 (condiF L f)) (hEl : CN 132 L f 19 (elseF L f)) (hEo : CN 134 L f 21 (exprOrF L f)) (hE : CN 126 L f 20 (exprF L f)) : CN 115 L (f+1) 22 (anyF L (f+1)):=by
 intro w P a o h ho hM
 have hRw:=h.lt
 have hle:=h.le
 obtain ⟨h0,a0,z0,M0⟩:=begin_cell h
 obtain ⟨res,hres⟩ : ∃ r,anyF L (f+1) a o=r:=⟨_,rfl⟩
 have HR : Hid (anyF L (f+1) a o=res):=hres
 rw [hres]
 clear hres
 have HL' : Hid (CL L f):=hL
 have HTO' : Hid (CN 129 L f 19 (typeOrF L f)):=hTo
 have HB' : Hid (CN 130 L f 19 (blkF L f)):=hB
 have HCI' : Hid (CN 131 L f 21 (condiF L f)):=hCi
 have HEL' : Hid (CN 132 L f 19 (elseF L f)):=hEl
 have HEO' : Hid (CN 134 L f 21 (exprOrF L f)):=hEo
 have HE' : Hid (CN 126 L f 20 (exprF L f)):=hE
 clear hL
 clear hTo
 clear hB
 clear hCi
 clear hEl
 clear hEo
 clear hE
 go_enter Tryz.func115,Tryz.ntmps115
 cases q12 : isWd L a wLet with
 | true =>
  have T12:=takeWord_any h0 wLet
  rw [q12] at T12
  have u12:=isWd_lt q12
  go_wp2_with fail
  go_at_call 49
  refine T12.mono ?_
  rintro e W12 ⟨rfl,r12',b12⟩
  have r12 : Rd W12 P L (a+1) (opE o):=r12'
  clear r12'
  have k12:=(KeptR.refl P.R (w.alloc zN)).trans b12
  have z12:=k12.size
  have y12:=r12.le
  go_wp2_with fail
  go_at_call 128
  refine (HL'.out _ _ _ _ 0 r12 (by omega) (by unfold Ms at *;omega)).mono ?_
  rintro e W13 A13
  cases h13 : letF L f 0 (a+1) o with
  | bad p er =>
   rw [h13] at A13
   obtain ⟨rfl,b13⟩:=A13
   obtain rfl : Rs.bad p er=res:=by rw [← HR.out,anyF];simp [Rs.bind,mtT,q12,h13]
   exact ⟨rfl,rfl,a0.trans (k12.trans b13)⟩
  | ok x13 a13 =>
   rw [h13] at A13
   obtain ⟨ad13,c13,rfl,l13',r13,b13⟩:=A13
   have g13:=(MN.let' 0 (a+1) o) _ _ h13
   have y13:=r13.le
   have k13:=k12.trans b13
   have z13:=k13.size
   have l13:=l13'.mono (T:=fun b=>w.heap.size+1 ≤ b) (fun b hb=>by have:=k12.size;omega)
   obtain rfl : Rs.ok x13 a13=res:=by rw [← HR.out,anyF];simp [Rs.bind,mtT,q12,h13]
   have m0:=M0.out _ k13
   obtain ⟨⟨_,_,_,_⟩,_,_,_,_⟩:=t4 m0
   go_wp2
   refine bodyPost_ret (res_n4 Tryz.results115 (t4_set _ _ _ _ m0) rfl) rfl ?_
   exact close_ok (x:=x13) h (a0.trans k13) (l13.keepR (KeptR.refl P.R W13) (by omega)) (by omega) r13
 | false =>
  have T12:=takeWord_any h0 wLet
  rw [q12] at T12
  go_wp2_with fail
  go_at_call 49
  refine T12.mono ?_
  rintro e W12 ⟨rfl,r12',b12⟩
  have r12 : Rd W12 P L a (opE o):=r12'
  clear r12'
  have k12:=(KeptR.refl P.R (w.alloc zN)).trans b12
  have z12:=k12.size
  have y12:=r12.le
  cases q14 : isWd L a wConst with
  | true =>
   have T14:=takeWord_any r12 wConst
   rw [q14] at T14
   have u14:=isWd_lt q14
   go_wp2_with fail
   go_at_call 49
   refine T14.mono ?_
   rintro e W14 ⟨rfl,r14',b14⟩
   have r14 : Rd W14 P L (a+1) (opE o):=r14'
   clear r14'
   have k14:=k12.trans b14
   have z14:=k14.size
   have y14:=r14.le
   go_wp2_with fail
   go_at_call 128
   refine (HL'.out _ _ _ _ 1 r14 (by omega) (by unfold Ms at *;omega)).mono ?_
   rintro e W15 A15
   cases h15 : letF L f 1 (a+1) o with
   | bad p er =>
    rw [h15] at A15
    obtain ⟨rfl,b15⟩:=A15
    obtain rfl : Rs.bad p er=res:=by rw [← HR.out,anyF];simp [Rs.bind,mtT,q12,q14,h15]
    exact ⟨rfl,rfl,a0.trans (k14.trans b15)⟩
   | ok x15 a15 =>
    rw [h15] at A15
    obtain ⟨ad15,c15,rfl,l15',r15,b15⟩:=A15
    have g15:=(MN.let' 1 (a+1) o) _ _ h15
    have y15:=r15.le
    have k15:=k14.trans b15
    have z15:=k15.size
    have l15:=l15'.mono (T:=fun b=>w.heap.size+1 ≤ b) (fun b hb=>by have:=k14.size;omega)
    obtain rfl : Rs.ok x15 a15=res:=by rw [← HR.out,anyF];simp [Rs.bind,mtT,q12,q14,h15]
    have m0:=M0.out _ k15
    obtain ⟨⟨_,_,_,_⟩,_,_,_,_⟩:=t4 m0
    go_wp2
    refine bodyPost_ret (res_n4 Tryz.results115 (t4_set _ _ _ _ m0) rfl) rfl ?_
    exact close_ok (x:=x15) h (a0.trans k15) (l15.keepR (KeptR.refl P.R W15) (by omega)) (by omega) r15
  | false =>
   have T14:=takeWord_any r12 wConst
   rw [q14] at T14
   go_wp2_with fail
   go_at_call 49
   refine T14.mono ?_
   rintro e W14 ⟨rfl,r14',b14⟩
   have r14 : Rd W14 P L a (opE o):=r14'
   clear r14'
   have k14:=k12.trans b14
   have z14:=k14.size
   have y14:=r14.le
   cases q16 : isWd L a wFunc with
   | true =>
    have T16:=takeWord_any r14 wFunc
    rw [q16] at T16
    have u16:=isWd_lt q16
    go_wp2_with fail
    go_at_call 49
    refine T16.mono ?_
    rintro e W16 ⟨rfl,r16',b16⟩
    have r16 : Rd W16 P L (a+1) (opE o):=r16'
    clear r16'
    have k16:=k14.trans b16
    have z16:=k16.size
    have y16:=r16.le
    go_wp2_with fail
    refine wp_region_any (by kernel_rfl) ?_
    change wpAny _ _ _ _ _ _ _ (World.drew _)
    refine tk 0 (.pointer (some ⟨P.R,0,none⟩)) ?_
    refine tk 1 (.pointer (some ⟨P.R,0,none⟩)) ?_
    refine tk 2 (.pointer (some ⟨P.R,0,none⟩)) ?_
    refine tk 4 (.pointer (some ⟨P.R,0,none⟩)) ?_
    refine tk 5 (.pointer (some ⟨P.R,0,none⟩)) ?_
    refine tk 6 (.pointer (some ⟨P.R,0,none⟩)) ?_
    refine tk 7 (.pointer (some ⟨P.R,0,none⟩)) ?_
    refine tk 8 (.func (.func 129) #[.pointer (some ⟨P.R,0,none⟩)] #[]) ?_
    refine tk 10 (.pointer (some ⟨P.R,0,none⟩)) ?_
    refine tk 12 (.pointer (some ⟨P.R,0,none⟩)) ?_
    refine wpAny_chain [_,_,_,_,_,_,_] [3,9,11,13,14,15,16] _ _ _ _ (by kernel_rfl) rfl (by decide) ?_
    go_wp2_with fail
    go_at_call 38
    refine (id_any (r16.bel (B0.drew)) hs).mono ?_
    rintro e W17 A17
    cases h17 : idR L (a+1) with
    | bad p er =>
     rw [h17] at A17
     obtain ⟨rfl,b17⟩:=A17
     obtain rfl : Rs.bad p er=res:=by rw [← HR.out,anyF];simp [Rs.bind,mtT,q12,q14,q16,h17]
     exact ⟨rfl,rfl,a0.trans ((k16.trans (.of (B0.drew))).trans b17)⟩
    | ok x17 a17 =>
     rw [h17] at A17
     obtain ⟨rfl,r17,b17⟩:=A17
     have g17:=(id_ge L (a+1)) _ _ h17
     have y17:=r17.le
     have k17:=(k16.trans (.of (B0.drew))).trans b17
     have z17:=k17.size
     go_wp2_with fail
     go_at_call 77
     refine (params_any (k:=129) (rs:=#[.pointer (some ⟨P.R,0,none⟩)]) (caps:=#[]) eg_typeOrNone (fun b=>typeOrF L f b o) _ _ r17 hs (fun b x c hx=>(MN.typeOr' b o) _ _ hx) (fun W b hb r=>HTO'.out _ _ _ _ r (by omega) (by have:=r.le;unfold Ms at *;omega))).mono ?_
     rintro e W18 A18
     cases h18 : paramsG L (fun b=>typeOrF L f b o) a17 with
     | bad p er =>
      rw [h18] at A18
      obtain ⟨rfl,b18⟩:=A18
      obtain rfl : Rs.bad p er=res:=by rw [← HR.out,anyF];simp [Rs.bind,mtT,q12,q14,q16,h17,h18]
      exact ⟨rfl,rfl,a0.trans (k17.trans b18)⟩
     | ok x18 a18 =>
      rw [h18] at A18
      obtain ⟨ad18,c18,rfl,l18',r18,b18⟩:=A18
      have g18:=(paramsG_ge (fun b=>MN.typeOr' b o) a17) _ _ h18
      have y18:=r18.le
      have k18:=k17.trans b18
      have z18:=k18.size
      have l18:=l18'.mono (T:=fun b=>w.heap.size+1 ≤ b) (fun b hb=>by have:=k17.size;omega)
      go_wp2_with fail
      go_at_call 129
      refine (HTO'.out _ _ _ _ r18 (by omega) (by unfold Ms at *;omega)).mono ?_
      rintro e W19 A19
      cases h19 : typeOrF L f a18 o with
      | bad p er =>
       rw [h19] at A19
       obtain ⟨rfl,b19⟩:=A19
       obtain rfl : Rs.bad p er=res:=by rw [← HR.out,anyF];simp [Rs.bind,mtT,q12,q14,q16,h17,h18,h19]
       exact ⟨rfl,rfl,a0.trans (k18.trans b19)⟩
      | ok x19 a19 =>
       rw [h19] at A19
       obtain ⟨ad19,c19,rfl,l19',r19,b19⟩:=A19
       have g19:=(MN.typeOr' a18 o) _ _ h19
       have y19:=r19.le
       have k19:=k18.trans b19
       have z19:=k19.size
       have l19:=l19'.mono (T:=fun b=>w.heap.size+1 ≤ b) (fun b hb=>by have:=k18.size;omega)
       go_wp2_with fail
       go_at_call 130
       refine (HB'.out _ _ _ _ r19 (by omega) (by unfold Ms at *;omega)).mono ?_
       rintro e W20 A20
       cases h20 : blkF L f a19 o with
       | bad p er =>
        rw [h20] at A20
        obtain ⟨rfl,b20⟩:=A20
        obtain rfl : Rs.bad p er=res:=by rw [← HR.out,anyF];simp [Rs.bind,mtT,q12,q14,q16,h17,h18,h19,h20]
        exact ⟨rfl,rfl,a0.trans (k19.trans b20)⟩
       | ok x20 a20 =>
        rw [h20] at A20
        obtain ⟨ad20,c20,rfl,l20',r20,b20⟩:=A20
        have g20:=(MN.blk' a19 o) _ _ h20
        have y20:=r20.le
        have k20:=k19.trans b20
        have z20:=k20.size
        have l20:=l20'.mono (T:=fun b=>w.heap.size+1 ≤ b) (fun b hb=>by have:=k19.size;omega)
        go_wp2_with fail
        go_at_call 42
        refine (node_any 41 x17 (some ⟨W20.heap.size,0,none⟩) 3 3 _).mono ?_
        rintro e W21 ⟨rfl,b21'⟩
        have j21 : W21.heap[W20.heap.size]?=_:=(b21'.block _ (by simp)).trans (heap_alloc_new W20 _)
        have r21:=(r20.bel (B0.alloc le0 _)).bel b21'
        have b21 : KeptR P.R W20 W21:=(KeptR.of (B0.alloc le0 _)).trans (.of b21')
        have k21:=k20.trans b21
        have z21:=k21.size
        have l21 : LAt W21 (fun b=>w.heap.size+1 ≤ b) (.slice (some ⟨W20.heap.size,0,none⟩) 3 3) [x18,x19,x20]:=LAt.n3 j21 (by have:=k20.size;show _ ≤ _;omega) (l18.keepR ((((KeptR.refl P.R W18).trans b19).trans b20).trans b21) (by omega)) (l19.keepR (((KeptR.refl P.R W19).trans b20).trans b21) (by omega)) (l20.keepR ((KeptR.refl P.R W20).trans b21) (by omega))
        obtain rfl : Rs.ok (mk0 41 x17 [x18,x19,x20]) a20=res:=by rw [← HR.out,anyF];simp [Rs.bind,mtT,q12,q14,q16,h17,h18,h19,h20]
        have m0:=M0.out _ k21
        obtain ⟨⟨_,_,_,_⟩,_,_,_,_⟩:=t4 m0
        go_wp2
        refine bodyPost_ret (res_n4 Tryz.results115 (t4_set _ _ _ _ m0) rfl) rfl ?_
        exact close_ok (x:=(mk0 41 x17 [x18,x19,x20])) h (a0.trans k21) (l21.keepR (KeptR.refl P.R W21) (by omega)) (by omega) r21
   | false =>
    have T16:=takeWord_any r14 wFunc
    rw [q16] at T16
    go_wp2_with fail
    go_at_call 49
    refine T16.mono ?_
    rintro e W16 ⟨rfl,r16',b16⟩
    have r16 : Rd W16 P L a (opE o):=r16'
    clear r16'
    have k16:=k14.trans b16
    have z16:=k16.size
    have y16:=r16.le
    cases q22 : isWd L a wIf with
    | true =>
     have T22:=takeWord_any r16 wIf
     rw [q22] at T22
     have u22:=isWd_lt q22
     go_wp2_with fail
     go_at_call 49
     refine T22.mono ?_
     rintro e W22 ⟨rfl,r22',b22⟩
     have r22 : Rd W22 P L (a+1) (opE o):=r22'
     clear r22'
     have k22:=k16.trans b22
     have z22:=k22.size
     have y22:=r22.le
     go_wp2_with fail
     go_at_call 131
     refine (HCI'.out _ _ _ _ r22 (by omega) (by unfold Ms at *;omega)).mono ?_
     rintro e W23 A23
     cases h23 : condiF L f (a+1) o with
     | bad p er =>
      rw [h23] at A23
      obtain ⟨rfl,b23⟩:=A23
      obtain rfl : Rs.bad p er=res:=by rw [← HR.out,anyF];simp [Rs.bind,mtT,q12,q14,q16,q22,h23]
      exact ⟨rfl,rfl,a0.trans (k22.trans b23)⟩
     | ok x23 a23 =>
      rw [h23] at A23
      obtain ⟨ad23,c23,rfl,l23',r23,b23⟩:=A23
      have g23:=(MN.condi' (a+1) o) _ _ h23
      have y23:=r23.le
      have k23:=k22.trans b23
      have z23:=k23.size
      have l23:=l23'.mono (T:=fun b=>w.heap.size+1 ≤ b) (fun b hb=>by have:=k22.size;omega)
      go_wp2_with fail
      go_at_call 130
      refine (HB'.out _ _ _ _ r23 (by omega) (by unfold Ms at *;omega)).mono ?_
      rintro e W24 A24
      cases h24 : blkF L f a23 o with
      | bad p er =>
       rw [h24] at A24
       obtain ⟨rfl,b24⟩:=A24
       obtain rfl : Rs.bad p er=res:=by rw [← HR.out,anyF];simp [Rs.bind,mtT,q12,q14,q16,q22,h23,h24]
       exact ⟨rfl,rfl,a0.trans (k23.trans b24)⟩
      | ok x24 a24 =>
       rw [h24] at A24
       obtain ⟨ad24,c24,rfl,l24',r24,b24⟩:=A24
       have g24:=(MN.blk' a23 o) _ _ h24
       have y24:=r24.le
       have k24:=k23.trans b24
       have z24:=k24.size
       have l24:=l24'.mono (T:=fun b=>w.heap.size+1 ≤ b) (fun b hb=>by have:=k23.size;omega)
       go_wp2_with fail
       go_at_call 132
       refine (HEL'.out _ _ _ _ r24 (by omega) (by unfold Ms at *;omega)).mono ?_
       rintro e W25 A25
       cases h25 : elseF L f a24 o with
       | bad p er =>
        rw [h25] at A25
        obtain ⟨rfl,b25⟩:=A25
        obtain rfl : Rs.bad p er=res:=by rw [← HR.out,anyF];simp [Rs.bind,mtT,q12,q14,q16,q22,h23,h24,h25]
        exact ⟨rfl,rfl,a0.trans (k24.trans b25)⟩
       | ok x25 a25 =>
        rw [h25] at A25
        obtain ⟨ad25,c25,rfl,l25',r25,b25⟩:=A25
        have g25:=(MN.els' a24 o) _ _ h25
        have y25:=r25.le
        have k25:=k24.trans b25
        have z25:=k25.size
        have l25:=l25'.mono (T:=fun b=>w.heap.size+1 ≤ b) (fun b hb=>by have:=k24.size;omega)
        go_wp2_with fail
        go_at_call 42
        refine (node_any 48 ⟨#[]⟩ (some ⟨W25.heap.size,0,none⟩) 3 3 _).mono ?_
        rintro e W26 ⟨rfl,b26'⟩
        have j26 : W26.heap[W25.heap.size]?=_:=(b26'.block _ (by simp)).trans (heap_alloc_new W25 _)
        have r26:=(r25.bel (B0.alloc le0 _)).bel b26'
        have b26 : KeptR P.R W25 W26:=(KeptR.of (B0.alloc le0 _)).trans (.of b26')
        have k26:=k25.trans b26
        have z26:=k26.size
        have l26 : LAt W26 (fun b=>w.heap.size+1 ≤ b) (.slice (some ⟨W25.heap.size,0,none⟩) 3 3) [x23,x24,x25]:=LAt.n3 j26 (by have:=k25.size;show _ ≤ _;omega) (l23.keepR ((((KeptR.refl P.R W23).trans b24).trans b25).trans b26) (by omega)) (l24.keepR (((KeptR.refl P.R W24).trans b25).trans b26) (by omega)) (l25.keepR ((KeptR.refl P.R W25).trans b26) (by omega))
        obtain rfl : Rs.ok (mk0 48 ⟨#[]⟩ [x23,x24,x25]) a25=res:=by rw [← HR.out,anyF];simp [Rs.bind,mtT,q12,q14,q16,q22,h23,h24,h25]
        have m0:=M0.out _ k26
        obtain ⟨⟨_,_,_,_⟩,_,_,_,_⟩:=t4 m0
        go_wp2
        refine bodyPost_ret (res_n4 Tryz.results115 (t4_set _ _ _ _ m0) rfl) rfl ?_
        exact close_ok (x:=(mk0 48 ⟨#[]⟩ [x23,x24,x25])) h (a0.trans k26) (l26.keepR (KeptR.refl P.R W26) (by omega)) (by omega) r26
    | false =>
     have T22:=takeWord_any r16 wIf
     rw [q22] at T22
     go_wp2_with fail
     go_at_call 49
     refine T22.mono ?_
     rintro e W22 ⟨rfl,r22',b22⟩
     have r22 : Rd W22 P L a (opE o):=r22'
     clear r22'
     have k22:=k16.trans b22
     have z22:=k22.size
     have y22:=r22.le
     cases q27 : isWd L a wWhile with
     | true =>
      have T27:=takeWord_any r22 wWhile
      rw [q27] at T27
      have u27:=isWd_lt q27
      go_wp2_with fail
      go_at_call 49
      refine T27.mono ?_
      rintro e W27 ⟨rfl,r27',b27⟩
      have r27 : Rd W27 P L (a+1) (opE o):=r27'
      clear r27'
      have k27:=k22.trans b27
      have z27:=k27.size
      have y27:=r27.le
      go_wp2_with fail
      go_at_call 131
      refine (HCI'.out _ _ _ _ r27 (by omega) (by unfold Ms at *;omega)).mono ?_
      rintro e W28 A28
      cases h28 : condiF L f (a+1) o with
      | bad p er =>
       rw [h28] at A28
       obtain ⟨rfl,b28⟩:=A28
       obtain rfl : Rs.bad p er=res:=by rw [← HR.out,anyF];simp [Rs.bind,mtT,q12,q14,q16,q22,q27,h28]
       exact ⟨rfl,rfl,a0.trans (k27.trans b28)⟩
      | ok x28 a28 =>
       rw [h28] at A28
       obtain ⟨ad28,c28,rfl,l28',r28,b28⟩:=A28
       have g28:=(MN.condi' (a+1) o) _ _ h28
       have y28:=r28.le
       have k28:=k27.trans b28
       have z28:=k28.size
       have l28:=l28'.mono (T:=fun b=>w.heap.size+1 ≤ b) (fun b hb=>by have:=k27.size;omega)
       go_wp2_with fail
       go_at_call 130
       refine (HB'.out _ _ _ _ r28 (by omega) (by unfold Ms at *;omega)).mono ?_
       rintro e W29 A29
       cases h29 : blkF L f a28 o with
       | bad p er =>
        rw [h29] at A29
        obtain ⟨rfl,b29⟩:=A29
        obtain rfl : Rs.bad p er=res:=by rw [← HR.out,anyF];simp [Rs.bind,mtT,q12,q14,q16,q22,q27,h28,h29]
        exact ⟨rfl,rfl,a0.trans (k28.trans b29)⟩
       | ok x29 a29 =>
        rw [h29] at A29
        obtain ⟨ad29,c29,rfl,l29',r29,b29⟩:=A29
        have g29:=(MN.blk' a28 o) _ _ h29
        have y29:=r29.le
        have k29:=k28.trans b29
        have z29:=k29.size
        have l29:=l29'.mono (T:=fun b=>w.heap.size+1 ≤ b) (fun b hb=>by have:=k28.size;omega)
        go_wp2_with fail
        go_at_call 42
        refine (node_any 49 ⟨#[]⟩ (some ⟨W29.heap.size,0,none⟩) 2 2 _).mono ?_
        rintro e W30 ⟨rfl,b30'⟩
        have j30 : W30.heap[W29.heap.size]?=_:=(b30'.block _ (by simp)).trans (heap_alloc_new W29 _)
        have r30:=(r29.bel (B0.alloc le0 _)).bel b30'
        have b30 : KeptR P.R W29 W30:=(KeptR.of (B0.alloc le0 _)).trans (.of b30')
        have k30:=k29.trans b30
        have z30:=k30.size
        have l30 : LAt W30 (fun b=>w.heap.size+1 ≤ b) (.slice (some ⟨W29.heap.size,0,none⟩) 2 2) [x28,x29]:=LAt.n2 j30 (by have:=k29.size;show _ ≤ _;omega) (l28.keepR (((KeptR.refl P.R W28).trans b29).trans b30) (by omega)) (l29.keepR ((KeptR.refl P.R W29).trans b30) (by omega))
        obtain rfl : Rs.ok (mk0 49 ⟨#[]⟩ [x28,x29]) a29=res:=by rw [← HR.out,anyF];simp [Rs.bind,mtT,q12,q14,q16,q22,q27,h28,h29]
        have m0:=M0.out _ k30
        obtain ⟨⟨_,_,_,_⟩,_,_,_,_⟩:=t4 m0
        go_wp2
        refine bodyPost_ret (res_n4 Tryz.results115 (t4_set _ _ _ _ m0) rfl) rfl ?_
        exact close_ok (x:=(mk0 49 ⟨#[]⟩ [x28,x29])) h (a0.trans k30) (l30.keepR (KeptR.refl P.R W30) (by omega)) (by omega) r30
     | false =>
      have T27:=takeWord_any r22 wWhile
      rw [q27] at T27
      go_wp2_with fail
      go_at_call 49
      refine T27.mono ?_
      rintro e W27 ⟨rfl,r27',b27⟩
      have r27 : Rd W27 P L a (opE o):=r27'
      clear r27'
      have k27:=k22.trans b27
      have z27:=k27.size
      have y27:=r27.le
      cases q31 : isWd L a wReturn with
      | true =>
       have T31:=takeWord_any r27 wReturn
       rw [q31] at T31
       have u31:=isWd_lt q31
       go_wp2_with fail
       go_at_call 49
       refine T31.mono ?_
       rintro e W31 ⟨rfl,r31',b31⟩
       have r31 : Rd W31 P L (a+1) (opE o):=r31'
       clear r31'
       have k31:=k27.trans b31
       have z31:=k31.size
       have y31:=r31.le
       go_wp2_with fail
       go_at_call 134
       refine (HEO'.out _ _ _ _ r31 (by omega) (by unfold Ms at *;omega)).mono ?_
       rintro e W32 A32
       cases h32 : exprOrF L f (a+1) o with
       | bad p er =>
        rw [h32] at A32
        obtain ⟨rfl,b32⟩:=A32
        obtain rfl : Rs.bad p er=res:=by rw [← HR.out,anyF];simp [Rs.bind,mtT,q12,q14,q16,q22,q27,q31,h32]
        exact ⟨rfl,rfl,a0.trans (k31.trans b32)⟩
       | ok x32 a32 =>
        rw [h32] at A32
        obtain ⟨ad32,c32,rfl,l32',r32,b32⟩:=A32
        have g32:=(MN.exprOr' (a+1) o) _ _ h32
        have y32:=r32.le
        have k32:=k31.trans b32
        have z32:=k32.size
        have l32:=l32'.mono (T:=fun b=>w.heap.size+1 ≤ b) (fun b hb=>by have:=k31.size;omega)
        go_wp2_with fail
        go_at_call 42
        refine (node_any 50 ⟨#[]⟩ (some ⟨W32.heap.size,0,none⟩) 1 1 _).mono ?_
        rintro e W33 ⟨rfl,b33'⟩
        have j33 : W33.heap[W32.heap.size]?=_:=(b33'.block _ (by simp)).trans (heap_alloc_new W32 _)
        have r33:=(r32.bel (B0.alloc le0 _)).bel b33'
        have b33 : KeptR P.R W32 W33:=(KeptR.of (B0.alloc le0 _)).trans (.of b33')
        have k33:=k32.trans b33
        have z33:=k33.size
        have l33 : LAt W33 (fun b=>w.heap.size+1 ≤ b) (.slice (some ⟨W32.heap.size,0,none⟩) 1 1) [x32]:=LAt.n1 j33 (by have:=k32.size;show _ ≤ _;omega) (l32.keepR ((KeptR.refl P.R W32).trans b33) (by omega))
        go_wp2_with fail
        go_at_call 133
        refine (ended_any r33 _ _ _ _ _ _).mono ?_
        rintro e W34 A34
        cases h34 : wantR L sSe a32 with
        | bad p er =>
         rw [h34] at A34
         obtain ⟨rfl,b34⟩:=A34
         obtain rfl : Rs.bad p er=res:=by rw [← HR.out,anyF];simp [Rs.bind,mtT,q12,q14,q16,q22,q27,q31,h32,h34]
         exact ⟨rfl,rfl,a0.trans (k33.trans b34)⟩
        | ok x34 a34 =>
         rw [h34] at A34
         obtain ⟨rfl,r34,b34⟩:=A34
         have g34:=(want_ge L sSe a32) _ _ h34
         have y34:=r34.le
         have k34:=k33.trans b34
         have z34:=k34.size
         obtain rfl : Rs.ok (mk0 50 ⟨#[]⟩ [x32]) a34=res:=by rw [← HR.out,anyF];simp [Rs.bind,mtT,q12,q14,q16,q22,q27,q31,h32,h34]
         have m0:=M0.out _ k34
         obtain ⟨⟨_,_,_,_⟩,_,_,_,_⟩:=t4 m0
         go_wp2
         refine bodyPost_ret (res_n4 Tryz.results115 (t4_set _ _ _ _ m0) rfl) rfl ?_
         exact close_ok (x:=(mk0 50 ⟨#[]⟩ [x32])) h (a0.trans k34) (l33.keepR ((KeptR.refl P.R W33).trans b34) (by omega)) (by omega) r34
      | false =>
       have T31:=takeWord_any r27 wReturn
       rw [q31] at T31
       go_wp2_with fail
       go_at_call 49
       refine T31.mono ?_
       rintro e W31 ⟨rfl,r31',b31⟩
       have r31 : Rd W31 P L a (opE o):=r31'
       clear r31'
       have k31:=k27.trans b31
       have z31:=k31.size
       have y31:=r31.le
       cases q35 : isWd L a wThrow with
       | true =>
        have T35:=takeWord_any r31 wThrow
        rw [q35] at T35
        have u35:=isWd_lt q35
        go_wp2_with fail
        go_at_call 49
        refine T35.mono ?_
        rintro e W35 ⟨rfl,r35',b35⟩
        have r35 : Rd W35 P L (a+1) (opE o):=r35'
        clear r35'
        have k35:=k31.trans b35
        have z35:=k35.size
        have y35:=r35.le
        go_wp2_with fail
        go_at_call 126
        refine (HE'.out _ _ _ _ r35 (by omega) (by unfold Ms at *;omega)).mono ?_
        rintro e W36 A36
        cases h36 : exprF L f (a+1) o with
        | bad p er =>
         rw [h36] at A36
         obtain ⟨rfl,b36⟩:=A36
         obtain rfl : Rs.bad p er=res:=by rw [← HR.out,anyF];simp [Rs.bind,mtT,q12,q14,q16,q22,q27,q31,q35,h36]
         exact ⟨rfl,rfl,a0.trans (k35.trans b36)⟩
        | ok x36 a36 =>
         rw [h36] at A36
         obtain ⟨ad36,c36,rfl,l36',r36,b36⟩:=A36
         have g36:=(MN.expr' (a+1) o) _ _ h36
         have y36:=r36.le
         have k36:=k35.trans b36
         have z36:=k36.size
         have l36:=l36'.mono (T:=fun b=>w.heap.size+1 ≤ b) (fun b hb=>by have:=k35.size;omega)
         go_wp2_with fail
         go_at_call 42
         refine (node_any 51 ⟨#[]⟩ (some ⟨W36.heap.size,0,none⟩) 1 1 _).mono ?_
         rintro e W37 ⟨rfl,b37'⟩
         have j37 : W37.heap[W36.heap.size]?=_:=(b37'.block _ (by simp)).trans (heap_alloc_new W36 _)
         have r37:=(r36.bel (B0.alloc le0 _)).bel b37'
         have b37 : KeptR P.R W36 W37:=(KeptR.of (B0.alloc le0 _)).trans (.of b37')
         have k37:=k36.trans b37
         have z37:=k37.size
         have l37 : LAt W37 (fun b=>w.heap.size+1 ≤ b) (.slice (some ⟨W36.heap.size,0,none⟩) 1 1) [x36]:=LAt.n1 j37 (by have:=k36.size;show _ ≤ _;omega) (l36.keepR ((KeptR.refl P.R W36).trans b37) (by omega))
         go_wp2_with fail
         go_at_call 133
         refine (ended_any r37 _ _ _ _ _ _).mono ?_
         rintro e W38 A38
         cases h38 : wantR L sSe a36 with
         | bad p er =>
          rw [h38] at A38
          obtain ⟨rfl,b38⟩:=A38
          obtain rfl : Rs.bad p er=res:=by rw [← HR.out,anyF];simp [Rs.bind,mtT,q12,q14,q16,q22,q27,q31,q35,h36,h38]
          exact ⟨rfl,rfl,a0.trans (k37.trans b38)⟩
         | ok x38 a38 =>
          rw [h38] at A38
          obtain ⟨rfl,r38,b38⟩:=A38
          have g38:=(want_ge L sSe a36) _ _ h38
          have y38:=r38.le
          have k38:=k37.trans b38
          have z38:=k38.size
          obtain rfl : Rs.ok (mk0 51 ⟨#[]⟩ [x36]) a38=res:=by rw [← HR.out,anyF];simp [Rs.bind,mtT,q12,q14,q16,q22,q27,q31,q35,h36,h38]
          have m0:=M0.out _ k38
          obtain ⟨⟨_,_,_,_⟩,_,_,_,_⟩:=t4 m0
          go_wp2
          refine bodyPost_ret (res_n4 Tryz.results115 (t4_set _ _ _ _ m0) rfl) rfl ?_
          exact close_ok (x:=(mk0 51 ⟨#[]⟩ [x36])) h (a0.trans k38) (l37.keepR ((KeptR.refl P.R W37).trans b38) (by omega)) (by omega) r38
       | false =>
        have T35:=takeWord_any r31 wThrow
        rw [q35] at T35
        go_wp2_with fail
        go_at_call 49
        refine T35.mono ?_
        rintro e W35 ⟨rfl,r35',b35⟩
        have r35 : Rd W35 P L a (opE o):=r35'
        clear r35'
        have k35:=k31.trans b35
        have z35:=k35.size
        have y35:=r35.le
        cases q39 : isS L a sCb with
        | true =>
         have T39:=stands_any r35 sCb
         rw [q39] at T39
         have u39:=isS_lt q39
         go_wp2_with fail
         go_at_call 51
         refine T39.mono ?_
         rintro e W39 ⟨rfl,b39'⟩
         have r39:=r35.bel b39'
         have b39:=KeptR.of (b:=P.R) b39'
         have k39:=k35.trans b39
         have z39:=k39.size
         have y39:=r39.le
         go_wp2_with fail
         go_at_call 130
         refine (HB'.out _ _ _ _ r39 (by omega) (by unfold Ms at *;omega)).mono ?_
         rintro e W40 A40
         cases h40 : blkF L f a o with
         | bad p er =>
          rw [h40] at A40
          obtain ⟨rfl,b40⟩:=A40
          obtain rfl : Rs.bad p er=res:=by rw [← HR.out,anyF];simp [Rs.bind,mtT,q12,q14,q16,q22,q27,q31,q35,q39,h40]
          exact ⟨rfl,rfl,a0.trans (k39.trans b40)⟩
         | ok x40 a40 =>
          rw [h40] at A40
          obtain ⟨ad40,c40,rfl,l40',r40,b40⟩:=A40
          have g40:=(MN.blk' a o) _ _ h40
          have y40:=r40.le
          have k40:=k39.trans b40
          have z40:=k40.size
          have l40:=l40'.mono (T:=fun b=>w.heap.size+1 ≤ b) (fun b hb=>by have:=k39.size;omega)
          obtain rfl : Rs.ok x40 a40=res:=by rw [← HR.out,anyF];simp [Rs.bind,mtT,q12,q14,q16,q22,q27,q31,q35,q39,h40]
          have m0:=M0.out _ k40
          obtain ⟨⟨_,_,_,_⟩,_,_,_,_⟩:=t4 m0
          go_wp2
          refine bodyPost_ret (res_n4 Tryz.results115 (t4_set _ _ _ _ m0) rfl) rfl ?_
          exact close_ok (x:=x40) h (a0.trans k40) (l40.keepR (KeptR.refl P.R W40) (by omega)) (by omega) r40
        | false =>
         have T39:=stands_any r35 sCb
         rw [q39] at T39
         go_wp2_with fail
         go_at_call 51
         refine T39.mono ?_
         rintro e W39 ⟨rfl,b39'⟩
         have r39:=r35.bel b39'
         have b39:=KeptR.of (b:=P.R) b39'
         have k39:=k35.trans b39
         have z39:=k39.size
         have y39:=r39.le
         go_wp2_with fail
         go_at_call 126
         refine (HE'.out _ _ _ _ r39 (by omega) (by unfold Ms at *;omega)).mono ?_
         rintro e W41 A41
         cases h41 : exprF L f a o with
         | bad p er =>
          rw [h41] at A41
          obtain ⟨rfl,b41⟩:=A41
          obtain rfl : Rs.bad p er=res:=by rw [← HR.out,anyF];simp [Rs.bind,mtT,q12,q14,q16,q22,q27,q31,q35,q39,h41]
          exact ⟨rfl,rfl,a0.trans (k39.trans b41)⟩
         | ok x41 a41 =>
          rw [h41] at A41
          obtain ⟨ad41,c41,rfl,l41',r41,b41⟩:=A41
          have g41:=(MN.expr' a o) _ _ h41
          have y41:=r41.le
          have k41:=k39.trans b41
          have z41:=k41.size
          have l41:=l41'.mono (T:=fun b=>w.heap.size+1 ≤ b) (fun b hb=>by have:=k39.size;omega)
          go_wp2_with fail
          go_at_call 42
          refine (node_any 47 ⟨#[]⟩ (some ⟨W41.heap.size,0,none⟩) 1 1 _).mono ?_
          rintro e W42 ⟨rfl,b42'⟩
          have j42 : W42.heap[W41.heap.size]?=_:=(b42'.block _ (by simp)).trans (heap_alloc_new W41 _)
          have r42:=(r41.bel (B0.alloc le0 _)).bel b42'
          have b42 : KeptR P.R W41 W42:=(KeptR.of (B0.alloc le0 _)).trans (.of b42')
          have k42:=k41.trans b42
          have z42:=k42.size
          have l42 : LAt W42 (fun b=>w.heap.size+1 ≤ b) (.slice (some ⟨W41.heap.size,0,none⟩) 1 1) [x41]:=LAt.n1 j42 (by have:=k41.size;show _ ≤ _;omega) (l41.keepR ((KeptR.refl P.R W41).trans b42) (by omega))
          go_wp2_with fail
          go_at_call 133
          refine (ended_any r42 _ _ _ _ _ _).mono ?_
          rintro e W43 A43
          cases h43 : wantR L sSe a41 with
          | bad p er =>
           rw [h43] at A43
           obtain ⟨rfl,b43⟩:=A43
           obtain rfl : Rs.bad p er=res:=by rw [← HR.out,anyF];simp [Rs.bind,mtT,q12,q14,q16,q22,q27,q31,q35,q39,h41,h43]
           exact ⟨rfl,rfl,a0.trans (k42.trans b43)⟩
          | ok x43 a43 =>
           rw [h43] at A43
           obtain ⟨rfl,r43,b43⟩:=A43
           have g43:=(want_ge L sSe a41) _ _ h43
           have y43:=r43.le
           have k43:=k42.trans b43
           have z43:=k43.size
           obtain rfl : Rs.ok (mk0 47 ⟨#[]⟩ [x41]) a43=res:=by rw [← HR.out,anyF];simp [Rs.bind,mtT,q12,q14,q16,q22,q27,q31,q35,q39,h41,h43]
           have m0:=M0.out _ k43
           obtain ⟨⟨_,_,_,_⟩,_,_,_,_⟩:=t4 m0
           go_wp2
           refine bodyPost_ret (res_n4 Tryz.results115 (t4_set _ _ _ _ m0) rfl) rfl ?_
           exact close_ok (x:=(mk0 47 ⟨#[]⟩ [x41])) h (a0.trans k43) (l42.keepR ((KeptR.refl P.R W42).trans b43) (by omega)) (by omega) r43
end Go.Proofs.YthfkfbcopinmiaaGreatDoor
