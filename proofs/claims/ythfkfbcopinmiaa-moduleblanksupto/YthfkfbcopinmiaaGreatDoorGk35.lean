/- Own text. Package module: the rules,one by one: what is imported,what is exported. A region that draws its order: what loads from a block which nobody writes ahead of a certain operation is taken first. Package module: the members of a class so far,in memory: three lists that grow,and the names. -/
import Derived.Test.YthfkfbcopinmiaaGreatDoorGk11
import Derived.Test.YthfkfbcopinmiaaGreatDoorGk04
import Derived.OrdersHeld
set_option linter.unusedVariables false
set_option linter.unusedSimpArgs false
set_option maxRecDepth 100000
set_option maxHeartbeats 8000000
namespace Go.Proofs.YthfkfbcopinmiaaGreatDoor
open Go.RowKit
theorem importAs_any (t u : ByteArray) (w : World) : Calls Tryz.prog 82 #[.string t,.string u] w fun e w'=>∃ ad c,e = .returned (.agg #[.int .i64 61,.string t,.int .i64 0,.slice ad 1 c])∧LAt w' (fun b=>w.heap.size ≤ b) (.slice ad 1 c) [mk0 6 u []]∧Below w.heap.size w w':=by
 have bel_n : ∀ o,Below w.heap.size w (w.alloc o):=fun o=>B0.alloc le0 o
 have M0 : Hid (∀ W,Below (w.alloc zN).heap.size (w.alloc zN) W→W.heap[w.heap.size]?=some (.cells #[.int .i64 0,.string ⟨#[]⟩,.int .i64 0,.slice none 0 0] 24 (0,0))):=fun W b=>(b.block _ (by simp)).trans (heap_alloc_new w _)
 go_enter Tryz.func82,Tryz.ntmps82
 go_wp2_with fail
 go_at_call 42
 refine (node_any 6 u none 0 0 _).mono ?_
 rintro e W1 ⟨rfl,b1⟩
 go_wp2_with fail
 go_at_call 42
 refine (node_any 61 t (some ⟨W1.heap.size,0,none⟩) 1 1 _).mono ?_
 rintro e W2 ⟨rfl,b2⟩
 have j2 : W2.heap[W1.heap.size]?=_:=(b2.block _ (by simp)).trans (heap_alloc_new W1 _)
 have s1:=b1.size
 simp at s1
 have bb : Below (w.alloc zN).heap.size (w.alloc zN) W2:=(b1.trans ((((Below.refl W1.heap.size W1).alloc le0 _).trans (b2.mono (by simp))).mono b1.size))
 have m0:=M0.out _ bb
 obtain ⟨⟨_,_,_,_⟩,_,_,_,_⟩:=t4 m0
 go_wp2
 refine bodyPost_ret (res_n4 Tryz.results82 (t4_set _ _ _ _ m0) rfl) rfl ⟨_,_,rfl,?_,?_⟩
 ·refine (LAt.set4 (B:=w.heap.size+1) (C:=w.heap.size) (LAt.n1 (x:=mk0 6 u []) j2 (by show _ ≤ _;omega) (LAt.nil none 0)) (by omega) (by omega) _ _ _ _)
 ·have b0 : Below w.heap.size w W2:=(bel_n _).trans (bb.mono (by simp))
  exact (((b0.setCell le0 _).setCell le0 _).setCell le0 _).setCell le0 _
theorem star_m {L : List Tok} (hs : Small L) {w : World} {P : Pl} {a : Nat} (h : Rd w P L a mE) (hlt : a < L.length) : Calls Tryz.prog 83 #[.pointer (some ⟨P.R,0,none⟩)] w (AnsN P L mE w (starM L a)):=by
 have hRw:=h.lt
 have hle:=h.le
 obtain ⟨h0,a0,z0,M0⟩:=begin_cell h
 obtain ⟨res,hres⟩ : ∃ r,starM L a=r:=⟨_,rfl⟩
 have HR : Hid (starM L a=res):=hres
 rw [hres]
 clear hres
 go_enter Tryz.func83,Tryz.ntmps83
 go_wp2_with fail
 go_at_call 37
 refine (pass_any h0 hlt (hs.at _)).mono ?_
 rintro e W1 ⟨rfl,r1,b1⟩
 have k1:=(KeptR.refl P.R (w.alloc zN)).trans b1
 have z1:=k1.size
 have y1:=r1.le
 cases q2 : isNm L (a+1) nAs with
 | true =>
  have T2:=takeName_any r1 nAs
  rw [q2] at T2
  have u2:=isNm_lt q2
  go_wp2_with fail
  go_at_call 86
  refine T2.mono ?_
  rintro e W2 ⟨rfl,r2',b2⟩
  have r2 : Rd W2 P L (a+1+1) mE:=r2'
  clear r2'
  have k2:=k1.trans b2
  have z2:=k2.size
  have y2:=r2.le
  go_wp2_with fail
  go_at_call 38
  refine (id_any r2 hs).mono ?_
  rintro e W3 A3
  cases h3 : idR L (a+1+1) with
  | bad p er =>
   rw [h3] at A3
   obtain ⟨rfl,b3⟩:=A3
   obtain rfl : Rs.bad p er=res:=by rw [← HR.out,starM];simp [Rs.bind,mtT,endM,nameM,q2,h3]
   exact ⟨rfl,rfl,a0.trans (k2.trans b3)⟩
  | ok x3 a3 =>
   rw [h3] at A3
   obtain ⟨rfl,r3,b3⟩:=A3
   have g3:=(id_ge L (a+1+1)) _ _ h3
   have y3:=r3.le
   have k3:=k2.trans b3
   have z3:=k3.size
   go_wp2_with fail
   go_at_call 82
   refine (importAs_any (tokA L a).t x3 _).mono ?_
   rintro e W4 ⟨ad4,c4,rfl,l4',b4'⟩
   have r4:=r3.bel b4'
   have b4:=KeptR.of (b:=P.R) b4'
   have k4:=k3.trans b4
   have z4:=k4.size
   have l4:=l4'.mono (T:=fun b=>w.heap.size+1 ≤ b) (fun b hb=>by have:=k3.size;omega)
   obtain rfl : Rs.ok (impAs ((tokA L a).t) x3) a3=res:=by rw [← HR.out,starM];simp [Rs.bind,mtT,endM,nameM,q2,h3]
   have m0:=M0.out _ k4
   obtain ⟨⟨_,_,_,_⟩,_,_,_,_⟩:=t4 m0
   go_wp2
   refine bodyPost_ret (res_n4 Tryz.results83 (t4_set _ _ _ _ m0) rfl) rfl ?_
   exact close_ok (x:=(impAs ((tokA L a).t) x3)) h (a0.trans k4) (l4.keepR (KeptR.refl P.R W4) (by omega)) (by omega) r4
 | false =>
  have T2:=takeName_any r1 nAs
  rw [q2] at T2
  go_wp2_with fail
  go_at_call 86
  refine T2.mono ?_
  rintro e W2 ⟨rfl,r2',b2⟩
  have r2 : Rd W2 P L (a+1) mE:=r2'
  clear r2'
  have k2:=k1.trans b2
  have z2:=k2.size
  have y2:=r2.le
  go_wp2_with fail
  go_at_call 72
  refine (wrong_any r2).mono ?_
  rintro e W5 ⟨rfl,b5'⟩
  obtain rfl : Rs.bad (a+1) 60=res:=by rw [← HR.out,starM];simp [Rs.bind,mtT,endM,nameM,q2]
  go_wp2
  exact ⟨rfl,rfl,a0.trans (k2.trans (.of b5'))⟩
theorem importOne_m {L : List Tok} (hs : Small L) {w : World} {P : Pl} {a : Nat} (h : Rd w P L a mE) : Calls Tryz.prog 85 #[.pointer (some ⟨P.R,0,none⟩)] w (AnsN P L mE w (importOneM L a)):=by
 have hRw:=h.lt
 have hle:=h.le
 obtain ⟨h0,a0,z0,M0⟩:=begin_cell h
 obtain ⟨res,hres⟩ : ∃ r,importOneM L a=r:=⟨_,rfl⟩
 have HR : Hid (importOneM L a=res):=hres
 rw [hres]
 clear hres
 go_enter Tryz.func85,Tryz.ntmps85
 cases q6 : isN L a with
 | true =>
  have T6:=standsId_any h0
  rw [q6] at T6
  have u6:=isN_lt q6
  go_wp2_with fail
  go_at_call 71
  refine T6.mono ?_
  rintro e W6 ⟨rfl,b6'⟩
  have r6:=h0.bel b6'
  have b6:=KeptR.of (b:=P.R) b6'
  have k6:=(KeptR.refl P.R (w.alloc zN)).trans b6
  have z6:=k6.size
  have y6:=r6.le
  go_wp2_with fail
  go_at_call 76
  refine (prop_any r6 hs).mono ?_
  rintro e W7 A7
  cases h7 : propR' L a with
  | bad p er =>
   rw [h7] at A7
   obtain ⟨rfl,b7⟩:=A7
   obtain rfl : Rs.bad p er=res:=by rw [← HR.out,importOneM];simp [Rs.bind,mtT,endM,nameM,q6,h7]
   exact ⟨rfl,rfl,a0.trans (k6.trans b7)⟩
  | ok x7 a7 =>
   rw [h7] at A7
   obtain ⟨rfl,r7,b7⟩:=A7
   have g7:=(prop_ge L a) _ _ h7
   have y7:=r7.le
   have k7:=k6.trans b7
   have z7:=k7.size
   cases q8 : isNm L a7 nAs with
   | true =>
    have T8:=takeName_any r7 nAs
    rw [q8] at T8
    have u8:=isNm_lt q8
    go_wp2_with fail
    go_at_call 86
    refine T8.mono ?_
    rintro e W8 ⟨rfl,r8',b8⟩
    have r8 : Rd W8 P L (a7+1) mE:=r8'
    clear r8'
    have k8:=k7.trans b8
    have z8:=k8.size
    have y8:=r8.le
    go_wp2_with fail
    go_at_call 38
    refine (id_any r8 hs).mono ?_
    rintro e W9 A9
    cases h9 : idR L (a7+1) with
    | bad p er =>
     rw [h9] at A9
     obtain ⟨rfl,b9⟩:=A9
     obtain rfl : Rs.bad p er=res:=by rw [← HR.out,importOneM];simp [Rs.bind,mtT,endM,nameM,q6,h7,q8,h9]
     exact ⟨rfl,rfl,a0.trans (k8.trans b9)⟩
    | ok x9 a9 =>
     rw [h9] at A9
     obtain ⟨rfl,r9,b9⟩:=A9
     have g9:=(id_ge L (a7+1)) _ _ h9
     have y9:=r9.le
     have k9:=k8.trans b9
     have z9:=k9.size
     go_wp2_with fail
     go_at_call 82
     refine (importAs_any x7 x9 _).mono ?_
     rintro e W10 ⟨ad10,c10,rfl,l10',b10'⟩
     have r10:=r9.bel b10'
     have b10:=KeptR.of (b:=P.R) b10'
     have k10:=k9.trans b10
     have z10:=k10.size
     have l10:=l10'.mono (T:=fun b=>w.heap.size+1 ≤ b) (fun b hb=>by have:=k9.size;omega)
     obtain rfl : Rs.ok (impAs x7 x9) a9=res:=by rw [← HR.out,importOneM];simp [Rs.bind,mtT,endM,nameM,q6,h7,q8,h9]
     have m0:=M0.out _ k10
     obtain ⟨⟨_,_,_,_⟩,_,_,_,_⟩:=t4 m0
     go_wp2
     refine bodyPost_ret (res_n4 Tryz.results85 (t4_set _ _ _ _ m0) rfl) rfl ?_
     exact close_ok (x:=(impAs x7 x9)) h (a0.trans k10) (l10.keepR (KeptR.refl P.R W10) (by omega)) (by omega) r10
   | false =>
    have T8:=takeName_any r7 nAs
    rw [q8] at T8
    go_wp2_with fail
    go_at_call 86
    refine T8.mono ?_
    rintro e W8 ⟨rfl,r8',b8⟩
    have r8 : Rd W8 P L a7 mE:=r8'
    clear r8'
    have k8:=k7.trans b8
    have z8:=k8.size
    have y8:=r8.le
    go_wp2_with fail
    go_at_call 70
    refine (clone_any x7 _ (by have:=hs.at a;rw [← propR_t h7] at this;omega)).mono ?_
    rintro e W11 ⟨rfl,b11'⟩
    have r11:=r8.bel b11'
    have b11:=KeptR.of (b:=P.R) b11'
    have k11:=k8.trans b11
    have z11:=k11.size
    go_wp2_with fail
    go_at_call 82
    refine (importAs_any x7 x7 _).mono ?_
    rintro e W12 ⟨ad12,c12,rfl,l12',b12'⟩
    have r12:=r11.bel b12'
    have b12:=KeptR.of (b:=P.R) b12'
    have k12:=k11.trans b12
    have z12:=k12.size
    have l12:=l12'.mono (T:=fun b=>w.heap.size+1 ≤ b) (fun b hb=>by have:=k11.size;omega)
    obtain rfl : Rs.ok (impAs x7 x7) a7=res:=by rw [← HR.out,importOneM];simp [Rs.bind,mtT,endM,nameM,q6,h7,q8]
    have m0:=M0.out _ k12
    obtain ⟨⟨_,_,_,_⟩,_,_,_,_⟩:=t4 m0
    go_wp2
    refine bodyPost_ret (res_n4 Tryz.results85 (t4_set _ _ _ _ m0) rfl) rfl ?_
    exact close_ok (x:=(impAs x7 x7)) h (a0.trans k12) (l12.keepR (KeptR.refl P.R W12) (by omega)) (by omega) r12
 | false =>
  have T6:=standsId_any h0
  rw [q6] at T6
  go_wp2_with fail
  go_at_call 71
  refine T6.mono ?_
  rintro e W6 ⟨rfl,b6'⟩
  have r6:=h0.bel b6'
  have b6:=KeptR.of (b:=P.R) b6'
  have k6:=(KeptR.refl P.R (w.alloc zN)).trans b6
  have z6:=k6.size
  have y6:=r6.le
  go_wp2_with fail
  go_at_call 76
  refine (prop_any r6 hs).mono ?_
  rintro e W13 A13
  cases h13 : propR' L a with
  | bad p er =>
   rw [h13] at A13
   obtain ⟨rfl,b13⟩:=A13
   obtain rfl : Rs.bad p er=res:=by rw [← HR.out,importOneM];simp [Rs.bind,mtT,endM,nameM,q6,h13]
   exact ⟨rfl,rfl,a0.trans (k6.trans b13)⟩
  | ok x13 a13 =>
   rw [h13] at A13
   obtain ⟨rfl,r13,b13⟩:=A13
   have g13:=(prop_ge L a) _ _ h13
   have y13:=r13.le
   have k13:=k6.trans b13
   have z13:=k13.size
   cases q14 : isNm L a13 nAs with
   | true =>
    have T14:=takeName_any r13 nAs
    rw [q14] at T14
    have u14:=isNm_lt q14
    go_wp2_with fail
    go_at_call 86
    refine T14.mono ?_
    rintro e W14 ⟨rfl,r14',b14⟩
    have r14 : Rd W14 P L (a13+1) mE:=r14'
    clear r14'
    have k14:=k13.trans b14
    have z14:=k14.size
    have y14:=r14.le
    go_wp2_with fail
    go_at_call 38
    refine (id_any r14 hs).mono ?_
    rintro e W15 A15
    cases h15 : idR L (a13+1) with
    | bad p er =>
     rw [h15] at A15
     obtain ⟨rfl,b15⟩:=A15
     obtain rfl : Rs.bad p er=res:=by rw [← HR.out,importOneM];simp [Rs.bind,mtT,endM,nameM,q6,h13,q14,h15]
     exact ⟨rfl,rfl,a0.trans (k14.trans b15)⟩
    | ok x15 a15 =>
     rw [h15] at A15
     obtain ⟨rfl,r15,b15⟩:=A15
     have g15:=(id_ge L (a13+1)) _ _ h15
     have y15:=r15.le
     have k15:=k14.trans b15
     have z15:=k15.size
     go_wp2_with fail
     go_at_call 82
     refine (importAs_any x13 x15 _).mono ?_
     rintro e W16 ⟨ad16,c16,rfl,l16',b16'⟩
     have r16:=r15.bel b16'
     have b16:=KeptR.of (b:=P.R) b16'
     have k16:=k15.trans b16
     have z16:=k16.size
     have l16:=l16'.mono (T:=fun b=>w.heap.size+1 ≤ b) (fun b hb=>by have:=k15.size;omega)
     obtain rfl : Rs.ok (impAs x13 x15) a15=res:=by rw [← HR.out,importOneM];simp [Rs.bind,mtT,endM,nameM,q6,h13,q14,h15]
     have m0:=M0.out _ k16
     obtain ⟨⟨_,_,_,_⟩,_,_,_,_⟩:=t4 m0
     go_wp2
     refine bodyPost_ret (res_n4 Tryz.results85 (t4_set _ _ _ _ m0) rfl) rfl ?_
     exact close_ok (x:=(impAs x13 x15)) h (a0.trans k16) (l16.keepR (KeptR.refl P.R W16) (by omega)) (by omega) r16
   | false =>
    have T14:=takeName_any r13 nAs
    rw [q14] at T14
    go_wp2_with fail
    go_at_call 86
    refine T14.mono ?_
    rintro e W14 ⟨rfl,r14',b14⟩
    have r14 : Rd W14 P L a13 mE:=r14'
    clear r14'
    have k14:=k13.trans b14
    have z14:=k14.size
    have y14:=r14.le
    go_wp2_with fail
    go_at_call 72
    refine (wrong_any r14).mono ?_
    rintro e W17 ⟨rfl,b17'⟩
    obtain rfl : Rs.bad a13 60=res:=by rw [← HR.out,importOneM];simp [Rs.bind,mtT,endM,nameM,q6,h13,q14]
    go_wp2
    exact ⟨rfl,rfl,a0.trans (k14.trans (.of b17'))⟩
theorem exportOne_m {L : List Tok} (hs : Small L) {w : World} {P : Pl} {a : Nat} (h : Rd w P L a mE) : Calls Tryz.prog 90 #[.pointer (some ⟨P.R,0,none⟩)] w (AnsN P L mE w (exportOneM L a)):=by
 have hRw:=h.lt
 have hle:=h.le
 obtain ⟨h0,a0,z0,M0⟩:=begin_cell h
 obtain ⟨res,hres⟩ : ∃ r,exportOneM L a=r:=⟨_,rfl⟩
 have HR : Hid (exportOneM L a=res):=hres
 rw [hres]
 clear hres
 go_enter Tryz.func90,Tryz.ntmps90
 go_wp2_with fail
 go_at_call 76
 refine (prop_any h0 hs).mono ?_
 rintro e W18 A18
 cases h18 : propR' L a with
 | bad p er =>
  rw [h18] at A18
  obtain ⟨rfl,b18⟩:=A18
  obtain rfl : Rs.bad p er=res:=by rw [← HR.out,exportOneM];simp [Rs.bind,mtT,endM,nameM,h18]
  exact ⟨rfl,rfl,a0.trans ((KeptR.refl P.R (w.alloc zN)).trans b18)⟩
 | ok x18 a18 =>
  rw [h18] at A18
  obtain ⟨rfl,r18,b18⟩:=A18
  have g18:=(prop_ge L a) _ _ h18
  have y18:=r18.le
  have k18:=(KeptR.refl P.R (w.alloc zN)).trans b18
  have z18:=k18.size
  cases q19 : isNm L a18 nAs with
  | true =>
   have T19:=takeName_any r18 nAs
   rw [q19] at T19
   have u19:=isNm_lt q19
   go_wp2_with fail
   go_at_call 86
   refine T19.mono ?_
   rintro e W19 ⟨rfl,r19',b19⟩
   have r19 : Rd W19 P L (a18+1) mE:=r19'
   clear r19'
   have k19:=k18.trans b19
   have z19:=k19.size
   have y19:=r19.le
   go_wp2_with fail
   go_at_call 76
   refine (prop_any r19 hs).mono ?_
   rintro e W20 A20
   cases h20 : propR' L (a18+1) with
   | bad p er =>
    rw [h20] at A20
    obtain ⟨rfl,b20⟩:=A20
    obtain rfl : Rs.bad p er=res:=by rw [← HR.out,exportOneM];simp [Rs.bind,mtT,endM,nameM,h18,q19,h20]
    exact ⟨rfl,rfl,a0.trans (k19.trans b20)⟩
   | ok x20 a20 =>
    rw [h20] at A20
    obtain ⟨rfl,r20,b20⟩:=A20
    have g20:=(prop_ge L (a18+1)) _ _ h20
    have y20:=r20.le
    have k20:=k19.trans b20
    have z20:=k20.size
    by_cases e21 : x20.toList=x18.toList
    ·have f21 : (x20.toList == x18.toList)=true:=by simp [e21]
     have E21 : Hid (x20.toList=x18.toList):=e21
     clear e21
     go_wp2_with fail
     go_at_call 42
     refine (node_any 14 ⟨#[]⟩ none 0 0 _).mono ?_
     rintro e W22 ⟨rfl,b22'⟩
     have r22:=r20.bel b22'
     have b22:=KeptR.of (b:=P.R) b22'
     have k22:=k20.trans b22
     have z22:=k22.size
     go_wp2_with fail
     go_at_call 42
     refine (node_any 65 x18 (some ⟨W22.heap.size,0,none⟩) 1 1 _).mono ?_
     rintro e W23 ⟨rfl,b23'⟩
     have j23 : W23.heap[W22.heap.size]?=_:=(b23'.block _ (by simp)).trans (heap_alloc_new W22 _)
     have r23:=(r22.bel (B0.alloc le0 _)).bel b23'
     have b23 : KeptR P.R W22 W23:=(KeptR.of (B0.alloc le0 _)).trans (.of b23')
     have k23:=k22.trans b23
     have z23:=k23.size
     have l23 : LAt W23 (fun b=>w.heap.size+1 ≤ b) (.slice (some ⟨W22.heap.size,0,none⟩) 1 1) [noneN]:=LAt.n1 j23 (by have:=k22.size;show _ ≤ _;omega) (LAt.nil (S:=fun b=>w.heap.size+1 ≤ b) none 0)
     obtain rfl : Rs.ok (mk0 65 x18 [noneN]) a20=res:=by rw [← HR.out,exportOneM];simp [Rs.bind,mtT,endM,nameM,h18,q19,h20,E21.out]
     have m0:=M0.out _ k23
     obtain ⟨⟨_,_,_,_⟩,_,_,_,_⟩:=t4 m0
     go_wp2
     refine bodyPost_ret (res_n4 Tryz.results90 (t4_set _ _ _ _ m0) rfl) rfl ?_
     exact close_ok (x:=(mk0 65 x18 [noneN])) h (a0.trans k23) (l23.keepR (KeptR.refl P.R W23) (by omega)) (by omega) r23
    ·have f21 : (x20.toList == x18.toList)=false:=by simpa using e21
     have E21 : Hid (¬ x20.toList=x18.toList):=e21
     clear e21
     go_wp2_with fail
     go_at_call 42
     refine (node_any 6 x20 none 0 0 _).mono ?_
     rintro e W25 ⟨rfl,b25'⟩
     have r25:=r20.bel b25'
     have b25:=KeptR.of (b:=P.R) b25'
     have k25:=k20.trans b25
     have z25:=k25.size
     go_wp2_with fail
     go_at_call 42
     refine (node_any 65 x18 (some ⟨W25.heap.size,0,none⟩) 1 1 _).mono ?_
     rintro e W26 ⟨rfl,b26'⟩
     have j26 : W26.heap[W25.heap.size]?=_:=(b26'.block _ (by simp)).trans (heap_alloc_new W25 _)
     have r26:=(r25.bel (B0.alloc le0 _)).bel b26'
     have b26 : KeptR P.R W25 W26:=(KeptR.of (B0.alloc le0 _)).trans (.of b26')
     have k26:=k25.trans b26
     have z26:=k26.size
     have l26 : LAt W26 (fun b=>w.heap.size+1 ≤ b) (.slice (some ⟨W25.heap.size,0,none⟩) 1 1) [(mk0 6 x20 [])]:=LAt.n1 j26 (by have:=k25.size;show _ ≤ _;omega) (LAt.nil (S:=fun b=>w.heap.size+1 ≤ b) none 0)
     obtain rfl : Rs.ok (mk0 65 x18 [(mk0 6 x20 [])]) a20=res:=by rw [← HR.out,exportOneM];simp [Rs.bind,mtT,endM,nameM,h18,q19,h20,E21.out]
     have m0:=M0.out _ k26
     obtain ⟨⟨_,_,_,_⟩,_,_,_,_⟩:=t4 m0
     go_wp2
     refine bodyPost_ret (res_n4 Tryz.results90 (t4_set _ _ _ _ m0) rfl) rfl ?_
     exact close_ok (x:=(mk0 65 x18 [(mk0 6 x20 [])])) h (a0.trans k26) (l26.keepR (KeptR.refl P.R W26) (by omega)) (by omega) r26
  | false =>
   have T19:=takeName_any r18 nAs
   rw [q19] at T19
   go_wp2_with fail
   go_at_call 86
   refine T19.mono ?_
   rintro e W19 ⟨rfl,r19',b19⟩
   have r19 : Rd W19 P L a18 mE:=r19'
   clear r19'
   have k19:=k18.trans b19
   have z19:=k19.size
   have y19:=r19.le
   go_wp2_with fail
   go_at_call 42
   refine (node_any 14 ⟨#[]⟩ none 0 0 _).mono ?_
   rintro e W27 ⟨rfl,b27'⟩
   have r27:=r19.bel b27'
   have b27:=KeptR.of (b:=P.R) b27'
   have k27:=k19.trans b27
   have z27:=k27.size
   go_wp2_with fail
   go_at_call 42
   refine (node_any 65 x18 (some ⟨W27.heap.size,0,none⟩) 1 1 _).mono ?_
   rintro e W28 ⟨rfl,b28'⟩
   have j28 : W28.heap[W27.heap.size]?=_:=(b28'.block _ (by simp)).trans (heap_alloc_new W27 _)
   have r28:=(r27.bel (B0.alloc le0 _)).bel b28'
   have b28 : KeptR P.R W27 W28:=(KeptR.of (B0.alloc le0 _)).trans (.of b28')
   have k28:=k27.trans b28
   have z28:=k28.size
   have l28 : LAt W28 (fun b=>w.heap.size+1 ≤ b) (.slice (some ⟨W27.heap.size,0,none⟩) 1 1) [noneN]:=LAt.n1 j28 (by have:=k27.size;show _ ≤ _;omega) (LAt.nil (S:=fun b=>w.heap.size+1 ≤ b) none 0)
   obtain rfl : Rs.ok (mk0 65 x18 [noneN]) a18=res:=by rw [← HR.out,exportOneM];simp [Rs.bind,mtT,endM,nameM,h18,q19]
   have m0:=M0.out _ k28
   obtain ⟨⟨_,_,_,_⟩,_,_,_,_⟩:=t4 m0
   go_wp2
   refine bodyPost_ret (res_n4 Tryz.results90 (t4_set _ _ _ _ m0) rfl) rfl ?_
   exact close_ok (x:=(mk0 65 x18 [noneN])) h (a0.trans k28) (l28.keepR (KeptR.refl P.R W28) (by omega)) (by omega) r28
section
variable {PP : Program} {ops : Array Oper} {Q : Exit→Act→World→Prop} {md : Region.Mode} {S : World→Prop} {u : Nat}
def wpAnyU (PP : Program) (md : Region.Mode) (ops : Array Oper) (Q : Exit→Act→World→Prop) (S : World→Prop) (u : Nat) : Nat→Array Bool→Act→World→Prop
 | 0,listed,a,w=>Region.ready md ops listed=[]∧Q .normal a w
 | fuel+1,listed,a,w=>(Region.ready md ops listed=[]→Q .normal a w)∧∀ i ∈ Region.ready md ops listed,wpOp PP ops Q i (fun a' w'=>if i=u then wpAny PP md ops Q fuel (listed.setIfInBounds i true) a' w' else S w'∧wpAnyU PP md ops Q S u fuel (listed.setIfInBounds i true) a' w') a w
theorem any_of_U : ∀ (fuel : Nat) (listed : Array Bool) (a : Act) (w : World),wpAnyU PP md ops Q S u fuel listed a w→wpAny PP md ops Q fuel listed a w
 | 0,_,_,_,h=>h
 | fuel+1,_,_,_,h=>⟨h.1,fun i hi=>wpOp_mono (fun a' w' h'=>by
  split at h'
  ·exact h'
  ·exact any_of_U fuel _ a' w' h'.2) (h.2 i hi)⟩
def waits (md : Region.Mode) (ops : Array Oper) (u i : Nat) : Bool:=match ops[u]? with
 | some o=>o.after.any fun e=>Region.binds md e && e.on == i
 | none=>false
theorem edge_free {listed : Array Bool} {i j : Nat} {oj : Oper} (hr : i ∈ Region.ready md ops listed) (hj : j ∈ Region.ready md ops listed) (hoj : ops[j]?=some oj) {e : Edge} (he : e ∈ oj.after) (hb : Region.binds md e=true) : e.on ≠ i:=by
 rintro rfl
 obtain ⟨h0,_⟩:=Go.mem_ready.1 hr
 obtain ⟨_,o,ho,hall⟩:=Go.mem_ready.1 hj
 obtain rfl : o=oj:=by rw [ho] at hoj;injection hoj
 have h1:=hall e he hb
 by_cases hl : e.on < listed.size
 ·simp only [hl,Array.getD,dite_true,Array.getElem?_eq_getElem] at h0 h1
  simp_all
 ·simp_all [Array.getD]
theorem unlisted {listed : Array Bool} {j k : Nat} (h : (listed.setIfInBounds j true).getD k true=false) : listed.getD k true=false:=by
 by_cases hjk : j=k
 ·exfalso
  subst hjk
  simp [Array.getD] at h
 ·rwa [getD_set_ne true hjk] at h
theorem U_first {i : Nat} {oi : Oper} {v : Value} (hi : ops[i]?=some oi) (hsel : ∀ (j : Nat) (o : Oper) cs b,ops[j]?=some o→o.op ≠ .select cs b)
 (hQ : ∀ c a w,Q (.panic c) (a.put oi.dst v) w→Q (.panic c) a w) (hiu : i ≠ u) (hu : waits md ops u i=true) (fuel : Nat) :
 ∀ (listed : Array Bool) (a : Act) (w : World),
   (∀ j oj,ops[j]?=some oj→j ≠ i→listed.getD j true=false→(∀ e ∈ oj.after,Region.binds md e=true→e.on ≠ i)→oi.apart ops oj=true) →
   i ∈ Region.ready md ops listed→YieldsIf PP ops S oi v a→S w →
   wpAnyU PP md ops Q S u fuel (listed.setIfInBounds i true) (a.put oi.dst v) w→wpAnyU PP md ops Q S u (fuel+1) listed a w:=by
 have hju : ∀ {listed : Array Bool} {j : Nat},i ∈ Region.ready md ops listed→j ∈ Region.ready md ops listed→j ≠ u:=by
  rintro listed j hr hj rfl
  obtain ⟨_,oj,hoj,_⟩:=Go.mem_ready.1 hj
  simp only [waits,hoj,Array.any_eq_true,Bool.and_eq_true,beq_iff_eq] at hu
  obtain ⟨k,hk,h1,h2⟩:=hu
  exact edge_free hr hj hoj (Array.getElem_mem hk) h1 h2
 induction fuel with
 | zero =>
  intro listed a w _ hr hy hS H
  have none : ∀ j ∈ Region.ready md ops listed,j=i:=fun j hj=>Classical.byContradiction fun hji=>by
   have:=ready_mono hj hji
   rw [H.1] at this
   cases this
  refine ⟨fun h0=>?_,fun j hj=>?_⟩
  ·rw [h0] at hr;cases hr
  ·cases none j hj
   exact hy.wpOp hi hS (by rw [if_neg hiu];exact ⟨hS,H⟩)
 | succ fuel ih =>
  intro listed a w hfree hr hy hS H
  refine ⟨fun h0=>?_,fun j hj=>?_⟩
  ·rw [h0] at hr;cases hr
  by_cases hji : j=i
  ·cases hji
   exact hy.wpOp hi hS (by rw [if_neg hiu];exact ⟨hS,H⟩)
  obtain ⟨hjun,oj,hoj,_⟩:=Go.mem_ready.1 hj
  have hne:=hju hr hj
  have hap:=hfree j oj hoj hji hjun (fun e he hb=>edge_free hr hj hoj he hb)
  refine wpOp_mono ?_ (wpOp_putIf hoj hap (fun cs b=>hsel i oi cs b hi) (fun cs b=>hsel j oj cs b hoj) hQ hy (H.2 j (ready_mono hj hji)))
  rintro a' w' ⟨hy',hW⟩
  rw [if_neg hne] at hW ⊢
  refine ⟨hW.1,ih _ _ _ (fun k ok hk hki hun=>hfree k ok hk hki (unlisted hun)) (ready_mono hr (Ne.symm hji)) hy' hW.1 ?_⟩
  rw [Array.setIfInBounds_comm _ _ hji]
  exact hW.2
theorem U_take {i : Nat} {oi : Oper} {v : Value} {fuel : Nat} {listed : Array Bool} {a : Act} {w : World} (hi : ops[i]?=some oi)
 (hs : Region.noSelect ops=true) (hf : Region.free md ops listed i=true) (hr : (Region.ready md ops listed).contains i=true) (hu : (waits md ops u i && decide (i ≠ u))=true)
 (hQ : ∀ c a w,Q (.panic c) (a.put oi.dst v) w→Q (.panic c) a w) (hy : YieldsIf PP ops S oi v a) (hS : S w)
 (h : wpAnyU PP md ops Q S u fuel (listed.setIfInBounds i true) (a.put oi.dst v) w) : wpAnyU PP md ops Q S u (fuel+1) listed a w:=by
 rw [Bool.and_eq_true,decide_eq_true_eq] at hu
 exact U_first hi (Region.noSelect_spec hs) hQ hu.2 hu.1 fuel listed a w (Region.free_spec hi hf) (by simpa using hr) hy hS h
theorem wp_region_U {id : Nat} {a : Act} {w : World} (hm : PP.follows .mixedOrders=true) (h : wpAnyU PP .any ops Q S u ops.size (Array.replicate ops.size false) a w.drew) : (Code.region id ops true).wp PP Q a w :=
 wp_region_any hm (any_of_U _ _ _ _ h)
theorem U_end {fuel : Nat} {listed : Array Bool} {a : Act} {w : World} (hr : Region.ready md ops listed=[u]) (h : wpAny PP md ops Q (fuel+1) listed a w) : wpAnyU PP md ops Q S u (fuel+1) listed a w :=
 ⟨h.1,fun i hi=>by
  have h1:=h.2 i hi
  rw [hr] at hi
  obtain rfl : i=u:=by simpa using hi
  simpa using h1⟩
def AllU (PP : Program) (md : Region.Mode) (ops : Array Oper) (Q : Exit→Act→World→Prop) (S : World→Prop) (u : Nat) (fuel : Nat) (listed : Array Bool) (a : Act) (w : World) (rs : List Nat) : Prop :=
 ∀ i ∈ rs,wpOp PP ops Q i (fun a' w'=>if i=u then wpAny PP md ops Q fuel (listed.setIfInBounds i true) a' w' else S w'∧wpAnyU PP md ops Q S u fuel (listed.setIfInBounds i true) a' w') a w
theorem AllU.nil {fuel : Nat} {listed : Array Bool} {a : Act} {w : World} : AllU PP md ops Q S u fuel listed a w []:=fun _ h=>by cases h
theorem AllU.cons {fuel : Nat} {listed : Array Bool} {a : Act} {w : World} {i : Nat} {o : Oper} {rs : List Nat} (ho : ops[i]?=some o) (hiu : i ≠ u)
 (h : ∀ K' : Act→World→Prop,Hid (∀ a w,S w→wpAnyU PP md ops Q S u fuel (listed.setIfInBounds i true) a w→K' a w)→if Region.wanted o (yielded ops a.tmps)=true then Oper.wp PP o a w K' Q else K' (a.put o.dst undef) w)
 (hs : AllU PP md ops Q S u fuel listed a w rs) : AllU PP md ops Q S u fuel listed a w (i :: rs):=fun j hj=>by
 rcases List.mem_cons.1 hj with rfl | hj
 ·refine wpOp_step ho (fun K' hK=>h K' (fun a w hS hW=>hK a w ?_))
  rw [if_neg hiu]
  exact ⟨hS,hW⟩
 ·exact hs j hj
theorem U_ready {rs : List Nat} {fuel : Nat} {listed : Array Bool} {a : Act} {w : World} (hr : Region.ready md ops listed=rs) (hne : rs ≠ [])
 (h : AllU PP md ops Q S u fuel listed a w rs) : wpAnyU PP md ops Q S u (fuel+1) listed a w :=
 ⟨fun h0=>absurd (hr.symm.trans h0) hne,fun i hi=>h i (by rw [← hr];exact hi)⟩
end
end Go.Proofs.YthfkfbcopinmiaaGreatDoor
set_option linter.unusedVariables false
set_option linter.unusedSimpArgs false
namespace Go.Proofs.YthfkfbcopinmiaaGreatDoor
open Go.RowKit Go.Maps
structure MemAt (B : Nat) (w : World) (MB MN : Nat) (v : Nat→Value) (F : Nat→List (Nd × Value)) (ns : List (List UInt8)) : Prop where
 blk : w.heap[MB]?=some (.cells #[v 0,v 1,v 2,.map (some MN)] 86 (0,0))
 own : ∀ i,i < 3→w.ownsRow B 24 4 (v i) (F i).length (rowN (F i))
 kids : ∀ i,i < 3→∀ p ∈ F i,LAt w (fun b=>B ≤ b∧∀ j,j < 3→(v j).ownBlock ≠ some b) p.2 p.1.ks
 dis : ∀ i j,i < 3→j < 3→i ≠ j→∀ g,(v i).ownBlock=some g→(v j).ownBlock ≠ some g
 nm : NM w MN ns
 lt : MB < B∧MN < B∧MB ≠ MN
 le : B ≤ w.heap.size
theorem MemAt.keep {B MB MN : Nat} {w w' : World} {v : Nat→Value} {F : Nat→List (Nd × Value)} {ns ns' : List (List UInt8)} (h : MemAt B w MB MN v F ns) (hs : w.heap.size ≤ w'.heap.size) (hb : ∀ b,B ≤ b→b < w.heap.size→w'.heap[b]?=w.heap[b]?) (hm : w'.heap[MB]?=w.heap[MB]?) (hn : NM w' MN ns') : MemAt B w' MB MN v F ns':=by
 refine ⟨hm.trans h.blk,fun i hi=>⟨(h.own i hi).1,?_⟩,fun i hi p hp=>(h.kids i hi p hp).keep hs (fun b hS hl=>hb b hS.1 hl),h.dis,hn,h.lt,Nat.le_trans h.le hs⟩
 rcases (h.own i hi).2 with e | ⟨g,cap,cur,e1,e2,e3,e4⟩
 ·exact .inl e
 ·exact .inr ⟨g,cap,cur,e1,e2,(hb g e2 (Array.getElem?_eq_some_iff.1 e3).1).trans e3,e4⟩
theorem MemAt.keepR {B MB MN R : Nat} {w w' : World} {v : Nat→Value} {F : Nat→List (Nd × Value)} {ns : List (List UInt8)} (h : MemAt B w MB MN v F ns) (k : KeptR R w w') (hR : R < B) (h1 : R ≠ MB) (h2 : R ≠ MN) : MemAt B w' MB MN v F ns :=
 h.keep k.size (fun b h3 h4=>k.block b h4 (by omega)) (k.block MB (by have:=h.lt;have:=h.le;omega) (by omega)) (h.nm.keep (k.block MN h.nm.lt (by omega)))
def upd {α : Type} (f : Nat→α) (i : Nat) (u : α) : Nat→α:=fun j=>if j=i then u else f j
theorem upd_same {α : Type} (f : Nat→α) (i : Nat) (u : α) : upd f i u i=u:=if_pos rfl
theorem upd_other {α : Type} (f : Nat→α) (i j : Nat) (u : α) (h : j ≠ i) : upd f i u j=f j:=if_neg h
theorem MemAt.push {B MB MN i gg cap N : Nat} {W1 W3 W4 : World} {v : Nat→Value} {F : Nat→List (Nd × Value)} {ns : List (List UInt8)} {x : Nd} {v1 : Value} (h : MemAt B W1 MB MN v F ns) (hi : i < 3)
 (hN : ∀ j,j < 3→∀ g,(v j).ownBlock=some g→g < N) (l1 : LAt W1 (fun b=>N ≤ b∧B ≤ b) v1 x.ks)
 (hs : W1.heap.size ≤ W3.heap.size) (hb : ∀ k,k < W1.heap.size→some k ≠ (v i).ownBlock→W3.heap[k]?=W1.heap[k]?) (hat : (v i).ownBlock=some gg ∨ W1.heap.size ≤ gg)
 (hown : W3.ownsRow B 24 4 (.slice (some ⟨gg,0,none⟩) ((F i).length+1) cap) ((F i).length+1) (rowN (F i) ++ [.int .i64 x.k,.string x.t,.int .i64 x.n,v1]))
 (h4 : W4.heap.size=W3.heap.size) (hb4 : ∀ k,k ≠ MB→W4.heap[k]?=W3.heap[k]?) (hm4 : W4.heap[MB]?=some (.cells #[upd v i (.slice (some ⟨gg,0,none⟩) ((F i).length+1) cap) 0,upd v i (.slice (some ⟨gg,0,none⟩) ((F i).length+1) cap) 1,upd v i (.slice (some ⟨gg,0,none⟩) ((F i).length+1) cap) 2,.map (some MN)] 86 (0,0))) :
 MemAt B W4 MB MN (upd v i (.slice (some ⟨gg,0,none⟩) ((F i).length+1) cap)) (upd F i (F i ++ [(x,v1)])) ns:=by
 have hlt:=h.lt
 have hle:=h.le
 have olt : ∀ j,j < 3→∀ g,(v j).ownBlock=some g→B ≤ g∧g < W1.heap.size:=fun j hj g hg=>row_lt (h.own j hj) g hg
 have hggB : B ≤ gg:=by rcases hat with e | e;exact (olt i hi gg e).1;omega
 have obs : (Value.slice (some ⟨gg,0,none⟩) ((F i).length+1) cap).ownBlock=some gg:=rfl
 have blk : ∀ k,k < W1.heap.size→some k ≠ (v i).ownBlock→k ≠ MB→W4.heap[k]?=W1.heap[k]?:=fun k h1 h2 h3=>(hb4 k h3).trans (hb k h1 h2)
 have obj : ∀ j,j < 3→∀ g,(upd v i (.slice (some ⟨gg,0,none⟩) ((F i).length+1) cap) j).ownBlock=some g→(j=i∧g=gg) ∨ (j ≠ i∧(v j).ownBlock=some g):=fun j hj g hg=>by
  by_cases e : j=i
  ·subst e
   rw [upd_same,obs] at hg
   exact .inl ⟨rfl,by injection hg with hg;exact hg.symm⟩
  ·rw [upd_other _ _ _ _ e] at hg
   exact .inr ⟨e,hg⟩
 refine ⟨hm4,fun j hj=>?_,fun j hj p hp=>?_,fun j k hj hk hjk g hg=>?_,h.nm.keep (blk MN h.nm.lt (fun e=>by have:=(olt i hi MN e.symm).1;omega) (by omega)),hlt,by omega⟩
 ·by_cases e : j=i
  ·subst e
   rw [upd_same,upd_same,rowN_append]
   have hl : (F j ++ [(x,v1)]).length=(F j).length+1:=by simp
   rw [hl]
   refine ⟨hown.1,?_⟩
   rcases hown.2 with ⟨e,_⟩ | ⟨g,cap',cur,e1,e2,e3,e4⟩
   ·cases e
   ·exact .inr ⟨g,cap',cur,e1,e2,(hb4 g (by omega)).trans e3,e4⟩
  ·rw [upd_other _ _ _ _ e,upd_other _ _ _ _ e]
   refine ⟨(h.own j hj).1,?_⟩
   rcases (h.own j hj).2 with e' | ⟨g,cap',cur,e1,e2,e3,e4⟩
   ·exact .inl e'
   ·have hg : (v j).ownBlock=some g:=by rw [e1];rfl
    exact .inr ⟨g,cap',cur,e1,e2,(blk g (olt j hj g hg).2 (fun e''=>h.dis j i hj hi e g hg e''.symm) (by omega)).trans e3,e4⟩
 ·have old : ∀ q,(∃ k,k < 3∧q ∈ F k)→LAt W4 (fun b=>B ≤ b∧∀ j,j < 3→(upd v i (.slice (some ⟨gg,0,none⟩) ((F i).length+1) cap) j).ownBlock ≠ some b) q.2 q.1.ks:=fun q ⟨k,hk,hq⟩=>by
   have h1:=(h.kids k hk q hq).mono' (T:=fun b=>(B ≤ b∧∀ j,j < 3→(v j).ownBlock ≠ some b)∧b ≠ gg) (fun b hb' hS=>⟨hS,fun e=>by
    subst e
    rcases hat with e | e
    ·exact hS.2 i hi e
    ·omega⟩)
   refine (h1.keep (by omega) (fun b hS hl=>blk b hl (fun e=>hS.1.2 i hi e.symm) (by have:=hS.1.1;omega))).mono (fun b hS=>⟨hS.1.1,fun m hm e=>?_⟩)
   rcases obj m hm b e with ⟨_,e⟩ | ⟨_,e⟩
   ·exact hS.2 e
   ·exact hS.1.2 m hm e
  by_cases e : j=i
  ·subst e
   rw [upd_same] at hp
   rcases List.mem_append.1 hp with hp | hp
   ·exact old p ⟨j,hj,hp⟩
   ·obtain rfl : p=(x,v1):=by simpa using hp
    have h1 : LAt W1 (fun b=>(N ≤ b∧B ≤ b)∧b < W1.heap.size) v1 x.ks:=l1.mono' (fun b hb' hS=>⟨hS,hb'⟩)
    refine (h1.keep (by omega) (fun b hS hl=>blk b hl (fun e=>by have:=hN j hj b e.symm;omega) (by omega))).mono (fun b hS=>⟨hS.1.2,fun m hm e=>?_⟩)
    rcases obj m hm b e with ⟨_,e⟩ | ⟨_,e⟩
    ·subst e
     rcases hat with e | e
     ·have:=hN j hj b e;omega
     ·omega
    ·have:=hN m hm b e;omega
  ·rw [upd_other _ _ _ _ e] at hp
   exact old p ⟨j,hj,hp⟩
 ·intro hg2
  rcases obj j hj g hg with ⟨e1,e2⟩ | ⟨e1,e2⟩ <;> rcases obj k hk g hg2 with ⟨e3,e4⟩ | ⟨e3,e4⟩
  ·omega
  ·subst e1 e2
   rcases hat with e | e
   ·exact h.dis j k hj hk hjk g e e4
   ·have:=(olt k hk g e4).2;omega
  ·subst e3 e4
   rcases hat with e | e
   ·exact h.dis k j hk hj (Ne.symm hjk) g e e2
   ·have:=(olt j hj g e2).2;omega
  ·exact h.dis j k hj hk hjk g e2 e4
structure MemM (B : Nat) (w : World) (MB MN : Nat) (v : Nat→Value) (F : Nat→List (Nd × Value)) (m : Mem) : Prop where
 at_ : MemAt B w MB MN v F m.ns
 fs : (F 0).map (·.1)=m.fs
 cs : (F 1).map (·.1)=m.cs
 ms : (F 2).map (·.1)=m.ms
structure KeptB (B R M N : Nat) (w w' : World) : Prop where
 os : w'.os=w.os
 tape : w'.tape=w.tape
 output : w'.output=w.output
 size : w.heap.size ≤ w'.heap.size
 block : ∀ k,k < B→k ≠ R→k ≠ M→k ≠ N→w'.heap[k]?=w.heap[k]?
theorem KeptB.of {B R M N : Nat} {w w' : World} (h : KeptR R w w') (hB : B ≤ w.heap.size) : KeptB B R M N w w':=⟨h.os,h.tape,h.output,h.size,fun k hk hb _ _=>h.block k (by omega) hb⟩
theorem KeptB.trans {B R M N : Nat} {w w' w'' : World} (h : KeptB B R M N w w') (k : KeptB B R M N w' w'') : KeptB B R M N w w'' :=
 ⟨k.os.trans h.os,k.tape.trans h.tape,k.output.trans h.output,Nat.le_trans h.size k.size,fun i hi h1 h2 h3=>(k.block i hi h1 h2 h3).trans (h.block i hi h1 h2 h3)⟩
def AnsM (P : Pl) (L : List Tok) (B MB MN : Nat) (w : World) (r : Rs Mem) (e : Ending) (w' : World) : Prop:=match r with
 | .ok m a=>e = .returned (.tuple #[])∧Rd w' P L a mE∧(∃ v F,MemM B w' MB MN v F m)∧KeptB B P.R MB MN w w'
 | .bad p er=>Gave p er e∧KeptB B P.R MB MN w w'
end Go.Proofs.YthfkfbcopinmiaaGreatDoor
