/- Own text. Package module: the rules,one by one: statements,types,an alias,one of a space. Package module: the rules,one by one: a field. An element that is stored into a row behind the append that made room for it. -/
import Derived.Test.YthfkfbcopinmiaaGreatDoorGj36
import Derived.Test.YthfkfbcopinmiaaGreatDoorGj32
set_option linter.unusedVariables false
set_option linter.unusedSimpArgs false
set_option maxRecDepth 100000
set_option maxHeartbeats 8000000
namespace Go.Proofs.YthfkfbcopinmiaaGreatDoor
open Go.RowKit
theorem stmt_m {L : List Tok} (hs : Small L) {w : World} {P : Pl} {a : Nat} (h : Rd w P L a mE) : Calls Tryz.prog 24 #[.pointer (some ⟨P.R,0,none⟩)] w (AnsN P L mE w (stmtM L a)):=by
 have hRw:=h.lt
 have hle:=h.le
 obtain ⟨h0,a0,z0,M0⟩:=begin_cell h
 obtain ⟨res,hres⟩ : ∃ r,stmtM L a = r:=⟨_,rfl⟩
 have HR : Hid (stmtM L a = res):=hres
 rw [hres]
 clear hres
 go_enter Tryz.func24,Tryz.ntmps24
 go_wp2_with fail
 go_at_call 58
 refine (by_stmt hs h0).mono ?_
 rintro e W1 A1
 cases h1 : stmtM L a with
 | bad p er =>
  rw [h1] at A1
  obtain ⟨rfl,b1⟩:=A1
  obtain rfl : Rs.bad p er = res:=by rw [← HR.out];simp [Rs.bind,mtT,endM,h1]
  exact ⟨rfl,rfl,a0.trans ((KeptR.refl P.R (w.alloc zN)).trans b1)⟩
 | ok x1 a1 =>
  rw [h1] at A1
  obtain ⟨ad1,c1,rfl,l1',r1,b1⟩:=A1
  have y1:=r1.le
  have k1:=(KeptR.refl P.R (w.alloc zN)).trans b1
  have z1:=k1.size
  have l1:=l1'.mono (T:=fun b=>w.heap.size + 1 ≤ b) (fun b hb=>by have:=(KeptR.refl P.R (w.alloc zN)).size;omega)
  obtain rfl : Rs.ok x1 a1 = res:=by rw [← HR.out];simp [Rs.bind,mtT,endM,h1]
  have m0:=M0.out _ k1
  obtain ⟨⟨_,_,_,_⟩,_,_,_,_⟩:=t4 m0
  go_wp2
  refine bodyPost_ret (res_n4 Tryz.results24 (t4_set _ _ _ _ m0) rfl) rfl ?_
  exact close_ok (x:=x1) h (a0.trans k1) (l1.keepR (KeptR.refl P.R W1) (by omega)) (by omega) r1
theorem to_m {L : List Tok} (hs : Small L) {w : World} {P : Pl} {a : Nat} (h : Rd w P L a mE) : Calls Tryz.prog 78 #[.pointer (some ⟨P.R,0,none⟩)] w (AnsN P L mE w (toM L a)):=by
 have hRw:=h.lt
 have hle:=h.le
 obtain ⟨h0,a0,z0,M0⟩:=begin_cell h
 obtain ⟨res,hres⟩ : ∃ r,toM L a = r:=⟨_,rfl⟩
 have HR : Hid (toM L a = res):=hres
 rw [hres]
 clear hres
 go_enter Tryz.func78,Tryz.ntmps78
 cases q2 : isS L a sCo with
 | true =>
  have T2:=take_any h0 sCo
  rw [q2] at T2
  have u2:=isS_lt q2
  go_wp2_with fail
  go_at_call 40
  refine T2.mono ?_
  rintro e W2 ⟨rfl,r2',b2⟩
  have r2 : Rd W2 P L (a + 1) mE:=r2'
  clear r2'
  have k2:=(KeptR.refl P.R (w.alloc zN)).trans b2
  have z2:=k2.size
  have y2:=r2.le
  go_wp2_with fail
  go_at_call 58
  refine (by_type hs r2).mono ?_
  rintro e W3 A3
  cases h3 : typeM L (a + 1) with
  | bad p er =>
   rw [h3] at A3
   obtain ⟨rfl,b3⟩:=A3
   obtain rfl : Rs.bad p er = res:=by rw [← HR.out,toM];simp [Rs.bind,mtT,endM,q2,h3]
   exact ⟨rfl,rfl,a0.trans (k2.trans b3)⟩
  | ok x3 a3 =>
   rw [h3] at A3
   obtain ⟨ad3,c3,rfl,l3',r3,b3⟩:=A3
   have y3:=r3.le
   have k3:=k2.trans b3
   have z3:=k3.size
   have l3:=l3'.mono (T:=fun b=>w.heap.size + 1 ≤ b) (fun b hb=>by have:=k2.size;omega)
   obtain rfl : Rs.ok x3 a3 = res:=by rw [← HR.out,toM];simp [Rs.bind,mtT,endM,q2,h3]
   have m0:=M0.out _ k3
   obtain ⟨⟨_,_,_,_⟩,_,_,_,_⟩:=t4 m0
   go_wp2
   refine bodyPost_ret (res_n4 Tryz.results78 (t4_set _ _ _ _ m0) rfl) rfl ?_
   exact close_ok (x:=x3) h (a0.trans k3) (l3.keepR (KeptR.refl P.R W3) (by omega)) (by omega) r3
 | false =>
  have T2:=take_any h0 sCo
  rw [q2] at T2
  go_wp2_with fail
  go_at_call 40
  refine T2.mono ?_
  rintro e W2 ⟨rfl,r2',b2⟩
  have r2 : Rd W2 P L a mE:=r2'
  clear r2'
  have k2:=(KeptR.refl P.R (w.alloc zN)).trans b2
  have z2:=k2.size
  have y2:=r2.le
  go_wp2_with fail
  go_at_call 42
  refine (node_any 14 ⟨#[]⟩ none 0 0 _).mono ?_
  rintro e W5 ⟨rfl,b5'⟩
  have r5:=r2.bel b5'
  have b5:=KeptR.of (b:=P.R) b5'
  have k5:=k2.trans b5
  have z5:=k5.size
  obtain rfl : Rs.ok noneN a = res:=by rw [← HR.out,toM];simp [Rs.bind,mtT,endM,q2]
  have m0:=M0.out _ k5
  obtain ⟨⟨_,_,_,_⟩,_,_,_,_⟩:=t4 m0
  go_wp2
  refine bodyPost_ret (res_n4 Tryz.results78 (t4_set _ _ _ _ m0) rfl) rfl ?_
  exact close_ok (x:=noneN) h (a0.trans k5) (LAt.nil (S:=fun b=>w.heap.size + 1 ≤ b) none 0) (by omega) r5
theorem alias_m {L : List Tok} (hs : Small L) {w : World} {P : Pl} {a : Nat} (h : Rd w P L a mE) (hlt : a < L.length) : Calls Tryz.prog 23 #[.pointer (some ⟨P.R,0,none⟩)] w (AnsN P L mE w (aliasM L a)):=by
 have hRw:=h.lt
 have hle:=h.le
 obtain ⟨h0,a0,z0,M0⟩:=begin_cell h
 obtain ⟨res,hres⟩ : ∃ r,aliasM L a = r:=⟨_,rfl⟩
 have HR : Hid (aliasM L a = res):=hres
 rw [hres]
 clear hres
 go_enter Tryz.func23,Tryz.ntmps23
 go_wp2_with fail
 go_at_call 37
 refine (pass_any h0 hlt (hs.at _)).mono ?_
 rintro e W6 ⟨rfl,r6,b6⟩
 have k6:=(KeptR.refl P.R (w.alloc zN)).trans b6
 have z6:=k6.size
 have y6:=r6.le
 go_wp2_with fail
 go_at_call 38
 refine (id_any r6 hs).mono ?_
 rintro e W7 A7
 cases h7 : idR L (a + 1) with
 | bad p er =>
  rw [h7] at A7
  obtain ⟨rfl,b7⟩:=A7
  obtain rfl : Rs.bad p er = res:=by rw [← HR.out,aliasM];simp [Rs.bind,mtT,endM,h7]
  exact ⟨rfl,rfl,a0.trans (k6.trans b7)⟩
 | ok x7 a7 =>
  rw [h7] at A7
  obtain ⟨rfl,r7,b7⟩:=A7
  have g7:=(id_ge L (a + 1)) _ _ h7
  have y7:=r7.le
  have k7:=k6.trans b7
  have z7:=k7.size
  go_wp2_with fail
  go_at_call 39
  refine (want_any r7 sAs).mono ?_
  rintro e W8 A8
  cases h8 : wantR L sAs a7 with
  | bad p er =>
   rw [h8] at A8
   obtain ⟨rfl,b8⟩:=A8
   obtain rfl : Rs.bad p er = res:=by rw [← HR.out,aliasM];simp [Rs.bind,mtT,endM,h7,h8]
   exact ⟨rfl,rfl,a0.trans (k7.trans b8)⟩
  | ok x8 a8 =>
   rw [h8] at A8
   obtain ⟨rfl,r8,b8⟩:=A8
   have g8:=(want_ge L sAs a7) _ _ h8
   have y8:=r8.le
   have k8:=k7.trans b8
   have z8:=k8.size
   go_wp2_with fail
   go_at_call 58
   refine (by_type hs r8).mono ?_
   rintro e W9 A9
   cases h9 : typeM L a8 with
   | bad p er =>
    rw [h9] at A9
    obtain ⟨rfl,b9⟩:=A9
    obtain rfl : Rs.bad p er = res:=by rw [← HR.out,aliasM];simp [Rs.bind,mtT,endM,h7,h8,h9]
    exact ⟨rfl,rfl,a0.trans (k8.trans b9)⟩
   | ok x9 a9 =>
    rw [h9] at A9
    obtain ⟨ad9,c9,rfl,l9',r9,b9⟩:=A9
    have y9:=r9.le
    have k9:=k8.trans b9
    have z9:=k9.size
    have l9:=l9'.mono (T:=fun b=>w.heap.size + 1 ≤ b) (fun b hb=>by have:=k8.size;omega)
    go_wp2_with fail
    go_at_call 42
    refine (node_any 46 x7 (some ⟨W9.heap.size,0,none⟩) 1 1 _).mono ?_
    rintro e W10 ⟨rfl,b10'⟩
    have j10 : W10.heap[W9.heap.size]? = _:=(b10'.block _ (by simp)).trans (heap_alloc_new W9 _)
    have r10:=(r9.bel (B0.alloc le0 _)).bel b10'
    have b10 : KeptR P.R W9 W10:=(KeptR.of (B0.alloc le0 _)).trans (.of b10')
    have k10:=k9.trans b10
    have z10:=k10.size
    have l10 : LAt W10 (fun b=>w.heap.size + 1 ≤ b) (.slice (some ⟨W9.heap.size,0,none⟩) 1 1) [x9]:=LAt.n1 j10 (by have:=k9.size;show _ ≤ _;omega) (l9.keepR ((KeptR.refl P.R W9).trans b10) (by omega))
    go_wp2_with fail
    go_at_call 48
    refine (endedm_any r10 _ _ _ _ _ _).mono ?_
    rintro e W11 A11
    cases h11 : wantR L sSe a9 with
    | bad p er =>
     rw [h11] at A11
     obtain ⟨rfl,b11⟩:=A11
     obtain rfl : Rs.bad p er = res:=by rw [← HR.out,aliasM];simp [Rs.bind,mtT,endM,h7,h8,h9,h11]
     exact ⟨rfl,rfl,a0.trans (k10.trans b11)⟩
    | ok x11 a11 =>
     rw [h11] at A11
     obtain ⟨rfl,r11,b11⟩:=A11
     have y11:=r11.le
     have k11:=k10.trans b11
     have z11:=k11.size
     obtain rfl : Rs.ok (mk0 46 x7 [x9]) a11 = res:=by rw [← HR.out,aliasM];simp [Rs.bind,mtT,endM,h7,h8,h9,h11]
     have m0:=M0.out _ k11
     obtain ⟨⟨_,_,_,_⟩,_,_,_,_⟩:=t4 m0
     go_wp2
     refine bodyPost_ret (res_n4 Tryz.results23 (t4_set _ _ _ _ m0) rfl) rfl ?_
     exact close_ok (x:=(mk0 46 x7 [x9])) h (a0.trans k11) (l10.keepR ((KeptR.refl P.R W10).trans b11) (by omega)) (by omega) r11
def defExprM (L : List Tok) (a : Nat) : Rs Nd:=(exprM L a).bind fun e a1=>endM L e a1
theorem defaultExpr_m {L : List Tok} (hs : Small L) {w : World} {P : Pl} {a : Nat} (h : Rd w P L a mE) : Calls Tryz.prog 87 #[.pointer (some ⟨P.R,0,none⟩)] w (AnsN P L mE w (defExprM L a)):=by
 have hRw:=h.lt
 have hle:=h.le
 obtain ⟨h0,a0,z0,M0⟩:=begin_cell h
 obtain ⟨res,hres⟩ : ∃ r,defExprM L a = r:=⟨_,rfl⟩
 have HR : Hid (defExprM L a = res):=hres
 rw [hres]
 clear hres
 go_enter Tryz.func87,Tryz.ntmps87
 go_wp2_with fail
 go_at_call 58
 refine (by_expr hs h0).mono ?_
 rintro e W19 A19
 cases h19 : exprM L a with
 | bad p er =>
  rw [h19] at A19
  obtain ⟨rfl,b19⟩:=A19
  obtain rfl : Rs.bad p er = res:=by rw [← HR.out,defExprM];simp [Rs.bind,mtT,endM,h19]
  exact ⟨rfl,rfl,a0.trans ((KeptR.refl P.R (w.alloc zN)).trans b19)⟩
 | ok x19 a19 =>
  rw [h19] at A19
  obtain ⟨ad19,c19,rfl,l19',r19,b19⟩:=A19
  have y19:=r19.le
  have k19:=(KeptR.refl P.R (w.alloc zN)).trans b19
  have z19:=k19.size
  have l19:=l19'.mono (T:=fun b=>w.heap.size + 1 ≤ b) (fun b hb=>by have:=(KeptR.refl P.R (w.alloc zN)).size;omega)
  go_wp2_with fail
  go_at_call 48
  refine (endedm_any r19 _ _ _ _ _ _).mono ?_
  rintro e W20 A20
  cases h20 : wantR L sSe a19 with
  | bad p er =>
   rw [h20] at A20
   obtain ⟨rfl,b20⟩:=A20
   obtain rfl : Rs.bad p er = res:=by rw [← HR.out,defExprM];simp [Rs.bind,mtT,endM,h19,h20]
   exact ⟨rfl,rfl,a0.trans (k19.trans b20)⟩
  | ok x20 a20 =>
   rw [h20] at A20
   obtain ⟨rfl,r20,b20⟩:=A20
   have y20:=r20.le
   have k20:=k19.trans b20
   have z20:=k20.size
   obtain rfl : Rs.ok x19 a20 = res:=by rw [← HR.out,defExprM];simp [Rs.bind,mtT,endM,h19,h20]
   have m0:=M0.out _ k20
   obtain ⟨⟨_,_,_,_⟩,_,_,_,_⟩:=t4 m0
   go_wp2
   refine bodyPost_ret (res_n4 Tryz.results87 (t4_set _ _ _ _ m0) rfl) rfl ?_
   exact close_ok (x:=x19) h (a0.trans k20) (l19.keepR ((KeptR.refl P.R W19).trans b20) (by omega)) (by omega) r20
end Go.Proofs.YthfkfbcopinmiaaGreatDoor
set_option linter.unusedVariables false
set_option linter.unusedSimpArgs false
set_option maxRecDepth 100000
set_option maxHeartbeats 8000000
namespace Go.Proofs.YthfkfbcopinmiaaGreatDoor
open Go.RowKit
def fieldN (L : List Tok) (t : ByteArray) (a : Nat) : Rs Nd:=(toM L a).bind fun y a1=>(wantR L sAs a1).bind fun _ a2=>(exprM L a2).bind fun e a3=>endM L (mk0 43 t [y,e]) a3
theorem field_m {L : List Tok} (hs : Small L) {w : World} {P : Pl} {a : Nat} (h : Rd w P L a mE) (t : ByteArray) : Calls Tryz.prog 80 #[.pointer (some ⟨P.R,0,none⟩),.string t] w (AnsN P L mE w (fieldN L t a)):=by
 have hRw:=h.lt
 have hle:=h.le
 obtain ⟨h0,a0,z0,M0⟩:=begin_cell h
 obtain ⟨res,hres⟩ : ∃ r,fieldN L t a = r:=⟨_,rfl⟩
 have HR : Hid (fieldN L t a = res):=hres
 rw [hres]
 clear hres
 go_enter Tryz.func80,Tryz.ntmps80
 go_wp2_with fail
 go_at_call 78
 refine (to_m hs h0).mono ?_
 rintro e W1 A1
 cases h1 : toM L a with
 | bad p er =>
  rw [h1] at A1
  obtain ⟨rfl,b1⟩:=A1
  obtain rfl : Rs.bad p er = res:=by rw [← HR.out,fieldN];simp [Rs.bind,mtT,endM,nameM,h1]
  exact ⟨rfl,rfl,a0.trans ((KeptR.refl P.R (w.alloc zN)).trans b1)⟩
 | ok x1 a1 =>
  rw [h1] at A1
  obtain ⟨ad1,c1,rfl,l1',r1,b1⟩:=A1
  have y1:=r1.le
  have k1:=(KeptR.refl P.R (w.alloc zN)).trans b1
  have z1:=k1.size
  have l1:=l1'.mono (T:=fun b=>w.heap.size + 1 ≤ b) (fun b hb=>by have:=(KeptR.refl P.R (w.alloc zN)).size;omega)
  go_wp2_with fail
  go_at_call 39
  refine (want_any (r1.bel (B0.alloc le0 _)) sAs).mono ?_
  rintro e W3 A3
  cases h3 : wantR L sAs a1 with
  | bad p er =>
   rw [h3] at A3
   obtain ⟨rfl,b3⟩:=A3
   obtain rfl : Rs.bad p er = res:=by rw [← HR.out,fieldN];simp [Rs.bind,mtT,endM,nameM,h1,h3]
   exact ⟨rfl,rfl,a0.trans ((k1.alloc _).trans b3)⟩
  | ok x3 a3 =>
   rw [h3] at A3
   obtain ⟨rfl,r3,b3⟩:=A3
   have g3:=(want_ge L sAs a1) _ _ h3
   have y3:=r3.le
   have k3:=(k1.alloc (Obj.cells #[.int .i64 x1.k,.string x1.t,.int .i64 x1.n,.slice ad1 x1.ks.length c1] 24)).trans b3
   have z3:=k3.size
   go_wp2_with fail
   refine wp_region_any (by kernel_rfl) ?_
   change wpAny _ _ _ _ _ _ _ (World.drew _)
   have zd4 : W3.drew.heap.size = W3.heap.size:=rfl
   refine tk 0 (.pointer (some ⟨P.R,0,none⟩)) ?_
   refine tk 1 (.string t) ?_
   refine tk 3 (.pointer (some ⟨P.R,0,none⟩)) ?_
   have v2 : W3.drew.heap[W1.heap.size]? = _:=((((KeptR.refl P.R _).trans b3).trans (.of (B0.drew))).block (W1.heap.size) (by simp) (by have:=k1.size;omega)).trans (heap_alloc_new W1 _)
   obtain ⟨⟨_,_,_,_⟩,_,_,_,_⟩:=t4 v2
   refine wpAny_two (i:=2) (j:=4) (is:=[4,5,6,7,8]) (js:=[2,5,6,7,8]) (os:=[_,_,_,_,_]) (us:=[_,_,_,_,_]) (by kernel_rfl) rfl rfl (by kernel_rfl) (by kernel_rfl) rfl rfl (by decide) (by decide) ?_ ?_
   all_goals
    go_wp2_with fail
    go_at_call 58
    refine (by_expr hs (r3.bel (B0.drew))).mono ?_
    rintro e W5 A5
    cases h5 : exprM L a3 with
    | bad p er =>
     rw [h5] at A5
     obtain ⟨rfl,b5⟩:=A5
     obtain rfl : Rs.bad p er = res:=by rw [← HR.out,fieldN];simp [Rs.bind,mtT,endM,nameM,h1,h3,h5]
     exact ⟨rfl,rfl,a0.trans ((k3.trans (.of (B0.drew))).trans b5)⟩
    | ok x5 a5 =>
     rw [h5] at A5
     obtain ⟨ad5,c5,rfl,l5',r5,b5⟩:=A5
     have y5:=r5.le
     have k5:=(k3.trans (.of (B0.drew))).trans b5
     have z5:=k5.size
     have l5:=l5'.mono (T:=fun b=>w.heap.size + 1 ≤ b) (fun b hb=>by have:=(k3.trans (.of (B0.drew))).size;omega)
     have v2 : W5.heap[W1.heap.size]? = _:=(((((KeptR.refl P.R _).trans b3).trans (.of (B0.drew))).trans b5).block (W1.heap.size) (by simp) (by have:=k1.size;omega)).trans (heap_alloc_new W1 _)
     obtain ⟨⟨_,_,_,_⟩,_,_,_,_⟩:=t4 v2
     go_wp2_with fail
     go_at_call 42
     refine (node_any 43 t (some ⟨W5.heap.size,0,none⟩) 2 2 _).mono ?_
     rintro e W6 ⟨rfl,b6'⟩
     have j6 : W6.heap[W5.heap.size]? = _:=(b6'.block _ (by simp)).trans (heap_alloc_new W5 _)
     have r6:=(r5.bel (B0.alloc le0 _)).bel b6'
     have b6 : KeptR P.R W5 W6:=(KeptR.of (B0.alloc le0 _)).trans (.of b6')
     have k6:=k5.trans b6
     have z6:=k6.size
     have l6 : LAt W6 (fun b=>w.heap.size + 1 ≤ b) (.slice (some ⟨W5.heap.size,0,none⟩) 2 2) [x1,x5]:=LAt.n2 j6 (by have:=k5.size;show _ ≤ _;omega) (l1.keepR ((((((KeptR.refl P.R W1).alloc _).trans b3).trans (.of (B0.drew))).trans b5).trans b6) (by omega)) (l5.keepR ((KeptR.refl P.R W5).trans b6) (by omega))
     go_wp2_with fail
     go_at_call 48
     refine (endedm_any r6 _ _ _ _ _ _).mono ?_
     rintro e W7 A7
     cases h7 : wantR L sSe a5 with
     | bad p er =>
      rw [h7] at A7
      obtain ⟨rfl,b7⟩:=A7
      obtain rfl : Rs.bad p er = res:=by rw [← HR.out,fieldN];simp [Rs.bind,mtT,endM,nameM,h1,h3,h5,h7]
      exact ⟨rfl,rfl,a0.trans (k6.trans b7)⟩
     | ok x7 a7 =>
      rw [h7] at A7
      obtain ⟨rfl,r7,b7⟩:=A7
      have y7:=r7.le
      have k7:=k6.trans b7
      have z7:=k7.size
      obtain rfl : Rs.ok (mk0 43 t [x1,x5]) a7 = res:=by rw [← HR.out,fieldN];simp [Rs.bind,mtT,endM,nameM,h1,h3,h5,h7]
      have m0:=M0.out _ k7
      obtain ⟨⟨_,_,_,_⟩,_,_,_,_⟩:=t4 m0
      go_wp2
      refine bodyPost_ret (res_n4 Tryz.results80 (t4_set _ _ _ _ m0) rfl) rfl ?_
      exact close_ok (x:=(mk0 43 t [x1,x5])) h (a0.trans k7) (l6.keepR ((KeptR.refl P.R W6).trans b7) (by omega)) (by omega) r7
end Go.Proofs.YthfkfbcopinmiaaGreatDoor
set_option linter.unusedVariables false
set_option linter.unusedSimpArgs false
namespace Go.Proofs.YthfkfbcopinmiaaGreatDoor
open Go.RowKit
theorem own_form {w : World} {B : Nat} {v : Value} {n : Nat} {xs : List Value} (h : w.ownsRow B 24 4 v n xs) : ∃ ad c,v = .slice ad n c:=by
 rcases h.2 with ⟨rfl,rfl⟩ | ⟨g,cap,cur,rfl,_⟩
 all_goals
  exact ⟨_,_,rfl⟩
theorem own_last {w : World} {B g n cap : Nat} {xs : List Value} {z0 z1 z2 z3 : Value} (h : w.ownsRow B 24 4 (.slice (some ⟨g,0,none⟩) (n + 1) cap) (n + 1) (xs ++ [z0,z1,z2,z3])) :
 (w.cell? ⟨g,n * 4,none⟩ = some z0 ∧ w.cell? ⟨g,n * 4 + 1,none⟩ = some z1 ∧ w.cell? ⟨g,n * 4 + 2,none⟩ = some z2 ∧ w.cell? ⟨g,n * 4 + 3,none⟩ = some z3) ∧ (w.frozen? ⟨g,n * 4,none⟩ = false ∧ w.frozen? ⟨g,n * 4 + 1,none⟩ = false ∧ w.frozen? ⟨g,n * 4 + 2,none⟩ = false ∧ w.frozen? ⟨g,n * 4 + 3,none⟩ = false):=by
 have hl : xs.length = n * 4:=by have:=h.1;simp at this;omega
 rcases h.2 with ⟨e,_⟩ | ⟨g',cap',cur,e1,e2,e3,e4,e5,e6,e7⟩
 ·cases e
 cases e1
 have hc : ∀ j,j < 4 → w.cell? ⟨g,n * 4 + j,none⟩ = ([z0,z1,z2,z3] : List Value)[j]?:=fun j hj=>by
  rw [cell_of_row _ _ _ _ _ _ e3]
  have h1 : (cur.toList.take ((n + 1) * 4))[n * 4 + j]? = (xs ++ [z0,z1,z2,z3])[n * 4 + j]?:=by rw [e7]
  rw [List.getElem?_take_of_lt (by omega),List.getElem?_append_right (by omega)] at h1
  rw [show n * 4 + j - xs.length = j by omega] at h1
  simpa using h1
 have hf : ∀ j,w.frozen? ⟨g,j,none⟩ = false:=fun j=>by simp [World.frozen?,e3]
 exact ⟨⟨hc 0 (by omega),hc 1 (by omega),hc 2 (by omega),hc 3 (by omega)⟩,hf _,hf _,hf _,hf _⟩
theorem own_set {w : World} {B g n cap : Nat} {xs : List Value} {z0 z1 z2 z3 : Value} (c0 c1 c2 c3 : Value) (h : w.ownsRow B 24 4 (.slice (some ⟨g,0,none⟩) (n + 1) cap) (n + 1) (xs ++ [z0,z1,z2,z3])) :
 ((((w.setCell ⟨g,n * 4,none⟩ c0).setCell ⟨g,n * 4 + 1,none⟩ c1).setCell ⟨g,n * 4 + 2,none⟩ c2).setCell ⟨g,n * 4 + 3,none⟩ c3).ownsRow B 24 4 (.slice (some ⟨g,0,none⟩) (n + 1) cap) (n + 1) (xs ++ [c0,c1,c2,c3]):=by
 have hl : xs.length = n * 4:=by have:=h.1;simp at this;omega
 refine ⟨by simp;omega,?_⟩
 rcases h.2 with ⟨e,_⟩ | ⟨g',cap',cur,e1,e2,e3,e4,e5,e6,e7⟩
 ·cases e
 cases e1
 refine .inr ⟨g,cap,(((cur.setIfInBounds (n * 4) c0).setIfInBounds (n * 4 + 1) c1).setIfInBounds (n * 4 + 2) c2).setIfInBounds (n * 4 + 3) c3,rfl,e2,?_,e4,e5,by simpa using e6,?_⟩
 ·simp [World.setCell,Array.getElem?_modify,e3]
 ·apply List.ext_getElem?
  intro j
  by_cases hj : j < (n + 1) * 4
  ·rw [List.getElem?_take_of_lt hj]
   have h1 : j < n * 4 → cur.toList[j]? = xs[j]?:=fun hj'=>by
    have:=congrArg (·[j]?) e7
    rw [List.getElem?_take_of_lt hj,List.getElem?_append_left (by omega)] at this
    exact this
   have hsz : j < cur.size:=by rw [e6];exact Nat.lt_of_lt_of_le hj (Nat.mul_le_mul_right 4 e4)
   by_cases h2 : j < n * 4
   ·rw [List.getElem?_append_left (by omega),← h1 h2]
    simp [Array.getElem?_setIfInBounds,List.getElem?_set,show n * 4 ≠ j by omega,show n * 4 + 1 ≠ j by omega,show n * 4 + 2 ≠ j by omega,show n * 4 + 3 ≠ j by omega]
   ·rw [List.getElem?_append_right (by omega),hl]
    have hm : j = n * 4 ∨ j = n * 4 + 1 ∨ j = n * 4 + 2 ∨ j = n * 4 + 3:=by omega
    rcases hm with rfl | rfl | rfl | rfl <;> simp [List.getElem?_set,hsz]
  ·rw [List.getElem?_eq_none (by simp;omega),List.getElem?_eq_none (by simp;omega)]
abbrev put4 (w : World) (g n : Nat) (c0 c1 c2 c3 : Value) : World:=(((w.setCell ⟨g,n * 4,none⟩ c0).setCell ⟨g,n * 4 + 1,none⟩ c1).setCell ⟨g,n * 4 + 2,none⟩ c2).setCell ⟨g,n * 4 + 3,none⟩ c3
theorem put4_other {w : World} {g n k : Nat} (h : k ≠ g) (c0 c1 c2 c3 : Value) : (put4 w g n c0 c1 c2 c3).heap[k]? = w.heap[k]?:=by
 unfold put4
 rw [Below.heap_setCell _ _ _ _ h,Below.heap_setCell _ _ _ _ h,Below.heap_setCell _ _ _ _ h,Below.heap_setCell _ _ _ _ h]
theorem put4_same {w u : World} {g n : Nat} (h : u.heap[g]? = w.heap[g]?) (c0 c1 c2 c3 : Value) : (put4 u g n c0 c1 c2 c3).heap[g]? = (put4 w g n c0 c1 c2 c3).heap[g]?:=by
 simp [put4,World.setCell,Array.getElem?_modify,h]
theorem set_os (w : World) (a : Addr) (v : Value) : (w.setCell a v).os = w.os:=rfl
theorem set_tape (w : World) (a : Addr) (v : Value) : (w.setCell a v).tape = w.tape:=rfl
theorem set_output (w : World) (a : Addr) (v : Value) : (w.setCell a v).output = w.output:=rfl
theorem mem_done {B MB MN i gg cap N : Nat} {W1 WA W4 : World} {v : Nat → Value} {F : Nat → List (Nd × Value)} {ns : List (List UInt8)} {x : Nd} {v1 z0 z1 z2 z3 : Value} (h : MemAt B W1 MB MN v F ns) (hi : i < 3)
 (hN : ∀ j,j < 3 → ∀ g,(v j).ownBlock = some g → g < N) (l1 : LAt W1 (fun b=>N ≤ b ∧ B ≤ b) v1 x.ks)
 (hg : W1.grownBy WA (v i).ownBlock) (hat : (v i).ownBlock = some gg ∨ gg = W1.heap.size)
 (hown : WA.ownsRow B 24 4 (.slice (some ⟨gg,0,none⟩) ((F i).length + 1) cap) ((F i).length + 1) (rowN (F i) ++ [z0,z1,z2,z3]))
 (hW4 : W4 = (put4 WA gg (F i).length (.int .i64 x.k) (.string x.t) (.int .i64 x.n) v1).setCell ⟨MB,i,none⟩ (.slice (some ⟨gg,0,none⟩) ((F i).length + 1) cap) ∨
  W4 = put4 (WA.setCell ⟨MB,i,none⟩ (.slice (some ⟨gg,0,none⟩) ((F i).length + 1) cap)) gg (F i).length (.int .i64 x.k) (.string x.t) (.int .i64 x.n) v1) :
 MemAt B W4 MB MN (upd v i (.slice (some ⟨gg,0,none⟩) ((F i).length + 1) cap)) (upd F i (F i ++ [(x,v1)])) ns ∧ W4.os = W1.os ∧ W4.tape = W1.tape ∧ W4.output = W1.output ∧ W1.heap.size ≤ W4.heap.size ∧ (∀ k,k < B → k ≠ MB → W4.heap[k]? = W1.heap[k]?):=by
 have hlt:=h.lt
 have hle:=h.le
 have olt : ∀ g,(v i).ownBlock = some g → B ≤ g ∧ g < W1.heap.size:=fun g hg=>row_lt (h.own i hi) g hg
 have hgB : B ≤ gg:=by rcases hat with e | e;exact (olt gg e).1;omega
 have hgM : gg ≠ MB:=by omega
 have hbA : ∀ k,k < W1.heap.size → some k ≠ (v i).ownBlock → WA.heap[k]? = W1.heap[k]?:=fun k h1 h2=>hg.block k h1 h2
 have e4 : W4.heap.size = WA.heap.size:=by rcases hW4 with e | e <;> rw [e] <;> simp [put4,World.setCell]
 have eo : W4.os = WA.os ∧ W4.tape = WA.tape ∧ W4.output = WA.output:=by
  rcases hW4 with e | e
  all_goals
   rw [e];simp only [put4,set_os,set_tape,set_output,and_self]
 have o4 : ∀ k,k ≠ MB → W4.heap[k]? = (put4 WA gg (F i).length (.int .i64 x.k) (.string x.t) (.int .i64 x.n) v1).heap[k]?:=fun k hk=>by
  rcases hW4 with e | e
  ·rw [e];exact Below.heap_setCell _ _ _ _ hk
  ·rw [e]
   by_cases hkg : k = gg
   ·subst hkg;exact put4_same (Below.heap_setCell _ _ _ _ hk) _ _ _ _
   ·rw [put4_other hkg,put4_other hkg];exact Below.heap_setCell _ _ _ _ hk
 have hA : WA.heap[MB]? = some (.cells #[v 0,v 1,v 2,.map (some MN)] 86 (0,0)):=(hbA MB (by omega) (fun e=>by have:=(olt MB e.symm).1;omega)).trans h.blk
 have m4 : W4.heap[MB]? = some (.cells #[upd v i (.slice (some ⟨gg,0,none⟩) ((F i).length + 1) cap) 0,upd v i (.slice (some ⟨gg,0,none⟩) ((F i).length + 1) cap) 1,upd v i (.slice (some ⟨gg,0,none⟩) ((F i).length + 1) cap) 2,.map (some MN)] 86 (0,0)):=by
  have e : W4.heap[MB]? = (WA.setCell ⟨MB,i,none⟩ (.slice (some ⟨gg,0,none⟩) ((F i).length + 1) cap)).heap[MB]?:=by
   rcases hW4 with e | e
   ·rw [e];simp [World.setCell,Array.getElem?_modify,put4,hgM,Ne.symm hgM]
   ·rw [e];exact put4_other (Ne.symm hgM) _ _ _ _
  rw [e]
  have hi3 : i = 0 ∨ i = 1 ∨ i = 2:=by omega
  rcases hi3 with rfl | rfl | rfl <;> simp [World.setCell,Array.getElem?_modify,hA,upd]
 have hs3 : (put4 WA gg (F i).length (.int .i64 x.k) (.string x.t) (.int .i64 x.n) v1).heap.size = WA.heap.size:=by simp [put4,World.setCell]
 refine ⟨MemAt.push h hi hN l1 (by rw [hs3];exact hg.size) (fun k h1 h2=>(put4_other (fun e=>?_) _ _ _ _).trans (hbA k h1 h2)) (hat.imp id (fun e=>by omega)) (own_set _ _ _ _ hown) (by rw [e4,hs3]) o4 m4,?_,?_,?_,by rw [e4];exact hg.size,fun k h1 h2=>?_⟩
 ·subst e
  rcases hat with e | e
  ·exact h2 e.symm
  ·omega
 ·exact eo.1.trans hg.os
 ·exact eo.2.1.trans hg.tape
 ·exact eo.2.2.trans hg.output
 ·rw [o4 k h2,put4_other (by omega)]
  exact hbA k (by omega) (fun e=>by have:=(olt k e.symm).1;omega)
end Go.Proofs.YthfkfbcopinmiaaGreatDoor
