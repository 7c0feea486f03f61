/- Own text. Package module: the rules,one by one: all that is exported from elsewhere. -/
import Derived.Test.YthfkfbcopinmiaaGreatDoorGk35
import Derived.Test.YthfkfbcopinmiaaGreatDoorGk37
set_option linter.unusedVariables false
set_option linter.unusedSimpArgs false
set_option maxRecDepth 100000
set_option maxHeartbeats 8000000
namespace Go.Proofs.YthfkfbcopinmiaaGreatDoor
open Go.RowKit
theorem exportAll_m {L : List Tok} (hs : Small L) {w : World} {P : Pl} {a : Nat} (h : Rd w P L a mE) (hlt : a < L.length) : Calls Tryz.prog 52 #[.pointer (some ⟨P.R,0,none⟩)] w (AnsN P L mE w (exportAllM L a)):=by
 have hRw:=h.lt
 have hle:=h.le
 obtain ⟨h0,a0,z0,M0⟩:=begin_cell h
 obtain ⟨res,hres⟩ : ∃ r,exportAllM L a=r:=⟨_,rfl⟩
 have HR : Hid (exportAllM L a=res):=hres
 rw [hres]
 clear hres
 go_enter Tryz.func52,Tryz.ntmps52
 go_wp2_with fail
 go_at_call 37
 refine (pass_any h0 hlt (hs.at _)).mono ?_
 rintro e W1 ⟨rfl,r1,b1⟩
 have k1:=(KeptR.refl P.R (w.alloc zN)).trans b1
 have z1:=k1.size
 have y1:=r1.le
 go_wp2_with fail
 go_at_call 42
 refine (node_any 14 ⟨#[]⟩ none 0 0 _).mono ?_
 rintro e W2 ⟨rfl,b2'⟩
 have r2:=r1.bel b2'
 have b2:=KeptR.of (b:=P.R) b2'
 have k2:=k1.trans b2
 have z2:=k2.size
 go_wp2_with fail
 go_at_call 42
 refine (node_any 65 (tokA L a).t (some ⟨W2.heap.size,0,none⟩) 1 1 _).mono ?_
 rintro e W3 ⟨rfl,b3'⟩
 have j3 : W3.heap[W2.heap.size]?=_:=(b3'.block _ (by simp)).trans (heap_alloc_new W2 _)
 have r3:=(r2.bel (B0.alloc le0 _)).bel b3'
 have b3 : KeptR P.R W2 W3:=(KeptR.of (B0.alloc le0 _)).trans (.of b3')
 have k3:=k2.trans b3
 have z3:=k3.size
 have l3 : LAt W3 (fun b=>w.heap.size+1 ≤ b) (.slice (some ⟨W2.heap.size,0,none⟩) 1 1) [noneN]:=LAt.n1 j3 (by have:=k2.size;show _ ≤ _;omega) (LAt.nil (S:=fun b=>w.heap.size+1 ≤ b) none 0)
 have gV : w.heap.size+1 ≤ W3.heap.size:=by have:=k3.size;omega
 have v4 : (W3.alloc (Obj.cells #[.int .i64 65,.string (tokA L a).t,.int .i64 0,.slice (some ⟨W2.heap.size,0,none⟩) 1 1] 24)).heap[W3.heap.size]?=some (.cells #[.int .i64 65,.string (tokA L a).t,.int .i64 0,.slice (some ⟨W2.heap.size,0,none⟩) 1 1] 24 (0,0)):=heap_alloc_new W3 _
 obtain ⟨⟨_,_,_,_⟩,_,_,_,_⟩:=t4 v4
 have hKB0 : W2.heap.size < W3.heap.size:=(Array.getElem?_eq_some_iff.1 j3).1
 have hKB : w.heap.size+1 ≤ W2.heap.size:=by have:=k2.size;omega
 cases q5 : isNm L (a+1) nAs with
 | true =>
  have T5:=takeName_any (r3.bel (B0.alloc le0 (Obj.cells #[.int .i64 65,.string (tokA L a).t,.int .i64 0,.slice (some ⟨W2.heap.size,0,none⟩) 1 1] 24))) nAs
  rw [q5] at T5
  have u5:=isNm_lt q5
  go_wp2_with fail
  go_at_call 86
  refine T5.mono ?_
  rintro e W5 ⟨rfl,r5',b5⟩
  have r5 : Rd W5 P L (a+1+1) mE:=r5'
  clear r5'
  have k5:=(k3.alloc (Obj.cells #[.int .i64 65,.string (tokA L a).t,.int .i64 0,.slice (some ⟨W2.heap.size,0,none⟩) 1 1] 24)).trans b5
  have z5:=k5.size
  have y5:=r5.le
  have v6 : W5.heap[W3.heap.size]?=_:=(((KeptR.refl P.R _).trans b5).block _ (Array.getElem?_eq_some_iff.1 v4).1 (by omega)).trans v4
  obtain ⟨⟨_,_,_,_⟩,_,_,_,_⟩:=t4 v6
  have j7 : W5.heap[W2.heap.size]?=_:=((((KeptR.refl P.R W3).alloc _).trans b5).block _ (Array.getElem?_eq_some_iff.1 j3).1 (by omega)).trans j3
  have HMB : Hid (∀ W,KeptR P.R (w.alloc zN) W→KeptR P.R W5 W→W.heap[W3.heap.size]?=some (.cells #[.int .i64 65,.string (tokA L a).t,.int .i64 0,.slice (some ⟨W2.heap.size,0,none⟩) 1 1] 24 (0,0))):=fun W _ k=>(k.block _ (Array.getElem?_eq_some_iff.1 v6).1 (by omega)).trans v6
  go_wp2_with fail
  refine wp_region_U (u:=7) (S:=fun W=>W.heap[W3.heap.size]?=some (.cells #[.int .i64 65,.string (tokA L a).t,.int .i64 0,.slice (some ⟨W2.heap.size,0,none⟩) 1 1] 24 (0,0))) (by kernel_rfl) ?_
  change wpAnyU _ _ _ _ _ _ _ _ _ (World.drew _)
  have zd8 : W5.drew.heap.size=W5.heap.size:=rfl
  refine U_take (i:=0) (v:=(.pointer (some ⟨W3.heap.size,3,none⟩))) rfl (by kernel_rfl) (by kernel_rfl) (by kernel_rfl) (by kernel_rfl) (fun _ _ _ h=>h) (Or.inl ⟨by rfl,fun w _=>by go_simp⟩) (HMB.out _ (k5.trans (.of (B0.drew))) ((KeptR.refl P.R W5).trans (.of (B0.drew)))) ?_
  refine U_take (i:=1) (v:=(Value.slice (some ⟨W2.heap.size,0,none⟩) 1 1)) rfl (by kernel_rfl) (by kernel_rfl) (by kernel_rfl) (by kernel_rfl) (fun _ _ _ h=>h) (Or.inl ⟨by rfl,fun w hw=>by have hcw:=cell_of_row w _ 3 _ _ _ hw;simp at hcw;go_simp⟩) (HMB.out _ (k5.trans (.of (B0.drew))) ((KeptR.refl P.R W5).trans (.of (B0.drew)))) ?_
  refine U_take (i:=2) (v:=(.pointer (some ⟨P.R,0,none⟩))) rfl (by kernel_rfl) (by kernel_rfl) (by kernel_rfl) (by kernel_rfl) (fun _ _ _ h=>h) (Or.inl ⟨by rfl,fun w _=>by go_simp⟩) (HMB.out _ (k5.trans (.of (B0.drew))) ((KeptR.refl P.R W5).trans (.of (B0.drew)))) ?_
  refine U_take (i:=3) (v:=(.pointer (some ⟨P.R,0,none⟩))) rfl (by kernel_rfl) (by kernel_rfl) (by kernel_rfl) (by kernel_rfl) (fun _ _ _ h=>h) (Or.inl ⟨by rfl,fun w _=>by go_simp⟩) (HMB.out _ (k5.trans (.of (B0.drew))) ((KeptR.refl P.R W5).trans (.of (B0.drew)))) ?_
  refine U_take (i:=4) (v:=(.pointer (some ⟨P.R,0,none⟩))) rfl (by kernel_rfl) (by kernel_rfl) (by kernel_rfl) (by kernel_rfl) (fun _ _ _ h=>h) (Or.inl ⟨by rfl,fun w _=>by go_simp⟩) (HMB.out _ (k5.trans (.of (B0.drew))) ((KeptR.refl P.R W5).trans (.of (B0.drew)))) ?_
  refine U_ready (rs:=[5]) (by kernel_rfl) (by simp) ?_
  refine AllU.cons rfl (by decide) (fun K hK=>?_) AllU.nil
  ·go_simp
   go_at_call 76
   refine (prop_any (r5.bel (B0.drew)) hs).mono ?_
   rintro e W9 A9
   cases h9 : propR' L (a+1+1) with
   | bad p er =>
    rw [h9] at A9
    obtain ⟨rfl,b9⟩:=A9
    obtain rfl : Rs.bad p er=res:=by rw [← HR.out,exportAllM];simp [Rs.bind,mtT,endM,mk0,noneN,q5,h9]
    exact ⟨rfl,rfl,a0.trans ((k5.trans (.of (B0.drew))).trans b9)⟩
   | ok x9 a9 =>
    rw [h9] at A9
    obtain ⟨rfl,r9,b9⟩:=A9
    have g9:=(prop_ge L (a+1+1)) _ _ h9
    have y9:=r9.le
    have k9:=(k5.trans (.of (B0.drew))).trans b9
    have z9:=k9.size
    refine hK.out _ _ (HMB.out _ k9 (((KeptR.refl P.R W5).trans (.of (B0.drew))).trans b9)) ?_
    clear hK K
    refine U_ready (rs:=[6]) (by kernel_rfl) (by simp) ?_
    refine AllU.cons rfl (by decide) (fun K hK=>?_) AllU.nil
    ·go_simp
     go_at_call 42
     refine (node_any 6 x9 none 0 0 _).mono ?_
     rintro e W11 ⟨rfl,b11'⟩
     have r11:=r9.bel b11'
     have b11:=KeptR.of (b:=P.R) b11'
     have k11:=k9.trans b11
     have z11:=k11.size
     refine hK.out _ _ (HMB.out _ k11 ((((KeptR.refl P.R W5).trans (.of (B0.drew))).trans b9).trans b11)) ?_
     clear hK K
     refine U_end (by kernel_rfl) ?_
     have v12 : W11.heap[W3.heap.size]?=_:=(((((KeptR.refl P.R W5).trans (.of (B0.drew))).trans b9).trans b11).block _ (Array.getElem?_eq_some_iff.1 v6).1 (by omega)).trans v6
     obtain ⟨⟨_,_,_,_⟩,_,_,_,_⟩:=t4 v12
     have j13 : W11.heap[W2.heap.size]?=_:=(((((KeptR.refl P.R W5).trans (.of (B0.drew))).trans b9).trans b11).block _ (Array.getElem?_eq_some_iff.1 j7).1 (by omega)).trans j7
     obtain ⟨⟨_,_,_,_⟩,_,_,_,_⟩:=t4 j13
     have j14:=t4_set (Value.int IntKind.i64 6) (Value.string x9) (Value.int IntKind.i64 0) (Value.slice none 0 0) j13
     have hVK : W3.heap.size ≠ W2.heap.size:=by omega
     have v14 : ((((W11.setCell ⟨W2.heap.size,0,none⟩ (Value.int IntKind.i64 6)).setCell ⟨W2.heap.size,1,none⟩ (Value.string x9)).setCell ⟨W2.heap.size,2,none⟩ (Value.int IntKind.i64 0)).setCell ⟨W2.heap.size,3,none⟩ (Value.slice none 0 0)).heap[W3.heap.size]?=some (.cells #[.int .i64 65,.string (tokA L a).t,.int .i64 0,.slice (some ⟨W2.heap.size,0,none⟩) 1 1] 24 (0,0)):=(blk_set4 hVK _ _ _ _).trans v12
     have r14:=r11.set4 (n:=W2.heap.size) (by omega) (fun q=>by have:=h.x.lt q;omega) (Value.int IntKind.i64 6) (Value.string x9) (Value.int IntKind.i64 0) (Value.slice none 0 0)
     have k14:=(((k11.new (n:=W2.heap.size) (by omega) 0 (Value.int IntKind.i64 6)).new (n:=W2.heap.size) (by omega) 1 (Value.string x9)).new (n:=W2.heap.size) (by omega) 2 (Value.int IntKind.i64 0)).new (n:=W2.heap.size) (by omega) 3 (Value.slice none 0 0)
     have z14:=k14.size
     refine wpAny_chain [_,_] [7,8] _ _ _ _ (by kernel_rfl) rfl (by decide) ?_
     go_wp2_with fail
     go_at_call 46
     refine (from_any r14).mono ?_
     rintro e W15 A15
     cases h15 : nameM L nFrom a9 with
     | bad p er =>
      rw [h15] at A15
      obtain ⟨rfl,b15⟩:=A15
      obtain rfl : Rs.bad p er=res:=by rw [← HR.out,exportAllM];simp [Rs.bind,mtT,endM,mk0,noneN,q5,h9,h15]
      exact ⟨rfl,rfl,a0.trans (k14.trans b15)⟩
     | ok x15 a15 =>
      rw [h15] at A15
      obtain ⟨rfl,r15,b15⟩:=A15
      have y15:=r15.le
      have k15:=k14.trans b15
      have z15:=k15.size
      have v16 : W15.heap[W3.heap.size]?=_:=(((KeptR.refl P.R ((((W11.setCell ⟨W2.heap.size,0,none⟩ (Value.int IntKind.i64 6)).setCell ⟨W2.heap.size,1,none⟩ (Value.string x9)).setCell ⟨W2.heap.size,2,none⟩ (Value.int IntKind.i64 0)).setCell ⟨W2.heap.size,3,none⟩ (Value.slice none 0 0))).trans b15).block _ (Array.getElem?_eq_some_iff.1 v14).1 (by omega)).trans v14
      obtain ⟨⟨_,_,_,_⟩,_,_,_,_⟩:=t4 v16
      have j17 : W15.heap[W2.heap.size]?=_:=(((KeptR.refl P.R ((((W11.setCell ⟨W2.heap.size,0,none⟩ (Value.int IntKind.i64 6)).setCell ⟨W2.heap.size,1,none⟩ (Value.string x9)).setCell ⟨W2.heap.size,2,none⟩ (Value.int IntKind.i64 0)).setCell ⟨W2.heap.size,3,none⟩ (Value.slice none 0 0))).trans b15).block _ (Array.getElem?_eq_some_iff.1 j14).1 (by omega)).trans j14
      go_wp2_with fail
      refine wp_region_any (by kernel_rfl) ?_
      change wpAny _ _ _ _ _ _ _ (World.drew _)
      have zd18 : W15.drew.heap.size=W15.heap.size:=rfl
      refine tk 0 (.pointer (some ⟨P.R,0,none⟩)) ?_
      refine tk 1 (.pointer (some ⟨P.R,0,none⟩)) ?_
      have v19 : W15.drew.heap[W3.heap.size]?=_:=(((KeptR.refl P.R W15).trans (.of (B0.drew))).block _ (Array.getElem?_eq_some_iff.1 v16).1 (by omega)).trans v16
      obtain ⟨⟨_,_,_,_⟩,_,_,_,_⟩:=t4 v19
      refine wpAny_ready (rs:=[2,3]) (by kernel_rfl) (by simp) ?_
      refine AllReady.cons rfl (fun K hK=>?_) (AllReady.cons rfl (fun K hK=>?_) AllReady.nil)
      ·go_simp
       go_at_call 88
       refine (requested_any (r15.bel (B0.drew)) hs).mono ?_
       rintro e W20 A20
       cases h20 : requestedM L a15 with
       | bad p er =>
        rw [h20] at A20
        obtain ⟨rfl,b20⟩:=A20
        obtain rfl : Rs.bad p er=res:=by rw [← HR.out,exportAllM];simp [Rs.bind,mtT,endM,mk0,noneN,q5,h9,h15,h20]
        exact ⟨rfl,rfl,a0.trans ((k15.trans (.of (B0.drew))).trans b20)⟩
       | ok x20 a20 =>
        rw [h20] at A20
        obtain ⟨rfl,r20,b20⟩:=A20
        have y20:=r20.le
        have k20:=(k15.trans (.of (B0.drew))).trans b20
        have z20:=k20.size
        refine hK _ _ ?_
        clear hK K
        have v21 : W20.heap[W3.heap.size]?=_:=(((KeptR.refl P.R W15.drew).trans b20).block _ (Array.getElem?_eq_some_iff.1 v19).1 (by omega)).trans v19
        obtain ⟨⟨_,_,_,_⟩,_,_,_,_⟩:=t4 v21
        refine wpAny_chain [_,_,_,_,_] [3,4,5,6,7] _ _ _ _ (by kernel_rfl) rfl (by decide) ?_
        have j22 : W20.heap[W2.heap.size]?=_:=((((KeptR.refl P.R W15).trans (.of (B0.drew))).trans b20).block _ (Array.getElem?_eq_some_iff.1 j17).1 (by omega)).trans j17
        have lo : LAt W20 (fun b=>w.heap.size+1 ≤ b) (Value.slice (some ⟨W2.heap.size,0,none⟩) 1 1) [(mk0 6 x9 [])]:=LAt.n1 j22 (by show _ ≤ _;omega) (LAt.nil none 0)
        go_wp2_with fail
        go_at_call 42
        refine (node_any 64 x20 (some ⟨W20.heap.size,0,none⟩) 1 1 _).mono ?_
        rintro e W23 ⟨rfl,b23'⟩
        have j23 : W23.heap[W20.heap.size]?=_:=(b23'.block _ (by simp)).trans (heap_alloc_new W20 _)
        have r23:=(r20.bel (B0.alloc le0 _)).bel b23'
        have b23 : KeptR P.R W20 W23:=(KeptR.of (B0.alloc le0 _)).trans (.of b23')
        have k23:=k20.trans b23
        have z23:=k23.size
        have l23 : LAt W23 (fun b=>w.heap.size+1 ≤ b) (.slice (some ⟨W20.heap.size,0,none⟩) 1 1) [(mk0 65 (tokA L a).t [(mk0 6 x9 [])])]:=LAt.n1 j23 (by have:=k20.size;show _ ≤ _;omega) (lo.keepR ((KeptR.refl P.R W20).trans b23) (by omega))
        go_wp2_with fail
        go_at_call 48
        refine (endedm_any r23 _ _ _ _ _ _).mono ?_
        rintro e W24 A24
        cases h24 : wantR L sSe a20 with
        | bad p er =>
         rw [h24] at A24
         obtain ⟨rfl,b24⟩:=A24
         obtain rfl : Rs.bad p er=res:=by rw [← HR.out,exportAllM];simp [Rs.bind,mtT,endM,mk0,noneN,q5,h9,h15,h20,h24]
         exact ⟨rfl,rfl,a0.trans (k23.trans b24)⟩
        | ok x24 a24 =>
         rw [h24] at A24
         obtain ⟨rfl,r24,b24⟩:=A24
         have y24:=r24.le
         have k24:=k23.trans b24
         have z24:=k24.size
         obtain rfl : Rs.ok (mk0 64 x20 [(mk0 65 (tokA L a).t [(mk0 6 x9 [])])]) a24=res:=by rw [← HR.out,exportAllM];simp [Rs.bind,mtT,endM,mk0,noneN,q5,h9,h15,h20,h24]
         have m0:=M0.out _ k24
         obtain ⟨⟨_,_,_,_⟩,_,_,_,_⟩:=t4 m0
         go_wp2
         refine bodyPost_ret (res_n4 Tryz.results52 (t4_set _ _ _ _ m0) rfl) rfl ?_
         exact close_ok (x:=(mk0 64 x20 [(mk0 65 (tokA L a).t [(mk0 6 x9 [])])])) h (a0.trans k24) (l23.keepR ((KeptR.refl P.R W23).trans b24) (by omega)) (by omega) r24
      ·go_simp
       refine hK _ _ ?_
       clear hK K
       refine wpAny_two (i:=2) (j:=4) (is:=[4,5,6,7]) (js:=[2,5,6,7]) (os:=[_,_,_,_]) (us:=[_,_,_,_]) (by kernel_rfl) rfl rfl (by kernel_rfl) (by kernel_rfl) rfl rfl (by decide) (by decide) ?_ ?_
       ·go_wp2_with fail
        go_at_call 88
        refine (requested_any (r15.bel (B0.drew)) hs).mono ?_
        rintro e W25 A25
        cases h25 : requestedM L a15 with
        | bad p er =>
         rw [h25] at A25
         obtain ⟨rfl,b25⟩:=A25
         obtain rfl : Rs.bad p er=res:=by rw [← HR.out,exportAllM];simp [Rs.bind,mtT,endM,mk0,noneN,q5,h9,h15,h25]
         exact ⟨rfl,rfl,a0.trans ((k15.trans (.of (B0.drew))).trans b25)⟩
        | ok x25 a25 =>
         rw [h25] at A25
         obtain ⟨rfl,r25,b25⟩:=A25
         have y25:=r25.le
         have k25:=(k15.trans (.of (B0.drew))).trans b25
         have z25:=k25.size
         have v26 : W25.heap[W3.heap.size]?=_:=(((KeptR.refl P.R W15.drew).trans b25).block _ (Array.getElem?_eq_some_iff.1 v19).1 (by omega)).trans v19
         obtain ⟨⟨_,_,_,_⟩,_,_,_,_⟩:=t4 v26
         have j27 : W25.heap[W2.heap.size]?=_:=((((KeptR.refl P.R W15).trans (.of (B0.drew))).trans b25).block _ (Array.getElem?_eq_some_iff.1 j17).1 (by omega)).trans j17
         have lo : LAt W25 (fun b=>w.heap.size+1 ≤ b) (Value.slice (some ⟨W2.heap.size,0,none⟩) 1 1) [(mk0 6 x9 [])]:=LAt.n1 j27 (by show _ ≤ _;omega) (LAt.nil none 0)
         go_wp2_with fail
         go_at_call 42
         refine (node_any 64 x25 (some ⟨W25.heap.size,0,none⟩) 1 1 _).mono ?_
         rintro e W28 ⟨rfl,b28'⟩
         have j28 : W28.heap[W25.heap.size]?=_:=(b28'.block _ (by simp)).trans (heap_alloc_new W25 _)
         have r28:=(r25.bel (B0.alloc le0 _)).bel b28'
         have b28 : KeptR P.R W25 W28:=(KeptR.of (B0.alloc le0 _)).trans (.of b28')
         have k28:=k25.trans b28
         have z28:=k28.size
         have l28 : LAt W28 (fun b=>w.heap.size+1 ≤ b) (.slice (some ⟨W25.heap.size,0,none⟩) 1 1) [(mk0 65 (tokA L a).t [(mk0 6 x9 [])])]:=LAt.n1 j28 (by have:=k25.size;show _ ≤ _;omega) (lo.keepR ((KeptR.refl P.R W25).trans b28) (by omega))
         go_wp2_with fail
         go_at_call 48
         refine (endedm_any r28 _ _ _ _ _ _).mono ?_
         rintro e W29 A29
         cases h29 : wantR L sSe a25 with
         | bad p er =>
          rw [h29] at A29
          obtain ⟨rfl,b29⟩:=A29
          obtain rfl : Rs.bad p er=res:=by rw [← HR.out,exportAllM];simp [Rs.bind,mtT,endM,mk0,noneN,q5,h9,h15,h25,h29]
          exact ⟨rfl,rfl,a0.trans (k28.trans b29)⟩
         | ok x29 a29 =>
          rw [h29] at A29
          obtain ⟨rfl,r29,b29⟩:=A29
          have y29:=r29.le
          have k29:=k28.trans b29
          have z29:=k29.size
          obtain rfl : Rs.ok (mk0 64 x25 [(mk0 65 (tokA L a).t [(mk0 6 x9 [])])]) a29=res:=by rw [← HR.out,exportAllM];simp [Rs.bind,mtT,endM,mk0,noneN,q5,h9,h15,h25,h29]
          have m0:=M0.out _ k29
          obtain ⟨⟨_,_,_,_⟩,_,_,_,_⟩:=t4 m0
          go_wp2
          refine bodyPost_ret (res_n4 Tryz.results52 (t4_set _ _ _ _ m0) rfl) rfl ?_
          exact close_ok (x:=(mk0 64 x25 [(mk0 65 (tokA L a).t [(mk0 6 x9 [])])])) h (a0.trans k29) (l28.keepR ((KeptR.refl P.R W28).trans b29) (by omega)) (by omega) r29
       ·have j30 : W15.drew.heap[W2.heap.size]?=_:=(((KeptR.refl P.R W15).trans (.of (B0.drew))).block _ (Array.getElem?_eq_some_iff.1 j17).1 (by omega)).trans j17
        have lo : LAt W15.drew (fun b=>w.heap.size+1 ≤ b) (Value.slice (some ⟨W2.heap.size,0,none⟩) 1 1) [(mk0 6 x9 [])]:=LAt.n1 j30 (by show _ ≤ _;omega) (LAt.nil none 0)
        go_wp2_with fail
        go_at_call 88
        refine (requested_any ((r15.bel (B0.drew)).bel (B0.alloc le0 _)) hs).mono ?_
        rintro e W32 A32
        cases h32 : requestedM L a15 with
        | bad p er =>
         rw [h32] at A32
         obtain ⟨rfl,b32⟩:=A32
         obtain rfl : Rs.bad p er=res:=by rw [← HR.out,exportAllM];simp [Rs.bind,mtT,endM,mk0,noneN,q5,h9,h15,h32]
         exact ⟨rfl,rfl,a0.trans (((k15.trans (.of (B0.drew))).alloc _).trans b32)⟩
        | ok x32 a32 =>
         rw [h32] at A32
         obtain ⟨rfl,r32,b32⟩:=A32
         have y32:=r32.le
         have k32:=((k15.trans (.of (B0.drew))).alloc (Obj.cells #[.int .i64 65,.string (tokA L a).t,.int .i64 0,.slice (some ⟨W2.heap.size,0,none⟩) 1 1] 24)).trans b32
         have z32:=k32.size
         have v33 : W32.heap[W3.heap.size]?=_:=((((KeptR.refl P.R W15.drew).alloc _).trans b32).block _ (Array.getElem?_eq_some_iff.1 v19).1 (by omega)).trans v19
         obtain ⟨⟨_,_,_,_⟩,_,_,_,_⟩:=t4 v33
         have j31 : W32.heap[W15.drew.heap.size]?=_:=(((KeptR.refl P.R _).trans b32).block (W15.drew.heap.size) (by simp) (by have:=(k15.trans (.of (B0.drew))).size;omega)).trans (hnew (w:=W15.drew) _ (by simp))
         have l31 : LAt W32 (fun b=>w.heap.size+1 ≤ b) (.slice (some ⟨W15.drew.heap.size,0,none⟩) 1 1) [(mk0 65 (tokA L a).t [(mk0 6 x9 [])])]:=LAt.n1 j31 (by have:=(k15.trans (.of (B0.drew))).size;show _ ≤ _;omega) (lo.keepR (((KeptR.refl P.R W15.drew).alloc _).trans b32) (by omega))
         go_wp2_with fail
         go_at_call 42
         refine (node_any 64 x32 (some ⟨W15.drew.heap.size,0,none⟩) 1 1 _).mono ?_
         rintro e W34 ⟨rfl,b34'⟩
         have r34:=r32.bel b34'
         have b34:=KeptR.of (b:=P.R) b34'
         have k34:=k32.trans b34
         have z34:=k34.size
         go_wp2_with fail
         go_at_call 48
         refine (endedm_any r34 _ _ _ _ _ _).mono ?_
         rintro e W35 A35
         cases h35 : wantR L sSe a32 with
         | bad p er =>
          rw [h35] at A35
          obtain ⟨rfl,b35⟩:=A35
          obtain rfl : Rs.bad p er=res:=by rw [← HR.out,exportAllM];simp [Rs.bind,mtT,endM,mk0,noneN,q5,h9,h15,h32,h35]
          exact ⟨rfl,rfl,a0.trans (k34.trans b35)⟩
         | ok x35 a35 =>
          rw [h35] at A35
          obtain ⟨rfl,r35,b35⟩:=A35
          have y35:=r35.le
          have k35:=k34.trans b35
          have z35:=k35.size
          obtain rfl : Rs.ok (mk0 64 x32 [(mk0 65 (tokA L a).t [(mk0 6 x9 [])])]) a35=res:=by rw [← HR.out,exportAllM];simp [Rs.bind,mtT,endM,mk0,noneN,q5,h9,h15,h32,h35]
          have m0:=M0.out _ k35
          obtain ⟨⟨_,_,_,_⟩,_,_,_,_⟩:=t4 m0
          go_wp2
          refine bodyPost_ret (res_n4 Tryz.results52 (t4_set _ _ _ _ m0) rfl) rfl ?_
          exact close_ok (x:=(mk0 64 x32 [(mk0 65 (tokA L a).t [(mk0 6 x9 [])])])) h (a0.trans k35) (l31.keepR (((KeptR.refl P.R W32).trans b34).trans b35) (by omega)) (by omega) r35
 | false =>
  have T5:=takeName_any (r3.bel (B0.alloc le0 (Obj.cells #[.int .i64 65,.string (tokA L a).t,.int .i64 0,.slice (some ⟨W2.heap.size,0,none⟩) 1 1] 24))) nAs
  rw [q5] at T5
  go_wp2_with fail
  go_at_call 86
  refine T5.mono ?_
  rintro e W5 ⟨rfl,r5',b5⟩
  have r5 : Rd W5 P L (a+1) mE:=r5'
  clear r5'
  have k5:=(k3.alloc (Obj.cells #[.int .i64 65,.string (tokA L a).t,.int .i64 0,.slice (some ⟨W2.heap.size,0,none⟩) 1 1] 24)).trans b5
  have z5:=k5.size
  have y5:=r5.le
  have v36 : W5.heap[W3.heap.size]?=_:=(((KeptR.refl P.R _).trans b5).block _ (Array.getElem?_eq_some_iff.1 v4).1 (by omega)).trans v4
  obtain ⟨⟨_,_,_,_⟩,_,_,_,_⟩:=t4 v36
  have j37 : W5.heap[W2.heap.size]?=_:=((((KeptR.refl P.R W3).alloc _).trans b5).block _ (Array.getElem?_eq_some_iff.1 j3).1 (by omega)).trans j3
  go_wp2_with fail
  go_at_call 46
  refine (from_any r5).mono ?_
  rintro e W38 A38
  cases h38 : nameM L nFrom (a+1) with
  | bad p er =>
   rw [h38] at A38
   obtain ⟨rfl,b38⟩:=A38
   obtain rfl : Rs.bad p er=res:=by rw [← HR.out,exportAllM];simp [Rs.bind,mtT,endM,mk0,noneN,q5,h38]
   exact ⟨rfl,rfl,a0.trans (k5.trans b38)⟩
  | ok x38 a38 =>
   rw [h38] at A38
   obtain ⟨rfl,r38,b38⟩:=A38
   have y38:=r38.le
   have k38:=k5.trans b38
   have z38:=k38.size
   have v39 : W38.heap[W3.heap.size]?=_:=(((KeptR.refl P.R W5).trans b38).block _ (Array.getElem?_eq_some_iff.1 v36).1 (by omega)).trans v36
   obtain ⟨⟨_,_,_,_⟩,_,_,_,_⟩:=t4 v39
   have j40 : W38.heap[W2.heap.size]?=_:=(((KeptR.refl P.R W5).trans b38).block _ (Array.getElem?_eq_some_iff.1 j37).1 (by omega)).trans j37
   go_wp2_with fail
   refine wp_region_any (by kernel_rfl) ?_
   change wpAny _ _ _ _ _ _ _ (World.drew _)
   have zd41 : W38.drew.heap.size=W38.heap.size:=rfl
   refine tk 0 (.pointer (some ⟨P.R,0,none⟩)) ?_
   refine tk 1 (.pointer (some ⟨P.R,0,none⟩)) ?_
   have v42 : W38.drew.heap[W3.heap.size]?=_:=(((KeptR.refl P.R W38).trans (.of (B0.drew))).block _ (Array.getElem?_eq_some_iff.1 v39).1 (by omega)).trans v39
   obtain ⟨⟨_,_,_,_⟩,_,_,_,_⟩:=t4 v42
   refine wpAny_ready (rs:=[2,3]) (by kernel_rfl) (by simp) ?_
   refine AllReady.cons rfl (fun K hK=>?_) (AllReady.cons rfl (fun K hK=>?_) AllReady.nil)
   ·go_simp
    go_at_call 88
    refine (requested_any (r38.bel (B0.drew)) hs).mono ?_
    rintro e W43 A43
    cases h43 : requestedM L a38 with
    | bad p er =>
     rw [h43] at A43
     obtain ⟨rfl,b43⟩:=A43
     obtain rfl : Rs.bad p er=res:=by rw [← HR.out,exportAllM];simp [Rs.bind,mtT,endM,mk0,noneN,q5,h38,h43]
     exact ⟨rfl,rfl,a0.trans ((k38.trans (.of (B0.drew))).trans b43)⟩
    | ok x43 a43 =>
     rw [h43] at A43
     obtain ⟨rfl,r43,b43⟩:=A43
     have y43:=r43.le
     have k43:=(k38.trans (.of (B0.drew))).trans b43
     have z43:=k43.size
     refine hK _ _ ?_
     clear hK K
     have v44 : W43.heap[W3.heap.size]?=_:=(((KeptR.refl P.R W38.drew).trans b43).block _ (Array.getElem?_eq_some_iff.1 v42).1 (by omega)).trans v42
     obtain ⟨⟨_,_,_,_⟩,_,_,_,_⟩:=t4 v44
     refine wpAny_chain [_,_,_,_,_] [3,4,5,6,7] _ _ _ _ (by kernel_rfl) rfl (by decide) ?_
     have j45 : W43.heap[W2.heap.size]?=_:=((((KeptR.refl P.R W38).trans (.of (B0.drew))).trans b43).block _ (Array.getElem?_eq_some_iff.1 j40).1 (by omega)).trans j40
     have lo : LAt W43 (fun b=>w.heap.size+1 ≤ b) (Value.slice (some ⟨W2.heap.size,0,none⟩) 1 1) [noneN]:=LAt.n1 j45 (by show _ ≤ _;omega) (LAt.nil none 0)
     go_wp2_with fail
     go_at_call 42
     refine (node_any 64 x43 (some ⟨W43.heap.size,0,none⟩) 1 1 _).mono ?_
     rintro e W46 ⟨rfl,b46'⟩
     have j46 : W46.heap[W43.heap.size]?=_:=(b46'.block _ (by simp)).trans (heap_alloc_new W43 _)
     have r46:=(r43.bel (B0.alloc le0 _)).bel b46'
     have b46 : KeptR P.R W43 W46:=(KeptR.of (B0.alloc le0 _)).trans (.of b46')
     have k46:=k43.trans b46
     have z46:=k46.size
     have l46 : LAt W46 (fun b=>w.heap.size+1 ≤ b) (.slice (some ⟨W43.heap.size,0,none⟩) 1 1) [(mk0 65 (tokA L a).t [noneN])]:=LAt.n1 j46 (by have:=k43.size;show _ ≤ _;omega) (lo.keepR ((KeptR.refl P.R W43).trans b46) (by omega))
     go_wp2_with fail
     go_at_call 48
     refine (endedm_any r46 _ _ _ _ _ _).mono ?_
     rintro e W47 A47
     cases h47 : wantR L sSe a43 with
     | bad p er =>
      rw [h47] at A47
      obtain ⟨rfl,b47⟩:=A47
      obtain rfl : Rs.bad p er=res:=by rw [← HR.out,exportAllM];simp [Rs.bind,mtT,endM,mk0,noneN,q5,h38,h43,h47]
      exact ⟨rfl,rfl,a0.trans (k46.trans b47)⟩
     | ok x47 a47 =>
      rw [h47] at A47
      obtain ⟨rfl,r47,b47⟩:=A47
      have y47:=r47.le
      have k47:=k46.trans b47
      have z47:=k47.size
      obtain rfl : Rs.ok (mk0 64 x43 [(mk0 65 (tokA L a).t [noneN])]) a47=res:=by rw [← HR.out,exportAllM];simp [Rs.bind,mtT,endM,mk0,noneN,q5,h38,h43,h47]
      have m0:=M0.out _ k47
      obtain ⟨⟨_,_,_,_⟩,_,_,_,_⟩:=t4 m0
      go_wp2
      refine bodyPost_ret (res_n4 Tryz.results52 (t4_set _ _ _ _ m0) rfl) rfl ?_
      exact close_ok (x:=(mk0 64 x43 [(mk0 65 (tokA L a).t [noneN])])) h (a0.trans k47) (l46.keepR ((KeptR.refl P.R W46).trans b47) (by omega)) (by omega) r47
   ·go_simp
    refine hK _ _ ?_
    clear hK K
    refine wpAny_two (i:=2) (j:=4) (is:=[4,5,6,7]) (js:=[2,5,6,7]) (os:=[_,_,_,_]) (us:=[_,_,_,_]) (by kernel_rfl) rfl rfl (by kernel_rfl) (by kernel_rfl) rfl rfl (by decide) (by decide) ?_ ?_
    ·go_wp2_with fail
     go_at_call 88
     refine (requested_any (r38.bel (B0.drew)) hs).mono ?_
     rintro e W48 A48
     cases h48 : requestedM L a38 with
     | bad p er =>
      rw [h48] at A48
      obtain ⟨rfl,b48⟩:=A48
      obtain rfl : Rs.bad p er=res:=by rw [← HR.out,exportAllM];simp [Rs.bind,mtT,endM,mk0,noneN,q5,h38,h48]
      exact ⟨rfl,rfl,a0.trans ((k38.trans (.of (B0.drew))).trans b48)⟩
     | ok x48 a48 =>
      rw [h48] at A48
      obtain ⟨rfl,r48,b48⟩:=A48
      have y48:=r48.le
      have k48:=(k38.trans (.of (B0.drew))).trans b48
      have z48:=k48.size
      have v49 : W48.heap[W3.heap.size]?=_:=(((KeptR.refl P.R W38.drew).trans b48).block _ (Array.getElem?_eq_some_iff.1 v42).1 (by omega)).trans v42
      obtain ⟨⟨_,_,_,_⟩,_,_,_,_⟩:=t4 v49
      have j50 : W48.heap[W2.heap.size]?=_:=((((KeptR.refl P.R W38).trans (.of (B0.drew))).trans b48).block _ (Array.getElem?_eq_some_iff.1 j40).1 (by omega)).trans j40
      have lo : LAt W48 (fun b=>w.heap.size+1 ≤ b) (Value.slice (some ⟨W2.heap.size,0,none⟩) 1 1) [noneN]:=LAt.n1 j50 (by show _ ≤ _;omega) (LAt.nil none 0)
      go_wp2_with fail
      go_at_call 42
      refine (node_any 64 x48 (some ⟨W48.heap.size,0,none⟩) 1 1 _).mono ?_
      rintro e W51 ⟨rfl,b51'⟩
      have j51 : W51.heap[W48.heap.size]?=_:=(b51'.block _ (by simp)).trans (heap_alloc_new W48 _)
      have r51:=(r48.bel (B0.alloc le0 _)).bel b51'
      have b51 : KeptR P.R W48 W51:=(KeptR.of (B0.alloc le0 _)).trans (.of b51')
      have k51:=k48.trans b51
      have z51:=k51.size
      have l51 : LAt W51 (fun b=>w.heap.size+1 ≤ b) (.slice (some ⟨W48.heap.size,0,none⟩) 1 1) [(mk0 65 (tokA L a).t [noneN])]:=LAt.n1 j51 (by have:=k48.size;show _ ≤ _;omega) (lo.keepR ((KeptR.refl P.R W48).trans b51) (by omega))
      go_wp2_with fail
      go_at_call 48
      refine (endedm_any r51 _ _ _ _ _ _).mono ?_
      rintro e W52 A52
      cases h52 : wantR L sSe a48 with
      | bad p er =>
       rw [h52] at A52
       obtain ⟨rfl,b52⟩:=A52
       obtain rfl : Rs.bad p er=res:=by rw [← HR.out,exportAllM];simp [Rs.bind,mtT,endM,mk0,noneN,q5,h38,h48,h52]
       exact ⟨rfl,rfl,a0.trans (k51.trans b52)⟩
      | ok x52 a52 =>
       rw [h52] at A52
       obtain ⟨rfl,r52,b52⟩:=A52
       have y52:=r52.le
       have k52:=k51.trans b52
       have z52:=k52.size
       obtain rfl : Rs.ok (mk0 64 x48 [(mk0 65 (tokA L a).t [noneN])]) a52=res:=by rw [← HR.out,exportAllM];simp [Rs.bind,mtT,endM,mk0,noneN,q5,h38,h48,h52]
       have m0:=M0.out _ k52
       obtain ⟨⟨_,_,_,_⟩,_,_,_,_⟩:=t4 m0
       go_wp2
       refine bodyPost_ret (res_n4 Tryz.results52 (t4_set _ _ _ _ m0) rfl) rfl ?_
       exact close_ok (x:=(mk0 64 x48 [(mk0 65 (tokA L a).t [noneN])])) h (a0.trans k52) (l51.keepR ((KeptR.refl P.R W51).trans b52) (by omega)) (by omega) r52
    ·have j53 : W38.drew.heap[W2.heap.size]?=_:=(((KeptR.refl P.R W38).trans (.of (B0.drew))).block _ (Array.getElem?_eq_some_iff.1 j40).1 (by omega)).trans j40
     have lo : LAt W38.drew (fun b=>w.heap.size+1 ≤ b) (Value.slice (some ⟨W2.heap.size,0,none⟩) 1 1) [noneN]:=LAt.n1 j53 (by show _ ≤ _;omega) (LAt.nil none 0)
     go_wp2_with fail
     go_at_call 88
     refine (requested_any ((r38.bel (B0.drew)).bel (B0.alloc le0 _)) hs).mono ?_
     rintro e W55 A55
     cases h55 : requestedM L a38 with
     | bad p er =>
      rw [h55] at A55
      obtain ⟨rfl,b55⟩:=A55
      obtain rfl : Rs.bad p er=res:=by rw [← HR.out,exportAllM];simp [Rs.bind,mtT,endM,mk0,noneN,q5,h38,h55]
      exact ⟨rfl,rfl,a0.trans (((k38.trans (.of (B0.drew))).alloc _).trans b55)⟩
     | ok x55 a55 =>
      rw [h55] at A55
      obtain ⟨rfl,r55,b55⟩:=A55
      have y55:=r55.le
      have k55:=((k38.trans (.of (B0.drew))).alloc (Obj.cells #[.int .i64 65,.string (tokA L a).t,.int .i64 0,.slice (some ⟨W2.heap.size,0,none⟩) 1 1] 24)).trans b55
      have z55:=k55.size
      have v56 : W55.heap[W3.heap.size]?=_:=((((KeptR.refl P.R W38.drew).alloc _).trans b55).block _ (Array.getElem?_eq_some_iff.1 v42).1 (by omega)).trans v42
      obtain ⟨⟨_,_,_,_⟩,_,_,_,_⟩:=t4 v56
      have j54 : W55.heap[W38.drew.heap.size]?=_:=(((KeptR.refl P.R _).trans b55).block (W38.drew.heap.size) (by simp) (by have:=(k38.trans (.of (B0.drew))).size;omega)).trans (hnew (w:=W38.drew) _ (by simp))
      have l54 : LAt W55 (fun b=>w.heap.size+1 ≤ b) (.slice (some ⟨W38.drew.heap.size,0,none⟩) 1 1) [(mk0 65 (tokA L a).t [noneN])]:=LAt.n1 j54 (by have:=(k38.trans (.of (B0.drew))).size;show _ ≤ _;omega) (lo.keepR (((KeptR.refl P.R W38.drew).alloc _).trans b55) (by omega))
      go_wp2_with fail
      go_at_call 42
      refine (node_any 64 x55 (some ⟨W38.drew.heap.size,0,none⟩) 1 1 _).mono ?_
      rintro e W57 ⟨rfl,b57'⟩
      have r57:=r55.bel b57'
      have b57:=KeptR.of (b:=P.R) b57'
      have k57:=k55.trans b57
      have z57:=k57.size
      go_wp2_with fail
      go_at_call 48
      refine (endedm_any r57 _ _ _ _ _ _).mono ?_
      rintro e W58 A58
      cases h58 : wantR L sSe a55 with
      | bad p er =>
       rw [h58] at A58
       obtain ⟨rfl,b58⟩:=A58
       obtain rfl : Rs.bad p er=res:=by rw [← HR.out,exportAllM];simp [Rs.bind,mtT,endM,mk0,noneN,q5,h38,h55,h58]
       exact ⟨rfl,rfl,a0.trans (k57.trans b58)⟩
      | ok x58 a58 =>
       rw [h58] at A58
       obtain ⟨rfl,r58,b58⟩:=A58
       have y58:=r58.le
       have k58:=k57.trans b58
       have z58:=k58.size
       obtain rfl : Rs.ok (mk0 64 x55 [(mk0 65 (tokA L a).t [noneN])]) a58=res:=by rw [← HR.out,exportAllM];simp [Rs.bind,mtT,endM,mk0,noneN,q5,h38,h55,h58]
       have m0:=M0.out _ k58
       obtain ⟨⟨_,_,_,_⟩,_,_,_,_⟩:=t4 m0
       go_wp2
       refine bodyPost_ret (res_n4 Tryz.results52 (t4_set _ _ _ _ m0) rfl) rfl ?_
       exact close_ok (x:=(mk0 64 x55 [(mk0 65 (tokA L a).t [noneN])])) h (a0.trans k58) (l54.keepR (((KeptR.refl P.R W55).trans b57).trans b58) (by omega)) (by omega) r58
end Go.Proofs.YthfkfbcopinmiaaGreatDoor
