/- Own text. Package module: the rules,one by one: an import. Package module: the rules,one by one: a space. Package module: one item,read by what it begins with. Package module: an item has at most two trees a token (of the model;no program is named here). Package module: imports,exports and all items have at most two trees a token (of the model;no program is named here). The lexer: two sources,one on lines behind the other (of the model;no program is named here). Two sources on lines of their own are the items of both;tokens that differ in places alone are the same items (of the model;no program is named here). -/
import Derived.Test.YthfkfbcopinmiaaGreatDoorGk47
import Derived.Test.YthfkfbcopinmiaaGreatDoorGk11
import Derived.Test.YthfkfbcopinmiaaGreatDoorGk37
import Derived.Test.YthfkfbcopinmiaaGreatDoorGk46
import Derived.Test.YthfkfbcopinmiaaGreatDoorGk45
import Derived.Test.YthfkfbcopinmiaaGreatDoorGk06
import Derived.Test.YthfkfbcopinmiaaGreatDoorGk29
import Derived.Test.YthfkfbcopinmiaaGreatDoorGk33
import Derived.Test.YthfkfbcopinmiaaGreatDoorGk28
set_option linter.unusedVariables false
set_option linter.unusedSimpArgs false
set_option maxRecDepth 100000
set_option maxHeartbeats 8000000
namespace Go.Proofs.YthfkfbcopinmiaaGreatDoor
open Go.RowKit
theorem imports_m {L : List Tok} (hs : Small L) {w : World} {P : Pl} {a : Nat} (h : Rd w P L a mE) (hlt : a < L.length) : Calls Tryz.prog 20 #[.pointer (some ⟨P.R,0,none⟩)] w (AnsN P L mE w (importM L a)):=by
 have hRw:=h.lt
 have hle:=h.le
 obtain ⟨h0,a0,z0,M0⟩:=begin_cell h
 obtain ⟨res,hres⟩ : ∃ r,importM L a=r:=⟨_,rfl⟩
 have HR : Hid (importM L a=res):=hres
 rw [hres]
 clear hres
 go_enter Tryz.func20,Tryz.ntmps20
 go_wp2_with fail
 go_at_call 37
 refine (pass_any h0 hlt (hs.at _)).mono ?_
 rintro e W1 ⟨rfl,r1,b1⟩
 have k1:=(KeptR.refl P.R (w.alloc zN)).trans b1
 have z1:=k1.size
 have y1:=r1.le
 have gV : w.heap.size+1 ≤ W1.heap.size:=by have:=k1.size;omega
 have v2 : (W1.alloc (Obj.cells #[.int .i64 60,.string ⟨#[]⟩,.int .i64 0,.slice none 0 0] 24)).heap[W1.heap.size]?=some (.cells #[.int .i64 60,.string ⟨#[]⟩,.int .i64 0,.slice none 0 0] 24 (0,0)):=heap_alloc_new W1 _
 obtain ⟨⟨_,_,_,_⟩,_,_,_,_⟩:=t4 v2
 have TK:=token_any (r1.bel (B0.alloc le0 (Obj.cells #[.int .i64 60,.string ⟨#[]⟩,.int .i64 0,.slice none 0 0] 24)))
 unfold Tok.v at TK
 have hf:=fld0 (.int .i64 (tokA L (a+1)).k) (.string (tokA L (a+1)).t) (.int .i64 (tokA L (a+1)).n) (.int .i64 (tokA L (a+1)).p)
 by_cases e3 : (tokA L (a+1)).k=4
 ·have f3 : ((tokA L (a+1)).k == 4)=true:=by simp [e3]
  have E3 : Hid ((tokA L (a+1)).k=4):=e3
  clear e3
  go_wp2_with fail
  go_at_call 36
  refine TK.mono ?_
  rintro e W4 ⟨rfl,b4'⟩
  have r4:=(r1.bel (B0.alloc le0 _)).bel b4'
  have b4:=KeptR.of (b:=P.R) b4'
  have k4:=(k1.alloc (Obj.cells #[.int .i64 60,.string ⟨#[]⟩,.int .i64 0,.slice none 0 0] 24)).trans b4
  have z4:=k4.size
  have v5 : W4.heap[W1.heap.size]?=_:=(((KeptR.refl P.R _).trans b4).block _ (Array.getElem?_eq_some_iff.1 v2).1 (by omega)).trans v2
  obtain ⟨⟨_,_,_,_⟩,_,_,_,_⟩:=t4 v5
  go_wp2_with fail
  go_at_call 47
  refine (request_any r4 hs).mono ?_
  rintro e W6 A6
  cases h6 : requestM L (a+1) with
  | bad p er =>
   rw [h6] at A6
   obtain ⟨rfl,b6⟩:=A6
   obtain rfl : Rs.bad p er=res:=by rw [← HR.out,importM];simp [Rs.bind,mtT,endM,mk0,E3.out,h6]
   exact ⟨rfl,rfl,a0.trans (k4.trans b6)⟩
  | ok x6 a6 =>
   rw [h6] at A6
   obtain ⟨rfl,r6,b6⟩:=A6
   have y6:=r6.le
   have k6:=k4.trans b6
   have z6:=k6.size
   have v7 : W6.heap[W1.heap.size]?=_:=(((KeptR.refl P.R W4).trans b6).block _ (Array.getElem?_eq_some_iff.1 v5).1 (by omega)).trans v5
   obtain ⟨⟨_,_,_,_⟩,_,_,_,_⟩:=t4 v7
   have v8 : (W6.setCell ⟨W1.heap.size,1,none⟩ (Value.string x6)).heap[W1.heap.size]?=some (.cells #[.int .i64 60,.string x6,.int .i64 0,.slice none 0 0] 24 (0,0)):=by simp [World.setCell,Array.getElem?_modify,v7]
   obtain ⟨⟨_,_,_,_⟩,_,_,_,_⟩:=t4 v8
   have r8:=r6.other (n:=W1.heap.size) (by omega) (fun q=>by have:=h.x.lt q;omega) 1 (Value.string x6)
   have k8:=k6.new (n:=W1.heap.size) (by omega) 1 (Value.string x6)
   go_wp2_with fail
   go_at_call 48
   refine (endedm_any r8 _ _ _ _ _ _).mono ?_
   rintro e W9 A9
   cases h9 : wantR L sSe a6 with
   | bad p er =>
    rw [h9] at A9
    obtain ⟨rfl,b9⟩:=A9
    obtain rfl : Rs.bad p er=res:=by rw [← HR.out,importM];simp [Rs.bind,mtT,endM,mk0,E3.out,h6,h9]
    exact ⟨rfl,rfl,a0.trans (k8.trans b9)⟩
   | ok x9 a9 =>
    rw [h9] at A9
    obtain ⟨rfl,r9,b9⟩:=A9
    have y9:=r9.le
    have k9:=k8.trans b9
    have z9:=k9.size
    obtain rfl : Rs.ok (Nd.mk 60 x6 0 []) a9=res:=by rw [← HR.out,importM];simp [Rs.bind,mtT,endM,mk0,E3.out,h6,h9]
    have m0:=M0.out _ k9
    obtain ⟨⟨_,_,_,_⟩,_,_,_,_⟩:=t4 m0
    go_wp2
    refine bodyPost_ret (res_n4 Tryz.results20 (t4_set _ _ _ _ m0) rfl) rfl ?_
    exact close_ok (x:=(Nd.mk 60 x6 0 [])) h (a0.trans k9) (LAt.nil (S:=fun b=>w.heap.size+1 ≤ b) none 0) (by omega) r9
 ·have f3 : ((tokA L (a+1)).k == 4)=false:=by simp [e3]
  have E3 : Hid (¬ (tokA L (a+1)).k=4):=e3
  clear e3
  go_wp2_with fail
  go_at_call 36
  refine TK.mono ?_
  rintro e W10 ⟨rfl,b10'⟩
  have r10:=(r1.bel (B0.alloc le0 _)).bel b10'
  have b10:=KeptR.of (b:=P.R) b10'
  have k10:=(k1.alloc (Obj.cells #[.int .i64 60,.string ⟨#[]⟩,.int .i64 0,.slice none 0 0] 24)).trans b10
  have z10:=k10.size
  have v11 : W10.heap[W1.heap.size]?=_:=(((KeptR.refl P.R _).trans b10).block _ (Array.getElem?_eq_some_iff.1 v2).1 (by omega)).trans v2
  obtain ⟨⟨_,_,_,_⟩,_,_,_,_⟩:=t4 v11
  have TA:=typesAlone_any r10
  cases q12 : typesAloneM L (a+1) with
  | true =>
   rw [q12] at TA
   go_wp2_with fail
   go_at_call 44
   refine TA.mono ?_
   rintro e W13 ⟨rfl,b13'⟩
   have r13:=r10.bel b13'
   have b13:=KeptR.of (b:=P.R) b13'
   have k13:=k10.trans b13
   have z13:=k13.size
   have v14 : W13.heap[W1.heap.size]?=_:=(((KeptR.refl P.R W10).trans b13).block _ (Array.getElem?_eq_some_iff.1 v11).1 (by omega)).trans v11
   obtain ⟨⟨_,_,_,_⟩,_,_,_,_⟩:=t4 v14
   have ut : a+1 < L.length:=isNm_lt (s:=nType) (by unfold typesAloneM at q12;rw [Bool.and_eq_true] at q12;exact q12.1)
   go_wp2_with fail
   go_at_call 37
   refine (pass_any r13 ut (hs.at _)).mono ?_
   rintro e W15 ⟨rfl,r15,b15⟩
   have k15:=k13.trans b15
   have z15:=k15.size
   have y15:=r15.le
   have v16 : W15.heap[W1.heap.size]?=_:=(((KeptR.refl P.R W13).trans b15).block _ (Array.getElem?_eq_some_iff.1 v14).1 (by omega)).trans v14
   obtain ⟨⟨_,_,_,_⟩,_,_,_,_⟩:=t4 v16
   have v17 : (W15.setCell ⟨W1.heap.size,2,none⟩ (Value.int IntKind.i64 1)).heap[W1.heap.size]?=some (.cells #[.int .i64 60,.string ⟨#[]⟩,.int .i64 1,.slice none 0 0] 24 (0,0)):=by simp [World.setCell,Array.getElem?_modify,v16]
   obtain ⟨⟨_,_,_,_⟩,_,_,_,_⟩:=t4 v17
   have r17:=r15.other (n:=W1.heap.size) (by omega) (fun q=>by have:=h.x.lt q;omega) 2 (Value.int IntKind.i64 1)
   have k17:=k15.new (n:=W1.heap.size) (by omega) 2 (Value.int IntKind.i64 1)
   have hVs : W1.heap.size < (W15.setCell ⟨W1.heap.size,2,none⟩ (Value.int IntKind.i64 1)).heap.size:=(Array.getElem?_eq_some_iff.1 v17).1
   go_wp2_with fail
   go_at_call 45
   refine (clause_any hs r17 true).mono ?_
   rintro e W18 A18
   cases h18 : clauseM L true (a+1+1) with
   | bad p er =>
    rw [h18] at A18
    obtain ⟨rfl,b18⟩:=A18
    obtain rfl : Rs.bad p er=res:=by rw [← HR.out,importM];simp [Rs.bind,mtT,endM,mk0,E3.out,q12,h18]
    exact ⟨rfl,rfl,a0.trans (k17.trans b18.one)⟩
   | ok x18 a18 =>
    rw [h18] at A18
    obtain ⟨ad18,c18,rfl,l18',r18,b18'⟩:=A18
    have b18:=b18'.one
    have y18:=r18.le
    have k18:=k17.trans b18
    have z18:=k18.size
    have l18:=l18'.mono (T:=fun b=>w.heap.size+1 ≤ b) (fun b hb=>by have:=k17.size;omega)
    have v19 : W18.heap[W1.heap.size]?=_:=(((KeptR.refl P.R (W15.setCell ⟨W1.heap.size,2,none⟩ (Value.int IntKind.i64 1))).trans b18).block _ (Array.getElem?_eq_some_iff.1 v17).1 (by omega)).trans v17
    obtain ⟨⟨_,_,_,_⟩,_,_,_,_⟩:=t4 v19
    have v20 : (W18.setCell ⟨W1.heap.size,3,none⟩ (Value.slice ad18 x18.length c18)).heap[W1.heap.size]?=some (.cells #[.int .i64 60,.string ⟨#[]⟩,.int .i64 1,.slice ad18 x18.length c18] 24 (0,0)):=by simp [World.setCell,Array.getElem?_modify,v19]
    obtain ⟨⟨_,_,_,_⟩,_,_,_,_⟩:=t4 v20
    have r20:=r18.other (n:=W1.heap.size) (by omega) (fun q=>by have:=h.x.lt q;omega) 3 (Value.slice ad18 x18.length c18)
    have k20:=k18.new (n:=W1.heap.size) (by omega) 3 (Value.slice ad18 x18.length c18)
    have zz21:=0
    have lV : LAt (W18.setCell ⟨W1.heap.size,3,none⟩ (Value.slice ad18 x18.length c18)) (fun b=>W1.heap.size+1 ≤ b) (Value.slice ad18 x18.length c18) x18:=(l18'.mono (T:=fun b=>W1.heap.size+1 ≤ b) (fun b hb=>by have:=hVs;omega)).keep (by simp [World.setCell]) (fun b hb hl=>Below.heap_setCell _ _ _ _ (by show b ≠ W1.heap.size;omega))
    go_wp2_with fail
    go_at_call 46
    refine (from_any r20).mono ?_
    rintro e W22 A22
    cases h22 : nameM L nFrom a18 with
    | bad p er =>
     rw [h22] at A22
     obtain ⟨rfl,b22⟩:=A22
     obtain rfl : Rs.bad p er=res:=by rw [← HR.out,importM];simp [Rs.bind,mtT,endM,mk0,E3.out,q12,h18,h22]
     exact ⟨rfl,rfl,a0.trans (k20.trans b22)⟩
    | ok x22 a22 =>
     rw [h22] at A22
     obtain ⟨rfl,r22,b22⟩:=A22
     have y22:=r22.le
     have k22:=k20.trans b22
     have z22:=k22.size
     go_wp2_with fail
     go_at_call 47
     refine (request_any r22 hs).mono ?_
     rintro e W23 A23
     cases h23 : requestM L a22 with
     | bad p er =>
      rw [h23] at A23
      obtain ⟨rfl,b23⟩:=A23
      obtain rfl : Rs.bad p er=res:=by rw [← HR.out,importM];simp [Rs.bind,mtT,endM,mk0,E3.out,q12,h18,h22,h23]
      exact ⟨rfl,rfl,a0.trans (k22.trans b23)⟩
     | ok x23 a23 =>
      rw [h23] at A23
      obtain ⟨rfl,r23,b23⟩:=A23
      have y23:=r23.le
      have k23:=k22.trans b23
      have z23:=k23.size
      have v24 : W23.heap[W1.heap.size]?=_:=((((KeptR.refl P.R (W18.setCell ⟨W1.heap.size,3,none⟩ (Value.slice ad18 x18.length c18))).trans b22).trans b23).block _ (Array.getElem?_eq_some_iff.1 v20).1 (by omega)).trans v20
      obtain ⟨⟨_,_,_,_⟩,_,_,_,_⟩:=t4 v24
      have v25 : (W23.setCell ⟨W1.heap.size,1,none⟩ (Value.string x23)).heap[W1.heap.size]?=some (.cells #[.int .i64 60,.string x23,.int .i64 1,.slice ad18 x18.length c18] 24 (0,0)):=by simp [World.setCell,Array.getElem?_modify,v24]
      obtain ⟨⟨_,_,_,_⟩,_,_,_,_⟩:=t4 v25
      have r25:=r23.other (n:=W1.heap.size) (by omega) (fun q=>by have:=h.x.lt q;omega) 1 (Value.string x23)
      have k25:=k23.new (n:=W1.heap.size) (by omega) 1 (Value.string x23)
      have zz26:=0
      have zz27:=0
      have lz : LAt (W23.setCell ⟨W1.heap.size,1,none⟩ (Value.string x23)) (fun b=>w.heap.size+1 ≤ b) (Value.slice ad18 x18.length c18) x18:=((lV.keep (((KeptR.refl P.R (W18.setCell ⟨W1.heap.size,3,none⟩ (Value.slice ad18 x18.length c18))).trans b22).trans b23).size (fun b hb hl=>(((KeptR.refl P.R (W18.setCell ⟨W1.heap.size,3,none⟩ (Value.slice ad18 x18.length c18))).trans b22).trans b23).block b hl (by omega))).keep (by simp [World.setCell]) (fun b hb hl=>Below.heap_setCell _ _ _ _ (by show b ≠ W1.heap.size;omega))).mono (fun b hb=>by omega)
      go_wp2_with fail
      go_at_call 48
      refine (endedm_any r25 _ _ _ _ _ _).mono ?_
      rintro e W28 A28
      cases h28 : wantR L sSe a23 with
      | bad p er =>
       rw [h28] at A28
       obtain ⟨rfl,b28⟩:=A28
       obtain rfl : Rs.bad p er=res:=by rw [← HR.out,importM];simp [Rs.bind,mtT,endM,mk0,E3.out,q12,h18,h22,h23,h28]
       exact ⟨rfl,rfl,a0.trans (k25.trans b28)⟩
      | ok x28 a28 =>
       rw [h28] at A28
       obtain ⟨rfl,r28,b28⟩:=A28
       have y28:=r28.le
       have k28:=k25.trans b28
       have z28:=k28.size
       obtain rfl : Rs.ok (Nd.mk 60 x23 1 x18) a28=res:=by rw [← HR.out,importM];simp [Rs.bind,mtT,endM,mk0,E3.out,q12,h18,h22,h23,h28]
       have m0:=M0.out _ k28
       obtain ⟨⟨_,_,_,_⟩,_,_,_,_⟩:=t4 m0
       go_wp2
       refine bodyPost_ret (res_n4 Tryz.results20 (t4_set _ _ _ _ m0) rfl) rfl ?_
       exact close_ok (x:=(Nd.mk 60 x23 1 x18)) h (a0.trans k28) (lz.keepR ((KeptR.refl P.R (W23.setCell ⟨W1.heap.size,1,none⟩ (Value.string x23))).trans b28) (by omega)) (by omega) r28
  | false =>
   rw [q12] at TA
   go_wp2_with fail
   go_at_call 44
   refine TA.mono ?_
   rintro e W29 ⟨rfl,b29'⟩
   have r29:=r10.bel b29'
   have b29:=KeptR.of (b:=P.R) b29'
   have k29:=k10.trans b29
   have z29:=k29.size
   have v30 : W29.heap[W1.heap.size]?=_:=(((KeptR.refl P.R W10).trans b29).block _ (Array.getElem?_eq_some_iff.1 v11).1 (by omega)).trans v11
   obtain ⟨⟨_,_,_,_⟩,_,_,_,_⟩:=t4 v30
   have hVs : W1.heap.size < W29.heap.size:=(Array.getElem?_eq_some_iff.1 v30).1
   go_wp2_with fail
   go_at_call 45
   refine (clause_any hs r29 false).mono ?_
   rintro e W31 A31
   cases h31 : clauseM L false (a+1) with
   | bad p er =>
    rw [h31] at A31
    obtain ⟨rfl,b31⟩:=A31
    obtain rfl : Rs.bad p er=res:=by rw [← HR.out,importM];simp [Rs.bind,mtT,endM,mk0,E3.out,q12,h31]
    exact ⟨rfl,rfl,a0.trans (k29.trans b31.one)⟩
   | ok x31 a31 =>
    rw [h31] at A31
    obtain ⟨ad31,c31,rfl,l31',r31,b31'⟩:=A31
    have b31:=b31'.one
    have y31:=r31.le
    have k31:=k29.trans b31
    have z31:=k31.size
    have l31:=l31'.mono (T:=fun b=>w.heap.size+1 ≤ b) (fun b hb=>by have:=k29.size;omega)
    have v32 : W31.heap[W1.heap.size]?=_:=(((KeptR.refl P.R W29).trans b31).block _ (Array.getElem?_eq_some_iff.1 v30).1 (by omega)).trans v30
    obtain ⟨⟨_,_,_,_⟩,_,_,_,_⟩:=t4 v32
    have v33 : (W31.setCell ⟨W1.heap.size,3,none⟩ (Value.slice ad31 x31.length c31)).heap[W1.heap.size]?=some (.cells #[.int .i64 60,.string ⟨#[]⟩,.int .i64 0,.slice ad31 x31.length c31] 24 (0,0)):=by simp [World.setCell,Array.getElem?_modify,v32]
    obtain ⟨⟨_,_,_,_⟩,_,_,_,_⟩:=t4 v33
    have r33:=r31.other (n:=W1.heap.size) (by omega) (fun q=>by have:=h.x.lt q;omega) 3 (Value.slice ad31 x31.length c31)
    have k33:=k31.new (n:=W1.heap.size) (by omega) 3 (Value.slice ad31 x31.length c31)
    have zz34:=0
    have lV : LAt (W31.setCell ⟨W1.heap.size,3,none⟩ (Value.slice ad31 x31.length c31)) (fun b=>W1.heap.size+1 ≤ b) (Value.slice ad31 x31.length c31) x31:=(l31'.mono (T:=fun b=>W1.heap.size+1 ≤ b) (fun b hb=>by have:=hVs;omega)).keep (by simp [World.setCell]) (fun b hb hl=>Below.heap_setCell _ _ _ _ (by show b ≠ W1.heap.size;omega))
    go_wp2_with fail
    go_at_call 46
    refine (from_any r33).mono ?_
    rintro e W35 A35
    cases h35 : nameM L nFrom a31 with
    | bad p er =>
     rw [h35] at A35
     obtain ⟨rfl,b35⟩:=A35
     obtain rfl : Rs.bad p er=res:=by rw [← HR.out,importM];simp [Rs.bind,mtT,endM,mk0,E3.out,q12,h31,h35]
     exact ⟨rfl,rfl,a0.trans (k33.trans b35)⟩
    | ok x35 a35 =>
     rw [h35] at A35
     obtain ⟨rfl,r35,b35⟩:=A35
     have y35:=r35.le
     have k35:=k33.trans b35
     have z35:=k35.size
     go_wp2_with fail
     go_at_call 47
     refine (request_any r35 hs).mono ?_
     rintro e W36 A36
     cases h36 : requestM L a35 with
     | bad p er =>
      rw [h36] at A36
      obtain ⟨rfl,b36⟩:=A36
      obtain rfl : Rs.bad p er=res:=by rw [← HR.out,importM];simp [Rs.bind,mtT,endM,mk0,E3.out,q12,h31,h35,h36]
      exact ⟨rfl,rfl,a0.trans (k35.trans b36)⟩
     | ok x36 a36 =>
      rw [h36] at A36
      obtain ⟨rfl,r36,b36⟩:=A36
      have y36:=r36.le
      have k36:=k35.trans b36
      have z36:=k36.size
      have v37 : W36.heap[W1.heap.size]?=_:=((((KeptR.refl P.R (W31.setCell ⟨W1.heap.size,3,none⟩ (Value.slice ad31 x31.length c31))).trans b35).trans b36).block _ (Array.getElem?_eq_some_iff.1 v33).1 (by omega)).trans v33
      obtain ⟨⟨_,_,_,_⟩,_,_,_,_⟩:=t4 v37
      have v38 : (W36.setCell ⟨W1.heap.size,1,none⟩ (Value.string x36)).heap[W1.heap.size]?=some (.cells #[.int .i64 60,.string x36,.int .i64 0,.slice ad31 x31.length c31] 24 (0,0)):=by simp [World.setCell,Array.getElem?_modify,v37]
      obtain ⟨⟨_,_,_,_⟩,_,_,_,_⟩:=t4 v38
      have r38:=r36.other (n:=W1.heap.size) (by omega) (fun q=>by have:=h.x.lt q;omega) 1 (Value.string x36)
      have k38:=k36.new (n:=W1.heap.size) (by omega) 1 (Value.string x36)
      have zz39:=0
      have zz40:=0
      have lz : LAt (W36.setCell ⟨W1.heap.size,1,none⟩ (Value.string x36)) (fun b=>w.heap.size+1 ≤ b) (Value.slice ad31 x31.length c31) x31:=((lV.keep (((KeptR.refl P.R (W31.setCell ⟨W1.heap.size,3,none⟩ (Value.slice ad31 x31.length c31))).trans b35).trans b36).size (fun b hb hl=>(((KeptR.refl P.R (W31.setCell ⟨W1.heap.size,3,none⟩ (Value.slice ad31 x31.length c31))).trans b35).trans b36).block b hl (by omega))).keep (by simp [World.setCell]) (fun b hb hl=>Below.heap_setCell _ _ _ _ (by show b ≠ W1.heap.size;omega))).mono (fun b hb=>by omega)
      go_wp2_with fail
      go_at_call 48
      refine (endedm_any r38 _ _ _ _ _ _).mono ?_
      rintro e W41 A41
      cases h41 : wantR L sSe a36 with
      | bad p er =>
       rw [h41] at A41
       obtain ⟨rfl,b41⟩:=A41
       obtain rfl : Rs.bad p er=res:=by rw [← HR.out,importM];simp [Rs.bind,mtT,endM,mk0,E3.out,q12,h31,h35,h36,h41]
       exact ⟨rfl,rfl,a0.trans (k38.trans b41)⟩
      | ok x41 a41 =>
       rw [h41] at A41
       obtain ⟨rfl,r41,b41⟩:=A41
       have y41:=r41.le
       have k41:=k38.trans b41
       have z41:=k41.size
       obtain rfl : Rs.ok (Nd.mk 60 x36 0 x31) a41=res:=by rw [← HR.out,importM];simp [Rs.bind,mtT,endM,mk0,E3.out,q12,h31,h35,h36,h41]
       have m0:=M0.out _ k41
       obtain ⟨⟨_,_,_,_⟩,_,_,_,_⟩:=t4 m0
       go_wp2
       refine bodyPost_ret (res_n4 Tryz.results20 (t4_set _ _ _ _ m0) rfl) rfl ?_
       exact close_ok (x:=(Nd.mk 60 x36 0 x31)) h (a0.trans k41) (lz.keepR ((KeptR.refl P.R (W36.setCell ⟨W1.heap.size,1,none⟩ (Value.string x36))).trans b41) (by omega)) (by omega) r41
theorem eg_imports : ∀ args w,(callFunc 20 args).run Tryz.prog w = .ok (.enter 20 args) w:=Go.Proofs.enters_of Tryz.func20 (by kernel_rfl) rfl
theorem eg_exports : ∀ args w,(callFunc 21 args).run Tryz.prog w = .ok (.enter 21 args) w:=Go.Proofs.enters_of Tryz.func21 (by kernel_rfl) rfl
theorem eg_ofModule : ∀ args w,(callFunc 11 args).run Tryz.prog w = .ok (.enter 11 args) w:=Go.Proofs.enters_of Tryz.func11 (by kernel_rfl) rfl
theorem eg_mdK (L : List Tok) (a : Nat) : ∀ args w,(callFunc (mdK L a) args).run Tryz.prog w = .ok (.enter (mdK L a) args) w:=by
 unfold mdK
 by_cases h1 : isWd L a wClass=true
 ·rw [if_pos h1];exact eg_class
 rw [if_neg h1]
 by_cases h2 : isWd L a wImport=true
 ·rw [if_pos h2];exact eg_imports
 rw [if_neg h2]
 by_cases h3 : isWd L a wExport=true
 ·rw [if_pos h3];exact eg_exports
 rw [if_neg h3]
 by_cases h4 : opensM L a nType sAs=true
 ·rw [if_pos h4];exact eg_alias
 rw [if_neg h4]
 exact eg_stmt
theorem item_m {L : List Tok} (hs : Small L) {w : World} {P : Pl} {a : Nat} (h : Rd w P L a mE) : Calls Tryz.prog (mdK L a) #[.pointer (some ⟨P.R,0,none⟩)] w (AnsN P L mE w (itemM L a)):=by
 unfold mdK itemM
 by_cases h1 : isWd L a wClass=true
 ·rw [if_pos h1,if_pos h1];exact class_m hs h (isWd_lt h1)
 rw [if_neg h1,if_neg h1]
 by_cases h2 : isWd L a wImport=true
 ·rw [if_pos h2,if_pos h2];exact imports_m hs h (isWd_lt h2)
 rw [if_neg h2,if_neg h2]
 by_cases h3 : isWd L a wExport=true
 ·rw [if_pos h3,if_pos h3];exact exports_m hs h (isWd_lt h3)
 rw [if_neg h3,if_neg h3]
 by_cases h4 : opensM L a nType sAs=true
 ·rw [if_pos h4,if_pos h4];exact alias_m hs h (by have:=opens_lt h4;omega)
 rw [if_neg h4,if_neg h4]
 exact stmt_m hs h
theorem readItem {L : List Tok} {w : World} {v : Value} {a : Nat} (hv : TkV w v L) (ha : a ≤ L.length) : Calls Tryz.prog 15 #[v,.int .i64 (a : Int),.func (.func 11) #[] #[]] w (AnsF w (faceR (itemM L a))) :=
 readM_any L _ eg_ofModule (mdK L) (eg_mdK L) (itemM L) w v a hv ha (fun W P r=>ofModule_any r) (fun W P r=>item_m hv.texts r)
variable {L : List Tok}
theorem exprM_sz (a : Nat) : Zg (fun x b=>x.size+2 * a ≤ 2 * b) (exprM L a):=(sz_all L _).expr' a 0
theorem typeM_sz (a : Nat) : Zg (fun x b=>x.size+2 * a ≤ 2 * b) (typeM L a):=(sz_all L _).type' a 0
theorem stmtM_sz (a : Nat) : Zg (fun x b=>x.size+2 * a ≤ 2 * b) (stmtM L a):=(sz_all L _).stmt' a 0
theorem toM_sz (a : Nat) : Zg (fun x b=>x.size+2 * a ≤ 2 * b+1) (toM L a):=Zg.ite (fun _=>(typeM_sz (a+1)).weak (fun x b h=>by omega)) (fun _=>Zg.ok (by show noneN.size+_ ≤ _;rw [show noneN.size=1 from rfl];omega))
theorem endM_sz {n : Nd} {a c : Nat} (h : n.size+2 * c ≤ 2 * a+2) : Zg (fun x b=>x.size+2 * c ≤ 2 * b) (endM L n a):=want_sz.bind (fun u b e=>Zg.ok (by subst e;omega))
theorem name_sz {a : Nat} {s : ByteArray} : Zg (fun _ b=>b=a+1) (nameM L s a):=Zg.ite (fun _=>Zg.ok rfl) (fun _=>Zg.bad)
theorem request_sz {a : Nat} : Zg (fun _ b=>b=a+1) (requestM L a):=Zg.ite (fun _=>Zg.ok rfl) (fun _=>Zg.bad)
theorem requested_sz {a : Nat} : Zg (fun _ b=>b=a+1) (requestedM L a):=Zg.ite (fun _=>Zg.bad) (fun _=>request_sz)
theorem mk_sz (k : Int) (t : ByteArray) (n : Int) (ks : List Nd) : (Nd.mk k t n ks).size=1+sizes ks:=by simp [Nd.size]
theorem mk0_sz (k : Int) (t : ByteArray) (ks : List Nd) : (mk0 k t ks).size=1+sizes ks:=mk_sz k t 0 ks
theorem sizes_1 (x : Nd) : sizes [x]=x.size:=by simp [sizes]
theorem sizes_2 (x y : Nd) : sizes [x,y]=x.size+y.size:=by simp [sizes]
theorem sizes_3 (x y z : Nd) : sizes [x,y,z]=x.size+y.size+z.size:=by simp [sizes];omega
theorem alias_sz (a : Nat) : Zg (fun x b=>x.size+2 * a ≤ 2 * b) (aliasM L a) :=
 id_sz.bind fun t a1 e1=>want_sz.bind fun _ a2 e2=>(typeM_sz a2).bind fun y a3 e3=>endM_sz (by rw [mk0_sz,sizes_1];omega)
def Mem.sz (m : Mem) : Nat:=sizes m.fs+sizes m.cs+sizes m.ms
theorem ctor_sz (m : Mem) (a : Nat) : Zg (fun m2 b=>m2.sz+2 * a ≤ m.sz+2 * b) (ctorM L m a) :=
 Zg.ite (fun _=>(paramsG_sz toM_sz).bind fun p a1 h1=>(blockG_sz stmtM_sz).bind fun b a2 h2=>Zg.ok (by show Mem.sz _+_ ≤ _;unfold Mem.sz;simp only;rw [sizes_app',sizes_1,mk0_sz,sizes_2];omega)) (fun _=>Zg.bad)
theorem method_sz (m : Mem) (t : ByteArray) (a : Nat) : Zg (fun m2 b=>m2.sz+2 * a ≤ m.sz+2 * b+2) (methodM L m t a) :=
 (paramsG_sz toM_sz).bind fun p a1 h1=>(toM_sz a1).bind fun y a2 h2=>(blockG_sz stmtM_sz).bind fun b a3 h3=>Zg.ok (by show Mem.sz _+_ ≤ _;unfold Mem.sz;simp only;rw [sizes_app',sizes_1,mk0_sz,sizes_3];omega)
theorem field_sz (m : Mem) (t : ByteArray) (a : Nat) : Zg (fun m2 b=>m2.sz+2 * a ≤ m.sz+2 * b+2) (fieldM L m t a) :=
 (toM_sz a).bind fun y a1 h1=>want_sz.bind fun _ a2 e2=>(exprM_sz a2).bind fun e a3 h3=>want_sz.bind fun _ a4 e4=>Zg.ok (by show Mem.sz _+_ ≤ _;unfold Mem.sz;simp only;rw [sizes_app',sizes_1,mk0_sz,sizes_2];omega)
theorem member_sz (m : Mem) (a : Nat) : Zg (fun m2 b=>m2.sz+2 * a ≤ m.sz+2 * b) (memberM L m a) :=
 Zg.ite (fun _=>ctor_sz m a) (fun _=>add_sz.bind fun ns a0 e0=>prop_sz.bind fun t a1 e1=>Zg.ite (fun _=>(method_sz _ t a1).weak fun m2 b h=>by have e : Mem.sz { m with ns:=ns }=m.sz:=rfl;rw [e] at h;omega) (fun _=>(field_sz _ t a1).weak fun m2 b h=>by have e : Mem.sz { m with ns:=ns }=m.sz:=rfl;rw [e] at h;omega))
theorem members_sz : ∀ (n : Nat) (m : Mem) (a : Nat),Zg (fun m2 b=>m2.sz+2 * a+2 ≤ m.sz+2 * b) (membersM L n m a)
 | 0,_,_=>Zg.bad
 | n+1,m,a=>by
  rw [membersM]
  exact Zg.ite (fun _=>Zg.ok (by omega)) (fun _=>(member_sz m a).bind fun x a1 h1=>(members_sz n _ _).weak fun l b h=>by omega)
theorem class_sz (a : Nat) : Zg (fun x b=>x.size+2 * a ≤ 2 * b) (classM L a) :=
 id_sz.bind fun t a1 e1=>want_sz.bind fun _ a2 e2=>(members_sz _ _ _).bind fun m a3 h=>Zg.ok (by
  rw [mk0_sz,sizes_app',sizes_app']
  have e : Mem.sz ⟨[],[],[],[nCtor.data.toList]⟩=0:=rfl
  rw [e] at h
  unfold Mem.sz at h
  omega)
variable {L : List Tok}
theorem impAs_sz (t u : ByteArray) : (impAs t u).size=2:=by unfold impAs;rw [mk0_sz,sizes_1,mk0_sz];simp [sizes]
theorem importOne_sz (a : Nat) : Zg (fun x b=>x.size+2 * a ≤ 2 * b) (importOneM L a) :=
 prop_sz.bind fun t a1 e1=>Zg.ite (fun _=>id_sz.bind fun u a2 e2=>Zg.ok (by rw [impAs_sz];omega)) (fun _=>Zg.ite (fun _=>Zg.ok (by rw [impAs_sz];omega)) (fun _=>Zg.bad))
theorem star_sz (a : Nat) : Zg (fun x b=>x.size+2 * a ≤ 2 * b) (starM L a) :=
 name_sz.bind fun _ a1 e1=>id_sz.bind fun u a2 e2=>Zg.ok (by rw [impAs_sz];omega)
theorem clauseRest_sz (ty : Bool) (acc : List Nd) (a : Nat) : Zg (fun l b=>sizes l+2 * a ≤ sizes acc+2 * b) (clauseRestM L ty acc a) :=
 Zg.ite (fun _=>(star_sz a).bind fun x a1 h=>Zg.ok (by rw [sizes_app',sizes_1];omega)) (fun _=>want_sz.bind fun _ a1 e1=>Zg.ite (fun _=>Zg.bad) (fun _=>(listE_sz importOne_sz).bind fun l a2 h=>Zg.ok (by rw [sizes_app'];omega)))
theorem clause_sz (ty : Bool) (a : Nat) : Zg (fun l b=>sizes l+2 * a ≤ 2 * b) (clauseM L ty a) :=
 Zg.ite (fun _=>Zg.ite (fun _=>(clauseRest_sz ty _ _).weak fun l b h=>by rw [sizes_1,impAs_sz] at h;omega) (fun _=>Zg.ok (by rw [sizes_1,impAs_sz];omega))) (fun _=>(clauseRest_sz ty _ _).weak fun l b h=>by simp only [sizes] at h;omega)
theorem import_sz (a : Nat) : Zg (fun x b=>x.size+2 * a ≤ 2 * b) (importM L a) :=
 Zg.ite (fun _=>request_sz.bind fun t a1 e1=>endM_sz (by rw [mk0_sz];simp only [sizes];omega)) (fun _=>(clause_sz _ _).bind fun l a1 h=>name_sz.bind fun _ a2 e2=>request_sz.bind fun t a3 e3=>endM_sz (by rw [mk_sz];omega))
theorem none_sz : noneN.size=1:=rfl
theorem exportOne_sz (a : Nat) : Zg (fun x b=>x.size+2 * a ≤ 2 * b) (exportOneM L a) :=
 prop_sz.bind fun t a1 e1=>Zg.ite (fun _=>prop_sz.bind fun u a2 e2=>Zg.ok (by
  split
  ·rw [mk0_sz,sizes_1,none_sz];omega
  ·rw [mk0_sz,sizes_1,mk0_sz];simp only [sizes];omega)) (fun _=>Zg.ok (by rw [mk0_sz,sizes_1,none_sz];omega))
theorem exportAll_sz (a : Nat) : Zg (fun x b=>x.size+2 * a ≤ 2 * b) (exportAllM L a):=by
 unfold exportAllM
 refine Zg.bind (P:=fun y b=>y.size=1∧a+1 ≤ b) (Zg.ite (fun _=>prop_sz.bind fun u a1 e1=>Zg.ok ⟨by rw [mk0_sz];simp [sizes],by omega⟩) (fun _=>Zg.ok ⟨none_sz,by omega⟩)) fun y a1 h1=>name_sz.bind fun _ a2 e2=>requested_sz.bind fun t a3 e3=>endM_sz ?_
 rw [mk0_sz,sizes_1,mk0_sz,sizes_1]
 omega
theorem exportNames_sz (ty : Int) (a : Nat) : Zg (fun x b=>x.size+2 * a ≤ 2 * b) (exportNamesM L ty a) :=
 Zg.ite (fun _=>Zg.bad) (fun _=>(listE_sz exportOne_sz).bind fun l a1 h=>Zg.ite (fun _=>endM_sz (by rw [mk_sz];omega)) (fun _=>name_sz.bind fun _ a2 e2=>requested_sz.bind fun t a3 e3=>endM_sz (by rw [mk_sz];omega)))
theorem declared_sz (a : Nat) : Zg (fun x b=>x.size+2 * a ≤ 2 * b) (declaredM L a):=Zg.ite (fun _=>stmtM_sz a) (fun _=>Zg.ite (fun _=>class_sz a) (fun _=>Zg.ite (fun _=>alias_sz a) (fun _=>Zg.bad)))
theorem defaulted_sz (a : Nat) : Zg (fun x b=>x.size+2 * a ≤ 2 * b) (defaultedM L a):=Zg.ite (fun _=>stmtM_sz a) (fun _=>Zg.ite (fun _=>class_sz a) (fun _=>(exprM_sz a).bind fun e a1 h=>endM_sz (by omega)))
theorem export_sz (a : Nat) : Zg (fun x b=>x.size+2 * a ≤ 2 * b) (exportM L a) :=
 Zg.ite (fun _=>(defaulted_sz _).bind fun x a1 h=>Zg.ok (by rw [mk0_sz,sizes_1];omega)) (fun _=>Zg.ite (fun _=>(exportAll_sz _).weak fun x b h=>by omega) (fun _=>Zg.ite (fun _=>(exportNames_sz _ _).weak fun x b h=>by omega) (fun _=>Zg.ite (fun _=>(exportNames_sz _ _).weak fun x b h=>by omega) (fun _=>(declared_sz _).bind fun x a1 h=>Zg.ok (by rw [mk0_sz,sizes_1];omega)))))
theorem item_sz (a : Nat) : Zg (fun x b=>x.size+2 * a ≤ 2 * b) (itemM L a):=Zg.ite (fun _=>class_sz a) (fun _=>Zg.ite (fun _=>import_sz a) (fun _=>Zg.ite (fun _=>export_sz a) (fun _=>Zg.ite (fun _=>alias_sz a) (fun _=>stmtM_sz a))))
theorem items_sz {I : Nat→Rs Nd} (hI : ∀ a,Zg (fun x b=>x.size+2 * a ≤ 2 * b) (I a)) : ∀ (n : Nat) (acc : List Nd) (a : Nat),Zg (fun l b=>sizes l+2 * a ≤ sizes acc+2 * b) (itemsM L I n acc a)
 | 0,_,_=>Zg.bad
 | n+1,acc,a=>by
  rw [itemsM]
  refine Zg.ite (fun _=>Zg.ok (by omega)) (fun _=>(hI a).bind fun x a1 h1=>(items_sz hI n _ _).weak fun l b h=>?_)
  rw [sizes_app',sizes_1] at h
  omega
theorem pre_cut' {c : UInt8} : ∀ {g A B : Bs},g.isPrefixOf (A ++ c :: B)=true→c ∉ g→g.isPrefixOf A=true
 | [],A,B,_,_=>by simp
 | d :: g,[],B,h,hc=>by
  simp only [List.nil_append,List.isPrefixOf,Bool.and_eq_true,beq_iff_eq] at h
  exact absurd (by simp [h.1]) hc
 | d :: g,x :: A,B,h,hc=>by
  simp only [List.cons_append,List.isPrefixOf,Bool.and_eq_true,beq_iff_eq] at h ⊢
  exact ⟨h.1,pre_cut' h.2 (fun q=>hc (by simp [q]))⟩
theorem tok_kinds (t : List (Tk × Nat)) (a : Nat) : (tokA (t.map tkT) a).k=((kinds t)[a]?.map fun x=>x.1).getD 0∧(tokA (t.map tkT) a).t=((kinds t)[a]?.map fun x=>(⟨x.2.1.toArray⟩ : ByteArray)).getD ByteArray.empty∧(tokA (t.map tkT) a).n=((kinds t)[a]?.map fun x=>x.2.2).getD 0:=by
 unfold tokA kinds
 rw [List.getElem?_map,List.getElem?_map]
 cases t[a]? with
 | none=>exact ⟨rfl,rfl,rfl⟩
 | some x=>exact ⟨rfl,rfl,rfl⟩
theorem kinds_len (t : List (Tk × Nat)) : (kinds t).length=t.length:=by simp [kinds]
theorem sh_kinds {t tb : List (Tk × Nat)} {r : List Tk} {c : Nat} (hc : r.length=c) (h : kinds t=r ++ kinds tb) : Sh (t.map tkT) (tb.map tkT) c:=by
 have hl:=congrArg List.length h
 rw [List.length_append,kinds_len,kinds_len] at hl
 have e : ∀ a,(kinds t)[a+c]?=(kinds tb)[a]?:=fun a=>by rw [h,List.getElem?_append_right (by omega),hc,Nat.add_sub_cancel]
 refine ⟨by simp;omega,fun a=>?_,fun a=>?_,fun a=>?_⟩
 ·rw [(tok_kinds t (a+c)).1,(tok_kinds tb a).1,e]
 ·rw [(tok_kinds t (a+c)).2.1,(tok_kinds tb a).2.1,e]
 ·rw [(tok_kinds t (a+c)).2.2,(tok_kinds tb a).2.2,e]
theorem same_items {t s : List (Tk × Nat)} (h : kinds t=kinds s) {n b : Nat} {l : List Nd} (e : itemsM (s.map tkT) (itemM (s.map tkT)) n [] 0 = .ok l b) : itemsM (t.map tkT) (itemM (t.map tkT)) n [] 0 = .ok l b:=by
 have hS : Sh (t.map tkT) (s.map tkT) 0:=sh_kinds (r:=[]) rfl (by simpa using h)
 have:=items_up hS n [] [] 0 l b e 0
 simpa using this
end Go.Proofs.YthfkfbcopinmiaaGreatDoor
