/- Own text. Package module: the rules,one by one: the clause of an import. -/
import Derived.Test.YthfkfbcopinmiaaGreatDoorGk35
import Derived.Test.YthfkfbcopinmiaaGreatDoorGk20
set_option linter.unusedVariables false
set_option linter.unusedSimpArgs false
set_option maxRecDepth 100000
set_option maxHeartbeats 8000000
namespace Go.Proofs.YthfkfbcopinmiaaGreatDoor
open Go.RowKit
theorem importOneM_ge (L : List Tok) (a : Nat) : Ge (a+1) (importOneM L a):=(prop_ge L a).bind fun t b hb=>Ge.ite (fun _=>(id_ge L (b+1)).bind fun u c hc=>Ge.ok (by omega)) (fun _=>Ge.ite (fun _=>Ge.ok hb) (fun _=>Ge.bad _ _))
theorem eg_importOne : ∀ args w,(callFunc 85 args).run Tryz.prog w = .ok (.enter 85 args) w:=Go.Proofs.enters_of Tryz.func85 (by kernel_rfl) rfl
theorem clause_any {L : List Tok} (hs : Small L) {w : World} {P : Pl} {a : Nat} (h : Rd w P L a mE) (types : Bool) : Calls Tryz.prog 45 #[.pointer (some ⟨P.R,0,none⟩),.bool types] w (AnsL P L mE P.R w (clauseM L types a)):=by
 have hRw:=h.lt
 have hle:=h.le
 have hsm:=h.small
 obtain ⟨i0,hi0,hz0,hz1,hz2⟩:=info_parts info_nd
 obtain ⟨res,hres⟩ : ∃ r,clauseM L types a=r:=⟨_,rfl⟩
 have HR : Hid (clauseM L types a=res):=hres
 rw [hres]
 clear hres
 cases types with
 | false =>
  go_enter Tryz.func45,Tryz.ntmps45
  cases q1 : isN L a with
  | true =>
   have T1:=standsId_any h
   rw [q1] at T1
   have u1:=isN_lt q1
   go_wp2_with fail
   go_at_call 71
   refine T1.mono ?_
   rintro e W1 ⟨rfl,b1'⟩
   have r1:=h.bel b1'
   have b1:=KeptR.of (b:=P.R) b1'
   have k1:=(KeptR.refl P.R w).trans b1
   have z1:=k1.size
   have y1:=r1.le
   go_wp2_with fail
   refine wp_region_any (by kernel_rfl) ?_
   change wpAny _ _ _ _ _ _ _ (World.drew _)
   have zd2 : W1.drew.heap.size=W1.heap.size:=rfl
   refine tk 0 (.slice none 0 0) ?_
   refine tk 2 (.pointer (some ⟨P.R,0,none⟩)) ?_
   refine tk 3 (.pointer (some ⟨P.R,0,none⟩)) ?_
   refine tk 4 (.pointer (some ⟨P.R,0,none⟩)) ?_
   refine wpAny_chain [_,_,_,_,_,_] [1,5,6,7,8,9] _ _ _ _ (by kernel_rfl) rfl (by decide) ?_
   simp only [List.getElem_toArray,List.getElem_cons_zero,List.getElem_cons_succ]
   go_wp2_with fail
   go_at_call 70
   refine (clone_any wDefault _ (by decide)).mono ?_
   rintro e W3 ⟨rfl,b3'⟩
   have r3:=(r1.bel (B0.drew)).bel b3'
   have b3:=KeptR.of (b:=P.R) b3'
   have k3:=(k1.trans (.of (B0.drew))).trans b3
   have z3:=k3.size
   have T4:=id_any r3 hs
   rw [show idR L a = .ok (tokA L a).t (a+1) by unfold idR;rw [if_pos q1]] at T4
   go_wp2_with fail
   go_at_call 38
   refine T4.mono ?_
   rintro e W4 ⟨rfl,r4,b4⟩
   have k4:=k3.trans b4
   have z4:=k4.size
   have y4:=r4.le
   go_wp2_with fail
   go_at_call 82
   refine (importAs_any wDefault (tokA L a).t _).mono ?_
   rintro e W5 ⟨ad5,c5,rfl,l5',b5'⟩
   have r5:=r4.bel b5'
   have b5:=KeptR.of (b:=P.R) b5'
   have k5:=k4.trans b5
   have z5:=k5.size
   have l5:=l5'.mono (T:=fun b=>w.heap.size ≤ b) (fun b hb=>by have:=k4.size;omega)
   have sK6:=((((((KeptR.refl P.R w).trans b1).trans (.of (B0.drew))).trans b3).trans b4).trans b5).size
   have sk6:=k5.size
   have gq6:=(Grow.nil w.heap.size w).keepB ((((((KeptR.refl P.R w).trans b1).trans (.of (B0.drew))).trans b3).trans b4).trans b5).size (fun j h1 h2=>((((((KeptR.refl P.R w).trans b1).trans (.of (B0.drew))).trans b3).trans b4).trans b5).block j h2 (by omega))
   have bA6 : Below W5.heap.size W5 (W5.alloc (Obj.cells #[.int .i64 61,.string wDefault,.int .i64 0,.slice ad5 1 c5] 24)):=B0.alloc le0 _
   have ka6:=k5.trans (.of bA6)
   have oq6:=row_bel gq6.own bA6
   have ra6:=r5.bel bA6
   go_wp2_with (at_builtin;refine wpList_append_lies _ (by rfl) _ _ _ (by rfl) w.heap.size 24 i0 _ 4 56 Tryz.underlying22 hi0 hz0 hz1 hz2 rfl (by omega) _ 0 (rowN ([] : List (Nd × Value))) (by rfl) oq6 ⟨W5.heap.size,0,none⟩ 1 1 [Value.int IntKind.i64 61,Value.string wDefault,Value.int IntKind.i64 0,Value.slice ad5 1 c5] (by rfl) (by rfl) (World.news_of_block (cs:=#[Value.int IntKind.i64 61,Value.string wDefault,Value.int IntKind.i64 0,Value.slice ad5 1 c5]) (t:=24) (fr:=(0,0)) (heap_alloc_new W5 _)) (by simp [Value.oneCell']) (by omega) (by unfold maxLen;omega) (by omega) (by simp;omega) (W5.heap.size+1) (by simp) ?_;intro gg6 cap6 WA6 hownA growA hatA hltA)
   have sA6:=growA.size
   have kA6 : KeptR P.R w WA6:=⟨growA.os.trans ka6.os,growA.tape.trans ka6.tape,growA.output.trans ka6.output,Nat.le_trans ka6.size growA.size,fun j h1 h2=>(growA.block j (Nat.lt_of_lt_of_le h1 ka6.size) (fun e=>by have:=(row_lt oq6 j e.symm).1;omega)).trans (ka6.block j h1 h2)⟩
   have rA6:=ra6.keep growA.size (growA.block _ ra6.lt (fun e=>by have:=(row_lt oq6 _ e.symm).1;omega)) (fun q=>growA.block _ (ra6.x.lt q) (fun e=>by have:=(row_lt oq6 _ e.symm).1;have:=h.x.lt q;omega))
   have gA6:=(Grow.nil w.heap.size w).push' (x:=(impAs wDefault ((tokA L a).t))) le0 ((((((KeptR.refl P.R w).trans b1).trans (.of (B0.drew))).trans b3).trans b4).trans b5).size (fun j h1 h2=>((((((KeptR.refl P.R w).trans b1).trans (.of (B0.drew))).trans b3).trans b4).trans b5).block j h2 (by omega)) (l5) growA hatA hownA
   clear growA hatA hownA hltA
   have gB6 : Grow w.heap.size WA6 (Value.slice (some ⟨gg6,0,none⟩) 1 cap6) [(impAs wDefault (tokA L a).t,Value.slice ad5 1 c5)] 1:=by simpa using gA6
   clear gA6
   cases q7 : isS L (a+1) sCm with
   | true =>
    have T7:=take_any rA6 sCm
    rw [q7] at T7
    have u7:=isS_lt q7
    go_wp2_with fail
    go_at_call 40
    refine T7.mono ?_
    rintro e W7 ⟨rfl,r7',b7⟩
    have r7 : Rd W7 P L (a+1+1) mE:=r7'
    clear r7'
    have k7:=kA6.trans b7
    have z7:=k7.size
    have y7:=r7.le
    cases q8 : isS L (a+1+1) sSt with
    | true =>
     have T8:=stands_any r7 sSt
     rw [q8] at T8
     have u8:=isS_lt q8
     go_wp2_with fail
     go_at_call 51
     refine T8.mono ?_
     rintro e W8 ⟨rfl,b8'⟩
     have r8:=r7.bel b8'
     have b8:=KeptR.of (b:=P.R) b8'
     have k8:=k7.trans b8
     have z8:=k8.size
     have y8:=r8.le
     have hbef : WA6.heap.size ≤ W8.heap.size:=(((KeptR.refl P.R WA6).trans b7).trans b8).size
     go_wp2_with fail
     go_at_call 83
     refine (star_m hs r8 (by omega)).mono ?_
     rintro e W9 A9
     cases h9 : starM L (a+1+1) with
     | bad p er =>
      rw [h9] at A9
      obtain ⟨rfl,b9⟩:=A9
      obtain rfl : Rs.bad p er=res:=by rw [← HR.out,clauseM];simp [Rs.bind,mtT,clauseRestM,q1,q7,q8,h9]
      exact ⟨rfl,rfl,Kept2.of (k8.trans b9)⟩
     | ok x9 a9 =>
      rw [h9] at A9
      obtain ⟨ad9,c9,rfl,l9',r9,b9⟩:=A9
      have y9:=r9.le
      have k9:=k8.trans b9
      have z9:=k9.size
      have l9:=l9'.mono (T:=fun b=>w.heap.size ≤ b) (fun b hb=>by have:=k8.size;omega)
      have sK10:=((((KeptR.refl P.R WA6).trans b7).trans b8).trans b9).size
      have sk10:=k9.size
      have gq10:=(gB6).keepB ((((KeptR.refl P.R WA6).trans b7).trans b8).trans b9).size (fun j h1 h2=>((((KeptR.refl P.R WA6).trans b7).trans b8).trans b9).block j h2 (by omega))
      have bA10 : Below W9.heap.size W9 (W9.alloc (Obj.cells #[.int .i64 x9.k,.string x9.t,.int .i64 x9.n,.slice ad9 x9.ks.length c9] 24)):=B0.alloc le0 _
      have ka10:=k9.trans (.of bA10)
      have oq10:=row_bel gq10.own bA10
      have ra10:=r9.bel bA10
      go_wp2_with (at_builtin;refine wpList_append_lies _ (by rfl) _ _ _ (by rfl) w.heap.size 24 i0 _ 4 56 Tryz.underlying22 hi0 hz0 hz1 hz2 rfl (by omega) _ 1 (rowN [(impAs wDefault (tokA L a).t,Value.slice ad5 1 c5)]) (by rfl) oq10 ⟨W9.heap.size,0,none⟩ 1 1 [Value.int IntKind.i64 x9.k,Value.string x9.t,Value.int IntKind.i64 x9.n,Value.slice ad9 x9.ks.length c9] (by rfl) (by rfl) (World.news_of_block (cs:=#[Value.int IntKind.i64 x9.k,Value.string x9.t,Value.int IntKind.i64 x9.n,Value.slice ad9 x9.ks.length c9]) (t:=24) (fr:=(0,0)) (heap_alloc_new W9 _)) (by simp [Value.oneCell']) (by omega) (by unfold maxLen;omega) (by omega) (by simp;omega) (W9.heap.size+1) (by simp) ?_;intro gg10 cap10 WA10 hownA growA hatA hltA)
      have sA10:=growA.size
      have kA10 : KeptR P.R w WA10:=⟨growA.os.trans ka10.os,growA.tape.trans ka10.tape,growA.output.trans ka10.output,Nat.le_trans ka10.size growA.size,fun j h1 h2=>(growA.block j (Nat.lt_of_lt_of_le h1 ka10.size) (fun e=>by have:=(row_lt oq10 j e.symm).1;omega)).trans (ka10.block j h1 h2)⟩
      have rA10:=ra10.keep growA.size (growA.block _ ra10.lt (fun e=>by have:=(row_lt oq10 _ e.symm).1;omega)) (fun q=>growA.block _ (ra10.x.lt q) (fun e=>by have:=(row_lt oq10 _ e.symm).1;have:=h.x.lt q;omega))
      have gA10:=(gB6).push' (x:=x9) (kA6.size) ((((KeptR.refl P.R WA6).trans b7).trans b8).trans b9).size (fun j h1 h2=>((((KeptR.refl P.R WA6).trans b7).trans b8).trans b9).block j h2 (by omega)) (l9'.mono (fun b hb=>Nat.le_trans hbef hb)) growA hatA hownA
      clear growA hatA hownA hltA
      obtain rfl : Rs.ok ([impAs wDefault (tokA L a).t,x9]) a9=res:=by rw [← HR.out,clauseM];simp [Rs.bind,mtT,clauseRestM,q1,q7,q8,h9]
      go_ret
      exact ⟨_,_,rfl,(by have:=gA10.lat rfl;simpa using this),rA10,.of kA10⟩
    | false =>
     have T8:=stands_any r7 sSt
     rw [q8] at T8
     go_wp2_with fail
     go_at_call 51
     refine T8.mono ?_
     rintro e W8 ⟨rfl,b8'⟩
     have r8:=r7.bel b8'
     have b8:=KeptR.of (b:=P.R) b8'
     have k8:=k7.trans b8
     have z8:=k8.size
     have y8:=r8.le
     go_wp2_with fail
     go_at_call 39
     refine (want_any r8 sCb).mono ?_
     rintro e W11 A11
     cases h11 : wantR L sCb (a+1+1) with
     | bad p er =>
      rw [h11] at A11
      obtain ⟨rfl,b11⟩:=A11
      obtain rfl : Rs.bad p er=res:=by rw [← HR.out,clauseM];simp [Rs.bind,mtT,clauseRestM,q1,q7,q8,h11]
      exact ⟨rfl,rfl,Kept2.of (k8.trans b11)⟩
     | ok x11 a11 =>
      rw [h11] at A11
      obtain ⟨rfl,r11,b11⟩:=A11
      have g11:=(want_ge L sCb (a+1+1)) _ _ h11
      have y11:=r11.le
      have k11:=k8.trans b11
      have z11:=k11.size
      have hbef : WA6.heap.size ≤ W11.heap.size:=((((KeptR.refl P.R WA6).trans b7).trans b8).trans b11).size
      go_wp2_with fail
      go_at_call 84
      refine (listE_any (k:=85) (rs:=#[.pointer (some ⟨P.R,0,none⟩)]) (caps:=#[]) eg_importOne hs r11 (importOneM L) (importOneM_ge L) (fun W b hb r=>importOne_m hs r) (s:=sCc)).mono ?_
      rintro e W12 A12
      cases h12 : listE L (importOneM L) sCc a11 with
      | bad p er =>
       rw [h12] at A12
       obtain ⟨rfl,b12⟩:=A12
       obtain rfl : Rs.bad p er=res:=by rw [← HR.out,clauseM];simp [Rs.bind,mtT,clauseRestM,q1,q7,q8,h11,h12]
       exact ⟨rfl,rfl,Kept2.of (k11.trans b12.one)⟩
      | ok x12 a12 =>
       rw [h12] at A12
       obtain ⟨ad12,c12,he12,l12',r12,b12'⟩:=A12
       obtain ⟨yv12,hyv12⟩ : ∃ y,y=Value.slice ad12 x12.length c12:=⟨_,rfl⟩
       rw [← hyv12] at he12
       subst he12
       have HY12 : Hid (yv12=Value.slice ad12 x12.length c12):=hyv12
       clear hyv12
       have b12:=b12'.one
       have g12:=(listE_ge (importOneM_ge L) a11) _ _ h12
       have y12:=r12.le
       have k12:=k11.trans b12
       have z12:=k12.size
       have l12:=l12'.mono (T:=fun b=>w.heap.size ≤ b) (fun b hb=>by have:=k11.size;omega)
       have sK13:=(((((KeptR.refl P.R WA6).trans b7).trans b8).trans b11).trans b12).size
       have sk13:=k12.size
       have gq13:=(gB6).keepB (((((KeptR.refl P.R WA6).trans b7).trans b8).trans b11).trans b12).size (fun j h1 h2=>(((((KeptR.refl P.R WA6).trans b7).trans b8).trans b11).trans b12).block j h2 (by omega))
       have hxl:=listE_len (importOneM_ge L) h12
       have LX : LAt W12 (fun b=>WA6.heap.size ≤ b) (Value.slice ad12 x12.length c12) x12:=l12'.mono (fun b hb=>Nat.le_trans hbef hb)
       go_wp2_with (at_builtin;refine wpList_append_lat _ (by rfl) _ _ (by rfl) w.heap.size _ 1 _ (by rfl) gq13.own (fun b=>WA6.heap.size ≤ b) ad12 c12 x12 (by exact HY12.out) LX (by omega) (by omega) ?_;intro vA WA FA hFA oA growA hA kA)
       have kk : KeptR P.R w WA:=⟨growA.os.trans k12.os,growA.tape.trans k12.tape,growA.output.trans k12.output,Nat.le_trans k12.size growA.size,fun j h1 h2=>(growA.block j (Nat.lt_of_lt_of_le h1 k12.size) (fun e=>by have:=(row_lt gq13.own j e.symm).1;omega)).trans (k12.block j h1 h2)⟩
       have rA:=r12.keep growA.size (growA.block _ r12.lt (fun e=>by have:=(row_lt gq13.own _ e.symm).1;omega)) (fun q=>growA.block _ (r12.x.lt q) (fun e=>by have:=(row_lt gq13.own _ e.symm).1;have:=h.x.lt q;omega))
       have gB:=(gB6).app (kA6.size) (((((KeptR.refl P.R WA6).trans b7).trans b8).trans b11).trans b12).size (fun j h1 h2=>(((((KeptR.refl P.R WA6).trans b7).trans b8).trans b11).trans b12).block j h2 (by omega)) hFA kA growA hA oA
       have lB:=gB.lat rfl
       rw [List.map_append,hFA] at lB
       obtain ⟨adA,cA,eA⟩:=lB.sl
       subst eA
       obtain rfl : Rs.ok ((impAs wDefault (tokA L a).t :: x12)) a12=res:=by rw [← HR.out,clauseM];simp [Rs.bind,mtT,clauseRestM,q1,q7,q8,h11,h12]
       go_ret
       exact ⟨adA,cA,rfl,(by simpa using lB),rA,.of kk⟩
   | false =>
    have T7:=take_any rA6 sCm
    rw [q7] at T7
    go_wp2_with fail
    go_at_call 40
    refine T7.mono ?_
    rintro e W7 ⟨rfl,r7',b7⟩
    have r7 : Rd W7 P L (a+1) mE:=r7'
    clear r7'
    have k7:=kA6.trans b7
    have z7:=k7.size
    have y7:=r7.le
    obtain rfl : Rs.ok ([impAs wDefault (tokA L a).t]) (a+1)=res:=by rw [← HR.out,clauseM];simp [Rs.bind,mtT,clauseRestM,q1,q7]
    go_wp2
    go_ret
    exact ⟨_,_,rfl,((gB6.lat rfl).keepR ((KeptR.refl P.R WA6).trans b7) hRw),r7,.of k7⟩
  | false =>
   have T1:=standsId_any h
   rw [q1] at T1
   go_wp2_with fail
   go_at_call 71
   refine T1.mono ?_
   rintro e W1 ⟨rfl,b1'⟩
   have r1:=h.bel b1'
   have b1:=KeptR.of (b:=P.R) b1'
   have k1:=(KeptR.refl P.R w).trans b1
   have z1:=k1.size
   have y1:=r1.le
   cases q14 : isS L a sSt with
   | true =>
    have T14:=stands_any r1 sSt
    rw [q14] at T14
    have u14:=isS_lt q14
    go_wp2_with fail
    go_at_call 51
    refine T14.mono ?_
    rintro e W14 ⟨rfl,b14'⟩
    have r14:=r1.bel b14'
    have b14:=KeptR.of (b:=P.R) b14'
    have k14:=k1.trans b14
    have z14:=k14.size
    have y14:=r14.le
    have hbef : w.heap.size ≤ W14.heap.size:=(((KeptR.refl P.R w).trans b1).trans b14).size
    go_wp2_with fail
    go_at_call 83
    refine (star_m hs r14 (by omega)).mono ?_
    rintro e W15 A15
    cases h15 : starM L a with
    | bad p er =>
     rw [h15] at A15
     obtain ⟨rfl,b15⟩:=A15
     obtain rfl : Rs.bad p er=res:=by rw [← HR.out,clauseM];simp [Rs.bind,mtT,clauseRestM,q1,q14,h15]
     exact ⟨rfl,rfl,Kept2.of (k14.trans b15)⟩
    | ok x15 a15 =>
     rw [h15] at A15
     obtain ⟨ad15,c15,rfl,l15',r15,b15⟩:=A15
     have y15:=r15.le
     have k15:=k14.trans b15
     have z15:=k15.size
     have l15:=l15'.mono (T:=fun b=>w.heap.size ≤ b) (fun b hb=>by have:=k14.size;omega)
     have sK16:=((((KeptR.refl P.R w).trans b1).trans b14).trans b15).size
     have sk16:=k15.size
     have gq16:=(Grow.nil w.heap.size w).keepB ((((KeptR.refl P.R w).trans b1).trans b14).trans b15).size (fun j h1 h2=>((((KeptR.refl P.R w).trans b1).trans b14).trans b15).block j h2 (by omega))
     have bA16 : Below W15.heap.size W15 (W15.alloc (Obj.cells #[.int .i64 x15.k,.string x15.t,.int .i64 x15.n,.slice ad15 x15.ks.length c15] 24)):=B0.alloc le0 _
     have ka16:=k15.trans (.of bA16)
     have oq16:=row_bel gq16.own bA16
     have ra16:=r15.bel bA16
     go_wp2_with (at_builtin;refine wpList_append_lies _ (by rfl) _ _ _ (by rfl) w.heap.size 24 i0 _ 4 56 Tryz.underlying22 hi0 hz0 hz1 hz2 rfl (by omega) _ 0 (rowN ([] : List (Nd × Value))) (by rfl) oq16 ⟨W15.heap.size,0,none⟩ 1 1 [Value.int IntKind.i64 x15.k,Value.string x15.t,Value.int IntKind.i64 x15.n,Value.slice ad15 x15.ks.length c15] (by rfl) (by rfl) (World.news_of_block (cs:=#[Value.int IntKind.i64 x15.k,Value.string x15.t,Value.int IntKind.i64 x15.n,Value.slice ad15 x15.ks.length c15]) (t:=24) (fr:=(0,0)) (heap_alloc_new W15 _)) (by simp [Value.oneCell']) (by omega) (by unfold maxLen;omega) (by omega) (by simp;omega) (W15.heap.size+1) (by simp) ?_;intro gg16 cap16 WA16 hownA growA hatA hltA)
     have sA16:=growA.size
     have kA16 : KeptR P.R w WA16:=⟨growA.os.trans ka16.os,growA.tape.trans ka16.tape,growA.output.trans ka16.output,Nat.le_trans ka16.size growA.size,fun j h1 h2=>(growA.block j (Nat.lt_of_lt_of_le h1 ka16.size) (fun e=>by have:=(row_lt oq16 j e.symm).1;omega)).trans (ka16.block j h1 h2)⟩
     have rA16:=ra16.keep growA.size (growA.block _ ra16.lt (fun e=>by have:=(row_lt oq16 _ e.symm).1;omega)) (fun q=>growA.block _ (ra16.x.lt q) (fun e=>by have:=(row_lt oq16 _ e.symm).1;have:=h.x.lt q;omega))
     have gA16:=(Grow.nil w.heap.size w).push' (x:=x15) le0 ((((KeptR.refl P.R w).trans b1).trans b14).trans b15).size (fun j h1 h2=>((((KeptR.refl P.R w).trans b1).trans b14).trans b15).block j h2 (by omega)) (l15'.mono (fun b hb=>Nat.le_trans hbef hb)) growA hatA hownA
     clear growA hatA hownA hltA
     obtain rfl : Rs.ok ([x15]) a15=res:=by rw [← HR.out,clauseM];simp [Rs.bind,mtT,clauseRestM,q1,q14,h15]
     go_ret
     exact ⟨_,_,rfl,(by have:=gA16.lat rfl;simpa using this),rA16,.of kA16⟩
   | false =>
    have T14:=stands_any r1 sSt
    rw [q14] at T14
    go_wp2_with fail
    go_at_call 51
    refine T14.mono ?_
    rintro e W14 ⟨rfl,b14'⟩
    have r14:=r1.bel b14'
    have b14:=KeptR.of (b:=P.R) b14'
    have k14:=k1.trans b14
    have z14:=k14.size
    have y14:=r14.le
    go_wp2_with fail
    go_at_call 39
    refine (want_any r14 sCb).mono ?_
    rintro e W17 A17
    cases h17 : wantR L sCb a with
    | bad p er =>
     rw [h17] at A17
     obtain ⟨rfl,b17⟩:=A17
     obtain rfl : Rs.bad p er=res:=by rw [← HR.out,clauseM];simp [Rs.bind,mtT,clauseRestM,q1,q14,h17]
     exact ⟨rfl,rfl,Kept2.of (k14.trans b17)⟩
    | ok x17 a17 =>
     rw [h17] at A17
     obtain ⟨rfl,r17,b17⟩:=A17
     have g17:=(want_ge L sCb a) _ _ h17
     have y17:=r17.le
     have k17:=k14.trans b17
     have z17:=k17.size
     have hbef : w.heap.size ≤ W17.heap.size:=((((KeptR.refl P.R w).trans b1).trans b14).trans b17).size
     go_wp2_with fail
     go_at_call 84
     refine (listE_any (k:=85) (rs:=#[.pointer (some ⟨P.R,0,none⟩)]) (caps:=#[]) eg_importOne hs r17 (importOneM L) (importOneM_ge L) (fun W b hb r=>importOne_m hs r) (s:=sCc)).mono ?_
     rintro e W18 A18
     cases h18 : listE L (importOneM L) sCc a17 with
     | bad p er =>
      rw [h18] at A18
      obtain ⟨rfl,b18⟩:=A18
      obtain rfl : Rs.bad p er=res:=by rw [← HR.out,clauseM];simp [Rs.bind,mtT,clauseRestM,q1,q14,h17,h18]
      exact ⟨rfl,rfl,Kept2.of (k17.trans b18.one)⟩
     | ok x18 a18 =>
      rw [h18] at A18
      obtain ⟨ad18,c18,he18,l18',r18,b18'⟩:=A18
      obtain ⟨yv18,hyv18⟩ : ∃ y,y=Value.slice ad18 x18.length c18:=⟨_,rfl⟩
      rw [← hyv18] at he18
      subst he18
      have HY18 : Hid (yv18=Value.slice ad18 x18.length c18):=hyv18
      clear hyv18
      have b18:=b18'.one
      have g18:=(listE_ge (importOneM_ge L) a17) _ _ h18
      have y18:=r18.le
      have k18:=k17.trans b18
      have z18:=k18.size
      have l18:=l18'.mono (T:=fun b=>w.heap.size ≤ b) (fun b hb=>by have:=k17.size;omega)
      have sK19:=(((((KeptR.refl P.R w).trans b1).trans b14).trans b17).trans b18).size
      have sk19:=k18.size
      have gq19:=(Grow.nil w.heap.size w).keepB (((((KeptR.refl P.R w).trans b1).trans b14).trans b17).trans b18).size (fun j h1 h2=>(((((KeptR.refl P.R w).trans b1).trans b14).trans b17).trans b18).block j h2 (by omega))
      have hxl:=listE_len (importOneM_ge L) h18
      have LX : LAt W18 (fun b=>w.heap.size ≤ b) (Value.slice ad18 x18.length c18) x18:=l18'.mono (fun b hb=>Nat.le_trans hbef hb)
      go_wp2_with (at_builtin;refine wpList_append_lat _ (by rfl) _ _ (by rfl) w.heap.size _ 0 _ (by rfl) gq19.own (fun b=>w.heap.size ≤ b) ad18 c18 x18 (by exact HY18.out) LX (by omega) (by omega) ?_;intro vA WA FA hFA oA growA hA kA)
      have kk : KeptR P.R w WA:=⟨growA.os.trans k18.os,growA.tape.trans k18.tape,growA.output.trans k18.output,Nat.le_trans k18.size growA.size,fun j h1 h2=>(growA.block j (Nat.lt_of_lt_of_le h1 k18.size) (fun e=>by have:=(row_lt gq19.own j e.symm).1;omega)).trans (k18.block j h1 h2)⟩
      have rA:=r18.keep growA.size (growA.block _ r18.lt (fun e=>by have:=(row_lt gq19.own _ e.symm).1;omega)) (fun q=>growA.block _ (r18.x.lt q) (fun e=>by have:=(row_lt gq19.own _ e.symm).1;have:=h.x.lt q;omega))
      have gB:=(Grow.nil w.heap.size w).app le0 (((((KeptR.refl P.R w).trans b1).trans b14).trans b17).trans b18).size (fun j h1 h2=>(((((KeptR.refl P.R w).trans b1).trans b14).trans b17).trans b18).block j h2 (by omega)) hFA kA growA hA oA
      have lB:=gB.lat rfl
      rw [List.map_append,hFA] at lB
      obtain ⟨adA,cA,eA⟩:=lB.sl
      subst eA
      obtain rfl : Rs.ok (x18) a18=res:=by rw [← HR.out,clauseM];simp [Rs.bind,mtT,clauseRestM,q1,q14,h17,h18]
      go_ret
      exact ⟨adA,cA,rfl,(by simpa using lB),rA,.of kk⟩
 | true =>
  go_enter Tryz.func45,Tryz.ntmps45
  cases q20 : isN L a with
  | true =>
   have T20:=standsId_any h
   rw [q20] at T20
   have u20:=isN_lt q20
   go_wp2_with fail
   go_at_call 71
   refine T20.mono ?_
   rintro e W20 ⟨rfl,b20'⟩
   have r20:=h.bel b20'
   have b20:=KeptR.of (b:=P.R) b20'
   have k20:=(KeptR.refl P.R w).trans b20
   have z20:=k20.size
   have y20:=r20.le
   go_wp2_with fail
   refine wp_region_any (by kernel_rfl) ?_
   change wpAny _ _ _ _ _ _ _ (World.drew _)
   have zd21 : W20.drew.heap.size=W20.heap.size:=rfl
   refine tk 0 (.slice none 0 0) ?_
   refine tk 2 (.pointer (some ⟨P.R,0,none⟩)) ?_
   refine tk 3 (.pointer (some ⟨P.R,0,none⟩)) ?_
   refine tk 4 (.pointer (some ⟨P.R,0,none⟩)) ?_
   refine wpAny_chain [_,_,_,_,_,_] [1,5,6,7,8,9] _ _ _ _ (by kernel_rfl) rfl (by decide) ?_
   simp only [List.getElem_toArray,List.getElem_cons_zero,List.getElem_cons_succ]
   go_wp2_with fail
   go_at_call 70
   refine (clone_any wDefault _ (by decide)).mono ?_
   rintro e W22 ⟨rfl,b22'⟩
   have r22:=(r20.bel (B0.drew)).bel b22'
   have b22:=KeptR.of (b:=P.R) b22'
   have k22:=(k20.trans (.of (B0.drew))).trans b22
   have z22:=k22.size
   have T23:=id_any r22 hs
   rw [show idR L a = .ok (tokA L a).t (a+1) by unfold idR;rw [if_pos q20]] at T23
   go_wp2_with fail
   go_at_call 38
   refine T23.mono ?_
   rintro e W23 ⟨rfl,r23,b23⟩
   have k23:=k22.trans b23
   have z23:=k23.size
   have y23:=r23.le
   go_wp2_with fail
   go_at_call 82
   refine (importAs_any wDefault (tokA L a).t _).mono ?_
   rintro e W24 ⟨ad24,c24,rfl,l24',b24'⟩
   have r24:=r23.bel b24'
   have b24:=KeptR.of (b:=P.R) b24'
   have k24:=k23.trans b24
   have z24:=k24.size
   have l24:=l24'.mono (T:=fun b=>w.heap.size ≤ b) (fun b hb=>by have:=k23.size;omega)
   have sK25:=((((((KeptR.refl P.R w).trans b20).trans (.of (B0.drew))).trans b22).trans b23).trans b24).size
   have sk25:=k24.size
   have gq25:=(Grow.nil w.heap.size w).keepB ((((((KeptR.refl P.R w).trans b20).trans (.of (B0.drew))).trans b22).trans b23).trans b24).size (fun j h1 h2=>((((((KeptR.refl P.R w).trans b20).trans (.of (B0.drew))).trans b22).trans b23).trans b24).block j h2 (by omega))
   have bA25 : Below W24.heap.size W24 (W24.alloc (Obj.cells #[.int .i64 61,.string wDefault,.int .i64 0,.slice ad24 1 c24] 24)):=B0.alloc le0 _
   have ka25:=k24.trans (.of bA25)
   have oq25:=row_bel gq25.own bA25
   have ra25:=r24.bel bA25
   go_wp2_with (at_builtin;refine wpList_append_lies _ (by rfl) _ _ _ (by rfl) w.heap.size 24 i0 _ 4 56 Tryz.underlying22 hi0 hz0 hz1 hz2 rfl (by omega) _ 0 (rowN ([] : List (Nd × Value))) (by rfl) oq25 ⟨W24.heap.size,0,none⟩ 1 1 [Value.int IntKind.i64 61,Value.string wDefault,Value.int IntKind.i64 0,Value.slice ad24 1 c24] (by rfl) (by rfl) (World.news_of_block (cs:=#[Value.int IntKind.i64 61,Value.string wDefault,Value.int IntKind.i64 0,Value.slice ad24 1 c24]) (t:=24) (fr:=(0,0)) (heap_alloc_new W24 _)) (by simp [Value.oneCell']) (by omega) (by unfold maxLen;omega) (by omega) (by simp;omega) (W24.heap.size+1) (by simp) ?_;intro gg25 cap25 WA25 hownA growA hatA hltA)
   have sA25:=growA.size
   have kA25 : KeptR P.R w WA25:=⟨growA.os.trans ka25.os,growA.tape.trans ka25.tape,growA.output.trans ka25.output,Nat.le_trans ka25.size growA.size,fun j h1 h2=>(growA.block j (Nat.lt_of_lt_of_le h1 ka25.size) (fun e=>by have:=(row_lt oq25 j e.symm).1;omega)).trans (ka25.block j h1 h2)⟩
   have rA25:=ra25.keep growA.size (growA.block _ ra25.lt (fun e=>by have:=(row_lt oq25 _ e.symm).1;omega)) (fun q=>growA.block _ (ra25.x.lt q) (fun e=>by have:=(row_lt oq25 _ e.symm).1;have:=h.x.lt q;omega))
   have gA25:=(Grow.nil w.heap.size w).push' (x:=(impAs wDefault ((tokA L a).t))) le0 ((((((KeptR.refl P.R w).trans b20).trans (.of (B0.drew))).trans b22).trans b23).trans b24).size (fun j h1 h2=>((((((KeptR.refl P.R w).trans b20).trans (.of (B0.drew))).trans b22).trans b23).trans b24).block j h2 (by omega)) (l24) growA hatA hownA
   clear growA hatA hownA hltA
   have gB25 : Grow w.heap.size WA25 (Value.slice (some ⟨gg25,0,none⟩) 1 cap25) [(impAs wDefault (tokA L a).t,Value.slice ad24 1 c24)] 1:=by simpa using gA25
   clear gA25
   cases q26 : isS L (a+1) sCm with
   | true =>
    have T26:=take_any rA25 sCm
    rw [q26] at T26
    have u26:=isS_lt q26
    go_wp2_with fail
    go_at_call 40
    refine T26.mono ?_
    rintro e W26 ⟨rfl,r26',b26⟩
    have r26 : Rd W26 P L (a+1+1) mE:=r26'
    clear r26'
    have k26:=kA25.trans b26
    have z26:=k26.size
    have y26:=r26.le
    go_wp2_with fail
    go_at_call 39
    refine (want_any r26 sCb).mono ?_
    rintro e W27 A27
    cases h27 : wantR L sCb (a+1+1) with
    | bad p er =>
     rw [h27] at A27
     obtain ⟨rfl,b27⟩:=A27
     obtain rfl : Rs.bad p er=res:=by rw [← HR.out,clauseM];simp [Rs.bind,mtT,clauseRestM,q20,q26,h27]
     exact ⟨rfl,rfl,Kept2.of (k26.trans b27)⟩
    | ok x27 a27 =>
     rw [h27] at A27
     obtain ⟨rfl,r27,b27⟩:=A27
     have g27:=(want_ge L sCb (a+1+1)) _ _ h27
     have y27:=r27.le
     have k27:=k26.trans b27
     have z27:=k27.size
     have hbef : WA25.heap.size ≤ W27.heap.size:=(((KeptR.refl P.R WA25).trans b26).trans b27).size
     go_wp2_with fail
     go_at_call 84
     refine (listE_any (k:=85) (rs:=#[.pointer (some ⟨P.R,0,none⟩)]) (caps:=#[]) eg_importOne hs r27 (importOneM L) (importOneM_ge L) (fun W b hb r=>importOne_m hs r) (s:=sCc)).mono ?_
     rintro e W28 A28
     cases h28 : listE L (importOneM L) sCc a27 with
     | bad p er =>
      rw [h28] at A28
      obtain ⟨rfl,b28⟩:=A28
      obtain rfl : Rs.bad p er=res:=by rw [← HR.out,clauseM];simp [Rs.bind,mtT,clauseRestM,q20,q26,h27,h28]
      exact ⟨rfl,rfl,Kept2.of (k27.trans b28.one)⟩
     | ok x28 a28 =>
      rw [h28] at A28
      obtain ⟨ad28,c28,he28,l28',r28,b28'⟩:=A28
      obtain ⟨yv28,hyv28⟩ : ∃ y,y=Value.slice ad28 x28.length c28:=⟨_,rfl⟩
      rw [← hyv28] at he28
      subst he28
      have HY28 : Hid (yv28=Value.slice ad28 x28.length c28):=hyv28
      clear hyv28
      have b28:=b28'.one
      have g28:=(listE_ge (importOneM_ge L) a27) _ _ h28
      have y28:=r28.le
      have k28:=k27.trans b28
      have z28:=k28.size
      have l28:=l28'.mono (T:=fun b=>w.heap.size ≤ b) (fun b hb=>by have:=k27.size;omega)
      have sK29:=((((KeptR.refl P.R WA25).trans b26).trans b27).trans b28).size
      have sk29:=k28.size
      have gq29:=(gB25).keepB ((((KeptR.refl P.R WA25).trans b26).trans b27).trans b28).size (fun j h1 h2=>((((KeptR.refl P.R WA25).trans b26).trans b27).trans b28).block j h2 (by omega))
      have hxl:=listE_len (importOneM_ge L) h28
      have LX : LAt W28 (fun b=>WA25.heap.size ≤ b) (Value.slice ad28 x28.length c28) x28:=l28'.mono (fun b hb=>Nat.le_trans hbef hb)
      go_wp2_with (at_builtin;refine wpList_append_lat _ (by rfl) _ _ (by rfl) w.heap.size _ 1 _ (by rfl) gq29.own (fun b=>WA25.heap.size ≤ b) ad28 c28 x28 (by exact HY28.out) LX (by omega) (by omega) ?_;intro vA WA FA hFA oA growA hA kA)
      have kk : KeptR P.R w WA:=⟨growA.os.trans k28.os,growA.tape.trans k28.tape,growA.output.trans k28.output,Nat.le_trans k28.size growA.size,fun j h1 h2=>(growA.block j (Nat.lt_of_lt_of_le h1 k28.size) (fun e=>by have:=(row_lt gq29.own j e.symm).1;omega)).trans (k28.block j h1 h2)⟩
      have rA:=r28.keep growA.size (growA.block _ r28.lt (fun e=>by have:=(row_lt gq29.own _ e.symm).1;omega)) (fun q=>growA.block _ (r28.x.lt q) (fun e=>by have:=(row_lt gq29.own _ e.symm).1;have:=h.x.lt q;omega))
      have gB:=(gB25).app (kA25.size) ((((KeptR.refl P.R WA25).trans b26).trans b27).trans b28).size (fun j h1 h2=>((((KeptR.refl P.R WA25).trans b26).trans b27).trans b28).block j h2 (by omega)) hFA kA growA hA oA
      have lB:=gB.lat rfl
      rw [List.map_append,hFA] at lB
      obtain ⟨adA,cA,eA⟩:=lB.sl
      subst eA
      obtain rfl : Rs.ok ((impAs wDefault (tokA L a).t :: x28)) a28=res:=by rw [← HR.out,clauseM];simp [Rs.bind,mtT,clauseRestM,q20,q26,h27,h28]
      go_ret
      exact ⟨adA,cA,rfl,(by simpa using lB),rA,.of kk⟩
   | false =>
    have T26:=take_any rA25 sCm
    rw [q26] at T26
    go_wp2_with fail
    go_at_call 40
    refine T26.mono ?_
    rintro e W26 ⟨rfl,r26',b26⟩
    have r26 : Rd W26 P L (a+1) mE:=r26'
    clear r26'
    have k26:=kA25.trans b26
    have z26:=k26.size
    have y26:=r26.le
    obtain rfl : Rs.ok ([impAs wDefault (tokA L a).t]) (a+1)=res:=by rw [← HR.out,clauseM];simp [Rs.bind,mtT,clauseRestM,q20,q26]
    go_wp2
    go_ret
    exact ⟨_,_,rfl,((gB25.lat rfl).keepR ((KeptR.refl P.R WA25).trans b26) hRw),r26,.of k26⟩
  | false =>
   have T20:=standsId_any h
   rw [q20] at T20
   go_wp2_with fail
   go_at_call 71
   refine T20.mono ?_
   rintro e W20 ⟨rfl,b20'⟩
   have r20:=h.bel b20'
   have b20:=KeptR.of (b:=P.R) b20'
   have k20:=(KeptR.refl P.R w).trans b20
   have z20:=k20.size
   have y20:=r20.le
   go_wp2_with fail
   go_at_call 39
   refine (want_any r20 sCb).mono ?_
   rintro e W30 A30
   cases h30 : wantR L sCb a with
   | bad p er =>
    rw [h30] at A30
    obtain ⟨rfl,b30⟩:=A30
    obtain rfl : Rs.bad p er=res:=by rw [← HR.out,clauseM];simp [Rs.bind,mtT,clauseRestM,q20,h30]
    exact ⟨rfl,rfl,Kept2.of (k20.trans b30)⟩
   | ok x30 a30 =>
    rw [h30] at A30
    obtain ⟨rfl,r30,b30⟩:=A30
    have g30:=(want_ge L sCb a) _ _ h30
    have y30:=r30.le
    have k30:=k20.trans b30
    have z30:=k30.size
    cases q31 : isS L a30 sCc with
    | true =>
     have T31:=stands_any r30 sCc
     rw [q31] at T31
     have u31:=isS_lt q31
     go_wp2_with fail
     go_at_call 51
     refine T31.mono ?_
     rintro e W31 ⟨rfl,b31'⟩
     have r31:=r30.bel b31'
     have b31:=KeptR.of (b:=P.R) b31'
     have k31:=k30.trans b31
     have z31:=k31.size
     have y31:=r31.le
     go_wp2_with fail
     go_at_call 72
     refine (wrong_any r31).mono ?_
     rintro e W32 ⟨rfl,b32'⟩
     obtain rfl : Rs.bad a30 60=res:=by rw [← HR.out,clauseM];simp [Rs.bind,mtT,clauseRestM,q20,h30,q31]
     go_wp2
     exact ⟨rfl,rfl,Kept2.of (k31.trans (.of b32'))⟩
    | false =>
     have T31:=stands_any r30 sCc
     rw [q31] at T31
     go_wp2_with fail
     go_at_call 51
     refine T31.mono ?_
     rintro e W31 ⟨rfl,b31'⟩
     have r31:=r30.bel b31'
     have b31:=KeptR.of (b:=P.R) b31'
     have k31:=k30.trans b31
     have z31:=k31.size
     have y31:=r31.le
     have hbef : w.heap.size ≤ W31.heap.size:=((((KeptR.refl P.R w).trans b20).trans b30).trans b31).size
     go_wp2_with fail
     go_at_call 84
     refine (listE_any (k:=85) (rs:=#[.pointer (some ⟨P.R,0,none⟩)]) (caps:=#[]) eg_importOne hs r31 (importOneM L) (importOneM_ge L) (fun W b hb r=>importOne_m hs r) (s:=sCc)).mono ?_
     rintro e W33 A33
     cases h33 : listE L (importOneM L) sCc a30 with
     | bad p er =>
      rw [h33] at A33
      obtain ⟨rfl,b33⟩:=A33
      obtain rfl : Rs.bad p er=res:=by rw [← HR.out,clauseM];simp [Rs.bind,mtT,clauseRestM,q20,h30,q31,h33]
      exact ⟨rfl,rfl,Kept2.of (k31.trans b33.one)⟩
     | ok x33 a33 =>
      rw [h33] at A33
      obtain ⟨ad33,c33,he33,l33',r33,b33'⟩:=A33
      obtain ⟨yv33,hyv33⟩ : ∃ y,y=Value.slice ad33 x33.length c33:=⟨_,rfl⟩
      rw [← hyv33] at he33
      subst he33
      have HY33 : Hid (yv33=Value.slice ad33 x33.length c33):=hyv33
      clear hyv33
      have b33:=b33'.one
      have g33:=(listE_ge (importOneM_ge L) a30) _ _ h33
      have y33:=r33.le
      have k33:=k31.trans b33
      have z33:=k33.size
      have l33:=l33'.mono (T:=fun b=>w.heap.size ≤ b) (fun b hb=>by have:=k31.size;omega)
      have sK34:=(((((KeptR.refl P.R w).trans b20).trans b30).trans b31).trans b33).size
      have sk34:=k33.size
      have gq34:=(Grow.nil w.heap.size w).keepB (((((KeptR.refl P.R w).trans b20).trans b30).trans b31).trans b33).size (fun j h1 h2=>(((((KeptR.refl P.R w).trans b20).trans b30).trans b31).trans b33).block j h2 (by omega))
      have hxl:=listE_len (importOneM_ge L) h33
      have LX : LAt W33 (fun b=>w.heap.size ≤ b) (Value.slice ad33 x33.length c33) x33:=l33'.mono (fun b hb=>Nat.le_trans hbef hb)
      go_wp2_with (at_builtin;refine wpList_append_lat _ (by rfl) _ _ (by rfl) w.heap.size _ 0 _ (by rfl) gq34.own (fun b=>w.heap.size ≤ b) ad33 c33 x33 (by exact HY33.out) LX (by omega) (by omega) ?_;intro vA WA FA hFA oA growA hA kA)
      have kk : KeptR P.R w WA:=⟨growA.os.trans k33.os,growA.tape.trans k33.tape,growA.output.trans k33.output,Nat.le_trans k33.size growA.size,fun j h1 h2=>(growA.block j (Nat.lt_of_lt_of_le h1 k33.size) (fun e=>by have:=(row_lt gq34.own j e.symm).1;omega)).trans (k33.block j h1 h2)⟩
      have rA:=r33.keep growA.size (growA.block _ r33.lt (fun e=>by have:=(row_lt gq34.own _ e.symm).1;omega)) (fun q=>growA.block _ (r33.x.lt q) (fun e=>by have:=(row_lt gq34.own _ e.symm).1;have:=h.x.lt q;omega))
      have gB:=(Grow.nil w.heap.size w).app le0 (((((KeptR.refl P.R w).trans b20).trans b30).trans b31).trans b33).size (fun j h1 h2=>(((((KeptR.refl P.R w).trans b20).trans b30).trans b31).trans b33).block j h2 (by omega)) hFA kA growA hA oA
      have lB:=gB.lat rfl
      rw [List.map_append,hFA] at lB
      obtain ⟨adA,cA,eA⟩:=lB.sl
      subst eA
      obtain rfl : Rs.ok (x33) a33=res:=by rw [← HR.out,clauseM];simp [Rs.bind,mtT,clauseRestM,q20,h30,q31,h33]
      go_ret
      exact ⟨adA,cA,rfl,(by simpa using lB),rA,.of kk⟩
end Go.Proofs.YthfkfbcopinmiaaGreatDoor
