/- Own text. Package module: the rules,one by one: names that are exported. -/
import Derived.Test.YthfkfbcopinmiaaGreatDoorGk42
set_option linter.unusedVariables false
set_option linter.unusedSimpArgs false
set_option maxRecDepth 100000
set_option maxHeartbeats 8000000
namespace Go.Proofs.YthfkfbcopinmiaaGreatDoor
open Go.RowKit
theorem ansN_back {P : Pl} {L : List Tok} {o : Ex} {w w1 : World} {r : Rs Nd} {e : Ending} {W : World} (b : Below w.heap.size w w1) (h : AnsN P L o w1 r e W) : AnsN P L o w r e W:=by
 cases r with
 | bad p er=>exact ⟨h.1,(KeptR.of b).trans h.2⟩
 | ok x a =>
  obtain ⟨ad,c,h1,h2,h3,h4⟩:=h
  exact ⟨ad,c,h1,h2.mono (fun q hq=>Nat.le_trans b.size hq),h3,(KeptR.of b).trans h4⟩
theorem nameF_ge (L : List Tok) (st : Bool) (a : Nat) : Ge (a+1) (nameF L st a):=(exportOneM_ge L a).bind fun x b hb=>Ge.ok hb
theorem exportNames_m {L : List Tok} (hs : Small L) {w0 : World} {P : Pl} {a : Nat} (h00 : Rd w0 P L a mE) (hlt : a < L.length) (ty : Int) : Calls Tryz.prog 53 #[.pointer (some ⟨P.R,0,none⟩),.int .i64 ty] w0 (AnsN P L mE w0 (exportNamesM L ty a)):=by
 obtain ⟨w,hw⟩ : ∃ W,w0.alloc (.cells #[.pointer (some ⟨P.R,0,none⟩)] 44)=W:=⟨_,rfl⟩
 have bw : Below w0.heap.size w0 w:=by rw [← hw];exact B0.alloc le0 _
 have sw : w0.heap.size < w.heap.size:=by rw [← hw];simp
 have mr : w.heap[w0.heap.size]?=some (.cells #[.pointer (some ⟨P.R,0,none⟩)] 44 (0,0)):=by rw [← hw];exact hnew _ rfl
 have hR0:=h00.lt
 have h:=h00.bel bw
 suffices H : Calls Tryz.prog 53 #[.pointer (some ⟨P.R,0,none⟩),.int .i64 ty] w0 (AnsN P L mE w (exportNamesM L ty a)) from H.mono (fun e W A=>ansN_back bw A)
 have hRw:=h.lt
 have hle:=h.le
 obtain ⟨h0,a0,z0,M0⟩:=begin_cell h
 obtain ⟨res,hres⟩ : ∃ r,exportNamesM L ty a=r:=⟨_,rfl⟩
 have HR : Hid (exportNamesM L ty a=res):=hres
 rw [hres]
 clear hres
 have HRc : Hid (∀ W,KeptR P.R w W→W.cell? ⟨w0.heap.size,0,none⟩=some (.pointer (some ⟨P.R,0,none⟩))):=fun W k=>by
  have:=(k.block w0.heap.size (by omega) (by omega)).trans mr
  simp [World.cell?,this]
 go_enter Tryz.func53,Tryz.ntmps53
 have gV : w.heap.size+1 ≤ (w.heap.size+1):=by have:=(KeptR.refl P.R (w.alloc zN)).size;omega
 have v1 : ((w.alloc zN).alloc (Obj.cells #[.int .i64 64,.string ⟨#[]⟩,.int .i64 ty,.slice none 0 0] 24)).heap[(w.heap.size+1)]?=some (.cells #[.int .i64 64,.string ⟨#[]⟩,.int .i64 ty,.slice none 0 0] 24 (0,0)):=hnew (w:=(w.alloc zN)) _ (by simp)
 obtain ⟨⟨_,_,_,_⟩,_,_,_,_⟩:=t4 v1
 have cr3:=HRc.out _ (a0.trans ((KeptR.refl P.R (w.alloc zN)).alloc (Obj.cells #[.int .i64 64,.string ⟨#[]⟩,.int .i64 ty,.slice none 0 0] 24)))
 go_wp2_with fail
 go_at_call 37
 refine (pass_any (h0.bel (B0.alloc le0 _)) hlt (hs.at _)).mono ?_
 rintro e W2 ⟨rfl,r2,b2⟩
 have k2:=((KeptR.refl P.R (w.alloc zN)).alloc (Obj.cells #[.int .i64 64,.string ⟨#[]⟩,.int .i64 ty,.slice none 0 0] 24)).trans b2
 have z2:=k2.size
 have y2:=r2.le
 cases q4 : isS L (a+1) sCc with
 | true =>
  have T4:=stands_any r2 sCc
  rw [q4] at T4
  have u4:=isS_lt q4
  have cr5:=HRc.out _ (a0.trans k2)
  go_wp2_with fail
  go_at_call 51
  refine T4.mono ?_
  rintro e W4 ⟨rfl,b4'⟩
  have r4:=r2.bel b4'
  have b4:=KeptR.of (b:=P.R) b4'
  have k4:=k2.trans b4
  have z4:=k4.size
  have y4:=r4.le
  have cr7:=HRc.out _ (a0.trans k4)
  go_wp2_with fail
  go_at_call 72
  refine (wrong_any r4).mono ?_
  rintro e W6 ⟨rfl,b6'⟩
  obtain rfl : Rs.bad (a+1) 60=res:=by rw [← HR.out,exportNamesM];simp [Rs.bind,mtT,endM,mk0,q4]
  go_wp2
  exact ⟨rfl,rfl,a0.trans (k4.trans (.of b6'))⟩
 | false =>
  have T4:=stands_any r2 sCc
  rw [q4] at T4
  have cr8:=HRc.out _ (a0.trans k2)
  go_wp2_with fail
  go_at_call 51
  refine T4.mono ?_
  rintro e W4 ⟨rfl,b4'⟩
  have r4:=r2.bel b4'
  have b4:=KeptR.of (b:=P.R) b4'
  have k4:=k2.trans b4
  have z4:=k4.size
  have y4:=r4.le
  have v9 : W4.heap[(w.heap.size+1)]?=some (.cells #[.int .i64 64,.string ⟨#[]⟩,.int .i64 ty,.slice none 0 0] 24 (0,0)):=((((KeptR.refl P.R ((w.alloc zN).alloc _)).trans b2).trans b4).block _ (Array.getElem?_eq_some_iff.1 v1).1 (by omega)).trans v1
  obtain ⟨⟨_,_,_,_⟩,_,_,_,_⟩:=t4 v9
  have hal : a+1 ≤ L.length:=r4.le
  have sP:=k4.size
  have hVP : (w.heap.size+1) < W4.heap.size:=(Array.getElem?_eq_some_iff.1 v9).1
  have hpr : w0.heap.size < W4.heap.size:=by omega
  have hI0 : NmI P W4.heap.size w0.heap.size true (W4.alloc (Obj.cells #[.bool true] 4)):=⟨heap_alloc_new W4 _,(Below.heap_alloc _ _ _ hpr).trans ((k4.block _ (by omega) (by omega)).trans ((a0.block _ (by omega) (by omega)).trans mr))⟩
  have CLs:=list_anyS (s:=sCc) (k:=89) (rs:=#[]) (caps:=#[.pointer (some ⟨W4.heap.size,0,none⟩),.pointer (some ⟨w0.heap.size,0,none⟩)]) eg_names (nameF L) (fun st W=>NmI P W4.heap.size w0.heap.size st W) (fun _ _=>True) (W4.heap.size) (W4.alloc (Obj.cells #[.bool true] 4)) (a+1) true (r4.bel (B0.alloc le0 (Obj.cells #[.bool true] 4))) trivial hI0 (by simp) (fun st b x c hx=>nameF_ge L st b _ _ hx) (fun _ _ _ _ _ _ _ _=>trivial) (fun st W W' hi h1 h2 hb2=>⟨(hb2 _ (by simp) (by omega)).trans hi.hh,(hb2 _ (by simp;omega) (by omega)).trans hi.hr⟩) (fun W st b hb1 _ r hi h1 _=>by simpa using names_any hs r hi (by omega) (by omega) (by omega) (fun q=>by have:=h.x.lt q;omega))
  have eLs : listGS L sCc (nameF L) (L.length+1 - (a+1)) [] true (a+1)=(listE L (exportOneM L) sCc (a+1)).bind fun l b=>.ok (l,hereM L (L.length+1) true (a+1)) b:=by rw [names_here,here_more (L.length - (a+1)) (L.length+1 - (a+1)) (L.length+1) true (a+1) (by omega) (by omega) (by omega)];rfl
  rw [eLs] at CLs
  have crn:=HRc.out _ (a0.trans (k4.alloc (Obj.cells #[.bool true] 4)))
  go_wp2_with fail
  go_at_call 84
  refine CLs.mono ?_
  clear CLs
  rintro e W10 A10
  cases hL : listE L (exportOneM L) sCc (a+1) with
  | bad p er =>
   rw [hL] at A10
   obtain ⟨rfl,bL⟩:=A10
   obtain rfl : Rs.bad p er=res:=by rw [← HR.out,exportNamesM];simp [Rs.bind,mtT,endM,mk0,q4,hL]
   exact ⟨rfl,rfl,a0.trans (Kept2.late (k4.alloc _) bL (by omega))⟩
  | ok l a10 =>
   rw [hL] at A10
   obtain ⟨ad10,c10,rfl,lL,r10,iL,bL⟩:=A10
   have k10 : KeptR P.R (w.alloc zN) W10:=Kept2.late (k4.alloc _) bL (by omega)
   have z10:=k10.size
   have sL:=bL.size
   simp at sL
   have v10 : W10.heap[(w.heap.size+1)]?=some (.cells #[.int .i64 64,.string ⟨#[]⟩,.int .i64 ty,.slice none 0 0] 24 (0,0)):=(bL.block _ (by simp;omega) (by omega) (by omega)).trans ((Below.heap_alloc _ _ _ hVP).trans v9)
   obtain ⟨⟨_,_,_,_⟩,_,_,_,_⟩:=t4 v10
   simp only at lL r10 iL
   obtain ⟨qh,hqh⟩ : ∃ q,hereM L (L.length+1) true (a+1)=q:=⟨_,rfl⟩
   rw [hqh] at iL
   have v11 : (W10.setCell ⟨(w.heap.size+1),3,none⟩ (Value.slice ad10 l.length c10)).heap[(w.heap.size+1)]?=some (.cells #[.int .i64 64,.string ⟨#[]⟩,.int .i64 ty,.slice ad10 l.length c10] 24 (0,0)):=by simp [World.setCell,Array.getElem?_modify,v10]
   obtain ⟨⟨_,_,_,_⟩,_,_,_,_⟩:=t4 v11
   have r11:=r10.other (n:=(w.heap.size+1)) (by omega) (fun q=>by have:=h.x.lt q;omega) 3 (Value.slice ad10 l.length c10)
   have k11:=k10.new (n:=(w.heap.size+1)) (by omega) 3 (Value.slice ad10 l.length c10)
   have lV : LAt (W10.setCell ⟨(w.heap.size+1),3,none⟩ (Value.slice ad10 l.length c10)) (fun b=>(w.heap.size+1)+1 ≤ b) (Value.slice ad10 l.length c10) l:=(lL.mono (T:=fun b=>(w.heap.size+1)+1 ≤ b) (fun b hb=>by simp at hb;omega)).keep (by simp [World.setCell]) (fun b hb hl=>Below.heap_setCell _ _ _ _ (by show b ≠ (w.heap.size+1);omega))
   have ih : (W10.setCell ⟨(w.heap.size+1),3,none⟩ (Value.slice ad10 l.length c10)).heap[W4.heap.size]?=some (.cells #[.bool qh] 4 (0,0)):=(Below.heap_setCell _ _ _ _ (by show W4.heap.size ≠ (w.heap.size+1);omega)).trans iL.hh
   have ch : (W10.setCell ⟨(w.heap.size+1),3,none⟩ (Value.slice ad10 l.length c10)).cell? ⟨W4.heap.size,0,none⟩=some (.bool qh):=by simp [World.cell?,ih]
   cases qh with
   | false =>
    have cr13:=HRc.out _ (a0.trans k11)
    go_wp2_with fail
    go_at_call 46
    refine (from_any r11).mono ?_
    rintro e W12 A12
    cases h12 : nameM L nFrom a10 with
    | bad p er =>
     rw [h12] at A12
     obtain ⟨rfl,b12⟩:=A12
     obtain rfl : Rs.bad p er=res:=by rw [← HR.out,exportNamesM];simp [Rs.bind,mtT,endM,mk0,q4,hL,hqh,h12]
     exact ⟨rfl,rfl,a0.trans (k11.trans b12)⟩
    | ok x12 a12 =>
     rw [h12] at A12
     obtain ⟨rfl,r12,b12⟩:=A12
     have y12:=r12.le
     have k12:=k11.trans b12
     have z12:=k12.size
     have cr15:=HRc.out _ (a0.trans k12)
     go_wp2_with fail
     go_at_call 88
     refine (requested_any r12 hs).mono ?_
     rintro e W14 A14
     cases h14 : requestedM L a12 with
     | bad p er =>
      rw [h14] at A14
      obtain ⟨rfl,b14⟩:=A14
      obtain rfl : Rs.bad p er=res:=by rw [← HR.out,exportNamesM];simp [Rs.bind,mtT,endM,mk0,q4,hL,hqh,h12,h14]
      exact ⟨rfl,rfl,a0.trans (k12.trans b14)⟩
     | ok x14 a14 =>
      rw [h14] at A14
      obtain ⟨rfl,r14,b14⟩:=A14
      have y14:=r14.le
      have k14:=k12.trans b14
      have z14:=k14.size
      have v16 : W14.heap[(w.heap.size+1)]?=some (.cells #[.int .i64 64,.string ⟨#[]⟩,.int .i64 ty,.slice ad10 l.length c10] 24 (0,0)):=((((KeptR.refl P.R (W10.setCell ⟨(w.heap.size+1),3,none⟩ (Value.slice ad10 l.length c10))).trans b12).trans b14).block _ (Array.getElem?_eq_some_iff.1 v11).1 (by omega)).trans v11
      obtain ⟨⟨_,_,_,_⟩,_,_,_,_⟩:=t4 v16
      have v17 : (W14.setCell ⟨(w.heap.size+1),1,none⟩ (Value.string x14)).heap[(w.heap.size+1)]?=some (.cells #[.int .i64 64,.string x14,.int .i64 ty,.slice ad10 l.length c10] 24 (0,0)):=by simp [World.setCell,Array.getElem?_modify,v16]
      obtain ⟨⟨_,_,_,_⟩,_,_,_,_⟩:=t4 v17
      have r17:=r14.other (n:=(w.heap.size+1)) (by omega) (fun q=>by have:=h.x.lt q;omega) 1 (Value.string x14)
      have k17:=k14.new (n:=(w.heap.size+1)) (by omega) 1 (Value.string x14)
      have zz18:=0
      have lz : LAt (W14.setCell ⟨(w.heap.size+1),1,none⟩ (Value.string x14)) (fun b=>w.heap.size+1 ≤ b) (Value.slice ad10 l.length c10) l:=((lV.keep (((KeptR.refl P.R (W10.setCell ⟨(w.heap.size+1),3,none⟩ (Value.slice ad10 l.length c10))).trans b12).trans b14).size (fun b hb hl=>(((KeptR.refl P.R (W10.setCell ⟨(w.heap.size+1),3,none⟩ (Value.slice ad10 l.length c10))).trans b12).trans b14).block b hl (by omega))).keep (by simp [World.setCell]) (fun b hb hl=>Below.heap_setCell _ _ _ _ (by show b ≠ (w.heap.size+1);omega))).mono (fun b hb=>by omega)
      have cr20:=HRc.out _ (a0.trans k17)
      go_wp2_with fail
      go_at_call 48
      refine (endedm_any r17 _ _ _ _ _ _).mono ?_
      rintro e W19 A19
      cases h19 : wantR L sSe a14 with
      | bad p er =>
       rw [h19] at A19
       obtain ⟨rfl,b19⟩:=A19
       obtain rfl : Rs.bad p er=res:=by rw [← HR.out,exportNamesM];simp [Rs.bind,mtT,endM,mk0,q4,hL,hqh,h12,h14,h19]
       exact ⟨rfl,rfl,a0.trans (k17.trans b19)⟩
      | ok x19 a19 =>
       rw [h19] at A19
       obtain ⟨rfl,r19,b19⟩:=A19
       have y19:=r19.le
       have k19:=k17.trans b19
       have z19:=k19.size
       obtain rfl : Rs.ok (Nd.mk 64 x14 ty l) a19=res:=by rw [← HR.out,exportNamesM];simp [Rs.bind,mtT,endM,mk0,q4,hL,hqh,h12,h14,h19]
       have m0:=M0.out _ k19
       obtain ⟨⟨_,_,_,_⟩,_,_,_,_⟩:=t4 m0
       go_wp2
       refine bodyPost_ret (res_n4 Tryz.results53 (t4_set _ _ _ _ m0) rfl) rfl ?_
       exact close_ok (x:=(Nd.mk 64 x14 ty l)) h (a0.trans k19) (lz.keepR ((KeptR.refl P.R (W14.setCell ⟨(w.heap.size+1),1,none⟩ (Value.string x14))).trans b19) (by omega)) (by omega) r19
   | true =>
    cases q21 : isS L a10 sSe with
    | true =>
     have T21:=stands_any r11 sSe
     rw [q21] at T21
     have u21:=isS_lt q21
     have cr22:=HRc.out _ (a0.trans k11)
     go_wp2_with fail
     go_at_call 51
     refine T21.mono ?_
     rintro e W21 ⟨rfl,b21'⟩
     have r21:=r11.bel b21'
     have b21:=KeptR.of (b:=P.R) b21'
     have k21:=k11.trans b21
     have z21:=k21.size
     have y21:=r21.le
     have v23 : W21.heap[(w.heap.size+1)]?=some (.cells #[.int .i64 64,.string ⟨#[]⟩,.int .i64 ty,.slice ad10 l.length c10] 24 (0,0)):=(((KeptR.refl P.R (W10.setCell ⟨(w.heap.size+1),3,none⟩ (Value.slice ad10 l.length c10))).trans b21).block _ (Array.getElem?_eq_some_iff.1 v11).1 (by omega)).trans v11
     obtain ⟨⟨_,_,_,_⟩,_,_,_,_⟩:=t4 v23
     have lz : LAt W21 (fun b=>w.heap.size+1 ≤ b) (Value.slice ad10 l.length c10) l:=(lV.keep ((KeptR.refl P.R (W10.setCell ⟨(w.heap.size+1),3,none⟩ (Value.slice ad10 l.length c10))).trans b21).size (fun b hb hl=>((KeptR.refl P.R (W10.setCell ⟨(w.heap.size+1),3,none⟩ (Value.slice ad10 l.length c10))).trans b21).block b hl (by omega))).mono (fun b hb=>by omega)
     have cr25:=HRc.out _ (a0.trans k21)
     go_wp2_with fail
     go_at_call 48
     refine (endedm_any r21 _ _ _ _ _ _).mono ?_
     rintro e W24 A24
     cases h24 : wantR L sSe a10 with
     | bad p er =>
      rw [h24] at A24
      obtain ⟨rfl,b24⟩:=A24
      obtain rfl : Rs.bad p er=res:=by rw [← HR.out,exportNamesM];simp [Rs.bind,mtT,endM,mk0,q4,hL,hqh,q21,h24]
      exact ⟨rfl,rfl,a0.trans (k21.trans b24)⟩
     | ok x24 a24 =>
      rw [h24] at A24
      obtain ⟨rfl,r24,b24⟩:=A24
      have y24:=r24.le
      have k24:=k21.trans b24
      have z24:=k24.size
      obtain rfl : Rs.ok (Nd.mk 64 ⟨#[]⟩ ty l) a24=res:=by rw [← HR.out,exportNamesM];simp [Rs.bind,mtT,endM,mk0,q4,hL,hqh,q21,h24]
      have m0:=M0.out _ k24
      obtain ⟨⟨_,_,_,_⟩,_,_,_,_⟩:=t4 m0
      go_wp2
      refine bodyPost_ret (res_n4 Tryz.results53 (t4_set _ _ _ _ m0) rfl) rfl ?_
      exact close_ok (x:=(Nd.mk 64 ⟨#[]⟩ ty l)) h (a0.trans k24) (lz.keepR ((KeptR.refl P.R W21).trans b24) (by omega)) (by omega) r24
    | false =>
     have T21:=stands_any r11 sSe
     rw [q21] at T21
     have cr26:=HRc.out _ (a0.trans k11)
     go_wp2_with fail
     go_at_call 51
     refine T21.mono ?_
     rintro e W21 ⟨rfl,b21'⟩
     have r21:=r11.bel b21'
     have b21:=KeptR.of (b:=P.R) b21'
     have k21:=k11.trans b21
     have z21:=k21.size
     have y21:=r21.le
     have cr28:=HRc.out _ (a0.trans k21)
     go_wp2_with fail
     go_at_call 46
     refine (from_any r21).mono ?_
     rintro e W27 A27
     cases h27 : nameM L nFrom a10 with
     | bad p er =>
      rw [h27] at A27
      obtain ⟨rfl,b27⟩:=A27
      obtain rfl : Rs.bad p er=res:=by rw [← HR.out,exportNamesM];simp [Rs.bind,mtT,endM,mk0,q4,hL,hqh,q21,h27]
      exact ⟨rfl,rfl,a0.trans (k21.trans b27)⟩
     | ok x27 a27 =>
      rw [h27] at A27
      obtain ⟨rfl,r27,b27⟩:=A27
      have y27:=r27.le
      have k27:=k21.trans b27
      have z27:=k27.size
      have cr30:=HRc.out _ (a0.trans k27)
      go_wp2_with fail
      go_at_call 88
      refine (requested_any r27 hs).mono ?_
      rintro e W29 A29
      cases h29 : requestedM L a27 with
      | bad p er =>
       rw [h29] at A29
       obtain ⟨rfl,b29⟩:=A29
       obtain rfl : Rs.bad p er=res:=by rw [← HR.out,exportNamesM];simp [Rs.bind,mtT,endM,mk0,q4,hL,hqh,q21,h27,h29]
       exact ⟨rfl,rfl,a0.trans (k27.trans b29)⟩
      | ok x29 a29 =>
       rw [h29] at A29
       obtain ⟨rfl,r29,b29⟩:=A29
       have y29:=r29.le
       have k29:=k27.trans b29
       have z29:=k29.size
       have v31 : W29.heap[(w.heap.size+1)]?=some (.cells #[.int .i64 64,.string ⟨#[]⟩,.int .i64 ty,.slice ad10 l.length c10] 24 (0,0)):=(((((KeptR.refl P.R (W10.setCell ⟨(w.heap.size+1),3,none⟩ (Value.slice ad10 l.length c10))).trans b21).trans b27).trans b29).block _ (Array.getElem?_eq_some_iff.1 v11).1 (by omega)).trans v11
       obtain ⟨⟨_,_,_,_⟩,_,_,_,_⟩:=t4 v31
       have v32 : (W29.setCell ⟨(w.heap.size+1),1,none⟩ (Value.string x29)).heap[(w.heap.size+1)]?=some (.cells #[.int .i64 64,.string x29,.int .i64 ty,.slice ad10 l.length c10] 24 (0,0)):=by simp [World.setCell,Array.getElem?_modify,v31]
       obtain ⟨⟨_,_,_,_⟩,_,_,_,_⟩:=t4 v32
       have r32:=r29.other (n:=(w.heap.size+1)) (by omega) (fun q=>by have:=h.x.lt q;omega) 1 (Value.string x29)
       have k32:=k29.new (n:=(w.heap.size+1)) (by omega) 1 (Value.string x29)
       have zz33:=0
       have lz : LAt (W29.setCell ⟨(w.heap.size+1),1,none⟩ (Value.string x29)) (fun b=>w.heap.size+1 ≤ b) (Value.slice ad10 l.length c10) l:=((lV.keep ((((KeptR.refl P.R (W10.setCell ⟨(w.heap.size+1),3,none⟩ (Value.slice ad10 l.length c10))).trans b21).trans b27).trans b29).size (fun b hb hl=>((((KeptR.refl P.R (W10.setCell ⟨(w.heap.size+1),3,none⟩ (Value.slice ad10 l.length c10))).trans b21).trans b27).trans b29).block b hl (by omega))).keep (by simp [World.setCell]) (fun b hb hl=>Below.heap_setCell _ _ _ _ (by show b ≠ (w.heap.size+1);omega))).mono (fun b hb=>by omega)
       have cr35:=HRc.out _ (a0.trans k32)
       go_wp2_with fail
       go_at_call 48
       refine (endedm_any r32 _ _ _ _ _ _).mono ?_
       rintro e W34 A34
       cases h34 : wantR L sSe a29 with
       | bad p er =>
        rw [h34] at A34
        obtain ⟨rfl,b34⟩:=A34
        obtain rfl : Rs.bad p er=res:=by rw [← HR.out,exportNamesM];simp [Rs.bind,mtT,endM,mk0,q4,hL,hqh,q21,h27,h29,h34]
        exact ⟨rfl,rfl,a0.trans (k32.trans b34)⟩
       | ok x34 a34 =>
        rw [h34] at A34
        obtain ⟨rfl,r34,b34⟩:=A34
        have y34:=r34.le
        have k34:=k32.trans b34
        have z34:=k34.size
        obtain rfl : Rs.ok (Nd.mk 64 x29 ty l) a34=res:=by rw [← HR.out,exportNamesM];simp [Rs.bind,mtT,endM,mk0,q4,hL,hqh,q21,h27,h29,h34]
        have m0:=M0.out _ k34
        obtain ⟨⟨_,_,_,_⟩,_,_,_,_⟩:=t4 m0
        go_wp2
        refine bodyPost_ret (res_n4 Tryz.results53 (t4_set _ _ _ _ m0) rfl) rfl ?_
        exact close_ok (x:=(Nd.mk 64 x29 ty l)) h (a0.trans k34) (lz.keepR ((KeptR.refl P.R (W29.setCell ⟨(w.heap.size+1),1,none⟩ (Value.string x29))).trans b34) (by omega)) (by omega) r34
end Go.Proofs.YthfkfbcopinmiaaGreatDoor
