/- Own text. Package module: the rules,one by one: a member of a class. -/
import Derived.Test.YthfkfbcopinmiaaGreatDoorGk39
import Derived.Test.YthfkfbcopinmiaaGreatDoorGk11
import Derived.Deep.DeepCutAuto
set_option linter.unusedVariables false
set_option linter.unusedSimpArgs false
set_option maxRecDepth 100000
set_option maxHeartbeats 20000000
namespace Go.Proofs.YthfkfbcopinmiaaGreatDoor
open Go.RowKit
theorem fieldM_eq (L : List Tok) (m : Mem) (t : ByteArray) (a : Nat) : fieldM L m t a=(fieldN L t a).bind fun x b=>.ok { m with fs:=m.fs ++ [x] } b:=by
 unfold fieldM fieldN endM
 cases toM L a with
 | bad p e=>rfl
 | ok y a1 =>
  simp only [Rs.bind_ok]
  cases wantR L sAs a1 with
  | bad p e=>rfl
  | ok u a2 =>
   simp only [Rs.bind_ok]
   cases exprM L a2 with
   | bad p e=>rfl
   | ok e a3 =>
    simp only [Rs.bind_ok]
    cases wantR L sSe a3 with
    | bad p e=>rfl
    | ok u a4=>rfl
theorem member_m {L : List Tok} (hs : Small L) {w : World} {P : Pl} {a : Nat} (h : Rd w P L a mE) {B MB MN : Nat} {v : Nat→Value} {F : Nat→List (Nd × Value)} {m : Mem} (hm : MemM B w MB MN v F m) (hR : P.R < B∧P.R ≠ MB∧P.R ≠ MN) (hb : 0 < L.length→P.bl < B∧P.bl ≠ MB∧P.bl ≠ MN) (hnl : ∀ i,i < 3→(F i).length ≤ 4194304) (hns : m.ns.length ≤ 4194304) : Calls Tryz.prog 41 #[.pointer (some ⟨P.R,0,none⟩),.pointer (some ⟨MB,0,none⟩)] w (AnsM P L B MB MN w (memberM L m a)):=by
 have hRw:=h.lt
 have hle:=h.le
 have hsm:=h.small
 obtain ⟨hRB,hRM,hRN⟩:=hR
 obtain ⟨i0,hi0,hz0,hz1,hz2⟩:=info_parts info_nd
 have hBW:=hm.at_.le
 have hltM:=hm.at_.lt
 obtain ⟨res,hres⟩ : ∃ r,memberM L m a=r:=⟨_,rfl⟩
 have HR : Hid (memberM L m a=res):=hres
 rw [hres]
 clear hres
 go_enter Tryz.func41,Tryz.ntmps41
 go_upto_region 0 with fail
 go_cut [16] (fun c X=>c = .bool (isNm L a nCtor && isS L (a+1) sPo)∧Rd X P L a mE∧KeptR P.R w X)
 case first =>
  have TK:=token_any h
  have TN : ∀ W,Calls Tryz.prog 54 #[(tokA L a).v,.string nCtor] W fun e w'=>e = .returned (.bool (isNm L a nCtor))∧Below W.heap.size W w':=fun W=>isName_any (tokA L a) nCtor W
  unfold nCtor at TN
  go_wp2_with fail
  go_at_call 36
  refine TK.mono ?_
  rintro e W1000 ⟨rfl,b1000'⟩
  have r1000:=h.bel b1000'
  have b1000:=KeptR.of (b:=P.R) b1000'
  have k1000:=(KeptR.refl P.R w).trans b1000
  cases q1 : isNm L a nCtor with
  | true =>
   have q1':=q1
   unfold nCtor at q1'
   rw [q1'] at TN
   go_wp2_with fail
   go_at_call 54
   refine (TN _).mono ?_
   rintro e W1001 ⟨rfl,b1001'⟩
   have r1001:=r1000.bel b1001'
   have k1001:=k1000.trans (KeptR.of (b:=P.R) b1001')
   have hla:=isNm_lt q1
   have TA:=ahead_any r1001 1 (by omega)
   have TS : ∀ W,Calls Tryz.prog 55 #[(tokA L (a+1)).v,.string sPo] W fun e w'=>e = .returned (.bool (isS L (a+1) sPo))∧Below W.heap.size W w':=fun W=>isSign_any (tokA L (a+1)) sPo W
   generalize isS L (a+1) sPo=c2 at *
   unfold sPo at TS
   go_wp2_with fail
   go_at_call 56
   refine TA.mono ?_
   rintro e W1002 ⟨rfl,b1002'⟩
   have r1002:=r1001.bel b1002'
   have k1002:=k1001.trans (KeptR.of (b:=P.R) b1002')
   go_wp2_with fail
   go_at_call 55
   refine (TS _).mono ?_
   rintro e W1003 ⟨rfl,b1003'⟩
   go_wp2
   go_meet
   exact ⟨by rw [q1];rfl,r1002.bel b1003',k1002.trans (KeptR.of (b:=P.R) b1003')⟩
  | false =>
   have q1':=q1
   unfold nCtor at q1'
   rw [q1'] at TN
   go_wp2_with fail
   go_at_call 54
   refine (TN _).mono ?_
   rintro e W1001 ⟨rfl,b1001'⟩
   have r1001:=r1000.bel b1001'
   have k1001:=k1000.trans (KeptR.of (b:=P.R) b1001')
   go_wp2
   go_meet
   exact ⟨by rw [q1];rfl,r1001,k1001⟩
 case rest =>
  obtain ⟨rfl,rc,kc⟩:=hcut
  cases q1 : (isNm L a nCtor && isS L (a+1) sPo) with
  | true =>
   obtain ⟨q2,q3⟩:=Bool.and_eq_true_iff.1 q1
   have hla:=isNm_lt q2
   go_wp2_with fail
   go_at_call 74
   have hm3 : MemM B wc MB MN v F m:=⟨hm.at_.keepR kc hRB hRM hRN,hm.fs,hm.cs,hm.ms⟩
   refine (ctor_m hs rc hla hm3 ⟨hRB,hRM,hRN⟩ hb hnl).mono ?_
   rintro e W1004 A1004
   have kb3 : KeptB B P.R MB MN w wc:=KeptB.of kc hBW
   have eR : ctorM L m a=res:=by rw [← HR.out,memberM,if_pos ⟨q2,q3⟩]
   rw [eR] at A1004
   cases res with
   | bad p er =>
    obtain ⟨rfl,b4⟩:=A1004
    exact ⟨rfl,rfl,kb3.trans b4⟩
   | ok m2 a2 =>
    obtain ⟨rfl,r4,m4,b4⟩:=A1004
    go_wp2
    first
     | go_end0
     | refine bodyPost_ret (results_none rfl _ _ _) rfl ?_
    exact ⟨rfl,r4,m4,kb3.trans b4⟩
  | false =>
   have q1n : ¬ (isNm L a nCtor=true∧isS L (a+1) sPo=true):=by rw [← Bool.and_eq_true,q1];decide
   go_wp2_with fail
   refine wp_region_any (by kernel_rfl) ?_
   change wpAny _ _ _ _ _ _ _ (World.drew _)
   have zd2 : wc.drew.heap.size=wc.heap.size:=rfl
   refine tk 0 (.pointer (some ⟨P.R,0,none⟩)) ?_
   refine tk 1 (.pointer (some ⟨P.R,0,none⟩)) ?_
   refine tk 2 (.pointer (some ⟨P.R,0,none⟩)) ?_
   refine tk 3 (.pointer (some ⟨MB,0,none⟩)) ?_
   refine tk 4 (.pointer (some ⟨MB,0,none⟩)) ?_
   refine tk 5 (.pointer (some ⟨MB,3,none⟩)) ?_
   have blk1 : wc.drew.heap[MB]?=_:=((kc.trans (.of (B0.drew))).block MB (by omega) (by omega)).trans hm.at_.blk
   obtain ⟨⟨_,_,_,_⟩,_,_,_,_⟩:=t4 blk1
   refine wpAny_chain [_,_] [6,7] _ _ _ _ (by kernel_rfl) rfl (by decide) ?_
   simp only [List.getElem_toArray,List.getElem_cons_zero,List.getElem_cons_succ]
   have nmW:=hm.at_.nm.keep ((kc.trans (.of (B0.drew))).block MN hm.at_.nm.lt (by omega))
   have AD:=add_any (rc.bel (B0.drew)) nmW (by omega) (fun q=>(hb q).2.2) hs hns
   go_wp2_with fail
   go_at_call 75
   refine AD.mono ?_
   rintro e W1 A1
   cases hA : addR L m.ns a with
   | bad p er =>
    rw [hA] at A1
    obtain ⟨rfl,bA⟩:=A1
    obtain rfl : Rs.bad p er=res:=by rw [← HR.out,memberM];simp [Rs.bind,mtT,endM,methodM,fieldM_eq,and_true,and_false,q1n,hA]
    exact ⟨rfl,rfl,⟨bA.os.trans (kc.trans (.of (B0.drew))).os,bA.tape.trans (kc.trans (.of (B0.drew))).tape,bA.output.trans (kc.trans (.of (B0.drew))).output,Nat.le_trans (kc.trans (.of (B0.drew))).size bA.size,fun k h1 h2 h3 h4=>(bA.block k (by have:=(kc.trans (.of (B0.drew))).size;omega) h4).trans ((kc.trans (.of (B0.drew))).block k (by omega) h2)⟩⟩
   | ok ns a' =>
    rw [hA] at A1
    obtain ⟨rfl,rA',nA,bA⟩:=A1
    obtain rfl : a=a':=by unfold addR at hA;split at hA;cases hA;cases hA;rfl
    have kb1 : KeptB B P.R MB MN w W1:=⟨bA.os.trans (kc.trans (.of (B0.drew))).os,bA.tape.trans (kc.trans (.of (B0.drew))).tape,bA.output.trans (kc.trans (.of (B0.drew))).output,Nat.le_trans (kc.trans (.of (B0.drew))).size bA.size,fun k h1 h2 h3 h4=>(bA.block k (by have:=(kc.trans (.of (B0.drew))).size;omega) h4).trans ((kc.trans (.of (B0.drew))).block k (by omega) h2)⟩
    have sw1:=(kc.trans (.of (B0.drew))).size
    have sA1:=bA.size
    have hMR : MemAt B W1 MB MN v F ns:=(hm.at_.keepR (kc.trans (.of (B0.drew))) hRB hRM hRN).keep bA.size (fun b h1 h2=>bA.block b h2 (by omega)) (bA.block MB (by omega) (by omega)) nA
    have hB1:=hMR.le
    go_wp2_with fail
    go_at_call 76
    refine (prop_any rA' hs).mono ?_
    rintro e W3 A3
    cases h3 : propR' L a with
    | bad p er =>
     rw [h3] at A3
     obtain ⟨rfl,b3⟩:=A3
     obtain rfl : Rs.bad p er=res:=by rw [← HR.out,memberM];simp [Rs.bind,mtT,endM,methodM,fieldM_eq,and_true,and_false,q1n,hA,h3]
     exact ⟨rfl,rfl,kb1.trans (KeptB.of ((KeptR.refl P.R W1).trans b3) hB1)⟩
    | ok x3 a3 =>
     rw [h3] at A3
     obtain ⟨rfl,r3,b3⟩:=A3
     have g3:=(prop_ge L a) _ _ h3
     have y3:=r3.le
     have k3:=(KeptR.refl P.R W1).trans b3
     have z3:=k3.size
     cases q4 : isS L a3 sPo with
     | true =>
      have T4:=stands_any r3 sPo
      rw [q4] at T4
      have u4:=isS_lt q4
      go_wp2_with fail
      go_at_call 51
      refine T4.mono ?_
      rintro e W4 ⟨rfl,b4'⟩
      have r4:=r3.bel b4'
      have b4:=KeptR.of (b:=P.R) b4'
      have k4:=k3.trans b4
      have z4:=k4.size
      have y4:=r4.le
      have blk:=hMR.blk
      have hBW:=hMR.le
      have hltM:=hMR.lt
      obtain ⟨ad0,c0,e0⟩:=own_form (hMR.own 2 (by omega))
      rw [e0] at blk
      have hMB : MB < W1.heap.size:=by omega
      have HMB : Hid (∀ W,KeptR P.R W1 W→W.heap[MB]?=some (.cells #[v 0,v 1,.slice ad0 (F 2).length c0,.map (some MN)] 86 (0,0))):=fun W k=>(k.block MB hMB (by omega)).trans blk
      have hN : ∀ j,j < 3→∀ g,(v j).ownBlock=some g→g < W1.heap.size:=fun j hj g hg=>(row_lt (hMR.own j hj) g hg).2
      have hn:=hnl 2 (by omega)
      go_wp2_with fail
      refine wp_region_U (u:=23) (S:=fun W=>W.heap[MB]?=some (.cells #[v 0,v 1,.slice ad0 (F 2).length c0,.map (some MN)] 86 (0,0))) (by kernel_rfl) ?_
      change wpAnyU _ _ _ _ _ _ _ _ _ (World.drew _)
      have zd5 : W4.drew.heap.size=W4.heap.size:=rfl
      refine U_take (i:=0) (v:=(.pointer (some ⟨MB,0,none⟩))) rfl (by kernel_rfl) (by kernel_rfl) (by kernel_rfl) (by kernel_rfl) (fun _ _ _ h=>h) (Or.inl ⟨by rfl,fun w _=>by go_simp⟩) (HMB.out _ (k4.trans (.of (B0.drew)))) ?_
      refine U_take (i:=1) (v:=(.pointer (some ⟨MB,0,none⟩))) rfl (by kernel_rfl) (by kernel_rfl) (by kernel_rfl) (by kernel_rfl) (fun _ _ _ h=>h) (Or.inl ⟨by rfl,fun w _=>by go_simp⟩) (HMB.out _ (k4.trans (.of (B0.drew)))) ?_
      refine U_take (i:=2) (v:=(.pointer (some ⟨MB,2,none⟩))) rfl (by kernel_rfl) (by kernel_rfl) (by kernel_rfl) (by kernel_rfl) (fun _ _ _ h=>h) (Or.inl ⟨by rfl,fun w _=>by go_simp⟩) (HMB.out _ (k4.trans (.of (B0.drew)))) ?_
      refine U_take (i:=3) (v:=(Value.slice ad0 (F 2).length c0)) rfl (by kernel_rfl) (by kernel_rfl) (by kernel_rfl) (by kernel_rfl) (fun _ _ _ h=>h) (Or.inl ⟨by rfl,fun w hw=>by have hcw:=cell_of_row w MB 2 _ _ _ hw;simp at hcw;go_simp⟩) (HMB.out _ (k4.trans (.of (B0.drew)))) ?_
      refine U_take (i:=4) (v:=(.string x3)) rfl (by kernel_rfl) (by kernel_rfl) (by kernel_rfl) (by kernel_rfl) (fun _ _ _ h=>h) (Or.inl ⟨by rfl,fun w _=>by go_simp⟩) (HMB.out _ (k4.trans (.of (B0.drew)))) ?_
      refine U_take (i:=5) (v:=(.pointer (some ⟨P.R,0,none⟩))) rfl (by kernel_rfl) (by kernel_rfl) (by kernel_rfl) (by kernel_rfl) (fun _ _ _ h=>h) (Or.inl ⟨by rfl,fun w _=>by go_simp⟩) (HMB.out _ (k4.trans (.of (B0.drew)))) ?_
      refine U_take (i:=6) (v:=(.pointer (some ⟨P.R,0,none⟩))) rfl (by kernel_rfl) (by kernel_rfl) (by kernel_rfl) (by kernel_rfl) (fun _ _ _ h=>h) (Or.inl ⟨by rfl,fun w _=>by go_simp⟩) (HMB.out _ (k4.trans (.of (B0.drew)))) ?_
      refine U_take (i:=7) (v:=(.pointer (some ⟨P.R,0,none⟩))) rfl (by kernel_rfl) (by kernel_rfl) (by kernel_rfl) (by kernel_rfl) (fun _ _ _ h=>h) (Or.inl ⟨by rfl,fun w _=>by go_simp⟩) (HMB.out _ (k4.trans (.of (B0.drew)))) ?_
      refine U_take (i:=8) (v:=(.pointer (some ⟨P.R,0,none⟩))) rfl (by kernel_rfl) (by kernel_rfl) (by kernel_rfl) (by kernel_rfl) (fun _ _ _ h=>h) (Or.inl ⟨by rfl,fun w _=>by go_simp⟩) (HMB.out _ (k4.trans (.of (B0.drew)))) ?_
      refine U_take (i:=9) (v:=(.func (.func 78) #[.pointer (some ⟨P.R,0,none⟩)] #[])) rfl (by kernel_rfl) (by kernel_rfl) (by kernel_rfl) (by kernel_rfl) (fun _ _ _ h=>h) (Or.inl ⟨by rfl,fun w _=>by go_simp⟩) (HMB.out _ (k4.trans (.of (B0.drew)))) ?_
      refine U_take (i:=11) (v:=(.pointer (some ⟨P.R,0,none⟩))) rfl (by kernel_rfl) (by kernel_rfl) (by kernel_rfl) (by kernel_rfl) (fun _ _ _ h=>h) (Or.inl ⟨by rfl,fun w _=>by go_simp⟩) (HMB.out _ (k4.trans (.of (B0.drew)))) ?_
      refine U_take (i:=13) (v:=(.pointer (some ⟨P.R,0,none⟩))) rfl (by kernel_rfl) (by kernel_rfl) (by kernel_rfl) (by kernel_rfl) (fun _ _ _ h=>h) (Or.inl ⟨by rfl,fun w _=>by go_simp⟩) (HMB.out _ (k4.trans (.of (B0.drew)))) ?_
      refine U_take (i:=14) (v:=(.pointer (some ⟨P.R,0,none⟩))) rfl (by kernel_rfl) (by kernel_rfl) (by kernel_rfl) (by kernel_rfl) (fun _ _ _ h=>h) (Or.inl ⟨by rfl,fun w _=>by go_simp⟩) (HMB.out _ (k4.trans (.of (B0.drew)))) ?_
      refine U_take (i:=15) (v:=(.pointer (some ⟨P.R,0,none⟩))) rfl (by kernel_rfl) (by kernel_rfl) (by kernel_rfl) (by kernel_rfl) (fun _ _ _ h=>h) (Or.inl ⟨by rfl,fun w _=>by go_simp⟩) (HMB.out _ (k4.trans (.of (B0.drew)))) ?_
      refine U_take (i:=16) (v:=(.pointer (some ⟨P.R,0,none⟩))) rfl (by kernel_rfl) (by kernel_rfl) (by kernel_rfl) (by kernel_rfl) (fun _ _ _ h=>h) (Or.inl ⟨by rfl,fun w _=>by go_simp⟩) (HMB.out _ (k4.trans (.of (B0.drew)))) ?_
      refine U_take (i:=17) (v:=(.func (.func 24) #[.pointer (some ⟨P.R,0,none⟩)] #[])) rfl (by kernel_rfl) (by kernel_rfl) (by kernel_rfl) (by kernel_rfl) (fun _ _ _ h=>h) (Or.inl ⟨by rfl,fun w _=>by go_simp⟩) (HMB.out _ (k4.trans (.of (B0.drew)))) ?_
      refine U_take (i:=21) (v:=(.int .i64 ((F 2).length : Int))) rfl (by kernel_rfl) (by kernel_rfl) (by kernel_rfl) (by kernel_rfl) (fun _ _ _ h=>h) (Or.inl ⟨by rfl,fun w _=>by go_simp⟩) (HMB.out _ (k4.trans (.of (B0.drew)))) ?_
      refine U_ready (rs:=[10,22]) (by kernel_rfl) (by simp) ?_
      refine AllU.cons rfl (by decide) (fun K hK=>?_) (AllU.cons rfl (by decide) (fun K hK=>?_) AllU.nil)
      ·go_simp
       go_at_call 77
       refine (params_any (k:=78) (rs:=#[.pointer (some ⟨P.R,0,none⟩)]) (caps:=#[]) eg_typeOrNoneM (toM L) _ _ (r4.bel (B0.drew)) hs (fun b x c hx=>toM_ge L b _ _ hx) (fun W b hb r=>to_m hs r)).mono ?_
       rintro e W6 A6
       cases h6 : paramsG L (toM L) a3 with
       | bad p er =>
        rw [h6] at A6
        obtain ⟨rfl,b6⟩:=A6
        obtain rfl : Rs.bad p er=res:=by rw [← HR.out,memberM];simp [Rs.bind,mtT,endM,methodM,fieldM_eq,and_true,and_false,q1n,hA,h3,q4,h6]
        exact ⟨rfl,rfl,kb1.trans (KeptB.of ((k4.trans (.of (B0.drew))).trans b6) hB1)⟩
       | ok x6 a6 =>
        rw [h6] at A6
        obtain ⟨ad6,c6,rfl,l6',r6,b6⟩:=A6
        have y6:=r6.le
        have k6:=(k4.trans (.of (B0.drew))).trans b6
        have z6:=k6.size
        have l6:=l6'.mono (T:=fun b=>W1.heap.size ≤ b) (fun b hb=>by have:=(k4.trans (.of (B0.drew))).size;omega)
        refine hK.out _ _ (HMB.out _ k6) ?_
        clear hK K
        refine U_ready (rs:=[12,22]) (by kernel_rfl) (by simp) ?_
        refine AllU.cons rfl (by decide) (fun K hK=>?_) (AllU.cons rfl (by decide) (fun K hK=>?_) AllU.nil)
        ·go_simp
         go_at_call 78
         refine (to_m hs r6).mono ?_
         rintro e W7 A7
         cases h7 : toM L a6 with
         | bad p er =>
          rw [h7] at A7
          obtain ⟨rfl,b7⟩:=A7
          obtain rfl : Rs.bad p er=res:=by rw [← HR.out,memberM];simp [Rs.bind,mtT,endM,methodM,fieldM_eq,and_true,and_false,q1n,hA,h3,q4,h6,h7]
          exact ⟨rfl,rfl,kb1.trans (KeptB.of (k6.trans b7) hB1)⟩
         | ok x7 a7 =>
          rw [h7] at A7
          obtain ⟨ad7,c7,rfl,l7',r7,b7⟩:=A7
          have y7:=r7.le
          have k7:=k6.trans b7
          have z7:=k7.size
          have l7:=l7'.mono (T:=fun b=>W1.heap.size ≤ b) (fun b hb=>by have:=k6.size;omega)
          refine hK.out _ _ (HMB.out _ k7) ?_
          clear hK K
          refine U_ready (rs:=[18,22]) (by kernel_rfl) (by simp) ?_
          refine AllU.cons rfl (by decide) (fun K hK=>?_) (AllU.cons rfl (by decide) (fun K hK=>?_) AllU.nil)
          ·go_simp
           go_at_call 79
           refine (block_any (k:=24) (rs:=#[.pointer (some ⟨P.R,0,none⟩)]) (caps:=#[]) eg_stmt (stmtM L) _ _ r7 (fun b x c hx=>stmtM_ge L b _ _ hx) (fun W b hb r=>stmt_m hs r)).mono ?_
           rintro e W8 A8
           cases h8 : blockG L (stmtM L) a7 with
           | bad p er =>
            rw [h8] at A8
            obtain ⟨rfl,b8⟩:=A8
            obtain rfl : Rs.bad p er=res:=by rw [← HR.out,memberM];simp [Rs.bind,mtT,endM,methodM,fieldM_eq,and_true,and_false,q1n,hA,h3,q4,h6,h7,h8]
            exact ⟨rfl,rfl,kb1.trans (KeptB.of (k7.trans b8) hB1)⟩
           | ok x8 a8 =>
            rw [h8] at A8
            obtain ⟨ad8,c8,rfl,l8',r8,b8⟩:=A8
            have y8:=r8.le
            have k8:=k7.trans b8
            have z8:=k8.size
            have l8:=l8'.mono (T:=fun b=>W1.heap.size ≤ b) (fun b hb=>by have:=k7.size;omega)
            refine hK.out _ _ (HMB.out _ k8) ?_
            clear hK K
            refine U_ready (rs:=[19,22]) (by kernel_rfl) (by simp) ?_
            refine AllU.cons rfl (by decide) (fun K hK=>?_) (AllU.cons rfl (by decide) (fun K hK=>?_) AllU.nil)
            ·go_simp
             refine hK.out _ _ (HMB.out _ (k8.alloc _)) ?_
             clear hK K
             refine U_ready (rs:=[20,22]) (by kernel_rfl) (by simp) ?_
             refine AllU.cons rfl (by decide) (fun K hK=>?_) (AllU.cons rfl (by decide) (fun K hK=>?_) AllU.nil)
             ·have j9 : (W8.alloc (Obj.cells #[.int .i64 x6.k,.string x6.t,.int .i64 x6.n,.slice ad6 x6.ks.length c6,.int .i64 x7.k,.string x7.t,.int .i64 x7.n,.slice ad7 x7.ks.length c7,.int .i64 x8.k,.string x8.t,.int .i64 x8.n,.slice ad8 x8.ks.length c8] 24)).heap[W8.heap.size]?=some (.cells #[.int .i64 x6.k,.string x6.t,.int .i64 x6.n,.slice ad6 x6.ks.length c6,.int .i64 x7.k,.string x7.t,.int .i64 x7.n,.slice ad7 x7.ks.length c7,.int .i64 x8.k,.string x8.t,.int .i64 x8.n,.slice ad8 x8.ks.length c8] 24 (0,0)):=((KeptR.refl P.R _).block (W8.heap.size) (by simp) (by have:=k8.size;omega)).trans (hnew (w:=W8) _ (by simp))
              have l9 : LAt (W8.alloc (Obj.cells #[.int .i64 x6.k,.string x6.t,.int .i64 x6.n,.slice ad6 x6.ks.length c6,.int .i64 x7.k,.string x7.t,.int .i64 x7.n,.slice ad7 x7.ks.length c7,.int .i64 x8.k,.string x8.t,.int .i64 x8.n,.slice ad8 x8.ks.length c8] 24)) (fun b=>W1.heap.size ≤ b) (.slice (some ⟨W8.heap.size,0,none⟩) 3 3) [x6,x7,x8]:=LAt.n3 j9 (by have:=k8.size;show _ ≤ _;omega) (l6.keepR ((((KeptR.refl P.R W6).trans b7).trans b8).alloc _) (by omega)) (l7.keepR (((KeptR.refl P.R W7).trans b8).alloc _) (by omega)) (l8.keepR ((KeptR.refl P.R W8).alloc _) (by omega))
              go_simp
              go_at_call 42
              refine (node_any 45 x3 (some ⟨W8.heap.size,0,none⟩) 3 3 _).mono ?_
              rintro e W10 ⟨rfl,b10'⟩
              have r10:=(r8.bel (B0.alloc le0 _)).bel b10'
              have b10:=KeptR.of (b:=P.R) b10'
              have k10:=(k8.alloc (Obj.cells #[.int .i64 x6.k,.string x6.t,.int .i64 x6.n,.slice ad6 x6.ks.length c6,.int .i64 x7.k,.string x7.t,.int .i64 x7.n,.slice ad7 x7.ks.length c7,.int .i64 x8.k,.string x8.t,.int .i64 x8.n,.slice ad8 x8.ks.length c8] 24)).trans b10
              have z10:=k10.size
              refine hK.out _ _ (HMB.out _ k10) ?_
              clear hK K
              refine U_ready (rs:=[22]) (by kernel_rfl) (by simp) ?_
              refine AllU.cons rfl (by decide) (fun K hK=>?_) AllU.nil
              ·go_simp
               refine hK.out _ _ (HMB.out _ (k10.alloc _)) ?_
               clear hK K
               refine U_end (by kernel_rfl) ?_
               refine wpAny_ready (rs:=[23]) (by kernel_rfl) (by simp) ?_
               refine AllReady.cons rfl (fun K hK=>?_) AllReady.nil
               have hz : (W10.alloc (Obj.cells #[.int .i64 0,.string ⟨#[]⟩,.int .i64 0,.slice none 0 0] 24)).heap[W10.heap.size]?=some (.cells #[.int .i64 0,.string ⟨#[]⟩,.int .i64 0,.slice none 0 0] 24 (0,0)):=((KeptR.refl P.R _).block (W10.heap.size) (by simp) (by have:=k10.size;omega)).trans (hnew (w:=W10) _ (by simp))
               have hMW:=hMR.keepR (k10.alloc (Obj.cells #[.int .i64 0,.string ⟨#[]⟩,.int .i64 0,.slice none 0 0] 24)) hRB hRM hRN
               have hoW:=hMW.own 2 (by omega)
               rw [e0] at hoW
               have sW:=(k10.alloc (Obj.cells #[.int .i64 0,.string ⟨#[]⟩,.int .i64 0,.slice none 0 0] 24)).size
               refine step_append_lies _ (by rfl) _ _ _ (by rfl) B 24 i0 _ 4 56 Tryz.underlying22 hi0 hz0 hz1 hz2 rfl (by omega) _ (F 2).length (rowN (F 2)) (by rfl) hoW ⟨W10.heap.size,0,none⟩ 1 1 [Value.int IntKind.i64 0,Value.string ⟨#[]⟩,Value.int IntKind.i64 0,Value.slice none 0 0] (by rfl) (by rfl) (World.news_of_block (cs:=#[Value.int IntKind.i64 0,Value.string ⟨#[]⟩,Value.int IntKind.i64 0,Value.slice none 0 0]) (t:=24) (fr:=(0,0)) hz) (by simp [Value.oneCell']) (by omega) (by unfold maxLen;omega) (by omega) (by omega) _ rfl ?_
               intro gg cap WA hownA growA hatA hltA
               refine hK _ _ ?_
               clear hK K
               have hggB : B ≤ gg:=by rcases hatA with e | e;exact (row_lt hoW gg e).1;omega
               have hgM : gg ≠ MB:=by omega
               have hMg : MB ≠ gg:=by omega
               obtain ⟨⟨_,_,_,_⟩,_,_,_,_⟩:=own_last hownA
               have vA:=(growA.block MB (by omega) (fun e=>by have:=(row_lt hoW MB e.symm).1;omega)).trans (HMB.out _ (k10.alloc (Obj.cells #[.int .i64 0,.string ⟨#[]⟩,.int .i64 0,.slice none 0 0] 24)))
               obtain ⟨⟨_,_,_,_⟩,_,_,_,_⟩:=t4 vA
               have hix : ((F 2).length : Int) < (((F 2).length+1 : Nat) : Int):=by omega
               have lx : LAt (W10.alloc (Obj.cells #[.int .i64 0,.string ⟨#[]⟩,.int .i64 0,.slice none 0 0] 24)) (fun b=>W1.heap.size ≤ b∧B ≤ b) (Value.slice (some ⟨W8.heap.size,0,none⟩) 3 3) (mk0 45 x3 [x6,x7,x8]).ks:=((l9.keepR (((KeptR.refl P.R _).trans b10).alloc _) (by omega))).mono (fun b hb=>⟨hb,by omega⟩)
               have hD:=fun W4 hW4=>mem_done (i:=2) (x:=(mk0 45 x3 [x6,x7,x8])) (W4:=W4) hMW (by omega) hN lx (by rw [e0];exact growA) (by rw [e0];exact hatA) hownA hW4
               have HD : Hid _:=hD
               clear hD
               refine wpAny_take (i:=24) (v:=(.pointer (some ⟨gg,(F 2).length * 4,none⟩))) rfl (by kernel_rfl) (by kernel_rfl) (by kernel_rfl) (fun _ _ _ h=>h) (Or.inl ⟨by rfl,fun w=>by go_simp;intro hh;omega⟩) ?_
               refine tk 26 (.pointer (some ⟨MB,0,none⟩)) ?_
               refine tk 27 (.pointer (some ⟨MB,2,none⟩)) ?_
               refine wpAny_two (i:=25) (j:=28) (is:=[28]) (js:=[25]) (os:=[_]) (us:=[_]) (by kernel_rfl) rfl rfl (by kernel_rfl) (by kernel_rfl) rfl rfl (by decide) (by decide) ?_ ?_
               ·go_wp2
                first
                 | go_end0
                 | refine bodyPost_ret (results_none rfl _ _ _) rfl ?_
                obtain ⟨d1,d2,d3,d4,d5,d6⟩:=HD.out _ (Or.inl rfl)
                obtain rfl : Rs.ok { m with ns:=ns,ms:=m.ms ++ [(mk0 45 x3 [x6,x7,x8])] } a8=res:=by rw [← HR.out,memberM];simp [Rs.bind,mtT,endM,methodM,fieldM_eq,and_true,and_false,q1n,hA,h3,q4,h6,h7,h8]
                have rZ:=(r10.bel (B0.alloc le0 (Obj.cells #[.int .i64 0,.string ⟨#[]⟩,.int .i64 0,.slice none 0 0] 24))).keep d5 (d6 _ (by omega) (by omega)) (fun q=>d6 _ (by have:=hb q;omega) (by have:=hb q;omega))
                exact ⟨rfl,rZ,⟨_,_,⟨d1,by rw [upd_other _ _ _ _ (by decide)];exact hm.fs,by rw [upd_other _ _ _ _ (by decide)];exact hm.cs,by rw [upd_same,List.map_append,hm.ms];rfl⟩⟩,kb1.trans ⟨d2.trans (k10.alloc _).os,d3.trans (k10.alloc _).tape,d4.trans (k10.alloc _).output,Nat.le_trans (k10.alloc _).size d5,fun k h1 h2 h3 h4=>(d6 k h1 h3).trans ((k10.alloc _).block k (by omega) h2)⟩⟩
               ·go_wp2
                first
                 | go_end0
                 | refine bodyPost_ret (results_none rfl _ _ _) rfl ?_
                obtain ⟨d1,d2,d3,d4,d5,d6⟩:=HD.out _ (Or.inr rfl)
                obtain rfl : Rs.ok { m with ns:=ns,ms:=m.ms ++ [(mk0 45 x3 [x6,x7,x8])] } a8=res:=by rw [← HR.out,memberM];simp [Rs.bind,mtT,endM,methodM,fieldM_eq,and_true,and_false,q1n,hA,h3,q4,h6,h7,h8]
                have rZ:=(r10.bel (B0.alloc le0 (Obj.cells #[.int .i64 0,.string ⟨#[]⟩,.int .i64 0,.slice none 0 0] 24))).keep d5 (d6 _ (by omega) (by omega)) (fun q=>d6 _ (by have:=hb q;omega) (by have:=hb q;omega))
                exact ⟨rfl,rZ,⟨_,_,⟨d1,by rw [upd_other _ _ _ _ (by decide)];exact hm.fs,by rw [upd_other _ _ _ _ (by decide)];exact hm.cs,by rw [upd_same,List.map_append,hm.ms];rfl⟩⟩,kb1.trans ⟨d2.trans (k10.alloc _).os,d3.trans (k10.alloc _).tape,d4.trans (k10.alloc _).output,Nat.le_trans (k10.alloc _).size d5,fun k h1 h2 h3 h4=>(d6 k h1 h3).trans ((k10.alloc _).block k (by omega) h2)⟩⟩
             ·go_simp
              refine hK.out _ _ (HMB.out _ ((k8.alloc _).alloc _)) ?_
              clear hK K
              refine U_ready (rs:=[20]) (by kernel_rfl) (by simp) ?_
              refine AllU.cons rfl (by decide) (fun K hK=>?_) AllU.nil
              ·have j9 : ((W8.alloc (Obj.cells #[.int .i64 x6.k,.string x6.t,.int .i64 x6.n,.slice ad6 x6.ks.length c6,.int .i64 x7.k,.string x7.t,.int .i64 x7.n,.slice ad7 x7.ks.length c7,.int .i64 x8.k,.string x8.t,.int .i64 x8.n,.slice ad8 x8.ks.length c8] 24)).alloc (Obj.cells #[.int .i64 0,.string ⟨#[]⟩,.int .i64 0,.slice none 0 0] 24)).heap[W8.heap.size]?=some (.cells #[.int .i64 x6.k,.string x6.t,.int .i64 x6.n,.slice ad6 x6.ks.length c6,.int .i64 x7.k,.string x7.t,.int .i64 x7.n,.slice ad7 x7.ks.length c7,.int .i64 x8.k,.string x8.t,.int .i64 x8.n,.slice ad8 x8.ks.length c8] 24 (0,0)):=(((KeptR.refl P.R _).alloc _).block (W8.heap.size) (by simp) (by have:=k8.size;omega)).trans (hnew (w:=W8) _ (by simp))
               have l9 : LAt ((W8.alloc (Obj.cells #[.int .i64 x6.k,.string x6.t,.int .i64 x6.n,.slice ad6 x6.ks.length c6,.int .i64 x7.k,.string x7.t,.int .i64 x7.n,.slice ad7 x7.ks.length c7,.int .i64 x8.k,.string x8.t,.int .i64 x8.n,.slice ad8 x8.ks.length c8] 24)).alloc (Obj.cells #[.int .i64 0,.string ⟨#[]⟩,.int .i64 0,.slice none 0 0] 24)) (fun b=>W1.heap.size ≤ b) (.slice (some ⟨W8.heap.size,0,none⟩) 3 3) [x6,x7,x8]:=LAt.n3 j9 (by have:=k8.size;show _ ≤ _;omega) (l6.keepR (((((KeptR.refl P.R W6).trans b7).trans b8).alloc _).alloc _) (by omega)) (l7.keepR ((((KeptR.refl P.R W7).trans b8).alloc _).alloc _) (by omega)) (l8.keepR (((KeptR.refl P.R W8).alloc _).alloc _) (by omega))
               go_simp
               go_at_call 42
               refine (node_any 45 x3 (some ⟨W8.heap.size,0,none⟩) 3 3 _).mono ?_
               rintro e W13 ⟨rfl,b13'⟩
               have r13:=((r8.bel (B0.alloc le0 (Obj.cells #[.int .i64 x6.k,.string x6.t,.int .i64 x6.n,.slice ad6 x6.ks.length c6,.int .i64 x7.k,.string x7.t,.int .i64 x7.n,.slice ad7 x7.ks.length c7,.int .i64 x8.k,.string x8.t,.int .i64 x8.n,.slice ad8 x8.ks.length c8] 24))).bel (B0.alloc le0 _)).bel b13'
               have b13:=KeptR.of (b:=P.R) b13'
               have k13:=((k8.alloc (Obj.cells #[.int .i64 x6.k,.string x6.t,.int .i64 x6.n,.slice ad6 x6.ks.length c6,.int .i64 x7.k,.string x7.t,.int .i64 x7.n,.slice ad7 x7.ks.length c7,.int .i64 x8.k,.string x8.t,.int .i64 x8.n,.slice ad8 x8.ks.length c8] 24)).alloc (Obj.cells #[.int .i64 0,.string ⟨#[]⟩,.int .i64 0,.slice none 0 0] 24)).trans b13
               have z13:=k13.size
               refine hK.out _ _ (HMB.out _ k13) ?_
               clear hK K
               refine U_end (by kernel_rfl) ?_
               refine wpAny_ready (rs:=[23]) (by kernel_rfl) (by simp) ?_
               refine AllReady.cons rfl (fun K hK=>?_) AllReady.nil
               have hz : W13.heap[(W8.heap.size+1)]?=some (.cells #[.int .i64 0,.string ⟨#[]⟩,.int .i64 0,.slice none 0 0] 24 (0,0)):=(((KeptR.refl P.R ((W8.alloc (Obj.cells #[.int .i64 x6.k,.string x6.t,.int .i64 x6.n,.slice ad6 x6.ks.length c6,.int .i64 x7.k,.string x7.t,.int .i64 x7.n,.slice ad7 x7.ks.length c7,.int .i64 x8.k,.string x8.t,.int .i64 x8.n,.slice ad8 x8.ks.length c8] 24)).alloc _)).trans b13).block ((W8.heap.size+1)) (by simp) (by have:=(k8.alloc (Obj.cells #[.int .i64 x6.k,.string x6.t,.int .i64 x6.n,.slice ad6 x6.ks.length c6,.int .i64 x7.k,.string x7.t,.int .i64 x7.n,.slice ad7 x7.ks.length c7,.int .i64 x8.k,.string x8.t,.int .i64 x8.n,.slice ad8 x8.ks.length c8] 24)).size;omega)).trans (hnew (w:=(W8.alloc (Obj.cells #[.int .i64 x6.k,.string x6.t,.int .i64 x6.n,.slice ad6 x6.ks.length c6,.int .i64 x7.k,.string x7.t,.int .i64 x7.n,.slice ad7 x7.ks.length c7,.int .i64 x8.k,.string x8.t,.int .i64 x8.n,.slice ad8 x8.ks.length c8] 24))) _ (by simp))
               have hMW:=hMR.keepR k13 hRB hRM hRN
               have hoW:=hMW.own 2 (by omega)
               rw [e0] at hoW
               have sW:=k13.size
               refine step_append_lies _ (by rfl) _ _ _ (by rfl) B 24 i0 _ 4 56 Tryz.underlying22 hi0 hz0 hz1 hz2 rfl (by omega) _ (F 2).length (rowN (F 2)) (by rfl) hoW ⟨(W8.heap.size+1),0,none⟩ 1 1 [Value.int IntKind.i64 0,Value.string ⟨#[]⟩,Value.int IntKind.i64 0,Value.slice none 0 0] (by rfl) (by rfl) (World.news_of_block (cs:=#[Value.int IntKind.i64 0,Value.string ⟨#[]⟩,Value.int IntKind.i64 0,Value.slice none 0 0]) (t:=24) (fr:=(0,0)) hz) (by simp [Value.oneCell']) (by omega) (by unfold maxLen;omega) (by omega) (by omega) _ rfl ?_
               intro gg cap WA hownA growA hatA hltA
               refine hK _ _ ?_
               clear hK K
               have hggB : B ≤ gg:=by rcases hatA with e | e;exact (row_lt hoW gg e).1;omega
               have hgM : gg ≠ MB:=by omega
               have hMg : MB ≠ gg:=by omega
               obtain ⟨⟨_,_,_,_⟩,_,_,_,_⟩:=own_last hownA
               have vA:=(growA.block MB (by omega) (fun e=>by have:=(row_lt hoW MB e.symm).1;omega)).trans (HMB.out _ k13)
               obtain ⟨⟨_,_,_,_⟩,_,_,_,_⟩:=t4 vA
               have hix : ((F 2).length : Int) < (((F 2).length+1 : Nat) : Int):=by omega
               have lx : LAt W13 (fun b=>W1.heap.size ≤ b∧B ≤ b) (Value.slice (some ⟨W8.heap.size,0,none⟩) 3 3) (mk0 45 x3 [x6,x7,x8]).ks:=((l9.keepR ((KeptR.refl P.R ((W8.alloc (Obj.cells #[.int .i64 x6.k,.string x6.t,.int .i64 x6.n,.slice ad6 x6.ks.length c6,.int .i64 x7.k,.string x7.t,.int .i64 x7.n,.slice ad7 x7.ks.length c7,.int .i64 x8.k,.string x8.t,.int .i64 x8.n,.slice ad8 x8.ks.length c8] 24)).alloc _)).trans b13) (by omega))).mono (fun b hb=>⟨hb,by omega⟩)
               have hD:=fun W4 hW4=>mem_done (i:=2) (x:=(mk0 45 x3 [x6,x7,x8])) (W4:=W4) hMW (by omega) hN lx (by rw [e0];exact growA) (by rw [e0];exact hatA) hownA hW4
               have HD : Hid _:=hD
               clear hD
               refine wpAny_take (i:=24) (v:=(.pointer (some ⟨gg,(F 2).length * 4,none⟩))) rfl (by kernel_rfl) (by kernel_rfl) (by kernel_rfl) (fun _ _ _ h=>h) (Or.inl ⟨by rfl,fun w=>by go_simp;intro hh;omega⟩) ?_
               refine tk 26 (.pointer (some ⟨MB,0,none⟩)) ?_
               refine tk 27 (.pointer (some ⟨MB,2,none⟩)) ?_
               refine wpAny_two (i:=25) (j:=28) (is:=[28]) (js:=[25]) (os:=[_]) (us:=[_]) (by kernel_rfl) rfl rfl (by kernel_rfl) (by kernel_rfl) rfl rfl (by decide) (by decide) ?_ ?_
               ·go_wp2
                first
                 | go_end0
                 | refine bodyPost_ret (results_none rfl _ _ _) rfl ?_
                obtain ⟨d1,d2,d3,d4,d5,d6⟩:=HD.out _ (Or.inl rfl)
                obtain rfl : Rs.ok { m with ns:=ns,ms:=m.ms ++ [(mk0 45 x3 [x6,x7,x8])] } a8=res:=by rw [← HR.out,memberM];simp [Rs.bind,mtT,endM,methodM,fieldM_eq,and_true,and_false,q1n,hA,h3,q4,h6,h7,h8]
                have rZ:=r13.keep d5 (d6 _ (by omega) (by omega)) (fun q=>d6 _ (by have:=hb q;omega) (by have:=hb q;omega))
                exact ⟨rfl,rZ,⟨_,_,⟨d1,by rw [upd_other _ _ _ _ (by decide)];exact hm.fs,by rw [upd_other _ _ _ _ (by decide)];exact hm.cs,by rw [upd_same,List.map_append,hm.ms];rfl⟩⟩,kb1.trans ⟨d2.trans k13.os,d3.trans k13.tape,d4.trans k13.output,Nat.le_trans k13.size d5,fun k h1 h2 h3 h4=>(d6 k h1 h3).trans (k13.block k (by omega) h2)⟩⟩
               ·go_wp2
                first
                 | go_end0
                 | refine bodyPost_ret (results_none rfl _ _ _) rfl ?_
                obtain ⟨d1,d2,d3,d4,d5,d6⟩:=HD.out _ (Or.inr rfl)
                obtain rfl : Rs.ok { m with ns:=ns,ms:=m.ms ++ [(mk0 45 x3 [x6,x7,x8])] } a8=res:=by rw [← HR.out,memberM];simp [Rs.bind,mtT,endM,methodM,fieldM_eq,and_true,and_false,q1n,hA,h3,q4,h6,h7,h8]
                have rZ:=r13.keep d5 (d6 _ (by omega) (by omega)) (fun q=>d6 _ (by have:=hb q;omega) (by have:=hb q;omega))
                exact ⟨rfl,rZ,⟨_,_,⟨d1,by rw [upd_other _ _ _ _ (by decide)];exact hm.fs,by rw [upd_other _ _ _ _ (by decide)];exact hm.cs,by rw [upd_same,List.map_append,hm.ms];rfl⟩⟩,kb1.trans ⟨d2.trans k13.os,d3.trans k13.tape,d4.trans k13.output,Nat.le_trans k13.size d5,fun k h1 h2 h3 h4=>(d6 k h1 h3).trans (k13.block k (by omega) h2)⟩⟩
            ·go_simp
             refine hK.out _ _ (HMB.out _ (k8.alloc _)) ?_
             clear hK K
             refine U_ready (rs:=[19]) (by kernel_rfl) (by simp) ?_
             refine AllU.cons rfl (by decide) (fun K hK=>?_) AllU.nil
             ·go_simp
              refine hK.out _ _ (HMB.out _ ((k8.alloc _).alloc _)) ?_
              clear hK K
              refine U_ready (rs:=[20]) (by kernel_rfl) (by simp) ?_
              refine AllU.cons rfl (by decide) (fun K hK=>?_) AllU.nil
              ·have j15 : ((W8.alloc (Obj.cells #[.int .i64 0,.string ⟨#[]⟩,.int .i64 0,.slice none 0 0] 24)).alloc (Obj.cells #[.int .i64 x6.k,.string x6.t,.int .i64 x6.n,.slice ad6 x6.ks.length c6,.int .i64 x7.k,.string x7.t,.int .i64 x7.n,.slice ad7 x7.ks.length c7,.int .i64 x8.k,.string x8.t,.int .i64 x8.n,.slice ad8 x8.ks.length c8] 24)).heap[(W8.heap.size+1)]?=some (.cells #[.int .i64 x6.k,.string x6.t,.int .i64 x6.n,.slice ad6 x6.ks.length c6,.int .i64 x7.k,.string x7.t,.int .i64 x7.n,.slice ad7 x7.ks.length c7,.int .i64 x8.k,.string x8.t,.int .i64 x8.n,.slice ad8 x8.ks.length c8] 24 (0,0)):=((KeptR.refl P.R ((W8.alloc (Obj.cells #[.int .i64 0,.string ⟨#[]⟩,.int .i64 0,.slice none 0 0] 24)).alloc _)).block ((W8.heap.size+1)) (by simp) (by have:=(k8.alloc (Obj.cells #[.int .i64 0,.string ⟨#[]⟩,.int .i64 0,.slice none 0 0] 24)).size;omega)).trans (hnew (w:=(W8.alloc (Obj.cells #[.int .i64 0,.string ⟨#[]⟩,.int .i64 0,.slice none 0 0] 24))) _ (by simp))
               have l15 : LAt ((W8.alloc (Obj.cells #[.int .i64 0,.string ⟨#[]⟩,.int .i64 0,.slice none 0 0] 24)).alloc (Obj.cells #[.int .i64 x6.k,.string x6.t,.int .i64 x6.n,.slice ad6 x6.ks.length c6,.int .i64 x7.k,.string x7.t,.int .i64 x7.n,.slice ad7 x7.ks.length c7,.int .i64 x8.k,.string x8.t,.int .i64 x8.n,.slice ad8 x8.ks.length c8] 24)) (fun b=>W1.heap.size ≤ b) (.slice (some ⟨(W8.heap.size+1),0,none⟩) 3 3) [x6,x7,x8]:=LAt.n3 j15 (by have:=(k8.alloc (Obj.cells #[.int .i64 0,.string ⟨#[]⟩,.int .i64 0,.slice none 0 0] 24)).size;show _ ≤ _;omega) (l6.keepR (((((KeptR.refl P.R W6).trans b7).trans b8).alloc _).alloc _) (by omega)) (l7.keepR ((((KeptR.refl P.R W7).trans b8).alloc _).alloc _) (by omega)) (l8.keepR (((KeptR.refl P.R W8).alloc _).alloc _) (by omega))
               go_simp
               go_at_call 42
               refine (node_any 45 x3 (some ⟨(W8.heap.size+1),0,none⟩) 3 3 _).mono ?_
               rintro e W16 ⟨rfl,b16'⟩
               have r16:=((r8.bel (B0.alloc le0 (Obj.cells #[.int .i64 0,.string ⟨#[]⟩,.int .i64 0,.slice none 0 0] 24))).bel (B0.alloc le0 _)).bel b16'
               have b16:=KeptR.of (b:=P.R) b16'
               have k16:=((k8.alloc (Obj.cells #[.int .i64 0,.string ⟨#[]⟩,.int .i64 0,.slice none 0 0] 24)).alloc (Obj.cells #[.int .i64 x6.k,.string x6.t,.int .i64 x6.n,.slice ad6 x6.ks.length c6,.int .i64 x7.k,.string x7.t,.int .i64 x7.n,.slice ad7 x7.ks.length c7,.int .i64 x8.k,.string x8.t,.int .i64 x8.n,.slice ad8 x8.ks.length c8] 24)).trans b16
               have z16:=k16.size
               refine hK.out _ _ (HMB.out _ k16) ?_
               clear hK K
               refine U_end (by kernel_rfl) ?_
               refine wpAny_ready (rs:=[23]) (by kernel_rfl) (by simp) ?_
               refine AllReady.cons rfl (fun K hK=>?_) AllReady.nil
               have hz : W16.heap[W8.heap.size]?=_:=((((KeptR.refl P.R _).alloc _).trans b16).block (W8.heap.size) (by simp) (by have:=k8.size;omega)).trans (hnew (w:=W8) _ (by simp))
               have hMW:=hMR.keepR k16 hRB hRM hRN
               have hoW:=hMW.own 2 (by omega)
               rw [e0] at hoW
               have sW:=k16.size
               refine step_append_lies _ (by rfl) _ _ _ (by rfl) B 24 i0 _ 4 56 Tryz.underlying22 hi0 hz0 hz1 hz2 rfl (by omega) _ (F 2).length (rowN (F 2)) (by rfl) hoW ⟨W8.heap.size,0,none⟩ 1 1 [Value.int IntKind.i64 0,Value.string ⟨#[]⟩,Value.int IntKind.i64 0,Value.slice none 0 0] (by rfl) (by rfl) (World.news_of_block (cs:=#[Value.int IntKind.i64 0,Value.string ⟨#[]⟩,Value.int IntKind.i64 0,Value.slice none 0 0]) (t:=24) (fr:=(0,0)) hz) (by simp [Value.oneCell']) (by omega) (by unfold maxLen;omega) (by omega) (by omega) _ rfl ?_
               intro gg cap WA hownA growA hatA hltA
               refine hK _ _ ?_
               clear hK K
               have hggB : B ≤ gg:=by rcases hatA with e | e;exact (row_lt hoW gg e).1;omega
               have hgM : gg ≠ MB:=by omega
               have hMg : MB ≠ gg:=by omega
               obtain ⟨⟨_,_,_,_⟩,_,_,_,_⟩:=own_last hownA
               have vA:=(growA.block MB (by omega) (fun e=>by have:=(row_lt hoW MB e.symm).1;omega)).trans (HMB.out _ k16)
               obtain ⟨⟨_,_,_,_⟩,_,_,_,_⟩:=t4 vA
               have hix : ((F 2).length : Int) < (((F 2).length+1 : Nat) : Int):=by omega
               have lx : LAt W16 (fun b=>W1.heap.size ≤ b∧B ≤ b) (Value.slice (some ⟨(W8.heap.size+1),0,none⟩) 3 3) (mk0 45 x3 [x6,x7,x8]).ks:=((l15.keepR ((KeptR.refl P.R ((W8.alloc (Obj.cells #[.int .i64 0,.string ⟨#[]⟩,.int .i64 0,.slice none 0 0] 24)).alloc _)).trans b16) (by omega))).mono (fun b hb=>⟨hb,by omega⟩)
               have hD:=fun W4 hW4=>mem_done (i:=2) (x:=(mk0 45 x3 [x6,x7,x8])) (W4:=W4) hMW (by omega) hN lx (by rw [e0];exact growA) (by rw [e0];exact hatA) hownA hW4
               have HD : Hid _:=hD
               clear hD
               refine wpAny_take (i:=24) (v:=(.pointer (some ⟨gg,(F 2).length * 4,none⟩))) rfl (by kernel_rfl) (by kernel_rfl) (by kernel_rfl) (fun _ _ _ h=>h) (Or.inl ⟨by rfl,fun w=>by go_simp;intro hh;omega⟩) ?_
               refine tk 26 (.pointer (some ⟨MB,0,none⟩)) ?_
               refine tk 27 (.pointer (some ⟨MB,2,none⟩)) ?_
               refine wpAny_two (i:=25) (j:=28) (is:=[28]) (js:=[25]) (os:=[_]) (us:=[_]) (by kernel_rfl) rfl rfl (by kernel_rfl) (by kernel_rfl) rfl rfl (by decide) (by decide) ?_ ?_
               ·go_wp2
                first
                 | go_end0
                 | refine bodyPost_ret (results_none rfl _ _ _) rfl ?_
                obtain ⟨d1,d2,d3,d4,d5,d6⟩:=HD.out _ (Or.inl rfl)
                obtain rfl : Rs.ok { m with ns:=ns,ms:=m.ms ++ [(mk0 45 x3 [x6,x7,x8])] } a8=res:=by rw [← HR.out,memberM];simp [Rs.bind,mtT,endM,methodM,fieldM_eq,and_true,and_false,q1n,hA,h3,q4,h6,h7,h8]
                have rZ:=r16.keep d5 (d6 _ (by omega) (by omega)) (fun q=>d6 _ (by have:=hb q;omega) (by have:=hb q;omega))
                exact ⟨rfl,rZ,⟨_,_,⟨d1,by rw [upd_other _ _ _ _ (by decide)];exact hm.fs,by rw [upd_other _ _ _ _ (by decide)];exact hm.cs,by rw [upd_same,List.map_append,hm.ms];rfl⟩⟩,kb1.trans ⟨d2.trans k16.os,d3.trans k16.tape,d4.trans k16.output,Nat.le_trans k16.size d5,fun k h1 h2 h3 h4=>(d6 k h1 h3).trans (k16.block k (by omega) h2)⟩⟩
               ·go_wp2
                first
                 | go_end0
                 | refine bodyPost_ret (results_none rfl _ _ _) rfl ?_
                obtain ⟨d1,d2,d3,d4,d5,d6⟩:=HD.out _ (Or.inr rfl)
                obtain rfl : Rs.ok { m with ns:=ns,ms:=m.ms ++ [(mk0 45 x3 [x6,x7,x8])] } a8=res:=by rw [← HR.out,memberM];simp [Rs.bind,mtT,endM,methodM,fieldM_eq,and_true,and_false,q1n,hA,h3,q4,h6,h7,h8]
                have rZ:=r16.keep d5 (d6 _ (by omega) (by omega)) (fun q=>d6 _ (by have:=hb q;omega) (by have:=hb q;omega))
                exact ⟨rfl,rZ,⟨_,_,⟨d1,by rw [upd_other _ _ _ _ (by decide)];exact hm.fs,by rw [upd_other _ _ _ _ (by decide)];exact hm.cs,by rw [upd_same,List.map_append,hm.ms];rfl⟩⟩,kb1.trans ⟨d2.trans k16.os,d3.trans k16.tape,d4.trans k16.output,Nat.le_trans k16.size d5,fun k h1 h2 h3 h4=>(d6 k h1 h3).trans (k16.block k (by omega) h2)⟩⟩
          ·go_simp
           refine hK.out _ _ (HMB.out _ (k7.alloc _)) ?_
           clear hK K
           refine U_ready (rs:=[18]) (by kernel_rfl) (by simp) ?_
           refine AllU.cons rfl (by decide) (fun K hK=>?_) AllU.nil
           ·go_simp
            go_at_call 79
            refine (block_any (k:=24) (rs:=#[.pointer (some ⟨P.R,0,none⟩)]) (caps:=#[]) eg_stmt (stmtM L) _ _ (r7.bel (B0.alloc le0 _)) (fun b x c hx=>stmtM_ge L b _ _ hx) (fun W b hb r=>stmt_m hs r)).mono ?_
            rintro e W18 A18
            cases h18 : blockG L (stmtM L) a7 with
            | bad p er =>
             rw [h18] at A18
             obtain ⟨rfl,b18⟩:=A18
             obtain rfl : Rs.bad p er=res:=by rw [← HR.out,memberM];simp [Rs.bind,mtT,endM,methodM,fieldM_eq,and_true,and_false,q1n,hA,h3,q4,h6,h7,h18]
             exact ⟨rfl,rfl,kb1.trans (KeptB.of ((k7.alloc _).trans b18) hB1)⟩
            | ok x18 a18 =>
             rw [h18] at A18
             obtain ⟨ad18,c18,rfl,l18',r18,b18⟩:=A18
             have y18:=r18.le
             have k18:=(k7.alloc (Obj.cells #[.int .i64 0,.string ⟨#[]⟩,.int .i64 0,.slice none 0 0] 24)).trans b18
             have z18:=k18.size
             have l18:=l18'.mono (T:=fun b=>W1.heap.size ≤ b) (fun b hb=>by have:=(k7.alloc (Obj.cells #[.int .i64 0,.string ⟨#[]⟩,.int .i64 0,.slice none 0 0] 24)).size;omega)
             refine hK.out _ _ (HMB.out _ k18) ?_
             clear hK K
             refine U_ready (rs:=[19]) (by kernel_rfl) (by simp) ?_
             refine AllU.cons rfl (by decide) (fun K hK=>?_) AllU.nil
             ·go_simp
              refine hK.out _ _ (HMB.out _ (k18.alloc _)) ?_
              clear hK K
              refine U_ready (rs:=[20]) (by kernel_rfl) (by simp) ?_
              refine AllU.cons rfl (by decide) (fun K hK=>?_) AllU.nil
              ·have j19 : (W18.alloc (Obj.cells #[.int .i64 x6.k,.string x6.t,.int .i64 x6.n,.slice ad6 x6.ks.length c6,.int .i64 x7.k,.string x7.t,.int .i64 x7.n,.slice ad7 x7.ks.length c7,.int .i64 x18.k,.string x18.t,.int .i64 x18.n,.slice ad18 x18.ks.length c18] 24)).heap[W18.heap.size]?=some (.cells #[.int .i64 x6.k,.string x6.t,.int .i64 x6.n,.slice ad6 x6.ks.length c6,.int .i64 x7.k,.string x7.t,.int .i64 x7.n,.slice ad7 x7.ks.length c7,.int .i64 x18.k,.string x18.t,.int .i64 x18.n,.slice ad18 x18.ks.length c18] 24 (0,0)):=((KeptR.refl P.R _).block (W18.heap.size) (by simp) (by have:=k18.size;omega)).trans (hnew (w:=W18) _ (by simp))
               have l19 : LAt (W18.alloc (Obj.cells #[.int .i64 x6.k,.string x6.t,.int .i64 x6.n,.slice ad6 x6.ks.length c6,.int .i64 x7.k,.string x7.t,.int .i64 x7.n,.slice ad7 x7.ks.length c7,.int .i64 x18.k,.string x18.t,.int .i64 x18.n,.slice ad18 x18.ks.length c18] 24)) (fun b=>W1.heap.size ≤ b) (.slice (some ⟨W18.heap.size,0,none⟩) 3 3) [x6,x7,x18]:=LAt.n3 j19 (by have:=k18.size;show _ ≤ _;omega) (l6.keepR (((((KeptR.refl P.R W6).trans b7).alloc _).trans b18).alloc _) (by omega)) (l7.keepR ((((KeptR.refl P.R W7).alloc _).trans b18).alloc _) (by omega)) (l18.keepR ((KeptR.refl P.R W18).alloc _) (by omega))
               go_simp
               go_at_call 42
               refine (node_any 45 x3 (some ⟨W18.heap.size,0,none⟩) 3 3 _).mono ?_
               rintro e W20 ⟨rfl,b20'⟩
               have r20:=(r18.bel (B0.alloc le0 _)).bel b20'
               have b20:=KeptR.of (b:=P.R) b20'
               have k20:=(k18.alloc (Obj.cells #[.int .i64 x6.k,.string x6.t,.int .i64 x6.n,.slice ad6 x6.ks.length c6,.int .i64 x7.k,.string x7.t,.int .i64 x7.n,.slice ad7 x7.ks.length c7,.int .i64 x18.k,.string x18.t,.int .i64 x18.n,.slice ad18 x18.ks.length c18] 24)).trans b20
               have z20:=k20.size
               refine hK.out _ _ (HMB.out _ k20) ?_
               clear hK K
               refine U_end (by kernel_rfl) ?_
               refine wpAny_ready (rs:=[23]) (by kernel_rfl) (by simp) ?_
               refine AllReady.cons rfl (fun K hK=>?_) AllReady.nil
               have hz : W20.heap[W7.heap.size]?=_:=(((((KeptR.refl P.R _).trans b18).alloc _).trans b20).block (W7.heap.size) (by simp) (by have:=k7.size;omega)).trans (hnew (w:=W7) _ (by simp))
               have hMW:=hMR.keepR k20 hRB hRM hRN
               have hoW:=hMW.own 2 (by omega)
               rw [e0] at hoW
               have sW:=k20.size
               refine step_append_lies _ (by rfl) _ _ _ (by rfl) B 24 i0 _ 4 56 Tryz.underlying22 hi0 hz0 hz1 hz2 rfl (by omega) _ (F 2).length (rowN (F 2)) (by rfl) hoW ⟨W7.heap.size,0,none⟩ 1 1 [Value.int IntKind.i64 0,Value.string ⟨#[]⟩,Value.int IntKind.i64 0,Value.slice none 0 0] (by rfl) (by rfl) (World.news_of_block (cs:=#[Value.int IntKind.i64 0,Value.string ⟨#[]⟩,Value.int IntKind.i64 0,Value.slice none 0 0]) (t:=24) (fr:=(0,0)) hz) (by simp [Value.oneCell']) (by omega) (by unfold maxLen;omega) (by omega) (by omega) _ rfl ?_
               intro gg cap WA hownA growA hatA hltA
               refine hK _ _ ?_
               clear hK K
               have hggB : B ≤ gg:=by rcases hatA with e | e;exact (row_lt hoW gg e).1;omega
               have hgM : gg ≠ MB:=by omega
               have hMg : MB ≠ gg:=by omega
               obtain ⟨⟨_,_,_,_⟩,_,_,_,_⟩:=own_last hownA
               have vA:=(growA.block MB (by omega) (fun e=>by have:=(row_lt hoW MB e.symm).1;omega)).trans (HMB.out _ k20)
               obtain ⟨⟨_,_,_,_⟩,_,_,_,_⟩:=t4 vA
               have hix : ((F 2).length : Int) < (((F 2).length+1 : Nat) : Int):=by omega
               have lx : LAt W20 (fun b=>W1.heap.size ≤ b∧B ≤ b) (Value.slice (some ⟨W18.heap.size,0,none⟩) 3 3) (mk0 45 x3 [x6,x7,x18]).ks:=((l19.keepR ((KeptR.refl P.R _).trans b20) (by omega))).mono (fun b hb=>⟨hb,by omega⟩)
               have hD:=fun W4 hW4=>mem_done (i:=2) (x:=(mk0 45 x3 [x6,x7,x18])) (W4:=W4) hMW (by omega) hN lx (by rw [e0];exact growA) (by rw [e0];exact hatA) hownA hW4
               have HD : Hid _:=hD
               clear hD
               refine wpAny_take (i:=24) (v:=(.pointer (some ⟨gg,(F 2).length * 4,none⟩))) rfl (by kernel_rfl) (by kernel_rfl) (by kernel_rfl) (fun _ _ _ h=>h) (Or.inl ⟨by rfl,fun w=>by go_simp;intro hh;omega⟩) ?_
               refine tk 26 (.pointer (some ⟨MB,0,none⟩)) ?_
               refine tk 27 (.pointer (some ⟨MB,2,none⟩)) ?_
               refine wpAny_two (i:=25) (j:=28) (is:=[28]) (js:=[25]) (os:=[_]) (us:=[_]) (by kernel_rfl) rfl rfl (by kernel_rfl) (by kernel_rfl) rfl rfl (by decide) (by decide) ?_ ?_
               ·go_wp2
                first
                 | go_end0
                 | refine bodyPost_ret (results_none rfl _ _ _) rfl ?_
                obtain ⟨d1,d2,d3,d4,d5,d6⟩:=HD.out _ (Or.inl rfl)
                obtain rfl : Rs.ok { m with ns:=ns,ms:=m.ms ++ [(mk0 45 x3 [x6,x7,x18])] } a18=res:=by rw [← HR.out,memberM];simp [Rs.bind,mtT,endM,methodM,fieldM_eq,and_true,and_false,q1n,hA,h3,q4,h6,h7,h18]
                have rZ:=r20.keep d5 (d6 _ (by omega) (by omega)) (fun q=>d6 _ (by have:=hb q;omega) (by have:=hb q;omega))
                exact ⟨rfl,rZ,⟨_,_,⟨d1,by rw [upd_other _ _ _ _ (by decide)];exact hm.fs,by rw [upd_other _ _ _ _ (by decide)];exact hm.cs,by rw [upd_same,List.map_append,hm.ms];rfl⟩⟩,kb1.trans ⟨d2.trans k20.os,d3.trans k20.tape,d4.trans k20.output,Nat.le_trans k20.size d5,fun k h1 h2 h3 h4=>(d6 k h1 h3).trans (k20.block k (by omega) h2)⟩⟩
               ·go_wp2
                first
                 | go_end0
                 | refine bodyPost_ret (results_none rfl _ _ _) rfl ?_
                obtain ⟨d1,d2,d3,d4,d5,d6⟩:=HD.out _ (Or.inr rfl)
                obtain rfl : Rs.ok { m with ns:=ns,ms:=m.ms ++ [(mk0 45 x3 [x6,x7,x18])] } a18=res:=by rw [← HR.out,memberM];simp [Rs.bind,mtT,endM,methodM,fieldM_eq,and_true,and_false,q1n,hA,h3,q4,h6,h7,h18]
                have rZ:=r20.keep d5 (d6 _ (by omega) (by omega)) (fun q=>d6 _ (by have:=hb q;omega) (by have:=hb q;omega))
                exact ⟨rfl,rZ,⟨_,_,⟨d1,by rw [upd_other _ _ _ _ (by decide)];exact hm.fs,by rw [upd_other _ _ _ _ (by decide)];exact hm.cs,by rw [upd_same,List.map_append,hm.ms];rfl⟩⟩,kb1.trans ⟨d2.trans k20.os,d3.trans k20.tape,d4.trans k20.output,Nat.le_trans k20.size d5,fun k h1 h2 h3 h4=>(d6 k h1 h3).trans (k20.block k (by omega) h2)⟩⟩
        ·go_simp
         refine hK.out _ _ (HMB.out _ (k6.alloc _)) ?_
         clear hK K
         refine U_ready (rs:=[12]) (by kernel_rfl) (by simp) ?_
         refine AllU.cons rfl (by decide) (fun K hK=>?_) AllU.nil
         ·go_simp
          go_at_call 78
          refine (to_m hs (r6.bel (B0.alloc le0 _))).mono ?_
          rintro e W22 A22
          cases h22 : toM L a6 with
          | bad p er =>
           rw [h22] at A22
           obtain ⟨rfl,b22⟩:=A22
           obtain rfl : Rs.bad p er=res:=by rw [← HR.out,memberM];simp [Rs.bind,mtT,endM,methodM,fieldM_eq,and_true,and_false,q1n,hA,h3,q4,h6,h22]
           exact ⟨rfl,rfl,kb1.trans (KeptB.of ((k6.alloc _).trans b22) hB1)⟩
          | ok x22 a22 =>
           rw [h22] at A22
           obtain ⟨ad22,c22,rfl,l22',r22,b22⟩:=A22
           have y22:=r22.le
           have k22:=(k6.alloc (Obj.cells #[.int .i64 0,.string ⟨#[]⟩,.int .i64 0,.slice none 0 0] 24)).trans b22
           have z22:=k22.size
           have l22:=l22'.mono (T:=fun b=>W1.heap.size ≤ b) (fun b hb=>by have:=(k6.alloc (Obj.cells #[.int .i64 0,.string ⟨#[]⟩,.int .i64 0,.slice none 0 0] 24)).size;omega)
           refine hK.out _ _ (HMB.out _ k22) ?_
           clear hK K
           refine U_ready (rs:=[18]) (by kernel_rfl) (by simp) ?_
           refine AllU.cons rfl (by decide) (fun K hK=>?_) AllU.nil
           ·go_simp
            go_at_call 79
            refine (block_any (k:=24) (rs:=#[.pointer (some ⟨P.R,0,none⟩)]) (caps:=#[]) eg_stmt (stmtM L) _ _ r22 (fun b x c hx=>stmtM_ge L b _ _ hx) (fun W b hb r=>stmt_m hs r)).mono ?_
            rintro e W23 A23
            cases h23 : blockG L (stmtM L) a22 with
            | bad p er =>
             rw [h23] at A23
             obtain ⟨rfl,b23⟩:=A23
             obtain rfl : Rs.bad p er=res:=by rw [← HR.out,memberM];simp [Rs.bind,mtT,endM,methodM,fieldM_eq,and_true,and_false,q1n,hA,h3,q4,h6,h22,h23]
             exact ⟨rfl,rfl,kb1.trans (KeptB.of (k22.trans b23) hB1)⟩
            | ok x23 a23 =>
             rw [h23] at A23
             obtain ⟨ad23,c23,rfl,l23',r23,b23⟩:=A23
             have y23:=r23.le
             have k23:=k22.trans b23
             have z23:=k23.size
             have l23:=l23'.mono (T:=fun b=>W1.heap.size ≤ b) (fun b hb=>by have:=k22.size;omega)
             refine hK.out _ _ (HMB.out _ k23) ?_
             clear hK K
             refine U_ready (rs:=[19]) (by kernel_rfl) (by simp) ?_
             refine AllU.cons rfl (by decide) (fun K hK=>?_) AllU.nil
             ·go_simp
              refine hK.out _ _ (HMB.out _ (k23.alloc _)) ?_
              clear hK K
              refine U_ready (rs:=[20]) (by kernel_rfl) (by simp) ?_
              refine AllU.cons rfl (by decide) (fun K hK=>?_) AllU.nil
              ·have j24 : (W23.alloc (Obj.cells #[.int .i64 x6.k,.string x6.t,.int .i64 x6.n,.slice ad6 x6.ks.length c6,.int .i64 x22.k,.string x22.t,.int .i64 x22.n,.slice ad22 x22.ks.length c22,.int .i64 x23.k,.string x23.t,.int .i64 x23.n,.slice ad23 x23.ks.length c23] 24)).heap[W23.heap.size]?=some (.cells #[.int .i64 x6.k,.string x6.t,.int .i64 x6.n,.slice ad6 x6.ks.length c6,.int .i64 x22.k,.string x22.t,.int .i64 x22.n,.slice ad22 x22.ks.length c22,.int .i64 x23.k,.string x23.t,.int .i64 x23.n,.slice ad23 x23.ks.length c23] 24 (0,0)):=((KeptR.refl P.R _).block (W23.heap.size) (by simp) (by have:=k23.size;omega)).trans (hnew (w:=W23) _ (by simp))
               have l24 : LAt (W23.alloc (Obj.cells #[.int .i64 x6.k,.string x6.t,.int .i64 x6.n,.slice ad6 x6.ks.length c6,.int .i64 x22.k,.string x22.t,.int .i64 x22.n,.slice ad22 x22.ks.length c22,.int .i64 x23.k,.string x23.t,.int .i64 x23.n,.slice ad23 x23.ks.length c23] 24)) (fun b=>W1.heap.size ≤ b) (.slice (some ⟨W23.heap.size,0,none⟩) 3 3) [x6,x22,x23]:=LAt.n3 j24 (by have:=k23.size;show _ ≤ _;omega) (l6.keepR (((((KeptR.refl P.R W6).alloc _).trans b22).trans b23).alloc _) (by omega)) (l22.keepR (((KeptR.refl P.R W22).trans b23).alloc _) (by omega)) (l23.keepR ((KeptR.refl P.R W23).alloc _) (by omega))
               go_simp
               go_at_call 42
               refine (node_any 45 x3 (some ⟨W23.heap.size,0,none⟩) 3 3 _).mono ?_
               rintro e W25 ⟨rfl,b25'⟩
               have r25:=(r23.bel (B0.alloc le0 _)).bel b25'
               have b25:=KeptR.of (b:=P.R) b25'
               have k25:=(k23.alloc (Obj.cells #[.int .i64 x6.k,.string x6.t,.int .i64 x6.n,.slice ad6 x6.ks.length c6,.int .i64 x22.k,.string x22.t,.int .i64 x22.n,.slice ad22 x22.ks.length c22,.int .i64 x23.k,.string x23.t,.int .i64 x23.n,.slice ad23 x23.ks.length c23] 24)).trans b25
               have z25:=k25.size
               refine hK.out _ _ (HMB.out _ k25) ?_
               clear hK K
               refine U_end (by kernel_rfl) ?_
               refine wpAny_ready (rs:=[23]) (by kernel_rfl) (by simp) ?_
               refine AllReady.cons rfl (fun K hK=>?_) AllReady.nil
               have hz : W25.heap[W6.heap.size]?=_:=((((((KeptR.refl P.R _).trans b22).trans b23).alloc _).trans b25).block (W6.heap.size) (by simp) (by have:=k6.size;omega)).trans (hnew (w:=W6) _ (by simp))
               have hMW:=hMR.keepR k25 hRB hRM hRN
               have hoW:=hMW.own 2 (by omega)
               rw [e0] at hoW
               have sW:=k25.size
               refine step_append_lies _ (by rfl) _ _ _ (by rfl) B 24 i0 _ 4 56 Tryz.underlying22 hi0 hz0 hz1 hz2 rfl (by omega) _ (F 2).length (rowN (F 2)) (by rfl) hoW ⟨W6.heap.size,0,none⟩ 1 1 [Value.int IntKind.i64 0,Value.string ⟨#[]⟩,Value.int IntKind.i64 0,Value.slice none 0 0] (by rfl) (by rfl) (World.news_of_block (cs:=#[Value.int IntKind.i64 0,Value.string ⟨#[]⟩,Value.int IntKind.i64 0,Value.slice none 0 0]) (t:=24) (fr:=(0,0)) hz) (by simp [Value.oneCell']) (by omega) (by unfold maxLen;omega) (by omega) (by omega) _ rfl ?_
               intro gg cap WA hownA growA hatA hltA
               refine hK _ _ ?_
               clear hK K
               have hggB : B ≤ gg:=by rcases hatA with e | e;exact (row_lt hoW gg e).1;omega
               have hgM : gg ≠ MB:=by omega
               have hMg : MB ≠ gg:=by omega
               obtain ⟨⟨_,_,_,_⟩,_,_,_,_⟩:=own_last hownA
               have vA:=(growA.block MB (by omega) (fun e=>by have:=(row_lt hoW MB e.symm).1;omega)).trans (HMB.out _ k25)
               obtain ⟨⟨_,_,_,_⟩,_,_,_,_⟩:=t4 vA
               have hix : ((F 2).length : Int) < (((F 2).length+1 : Nat) : Int):=by omega
               have lx : LAt W25 (fun b=>W1.heap.size ≤ b∧B ≤ b) (Value.slice (some ⟨W23.heap.size,0,none⟩) 3 3) (mk0 45 x3 [x6,x22,x23]).ks:=((l24.keepR ((KeptR.refl P.R _).trans b25) (by omega))).mono (fun b hb=>⟨hb,by omega⟩)
               have hD:=fun W4 hW4=>mem_done (i:=2) (x:=(mk0 45 x3 [x6,x22,x23])) (W4:=W4) hMW (by omega) hN lx (by rw [e0];exact growA) (by rw [e0];exact hatA) hownA hW4
               have HD : Hid _:=hD
               clear hD
               refine wpAny_take (i:=24) (v:=(.pointer (some ⟨gg,(F 2).length * 4,none⟩))) rfl (by kernel_rfl) (by kernel_rfl) (by kernel_rfl) (fun _ _ _ h=>h) (Or.inl ⟨by rfl,fun w=>by go_simp;intro hh;omega⟩) ?_
               refine tk 26 (.pointer (some ⟨MB,0,none⟩)) ?_
               refine tk 27 (.pointer (some ⟨MB,2,none⟩)) ?_
               refine wpAny_two (i:=25) (j:=28) (is:=[28]) (js:=[25]) (os:=[_]) (us:=[_]) (by kernel_rfl) rfl rfl (by kernel_rfl) (by kernel_rfl) rfl rfl (by decide) (by decide) ?_ ?_
               ·go_wp2
                first
                 | go_end0
                 | refine bodyPost_ret (results_none rfl _ _ _) rfl ?_
                obtain ⟨d1,d2,d3,d4,d5,d6⟩:=HD.out _ (Or.inl rfl)
                obtain rfl : Rs.ok { m with ns:=ns,ms:=m.ms ++ [(mk0 45 x3 [x6,x22,x23])] } a23=res:=by rw [← HR.out,memberM];simp [Rs.bind,mtT,endM,methodM,fieldM_eq,and_true,and_false,q1n,hA,h3,q4,h6,h22,h23]
                have rZ:=r25.keep d5 (d6 _ (by omega) (by omega)) (fun q=>d6 _ (by have:=hb q;omega) (by have:=hb q;omega))
                exact ⟨rfl,rZ,⟨_,_,⟨d1,by rw [upd_other _ _ _ _ (by decide)];exact hm.fs,by rw [upd_other _ _ _ _ (by decide)];exact hm.cs,by rw [upd_same,List.map_append,hm.ms];rfl⟩⟩,kb1.trans ⟨d2.trans k25.os,d3.trans k25.tape,d4.trans k25.output,Nat.le_trans k25.size d5,fun k h1 h2 h3 h4=>(d6 k h1 h3).trans (k25.block k (by omega) h2)⟩⟩
               ·go_wp2
                first
                 | go_end0
                 | refine bodyPost_ret (results_none rfl _ _ _) rfl ?_
                obtain ⟨d1,d2,d3,d4,d5,d6⟩:=HD.out _ (Or.inr rfl)
                obtain rfl : Rs.ok { m with ns:=ns,ms:=m.ms ++ [(mk0 45 x3 [x6,x22,x23])] } a23=res:=by rw [← HR.out,memberM];simp [Rs.bind,mtT,endM,methodM,fieldM_eq,and_true,and_false,q1n,hA,h3,q4,h6,h22,h23]
                have rZ:=r25.keep d5 (d6 _ (by omega) (by omega)) (fun q=>d6 _ (by have:=hb q;omega) (by have:=hb q;omega))
                exact ⟨rfl,rZ,⟨_,_,⟨d1,by rw [upd_other _ _ _ _ (by decide)];exact hm.fs,by rw [upd_other _ _ _ _ (by decide)];exact hm.cs,by rw [upd_same,List.map_append,hm.ms];rfl⟩⟩,kb1.trans ⟨d2.trans k25.os,d3.trans k25.tape,d4.trans k25.output,Nat.le_trans k25.size d5,fun k h1 h2 h3 h4=>(d6 k h1 h3).trans (k25.block k (by omega) h2)⟩⟩
      ·go_simp
       refine hK.out _ _ (HMB.out _ ((k4.trans (.of (B0.drew))).alloc _)) ?_
       clear hK K
       refine U_ready (rs:=[10]) (by kernel_rfl) (by simp) ?_
       refine AllU.cons rfl (by decide) (fun K hK=>?_) AllU.nil
       ·go_simp
        go_at_call 77
        refine (params_any (k:=78) (rs:=#[.pointer (some ⟨P.R,0,none⟩)]) (caps:=#[]) eg_typeOrNoneM (toM L) _ _ ((r4.bel (B0.drew)).bel (B0.alloc le0 _)) hs (fun b x c hx=>toM_ge L b _ _ hx) (fun W b hb r=>to_m hs r)).mono ?_
        rintro e W27 A27
        cases h27 : paramsG L (toM L) a3 with
        | bad p er =>
         rw [h27] at A27
         obtain ⟨rfl,b27⟩:=A27
         obtain rfl : Rs.bad p er=res:=by rw [← HR.out,memberM];simp [Rs.bind,mtT,endM,methodM,fieldM_eq,and_true,and_false,q1n,hA,h3,q4,h27]
         exact ⟨rfl,rfl,kb1.trans (KeptB.of (((k4.trans (.of (B0.drew))).alloc _).trans b27) hB1)⟩
        | ok x27 a27 =>
         rw [h27] at A27
         obtain ⟨ad27,c27,rfl,l27',r27,b27⟩:=A27
         have y27:=r27.le
         have k27:=((k4.trans (.of (B0.drew))).alloc (Obj.cells #[.int .i64 0,.string ⟨#[]⟩,.int .i64 0,.slice none 0 0] 24)).trans b27
         have z27:=k27.size
         have l27:=l27'.mono (T:=fun b=>W1.heap.size ≤ b) (fun b hb=>by have:=((k4.trans (.of (B0.drew))).alloc (Obj.cells #[.int .i64 0,.string ⟨#[]⟩,.int .i64 0,.slice none 0 0] 24)).size;omega)
         refine hK.out _ _ (HMB.out _ k27) ?_
         clear hK K
         refine U_ready (rs:=[12]) (by kernel_rfl) (by simp) ?_
         refine AllU.cons rfl (by decide) (fun K hK=>?_) AllU.nil
         ·go_simp
          go_at_call 78
          refine (to_m hs r27).mono ?_
          rintro e W28 A28
          cases h28 : toM L a27 with
          | bad p er =>
           rw [h28] at A28
           obtain ⟨rfl,b28⟩:=A28
           obtain rfl : Rs.bad p er=res:=by rw [← HR.out,memberM];simp [Rs.bind,mtT,endM,methodM,fieldM_eq,and_true,and_false,q1n,hA,h3,q4,h27,h28]
           exact ⟨rfl,rfl,kb1.trans (KeptB.of (k27.trans b28) hB1)⟩
          | ok x28 a28 =>
           rw [h28] at A28
           obtain ⟨ad28,c28,rfl,l28',r28,b28⟩:=A28
           have y28:=r28.le
           have k28:=k27.trans b28
           have z28:=k28.size
           have l28:=l28'.mono (T:=fun b=>W1.heap.size ≤ b) (fun b hb=>by have:=k27.size;omega)
           refine hK.out _ _ (HMB.out _ k28) ?_
           clear hK K
           refine U_ready (rs:=[18]) (by kernel_rfl) (by simp) ?_
           refine AllU.cons rfl (by decide) (fun K hK=>?_) AllU.nil
           ·go_simp
            go_at_call 79
            refine (block_any (k:=24) (rs:=#[.pointer (some ⟨P.R,0,none⟩)]) (caps:=#[]) eg_stmt (stmtM L) _ _ r28 (fun b x c hx=>stmtM_ge L b _ _ hx) (fun W b hb r=>stmt_m hs r)).mono ?_
            rintro e W29 A29
            cases h29 : blockG L (stmtM L) a28 with
            | bad p er =>
             rw [h29] at A29
             obtain ⟨rfl,b29⟩:=A29
             obtain rfl : Rs.bad p er=res:=by rw [← HR.out,memberM];simp [Rs.bind,mtT,endM,methodM,fieldM_eq,and_true,and_false,q1n,hA,h3,q4,h27,h28,h29]
             exact ⟨rfl,rfl,kb1.trans (KeptB.of (k28.trans b29) hB1)⟩
            | ok x29 a29 =>
             rw [h29] at A29
             obtain ⟨ad29,c29,rfl,l29',r29,b29⟩:=A29
             have y29:=r29.le
             have k29:=k28.trans b29
             have z29:=k29.size
             have l29:=l29'.mono (T:=fun b=>W1.heap.size ≤ b) (fun b hb=>by have:=k28.size;omega)
             refine hK.out _ _ (HMB.out _ k29) ?_
             clear hK K
             refine U_ready (rs:=[19]) (by kernel_rfl) (by simp) ?_
             refine AllU.cons rfl (by decide) (fun K hK=>?_) AllU.nil
             ·go_simp
              refine hK.out _ _ (HMB.out _ (k29.alloc _)) ?_
              clear hK K
              refine U_ready (rs:=[20]) (by kernel_rfl) (by simp) ?_
              refine AllU.cons rfl (by decide) (fun K hK=>?_) AllU.nil
              ·have j30 : (W29.alloc (Obj.cells #[.int .i64 x27.k,.string x27.t,.int .i64 x27.n,.slice ad27 x27.ks.length c27,.int .i64 x28.k,.string x28.t,.int .i64 x28.n,.slice ad28 x28.ks.length c28,.int .i64 x29.k,.string x29.t,.int .i64 x29.n,.slice ad29 x29.ks.length c29] 24)).heap[W29.heap.size]?=some (.cells #[.int .i64 x27.k,.string x27.t,.int .i64 x27.n,.slice ad27 x27.ks.length c27,.int .i64 x28.k,.string x28.t,.int .i64 x28.n,.slice ad28 x28.ks.length c28,.int .i64 x29.k,.string x29.t,.int .i64 x29.n,.slice ad29 x29.ks.length c29] 24 (0,0)):=((KeptR.refl P.R _).block (W29.heap.size) (by simp) (by have:=k29.size;omega)).trans (hnew (w:=W29) _ (by simp))
               have l30 : LAt (W29.alloc (Obj.cells #[.int .i64 x27.k,.string x27.t,.int .i64 x27.n,.slice ad27 x27.ks.length c27,.int .i64 x28.k,.string x28.t,.int .i64 x28.n,.slice ad28 x28.ks.length c28,.int .i64 x29.k,.string x29.t,.int .i64 x29.n,.slice ad29 x29.ks.length c29] 24)) (fun b=>W1.heap.size ≤ b) (.slice (some ⟨W29.heap.size,0,none⟩) 3 3) [x27,x28,x29]:=LAt.n3 j30 (by have:=k29.size;show _ ≤ _;omega) (l27.keepR ((((KeptR.refl P.R W27).trans b28).trans b29).alloc _) (by omega)) (l28.keepR (((KeptR.refl P.R W28).trans b29).alloc _) (by omega)) (l29.keepR ((KeptR.refl P.R W29).alloc _) (by omega))
               go_simp
               go_at_call 42
               refine (node_any 45 x3 (some ⟨W29.heap.size,0,none⟩) 3 3 _).mono ?_
               rintro e W31 ⟨rfl,b31'⟩
               have r31:=(r29.bel (B0.alloc le0 _)).bel b31'
               have b31:=KeptR.of (b:=P.R) b31'
               have k31:=(k29.alloc (Obj.cells #[.int .i64 x27.k,.string x27.t,.int .i64 x27.n,.slice ad27 x27.ks.length c27,.int .i64 x28.k,.string x28.t,.int .i64 x28.n,.slice ad28 x28.ks.length c28,.int .i64 x29.k,.string x29.t,.int .i64 x29.n,.slice ad29 x29.ks.length c29] 24)).trans b31
               have z31:=k31.size
               refine hK.out _ _ (HMB.out _ k31) ?_
               clear hK K
               refine U_end (by kernel_rfl) ?_
               refine wpAny_ready (rs:=[23]) (by kernel_rfl) (by simp) ?_
               refine AllReady.cons rfl (fun K hK=>?_) AllReady.nil
               have hz : W31.heap[W4.drew.heap.size]?=_:=(((((((KeptR.refl P.R _).trans b27).trans b28).trans b29).alloc _).trans b31).block (W4.drew.heap.size) (by simp) (by have:=(k4.trans (.of (B0.drew))).size;omega)).trans (hnew (w:=W4.drew) _ (by simp))
               have hMW:=hMR.keepR k31 hRB hRM hRN
               have hoW:=hMW.own 2 (by omega)
               rw [e0] at hoW
               have sW:=k31.size
               refine step_append_lies _ (by rfl) _ _ _ (by rfl) B 24 i0 _ 4 56 Tryz.underlying22 hi0 hz0 hz1 hz2 rfl (by omega) _ (F 2).length (rowN (F 2)) (by rfl) hoW ⟨W4.drew.heap.size,0,none⟩ 1 1 [Value.int IntKind.i64 0,Value.string ⟨#[]⟩,Value.int IntKind.i64 0,Value.slice none 0 0] (by rfl) (by rfl) (World.news_of_block (cs:=#[Value.int IntKind.i64 0,Value.string ⟨#[]⟩,Value.int IntKind.i64 0,Value.slice none 0 0]) (t:=24) (fr:=(0,0)) hz) (by simp [Value.oneCell']) (by omega) (by unfold maxLen;omega) (by omega) (by omega) _ rfl ?_
               intro gg cap WA hownA growA hatA hltA
               refine hK _ _ ?_
               clear hK K
               have hggB : B ≤ gg:=by rcases hatA with e | e;exact (row_lt hoW gg e).1;omega
               have hgM : gg ≠ MB:=by omega
               have hMg : MB ≠ gg:=by omega
               obtain ⟨⟨_,_,_,_⟩,_,_,_,_⟩:=own_last hownA
               have vA:=(growA.block MB (by omega) (fun e=>by have:=(row_lt hoW MB e.symm).1;omega)).trans (HMB.out _ k31)
               obtain ⟨⟨_,_,_,_⟩,_,_,_,_⟩:=t4 vA
               have hix : ((F 2).length : Int) < (((F 2).length+1 : Nat) : Int):=by omega
               have lx : LAt W31 (fun b=>W1.heap.size ≤ b∧B ≤ b) (Value.slice (some ⟨W29.heap.size,0,none⟩) 3 3) (mk0 45 x3 [x27,x28,x29]).ks:=((l30.keepR ((KeptR.refl P.R _).trans b31) (by omega))).mono (fun b hb=>⟨hb,by omega⟩)
               have hD:=fun W4 hW4=>mem_done (i:=2) (x:=(mk0 45 x3 [x27,x28,x29])) (W4:=W4) hMW (by omega) hN lx (by rw [e0];exact growA) (by rw [e0];exact hatA) hownA hW4
               have HD : Hid _:=hD
               clear hD
               refine wpAny_take (i:=24) (v:=(.pointer (some ⟨gg,(F 2).length * 4,none⟩))) rfl (by kernel_rfl) (by kernel_rfl) (by kernel_rfl) (fun _ _ _ h=>h) (Or.inl ⟨by rfl,fun w=>by go_simp;intro hh;omega⟩) ?_
               refine tk 26 (.pointer (some ⟨MB,0,none⟩)) ?_
               refine tk 27 (.pointer (some ⟨MB,2,none⟩)) ?_
               refine wpAny_two (i:=25) (j:=28) (is:=[28]) (js:=[25]) (os:=[_]) (us:=[_]) (by kernel_rfl) rfl rfl (by kernel_rfl) (by kernel_rfl) rfl rfl (by decide) (by decide) ?_ ?_
               ·go_wp2
                first
                 | go_end0
                 | refine bodyPost_ret (results_none rfl _ _ _) rfl ?_
                obtain ⟨d1,d2,d3,d4,d5,d6⟩:=HD.out _ (Or.inl rfl)
                obtain rfl : Rs.ok { m with ns:=ns,ms:=m.ms ++ [(mk0 45 x3 [x27,x28,x29])] } a29=res:=by rw [← HR.out,memberM];simp [Rs.bind,mtT,endM,methodM,fieldM_eq,and_true,and_false,q1n,hA,h3,q4,h27,h28,h29]
                have rZ:=r31.keep d5 (d6 _ (by omega) (by omega)) (fun q=>d6 _ (by have:=hb q;omega) (by have:=hb q;omega))
                exact ⟨rfl,rZ,⟨_,_,⟨d1,by rw [upd_other _ _ _ _ (by decide)];exact hm.fs,by rw [upd_other _ _ _ _ (by decide)];exact hm.cs,by rw [upd_same,List.map_append,hm.ms];rfl⟩⟩,kb1.trans ⟨d2.trans k31.os,d3.trans k31.tape,d4.trans k31.output,Nat.le_trans k31.size d5,fun k h1 h2 h3 h4=>(d6 k h1 h3).trans (k31.block k (by omega) h2)⟩⟩
               ·go_wp2
                first
                 | go_end0
                 | refine bodyPost_ret (results_none rfl _ _ _) rfl ?_
                obtain ⟨d1,d2,d3,d4,d5,d6⟩:=HD.out _ (Or.inr rfl)
                obtain rfl : Rs.ok { m with ns:=ns,ms:=m.ms ++ [(mk0 45 x3 [x27,x28,x29])] } a29=res:=by rw [← HR.out,memberM];simp [Rs.bind,mtT,endM,methodM,fieldM_eq,and_true,and_false,q1n,hA,h3,q4,h27,h28,h29]
                have rZ:=r31.keep d5 (d6 _ (by omega) (by omega)) (fun q=>d6 _ (by have:=hb q;omega) (by have:=hb q;omega))
                exact ⟨rfl,rZ,⟨_,_,⟨d1,by rw [upd_other _ _ _ _ (by decide)];exact hm.fs,by rw [upd_other _ _ _ _ (by decide)];exact hm.cs,by rw [upd_same,List.map_append,hm.ms];rfl⟩⟩,kb1.trans ⟨d2.trans k31.os,d3.trans k31.tape,d4.trans k31.output,Nat.le_trans k31.size d5,fun k h1 h2 h3 h4=>(d6 k h1 h3).trans (k31.block k (by omega) h2)⟩⟩
     | false =>
      have T4:=stands_any r3 sPo
      rw [q4] at T4
      go_wp2_with fail
      go_at_call 51
      refine T4.mono ?_
      rintro e W4 ⟨rfl,b4'⟩
      have r4:=r3.bel b4'
      have b4:=KeptR.of (b:=P.R) b4'
      have k4:=k3.trans b4
      have z4:=k4.size
      have y4:=r4.le
      have blk:=hMR.blk
      have hBW:=hMR.le
      have hltM:=hMR.lt
      obtain ⟨ad0,c0,e0⟩:=own_form (hMR.own 0 (by omega))
      rw [e0] at blk
      have hMB : MB < W1.heap.size:=by omega
      have HMB : Hid (∀ W,KeptR P.R W1 W→W.heap[MB]?=some (.cells #[.slice ad0 (F 0).length c0,v 1,v 2,.map (some MN)] 86 (0,0))):=fun W k=>(k.block MB hMB (by omega)).trans blk
      have hN : ∀ j,j < 3→∀ g,(v j).ownBlock=some g→g < W1.heap.size:=fun j hj g hg=>(row_lt (hMR.own j hj) g hg).2
      have hn:=hnl 0 (by omega)
      go_wp2_with fail
      refine wp_region_U (u:=9) (S:=fun W=>W.heap[MB]?=some (.cells #[.slice ad0 (F 0).length c0,v 1,v 2,.map (some MN)] 86 (0,0))) (by kernel_rfl) ?_
      change wpAnyU _ _ _ _ _ _ _ _ _ (World.drew _)
      have zd32 : W4.drew.heap.size=W4.heap.size:=rfl
      refine U_take (i:=0) (v:=(.pointer (some ⟨MB,0,none⟩))) rfl (by kernel_rfl) (by kernel_rfl) (by kernel_rfl) (by kernel_rfl) (fun _ _ _ h=>h) (Or.inl ⟨by rfl,fun w _=>by go_simp⟩) (HMB.out _ (k4.trans (.of (B0.drew)))) ?_
      refine U_take (i:=1) (v:=(.pointer (some ⟨MB,0,none⟩))) rfl (by kernel_rfl) (by kernel_rfl) (by kernel_rfl) (by kernel_rfl) (fun _ _ _ h=>h) (Or.inl ⟨by rfl,fun w _=>by go_simp⟩) (HMB.out _ (k4.trans (.of (B0.drew)))) ?_
      refine U_take (i:=2) (v:=(.pointer (some ⟨MB,0,none⟩))) rfl (by kernel_rfl) (by kernel_rfl) (by kernel_rfl) (by kernel_rfl) (fun _ _ _ h=>h) (Or.inl ⟨by rfl,fun w _=>by go_simp⟩) (HMB.out _ (k4.trans (.of (B0.drew)))) ?_
      refine U_take (i:=3) (v:=(Value.slice ad0 (F 0).length c0)) rfl (by kernel_rfl) (by kernel_rfl) (by kernel_rfl) (by kernel_rfl) (fun _ _ _ h=>h) (Or.inl ⟨by rfl,fun w hw=>by have hcw:=cell_of_row w MB 0 _ _ _ hw;simp at hcw;go_simp⟩) (HMB.out _ (k4.trans (.of (B0.drew)))) ?_
      refine U_take (i:=4) (v:=(.pointer (some ⟨P.R,0,none⟩))) rfl (by kernel_rfl) (by kernel_rfl) (by kernel_rfl) (by kernel_rfl) (fun _ _ _ h=>h) (Or.inl ⟨by rfl,fun w _=>by go_simp⟩) (HMB.out _ (k4.trans (.of (B0.drew)))) ?_
      refine U_take (i:=5) (v:=(.string x3)) rfl (by kernel_rfl) (by kernel_rfl) (by kernel_rfl) (by kernel_rfl) (fun _ _ _ h=>h) (Or.inl ⟨by rfl,fun w _=>by go_simp⟩) (HMB.out _ (k4.trans (.of (B0.drew)))) ?_
      refine U_take (i:=7) (v:=(.int .i64 ((F 0).length : Int))) rfl (by kernel_rfl) (by kernel_rfl) (by kernel_rfl) (by kernel_rfl) (fun _ _ _ h=>h) (Or.inl ⟨by rfl,fun w _=>by go_simp⟩) (HMB.out _ (k4.trans (.of (B0.drew)))) ?_
      refine U_ready (rs:=[6,8]) (by kernel_rfl) (by simp) ?_
      refine AllU.cons rfl (by decide) (fun K hK=>?_) (AllU.cons rfl (by decide) (fun K hK=>?_) AllU.nil)
      ·go_simp
       go_at_call 80
       refine (field_m hs (r4.bel (B0.drew)) x3).mono ?_
       rintro e W33 A33
       cases h33 : fieldN L x3 a3 with
       | bad p er =>
        rw [h33] at A33
        obtain ⟨rfl,b33⟩:=A33
        obtain rfl : Rs.bad p er=res:=by rw [← HR.out,memberM];simp [Rs.bind,mtT,endM,methodM,fieldM_eq,and_true,and_false,q1n,hA,h3,q4,h33]
        exact ⟨rfl,rfl,kb1.trans (KeptB.of ((k4.trans (.of (B0.drew))).trans b33) hB1)⟩
       | ok x33 a33 =>
        rw [h33] at A33
        obtain ⟨ad33,c33,rfl,l33',r33,b33⟩:=A33
        have y33:=r33.le
        have k33:=(k4.trans (.of (B0.drew))).trans b33
        have z33:=k33.size
        have l33:=l33'.mono (T:=fun b=>W1.heap.size ≤ b) (fun b hb=>by have:=(k4.trans (.of (B0.drew))).size;omega)
        refine hK.out _ _ (HMB.out _ k33) ?_
        clear hK K
        refine U_ready (rs:=[8]) (by kernel_rfl) (by simp) ?_
        refine AllU.cons rfl (by decide) (fun K hK=>?_) AllU.nil
        ·go_simp
         refine hK.out _ _ (HMB.out _ (k33.alloc _)) ?_
         clear hK K
         refine U_end (by kernel_rfl) ?_
         refine wpAny_ready (rs:=[9]) (by kernel_rfl) (by simp) ?_
         refine AllReady.cons rfl (fun K hK=>?_) AllReady.nil
         have hz : (W33.alloc (Obj.cells #[.int .i64 0,.string ⟨#[]⟩,.int .i64 0,.slice none 0 0] 24)).heap[W33.heap.size]?=some (.cells #[.int .i64 0,.string ⟨#[]⟩,.int .i64 0,.slice none 0 0] 24 (0,0)):=((KeptR.refl P.R _).block (W33.heap.size) (by simp) (by have:=k33.size;omega)).trans (hnew (w:=W33) _ (by simp))
         have hMW:=hMR.keepR (k33.alloc (Obj.cells #[.int .i64 0,.string ⟨#[]⟩,.int .i64 0,.slice none 0 0] 24)) hRB hRM hRN
         have hoW:=hMW.own 0 (by omega)
         rw [e0] at hoW
         have sW:=(k33.alloc (Obj.cells #[.int .i64 0,.string ⟨#[]⟩,.int .i64 0,.slice none 0 0] 24)).size
         refine step_append_lies _ (by rfl) _ _ _ (by rfl) B 24 i0 _ 4 56 Tryz.underlying22 hi0 hz0 hz1 hz2 rfl (by omega) _ (F 0).length (rowN (F 0)) (by rfl) hoW ⟨W33.heap.size,0,none⟩ 1 1 [Value.int IntKind.i64 0,Value.string ⟨#[]⟩,Value.int IntKind.i64 0,Value.slice none 0 0] (by rfl) (by rfl) (World.news_of_block (cs:=#[Value.int IntKind.i64 0,Value.string ⟨#[]⟩,Value.int IntKind.i64 0,Value.slice none 0 0]) (t:=24) (fr:=(0,0)) hz) (by simp [Value.oneCell']) (by omega) (by unfold maxLen;omega) (by omega) (by omega) _ rfl ?_
         intro gg cap WA hownA growA hatA hltA
         refine hK _ _ ?_
         clear hK K
         have hggB : B ≤ gg:=by rcases hatA with e | e;exact (row_lt hoW gg e).1;omega
         have hgM : gg ≠ MB:=by omega
         have hMg : MB ≠ gg:=by omega
         obtain ⟨⟨_,_,_,_⟩,_,_,_,_⟩:=own_last hownA
         have vA:=(growA.block MB (by omega) (fun e=>by have:=(row_lt hoW MB e.symm).1;omega)).trans (HMB.out _ (k33.alloc (Obj.cells #[.int .i64 0,.string ⟨#[]⟩,.int .i64 0,.slice none 0 0] 24)))
         obtain ⟨⟨_,_,_,_⟩,_,_,_,_⟩:=t4 vA
         have hix : ((F 0).length : Int) < (((F 0).length+1 : Nat) : Int):=by omega
         have lx : LAt (W33.alloc (Obj.cells #[.int .i64 0,.string ⟨#[]⟩,.int .i64 0,.slice none 0 0] 24)) (fun b=>W1.heap.size ≤ b∧B ≤ b) (Value.slice ad33 x33.ks.length c33) x33.ks:=((l33.keepR ((KeptR.refl P.R W33).alloc _) (by omega))).mono (fun b hb=>⟨hb,by omega⟩)
         have hD:=fun W4 hW4=>mem_done (i:=0) (x:=x33) (W4:=W4) hMW (by omega) hN lx (by rw [e0];exact growA) (by rw [e0];exact hatA) hownA hW4
         have HD : Hid _:=hD
         clear hD
         refine wpAny_take (i:=10) (v:=(.pointer (some ⟨gg,(F 0).length * 4,none⟩))) rfl (by kernel_rfl) (by kernel_rfl) (by kernel_rfl) (fun _ _ _ h=>h) (Or.inl ⟨by rfl,fun w=>by go_simp;intro hh;omega⟩) ?_
         refine tk 12 (.pointer (some ⟨MB,0,none⟩)) ?_
         refine tk 13 (.pointer (some ⟨MB,0,none⟩)) ?_
         refine wpAny_two (i:=11) (j:=14) (is:=[14]) (js:=[11]) (os:=[_]) (us:=[_]) (by kernel_rfl) rfl rfl (by kernel_rfl) (by kernel_rfl) rfl rfl (by decide) (by decide) ?_ ?_
         ·go_wp2
          first
           | go_end0
           | refine bodyPost_ret (results_none rfl _ _ _) rfl ?_
          obtain ⟨d1,d2,d3,d4,d5,d6⟩:=HD.out _ (Or.inl rfl)
          obtain rfl : Rs.ok { m with ns:=ns,fs:=m.fs ++ [x33] } a33=res:=by rw [← HR.out,memberM];simp [Rs.bind,mtT,endM,methodM,fieldM_eq,and_true,and_false,q1n,hA,h3,q4,h33]
          have rZ:=(r33.bel (B0.alloc le0 (Obj.cells #[.int .i64 0,.string ⟨#[]⟩,.int .i64 0,.slice none 0 0] 24))).keep d5 (d6 _ (by omega) (by omega)) (fun q=>d6 _ (by have:=hb q;omega) (by have:=hb q;omega))
          exact ⟨rfl,rZ,⟨_,_,⟨d1,by rw [upd_same,List.map_append,hm.fs];rfl,by rw [upd_other _ _ _ _ (by decide)];exact hm.cs,by rw [upd_other _ _ _ _ (by decide)];exact hm.ms⟩⟩,kb1.trans ⟨d2.trans (k33.alloc _).os,d3.trans (k33.alloc _).tape,d4.trans (k33.alloc _).output,Nat.le_trans (k33.alloc _).size d5,fun k h1 h2 h3 h4=>(d6 k h1 h3).trans ((k33.alloc _).block k (by omega) h2)⟩⟩
         ·go_wp2
          first
           | go_end0
           | refine bodyPost_ret (results_none rfl _ _ _) rfl ?_
          obtain ⟨d1,d2,d3,d4,d5,d6⟩:=HD.out _ (Or.inr rfl)
          obtain rfl : Rs.ok { m with ns:=ns,fs:=m.fs ++ [x33] } a33=res:=by rw [← HR.out,memberM];simp [Rs.bind,mtT,endM,methodM,fieldM_eq,and_true,and_false,q1n,hA,h3,q4,h33]
          have rZ:=(r33.bel (B0.alloc le0 (Obj.cells #[.int .i64 0,.string ⟨#[]⟩,.int .i64 0,.slice none 0 0] 24))).keep d5 (d6 _ (by omega) (by omega)) (fun q=>d6 _ (by have:=hb q;omega) (by have:=hb q;omega))
          exact ⟨rfl,rZ,⟨_,_,⟨d1,by rw [upd_same,List.map_append,hm.fs];rfl,by rw [upd_other _ _ _ _ (by decide)];exact hm.cs,by rw [upd_other _ _ _ _ (by decide)];exact hm.ms⟩⟩,kb1.trans ⟨d2.trans (k33.alloc _).os,d3.trans (k33.alloc _).tape,d4.trans (k33.alloc _).output,Nat.le_trans (k33.alloc _).size d5,fun k h1 h2 h3 h4=>(d6 k h1 h3).trans ((k33.alloc _).block k (by omega) h2)⟩⟩
      ·go_simp
       refine hK.out _ _ (HMB.out _ ((k4.trans (.of (B0.drew))).alloc _)) ?_
       clear hK K
       refine U_ready (rs:=[6]) (by kernel_rfl) (by simp) ?_
       refine AllU.cons rfl (by decide) (fun K hK=>?_) AllU.nil
       ·go_simp
        go_at_call 80
        refine (field_m hs ((r4.bel (B0.drew)).bel (B0.alloc le0 _)) x3).mono ?_
        rintro e W36 A36
        cases h36 : fieldN L x3 a3 with
        | bad p er =>
         rw [h36] at A36
         obtain ⟨rfl,b36⟩:=A36
         obtain rfl : Rs.bad p er=res:=by rw [← HR.out,memberM];simp [Rs.bind,mtT,endM,methodM,fieldM_eq,and_true,and_false,q1n,hA,h3,q4,h36]
         exact ⟨rfl,rfl,kb1.trans (KeptB.of (((k4.trans (.of (B0.drew))).alloc _).trans b36) hB1)⟩
        | ok x36 a36 =>
         rw [h36] at A36
         obtain ⟨ad36,c36,rfl,l36',r36,b36⟩:=A36
         have y36:=r36.le
         have k36:=((k4.trans (.of (B0.drew))).alloc (Obj.cells #[.int .i64 0,.string ⟨#[]⟩,.int .i64 0,.slice none 0 0] 24)).trans b36
         have z36:=k36.size
         have l36:=l36'.mono (T:=fun b=>W1.heap.size ≤ b) (fun b hb=>by have:=((k4.trans (.of (B0.drew))).alloc (Obj.cells #[.int .i64 0,.string ⟨#[]⟩,.int .i64 0,.slice none 0 0] 24)).size;omega)
         refine hK.out _ _ (HMB.out _ k36) ?_
         clear hK K
         refine U_end (by kernel_rfl) ?_
         refine wpAny_ready (rs:=[9]) (by kernel_rfl) (by simp) ?_
         refine AllReady.cons rfl (fun K hK=>?_) AllReady.nil
         have hz : W36.heap[W4.drew.heap.size]?=_:=(((KeptR.refl P.R _).trans b36).block (W4.drew.heap.size) (by simp) (by have:=(k4.trans (.of (B0.drew))).size;omega)).trans (hnew (w:=W4.drew) _ (by simp))
         have hMW:=hMR.keepR k36 hRB hRM hRN
         have hoW:=hMW.own 0 (by omega)
         rw [e0] at hoW
         have sW:=k36.size
         refine step_append_lies _ (by rfl) _ _ _ (by rfl) B 24 i0 _ 4 56 Tryz.underlying22 hi0 hz0 hz1 hz2 rfl (by omega) _ (F 0).length (rowN (F 0)) (by rfl) hoW ⟨W4.drew.heap.size,0,none⟩ 1 1 [Value.int IntKind.i64 0,Value.string ⟨#[]⟩,Value.int IntKind.i64 0,Value.slice none 0 0] (by rfl) (by rfl) (World.news_of_block (cs:=#[Value.int IntKind.i64 0,Value.string ⟨#[]⟩,Value.int IntKind.i64 0,Value.slice none 0 0]) (t:=24) (fr:=(0,0)) hz) (by simp [Value.oneCell']) (by omega) (by unfold maxLen;omega) (by omega) (by omega) _ rfl ?_
         intro gg cap WA hownA growA hatA hltA
         refine hK _ _ ?_
         clear hK K
         have hggB : B ≤ gg:=by rcases hatA with e | e;exact (row_lt hoW gg e).1;omega
         have hgM : gg ≠ MB:=by omega
         have hMg : MB ≠ gg:=by omega
         obtain ⟨⟨_,_,_,_⟩,_,_,_,_⟩:=own_last hownA
         have vA:=(growA.block MB (by omega) (fun e=>by have:=(row_lt hoW MB e.symm).1;omega)).trans (HMB.out _ k36)
         obtain ⟨⟨_,_,_,_⟩,_,_,_,_⟩:=t4 vA
         have hix : ((F 0).length : Int) < (((F 0).length+1 : Nat) : Int):=by omega
         have lx : LAt W36 (fun b=>W1.heap.size ≤ b∧B ≤ b) (Value.slice ad36 x36.ks.length c36) x36.ks:=((l36.keepR (KeptR.refl P.R W36) (by omega))).mono (fun b hb=>⟨hb,by omega⟩)
         have hD:=fun W4 hW4=>mem_done (i:=0) (x:=x36) (W4:=W4) hMW (by omega) hN lx (by rw [e0];exact growA) (by rw [e0];exact hatA) hownA hW4
         have HD : Hid _:=hD
         clear hD
         refine wpAny_take (i:=10) (v:=(.pointer (some ⟨gg,(F 0).length * 4,none⟩))) rfl (by kernel_rfl) (by kernel_rfl) (by kernel_rfl) (fun _ _ _ h=>h) (Or.inl ⟨by rfl,fun w=>by go_simp;intro hh;omega⟩) ?_
         refine tk 12 (.pointer (some ⟨MB,0,none⟩)) ?_
         refine tk 13 (.pointer (some ⟨MB,0,none⟩)) ?_
         refine wpAny_two (i:=11) (j:=14) (is:=[14]) (js:=[11]) (os:=[_]) (us:=[_]) (by kernel_rfl) rfl rfl (by kernel_rfl) (by kernel_rfl) rfl rfl (by decide) (by decide) ?_ ?_
         ·go_wp2
          first
           | go_end0
           | refine bodyPost_ret (results_none rfl _ _ _) rfl ?_
          obtain ⟨d1,d2,d3,d4,d5,d6⟩:=HD.out _ (Or.inl rfl)
          obtain rfl : Rs.ok { m with ns:=ns,fs:=m.fs ++ [x36] } a36=res:=by rw [← HR.out,memberM];simp [Rs.bind,mtT,endM,methodM,fieldM_eq,and_true,and_false,q1n,hA,h3,q4,h36]
          have rZ:=r36.keep d5 (d6 _ (by omega) (by omega)) (fun q=>d6 _ (by have:=hb q;omega) (by have:=hb q;omega))
          exact ⟨rfl,rZ,⟨_,_,⟨d1,by rw [upd_same,List.map_append,hm.fs];rfl,by rw [upd_other _ _ _ _ (by decide)];exact hm.cs,by rw [upd_other _ _ _ _ (by decide)];exact hm.ms⟩⟩,kb1.trans ⟨d2.trans k36.os,d3.trans k36.tape,d4.trans k36.output,Nat.le_trans k36.size d5,fun k h1 h2 h3 h4=>(d6 k h1 h3).trans (k36.block k (by omega) h2)⟩⟩
         ·go_wp2
          first
           | go_end0
           | refine bodyPost_ret (results_none rfl _ _ _) rfl ?_
          obtain ⟨d1,d2,d3,d4,d5,d6⟩:=HD.out _ (Or.inr rfl)
          obtain rfl : Rs.ok { m with ns:=ns,fs:=m.fs ++ [x36] } a36=res:=by rw [← HR.out,memberM];simp [Rs.bind,mtT,endM,methodM,fieldM_eq,and_true,and_false,q1n,hA,h3,q4,h36]
          have rZ:=r36.keep d5 (d6 _ (by omega) (by omega)) (fun q=>d6 _ (by have:=hb q;omega) (by have:=hb q;omega))
          exact ⟨rfl,rZ,⟨_,_,⟨d1,by rw [upd_same,List.map_append,hm.fs];rfl,by rw [upd_other _ _ _ _ (by decide)];exact hm.cs,by rw [upd_other _ _ _ _ (by decide)];exact hm.ms⟩⟩,kb1.trans ⟨d2.trans k36.os,d3.trans k36.tape,d4.trans k36.output,Nat.le_trans k36.size d5,fun k h1 h2 h3 h4=>(d6 k h1 h3).trans (k36.block k (by omega) h2)⟩⟩
end Go.Proofs.YthfkfbcopinmiaaGreatDoor
