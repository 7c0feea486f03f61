/- Own text. Package module: the rules,one by one: a constructor. -/
import Derived.Test.YthfkfbcopinmiaaGreatDoorGk38
set_option linter.unusedVariables false
set_option linter.unusedSimpArgs false
set_option maxRecDepth 100000
set_option maxHeartbeats 8000000
namespace Go.Proofs.YthfkfbcopinmiaaGreatDoor
open Go.RowKit
theorem eg_typeOrNoneM : ∀ args w,(callFunc 78 args).run Tryz.prog w = .ok (.enter 78 args) w:=Go.Proofs.enters_of Tryz.func78 (by kernel_rfl) rfl
theorem eg_stmt : ∀ args w,(callFunc 24 args).run Tryz.prog w = .ok (.enter 24 args) w:=Go.Proofs.enters_of Tryz.func24 (by kernel_rfl) rfl
theorem ctor_m {L : List Tok} (hs : Small L) {w : World} {P : Pl} {a : Nat} (h : Rd w P L a mE) (hlt : a < L.length) {B MB MN : Nat} {v : Nat→Value} {F : Nat→List (Nd × Value)} {m : Mem} (hm : MemM B w MB MN v F m) (hR : P.R < B∧P.R ≠ MB∧P.R ≠ MN) (hb : 0 < L.length→P.bl < B∧P.bl ≠ MB∧P.bl ≠ MN) (hnl : ∀ i,i < 3→(F i).length ≤ 4194304) : Calls Tryz.prog 74 #[.pointer (some ⟨P.R,0,none⟩),.pointer (some ⟨MB,0,none⟩)] w (AnsM P L B MB MN w (ctorM L m a)):=by
 have hRw:=h.lt
 have hle:=h.le
 have hsm:=h.small
 obtain ⟨hRB,hRM,hRN⟩:=hR
 obtain ⟨i0,hi0,hz0,hz1,hz2⟩:=info_parts info_nd
 have hMR:=hm.at_
 have blk:=hMR.blk
 have hBW:=hMR.le
 have hltM:=hMR.lt
 obtain ⟨ad0,c0,e0⟩:=own_form (hMR.own 1 (by omega))
 rw [e0] at blk
 have hMB : MB < w.heap.size:=by omega
 have HMB : Hid (∀ W,KeptR P.R w W→W.heap[MB]?=some (.cells #[v 0,.slice ad0 (F 1).length c0,v 2,.map (some MN)] 86 (0,0))):=fun W k=>(k.block MB hMB (by omega)).trans blk
 have hN : ∀ j,j < 3→∀ g,(v j).ownBlock=some g→g < w.heap.size:=fun j hj g hg=>(row_lt (hMR.own j hj) g hg).2
 have hn:=hnl 1 (by omega)
 obtain ⟨res,hres⟩ : ∃ r,ctorM L m a=r:=⟨_,rfl⟩
 have HR : Hid (ctorM L m a=res):=hres
 rw [hres]
 clear hres
 by_cases hc : m.cs=[]
 ·have i1 : ¬ (0 : Int) < ((F 1).length : Int):=by have hF : F 1=[]:=List.map_eq_nil_iff.1 (hm.cs.trans hc);simp [hF]
  obtain ⟨⟨_,_,_,_⟩,_,_,_,_⟩:=t4 blk
  go_enter Tryz.func74,Tryz.ntmps74
  go_wp2_with fail
  go_at_call 37
  refine (pass_any h hlt (hs.at _)).mono ?_
  rintro e W1 ⟨rfl,r1,b1⟩
  have k1:=(KeptR.refl P.R w).trans b1
  have z1:=k1.size
  have y1:=r1.le
  go_wp2_with fail
  refine wp_region_U (u:=20) (S:=fun W=>W.heap[MB]?=some (.cells #[v 0,.slice ad0 (F 1).length c0,v 2,.map (some MN)] 86 (0,0))) (by kernel_rfl) ?_
  change wpAnyU _ _ _ _ _ _ _ _ _ (World.drew _)
  have zd2 : W1.drew.heap.size=W1.heap.size:=rfl
  refine U_take (i:=0) (v:=(.pointer (some ⟨MB,0,none⟩))) rfl (by kernel_rfl) (by kernel_rfl) (by kernel_rfl) (by kernel_rfl) (fun _ _ _ h=>h) (Or.inl ⟨by rfl,fun w _=>by go_simp⟩) (HMB.out _ (k1.trans (.of (B0.drew)))) ?_
  refine U_take (i:=1) (v:=(.pointer (some ⟨MB,0,none⟩))) rfl (by kernel_rfl) (by kernel_rfl) (by kernel_rfl) (by kernel_rfl) (fun _ _ _ h=>h) (Or.inl ⟨by rfl,fun w _=>by go_simp⟩) (HMB.out _ (k1.trans (.of (B0.drew)))) ?_
  refine U_take (i:=2) (v:=(.pointer (some ⟨MB,1,none⟩))) rfl (by kernel_rfl) (by kernel_rfl) (by kernel_rfl) (by kernel_rfl) (fun _ _ _ h=>h) (Or.inl ⟨by rfl,fun w _=>by go_simp⟩) (HMB.out _ (k1.trans (.of (B0.drew)))) ?_
  refine U_take (i:=3) (v:=(Value.slice ad0 (F 1).length c0)) rfl (by kernel_rfl) (by kernel_rfl) (by kernel_rfl) (by kernel_rfl) (fun _ _ _ h=>h) (Or.inl ⟨by rfl,fun w hw=>by have hcw:=cell_of_row w MB 1 _ _ _ hw;simp at hcw;go_simp⟩) (HMB.out _ (k1.trans (.of (B0.drew)))) ?_
  refine U_take (i:=4) (v:=(.pointer (some ⟨P.R,0,none⟩))) rfl (by kernel_rfl) (by kernel_rfl) (by kernel_rfl) (by kernel_rfl) (fun _ _ _ h=>h) (Or.inl ⟨by rfl,fun w _=>by go_simp⟩) (HMB.out _ (k1.trans (.of (B0.drew)))) ?_
  refine U_take (i:=5) (v:=(.pointer (some ⟨P.R,0,none⟩))) rfl (by kernel_rfl) (by kernel_rfl) (by kernel_rfl) (by kernel_rfl) (fun _ _ _ h=>h) (Or.inl ⟨by rfl,fun w _=>by go_simp⟩) (HMB.out _ (k1.trans (.of (B0.drew)))) ?_
  refine U_take (i:=6) (v:=(.pointer (some ⟨P.R,0,none⟩))) rfl (by kernel_rfl) (by kernel_rfl) (by kernel_rfl) (by kernel_rfl) (fun _ _ _ h=>h) (Or.inl ⟨by rfl,fun w _=>by go_simp⟩) (HMB.out _ (k1.trans (.of (B0.drew)))) ?_
  refine U_take (i:=7) (v:=(.pointer (some ⟨P.R,0,none⟩))) rfl (by kernel_rfl) (by kernel_rfl) (by kernel_rfl) (by kernel_rfl) (fun _ _ _ h=>h) (Or.inl ⟨by rfl,fun w _=>by go_simp⟩) (HMB.out _ (k1.trans (.of (B0.drew)))) ?_
  refine U_take (i:=8) (v:=(.func (.func 78) #[.pointer (some ⟨P.R,0,none⟩)] #[])) rfl (by kernel_rfl) (by kernel_rfl) (by kernel_rfl) (by kernel_rfl) (fun _ _ _ h=>h) (Or.inl ⟨by rfl,fun w _=>by go_simp⟩) (HMB.out _ (k1.trans (.of (B0.drew)))) ?_
  refine U_take (i:=10) (v:=(.pointer (some ⟨P.R,0,none⟩))) rfl (by kernel_rfl) (by kernel_rfl) (by kernel_rfl) (by kernel_rfl) (fun _ _ _ h=>h) (Or.inl ⟨by rfl,fun w _=>by go_simp⟩) (HMB.out _ (k1.trans (.of (B0.drew)))) ?_
  refine U_take (i:=11) (v:=(.pointer (some ⟨P.R,0,none⟩))) rfl (by kernel_rfl) (by kernel_rfl) (by kernel_rfl) (by kernel_rfl) (fun _ _ _ h=>h) (Or.inl ⟨by rfl,fun w _=>by go_simp⟩) (HMB.out _ (k1.trans (.of (B0.drew)))) ?_
  refine U_take (i:=12) (v:=(.pointer (some ⟨P.R,0,none⟩))) rfl (by kernel_rfl) (by kernel_rfl) (by kernel_rfl) (by kernel_rfl) (fun _ _ _ h=>h) (Or.inl ⟨by rfl,fun w _=>by go_simp⟩) (HMB.out _ (k1.trans (.of (B0.drew)))) ?_
  refine U_take (i:=13) (v:=(.pointer (some ⟨P.R,0,none⟩))) rfl (by kernel_rfl) (by kernel_rfl) (by kernel_rfl) (by kernel_rfl) (fun _ _ _ h=>h) (Or.inl ⟨by rfl,fun w _=>by go_simp⟩) (HMB.out _ (k1.trans (.of (B0.drew)))) ?_
  refine U_take (i:=14) (v:=(.func (.func 24) #[.pointer (some ⟨P.R,0,none⟩)] #[])) rfl (by kernel_rfl) (by kernel_rfl) (by kernel_rfl) (by kernel_rfl) (fun _ _ _ h=>h) (Or.inl ⟨by rfl,fun w _=>by go_simp⟩) (HMB.out _ (k1.trans (.of (B0.drew)))) ?_
  refine U_take (i:=18) (v:=(.int .i64 ((F 1).length : Int))) rfl (by kernel_rfl) (by kernel_rfl) (by kernel_rfl) (by kernel_rfl) (fun _ _ _ h=>h) (Or.inl ⟨by rfl,fun w _=>by go_simp⟩) (HMB.out _ (k1.trans (.of (B0.drew)))) ?_
  refine U_ready (rs:=[9,19]) (by kernel_rfl) (by simp) ?_
  refine AllU.cons rfl (by decide) (fun K hK=>?_) (AllU.cons rfl (by decide) (fun K hK=>?_) AllU.nil)
  ·go_simp
   go_at_call 77
   refine (params_any (k:=78) (rs:=#[.pointer (some ⟨P.R,0,none⟩)]) (caps:=#[]) eg_typeOrNoneM (toM L) _ _ (r1.bel (B0.drew)) hs (fun b x c hx=>toM_ge L b _ _ hx) (fun W b hb r=>to_m hs r)).mono ?_
   rintro e W3 A3
   cases h3 : paramsG L (toM L) (a+1) with
   | bad p er =>
    rw [h3] at A3
    obtain ⟨rfl,b3⟩:=A3
    obtain rfl : Rs.bad p er=res:=by rw [← HR.out,ctorM];simp [Rs.bind,mtT,endM,hc,h3]
    exact ⟨rfl,rfl,KeptB.of ((k1.trans (.of (B0.drew))).trans b3) hBW⟩
   | ok x3 a3 =>
    rw [h3] at A3
    obtain ⟨ad3,c3,rfl,l3',r3,b3⟩:=A3
    have y3:=r3.le
    have k3:=(k1.trans (.of (B0.drew))).trans b3
    have z3:=k3.size
    have l3:=l3'.mono (T:=fun b=>w.heap.size ≤ b) (fun b hb=>by have:=(k1.trans (.of (B0.drew))).size;omega)
    refine hK.out _ _ (HMB.out _ k3) ?_
    clear hK K
    refine U_ready (rs:=[15,19]) (by kernel_rfl) (by simp) ?_
    refine AllU.cons rfl (by decide) (fun K hK=>?_) (AllU.cons rfl (by decide) (fun K hK=>?_) AllU.nil)
    ·go_simp
     go_at_call 79
     refine (block_any (k:=24) (rs:=#[.pointer (some ⟨P.R,0,none⟩)]) (caps:=#[]) eg_stmt (stmtM L) _ _ r3 (fun b x c hx=>stmtM_ge L b _ _ hx) (fun W b hb r=>stmt_m hs r)).mono ?_
     rintro e W4 A4
     cases h4 : blockG L (stmtM L) a3 with
     | bad p er =>
      rw [h4] at A4
      obtain ⟨rfl,b4⟩:=A4
      obtain rfl : Rs.bad p er=res:=by rw [← HR.out,ctorM];simp [Rs.bind,mtT,endM,hc,h3,h4]
      exact ⟨rfl,rfl,KeptB.of (k3.trans b4) hBW⟩
     | ok x4 a4 =>
      rw [h4] at A4
      obtain ⟨ad4,c4,rfl,l4',r4,b4⟩:=A4
      have y4:=r4.le
      have k4:=k3.trans b4
      have z4:=k4.size
      have l4:=l4'.mono (T:=fun b=>w.heap.size ≤ b) (fun b hb=>by have:=k3.size;omega)
      refine hK.out _ _ (HMB.out _ k4) ?_
      clear hK K
      refine U_ready (rs:=[16,19]) (by kernel_rfl) (by simp) ?_
      refine AllU.cons rfl (by decide) (fun K hK=>?_) (AllU.cons rfl (by decide) (fun K hK=>?_) AllU.nil)
      ·go_simp
       refine hK.out _ _ (HMB.out _ (k4.alloc _)) ?_
       clear hK K
       refine U_ready (rs:=[17,19]) (by kernel_rfl) (by simp) ?_
       refine AllU.cons rfl (by decide) (fun K hK=>?_) (AllU.cons rfl (by decide) (fun K hK=>?_) AllU.nil)
       ·have j5 : (W4.alloc (Obj.cells #[.int .i64 x3.k,.string x3.t,.int .i64 x3.n,.slice ad3 x3.ks.length c3,.int .i64 x4.k,.string x4.t,.int .i64 x4.n,.slice ad4 x4.ks.length c4] 24)).heap[W4.heap.size]?=some (.cells #[.int .i64 x3.k,.string x3.t,.int .i64 x3.n,.slice ad3 x3.ks.length c3,.int .i64 x4.k,.string x4.t,.int .i64 x4.n,.slice ad4 x4.ks.length c4] 24 (0,0)):=((KeptR.refl P.R _).block (W4.heap.size) (by simp) (by have:=k4.size;omega)).trans (hnew (w:=W4) _ (by simp))
        have l5 : LAt (W4.alloc (Obj.cells #[.int .i64 x3.k,.string x3.t,.int .i64 x3.n,.slice ad3 x3.ks.length c3,.int .i64 x4.k,.string x4.t,.int .i64 x4.n,.slice ad4 x4.ks.length c4] 24)) (fun b=>w.heap.size ≤ b) (.slice (some ⟨W4.heap.size,0,none⟩) 2 2) [x3,x4]:=LAt.n2 j5 (by have:=k4.size;show _ ≤ _;omega) (l3.keepR (((KeptR.refl P.R W3).trans b4).alloc _) (by omega)) (l4.keepR ((KeptR.refl P.R W4).alloc _) (by omega))
        go_simp
        go_at_call 42
        refine (node_any 44 ⟨#[]⟩ (some ⟨W4.heap.size,0,none⟩) 2 2 _).mono ?_
        rintro e W6 ⟨rfl,b6'⟩
        have r6:=(r4.bel (B0.alloc le0 _)).bel b6'
        have b6:=KeptR.of (b:=P.R) b6'
        have k6:=(k4.alloc (Obj.cells #[.int .i64 x3.k,.string x3.t,.int .i64 x3.n,.slice ad3 x3.ks.length c3,.int .i64 x4.k,.string x4.t,.int .i64 x4.n,.slice ad4 x4.ks.length c4] 24)).trans b6
        have z6:=k6.size
        refine hK.out _ _ (HMB.out _ k6) ?_
        clear hK K
        refine U_ready (rs:=[19]) (by kernel_rfl) (by simp) ?_
        refine AllU.cons rfl (by decide) (fun K hK=>?_) AllU.nil
        ·go_simp
         refine hK.out _ _ (HMB.out _ (k6.alloc _)) ?_
         clear hK K
         refine U_end (by kernel_rfl) ?_
         refine wpAny_ready (rs:=[20]) (by kernel_rfl) (by simp) ?_
         refine AllReady.cons rfl (fun K hK=>?_) AllReady.nil
         have hz : (W6.alloc (Obj.cells #[.int .i64 0,.string ⟨#[]⟩,.int .i64 0,.slice none 0 0] 24)).heap[W6.heap.size]?=some (.cells #[.int .i64 0,.string ⟨#[]⟩,.int .i64 0,.slice none 0 0] 24 (0,0)):=((KeptR.refl P.R _).block (W6.heap.size) (by simp) (by have:=k6.size;omega)).trans (hnew (w:=W6) _ (by simp))
         have hMW:=hMR.keepR (k6.alloc (Obj.cells #[.int .i64 0,.string ⟨#[]⟩,.int .i64 0,.slice none 0 0] 24)) hRB hRM hRN
         have hoW:=hMW.own 1 (by omega)
         rw [e0] at hoW
         have sW:=(k6.alloc (Obj.cells #[.int .i64 0,.string ⟨#[]⟩,.int .i64 0,.slice none 0 0] 24)).size
         refine step_append_lies _ (by rfl) _ _ _ (by rfl) B 24 i0 _ 4 56 Tryz.underlying22 hi0 hz0 hz1 hz2 rfl (by omega) _ (F 1).length (rowN (F 1)) (by rfl) hoW ⟨W6.heap.size,0,none⟩ 1 1 [Value.int IntKind.i64 0,Value.string ⟨#[]⟩,Value.int IntKind.i64 0,Value.slice none 0 0] (by rfl) (by rfl) (World.news_of_block (cs:=#[Value.int IntKind.i64 0,Value.string ⟨#[]⟩,Value.int IntKind.i64 0,Value.slice none 0 0]) (t:=24) (fr:=(0,0)) hz) (by simp [Value.oneCell']) (by omega) (by unfold maxLen;omega) (by omega) (by omega) _ rfl ?_
         intro gg cap WA hownA growA hatA hltA
         refine hK _ _ ?_
         clear hK K
         have hggB : B ≤ gg:=by rcases hatA with e | e;exact (row_lt hoW gg e).1;omega
         have hgM : gg ≠ MB:=by omega
         have hMg : MB ≠ gg:=by omega
         obtain ⟨⟨_,_,_,_⟩,_,_,_,_⟩:=own_last hownA
         have vA:=(growA.block MB (by omega) (fun e=>by have:=(row_lt hoW MB e.symm).1;omega)).trans (HMB.out _ (k6.alloc (Obj.cells #[.int .i64 0,.string ⟨#[]⟩,.int .i64 0,.slice none 0 0] 24)))
         obtain ⟨⟨_,_,_,_⟩,_,_,_,_⟩:=t4 vA
         have hix : ((F 1).length : Int) < (((F 1).length+1 : Nat) : Int):=by omega
         have lx : LAt (W6.alloc (Obj.cells #[.int .i64 0,.string ⟨#[]⟩,.int .i64 0,.slice none 0 0] 24)) (fun b=>w.heap.size ≤ b∧B ≤ b) (Value.slice (some ⟨W4.heap.size,0,none⟩) 2 2) (mk0 44 ⟨#[]⟩ [x3,x4]).ks:=((l5.keepR (((KeptR.refl P.R _).trans b6).alloc _) (by omega))).mono (fun b hb=>⟨hb,by omega⟩)
         have hD:=fun W4 hW4=>mem_done (i:=1) (x:=(mk0 44 ⟨#[]⟩ [x3,x4])) (W4:=W4) hMW (by omega) hN lx (by rw [e0];exact growA) (by rw [e0];exact hatA) hownA hW4
         have HD : Hid _:=hD
         clear hD
         refine wpAny_take (i:=21) (v:=(.pointer (some ⟨gg,(F 1).length * 4,none⟩))) rfl (by kernel_rfl) (by kernel_rfl) (by kernel_rfl) (fun _ _ _ h=>h) (Or.inl ⟨by rfl,fun w=>by go_simp;intro hh;omega⟩) ?_
         refine tk 23 (.pointer (some ⟨MB,0,none⟩)) ?_
         refine tk 24 (.pointer (some ⟨MB,1,none⟩)) ?_
         refine wpAny_two (i:=22) (j:=25) (is:=[25]) (js:=[22]) (os:=[_]) (us:=[_]) (by kernel_rfl) rfl rfl (by kernel_rfl) (by kernel_rfl) rfl rfl (by decide) (by decide) ?_ ?_
         ·go_wp2
          first
           | go_end0
           | refine bodyPost_ret (results_none rfl _ _ _) rfl ?_
          obtain ⟨d1,d2,d3,d4,d5,d6⟩:=HD.out _ (Or.inl rfl)
          obtain rfl : Rs.ok { m with cs:=m.cs ++ [(mk0 44 ⟨#[]⟩ [x3,x4])] } a4=res:=by rw [← HR.out,ctorM];simp [Rs.bind,mtT,hc,h3,h4]
          have rZ:=(r6.bel (B0.alloc le0 (Obj.cells #[.int .i64 0,.string ⟨#[]⟩,.int .i64 0,.slice none 0 0] 24))).keep d5 (d6 _ (by omega) (by omega)) (fun q=>d6 _ (by have:=hb q;omega) (by have:=hb q;omega))
          exact ⟨rfl,rZ,⟨_,_,⟨d1,by rw [upd_other _ _ _ _ (by decide)];exact hm.fs,by rw [upd_same,List.map_append,hm.cs];rfl,by rw [upd_other _ _ _ _ (by decide)];exact hm.ms⟩⟩,⟨d2.trans (k6.alloc _).os,d3.trans (k6.alloc _).tape,d4.trans (k6.alloc _).output,Nat.le_trans (k6.alloc _).size d5,fun k h1 h2 h3 h4=>(d6 k h1 h3).trans ((k6.alloc _).block k (by omega) h2)⟩⟩
         ·go_wp2
          first
           | go_end0
           | refine bodyPost_ret (results_none rfl _ _ _) rfl ?_
          obtain ⟨d1,d2,d3,d4,d5,d6⟩:=HD.out _ (Or.inr rfl)
          obtain rfl : Rs.ok { m with cs:=m.cs ++ [(mk0 44 ⟨#[]⟩ [x3,x4])] } a4=res:=by rw [← HR.out,ctorM];simp [Rs.bind,mtT,hc,h3,h4]
          have rZ:=(r6.bel (B0.alloc le0 (Obj.cells #[.int .i64 0,.string ⟨#[]⟩,.int .i64 0,.slice none 0 0] 24))).keep d5 (d6 _ (by omega) (by omega)) (fun q=>d6 _ (by have:=hb q;omega) (by have:=hb q;omega))
          exact ⟨rfl,rZ,⟨_,_,⟨d1,by rw [upd_other _ _ _ _ (by decide)];exact hm.fs,by rw [upd_same,List.map_append,hm.cs];rfl,by rw [upd_other _ _ _ _ (by decide)];exact hm.ms⟩⟩,⟨d2.trans (k6.alloc _).os,d3.trans (k6.alloc _).tape,d4.trans (k6.alloc _).output,Nat.le_trans (k6.alloc _).size d5,fun k h1 h2 h3 h4=>(d6 k h1 h3).trans ((k6.alloc _).block k (by omega) h2)⟩⟩
       ·go_simp
        refine hK.out _ _ (HMB.out _ ((k4.alloc _).alloc _)) ?_
        clear hK K
        refine U_ready (rs:=[17]) (by kernel_rfl) (by simp) ?_
        refine AllU.cons rfl (by decide) (fun K hK=>?_) AllU.nil
        ·have j5 : ((W4.alloc (Obj.cells #[.int .i64 x3.k,.string x3.t,.int .i64 x3.n,.slice ad3 x3.ks.length c3,.int .i64 x4.k,.string x4.t,.int .i64 x4.n,.slice ad4 x4.ks.length c4] 24)).alloc (Obj.cells #[.int .i64 0,.string ⟨#[]⟩,.int .i64 0,.slice none 0 0] 24)).heap[W4.heap.size]?=some (.cells #[.int .i64 x3.k,.string x3.t,.int .i64 x3.n,.slice ad3 x3.ks.length c3,.int .i64 x4.k,.string x4.t,.int .i64 x4.n,.slice ad4 x4.ks.length c4] 24 (0,0)):=(((KeptR.refl P.R _).alloc _).block (W4.heap.size) (by simp) (by have:=k4.size;omega)).trans (hnew (w:=W4) _ (by simp))
         have l5 : LAt ((W4.alloc (Obj.cells #[.int .i64 x3.k,.string x3.t,.int .i64 x3.n,.slice ad3 x3.ks.length c3,.int .i64 x4.k,.string x4.t,.int .i64 x4.n,.slice ad4 x4.ks.length c4] 24)).alloc (Obj.cells #[.int .i64 0,.string ⟨#[]⟩,.int .i64 0,.slice none 0 0] 24)) (fun b=>w.heap.size ≤ b) (.slice (some ⟨W4.heap.size,0,none⟩) 2 2) [x3,x4]:=LAt.n2 j5 (by have:=k4.size;show _ ≤ _;omega) (l3.keepR ((((KeptR.refl P.R W3).trans b4).alloc _).alloc _) (by omega)) (l4.keepR (((KeptR.refl P.R W4).alloc _).alloc _) (by omega))
         go_simp
         go_at_call 42
         refine (node_any 44 ⟨#[]⟩ (some ⟨W4.heap.size,0,none⟩) 2 2 _).mono ?_
         rintro e W9 ⟨rfl,b9'⟩
         have r9:=((r4.bel (B0.alloc le0 (Obj.cells #[.int .i64 x3.k,.string x3.t,.int .i64 x3.n,.slice ad3 x3.ks.length c3,.int .i64 x4.k,.string x4.t,.int .i64 x4.n,.slice ad4 x4.ks.length c4] 24))).bel (B0.alloc le0 _)).bel b9'
         have b9:=KeptR.of (b:=P.R) b9'
         have k9:=((k4.alloc (Obj.cells #[.int .i64 x3.k,.string x3.t,.int .i64 x3.n,.slice ad3 x3.ks.length c3,.int .i64 x4.k,.string x4.t,.int .i64 x4.n,.slice ad4 x4.ks.length c4] 24)).alloc (Obj.cells #[.int .i64 0,.string ⟨#[]⟩,.int .i64 0,.slice none 0 0] 24)).trans b9
         have z9:=k9.size
         refine hK.out _ _ (HMB.out _ k9) ?_
         clear hK K
         refine U_end (by kernel_rfl) ?_
         refine wpAny_ready (rs:=[20]) (by kernel_rfl) (by simp) ?_
         refine AllReady.cons rfl (fun K hK=>?_) AllReady.nil
         have hz : W9.heap[(W4.heap.size+1)]?=some (.cells #[.int .i64 0,.string ⟨#[]⟩,.int .i64 0,.slice none 0 0] 24 (0,0)):=(((KeptR.refl P.R ((W4.alloc (Obj.cells #[.int .i64 x3.k,.string x3.t,.int .i64 x3.n,.slice ad3 x3.ks.length c3,.int .i64 x4.k,.string x4.t,.int .i64 x4.n,.slice ad4 x4.ks.length c4] 24)).alloc _)).trans b9).block ((W4.heap.size+1)) (by simp) (by have:=(k4.alloc (Obj.cells #[.int .i64 x3.k,.string x3.t,.int .i64 x3.n,.slice ad3 x3.ks.length c3,.int .i64 x4.k,.string x4.t,.int .i64 x4.n,.slice ad4 x4.ks.length c4] 24)).size;omega)).trans (hnew (w:=(W4.alloc (Obj.cells #[.int .i64 x3.k,.string x3.t,.int .i64 x3.n,.slice ad3 x3.ks.length c3,.int .i64 x4.k,.string x4.t,.int .i64 x4.n,.slice ad4 x4.ks.length c4] 24))) _ (by simp))
         have hMW:=hMR.keepR k9 hRB hRM hRN
         have hoW:=hMW.own 1 (by omega)
         rw [e0] at hoW
         have sW:=k9.size
         refine step_append_lies _ (by rfl) _ _ _ (by rfl) B 24 i0 _ 4 56 Tryz.underlying22 hi0 hz0 hz1 hz2 rfl (by omega) _ (F 1).length (rowN (F 1)) (by rfl) hoW ⟨(W4.heap.size+1),0,none⟩ 1 1 [Value.int IntKind.i64 0,Value.string ⟨#[]⟩,Value.int IntKind.i64 0,Value.slice none 0 0] (by rfl) (by rfl) (World.news_of_block (cs:=#[Value.int IntKind.i64 0,Value.string ⟨#[]⟩,Value.int IntKind.i64 0,Value.slice none 0 0]) (t:=24) (fr:=(0,0)) hz) (by simp [Value.oneCell']) (by omega) (by unfold maxLen;omega) (by omega) (by omega) _ rfl ?_
         intro gg cap WA hownA growA hatA hltA
         refine hK _ _ ?_
         clear hK K
         have hggB : B ≤ gg:=by rcases hatA with e | e;exact (row_lt hoW gg e).1;omega
         have hgM : gg ≠ MB:=by omega
         have hMg : MB ≠ gg:=by omega
         obtain ⟨⟨_,_,_,_⟩,_,_,_,_⟩:=own_last hownA
         have vA:=(growA.block MB (by omega) (fun e=>by have:=(row_lt hoW MB e.symm).1;omega)).trans (HMB.out _ k9)
         obtain ⟨⟨_,_,_,_⟩,_,_,_,_⟩:=t4 vA
         have hix : ((F 1).length : Int) < (((F 1).length+1 : Nat) : Int):=by omega
         have lx : LAt W9 (fun b=>w.heap.size ≤ b∧B ≤ b) (Value.slice (some ⟨W4.heap.size,0,none⟩) 2 2) (mk0 44 ⟨#[]⟩ [x3,x4]).ks:=((l5.keepR ((KeptR.refl P.R ((W4.alloc (Obj.cells #[.int .i64 x3.k,.string x3.t,.int .i64 x3.n,.slice ad3 x3.ks.length c3,.int .i64 x4.k,.string x4.t,.int .i64 x4.n,.slice ad4 x4.ks.length c4] 24)).alloc _)).trans b9) (by omega))).mono (fun b hb=>⟨hb,by omega⟩)
         have hD:=fun W4 hW4=>mem_done (i:=1) (x:=(mk0 44 ⟨#[]⟩ [x3,x4])) (W4:=W4) hMW (by omega) hN lx (by rw [e0];exact growA) (by rw [e0];exact hatA) hownA hW4
         have HD : Hid _:=hD
         clear hD
         refine wpAny_take (i:=21) (v:=(.pointer (some ⟨gg,(F 1).length * 4,none⟩))) rfl (by kernel_rfl) (by kernel_rfl) (by kernel_rfl) (fun _ _ _ h=>h) (Or.inl ⟨by rfl,fun w=>by go_simp;intro hh;omega⟩) ?_
         refine tk 23 (.pointer (some ⟨MB,0,none⟩)) ?_
         refine tk 24 (.pointer (some ⟨MB,1,none⟩)) ?_
         refine wpAny_two (i:=22) (j:=25) (is:=[25]) (js:=[22]) (os:=[_]) (us:=[_]) (by kernel_rfl) rfl rfl (by kernel_rfl) (by kernel_rfl) rfl rfl (by decide) (by decide) ?_ ?_
         ·go_wp2
          first
           | go_end0
           | refine bodyPost_ret (results_none rfl _ _ _) rfl ?_
          obtain ⟨d1,d2,d3,d4,d5,d6⟩:=HD.out _ (Or.inl rfl)
          obtain rfl : Rs.ok { m with cs:=m.cs ++ [(mk0 44 ⟨#[]⟩ [x3,x4])] } a4=res:=by rw [← HR.out,ctorM];simp [Rs.bind,mtT,hc,h3,h4]
          have rZ:=r9.keep d5 (d6 _ (by omega) (by omega)) (fun q=>d6 _ (by have:=hb q;omega) (by have:=hb q;omega))
          exact ⟨rfl,rZ,⟨_,_,⟨d1,by rw [upd_other _ _ _ _ (by decide)];exact hm.fs,by rw [upd_same,List.map_append,hm.cs];rfl,by rw [upd_other _ _ _ _ (by decide)];exact hm.ms⟩⟩,⟨d2.trans k9.os,d3.trans k9.tape,d4.trans k9.output,Nat.le_trans k9.size d5,fun k h1 h2 h3 h4=>(d6 k h1 h3).trans (k9.block k (by omega) h2)⟩⟩
         ·go_wp2
          first
           | go_end0
           | refine bodyPost_ret (results_none rfl _ _ _) rfl ?_
          obtain ⟨d1,d2,d3,d4,d5,d6⟩:=HD.out _ (Or.inr rfl)
          obtain rfl : Rs.ok { m with cs:=m.cs ++ [(mk0 44 ⟨#[]⟩ [x3,x4])] } a4=res:=by rw [← HR.out,ctorM];simp [Rs.bind,mtT,hc,h3,h4]
          have rZ:=r9.keep d5 (d6 _ (by omega) (by omega)) (fun q=>d6 _ (by have:=hb q;omega) (by have:=hb q;omega))
          exact ⟨rfl,rZ,⟨_,_,⟨d1,by rw [upd_other _ _ _ _ (by decide)];exact hm.fs,by rw [upd_same,List.map_append,hm.cs];rfl,by rw [upd_other _ _ _ _ (by decide)];exact hm.ms⟩⟩,⟨d2.trans k9.os,d3.trans k9.tape,d4.trans k9.output,Nat.le_trans k9.size d5,fun k h1 h2 h3 h4=>(d6 k h1 h3).trans (k9.block k (by omega) h2)⟩⟩
      ·go_simp
       refine hK.out _ _ (HMB.out _ (k4.alloc _)) ?_
       clear hK K
       refine U_ready (rs:=[16]) (by kernel_rfl) (by simp) ?_
       refine AllU.cons rfl (by decide) (fun K hK=>?_) AllU.nil
       ·go_simp
        refine hK.out _ _ (HMB.out _ ((k4.alloc _).alloc _)) ?_
        clear hK K
        refine U_ready (rs:=[17]) (by kernel_rfl) (by simp) ?_
        refine AllU.cons rfl (by decide) (fun K hK=>?_) AllU.nil
        ·have j11 : ((W4.alloc (Obj.cells #[.int .i64 0,.string ⟨#[]⟩,.int .i64 0,.slice none 0 0] 24)).alloc (Obj.cells #[.int .i64 x3.k,.string x3.t,.int .i64 x3.n,.slice ad3 x3.ks.length c3,.int .i64 x4.k,.string x4.t,.int .i64 x4.n,.slice ad4 x4.ks.length c4] 24)).heap[(W4.heap.size+1)]?=some (.cells #[.int .i64 x3.k,.string x3.t,.int .i64 x3.n,.slice ad3 x3.ks.length c3,.int .i64 x4.k,.string x4.t,.int .i64 x4.n,.slice ad4 x4.ks.length c4] 24 (0,0)):=((KeptR.refl P.R ((W4.alloc (Obj.cells #[.int .i64 0,.string ⟨#[]⟩,.int .i64 0,.slice none 0 0] 24)).alloc _)).block ((W4.heap.size+1)) (by simp) (by have:=(k4.alloc (Obj.cells #[.int .i64 0,.string ⟨#[]⟩,.int .i64 0,.slice none 0 0] 24)).size;omega)).trans (hnew (w:=(W4.alloc (Obj.cells #[.int .i64 0,.string ⟨#[]⟩,.int .i64 0,.slice none 0 0] 24))) _ (by simp))
         have l11 : LAt ((W4.alloc (Obj.cells #[.int .i64 0,.string ⟨#[]⟩,.int .i64 0,.slice none 0 0] 24)).alloc (Obj.cells #[.int .i64 x3.k,.string x3.t,.int .i64 x3.n,.slice ad3 x3.ks.length c3,.int .i64 x4.k,.string x4.t,.int .i64 x4.n,.slice ad4 x4.ks.length c4] 24)) (fun b=>w.heap.size ≤ b) (.slice (some ⟨(W4.heap.size+1),0,none⟩) 2 2) [x3,x4]:=LAt.n2 j11 (by have:=(k4.alloc (Obj.cells #[.int .i64 0,.string ⟨#[]⟩,.int .i64 0,.slice none 0 0] 24)).size;show _ ≤ _;omega) (l3.keepR ((((KeptR.refl P.R W3).trans b4).alloc _).alloc _) (by omega)) (l4.keepR (((KeptR.refl P.R W4).alloc _).alloc _) (by omega))
         go_simp
         go_at_call 42
         refine (node_any 44 ⟨#[]⟩ (some ⟨(W4.heap.size+1),0,none⟩) 2 2 _).mono ?_
         rintro e W12 ⟨rfl,b12'⟩
         have r12:=((r4.bel (B0.alloc le0 (Obj.cells #[.int .i64 0,.string ⟨#[]⟩,.int .i64 0,.slice none 0 0] 24))).bel (B0.alloc le0 _)).bel b12'
         have b12:=KeptR.of (b:=P.R) b12'
         have k12:=((k4.alloc (Obj.cells #[.int .i64 0,.string ⟨#[]⟩,.int .i64 0,.slice none 0 0] 24)).alloc (Obj.cells #[.int .i64 x3.k,.string x3.t,.int .i64 x3.n,.slice ad3 x3.ks.length c3,.int .i64 x4.k,.string x4.t,.int .i64 x4.n,.slice ad4 x4.ks.length c4] 24)).trans b12
         have z12:=k12.size
         refine hK.out _ _ (HMB.out _ k12) ?_
         clear hK K
         refine U_end (by kernel_rfl) ?_
         refine wpAny_ready (rs:=[20]) (by kernel_rfl) (by simp) ?_
         refine AllReady.cons rfl (fun K hK=>?_) AllReady.nil
         have hz : W12.heap[W4.heap.size]?=_:=((((KeptR.refl P.R _).alloc _).trans b12).block (W4.heap.size) (by simp) (by have:=k4.size;omega)).trans (hnew (w:=W4) _ (by simp))
         have hMW:=hMR.keepR k12 hRB hRM hRN
         have hoW:=hMW.own 1 (by omega)
         rw [e0] at hoW
         have sW:=k12.size
         refine step_append_lies _ (by rfl) _ _ _ (by rfl) B 24 i0 _ 4 56 Tryz.underlying22 hi0 hz0 hz1 hz2 rfl (by omega) _ (F 1).length (rowN (F 1)) (by rfl) hoW ⟨W4.heap.size,0,none⟩ 1 1 [Value.int IntKind.i64 0,Value.string ⟨#[]⟩,Value.int IntKind.i64 0,Value.slice none 0 0] (by rfl) (by rfl) (World.news_of_block (cs:=#[Value.int IntKind.i64 0,Value.string ⟨#[]⟩,Value.int IntKind.i64 0,Value.slice none 0 0]) (t:=24) (fr:=(0,0)) hz) (by simp [Value.oneCell']) (by omega) (by unfold maxLen;omega) (by omega) (by omega) _ rfl ?_
         intro gg cap WA hownA growA hatA hltA
         refine hK _ _ ?_
         clear hK K
         have hggB : B ≤ gg:=by rcases hatA with e | e;exact (row_lt hoW gg e).1;omega
         have hgM : gg ≠ MB:=by omega
         have hMg : MB ≠ gg:=by omega
         obtain ⟨⟨_,_,_,_⟩,_,_,_,_⟩:=own_last hownA
         have vA:=(growA.block MB (by omega) (fun e=>by have:=(row_lt hoW MB e.symm).1;omega)).trans (HMB.out _ k12)
         obtain ⟨⟨_,_,_,_⟩,_,_,_,_⟩:=t4 vA
         have hix : ((F 1).length : Int) < (((F 1).length+1 : Nat) : Int):=by omega
         have lx : LAt W12 (fun b=>w.heap.size ≤ b∧B ≤ b) (Value.slice (some ⟨(W4.heap.size+1),0,none⟩) 2 2) (mk0 44 ⟨#[]⟩ [x3,x4]).ks:=((l11.keepR ((KeptR.refl P.R ((W4.alloc (Obj.cells #[.int .i64 0,.string ⟨#[]⟩,.int .i64 0,.slice none 0 0] 24)).alloc _)).trans b12) (by omega))).mono (fun b hb=>⟨hb,by omega⟩)
         have hD:=fun W4 hW4=>mem_done (i:=1) (x:=(mk0 44 ⟨#[]⟩ [x3,x4])) (W4:=W4) hMW (by omega) hN lx (by rw [e0];exact growA) (by rw [e0];exact hatA) hownA hW4
         have HD : Hid _:=hD
         clear hD
         refine wpAny_take (i:=21) (v:=(.pointer (some ⟨gg,(F 1).length * 4,none⟩))) rfl (by kernel_rfl) (by kernel_rfl) (by kernel_rfl) (fun _ _ _ h=>h) (Or.inl ⟨by rfl,fun w=>by go_simp;intro hh;omega⟩) ?_
         refine tk 23 (.pointer (some ⟨MB,0,none⟩)) ?_
         refine tk 24 (.pointer (some ⟨MB,1,none⟩)) ?_
         refine wpAny_two (i:=22) (j:=25) (is:=[25]) (js:=[22]) (os:=[_]) (us:=[_]) (by kernel_rfl) rfl rfl (by kernel_rfl) (by kernel_rfl) rfl rfl (by decide) (by decide) ?_ ?_
         ·go_wp2
          first
           | go_end0
           | refine bodyPost_ret (results_none rfl _ _ _) rfl ?_
          obtain ⟨d1,d2,d3,d4,d5,d6⟩:=HD.out _ (Or.inl rfl)
          obtain rfl : Rs.ok { m with cs:=m.cs ++ [(mk0 44 ⟨#[]⟩ [x3,x4])] } a4=res:=by rw [← HR.out,ctorM];simp [Rs.bind,mtT,hc,h3,h4]
          have rZ:=r12.keep d5 (d6 _ (by omega) (by omega)) (fun q=>d6 _ (by have:=hb q;omega) (by have:=hb q;omega))
          exact ⟨rfl,rZ,⟨_,_,⟨d1,by rw [upd_other _ _ _ _ (by decide)];exact hm.fs,by rw [upd_same,List.map_append,hm.cs];rfl,by rw [upd_other _ _ _ _ (by decide)];exact hm.ms⟩⟩,⟨d2.trans k12.os,d3.trans k12.tape,d4.trans k12.output,Nat.le_trans k12.size d5,fun k h1 h2 h3 h4=>(d6 k h1 h3).trans (k12.block k (by omega) h2)⟩⟩
         ·go_wp2
          first
           | go_end0
           | refine bodyPost_ret (results_none rfl _ _ _) rfl ?_
          obtain ⟨d1,d2,d3,d4,d5,d6⟩:=HD.out _ (Or.inr rfl)
          obtain rfl : Rs.ok { m with cs:=m.cs ++ [(mk0 44 ⟨#[]⟩ [x3,x4])] } a4=res:=by rw [← HR.out,ctorM];simp [Rs.bind,mtT,hc,h3,h4]
          have rZ:=r12.keep d5 (d6 _ (by omega) (by omega)) (fun q=>d6 _ (by have:=hb q;omega) (by have:=hb q;omega))
          exact ⟨rfl,rZ,⟨_,_,⟨d1,by rw [upd_other _ _ _ _ (by decide)];exact hm.fs,by rw [upd_same,List.map_append,hm.cs];rfl,by rw [upd_other _ _ _ _ (by decide)];exact hm.ms⟩⟩,⟨d2.trans k12.os,d3.trans k12.tape,d4.trans k12.output,Nat.le_trans k12.size d5,fun k h1 h2 h3 h4=>(d6 k h1 h3).trans (k12.block k (by omega) h2)⟩⟩
    ·go_simp
     refine hK.out _ _ (HMB.out _ (k3.alloc _)) ?_
     clear hK K
     refine U_ready (rs:=[15]) (by kernel_rfl) (by simp) ?_
     refine AllU.cons rfl (by decide) (fun K hK=>?_) AllU.nil
     ·go_simp
      go_at_call 79
      refine (block_any (k:=24) (rs:=#[.pointer (some ⟨P.R,0,none⟩)]) (caps:=#[]) eg_stmt (stmtM L) _ _ (r3.bel (B0.alloc le0 _)) (fun b x c hx=>stmtM_ge L b _ _ hx) (fun W b hb r=>stmt_m hs r)).mono ?_
      rintro e W14 A14
      cases h14 : blockG L (stmtM L) a3 with
      | bad p er =>
       rw [h14] at A14
       obtain ⟨rfl,b14⟩:=A14
       obtain rfl : Rs.bad p er=res:=by rw [← HR.out,ctorM];simp [Rs.bind,mtT,endM,hc,h3,h14]
       exact ⟨rfl,rfl,KeptB.of ((k3.alloc _).trans b14) hBW⟩
      | ok x14 a14 =>
       rw [h14] at A14
       obtain ⟨ad14,c14,rfl,l14',r14,b14⟩:=A14
       have y14:=r14.le
       have k14:=(k3.alloc (Obj.cells #[.int .i64 0,.string ⟨#[]⟩,.int .i64 0,.slice none 0 0] 24)).trans b14
       have z14:=k14.size
       have l14:=l14'.mono (T:=fun b=>w.heap.size ≤ b) (fun b hb=>by have:=(k3.alloc (Obj.cells #[.int .i64 0,.string ⟨#[]⟩,.int .i64 0,.slice none 0 0] 24)).size;omega)
       refine hK.out _ _ (HMB.out _ k14) ?_
       clear hK K
       refine U_ready (rs:=[16]) (by kernel_rfl) (by simp) ?_
       refine AllU.cons rfl (by decide) (fun K hK=>?_) AllU.nil
       ·go_simp
        refine hK.out _ _ (HMB.out _ (k14.alloc _)) ?_
        clear hK K
        refine U_ready (rs:=[17]) (by kernel_rfl) (by simp) ?_
        refine AllU.cons rfl (by decide) (fun K hK=>?_) AllU.nil
        ·have j15 : (W14.alloc (Obj.cells #[.int .i64 x3.k,.string x3.t,.int .i64 x3.n,.slice ad3 x3.ks.length c3,.int .i64 x14.k,.string x14.t,.int .i64 x14.n,.slice ad14 x14.ks.length c14] 24)).heap[W14.heap.size]?=some (.cells #[.int .i64 x3.k,.string x3.t,.int .i64 x3.n,.slice ad3 x3.ks.length c3,.int .i64 x14.k,.string x14.t,.int .i64 x14.n,.slice ad14 x14.ks.length c14] 24 (0,0)):=((KeptR.refl P.R _).block (W14.heap.size) (by simp) (by have:=k14.size;omega)).trans (hnew (w:=W14) _ (by simp))
         have l15 : LAt (W14.alloc (Obj.cells #[.int .i64 x3.k,.string x3.t,.int .i64 x3.n,.slice ad3 x3.ks.length c3,.int .i64 x14.k,.string x14.t,.int .i64 x14.n,.slice ad14 x14.ks.length c14] 24)) (fun b=>w.heap.size ≤ b) (.slice (some ⟨W14.heap.size,0,none⟩) 2 2) [x3,x14]:=LAt.n2 j15 (by have:=k14.size;show _ ≤ _;omega) (l3.keepR ((((KeptR.refl P.R W3).alloc _).trans b14).alloc _) (by omega)) (l14.keepR ((KeptR.refl P.R W14).alloc _) (by omega))
         go_simp
         go_at_call 42
         refine (node_any 44 ⟨#[]⟩ (some ⟨W14.heap.size,0,none⟩) 2 2 _).mono ?_
         rintro e W16 ⟨rfl,b16'⟩
         have r16:=(r14.bel (B0.alloc le0 _)).bel b16'
         have b16:=KeptR.of (b:=P.R) b16'
         have k16:=(k14.alloc (Obj.cells #[.int .i64 x3.k,.string x3.t,.int .i64 x3.n,.slice ad3 x3.ks.length c3,.int .i64 x14.k,.string x14.t,.int .i64 x14.n,.slice ad14 x14.ks.length c14] 24)).trans b16
         have z16:=k16.size
         refine hK.out _ _ (HMB.out _ k16) ?_
         clear hK K
         refine U_end (by kernel_rfl) ?_
         refine wpAny_ready (rs:=[20]) (by kernel_rfl) (by simp) ?_
         refine AllReady.cons rfl (fun K hK=>?_) AllReady.nil
         have hz : W16.heap[W3.heap.size]?=_:=(((((KeptR.refl P.R _).trans b14).alloc _).trans b16).block (W3.heap.size) (by simp) (by have:=k3.size;omega)).trans (hnew (w:=W3) _ (by simp))
         have hMW:=hMR.keepR k16 hRB hRM hRN
         have hoW:=hMW.own 1 (by omega)
         rw [e0] at hoW
         have sW:=k16.size
         refine step_append_lies _ (by rfl) _ _ _ (by rfl) B 24 i0 _ 4 56 Tryz.underlying22 hi0 hz0 hz1 hz2 rfl (by omega) _ (F 1).length (rowN (F 1)) (by rfl) hoW ⟨W3.heap.size,0,none⟩ 1 1 [Value.int IntKind.i64 0,Value.string ⟨#[]⟩,Value.int IntKind.i64 0,Value.slice none 0 0] (by rfl) (by rfl) (World.news_of_block (cs:=#[Value.int IntKind.i64 0,Value.string ⟨#[]⟩,Value.int IntKind.i64 0,Value.slice none 0 0]) (t:=24) (fr:=(0,0)) hz) (by simp [Value.oneCell']) (by omega) (by unfold maxLen;omega) (by omega) (by omega) _ rfl ?_
         intro gg cap WA hownA growA hatA hltA
         refine hK _ _ ?_
         clear hK K
         have hggB : B ≤ gg:=by rcases hatA with e | e;exact (row_lt hoW gg e).1;omega
         have hgM : gg ≠ MB:=by omega
         have hMg : MB ≠ gg:=by omega
         obtain ⟨⟨_,_,_,_⟩,_,_,_,_⟩:=own_last hownA
         have vA:=(growA.block MB (by omega) (fun e=>by have:=(row_lt hoW MB e.symm).1;omega)).trans (HMB.out _ k16)
         obtain ⟨⟨_,_,_,_⟩,_,_,_,_⟩:=t4 vA
         have hix : ((F 1).length : Int) < (((F 1).length+1 : Nat) : Int):=by omega
         have lx : LAt W16 (fun b=>w.heap.size ≤ b∧B ≤ b) (Value.slice (some ⟨W14.heap.size,0,none⟩) 2 2) (mk0 44 ⟨#[]⟩ [x3,x14]).ks:=((l15.keepR ((KeptR.refl P.R _).trans b16) (by omega))).mono (fun b hb=>⟨hb,by omega⟩)
         have hD:=fun W4 hW4=>mem_done (i:=1) (x:=(mk0 44 ⟨#[]⟩ [x3,x14])) (W4:=W4) hMW (by omega) hN lx (by rw [e0];exact growA) (by rw [e0];exact hatA) hownA hW4
         have HD : Hid _:=hD
         clear hD
         refine wpAny_take (i:=21) (v:=(.pointer (some ⟨gg,(F 1).length * 4,none⟩))) rfl (by kernel_rfl) (by kernel_rfl) (by kernel_rfl) (fun _ _ _ h=>h) (Or.inl ⟨by rfl,fun w=>by go_simp;intro hh;omega⟩) ?_
         refine tk 23 (.pointer (some ⟨MB,0,none⟩)) ?_
         refine tk 24 (.pointer (some ⟨MB,1,none⟩)) ?_
         refine wpAny_two (i:=22) (j:=25) (is:=[25]) (js:=[22]) (os:=[_]) (us:=[_]) (by kernel_rfl) rfl rfl (by kernel_rfl) (by kernel_rfl) rfl rfl (by decide) (by decide) ?_ ?_
         ·go_wp2
          first
           | go_end0
           | refine bodyPost_ret (results_none rfl _ _ _) rfl ?_
          obtain ⟨d1,d2,d3,d4,d5,d6⟩:=HD.out _ (Or.inl rfl)
          obtain rfl : Rs.ok { m with cs:=m.cs ++ [(mk0 44 ⟨#[]⟩ [x3,x14])] } a14=res:=by rw [← HR.out,ctorM];simp [Rs.bind,mtT,hc,h3,h14]
          have rZ:=r16.keep d5 (d6 _ (by omega) (by omega)) (fun q=>d6 _ (by have:=hb q;omega) (by have:=hb q;omega))
          exact ⟨rfl,rZ,⟨_,_,⟨d1,by rw [upd_other _ _ _ _ (by decide)];exact hm.fs,by rw [upd_same,List.map_append,hm.cs];rfl,by rw [upd_other _ _ _ _ (by decide)];exact hm.ms⟩⟩,⟨d2.trans k16.os,d3.trans k16.tape,d4.trans k16.output,Nat.le_trans k16.size d5,fun k h1 h2 h3 h4=>(d6 k h1 h3).trans (k16.block k (by omega) h2)⟩⟩
         ·go_wp2
          first
           | go_end0
           | refine bodyPost_ret (results_none rfl _ _ _) rfl ?_
          obtain ⟨d1,d2,d3,d4,d5,d6⟩:=HD.out _ (Or.inr rfl)
          obtain rfl : Rs.ok { m with cs:=m.cs ++ [(mk0 44 ⟨#[]⟩ [x3,x14])] } a14=res:=by rw [← HR.out,ctorM];simp [Rs.bind,mtT,hc,h3,h14]
          have rZ:=r16.keep d5 (d6 _ (by omega) (by omega)) (fun q=>d6 _ (by have:=hb q;omega) (by have:=hb q;omega))
          exact ⟨rfl,rZ,⟨_,_,⟨d1,by rw [upd_other _ _ _ _ (by decide)];exact hm.fs,by rw [upd_same,List.map_append,hm.cs];rfl,by rw [upd_other _ _ _ _ (by decide)];exact hm.ms⟩⟩,⟨d2.trans k16.os,d3.trans k16.tape,d4.trans k16.output,Nat.le_trans k16.size d5,fun k h1 h2 h3 h4=>(d6 k h1 h3).trans (k16.block k (by omega) h2)⟩⟩
  ·go_simp
   refine hK.out _ _ (HMB.out _ ((k1.trans (.of (B0.drew))).alloc _)) ?_
   clear hK K
   refine U_ready (rs:=[9]) (by kernel_rfl) (by simp) ?_
   refine AllU.cons rfl (by decide) (fun K hK=>?_) AllU.nil
   ·go_simp
    go_at_call 77
    refine (params_any (k:=78) (rs:=#[.pointer (some ⟨P.R,0,none⟩)]) (caps:=#[]) eg_typeOrNoneM (toM L) _ _ ((r1.bel (B0.drew)).bel (B0.alloc le0 _)) hs (fun b x c hx=>toM_ge L b _ _ hx) (fun W b hb r=>to_m hs r)).mono ?_
    rintro e W18 A18
    cases h18 : paramsG L (toM L) (a+1) with
    | bad p er =>
     rw [h18] at A18
     obtain ⟨rfl,b18⟩:=A18
     obtain rfl : Rs.bad p er=res:=by rw [← HR.out,ctorM];simp [Rs.bind,mtT,endM,hc,h18]
     exact ⟨rfl,rfl,KeptB.of (((k1.trans (.of (B0.drew))).alloc _).trans b18) hBW⟩
    | ok x18 a18 =>
     rw [h18] at A18
     obtain ⟨ad18,c18,rfl,l18',r18,b18⟩:=A18
     have y18:=r18.le
     have k18:=((k1.trans (.of (B0.drew))).alloc (Obj.cells #[.int .i64 0,.string ⟨#[]⟩,.int .i64 0,.slice none 0 0] 24)).trans b18
     have z18:=k18.size
     have l18:=l18'.mono (T:=fun b=>w.heap.size ≤ b) (fun b hb=>by have:=((k1.trans (.of (B0.drew))).alloc (Obj.cells #[.int .i64 0,.string ⟨#[]⟩,.int .i64 0,.slice none 0 0] 24)).size;omega)
     refine hK.out _ _ (HMB.out _ k18) ?_
     clear hK K
     refine U_ready (rs:=[15]) (by kernel_rfl) (by simp) ?_
     refine AllU.cons rfl (by decide) (fun K hK=>?_) AllU.nil
     ·go_simp
      go_at_call 79
      refine (block_any (k:=24) (rs:=#[.pointer (some ⟨P.R,0,none⟩)]) (caps:=#[]) eg_stmt (stmtM L) _ _ r18 (fun b x c hx=>stmtM_ge L b _ _ hx) (fun W b hb r=>stmt_m hs r)).mono ?_
      rintro e W19 A19
      cases h19 : blockG L (stmtM L) a18 with
      | bad p er =>
       rw [h19] at A19
       obtain ⟨rfl,b19⟩:=A19
       obtain rfl : Rs.bad p er=res:=by rw [← HR.out,ctorM];simp [Rs.bind,mtT,endM,hc,h18,h19]
       exact ⟨rfl,rfl,KeptB.of (k18.trans b19) hBW⟩
      | ok x19 a19 =>
       rw [h19] at A19
       obtain ⟨ad19,c19,rfl,l19',r19,b19⟩:=A19
       have y19:=r19.le
       have k19:=k18.trans b19
       have z19:=k19.size
       have l19:=l19'.mono (T:=fun b=>w.heap.size ≤ b) (fun b hb=>by have:=k18.size;omega)
       refine hK.out _ _ (HMB.out _ k19) ?_
       clear hK K
       refine U_ready (rs:=[16]) (by kernel_rfl) (by simp) ?_
       refine AllU.cons rfl (by decide) (fun K hK=>?_) AllU.nil
       ·go_simp
        refine hK.out _ _ (HMB.out _ (k19.alloc _)) ?_
        clear hK K
        refine U_ready (rs:=[17]) (by kernel_rfl) (by simp) ?_
        refine AllU.cons rfl (by decide) (fun K hK=>?_) AllU.nil
        ·have j20 : (W19.alloc (Obj.cells #[.int .i64 x18.k,.string x18.t,.int .i64 x18.n,.slice ad18 x18.ks.length c18,.int .i64 x19.k,.string x19.t,.int .i64 x19.n,.slice ad19 x19.ks.length c19] 24)).heap[W19.heap.size]?=some (.cells #[.int .i64 x18.k,.string x18.t,.int .i64 x18.n,.slice ad18 x18.ks.length c18,.int .i64 x19.k,.string x19.t,.int .i64 x19.n,.slice ad19 x19.ks.length c19] 24 (0,0)):=((KeptR.refl P.R _).block (W19.heap.size) (by simp) (by have:=k19.size;omega)).trans (hnew (w:=W19) _ (by simp))
         have l20 : LAt (W19.alloc (Obj.cells #[.int .i64 x18.k,.string x18.t,.int .i64 x18.n,.slice ad18 x18.ks.length c18,.int .i64 x19.k,.string x19.t,.int .i64 x19.n,.slice ad19 x19.ks.length c19] 24)) (fun b=>w.heap.size ≤ b) (.slice (some ⟨W19.heap.size,0,none⟩) 2 2) [x18,x19]:=LAt.n2 j20 (by have:=k19.size;show _ ≤ _;omega) (l18.keepR (((KeptR.refl P.R W18).trans b19).alloc _) (by omega)) (l19.keepR ((KeptR.refl P.R W19).alloc _) (by omega))
         go_simp
         go_at_call 42
         refine (node_any 44 ⟨#[]⟩ (some ⟨W19.heap.size,0,none⟩) 2 2 _).mono ?_
         rintro e W21 ⟨rfl,b21'⟩
         have r21:=(r19.bel (B0.alloc le0 _)).bel b21'
         have b21:=KeptR.of (b:=P.R) b21'
         have k21:=(k19.alloc (Obj.cells #[.int .i64 x18.k,.string x18.t,.int .i64 x18.n,.slice ad18 x18.ks.length c18,.int .i64 x19.k,.string x19.t,.int .i64 x19.n,.slice ad19 x19.ks.length c19] 24)).trans b21
         have z21:=k21.size
         refine hK.out _ _ (HMB.out _ k21) ?_
         clear hK K
         refine U_end (by kernel_rfl) ?_
         refine wpAny_ready (rs:=[20]) (by kernel_rfl) (by simp) ?_
         refine AllReady.cons rfl (fun K hK=>?_) AllReady.nil
         have hz : W21.heap[W1.drew.heap.size]?=_:=((((((KeptR.refl P.R _).trans b18).trans b19).alloc _).trans b21).block (W1.drew.heap.size) (by simp) (by have:=(k1.trans (.of (B0.drew))).size;omega)).trans (hnew (w:=W1.drew) _ (by simp))
         have hMW:=hMR.keepR k21 hRB hRM hRN
         have hoW:=hMW.own 1 (by omega)
         rw [e0] at hoW
         have sW:=k21.size
         refine step_append_lies _ (by rfl) _ _ _ (by rfl) B 24 i0 _ 4 56 Tryz.underlying22 hi0 hz0 hz1 hz2 rfl (by omega) _ (F 1).length (rowN (F 1)) (by rfl) hoW ⟨W1.drew.heap.size,0,none⟩ 1 1 [Value.int IntKind.i64 0,Value.string ⟨#[]⟩,Value.int IntKind.i64 0,Value.slice none 0 0] (by rfl) (by rfl) (World.news_of_block (cs:=#[Value.int IntKind.i64 0,Value.string ⟨#[]⟩,Value.int IntKind.i64 0,Value.slice none 0 0]) (t:=24) (fr:=(0,0)) hz) (by simp [Value.oneCell']) (by omega) (by unfold maxLen;omega) (by omega) (by omega) _ rfl ?_
         intro gg cap WA hownA growA hatA hltA
         refine hK _ _ ?_
         clear hK K
         have hggB : B ≤ gg:=by rcases hatA with e | e;exact (row_lt hoW gg e).1;omega
         have hgM : gg ≠ MB:=by omega
         have hMg : MB ≠ gg:=by omega
         obtain ⟨⟨_,_,_,_⟩,_,_,_,_⟩:=own_last hownA
         have vA:=(growA.block MB (by omega) (fun e=>by have:=(row_lt hoW MB e.symm).1;omega)).trans (HMB.out _ k21)
         obtain ⟨⟨_,_,_,_⟩,_,_,_,_⟩:=t4 vA
         have hix : ((F 1).length : Int) < (((F 1).length+1 : Nat) : Int):=by omega
         have lx : LAt W21 (fun b=>w.heap.size ≤ b∧B ≤ b) (Value.slice (some ⟨W19.heap.size,0,none⟩) 2 2) (mk0 44 ⟨#[]⟩ [x18,x19]).ks:=((l20.keepR ((KeptR.refl P.R _).trans b21) (by omega))).mono (fun b hb=>⟨hb,by omega⟩)
         have hD:=fun W4 hW4=>mem_done (i:=1) (x:=(mk0 44 ⟨#[]⟩ [x18,x19])) (W4:=W4) hMW (by omega) hN lx (by rw [e0];exact growA) (by rw [e0];exact hatA) hownA hW4
         have HD : Hid _:=hD
         clear hD
         refine wpAny_take (i:=21) (v:=(.pointer (some ⟨gg,(F 1).length * 4,none⟩))) rfl (by kernel_rfl) (by kernel_rfl) (by kernel_rfl) (fun _ _ _ h=>h) (Or.inl ⟨by rfl,fun w=>by go_simp;intro hh;omega⟩) ?_
         refine tk 23 (.pointer (some ⟨MB,0,none⟩)) ?_
         refine tk 24 (.pointer (some ⟨MB,1,none⟩)) ?_
         refine wpAny_two (i:=22) (j:=25) (is:=[25]) (js:=[22]) (os:=[_]) (us:=[_]) (by kernel_rfl) rfl rfl (by kernel_rfl) (by kernel_rfl) rfl rfl (by decide) (by decide) ?_ ?_
         ·go_wp2
          first
           | go_end0
           | refine bodyPost_ret (results_none rfl _ _ _) rfl ?_
          obtain ⟨d1,d2,d3,d4,d5,d6⟩:=HD.out _ (Or.inl rfl)
          obtain rfl : Rs.ok { m with cs:=m.cs ++ [(mk0 44 ⟨#[]⟩ [x18,x19])] } a19=res:=by rw [← HR.out,ctorM];simp [Rs.bind,mtT,hc,h18,h19]
          have rZ:=r21.keep d5 (d6 _ (by omega) (by omega)) (fun q=>d6 _ (by have:=hb q;omega) (by have:=hb q;omega))
          exact ⟨rfl,rZ,⟨_,_,⟨d1,by rw [upd_other _ _ _ _ (by decide)];exact hm.fs,by rw [upd_same,List.map_append,hm.cs];rfl,by rw [upd_other _ _ _ _ (by decide)];exact hm.ms⟩⟩,⟨d2.trans k21.os,d3.trans k21.tape,d4.trans k21.output,Nat.le_trans k21.size d5,fun k h1 h2 h3 h4=>(d6 k h1 h3).trans (k21.block k (by omega) h2)⟩⟩
         ·go_wp2
          first
           | go_end0
           | refine bodyPost_ret (results_none rfl _ _ _) rfl ?_
          obtain ⟨d1,d2,d3,d4,d5,d6⟩:=HD.out _ (Or.inr rfl)
          obtain rfl : Rs.ok { m with cs:=m.cs ++ [(mk0 44 ⟨#[]⟩ [x18,x19])] } a19=res:=by rw [← HR.out,ctorM];simp [Rs.bind,mtT,hc,h18,h19]
          have rZ:=r21.keep d5 (d6 _ (by omega) (by omega)) (fun q=>d6 _ (by have:=hb q;omega) (by have:=hb q;omega))
          exact ⟨rfl,rZ,⟨_,_,⟨d1,by rw [upd_other _ _ _ _ (by decide)];exact hm.fs,by rw [upd_same,List.map_append,hm.cs];rfl,by rw [upd_other _ _ _ _ (by decide)];exact hm.ms⟩⟩,⟨d2.trans k21.os,d3.trans k21.tape,d4.trans k21.output,Nat.le_trans k21.size d5,fun k h1 h2 h3 h4=>(d6 k h1 h3).trans (k21.block k (by omega) h2)⟩⟩
 ·have i1 : (0 : Int) < ((F 1).length : Int):=by have hF : (F 1).length ≠ 0:=fun e=>hc (by rw [← hm.cs,List.length_eq_zero_iff.1 e];rfl);omega
  obtain ⟨⟨_,_,_,_⟩,_,_,_,_⟩:=t4 blk
  go_enter Tryz.func74,Tryz.ntmps74
  go_wp2_with fail
  go_at_call 72
  refine (wrong_any h).mono ?_
  rintro e W22 ⟨rfl,b22'⟩
  obtain rfl : Rs.bad a 60=res:=by rw [← HR.out,ctorM];simp [Rs.bind,mtT,endM,hc]
  go_wp2
  exact ⟨rfl,rfl,KeptB.of ((KeptR.refl P.R w).trans (.of b22')) hBW⟩
end Go.Proofs.YthfkfbcopinmiaaGreatDoor
