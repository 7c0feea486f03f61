/- Own text. The document's walk over names: a builtin,a name,a type's name is used. The document's walk over names: a type's name is used. -/
import Derived.Test.YtfcocoadaajbjaaGreatDoorGd14
set_option linter.unusedVariables false
set_option linter.unusedSimpArgs false
set_option maxRecDepth 100000
set_option maxHeartbeats 16000000
namespace Go.Proofs.YtfcocoadaajbjaaGreatDoor
open Go.RowKit Go.MapKept
theorem useTop_none {wb B : Nat} {W : World} {d : Dw} {V : Vs} (h : Wv wb B W d V) (nm : ByteArray) (p : Int) (b : Bool) (hn : d.tops.length ≤ 8388608) (hu : d.uses.length ≤ 8388608) (hs : topS d.tops nm=none) :
 Calls Tryz.prog 85 #[.pointer (some ⟨wb,0,none⟩),.string nm,.int .i64 p,.bool b] W (WvB wb B V W (d.useTop nm p b).1 (d.useTop nm p b).2):=by
 obtain ⟨i0,hi0,hz0,hz1,hz2⟩:=info_parts info_us
 have CT:=wtop_any h nm hn
 have CB:=rbuiltins_any W
 obtain ⟨a,c,hv⟩:=rw_form h.u
 have HV : Hid (Wv wb B W d V):=h
 have HU : Hid (V.u = .slice a d.uses.length c):=hv
 have HR : Hid (d.useTop nm p b=if b=true∧bltB nm=true then ({ d with uses:=d.uses ++ [⟨p,1,0,nm,false⟩] },false) else (d.fail p 91,true)):=by
  show _=_
  unfold Dw.useTop
  rw [hs]
 rw [blt_any] at HR
 clear h hv
 go_enter Tryz.func85,Tryz.ntmps85
 go_wp2_with fail
 go_at_call 78
 refine CT.mono ?_
 rintro e W1 ⟨hW,i,rfl,hi⟩
 obtain rfl:=hW.symm
 clear CT
 rcases hi with ⟨h1,rfl⟩ | ⟨k,hk,rfl,h1⟩
 case inr=>rw [hs] at h1;cases h1
 clear h1 hs
 go_wp2_with fail
 go_at_call 103
 refine CB.mono ?_
 rintro e W1 ⟨rfl,b1,m1⟩
 have HC : Hid (∀ k (hk : k < 5),W1.cell? ⟨W.heap.size,k,none⟩=some (.string (BLs[k]'hk))):=fun k hk=>st_cell m1 hk
 have H1 : Hid (Wv wb B W1 d V):=HV.out.bel b1
 have K1 : Hid (Kw wb V W V W1):=Kw.of b1
 clear CB m1 b1
 obtain ⟨⟨_,c1,_⟩,fz⟩:=box8 H1.out.r
 have f1:=fz 1
 rw [HU.out] at c1
 have bB:=H1.out.b
 have own1:=H1.out.u
 rw [HU.out] at own1
 clear fz
 cases b with
 | false =>
  have HR1 : Hid (d.useTop nm p false=(d.fail p 91,true)):=by show _=_;rw [HR.out,if_neg (fun w=>by cases w.1)]
  have CF:=wfail_any H1.out p 91
  clear HR HC own1
  go_wp2
  go_loopw [13] (fun v13 wr=>v13 = .int .i64 0∧wr=W1) (fun _ _=>0)
  case atStart=>exact ⟨rfl,rfl⟩
  case round =>
   obtain ⟨rfl,hW⟩:=hrel
   obtain rfl:=hW.symm
   go_wp2_with fail
   go_at_call 79
   refine CF.mono ?_
   rintro e W2 ⟨rfl,q1,q2⟩
   go_wp2
   go_ret
   exact ⟨by rw [HR1.out];rfl,V,by rw [HR1.out];exact q1,K1.out.trans q2⟩
 | true =>
  go_wp2
  go_loopw [13] (fun v13 wr=>∃ k : Nat,v13 = .int .i64 (k : Nat)∧k ≤ 5∧wr=W1∧Hid (∀ j (hj : j < 5),j < k→eqT (BLs[j]'hj) nm=false)) (fun v13 _=>5 - (intOf v13).toNat)
  case atStart=>exact ⟨0,rfl,by omega,rfl,fun i hi h=>by omega⟩
  case round =>
   obtain ⟨k,rfl,hk,hW,HK⟩:=hrel
   obtain rfl:=hW.symm
   by_cases hkl : k < 5
   ·have ck:=HC.out k hkl
    have hd : (k : Int) < 5:=by omega
    have HN : Hid (eqT (BLs[k]'hkl) nm=false→∀ j (hj : j < 5),j < k+1→eqT (BLs[j]'hj) nm=false):=fun h i hi hik=>by
     by_cases e : i=k
     ·subst e;exact h
     ·exact HK.out i hi (by omega)
    have HI : Hid (eqT (BLs[k]'hkl) nm=true→(BLs.any fun c=>eqT c nm)=true):=fun h=>by
     rw [List.any_eq_true]
     exact ⟨_,List.getElem_mem (l:=BLs) hkl,h⟩
    generalize hz : BLs[k]'hkl=z at *
    clear hz
    unfold eqT at HN
    cases q : (z.toList == nm.toList) with
    | true =>
     have HR1 : Hid (d.useTop nm p true=({ d with uses:=d.uses ++ [⟨p,1,0,nm,false⟩] },false)):=by show _=_;rw [HR.out,if_pos (by rw [HI.out q];simp)]
     have AE:=fun (Y W3 : World) (gg cap : Nat)=>H1.out.addU (W1:=Y) (W3:=W3) (gg:=gg) (cap:=cap) HU.out ⟨p,1,0,nm,false⟩
     have HA : Hid _:=AE
     have HCW : Hid (∀ X : World,X.heap[wb]?=W1.heap[wb]?→X.cell? ⟨wb,1,none⟩=some (.slice a d.uses.length c)):=fun X e=>(World.cell?_of_block (a:=⟨wb,1,none⟩) e).trans c1
     clear HN HI HR AE
     go_wp2_with (at_builtin;refine wpList_append_lies _ (by rfl) _ _ _ (by rfl) B 37 i0 _ 5 48 Tryz.underlying26 hi0 hz0 hz1 hz2 rfl (by omega) _ d.uses.length (usV d.uses) (by rfl) (own1.alloc _) ⟨W1.heap.size,0,none⟩ 1 1 [.int .i64 p,.int .i64 1,.int .i64 0,.string nm,.bool false] (by rfl) (by rfl) (World.news_of_block (cs:=#[.int .i64 p,.int .i64 1,.int .i64 0,.string nm,.bool false]) (t:=37) (fr:=(0,0)) (hnew _ rfl)) (by simp [Value.oneCell']) (by omega) (by unfold maxLen;omega) (by omega) (by simp;omega) _ rfl ?_;intro gg cap W3 r1 r2 r3 r4;obtain ⟨⟨y1,y2⟩,_,k1,k2⟩:=HA.out _ W3 gg cap (bel_a _ _) r1 r2 r3;have y3:=HCW.out W3 y2)
     go_ret
     exact ⟨by rw [HR1.out];rfl,_,by rw [HR1.out];exact k1,K1.out.trans k2⟩
    | false =>
     have HR' : Hid (∀ j (hj : j < 5),j < k+1→eqT (BLs[j]'hj) nm=false):=HN.out q
     clear HN HI own1
     go_wp2
     go_roundw
     case rel=>exact ⟨k+1,by simp,by omega,by trivial,HR'⟩
     case measure=>simp [intOf];omega
   ·obtain rfl : k=5:=by omega
    have HR1 : Hid (d.useTop nm p true=(d.fail p 91,true)):=by
     show _=_
     rw [HR.out,if_neg]
     intro w
     obtain ⟨x,hx,hq⟩:=List.any_eq_true.1 w.2
     obtain ⟨j,hj,rfl⟩:=List.mem_iff_getElem.1 hx
     have:=HK.out j hj hj
     rw [this] at hq
     cases hq
    have CF:=wfail_any H1.out p 91
    clear own1 HR
    go_wp2_with fail
    go_at_call 79
    refine CF.mono ?_
    rintro e W2 ⟨rfl,q1,q2⟩
    go_wp2
    go_ret
    exact ⟨by rw [HR1.out];rfl,V,by rw [HR1.out];exact q1,K1.out.trans q2⟩
theorem useTop_any {wb B : Nat} {W : World} {d : Dw} {V : Vs} (h : Wv wb B W d V) (nm : ByteArray) (p : Int) (b : Bool) (hn : d.tops.length ≤ 8388608) (hu : d.uses.length ≤ 8388608) :
 Calls Tryz.prog 85 #[.pointer (some ⟨wb,0,none⟩),.string nm,.int .i64 p,.bool b] W (WvB wb B V W (d.useTop nm p b).1 (d.useTop nm p b).2):=by
 cases q : topS d.tops nm with
 | none=>exact useTop_none h nm p b hn hu q
 | some t=>exact useTop_some h nm p b hn hu q
theorem wuse_any {wb B : Nat} {W : World} {d : Dw} {V : Vs} (h : Wv wb B W d V) (nm : ByteArray) (p : Int) (hn : d.tops.length ≤ 8388608) (hu : d.uses.length ≤ 8388608) (hl : d.locs.length ≤ 8388608) :
 Calls Tryz.prog 80 #[.pointer (some ⟨wb,0,none⟩),.string nm,.int .i64 p] W (WvB wb B V W (d.use nm p).1 (d.use nm p).2):=by
 obtain ⟨i0,hi0,hz0,hz1,hz2⟩:=info_parts info_us
 have CT:=wlocal_any h nm hl
 have CU:=useTop_any h nm p true hn hu
 obtain ⟨a,c,hv⟩:=rw_form h.u
 have HV : Hid (Wv wb B W d V):=h
 have HU : Hid (V.u = .slice a d.uses.length c):=hv
 have HR : Hid (d.use nm p=match locS d.locs nm with | some l=>({ d with uses:=d.uses ++ [⟨p,2,l.pl,nm,false⟩] },l.fr) | none=>d.useTop nm p true):=rfl
 clear h hv
 go_enter Tryz.func80,Tryz.ntmps80
 go_wp2_with fail
 go_at_call 102
 refine CT.mono ?_
 rintro e W1 ⟨hW,i,rfl,hi⟩
 obtain rfl:=hW.symm
 clear CT
 rcases hi with ⟨h1,rfl⟩ | ⟨k,hk,rfl,h1⟩
 ·have HR1 : Hid (d.use nm p=d.useTop nm p true):=by show _=_;rw [HR.out,h1]
  clear HR h1
  go_wp2_with fail
  go_at_call 85
  refine CU.mono ?_
  rintro e W1 ⟨rfl,V',k1,k2⟩
  go_wp2
  go_ret
  exact ⟨by rw [HR1.out];rfl,V',by rw [HR1.out];exact k1,k2⟩
 ·obtain ⟨g,cc,ev,v0,v1,v2⟩:=lo_at HV.out.l hk
  have HM : Hid (∀ (X : World) (D : Dw) (U : Value),Wv wb B X D { V with u:=U }→D.locs=d.locs→X.cell? ⟨wb,2,none⟩=some (.slice (some ⟨g,0,none⟩) d.locs.length cc)∧X.cell? ⟨g,k * 3+2,none⟩=some (.bool d.locs[k].fr)):=fun X D U q e=>by
   obtain ⟨⟨_,_,c2,_⟩,_⟩:=box8 q.r
   have ql:=q.l
   rw [e] at ql
   obtain ⟨g',cc',ev',_,_,w2⟩:=lo_at ql hk
   have e3 : V.l=_:=ev'
   rw [ev] at e3
   injection e3 with e4 e5 e6
   injection e4 with e4
   injection e4 with e4
   subst e4
   exact ⟨by rw [c2];show some V.l=_;rw [ev],w2⟩
  have HR1 : Hid (d.use nm p=({ d with uses:=d.uses ++ [⟨p,2,d.locs[k].pl,nm,false⟩] },d.locs[k].fr)):=by show _=_;rw [HR.out,h1]
  obtain ⟨⟨_,c1,c2,_⟩,_⟩:=box8 HV.out.r
  rw [HU.out] at c1
  rw [ev] at c2
  have hgl : ∃ cur,W.heap[g]?=some (Obj.cells cur 128 (0,0)):=own_cells HV.out.l (g:=g) (by rw [ev];rfl)
  have HS0 : Hid (∀ X,Below (World.drew W).heap.size (World.drew W) X→X.cell? ⟨wb,1,none⟩=some (.slice a d.uses.length c)∧X.cell? ⟨wb,2,none⟩=some (.slice (some ⟨g,0,none⟩) d.locs.length cc)∧X.cell? ⟨g,k * 3+1,none⟩=some (.int .i64 d.locs[k].pl)):=fun X q=>by
   have qq : Below W.heap.size W X:=(Below.refl _ _).drew.trans q
   obtain ⟨⟨_,x1,x2,_⟩,_⟩:=box8 (HV.out.bel qq).r
   obtain ⟨g',cc',ev',_,w1,_⟩:=lo_at (HV.out.bel qq).l hk
   rw [ev] at ev'
   injection ev' with e4 e5 e6
   injection e4 with e4
   injection e4 with e4
   subst e4
   exact ⟨by rw [x1,HU.out],by rw [x2,ev],w1⟩
  have HA : Hid (∀ (Y W3 : World) (gg cap : Nat),Below (World.drew W).heap.size (World.drew W) Y→W3.ownsRow B 37 5 (.slice (some ⟨gg,0,none⟩) (d.uses.length+1) cap) (d.uses.length+1) (usV d.uses ++ [.int .i64 p,.int .i64 2,.int .i64 d.locs[k].pl,.string nm,.bool false])→Y.grownBy W3 (Value.slice a d.uses.length c).ownBlock→((Value.slice a d.uses.length c).ownBlock=some gg ∨ gg=Y.heap.size) →
   (W3.frozen? ⟨wb,1,none⟩=false∧W3.cell? ⟨wb,1,none⟩=some (.slice a d.uses.length c))∧(W3.cell? ⟨wb,1,none⟩=some (.slice a d.uses.length c)∧W3.cell? ⟨wb,2,none⟩=some (.slice (some ⟨g,0,none⟩) d.locs.length cc)∧W3.cell? ⟨g,k * 3+1,none⟩=some (.int .i64 d.locs[k].pl))∧((W3.setCell ⟨wb,1,none⟩ (.slice (some ⟨gg,0,none⟩) (d.uses.length+1) cap)).cell? ⟨wb,2,none⟩=some (.slice (some ⟨g,0,none⟩) d.locs.length cc)∧(W3.setCell ⟨wb,1,none⟩ (.slice (some ⟨gg,0,none⟩) (d.uses.length+1) cap)).cell? ⟨g,k * 3+2,none⟩=some (.bool d.locs[k].fr)) ∧
    ∃ V',Wv wb B (W3.setCell ⟨wb,1,none⟩ (.slice (some ⟨gg,0,none⟩) (d.uses.length+1) cap)) { d with uses:=d.uses ++ [⟨p,2,d.locs[k].pl,nm,false⟩] } V'∧Kw wb V W V' (W3.setCell ⟨wb,1,none⟩ (.slice (some ⟨gg,0,none⟩) (d.uses.length+1) cap))):=fun Y W3 gg cap q r1 r2 r3=>by
   obtain ⟨⟨f1,e1⟩,kb,k1,k2⟩:=HV.out.addU HU.out ⟨p,2,d.locs[k].pl,nm,false⟩ ((Below.refl _ _).drew.trans q) r1 r2 r3
   obtain ⟨⟨_,x1,x2,_⟩,_⟩:=box8 (e1.trans HV.out.r)
   obtain ⟨cur,hb⟩:=hgl
   have hb3:=(kb hb (by decide)).trans hb
   rw [HU.out] at x1
   rw [ev] at x2
   have w1 : W3.cell? ⟨g,k * 3+1,none⟩=some (.int .i64 d.locs[k].pl):=(World.cell?_of_block (a:=⟨g,k * 3+1,none⟩) (hb3.trans hb.symm)).trans v1
   exact ⟨⟨f1,x1⟩,⟨x1,x2,w1⟩,HM.out _ _ _ k1 rfl,_,k1,k2⟩
  have own2:=(HV.out.bel (Below.refl _ _).drew).u
  rw [HU.out] at own2
  have bB:=HV.out.b
  have hd : (k : Int) < (d.locs.length : Int):=by omega
  clear HR h1 CU HM hgl ev v0 v1 v2
  have HS : Hid _:=HS0.out
  have su0:=HS0.out _ (Below.refl _ _)
  generalize d.locs[k]=z at *
  generalize d.locs.length=nl at *
  go_wp2_with fail
  have su : (fun X : World=>X.cell? ⟨wb,1,none⟩=some (.slice a d.uses.length c)∧X.cell? ⟨wb,2,none⟩=some (.slice (some ⟨g,0,none⟩) nl cc)∧X.cell? ⟨g,k * 3+1,none⟩=some (.int .i64 z.pl)) (World.drew W):=su0
  refine wp_region_U (u:=18) (S:=fun X=>X.cell? ⟨wb,1,none⟩=some (.slice a d.uses.length c)∧X.cell? ⟨wb,2,none⟩=some (.slice (some ⟨g,0,none⟩) nl cc)∧X.cell? ⟨g,k * 3+1,none⟩=some (.int .i64 z.pl)) (by kernel_rfl) ?_
  change wpAnyU _ _ _ _ _ _ _ _ _ (World.drew _)
  refine uT 0 (.pointer (some ⟨wb,0,none⟩)) su ?_
  refine uT 1 (.pointer (some ⟨wb,0,none⟩)) su ?_
  refine uT 2 (.pointer (some ⟨wb,0,none⟩)) su ?_
  refine uT 3 (.pointer (some ⟨wb,1,none⟩)) su ?_
  refine uT 4 (.slice a d.uses.length c) su ?_
  refine uT 5 (.int .i64 p) su ?_
  refine uT 6 (.pointer (some ⟨wb,0,none⟩)) su ?_
  refine uT 7 (.pointer (some ⟨wb,0,none⟩)) su ?_
  refine uT 8 (.pointer (some ⟨wb,2,none⟩)) su ?_
  refine uT 9 (.slice (some ⟨g,0,none⟩) nl cc) su ?_
  refine uT 10 (.int .i64 (k : Nat)) su ?_
  refine uT 11 (.pointer (some ⟨g,k * 3,none⟩)) su ?_
  refine uT 12 (.pointer (some ⟨g,k * 3+1,none⟩)) su ?_
  refine uT 13 (.int .i64 z.pl) su ?_
  refine uT 14 (.string nm) su ?_
  refine uT 15 (.agg #[.int .i64 p,.int .i64 2,.int .i64 z.pl,.string nm,.bool false]) su ?_
  refine U_ready (rs:=[16]) (by kernel_rfl) (by simp) ?_
  refine AllU.cons rfl (by decide) (fun K hK=>?_) AllU.nil
  go_simp
  refine hK.out _ _ (HS.out _ (bel_a _ _)) ?_
  clear hK K
  refine U_ready (rs:=[17]) (by kernel_rfl) (by simp) ?_
  refine AllU.cons rfl (by decide) (fun K hK=>?_) AllU.nil
  refine step_append_lies _ (by rfl) _ _ _ (by rfl) B 37 i0 _ 5 48 Tryz.underlying26 hi0 hz0 hz1 hz2 rfl (by omega) _ d.uses.length (usV d.uses) (by rfl) (own2.alloc _) ⟨(World.drew W).heap.size,0,none⟩ 1 1 [.int .i64 p,.int .i64 2,.int .i64 z.pl,.string nm,.bool false] (by rfl) (by rfl) (World.news_of_block (cs:=#[.int .i64 p,.int .i64 2,.int .i64 z.pl,.string nm,.bool false]) (t:=37) (fr:=(0,0)) (hnew _ (by simp))) (by simp [Value.oneCell']) (by omega) (by unfold maxLen;omega) (by omega) (by simp;omega) ((World.drew W).heap.size+1) (by simp) ?_
  intro gg cap W6 hown6 hgrow hat hlt6
  obtain ⟨⟨w1,w2⟩,w3,hfin⟩:=HA.out _ W6 gg cap (bel_a _ _) hown6 hgrow (by simpa using hat)
  refine hK.out _ _ w3 ?_
  clear hK K
  refine U_end (by kernel_rfl) ?_
  refine wpAny_chain [_,_,_] [18,19,20] _ _ _ _ (by kernel_rfl) rfl (by decide) ?_
  have HFN : Hid _:=hfin
  clear HA HS own2 su su0 hown6 hgrow hat hlt6 w3 c1 c2
  obtain ⟨⟨x4,x5⟩,_⟩:=HFN.out
  go_wp2
  go_ret
  obtain ⟨_,V',k1,k2⟩:=HFN.out
  exact ⟨by rw [HR1.out];rfl,V',by rw [HR1.out];exact k1,k2⟩
theorem useType_any {wb B : Nat} {W : World} {d : Dw} {V : Vs} (h : Wv wb B W d V) (nm : ByteArray) (p : Int) (hn : d.tops.length ≤ 8388608) (hu : d.uses.length ≤ 8388608) :
 Calls Tryz.prog 82 #[.pointer (some ⟨wb,0,none⟩),.string nm,.int .i64 p] W (WvA wb B V W (d.useType nm p)):=by
 obtain ⟨i0,hi0,hz0,hz1,hz2⟩:=info_parts info_us
 have CT:=wtop_any h nm hn
 have CF:=wfail_any h p 91
 obtain ⟨a,c,hv⟩:=rw_form h.u
 have HV : Hid (Wv wb B W d V):=h
 have HU : Hid (V.u = .slice a d.uses.length c):=hv
 have HR : Hid (d.useType nm p=match topS d.tops nm with | some t=>(if t.kd=46 ∨ t.kd=42 ∨ t.kd=61 then { d with uses:=d.uses ++ [⟨p,if t.kd=61 then 4 else 3,t.at_,nm,true⟩] } else d.fail p 91) | none=>d.fail p 91):=rfl
 clear h hv
 go_enter Tryz.func82,Tryz.ntmps82
 go_wp2_with fail
 go_at_call 78
 refine CT.mono ?_
 rintro e W1 ⟨hW,i,rfl,hi⟩
 obtain rfl:=hW.symm
 clear CT
 rcases hi with ⟨h1,rfl⟩ | ⟨k,hk,rfl,h1⟩
 ·have HR1 : Hid (d.useType nm p=d.fail p 91):=by show _=_;rw [HR.out,h1]
  clear HR h1
  go_wp2_with fail
  go_at_call 79
  refine CF.mono ?_
  rintro e W1 ⟨rfl,k1,k2⟩
  go_wp2
  refine bodyPost_ret (results_none rfl _ _ _) rfl ?_
  exact ⟨rfl,V,by rw [HR1.out];exact k1,k2⟩
 ·obtain ⟨g,cc,ev,v0,v1,v2,v3,v4⟩:=tp_at HV.out.t hk
  have HRk : Hid (d.useType nm p=if d.tops[k].kd=46 ∨ d.tops[k].kd=42 ∨ d.tops[k].kd=61 then { d with uses:=d.uses ++ [⟨p,if d.tops[k].kd=61 then 4 else 3,d.tops[k].at_,nm,true⟩] } else d.fail p 91):=by show _=_;rw [HR.out,h1]
  obtain ⟨⟨c0,c1,_⟩,_⟩:=box8 HV.out.r
  rw [HU.out] at c1
  rw [ev] at c0
  have hgl : ∃ cur,W.heap[g]?=some (Obj.cells cur 43 (0,0)):=own_cells HV.out.t (g:=g) (by rw [ev];rfl)
  have HS : Hid (∀ X,Below (World.drew W).heap.size (World.drew W) X→X.cell? ⟨wb,1,none⟩=some (.slice a d.uses.length c)∧X.cell? ⟨wb,0,none⟩=some (.slice (some ⟨g,0,none⟩) d.tops.length cc)∧X.cell? ⟨g,k * 5+2,none⟩=some (.int .i64 d.tops[k].at_)):=fun X q=>by
   have qq : Below W.heap.size W X:=(Below.refl _ _).drew.trans q
   obtain ⟨⟨x0,x1,_⟩,_⟩:=box8 (HV.out.bel qq).r
   obtain ⟨g',cc',ev',_,_,w1,_⟩:=tp_at (HV.out.bel qq).t hk
   rw [ev] at ev'
   injection ev' with e4 e5 e6
   injection e4 with e4
   injection e4 with e4
   subst e4
   exact ⟨by rw [x1,HU.out],by rw [x0,ev],w1⟩
  have HA0 : Hid (∀ (y : Us) (Y W3 : World) (gg cap : Nat),Below (World.drew W).heap.size (World.drew W) Y→W3.ownsRow B 37 5 (.slice (some ⟨gg,0,none⟩) (d.uses.length+1) cap) (d.uses.length+1) (usV d.uses ++ y.cs)→Y.grownBy W3 (Value.slice a d.uses.length c).ownBlock→((Value.slice a d.uses.length c).ownBlock=some gg ∨ gg=Y.heap.size) →
   (W3.frozen? ⟨wb,1,none⟩=false∧W3.cell? ⟨wb,1,none⟩=some (.slice a d.uses.length c))∧(W3.cell? ⟨wb,1,none⟩=some (.slice a d.uses.length c)∧W3.cell? ⟨wb,0,none⟩=some (.slice (some ⟨g,0,none⟩) d.tops.length cc)∧W3.cell? ⟨g,k * 5+2,none⟩=some (.int .i64 d.tops[k].at_)) ∧
    ∃ V',Wv wb B (W3.setCell ⟨wb,1,none⟩ (.slice (some ⟨gg,0,none⟩) (d.uses.length+1) cap)) { d with uses:=d.uses ++ [y] } V'∧Kw wb V W V' (W3.setCell ⟨wb,1,none⟩ (.slice (some ⟨gg,0,none⟩) (d.uses.length+1) cap))):=fun y Y W3 gg cap q r1 r2 r3=>by
   obtain ⟨⟨f1,e1⟩,kb,k1,k2⟩:=HV.out.addU HU.out y ((Below.refl _ _).drew.trans q) r1 r2 r3
   obtain ⟨⟨x0,x1,_⟩,_⟩:=box8 (e1.trans HV.out.r)
   obtain ⟨cur,hb⟩:=hgl
   have hb3:=(kb hb (by decide)).trans hb
   rw [HU.out] at x1
   rw [ev] at x0
   have w1 : W3.cell? ⟨g,k * 5+2,none⟩=some (.int .i64 d.tops[k].at_):=(World.cell?_of_block (a:=⟨g,k * 5+2,none⟩) (hb3.trans hb.symm)).trans v2
   exact ⟨⟨f1,x1⟩,⟨x1,x0,w1⟩,_,k1,k2⟩
  have own2:=(HV.out.bel (Below.refl _ _).drew).u
  rw [HU.out] at own2
  have bB:=HV.out.b
  have hd : (k : Int) < (d.tops.length : Int):=by omega
  have su0:=HS.out _ (Below.refl _ _)
  clear HR h1 hgl ev v0 v2 v3 v4
  generalize d.tops[k]=z at *
  generalize d.tops.length=nl at *
  obtain ⟨zn,tk,ta,zi,zc⟩:=z
  dsimp only at *
  have hk0 : decide ((k : Int) < 0)=false:=by simp
  cases e46 : (tk == 46) with
  | true =>
   have t46 : tk=46:=by simpa using e46
   have e61 : (tk == 61)=false:=by rw [t46];decide
   have HR1 : Hid (d.useType nm p={ d with uses:=d.uses ++ [⟨p,3,ta,nm,true⟩] }):=by show _=_;rw [HRk.out,if_pos (.inl t46),if_neg (by rw [t46];decide)]
   have n46 : (tk != 46)=false:=by rw [t46];decide
   have HA : Hid _:=HA0.out ⟨p,3,ta,nm,true⟩
   clear HRk t46 HA0 CF
   go_wp2_with fail
   have su : (fun X : World=>X.cell? ⟨wb,1,none⟩=some (.slice a d.uses.length c)∧X.cell? ⟨wb,0,none⟩=some (.slice (some ⟨g,0,none⟩) nl cc)∧X.cell? ⟨g,k * 5+2,none⟩=some (.int .i64 ta)) (World.drew W):=su0
   refine wp_region_U (u:=19) (S:=fun X=>X.cell? ⟨wb,1,none⟩=some (.slice a d.uses.length c)∧X.cell? ⟨wb,0,none⟩=some (.slice (some ⟨g,0,none⟩) nl cc)∧X.cell? ⟨g,k * 5+2,none⟩=some (.int .i64 ta)) (by kernel_rfl) ?_
   change wpAnyU _ _ _ _ _ _ _ _ _ (World.drew _)
   refine uT 0 (.pointer (some ⟨wb,0,none⟩)) su ?_
   refine uT 1 (.pointer (some ⟨wb,0,none⟩)) su ?_
   refine uT 2 (.pointer (some ⟨wb,0,none⟩)) su ?_
   refine uT 3 (.pointer (some ⟨wb,1,none⟩)) su ?_
   refine uT 4 (.slice a d.uses.length c) su ?_
   refine uT 5 (.int .i64 p) su ?_
   refine uT 6 (.int .i64 3) su ?_
   refine uT 7 (.pointer (some ⟨wb,0,none⟩)) su ?_
   refine uT 8 (.pointer (some ⟨wb,0,none⟩)) su ?_
   refine uT 9 (.pointer (some ⟨wb,0,none⟩)) su ?_
   refine uT 10 (.slice (some ⟨g,0,none⟩) nl cc) su ?_
   refine uT 11 (.int .i64 (k : Nat)) su ?_
   refine uT 12 (.pointer (some ⟨g,k * 5,none⟩)) su ?_
   refine uT 13 (.pointer (some ⟨g,k * 5+2,none⟩)) su ?_
   refine uT 14 (.int .i64 ta) su ?_
   refine uT 15 (.string nm) su ?_
   refine uT 16 (.agg #[.int .i64 p,.int .i64 3,.int .i64 ta,.string nm,.bool true]) su ?_
   refine U_ready (rs:=[17]) (by kernel_rfl) (by simp) ?_
   refine AllU.cons rfl (by decide) (fun K hK=>?_) AllU.nil
   go_simp
   refine hK.out _ _ (HS.out _ (bel_a _ _)) ?_
   clear hK K
   refine U_ready (rs:=[18]) (by kernel_rfl) (by simp) ?_
   refine AllU.cons rfl (by decide) (fun K hK=>?_) AllU.nil
   refine step_append_lies _ (by rfl) _ _ _ (by rfl) B 37 i0 _ 5 48 Tryz.underlying26 hi0 hz0 hz1 hz2 rfl (by omega) _ d.uses.length (usV d.uses) (by rfl) (own2.alloc _) ⟨(World.drew W).heap.size,0,none⟩ 1 1 [.int .i64 p,.int .i64 3,.int .i64 ta,.string nm,.bool true] (by rfl) (by rfl) (World.news_of_block (cs:=#[.int .i64 p,.int .i64 3,.int .i64 ta,.string nm,.bool true]) (t:=37) (fr:=(0,0)) (hnew _ (by simp))) (by simp [Value.oneCell']) (by omega) (by unfold maxLen;omega) (by omega) (by simp;omega) ((World.drew W).heap.size+1) (by simp) ?_
   intro gg cap W6 hown6 hgrow hat hlt6
   obtain ⟨⟨w1,w2⟩,w3,hfin⟩:=HA.out _ W6 gg cap (bel_a _ _) hown6 hgrow (by simpa using hat)
   refine hK.out _ _ w3 ?_
   clear hK K
   refine U_end (by kernel_rfl) ?_
   refine wpAny_chain [_,_,_] [19,20,21] _ _ _ _ (by kernel_rfl) rfl (by decide) ?_
   have HFN : Hid _:=hfin
   clear HA HS own2 su su0 hown6 hgrow hat hlt6 w3 c0 c1 v1
   go_wp2
   go_end0
   obtain ⟨V',k1,k2⟩:=HFN.out
   exact ⟨rfl,V',by rw [HR1.out];exact k1,k2⟩
  | false =>
   cases e42 : (tk == 42) with
   | true =>
    have t42 : tk=42:=by simpa using e42
    have e61 : (tk == 61)=false:=by rw [t42];decide
    have HR1 : Hid (d.useType nm p={ d with uses:=d.uses ++ [⟨p,3,ta,nm,true⟩] }):=by show _=_;rw [HRk.out,if_pos (.inr (.inl t42)),if_neg (by rw [t42];decide)]
    have n46 : (tk != 46)=true:=by rw [t42];decide
    have n42 : (tk != 42)=false:=by rw [t42];decide
    have HA : Hid _:=HA0.out ⟨p,3,ta,nm,true⟩
    clear HRk t42 HA0 CF
    go_wp2_with fail
    have su : (fun X : World=>X.cell? ⟨wb,1,none⟩=some (.slice a d.uses.length c)∧X.cell? ⟨wb,0,none⟩=some (.slice (some ⟨g,0,none⟩) nl cc)∧X.cell? ⟨g,k * 5+2,none⟩=some (.int .i64 ta)) (World.drew W):=su0
    refine wp_region_U (u:=19) (S:=fun X=>X.cell? ⟨wb,1,none⟩=some (.slice a d.uses.length c)∧X.cell? ⟨wb,0,none⟩=some (.slice (some ⟨g,0,none⟩) nl cc)∧X.cell? ⟨g,k * 5+2,none⟩=some (.int .i64 ta)) (by kernel_rfl) ?_
    change wpAnyU _ _ _ _ _ _ _ _ _ (World.drew _)
    refine uT 0 (.pointer (some ⟨wb,0,none⟩)) su ?_
    refine uT 1 (.pointer (some ⟨wb,0,none⟩)) su ?_
    refine uT 2 (.pointer (some ⟨wb,0,none⟩)) su ?_
    refine uT 3 (.pointer (some ⟨wb,1,none⟩)) su ?_
    refine uT 4 (.slice a d.uses.length c) su ?_
    refine uT 5 (.int .i64 p) su ?_
    refine uT 6 (.int .i64 3) su ?_
    refine uT 7 (.pointer (some ⟨wb,0,none⟩)) su ?_
    refine uT 8 (.pointer (some ⟨wb,0,none⟩)) su ?_
    refine uT 9 (.pointer (some ⟨wb,0,none⟩)) su ?_
    refine uT 10 (.slice (some ⟨g,0,none⟩) nl cc) su ?_
    refine uT 11 (.int .i64 (k : Nat)) su ?_
    refine uT 12 (.pointer (some ⟨g,k * 5,none⟩)) su ?_
    refine uT 13 (.pointer (some ⟨g,k * 5+2,none⟩)) su ?_
    refine uT 14 (.int .i64 ta) su ?_
    refine uT 15 (.string nm) su ?_
    refine uT 16 (.agg #[.int .i64 p,.int .i64 3,.int .i64 ta,.string nm,.bool true]) su ?_
    refine U_ready (rs:=[17]) (by kernel_rfl) (by simp) ?_
    refine AllU.cons rfl (by decide) (fun K hK=>?_) AllU.nil
    go_simp
    refine hK.out _ _ (HS.out _ (bel_a _ _)) ?_
    clear hK K
    refine U_ready (rs:=[18]) (by kernel_rfl) (by simp) ?_
    refine AllU.cons rfl (by decide) (fun K hK=>?_) AllU.nil
    refine step_append_lies _ (by rfl) _ _ _ (by rfl) B 37 i0 _ 5 48 Tryz.underlying26 hi0 hz0 hz1 hz2 rfl (by omega) _ d.uses.length (usV d.uses) (by rfl) (own2.alloc _) ⟨(World.drew W).heap.size,0,none⟩ 1 1 [.int .i64 p,.int .i64 3,.int .i64 ta,.string nm,.bool true] (by rfl) (by rfl) (World.news_of_block (cs:=#[.int .i64 p,.int .i64 3,.int .i64 ta,.string nm,.bool true]) (t:=37) (fr:=(0,0)) (hnew _ (by simp))) (by simp [Value.oneCell']) (by omega) (by unfold maxLen;omega) (by omega) (by simp;omega) ((World.drew W).heap.size+1) (by simp) ?_
    intro gg cap W6 hown6 hgrow hat hlt6
    obtain ⟨⟨w1,w2⟩,w3,hfin⟩:=HA.out _ W6 gg cap (bel_a _ _) hown6 hgrow (by simpa using hat)
    refine hK.out _ _ w3 ?_
    clear hK K
    refine U_end (by kernel_rfl) ?_
    refine wpAny_chain [_,_,_] [19,20,21] _ _ _ _ (by kernel_rfl) rfl (by decide) ?_
    have HFN : Hid _:=hfin
    clear HA HS own2 su su0 hown6 hgrow hat hlt6 w3 c0 c1 v1
    go_wp2
    go_end0
    obtain ⟨V',k1,k2⟩:=HFN.out
    exact ⟨rfl,V',by rw [HR1.out];exact k1,k2⟩
   | false =>
    cases e61 : (tk == 61) with
    | true =>
     have t61 : tk=61:=by simpa using e61
     have HR1 : Hid (d.useType nm p={ d with uses:=d.uses ++ [⟨p,4,ta,nm,true⟩] }):=by show _=_;rw [HRk.out,if_pos (.inr (.inr t61)),if_pos t61]
     have n46 : (tk != 46)=true:=by rw [t61];decide
     have n42 : (tk != 42)=true:=by rw [t61];decide
     have n61 : (tk != 61)=false:=by rw [t61];decide
     have HA : Hid _:=HA0.out ⟨p,4,ta,nm,true⟩
     clear HRk t61 HA0 CF
     go_wp2_with fail
     have su : (fun X : World=>X.cell? ⟨wb,1,none⟩=some (.slice a d.uses.length c)∧X.cell? ⟨wb,0,none⟩=some (.slice (some ⟨g,0,none⟩) nl cc)∧X.cell? ⟨g,k * 5+2,none⟩=some (.int .i64 ta)) (World.drew W):=su0
     refine wp_region_U (u:=19) (S:=fun X=>X.cell? ⟨wb,1,none⟩=some (.slice a d.uses.length c)∧X.cell? ⟨wb,0,none⟩=some (.slice (some ⟨g,0,none⟩) nl cc)∧X.cell? ⟨g,k * 5+2,none⟩=some (.int .i64 ta)) (by kernel_rfl) ?_
     change wpAnyU _ _ _ _ _ _ _ _ _ (World.drew _)
     refine uT 0 (.pointer (some ⟨wb,0,none⟩)) su ?_
     refine uT 1 (.pointer (some ⟨wb,0,none⟩)) su ?_
     refine uT 2 (.pointer (some ⟨wb,0,none⟩)) su ?_
     refine uT 3 (.pointer (some ⟨wb,1,none⟩)) su ?_
     refine uT 4 (.slice a d.uses.length c) su ?_
     refine uT 5 (.int .i64 p) su ?_
     refine uT 6 (.int .i64 4) su ?_
     refine uT 7 (.pointer (some ⟨wb,0,none⟩)) su ?_
     refine uT 8 (.pointer (some ⟨wb,0,none⟩)) su ?_
     refine uT 9 (.pointer (some ⟨wb,0,none⟩)) su ?_
     refine uT 10 (.slice (some ⟨g,0,none⟩) nl cc) su ?_
     refine uT 11 (.int .i64 (k : Nat)) su ?_
     refine uT 12 (.pointer (some ⟨g,k * 5,none⟩)) su ?_
     refine uT 13 (.pointer (some ⟨g,k * 5+2,none⟩)) su ?_
     refine uT 14 (.int .i64 ta) su ?_
     refine uT 15 (.string nm) su ?_
     refine uT 16 (.agg #[.int .i64 p,.int .i64 4,.int .i64 ta,.string nm,.bool true]) su ?_
     refine U_ready (rs:=[17]) (by kernel_rfl) (by simp) ?_
     refine AllU.cons rfl (by decide) (fun K hK=>?_) AllU.nil
     go_simp
     refine hK.out _ _ (HS.out _ (bel_a _ _)) ?_
     clear hK K
     refine U_ready (rs:=[18]) (by kernel_rfl) (by simp) ?_
     refine AllU.cons rfl (by decide) (fun K hK=>?_) AllU.nil
     refine step_append_lies _ (by rfl) _ _ _ (by rfl) B 37 i0 _ 5 48 Tryz.underlying26 hi0 hz0 hz1 hz2 rfl (by omega) _ d.uses.length (usV d.uses) (by rfl) (own2.alloc _) ⟨(World.drew W).heap.size,0,none⟩ 1 1 [.int .i64 p,.int .i64 4,.int .i64 ta,.string nm,.bool true] (by rfl) (by rfl) (World.news_of_block (cs:=#[.int .i64 p,.int .i64 4,.int .i64 ta,.string nm,.bool true]) (t:=37) (fr:=(0,0)) (hnew _ (by simp))) (by simp [Value.oneCell']) (by omega) (by unfold maxLen;omega) (by omega) (by simp;omega) ((World.drew W).heap.size+1) (by simp) ?_
     intro gg cap W6 hown6 hgrow hat hlt6
     obtain ⟨⟨w1,w2⟩,w3,hfin⟩:=HA.out _ W6 gg cap (bel_a _ _) hown6 hgrow (by simpa using hat)
     refine hK.out _ _ w3 ?_
     clear hK K
     refine U_end (by kernel_rfl) ?_
     refine wpAny_chain [_,_,_] [19,20,21] _ _ _ _ (by kernel_rfl) rfl (by decide) ?_
     have HFN : Hid _:=hfin
     clear HA HS own2 su su0 hown6 hgrow hat hlt6 w3 c0 c1 v1
     go_wp2
     go_end0
     obtain ⟨V',k1,k2⟩:=HFN.out
     exact ⟨rfl,V',by rw [HR1.out];exact k1,k2⟩
    | false =>
     have HR1 : Hid (d.useType nm p=d.fail p 91):=by
      show _=_
      rw [HRk.out,if_neg]
      rintro (w | w | w)
      ·simp [w] at e46
      ·simp [w] at e42
      ·simp [w] at e61
     have n46 : (tk != 46)=true:=by simpa using e46
     have n42 : (tk != 42)=true:=by simpa using e42
     have n61 : (tk != 61)=true:=by simpa using e61
     clear HRk HA0 HS su0 own2
     go_wp2_with fail
     go_at_call 79
     refine CF.mono ?_
     rintro e W1 ⟨rfl,k1,k2⟩
     go_wp2
     refine bodyPost_ret (results_none rfl _ _ _) rfl ?_
     exact ⟨rfl,V,by rw [HR1.out];exact k1,k2⟩
end Go.Proofs.YtfcocoadaajbjaaGreatDoor
