/- Own text. The document's walk over names: functions,fields,blocks,what is assigned. The document's walk over names: names that are exported;the walk of any tree. -/
import Derived.Test.YtfcocoadaajbjaaGreatDoorGd20
import Derived.Test.YtfcocoadaajbjaaGreatDoorGd24
set_option linter.unusedVariables false
set_option linter.unusedSimpArgs false
set_option maxRecDepth 100000
set_option maxHeartbeats 32000000
namespace Go.Proofs.YtfcocoadaajbjaaGreatDoor
open Go.RowKit Go.MapKept
theorem wk_41 (x : Nd) (hq : x.k=41) (hdn : isFn x.k=true→∃ a r,x.ks=a :: r∧a.k=12) (hW : ∀ y ∈ x.ks,WkA y) : WkA x:=by
 intro wb B W d V v p h hx ht hu hl hp hz hs
 obtain ⟨av,cv,rfl⟩:=hx.sl
 obtain ⟨W0,hW0,H0,K0,M0,n0,n1,n2,n3⟩:=wpre (x:=x) (.slice av x.ks.length cv) h
 have HV : Hid _:=h
 have HX : Hid _:=hx
 have HW : Hid (∀ y ∈ x.ks,WkA y):=hW
 obtain ⟨⟨_,_,c2,c3,c4,_⟩,fz⟩:=box8 H0.out.r
 have HSZ : Hid (x.size=1+sizes x.ks):=x.size_eq
 have hsz:=HSZ.out
 have hlc:=lcl x
 have e6 : (x.k == 6)=false:=by rw [hq];decide
 have e20 : (x.k == 20)=false:=by rw [hq];decide
 have e30 : (x.k == 30)=false:=by rw [hq];decide
 have e18 : (x.k == 18)=false:=by rw [hq];decide
 have e7 : (x.k == 7)=false:=by rw [hq];decide
 have e50 : (x.k == 50)=false:=by rw [hq];decide
 have e11 : (x.k == 11)=false:=by rw [hq];decide
 have e41 : (x.k == 41)=true:=by rw [hq];decide
 obtain ⟨a,r,hxa,_⟩:=hdn (by rw [hq];decide)
 have hlc2 : a.ks.length+lcL x.ks ≤ lcN x:=by
  obtain ⟨k,t,n,ks⟩:=x
  have hq : k=41:=hq
  have hxa : ks=a :: r:=hxa
  subst hq hxa
  rw [lcN,if_pos (by decide)]
  exact Nat.le_refl _
 have HR : Hid (dwalk x p d=d.body a.ks x.ks p false):=by
  obtain ⟨k,t,n,ks⟩:=x
  have hq : k=41:=hq
  subst hq
  have hxa : ks=a :: r:=hxa
  subst hxa
  show dwalk (.mk 41 t n _) p d=_
  rw [dwalk.eq_def]
  dsimp only
  rw [if_neg (by decide),if_neg (by decide),if_neg (by decide),if_neg (by decide),if_neg (by decide),if_neg (by decide),if_pos (by decide)]
  rfl
 have CB:=wbody_any x HW.out hxa (.slice av x.ks.length cv) p false H0.out (HV.out.lat K0.out HX.out) ht (by omega) (by omega) hp hz hs
 unfold Nd.v at CB
 clear h hx hq hW
 clear hxa
 unfold nO at hW0
 unfold Nd.v
 clear hsz
 go_enter Tryz.func48,Tryz.ntmps48
 go_wp2_with fail
 go_at_call 83
 refine CB.mono ?_
 rintro e W1 ⟨rfl,V1,k1,k2⟩
 clear CB
 go_wp2
 go_end0
 exact ⟨rfl,V1,by rw [HR.out];exact k1,K0.out.trans k2⟩
theorem wk_44 (x : Nd) (hq : x.k=44) (hdn : isFn x.k=true→∃ a r,x.ks=a :: r∧a.k=12) (hW : ∀ y ∈ x.ks,WkA y) : WkA x:=by
 intro wb B W d V v p h hx ht hu hl hp hz hs
 obtain ⟨av,cv,rfl⟩:=hx.sl
 obtain ⟨W0,hW0,H0,K0,M0,n0,n1,n2,n3⟩:=wpre (x:=x) (.slice av x.ks.length cv) h
 have HV : Hid _:=h
 have HX : Hid _:=hx
 have HW : Hid (∀ y ∈ x.ks,WkA y):=hW
 obtain ⟨⟨_,_,c2,c3,c4,_⟩,fz⟩:=box8 H0.out.r
 have HSZ : Hid (x.size=1+sizes x.ks):=x.size_eq
 have hsz:=HSZ.out
 have hlc:=lcl x
 have e6 : (x.k == 6)=false:=by rw [hq];decide
 have e20 : (x.k == 20)=false:=by rw [hq];decide
 have e30 : (x.k == 30)=false:=by rw [hq];decide
 have e18 : (x.k == 18)=false:=by rw [hq];decide
 have e7 : (x.k == 7)=false:=by rw [hq];decide
 have e50 : (x.k == 50)=false:=by rw [hq];decide
 have e11 : (x.k == 11)=false:=by rw [hq];decide
 have e41 : (x.k == 41)=false:=by rw [hq];decide
 have e44 : (x.k == 44)=true:=by rw [hq];decide
 obtain ⟨a,r,hxa,_⟩:=hdn (by rw [hq];decide)
 have hlc2 : a.ks.length+lcL x.ks ≤ lcN x:=by
  obtain ⟨k,t,n,ks⟩:=x
  have hq : k=44:=hq
  have hxa : ks=a :: r:=hxa
  subst hq hxa
  rw [lcN,if_pos (by decide)]
  exact Nat.le_refl _
 have HR : Hid (dwalk x p d=d.body a.ks x.ks p true):=by
  obtain ⟨k,t,n,ks⟩:=x
  have hq : k=44:=hq
  subst hq
  have hxa : ks=a :: r:=hxa
  subst hxa
  show dwalk (.mk 44 t n _) p d=_
  rw [dwalk.eq_def]
  dsimp only
  rw [if_neg (by decide),if_neg (by decide),if_neg (by decide),if_neg (by decide),if_neg (by decide),if_neg (by decide),if_pos (by decide)]
  rfl
 have CB:=wbody_any x HW.out hxa (.slice av x.ks.length cv) p true H0.out (HV.out.lat K0.out HX.out) ht (by omega) (by omega) hp hz hs
 unfold Nd.v at CB
 clear h hx hq hW
 clear hxa
 unfold nO at hW0
 unfold Nd.v
 clear hsz
 go_enter Tryz.func48,Tryz.ntmps48
 go_wp2_with fail
 go_at_call 83
 refine CB.mono ?_
 rintro e W1 ⟨rfl,V1,k1,k2⟩
 clear CB
 go_wp2
 go_end0
 exact ⟨rfl,V1,by rw [HR.out];exact k1,K0.out.trans k2⟩
theorem wk_45 (x : Nd) (hq : x.k=45) (hdn : isFn x.k=true→∃ a r,x.ks=a :: r∧a.k=12) (hW : ∀ y ∈ x.ks,WkA y) : WkA x:=by
 intro wb B W d V v p h hx ht hu hl hp hz hs
 obtain ⟨av,cv,rfl⟩:=hx.sl
 obtain ⟨W0,hW0,H0,K0,M0,n0,n1,n2,n3⟩:=wpre (x:=x) (.slice av x.ks.length cv) h
 have HV : Hid _:=h
 have HX : Hid _:=hx
 have HW : Hid (∀ y ∈ x.ks,WkA y):=hW
 obtain ⟨⟨_,_,c2,c3,c4,_⟩,fz⟩:=box8 H0.out.r
 have HSZ : Hid (x.size=1+sizes x.ks):=x.size_eq
 have hsz:=HSZ.out
 have hlc:=lcl x
 have e6 : (x.k == 6)=false:=by rw [hq];decide
 have e20 : (x.k == 20)=false:=by rw [hq];decide
 have e30 : (x.k == 30)=false:=by rw [hq];decide
 have e18 : (x.k == 18)=false:=by rw [hq];decide
 have e7 : (x.k == 7)=false:=by rw [hq];decide
 have e50 : (x.k == 50)=false:=by rw [hq];decide
 have e11 : (x.k == 11)=false:=by rw [hq];decide
 have e41 : (x.k == 41)=false:=by rw [hq];decide
 have e44 : (x.k == 44)=false:=by rw [hq];decide
 have e45 : (x.k == 45)=true:=by rw [hq];decide
 obtain ⟨a,r,hxa,_⟩:=hdn (by rw [hq];decide)
 have hlc2 : a.ks.length+lcL x.ks ≤ lcN x:=by
  obtain ⟨k,t,n,ks⟩:=x
  have hq : k=45:=hq
  have hxa : ks=a :: r:=hxa
  subst hq hxa
  rw [lcN,if_pos (by decide)]
  exact Nat.le_refl _
 have HR : Hid (dwalk x p d=d.body a.ks x.ks p true):=by
  obtain ⟨k,t,n,ks⟩:=x
  have hq : k=45:=hq
  subst hq
  have hxa : ks=a :: r:=hxa
  subst hxa
  show dwalk (.mk 45 t n _) p d=_
  rw [dwalk.eq_def]
  dsimp only
  rw [if_neg (by decide),if_neg (by decide),if_neg (by decide),if_neg (by decide),if_neg (by decide),if_neg (by decide),if_pos (by decide)]
  rfl
 have CB:=wbody_any x HW.out hxa (.slice av x.ks.length cv) p true H0.out (HV.out.lat K0.out HX.out) ht (by omega) (by omega) hp hz hs
 unfold Nd.v at CB
 clear h hx hq hW
 clear hxa
 unfold nO at hW0
 unfold Nd.v
 clear hsz
 go_enter Tryz.func48,Tryz.ntmps48
 go_wp2_with fail
 go_at_call 83
 refine CB.mono ?_
 rintro e W1 ⟨rfl,V1,k1,k2⟩
 clear CB
 go_wp2
 go_end0
 exact ⟨rfl,V1,by rw [HR.out];exact k1,K0.out.trans k2⟩
theorem wk_11 (x : Nd) (hq : x.k=11) (hdn : isFn x.k=true→∃ a r,x.ks=a :: r∧a.k=12) (hW : ∀ y ∈ x.ks,WkA y) : WkA x:=by
 intro wb B W d V v p h hx ht hu hl hp hz hs
 obtain ⟨av,cv,rfl⟩:=hx.sl
 obtain ⟨W0,hW0,H0,K0,M0,n0,n1,n2,n3⟩:=wpre (x:=x) (.slice av x.ks.length cv) h
 have HV : Hid _:=h
 have HX : Hid _:=hx
 have HW : Hid (∀ y ∈ x.ks,WkA y):=hW
 obtain ⟨⟨_,_,c2,c3,c4,_⟩,fz⟩:=box8 H0.out.r
 have HSZ : Hid (x.size=1+sizes x.ks):=x.size_eq
 have hsz:=HSZ.out
 have hlc:=lcl x
 have e6 : (x.k == 6)=false:=by rw [hq];decide
 have e20 : (x.k == 20)=false:=by rw [hq];decide
 have e30 : (x.k == 30)=false:=by rw [hq];decide
 have e18 : (x.k == 18)=false:=by rw [hq];decide
 have e7 : (x.k == 7)=false:=by rw [hq];decide
 have e50 : (x.k == 50)=false:=by rw [hq];decide
 have e11 : (x.k == 11)=true:=by rw [hq];decide
 obtain ⟨a,r,hxa,_⟩:=hdn (by rw [hq];decide)
 have hlc2 : a.ks.length+lcL x.ks ≤ lcN x:=by
  obtain ⟨k,t,n,ks⟩:=x
  have hq : k=11:=hq
  have hxa : ks=a :: r:=hxa
  subst hq hxa
  rw [lcN,if_pos (by decide)]
  exact Nat.le_refl _
 have HR : Hid (dwalk x p d=d.body a.ks x.ks p d.this):=by
  obtain ⟨k,t,n,ks⟩:=x
  have hq : k=11:=hq
  subst hq
  have hxa : ks=a :: r:=hxa
  subst hxa
  show dwalk (.mk 11 t n _) p d=_
  rw [dwalk.eq_def]
  dsimp only
  rw [if_neg (by decide),if_neg (by decide),if_neg (by decide),if_neg (by decide),if_neg (by decide),if_neg (by decide),if_pos (by decide)]
  rfl
 have CB:=wbody_any x HW.out hxa (.slice av x.ks.length cv) p d.this (H0.out.bel (Below.refl _ _).drew) (HV.out.lat (K0.out.trans (Kw.of (Below.refl _ _).drew)) HX.out) ht (by omega) (by omega) hp hz hs
 unfold Nd.v at CB
 clear h hx hq hW
 clear hxa
 unfold nO at hW0
 unfold Nd.v
 clear hsz
 go_enter Tryz.func48,Tryz.ntmps48
 go_wp2_with fail
 refine region_held (fun X=>X.cell? ⟨W.heap.size,0,none⟩=some (.int .i64 x.k)∧X.cell? ⟨W.heap.size,1,none⟩=some (.string x.t)∧X.cell? ⟨W.heap.size,2,none⟩=some (.int .i64 x.n)∧X.cell? ⟨W.heap.size,3,none⟩=some (.slice av x.ks.length cv)∧X.cell? ⟨wb,3,none⟩=some (.bool d.this)) (by kernel_rfl) ⟨n0,n1,n2,n3,c3⟩ (fun hS=>?_)
 refine wpAnyH_take (i:=0) (v:=(.pointer (some ⟨wb,0,none⟩))) rfl (by kernel_rfl) (by kernel_rfl) (by kernel_rfl) (fun _ _ _ h=>h) (Or.inl ⟨by rfl,fun w _=>by go_simp⟩) hS ?_
 refine wpAnyH_take (i:=1) (v:=(.agg #[.int .i64 x.k,.string x.t,.int .i64 x.n,.slice av x.ks.length cv])) rfl (by kernel_rfl) (by kernel_rfl) (by kernel_rfl) (fun _ _ _ h=>h) (Or.inl ⟨by rfl,fun w hw=>by obtain ⟨l0,l1,l2,l3,l4⟩:=hw;go_simp⟩) hS ?_
 refine wpAnyH_take (i:=2) (v:=(.int .i64 p)) rfl (by kernel_rfl) (by kernel_rfl) (by kernel_rfl) (fun _ _ _ h=>h) (Or.inl ⟨by rfl,fun w _=>by go_simp⟩) hS ?_
 refine wpAnyH_take (i:=3) (v:=(.pointer (some ⟨wb,0,none⟩))) rfl (by kernel_rfl) (by kernel_rfl) (by kernel_rfl) (fun _ _ _ h=>h) (Or.inl ⟨by rfl,fun w _=>by go_simp⟩) hS ?_
 refine wpAnyH_take (i:=4) (v:=(.pointer (some ⟨wb,0,none⟩))) rfl (by kernel_rfl) (by kernel_rfl) (by kernel_rfl) (fun _ _ _ h=>h) (Or.inl ⟨by rfl,fun w _=>by go_simp⟩) hS ?_
 refine wpAnyH_take (i:=5) (v:=(.pointer (some ⟨wb,3,none⟩))) rfl (by kernel_rfl) (by kernel_rfl) (by kernel_rfl) (fun _ _ _ h=>h) (Or.inl ⟨by rfl,fun w _=>by go_simp⟩) hS ?_
 refine wpAnyH_take (i:=6) (v:=(.bool d.this)) rfl (by kernel_rfl) (by kernel_rfl) (by kernel_rfl) (fun _ _ _ h=>h) (Or.inl ⟨by rfl,fun w hw=>by obtain ⟨l0,l1,l2,l3,l4⟩:=hw;go_simp⟩) hS ?_
 refine wpAnyH_ready (rs:=[7]) (by kernel_rfl) (by simp) ?_
 refine AllReadyH.cons rfl (fun K hK=>?_) AllReadyH.nil
 go_simp
 go_at_call 83
 refine CB.mono ?_
 rintro e W1 ⟨rfl,V1,k1,k2⟩
 clear CB
 have m1:=(H0.out.bel (Below.refl _ _).drew).keptN' k2 M0.out
 obtain ⟨⟨z0,z1,z2,z3⟩,_⟩:=box4 m1
 obtain ⟨⟨_,_,_,z4,_⟩,_⟩:=box8 k1.r
 refine hK.out _ _ ⟨z0,z1,z2,z3,z4⟩ (fun hS4=>?_)
 clear hK K hS hS4 z0 z1 z2 z3 z4 m1
 refine wpAnyH_done (by kernel_rfl) ?_ _
 go_wp2
 go_end0
 exact ⟨rfl,V1,by rw [HR.out];exact k1,(K0.out.trans (Kw.of (Below.refl _ _).drew)).trans k2⟩
theorem wk_43 (x : Nd) (hq : x.k=43) (hW : ∀ y ∈ x.ks,WkA y) : WkA x:=by
 intro wb B W d V v p h hx ht hu hl hp hz hs
 obtain ⟨av,cv,rfl⟩:=hx.sl
 obtain ⟨W0,hW0,H0,K0,M0,n0,n1,n2,n3⟩:=wpre (x:=x) (.slice av x.ks.length cv) h
 have HV : Hid _:=h
 have HX : Hid _:=hx
 have HW : Hid (∀ y ∈ x.ks,WkA y):=hW
 obtain ⟨⟨_,_,c2,c3,c4,_⟩,fz⟩:=box8 H0.out.r
 have HSZ : Hid (x.size=1+sizes x.ks):=x.size_eq
 have hsz:=HSZ.out
 have hlc:=lcl x
 have e6 : (x.k == 6)=false:=by rw [hq];decide
 have e20 : (x.k == 20)=false:=by rw [hq];decide
 have e30 : (x.k == 30)=false:=by rw [hq];decide
 have e18 : (x.k == 18)=false:=by rw [hq];decide
 have e7 : (x.k == 7)=false:=by rw [hq];decide
 have e50 : (x.k == 50)=false:=by rw [hq];decide
 have e11 : (x.k == 11)=false:=by rw [hq];decide
 have e41 : (x.k == 41)=false:=by rw [hq];decide
 have e44 : (x.k == 44)=false:=by rw [hq];decide
 have e45 : (x.k == 45)=false:=by rw [hq];decide
 have e43 : (x.k == 43)=true:=by rw [hq];decide
 have HR : Hid (dwalk x p d={ dkids x.ks (p+1) { d with this:=true } with this:=d.this }):=by
  obtain ⟨k,t,n,ks⟩:=x
  have hq : k=43:=hq
  subst hq
  show dwalk (.mk 43 t n _) p d=_
  rw [dwalk.eq_def]
  dsimp only
  rw [if_neg (by decide),if_neg (by decide),if_neg (by decide),if_neg (by decide),if_neg (by decide),if_neg (by decide),if_neg (by decide),if_pos (by decide)]
  try rfl
 clear h hx hq hW
 obtain ⟨v1,k1⟩:=H0.out.setThis true
 obtain ⟨W1,hW1⟩ : ∃ X,W0.setCell ⟨wb,3,none⟩ (.bool true)=X:=⟨_,rfl⟩
 rw [hW1] at v1 k1
 have f3:=fz 3
 have M1 : Hid _:=H0.out.keptN' k1 M0.out
 have H1 : Hid _:=v1
 have K1 : Hid _:=K0.out.trans k1
 obtain ⟨⟨z0,z1,z2,z3⟩,_⟩:=box4 M1.out
 have CK:=wkids_any x HW.out (.slice av x.ks.length cv) p H1.out (HV.out.lat K1.out HX.out) (show _ ≤ _ from ht) (show d.uses.length+_ ≤ _ by have:=HSZ.out;omega) (show d.locs.length+_ ≤ _ by omega) hp hz hs
 unfold Nd.v at CK
 clear v1 k1
 unfold nO at hW0
 unfold Nd.v
 clear hsz
 go_enter Tryz.func48,Tryz.ntmps48
 go_wp2_with fail
 go_at_call 23
 refine CK.mono ?_
 rintro e W8 ⟨rfl,V8,k8,k9⟩
 clear CK n0 n1 n2 n3 z0 z1 z2 z3 hW1 hW0 c2 c3 c4
 obtain ⟨v2,k2⟩:=k8.setThis d.this
 obtain ⟨⟨_,_,_,c8,_⟩,fz8⟩:=box8 k8.r
 have f8:=fz8 3
 have HE : Hid (_∧_):=And.intro v2 (K1.out.trans (k9.trans k2))
 clear k8 k9 v2 k2 fz f3 fz8
 generalize (dkids x.ks (p+1) { d with this:=true }).this=th8 at *
 go_wp2
 go_end0
 exact ⟨rfl,_,by rw [HR.out];exact HE.out.1,HE.out.2⟩
theorem wk_52 (x : Nd) (hq : x.k=52) (hW : ∀ y ∈ x.ks,WkA y) : WkA x:=by
 intro wb B W d V v p h hx ht hu hl hp hz hs
 obtain ⟨av,cv,rfl⟩:=hx.sl
 obtain ⟨W0,hW0,H0,K0,M0,n0,n1,n2,n3⟩:=wpre (x:=x) (.slice av x.ks.length cv) h
 have HV : Hid _:=h
 have HX : Hid _:=hx
 have HW : Hid (∀ y ∈ x.ks,WkA y):=hW
 obtain ⟨⟨_,_,c2,c3,c4,_⟩,fz⟩:=box8 H0.out.r
 have HSZ : Hid (x.size=1+sizes x.ks):=x.size_eq
 have hsz:=HSZ.out
 have hlc:=lcl x
 have e6 : (x.k == 6)=false:=by rw [hq];decide
 have e20 : (x.k == 20)=false:=by rw [hq];decide
 have e30 : (x.k == 30)=false:=by rw [hq];decide
 have e18 : (x.k == 18)=false:=by rw [hq];decide
 have e7 : (x.k == 7)=false:=by rw [hq];decide
 have e50 : (x.k == 50)=false:=by rw [hq];decide
 have e11 : (x.k == 11)=false:=by rw [hq];decide
 have e41 : (x.k == 41)=false:=by rw [hq];decide
 have e44 : (x.k == 44)=false:=by rw [hq];decide
 have e45 : (x.k == 45)=false:=by rw [hq];decide
 have e43 : (x.k == 43)=false:=by rw [hq];decide
 have e52 : (x.k == 52)=true:=by rw [hq];decide
 have HR : Hid (dwalk x p d={ dkids x.ks (p+1) (Dw.hold x.ks (p+1) d.locs.length d) with locs:=(dkids x.ks (p+1) (Dw.hold x.ks (p+1) d.locs.length d)).locs.take d.locs.length }):=by
  obtain ⟨k,t,n,ks⟩:=x
  have hq : k=52:=hq
  subst hq
  show dwalk (.mk 52 t n _) p d=_
  rw [dwalk.eq_def]
  dsimp only
  rw [if_neg (by decide),if_neg (by decide),if_neg (by decide),if_neg (by decide),if_neg (by decide),if_neg (by decide),if_neg (by decide),if_neg (by decide),if_pos (by decide)]
  try rfl
 have hlc2 : x.ks.length+lcL x.ks ≤ lcN x:=by
  obtain ⟨k,t,n,ks⟩:=x
  have hq : k=52:=hq
  subst hq
  rw [lcN,if_neg (by decide),if_pos rfl]
  exact Nat.le_refl _
 have hlk : x.ks.length ≤ sizes x.ks:=sizes_len _
 clear h hx hq hW
 obtain ⟨al,cl,hlv⟩:=rw_form H0.out.l
 rw [hlv] at c2
 have CH:=hold_any H0.out x.ks (.slice av x.ks.length cv) (HV.out.lat K0.out HX.out) (p+1) d.locs.length (Nat.le_refl _) (by omega) (by omega) (by omega) (by omega)
 have HF : Hid ((Dw.hold x.ks (p+1) d.locs.length d).tops=d.tops∧d.locs.length ≤ (Dw.hold x.ks (p+1) d.locs.length d).locs.length∧(Dw.hold x.ks (p+1) d.locs.length d).locs.length ≤ d.locs.length+x.ks.length∧(Dw.hold x.ks (p+1) d.locs.length d).uses=d.uses):=by
  obtain ⟨g1,g2,g3⟩:=hold_fr x.ks (p+1) d
  exact ⟨g1,g2,g3,hold_us _ _ _ _⟩
 generalize Dw.hold x.ks (p+1) d.locs.length d=D1 at *
 clear hlv hlk
 unfold nO at hW0
 unfold Nd.v
 clear hsz
 go_enter Tryz.func48,Tryz.ntmps48
 go_wp2_with fail
 go_at_call 84
 refine CH.mono ?_
 rintro e W1 ⟨rfl,V1,k1,k2⟩
 clear CH n0 n1 n2 n3 hW0 c2 c3 c4 fz
 have M1 : Hid _:=H0.out.keptN' k2 M0.out
 have H1 : Hid _:=k1
 have K1 : Hid _:=K0.out.trans k2
 clear k1 k2
 obtain ⟨⟨n0,n1,n2,n3⟩,_⟩:=box4 M1.out
 obtain ⟨g1,g2,g3,g4⟩:=HF.out
 have G2 : Hid _:=g2
 have CK:=wkids_any x HW.out (.slice av x.ks.length cv) p H1.out (HV.out.lat K1.out HX.out) (by rw [g1];exact ht) (by rw [g4];have:=HSZ.out;omega) (by omega) hp hz hs
 unfold Nd.v at CK
 clear g1 g2 g3 g4
 go_wp2_with fail
 go_at_call 23
 refine CK.mono ?_
 rintro e W8 ⟨rfl,V8,k8,k9⟩
 clear CK n0 n1 n2 n3
 have hlo : d.locs.length ≤ (dkids x.ks (p+1) D1).locs.length:=by rw [(dks_fr x.ks (p+1) D1).2];exact G2.out
 obtain ⟨al2,cl2,hl4⟩:=rw_form k8.l
 obtain ⟨⟨_,_,c2,_⟩,fz⟩:=box8 k8.r
 rw [hl4] at c2
 obtain ⟨v5,k7⟩:=k8.cut hl4 d.locs.length hlo
 have hcp:=rw_cap (hl4 ▸ k8.l)
 have f2:=fz 2
 have HE : Hid (_∧_):=And.intro v5 (K1.out.trans (k9.trans k7))
 clear v5 k7 k8 k9 fz hl4 G2 HF
 generalize dkids x.ks (p+1) D1=D2 at *
 go_wp2
 go_end0
 exact ⟨rfl,_,by rw [HR.out];exact HE.out.1,HE.out.2⟩
theorem wk_18 (x : Nd) (hq : x.k=18) (hdn : x.k=18→∃ a b,x.ks=[a,b]) (hW : ∀ y ∈ x.ks,WkA y) : WkA x:=by
 intro wb B W d V v p h hx ht hu hl hp hz hs
 obtain ⟨av,cv,rfl⟩:=hx.sl
 obtain ⟨W0,hW0,H0,K0,M0,n0,n1,n2,n3⟩:=wpre (x:=x) (.slice av x.ks.length cv) h
 have HV : Hid _:=h
 have HX : Hid _:=hx
 have HW : Hid (∀ y ∈ x.ks,WkA y):=hW
 obtain ⟨⟨_,_,c2,c3,c4,_⟩,fz⟩:=box8 H0.out.r
 have HSZ : Hid (x.size=1+sizes x.ks):=x.size_eq
 have hsz:=HSZ.out
 have hlc:=lcl x
 have e6 : (x.k == 6)=false:=by rw [hq];decide
 have e20 : (x.k == 20)=false:=by rw [hq];decide
 have e30 : (x.k == 30)=false:=by rw [hq];decide
 have e18 : (x.k == 18)=true:=by rw [hq];decide
 obtain ⟨a,b,hxa⟩:=hdn hq
 obtain ⟨ax,cx,bx,ox,fx,hva,px,qx,rx⟩:=hx.op
 have hln : x.ks.length=2:=by rw [hxa];rfl
 obtain ⟨rfl,hb1,hb2⟩:=px (by omega)
 injection hva with hva1 _ hva2
 subst hva1 hva2
 have e0 : x.ks[0]'(by omega)=a:=by simp [hxa]
 have e1 : x.ks[1]'(by omega)=b:=by simp [hxa]
 have q0:=qx 0 (by omega)
 have q1:=qx 1 (by omega)
 have r1:=rx 1 (by omega)
 rw [e0] at q0
 rw [e1] at q1 r1
 obtain ⟨af,cf,hf1⟩:=r1.sl
 rw [hf1] at q1 r1
 have HQ0 : Hid (∀ (X : World) (V2 : Vs),Kw wb V W V2 X→X.cell? ⟨bx,ox,none⟩=some (.int .i64 a.k)∧X.cell? ⟨bx,ox+1,none⟩=some (.string a.t)):=fun X V2 q=>by
  have:=q0.of_block ((HV.out.below q).block bx hb1)
  exact ⟨by simpa using this.1,by simpa using this.2.1⟩
 have HQ1 : Hid (∀ (X : World) (V2 : Vs),Kw wb V W V2 X→NqO X bx (ox+4) b.k b.t b.n af b.ks.length cf):=fun X V2 q=>by
  have:=q1.of_block ((HV.out.below q).block bx hb1)
  exact ⟨by simpa using this.1,by simpa using this.2.1,by simpa using this.2.2.1,by simpa using this.2.2.2⟩
 have HR1 : Hid (∀ (X : World) (V2 : Vs),Kw wb V W V2 X→LAt X (fun b=>b < B) (.slice af b.ks.length cf) b.ks):=fun X V2 q=>HV.out.lat q r1
 have HWb : Hid (WkA b):=hW b (by rw [hxa];simp)
 have sz2 : x.size=1+(a.size+b.size):=by rw [x.size_eq,hxa,sizes_cons,sizes_cons,sizes_nil];omega
 have sa:=a.size_pos
 have sb:=b.size_pos
 have lb : lcN b ≤ lcL x.ks:=lcL_mem (by rw [hxa];simp)
 have HR : Hid (dwalk x p d=if a.k=6 then dwalk b (p+2) (if (d.use a.t (p+1)).2=true then (d.use a.t (p+1)).1 else (d.use a.t (p+1)).1.fail p 92) else dkids x.ks (p+1) d):=by
  obtain ⟨k,t,n,ks⟩:=x
  have hq : k=18:=hq
  have hxa : ks=[a,b]:=hxa
  subst hq hxa
  show dwalk (.mk 18 t n [a,b]) p d=_
  rw [dwalk.eq_def]
  dsimp only
  rw [if_neg (by decide),if_neg (by decide),if_neg (by decide),if_pos (by decide)]
  show (if a.k=6 then dkids [b] (p+2) _ else dkids [b] (p+1+a.size) (dwalk a (p+1) d))=(if a.k=6 then _ else dkids [a,b] (p+1) d)
  simp only [dkids]
 rw [hln] at n3 hW0 M0 HX ⊢
 clear h hx hq hW
 clear hxa q0 q1 r1 hf1 e0 e1 rx qx px hb2
 obtain ⟨y1,y2⟩:=HQ0.out _ _ K0.out
 obtain ⟨u1,u2,u3,u4⟩:=HQ1.out _ _ K0.out
 cases w6 : (a.k == 6) with
 | true =>
  have CU:=wuse_any H0.out a.t (p+1) ht (by omega) (by omega)
  unfold nO at hW0
  unfold Nd.v
  clear hsz
  go_enter Tryz.func48,Tryz.ntmps48
  go_wp2_with fail
  go_at_call 80
  refine CU.mono ?_
  rintro e W1 ⟨rfl,V1,k1,k2⟩
  clear CU n0 n1 n2 n3 hW0 c2 c3 c4 fz y1 y2 u1 u2 u3 u4
  have M1 : Hid _:=H0.out.keptN' k2 M0.out
  have H1 : Hid _:=k1
  have K1 : Hid _:=K0.out.trans k2
  clear k1 k2
  obtain ⟨f1,f2⟩:=use_fr d a.t (p+1)
  have f3:=use_len d a.t (p+1)
  cases hb : (d.use a.t (p+1)).2 with
  | true =>
   have HR2 : Hid (dwalk x p d=dwalk b (p+2) (d.use a.t (p+1)).1):=by show _=_;rw [HR.out,if_pos (by simpa using w6),if_pos hb]
   clear HR hb
   obtain ⟨⟨n0,n1,n2,n3⟩,_⟩:=box4 M1.out
   obtain ⟨u1,u2,u3,u4⟩:=HQ1.out _ _ K1.out
   have CW:=HWb.out wb B W1 _ _ (.slice af b.ks.length cf) (p+2) H1.out (HR1.out _ _ K1.out) (by rw [f1];exact ht) (by omega) (by rw [f2];omega) (by omega) (by omega) (by omega)
   unfold Nd.v at CW
   go_wp2_with fail
   go_at_call 48
   refine CW.mono ?_
   rintro e W7 ⟨rfl,V7,k7,k8⟩
   clear CW
   go_wp2
   go_end0
   exact ⟨rfl,V7,by rw [HR2.out];exact k7,K1.out.trans k8⟩
  | false =>
   have HR2 : Hid (dwalk x p d=dwalk b (p+2) ((d.use a.t (p+1)).1.fail p 92)):=by show _=_;rw [HR.out,if_pos (by simpa using w6),if_neg (by rw [hb];decide)]
   clear HR hb
   have CF:=wfail_any H1.out p 92
   go_wp2_with fail
   go_at_call 79
   refine CF.mono ?_
   rintro e W2 ⟨rfl,k1,k2⟩
   clear CF
   have M2 : Hid _:=H1.out.keptN' k2 M1.out
   have H2 : Hid _:=k1
   have K2 : Hid _:=K1.out.trans k2
   clear k1 k2
   obtain ⟨_,f4,f5⟩:=fail_exs (d.use a.t (p+1)).1 p 92
   have f6:=fail_us (d.use a.t (p+1)).1 p 92
   obtain ⟨⟨n0,n1,n2,n3⟩,_⟩:=box4 M2.out
   obtain ⟨u1,u2,u3,u4⟩:=HQ1.out _ _ K2.out
   have CW:=HWb.out wb B W2 _ _ (.slice af b.ks.length cf) (p+2) H2.out (HR1.out _ _ K2.out) (by rw [f4,f1];exact ht) (by rw [f6];omega) (by rw [f5,f2];omega) (by omega) (by omega) (by omega)
   unfold Nd.v at CW
   go_wp2_with fail
   go_at_call 48
   refine CW.mono ?_
   rintro e W7 ⟨rfl,V7,k7,k8⟩
   clear CW
   go_wp2
   go_end0
   exact ⟨rfl,V7,by rw [HR2.out];exact k7,K2.out.trans k8⟩
 | false =>
  have HR2 : Hid (dwalk x p d=dkids x.ks (p+1) d):=by show _=_;rw [HR.out,if_neg (by simpa using w6)]
  clear HR
  have CK:=wkids_any x HW.out (.slice (some ⟨bx,ox,none⟩) 2 cv) p H0.out (HV.out.lat K0.out HX.out) ht (by have:=HSZ.out;omega) (by omega) hp hz hs
  unfold Nd.v at CK
  unfold nO at hW0
  unfold Nd.v
  clear hsz
  go_enter Tryz.func48,Tryz.ntmps48
  go_wp2_with fail
  go_at_call 23
  refine CK.mono ?_
  rintro e W8 ⟨rfl,V8,k8,k9⟩
  clear CK n0 n1 n2 n3
  go_wp2
  go_end0
  exact ⟨rfl,V8,by rw [HR2.out];exact k8,K0.out.trans k9⟩
theorem useX_fr (d : Dw) (nm : ByteArray) (p : Int) : (d.useTop nm p false).1.tops=d.tops:=(useX_did d nm p).fr.tops
theorem wk_64 (x : Nd) (hq : x.k=64) (hW : ∀ y ∈ x.ks,WkA y) : WkA x:=by
 intro wb B W d V v p h hx ht hu hl hp hz hs
 obtain ⟨av,cv,rfl⟩:=hx.sl
 obtain ⟨W0,hW0,H0,K0,M0,n0,n1,n2,n3⟩:=wpre (x:=x) (.slice av x.ks.length cv) h
 have HV : Hid _:=h
 have HX : Hid _:=hx
 have HW : Hid (∀ y ∈ x.ks,WkA y):=hW
 obtain ⟨⟨_,_,c2,c3,c4,_⟩,fz⟩:=box8 H0.out.r
 have HSZ : Hid (x.size=1+sizes x.ks):=x.size_eq
 have hsz:=HSZ.out
 have hlc:=lcl x
 have e6 : (x.k == 6)=false:=by rw [hq];decide
 have e20 : (x.k == 20)=false:=by rw [hq];decide
 have e30 : (x.k == 30)=false:=by rw [hq];decide
 have e18 : (x.k == 18)=false:=by rw [hq];decide
 have e7 : (x.k == 7)=false:=by rw [hq];decide
 have e50 : (x.k == 50)=false:=by rw [hq];decide
 have e11 : (x.k == 11)=false:=by rw [hq];decide
 have e41 : (x.k == 41)=false:=by rw [hq];decide
 have e44 : (x.k == 44)=false:=by rw [hq];decide
 have e45 : (x.k == 45)=false:=by rw [hq];decide
 have e43 : (x.k == 43)=false:=by rw [hq];decide
 have e52 : (x.k == 52)=false:=by rw [hq];decide
 have e60 : (x.k == 60)=false:=by rw [hq];decide
 have e64 : (x.k == 64)=true:=by rw [hq];decide
 have HR : Hid (dwalk x p d=if x.t.toList=[] then dexps x.ks (p+1) d else d):=by
  obtain ⟨k,t,n,ks⟩:=x
  have hq : k=64:=hq
  subst hq
  show dwalk (.mk 64 t n _) p d=_
  rw [dwalk.eq_def]
  dsimp only
  rw [if_neg (by decide),if_neg (by decide),if_neg (by decide),if_neg (by decide),if_neg (by decide),if_neg (by decide),if_neg (by decide),if_neg (by decide),if_neg (by decide),if_neg (by decide),if_pos (by decide)]
  try rfl
 obtain ⟨ax,cx,bx,ox,fx,hva,px,qx,rx⟩:=hx.op
 injection hva with hva1 _ hva2
 subst hva1 hva2
 have HQ : Hid (∀ i (h : i < x.ks.length),Four W bx (ox+i * 4) x.ks[i] (fx i)):=qx
 have HRx : Hid (∀ i (h : i < x.ks.length),LAt W (fun b=>b < B) (fx i) x.ks[i].ks):=rx
 have HPx : Hid (0 < x.ks.length→av=some ⟨bx,ox,none⟩∧bx < B∧bx < W.heap.size):=px
 have HTot : Hid (∀ i,sizes (x.ks.take i) ≤ sizes x.ks):=take_sizes_le x.ks
 have HEnd : Hid (∀ (D : Dw) (pp : Int),dexps (x.ks.drop x.ks.length) pp D=D):=fun D pp=>by rw [List.drop_length,dexps]
 have HLen : Hid (x.ks.length ≤ sizes x.ks):=sizes_len x.ks
 have hln : x.ks.length ≤ 4194304:=by have:=HLen.out;omega
 have HKM : Hid (∀ (VV : Vs) (X : World) (D : Dw) (V2 : Vs) (Y : World),Wv wb B X D VV→Kw wb VV X V2 Y→X.heap[W.heap.size]?=some (nO x (.slice av x.ks.length cv))→Y.heap[W.heap.size]?=some (nO x (.slice av x.ks.length cv))):=fun VV X D V2 Y q k m=>q.kept k m (by decide)
 clear h hx hq hW
 clear qx rx px c2 c3 c4 fz
 unfold nO at hW0
 unfold Nd.v
 clear hsz
 go_enter Tryz.func48,Tryz.ntmps48
 go_wp2
 clear hW0
 go_loopw [8,9] (fun vp vi wo=>∃ (k : Nat) (D : Dw) (VV : Vs),vi = .int .i64 (k : Nat)∧vp = .int .i64 (p+1+(sizes (x.ks.take k) : Nat))∧k ≤ x.ks.length∧Hid (Wv wb B wo D VV∧Kw wb V W VV wo∧dwalk x p d=(if x.t.toList=[] then dexps (x.ks.drop k) (p+1+(sizes (x.ks.take k) : Nat)) D else D)∧D.tops=d.tops∧D.uses.length ≤ d.uses.length+k∧wo.heap[W.heap.size]?=some (nO x (.slice av x.ks.length cv)))) (fun _ vi _=>x.ks.length - (intOf vi).toNat)
 case atStart=>exact ⟨0,d,V,rfl,by simp [sizes_nil],by omega,H0.out,K0.out,by simp [sizes_nil];exact HR.out,rfl,by omega,M0.out⟩
 case round =>
  obtain ⟨k,D,VV,rfl,rfl,hk,H⟩:=hrel
  clear n0 n1 n2 n3
  obtain ⟨h1,h2,h3,h4,h5,h7⟩:=H.out
  obtain ⟨⟨n0,n1,n2,n3⟩,_⟩:=box4 h7
  by_cases hkl : k < x.ks.length
  ·obtain ⟨rfl,hb1,hb2⟩:=HPx.out (by omega)
   have hd : (k : Int) < (x.ks.length : Int):=by omega
   cases wt : (x.t.toList == []) with
   | true =>
    obtain ⟨avx,cvx,hvx⟩:=(HRx.out k hkl).sl
    have HFo : Hid (∀ (X : World) (V2 : Vs),Kw wb V W V2 X→Four X bx (ox+k * 4) x.ks[k] (.slice avx x.ks[k].ks.length cvx)):=fun X V2 q=>by have:=(HQ.out k hkl).of_block ((HV.out.below q).block bx hb1);rw [hvx] at this;exact this
    have HKd : Hid (∀ (X : World) (V2 : Vs),Kw wb V W V2 X→LAt X (fun b=>b < B) (.slice avx x.ks[k].ks.length cvx) x.ks[k].ks):=fun X V2 q=>HV.out.lat q (hvx ▸ HRx.out k hkl)
    obtain ⟨y1,y2,y3,y4⟩:=HFo.out _ _ h2
    have HSz : Hid (sizes (x.ks.take (k+1))=sizes (x.ks.take k)+x.ks[k].size):=take_sizes x.ks hkl
    have HStp : Hid (dwalk x p d=if x.t.toList=[] then dexps (x.ks.drop (k+1)) (p+1+(sizes (x.ks.take k) : Nat)+x.ks[k].size) (D.useTop x.ks[k].t (p+1+(sizes (x.ks.take k) : Nat)) false).1 else (D.useTop x.ks[k].t (p+1+(sizes (x.ks.take k) : Nat)) false).1):=by
     have wt' : x.t.toList=[]:=by simpa using wt
     show _=_
     rw [h3,if_pos wt',if_pos wt',List.drop_eq_getElem_cons hkl,dexps]
    have htk:=HTot.out (k+1)
    rw [HSz.out] at htk
    have hll:=HLen.out
    have hsx:=HSZ.out
    have szx:=x.ks[k].size_pos
    have hpb : 0 ≤ p+1+(sizes (x.ks.take k) : Nat)∧p+1+(sizes (x.ks.take k) : Nat)+(x.ks[k].size : Nat) ≤ 16777216∧x.ks[k].size ≤ 4194304∧D.uses.length ≤ 8388608:=⟨by omega,by push_cast;omega,by omega,by omega⟩
    obtain ⟨hp1,hp2,hp3,hp4⟩:=hpb
    have H1 : Hid (Wv wb B wr D VV∧Kw wb V W VV wr∧D.tops=d.tops∧D.uses.length ≤ d.uses.length+k∧wr.heap[W.heap.size]?=some (nO x (.slice (some ⟨bx,ox,none⟩) x.ks.length cv))):=⟨h1,h2,h4,h5,h7⟩
    have CD:=useTop_any h1 x.ks[k].t (p+1+(sizes (x.ks.take k) : Nat)) false (by rw [h4];exact ht) hp4
    clear H h1 h2 h3 h4 h5 h7 hb2 htk hll hsx hvx
    generalize x.ks[k]=y at *
    generalize hsk : sizes (x.ks.take k)=sk at *
    have HNx : Hid (p+1+((sk+y.size : Nat) : Int)=p+1+(sk : Nat)+(y.size : Nat)):=by show _=_;push_cast;omega
    generalize p+1+(sk : Int)=pk at *
    go_wp2_with fail
    go_at_call 85
    refine CD.mono ?_
    rintro e W1 ⟨rfl,V1,k1,k2⟩
    clear CD y1 y2 y3 y4 n0 n1 n2 n3
    obtain ⟨g1,g2,g3,g4,g6⟩:=H1.out
    have m1:=HKM.out _ _ _ _ _ g1 k2 g6
    have kk:=g2.trans k2
    obtain ⟨⟨n0,n1,n2,n3⟩,_⟩:=box4 m1
    obtain ⟨y1,y2,y3,y4⟩:=HFo.out _ _ kk
    have CS:=rsize_any y W1 _ _ (HKd.out _ _ kk) (by omega)
    have HF : Hid (∀ X,Below W1.heap.size W1 X→Wv wb B X (D.useTop y.t pk false).1 V1∧Kw wb V W V1 X∧dwalk x p d=(if x.t.toList=[] then dexps (x.ks.drop (k+1)) (pk+(y.size : Nat)) (D.useTop y.t pk false).1 else (D.useTop y.t pk false).1)∧(D.useTop y.t pk false).1.tops=d.tops∧(D.useTop y.t pk false).1.uses.length ≤ d.uses.length+(k+1)∧X.heap[W.heap.size]?=some (nO x (.slice (some ⟨bx,ox,none⟩) x.ks.length cv))):=fun X b =>
     ⟨k1.bel b,kk.trans (Kw.of b),HStp.out,by rw [useX_fr,g3],by have:=useTop_len D y.t pk false;omega,(b.block _ (gl m1)).trans m1⟩
    unfold Nd.v at CS
    clear H1 g1 g2 g3 g4 g6 m1 kk k1 k2
    go_wp2_with fail
    go_at_call 12
    refine CS.mono ?_
    rintro e W9 ⟨rfl,b9⟩
    have HF2:=HF.out W9 b9
    have HF3 : Hid _:=HF2
    clear CS y1 y2 y3 y4 n0 n1 n2 n3 HF HF2 b9
    go_wp2
    go_roundw
    case rel=>exact ⟨k+1,_,V1,by simp,by rw [HSz.out,HNx.out],by omega,by show _∧_;rw [HSz.out,HNx.out];exact HF3.out⟩
    case measure=>simp [intOf];omega
   | false =>
    have HR2 : Hid (dwalk x p d=D):=by show _=_;rw [h3,if_neg (by simpa using wt)]
    have H1 : Hid _:=h1
    have K1 : Hid _:=h2
    clear H h1 h2 h3 h4 h5 h7
    go_wp2
    go_end0
    exact ⟨rfl,VV,by rw [HR2.out];exact H1.out,K1.out⟩
  ·obtain rfl : k=x.ks.length:=by omega
   have hd : ¬ ((x.ks.length : Nat) : Int) < ((x.ks.length : Nat) : Int):=by omega
   have HR2 : Hid (dwalk x p d=D):=by
    show _=_
    rw [h3,HEnd.out]
    split <;> rfl
   have H1 : Hid _:=h1
   have K1 : Hid _:=h2
   clear H h1 h2 h3 h4 h5 h7
   go_wp2
   go_end0
   exact ⟨rfl,VV,by rw [HR2.out];exact H1.out,K1.out⟩
theorem wwalk_any (x : Nd) : Dn x→WkA x:=by
 induction x using Nd.ind with
 | h x ih =>
  intro hd
  have hW : ∀ y ∈ x.ks,WkA y:=fun y hy=>ih y hy (hd.kd y hy)
  by_cases q6 : x.k=6;· exact wk_6 x q6 hW
  by_cases q20 : x.k=20;· exact wk_20 x q20 hW
  by_cases q30 : x.k=30;· exact wk_30 x q30 hW
  by_cases q18 : x.k=18;· exact wk_18 x q18 hd.p.asg hW
  by_cases q7 : x.k=7;· exact wk_7 x q7 hW
  by_cases q50 : x.k=50;· exact wk_50 x q50 hW
  by_cases q11 : x.k=11;· exact wk_11 x q11 hd.p.fn hW
  by_cases q41 : x.k=41;· exact wk_41 x q41 hd.p.fn hW
  by_cases q44 : x.k=44;· exact wk_44 x q44 hd.p.fn hW
  by_cases q45 : x.k=45;· exact wk_45 x q45 hd.p.fn hW
  by_cases q43 : x.k=43;· exact wk_43 x q43 hW
  by_cases q52 : x.k=52;· exact wk_52 x q52 hW
  by_cases q60 : x.k=60;· exact wk_60 x q60 hW
  by_cases q64 : x.k=64;· exact wk_64 x q64 hW
  exact wk_no x ⟨q6,q20,q30,q18,q7,q50,q11,q41,q44,q45,q43,q52,q60,q64⟩ hW
end Go.Proofs.YtfcocoadaajbjaaGreatDoor
