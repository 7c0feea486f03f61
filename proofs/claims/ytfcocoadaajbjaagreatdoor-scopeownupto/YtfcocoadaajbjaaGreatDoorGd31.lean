/- Own text. Package scope: Resolve. -/
import Derived.Test.YtfcocoadaajbjaaGreatDoorGd30
import Derived.Test.YtfcocoadaajbjaaGreatDoorGd10
set_option linter.unusedVariables false
set_option linter.unusedSimpArgs false
set_option maxRecDepth 100000
set_option maxHeartbeats 16000000
namespace Go.Proofs.YtfcocoadaajbjaaGreatDoor
open Go.RowKit Go.MapKept
theorem em_nil {w : World} {m : Nat} (h : w.heap[m]?=some (.map #[] 0)) : Em w m 0 []:=by
 refine ⟨#[],0,h,by simp,by simp,fun k v hk=>?_,by simp⟩
 simp [exF] at hk
theorem res_sc {fn : Func} {p q r : Nat} (h : fn.results=#[.cell p 28,.tmp q,.tmp r]) {W : World} {n : Nat} {a b u w : Value} {t : TypeId} {tmps : Array Value} (hb : W.heap[n]?=some (.cells #[a,b] t (0,0))) (ht : tmps[p]?.getD undef = .pointer (some ⟨n,0,none⟩)) (hq : tmps[q]?.getD undef=u) (hr : tmps[r]?.getD undef=w) :
 (results fn tmps).run Tryz.prog W = .ok (.tuple #[.agg #[a,b],u,w]) W:=by
 have c0 : W.cell? ⟨n,0,none⟩=some a:=by simp [World.cell?,hb]
 have c1 : W.cell? ⟨n,1,none⟩=some b:=by simp [World.cell?,hb]
 simp [results,h,go_sem,ht,hq,hr,c0,c1]
theorem set2_same {X : World} {b : Nat} {p q : Value} {t : TypeId} (p' q' : Value) (h : X.heap[b]?=some (.cells #[p,q] t (0,0))) : ((X.setCell ⟨b,0,none⟩ p').setCell ⟨b,1,none⟩ q').heap[b]?=some (.cells #[p',q'] t (0,0)):=by
 simp [World.setCell,Array.getElem?_modify,h]
theorem rw_base {w : World} {B B' : Nat} {e : TypeId} {size : Nat} {v : Value} {n : Nat} {xs : List Value} (h : w.ownsRow B e size v n xs) (hB : B' ≤ B) : w.ownsRow B' e size v n xs:=by
 obtain ⟨h1,h2⟩:=h
 refine ⟨h1,h2.imp id ?_⟩
 rintro ⟨g,cap,cur,q1,q2,q3⟩
 exact ⟨g,cap,cur,q1,by omega,q3⟩
def RsA (x : Nd) (W : World) (e : Ending) (W' : World) : Prop :=
 Below W.heap.size W W'∧match pv ((ptJL x.ks 1 0).map dc1) [(ptJL x.ks 1 0).map dc1,blN.map bdc] 0 ⟨#[]⟩ false false x 0 ([],[]) with
  | .ok S=>∃ vt vu,e = .returned (.tuple #[.agg #[vt,vu],.int .i64 0,.int .i64 0])∧W'.ownsRow W.heap.size 43 5 vt (ptJL x.ks 1 0).length (tpV (ptJL x.ks 1 0))∧W'.ownsRow W.heap.size 37 5 vu S.2.length (usV S.2)
  | .error q=>q.2 ≠ 0∧e = .returned (.tuple #[.agg #[.slice none 0 0,.slice none 0 0],.int .i64 q.1,.int .i64 q.2])
theorem resolve_ok (x : Nd) (v : Value) (W : World) (hx : LAt W (fun b=>b < W.heap.size) v x.ks) (hz : x.size ≤ 4194304) (tx : x.tx) (he : WEnv W) (hf : formP x=5 ∨ formP x=6) (wn : Wn x) (hpk : ∀ y ∈ x.ks,Pre y∧(dclN y).size ≤ 4194304∧∀ z ∈ y.ks,Pre z∧(dclN z).size ≤ 4194304) :
 Calls Tryz.prog 7 #[x.v v] W (RsA x W):=by
 obtain ⟨av,cv,rfl⟩:=hx.sl
 obtain ⟨W0,hW0⟩ : ∃ X,(W.alloc (nO x (.slice av x.ks.length cv))).alloc (.cells #[.slice none 0 0,.slice none 0 0] 28)=X:=⟨_,rfl⟩
 have b0 : Below W.heap.size W W0:=by rw [← hW0];exact bel2 _ _ _
 have m0 : W0.heap[W.heap.size]?=some (nO x (.slice av x.ks.length cv)):=by rw [← hW0];exact hold _ (by simp) (hnew _ rfl)
 have m1 : W0.heap[W.heap.size+1]?=some (.cells #[.slice none 0 0,.slice none 0 0] 28 (0,0)):=by rw [← hW0];exact hnew _ (by simp)
 have CF:=form_any x W0 _ _ (hx.bel b0) hz tx (he.bel b0)
 obtain ⟨⟨a0,a1,a2,a3⟩,_⟩:=box4 m0
 have B0 : Hid _:=b0
 have M0 : Hid _:=m0
 have M1 : Hid _:=m1
 have HX : Hid _:=hx
 have WN : Hid _:=wn
 have HPK : Hid _:=hpk
 clear b0 m0 m1 hx wn hpk he tx
 unfold nO at hW0
 unfold Nd.v at CF ⊢
 rcases hf with hf | hf
 ·have CF1:=CF
  rw [hf] at CF1
  clear CF hf
  go_enter Tryz.func7,Tryz.ntmps7
  go_wp2_with fail
  go_at_call 18
  refine CF1.mono ?_
  rintro e W1 ⟨rfl,b1⟩
  have bw1 : Below W.heap.size W W1:=B0.out.trans (b1.mono B0.out.size)
  have n0:=(b1.block _ (gl M0.out)).trans M0.out
  have n1:=(b1.block _ (gl M1.out)).trans M1.out
  clear CF1 hW0 a0 a1 a2 a3
  obtain ⟨⟨a0,a1,a2,a3⟩,_⟩:=box4 n0
  have hx1 : LAt W1 (fun b=>b < W1.heap.size) (.slice av x.ks.length cv) x.ks:=(HX.out.bel bw1).mono' (fun b hb _=>hb)
  have CN:=newResolver_any x _ W1 hx1 hz HPK.out
  have N0 : Hid _:=n0
  have N1 : Hid _:=n1
  have HX1 : Hid _:=hx1
  have BW1 : Hid _:=bw1
  clear n0 n1 hx1 bw1 b1
  unfold Nd.v at CN
  go_wp2_with fail
  go_at_call 19
  refine CN.mono ?_
  rintro e W2 ⟨c,nb,mb,vo,vt,rfl,hB,hZ,tv,sF,sA,hE,b2,l1,l2,l3⟩
  have RX : Rx { c with vn:=.pointer (some ⟨nb,0,none⟩),vt:=vt } W2 [] (.slice none 0 0) []:=⟨tv.r,⟨0,em_nil hE⟩,World.ownsRow_nil _ _ _ _,tv.z,tv.b⟩
  have CK:=walk_any RX x (.slice av x.ks.length cv) (HX1.out.bel b2) (fun b hb=>⟨by show b < c.B;rw [hB];exact hb,by show b ≠ c.rb;have hb : b < W1.heap.size:=hb;omega,by show b ≠ c.eb;have hb : b < W1.heap.size:=hb;omega⟩) WN.out (by show ZAt c.Z 0 x;rw [hZ];exact ⟨[],by simp⟩) sF sA (by show c.Z.length ≤ _;rw [hZ,szN_len];exact hz) (by simpa using hz)
  have n0:=(b2.block _ (gl N0.out)).trans N0.out
  have n1:=(b2.block _ (gl N1.out)).trans N1.out
  clear CN a0 a1 a2 a3
  obtain ⟨⟨a0,a1,a2,a3⟩,_⟩:=box4 n0
  have TVV : Hid _:=tv
  have HB : Hid (c.B=W1.heap.size∧W1.heap.size ≤ c.rb∧W1.heap.size ≤ c.eb):=⟨hB,l1,l2⟩
  have N1' : Hid (W2.heap[W.heap.size+1]?=some (.cells #[.slice none 0 0,.slice none 0 0] 28 (0,0))):=n1
  have HE2 : Hid (W2.heap[c.eb]?=some (.map #[] 0)):=hE
  have B2 : Hid _:=b2
  clear n0 n1 tv hB hZ l1 l2 l3 sF sA hE b2 RX
  unfold Nd.v at CK
  go_wp2_with fail
  go_at_call 20
  refine CK.mono ?_
  rintro e W3 ⟨er,pz,E3,vu3,U3,rfl,an,rx3,k3,o3⟩
  have n3 : W3.heap[W.heap.size+1]?=some (.cells #[.slice none 0 0,.slice none 0 0] 28 (0,0)):=(k3.block _ (gl N1'.out) (fun q=>by
   rcases q with q | q | q
   ·have q : W.heap.size+1=c.rb:=q
    have hr:=TVV.out.r
    rw [← q,N1'.out] at hr
    injection hr with hr
    injection hr with _ hr
    exact absurd hr (by decide)
   ·have q : W.heap.size+1=c.eb:=q
    have hr:=HE2.out
    rw [← q,N1'.out] at hr
    injection hr with hr
    cases hr
   ·simp [Value.ownBlock] at q)).trans N1'.out
  have d0 : W3.cell? ⟨W.heap.size+1,0,none⟩=some (.slice none 0 0):=by simp [World.cell?,n3]
  have d1 : W3.cell? ⟨W.heap.size+1,1,none⟩=some (.slice none 0 0):=by simp [World.cell?,n3]
  have fz : ∀ i,W3.frozen? ⟨W.heap.size+1,i,none⟩=false:=fun i=>by simp [World.frozen?,n3]
  have bw3 : Below W.heap.size W W3:=(BW1.out.trans (B2.out.mono BW1.out.size)).trans (k3.bel (Nat.le_trans BW1.out.size B2.out.size) (fun k hk q=>by
   have h1:=HB.out
   have h2:=BW1.out.size
   rcases q with q | q | q
   ·have q : k=c.rb:=q
    omega
   ·have q : k=c.eb:=q
    omega
   ·simp [Value.ownBlock] at q))
  clear CK a0 a1 a2 a3
  have bws : Hid (∀ a b : Value,Below W.heap.size W ((W3.setCell ⟨W.heap.size+1,0,none⟩ a).setCell ⟨W.heap.size+1,1,none⟩ b)):=fun a b=>bel_set (bel_set bw3 (by omega)) (by omega)
  cases hpv : pv ((ptJL x.ks 1 0).map dc1) [(ptJL x.ks 1 0).map dc1,blN.map bdc] 0 ⟨#[]⟩ false false x 0 ([],[]) with
  | error pr =>
   rw [hpv] at an
   obtain ⟨rfl,hne,rfl⟩:=an
   have hne' : (pr.2 == 0)=false:=by simpa using hne
   have HR : Hid (RsA x W (.returned (.tuple #[.agg #[.slice none 0 0,.slice none 0 0],.int .i64 pr.1,.int .i64 pr.2])) ((W3.setCell ⟨W.heap.size+1,0,none⟩ (.slice none 0 0)).setCell ⟨W.heap.size+1,1,none⟩ (.slice none 0 0))):=by
    refine ⟨bws.out _ _,?_⟩
    rw [hpv]
    exact ⟨hne,rfl⟩
   have N3 : Hid _:=n3
   clear hpv rx3 k3 o3 n3 bw3
   go_wp2
   exact bodyPost_ret (res_sc Tryz.results7 (set2_same _ _ N3.out) rfl rfl rfl) rfl HR.out
  | ok S =>
   rw [hpv] at an
   obtain ⟨rfl,rfl,hpz,hul⟩:=an
   obtain ⟨at_,ct,rfl⟩:=rw_form TVV.out.t
   obtain ⟨au,cu,rfl⟩:=rw_form rx3.u
   obtain ⟨⟨r0,r1,r2,r3,r4,r5⟩,_⟩:=box6 rx3.r
   have q4 : W3.cell? ⟨c.rb,4,none⟩=some (.slice at_ (ptJL x.ks 1 0).length ct):=r4
   have q5 : W3.cell? ⟨c.rb,5,none⟩=some (.slice au U3.length cu):=r5
   have HR : Hid (RsA x W (.returned (.tuple #[.agg #[(.slice at_ (ptJL x.ks 1 0).length ct),(.slice au U3.length cu)],.int .i64 0,.int .i64 0])) ((W3.setCell ⟨W.heap.size+1,0,none⟩ (.slice at_ (ptJL x.ks 1 0).length ct)).setCell ⟨W.heap.size+1,1,none⟩ (.slice au U3.length cu)).drew):=by
    refine ⟨(bws.out _ _).drew,?_⟩
    rw [hpv]
    have hs : ∀ k,k ≠ W.heap.size+1→((W3.setCell ⟨W.heap.size+1,0,none⟩ (.slice at_ (ptJL x.ks 1 0).length ct)).setCell ⟨W.heap.size+1,1,none⟩ (.slice au U3.length cu)).drew.heap[k]?=W3.heap[k]?:=fun k hk=>(Below.heap_setCell _ _ _ _ hk).trans (Below.heap_setCell _ _ _ _ hk)
    have hB:=HB.out
    have hw:=BW1.out.size
    have tt:=TVV.out.t
    rw [hB.1] at tt
    have uu:=rx3.u
    have uu : W3.ownsRow c.B 37 5 (.slice au U3.length cu) U3.length (usV U3):=uu
    rw [hB.1] at uu
    refine ⟨_,_,rfl,rw_keep (rw_base tt hw) fun k hk=>?_,rw_keep (rw_base uu hw) fun k hk=>?_⟩
    ·obtain ⟨cur,hb⟩:=own_cells tt hk
     refine (hs k (fun e=>?_)).trans (k3.block k (gl hb) (fun q=>?_))
     ·rw [e,N1'.out] at hb;injection hb with hb;injection hb with _ hb;exact absurd hb (by decide)
     ·rcases q with q | q | q
      ·have q : k=c.rb:=q
       rw [q,TVV.out.r] at hb;injection hb with hb;injection hb with _ hb;exact absurd hb (by decide)
      ·have q : k=c.eb:=q
       rw [q,HE2.out] at hb;injection hb with hb;cases hb
      ·simp [Value.ownBlock] at q
    ·obtain ⟨cur,hb⟩:=own_cells uu hk
     refine hs k (fun e=>?_)
     rw [e,n3] at hb;injection hb with hb;injection hb with _ hb;exact absurd hb (by decide)
   have N3 : Hid _:=n3
   clear hpv rx3 k3 o3 n3 bw3 r0 r1 r2 r3 r4 r5
   go_wp2_with fail
   have su : (fun X : World=>X.cell? ⟨c.rb,4,none⟩=some (.slice at_ (ptJL x.ks 1 0).length ct)∧X.cell? ⟨c.rb,5,none⟩=some (.slice au U3.length cu)) W3.drew:=⟨q4,q5⟩
   refine wp_region_U (u:=9) (S:=fun X=>X.cell? ⟨c.rb,4,none⟩=some (.slice at_ (ptJL x.ks 1 0).length ct)∧X.cell? ⟨c.rb,5,none⟩=some (.slice au U3.length cu)) (by kernel_rfl) ?_
   change wpAnyU _ _ _ _ _ _ _ _ _ (World.drew _)
   refine uT 0 (.pointer (some ⟨c.rb,0,none⟩)) su ?_
   refine uT 1 (.pointer (some ⟨c.rb,0,none⟩)) su ?_
   refine uT 2 (.pointer (some ⟨c.rb,4,none⟩)) su ?_
   refine uT 3 (.slice at_ (ptJL x.ks 1 0).length ct) su ?_
   refine uT 4 (.pointer (some ⟨c.rb,0,none⟩)) su ?_
   refine uT 5 (.pointer (some ⟨c.rb,0,none⟩)) su ?_
   refine uT 6 (.pointer (some ⟨c.rb,5,none⟩)) su ?_
   refine uT 7 (.slice au U3.length cu) su ?_
   refine uT 8 (.agg #[(.slice at_ (ptJL x.ks 1 0).length ct),(.slice au U3.length cu)]) su ?_
   refine U_end (by kernel_rfl) ?_
   refine wpAny_chain [_,_,_] [9,10,11] _ _ _ _ (by kernel_rfl) rfl (by decide) ?_
   clear su
   go_wp2
   exact bodyPost_ret (res_sc Tryz.results7 (set2_same _ _ N3.out) rfl rfl rfl) rfl HR.out
 ·have CF1:=CF
  rw [hf] at CF1
  clear CF hf
  go_enter Tryz.func7,Tryz.ntmps7
  go_wp2_with fail
  go_at_call 18
  refine CF1.mono ?_
  rintro e W1 ⟨rfl,b1⟩
  have bw1 : Below W.heap.size W W1:=B0.out.trans (b1.mono B0.out.size)
  have n0:=(b1.block _ (gl M0.out)).trans M0.out
  have n1:=(b1.block _ (gl M1.out)).trans M1.out
  clear CF1 hW0 a0 a1 a2 a3
  obtain ⟨⟨a0,a1,a2,a3⟩,_⟩:=box4 n0
  have hx1 : LAt W1 (fun b=>b < W1.heap.size) (.slice av x.ks.length cv) x.ks:=(HX.out.bel bw1).mono' (fun b hb _=>hb)
  have CN:=newResolver_any x _ W1 hx1 hz HPK.out
  have N0 : Hid _:=n0
  have N1 : Hid _:=n1
  have HX1 : Hid _:=hx1
  have BW1 : Hid _:=bw1
  clear n0 n1 hx1 bw1 b1
  unfold Nd.v at CN
  go_wp2_with fail
  go_at_call 19
  refine CN.mono ?_
  rintro e W2 ⟨c,nb,mb,vo,vt,rfl,hB,hZ,tv,sF,sA,hE,b2,l1,l2,l3⟩
  have RX : Rx { c with vn:=.pointer (some ⟨nb,0,none⟩),vt:=vt } W2 [] (.slice none 0 0) []:=⟨tv.r,⟨0,em_nil hE⟩,World.ownsRow_nil _ _ _ _,tv.z,tv.b⟩
  have CK:=walk_any RX x (.slice av x.ks.length cv) (HX1.out.bel b2) (fun b hb=>⟨by show b < c.B;rw [hB];exact hb,by show b ≠ c.rb;have hb : b < W1.heap.size:=hb;omega,by show b ≠ c.eb;have hb : b < W1.heap.size:=hb;omega⟩) WN.out (by show ZAt c.Z 0 x;rw [hZ];exact ⟨[],by simp⟩) sF sA (by show c.Z.length ≤ _;rw [hZ,szN_len];exact hz) (by simpa using hz)
  have n0:=(b2.block _ (gl N0.out)).trans N0.out
  have n1:=(b2.block _ (gl N1.out)).trans N1.out
  clear CN a0 a1 a2 a3
  obtain ⟨⟨a0,a1,a2,a3⟩,_⟩:=box4 n0
  have TVV : Hid _:=tv
  have HB : Hid (c.B=W1.heap.size∧W1.heap.size ≤ c.rb∧W1.heap.size ≤ c.eb):=⟨hB,l1,l2⟩
  have N1' : Hid (W2.heap[W.heap.size+1]?=some (.cells #[.slice none 0 0,.slice none 0 0] 28 (0,0))):=n1
  have HE2 : Hid (W2.heap[c.eb]?=some (.map #[] 0)):=hE
  have B2 : Hid _:=b2
  clear n0 n1 tv hB hZ l1 l2 l3 sF sA hE b2 RX
  unfold Nd.v at CK
  go_wp2_with fail
  go_at_call 20
  refine CK.mono ?_
  rintro e W3 ⟨er,pz,E3,vu3,U3,rfl,an,rx3,k3,o3⟩
  have n3 : W3.heap[W.heap.size+1]?=some (.cells #[.slice none 0 0,.slice none 0 0] 28 (0,0)):=(k3.block _ (gl N1'.out) (fun q=>by
   rcases q with q | q | q
   ·have q : W.heap.size+1=c.rb:=q
    have hr:=TVV.out.r
    rw [← q,N1'.out] at hr
    injection hr with hr
    injection hr with _ hr
    exact absurd hr (by decide)
   ·have q : W.heap.size+1=c.eb:=q
    have hr:=HE2.out
    rw [← q,N1'.out] at hr
    injection hr with hr
    cases hr
   ·simp [Value.ownBlock] at q)).trans N1'.out
  have d0 : W3.cell? ⟨W.heap.size+1,0,none⟩=some (.slice none 0 0):=by simp [World.cell?,n3]
  have d1 : W3.cell? ⟨W.heap.size+1,1,none⟩=some (.slice none 0 0):=by simp [World.cell?,n3]
  have fz : ∀ i,W3.frozen? ⟨W.heap.size+1,i,none⟩=false:=fun i=>by simp [World.frozen?,n3]
  have bw3 : Below W.heap.size W W3:=(BW1.out.trans (B2.out.mono BW1.out.size)).trans (k3.bel (Nat.le_trans BW1.out.size B2.out.size) (fun k hk q=>by
   have h1:=HB.out
   have h2:=BW1.out.size
   rcases q with q | q | q
   ·have q : k=c.rb:=q
    omega
   ·have q : k=c.eb:=q
    omega
   ·simp [Value.ownBlock] at q))
  clear CK a0 a1 a2 a3
  have bws : Hid (∀ a b : Value,Below W.heap.size W ((W3.setCell ⟨W.heap.size+1,0,none⟩ a).setCell ⟨W.heap.size+1,1,none⟩ b)):=fun a b=>bel_set (bel_set bw3 (by omega)) (by omega)
  cases hpv : pv ((ptJL x.ks 1 0).map dc1) [(ptJL x.ks 1 0).map dc1,blN.map bdc] 0 ⟨#[]⟩ false false x 0 ([],[]) with
  | error pr =>
   rw [hpv] at an
   obtain ⟨rfl,hne,rfl⟩:=an
   have hne' : (pr.2 == 0)=false:=by simpa using hne
   have HR : Hid (RsA x W (.returned (.tuple #[.agg #[.slice none 0 0,.slice none 0 0],.int .i64 pr.1,.int .i64 pr.2])) ((W3.setCell ⟨W.heap.size+1,0,none⟩ (.slice none 0 0)).setCell ⟨W.heap.size+1,1,none⟩ (.slice none 0 0))):=by
    refine ⟨bws.out _ _,?_⟩
    rw [hpv]
    exact ⟨hne,rfl⟩
   have N3 : Hid _:=n3
   clear hpv rx3 k3 o3 n3 bw3
   go_wp2
   exact bodyPost_ret (res_sc Tryz.results7 (set2_same _ _ N3.out) rfl rfl rfl) rfl HR.out
  | ok S =>
   rw [hpv] at an
   obtain ⟨rfl,rfl,hpz,hul⟩:=an
   obtain ⟨at_,ct,rfl⟩:=rw_form TVV.out.t
   obtain ⟨au,cu,rfl⟩:=rw_form rx3.u
   obtain ⟨⟨r0,r1,r2,r3,r4,r5⟩,_⟩:=box6 rx3.r
   have q4 : W3.cell? ⟨c.rb,4,none⟩=some (.slice at_ (ptJL x.ks 1 0).length ct):=r4
   have q5 : W3.cell? ⟨c.rb,5,none⟩=some (.slice au U3.length cu):=r5
   have HR : Hid (RsA x W (.returned (.tuple #[.agg #[(.slice at_ (ptJL x.ks 1 0).length ct),(.slice au U3.length cu)],.int .i64 0,.int .i64 0])) ((W3.setCell ⟨W.heap.size+1,0,none⟩ (.slice at_ (ptJL x.ks 1 0).length ct)).setCell ⟨W.heap.size+1,1,none⟩ (.slice au U3.length cu)).drew):=by
    refine ⟨(bws.out _ _).drew,?_⟩
    rw [hpv]
    have hs : ∀ k,k ≠ W.heap.size+1→((W3.setCell ⟨W.heap.size+1,0,none⟩ (.slice at_ (ptJL x.ks 1 0).length ct)).setCell ⟨W.heap.size+1,1,none⟩ (.slice au U3.length cu)).drew.heap[k]?=W3.heap[k]?:=fun k hk=>(Below.heap_setCell _ _ _ _ hk).trans (Below.heap_setCell _ _ _ _ hk)
    have hB:=HB.out
    have hw:=BW1.out.size
    have tt:=TVV.out.t
    rw [hB.1] at tt
    have uu:=rx3.u
    have uu : W3.ownsRow c.B 37 5 (.slice au U3.length cu) U3.length (usV U3):=uu
    rw [hB.1] at uu
    refine ⟨_,_,rfl,rw_keep (rw_base tt hw) fun k hk=>?_,rw_keep (rw_base uu hw) fun k hk=>?_⟩
    ·obtain ⟨cur,hb⟩:=own_cells tt hk
     refine (hs k (fun e=>?_)).trans (k3.block k (gl hb) (fun q=>?_))
     ·rw [e,N1'.out] at hb;injection hb with hb;injection hb with _ hb;exact absurd hb (by decide)
     ·rcases q with q | q | q
      ·have q : k=c.rb:=q
       rw [q,TVV.out.r] at hb;injection hb with hb;injection hb with _ hb;exact absurd hb (by decide)
      ·have q : k=c.eb:=q
       rw [q,HE2.out] at hb;injection hb with hb;cases hb
      ·simp [Value.ownBlock] at q
    ·obtain ⟨cur,hb⟩:=own_cells uu hk
     refine hs k (fun e=>?_)
     rw [e,n3] at hb;injection hb with hb;injection hb with _ hb;exact absurd hb (by decide)
   have N3 : Hid _:=n3
   clear hpv rx3 k3 o3 n3 bw3 r0 r1 r2 r3 r4 r5
   go_wp2_with fail
   have su : (fun X : World=>X.cell? ⟨c.rb,4,none⟩=some (.slice at_ (ptJL x.ks 1 0).length ct)∧X.cell? ⟨c.rb,5,none⟩=some (.slice au U3.length cu)) W3.drew:=⟨q4,q5⟩
   refine wp_region_U (u:=9) (S:=fun X=>X.cell? ⟨c.rb,4,none⟩=some (.slice at_ (ptJL x.ks 1 0).length ct)∧X.cell? ⟨c.rb,5,none⟩=some (.slice au U3.length cu)) (by kernel_rfl) ?_
   change wpAnyU _ _ _ _ _ _ _ _ _ (World.drew _)
   refine uT 0 (.pointer (some ⟨c.rb,0,none⟩)) su ?_
   refine uT 1 (.pointer (some ⟨c.rb,0,none⟩)) su ?_
   refine uT 2 (.pointer (some ⟨c.rb,4,none⟩)) su ?_
   refine uT 3 (.slice at_ (ptJL x.ks 1 0).length ct) su ?_
   refine uT 4 (.pointer (some ⟨c.rb,0,none⟩)) su ?_
   refine uT 5 (.pointer (some ⟨c.rb,0,none⟩)) su ?_
   refine uT 6 (.pointer (some ⟨c.rb,5,none⟩)) su ?_
   refine uT 7 (.slice au U3.length cu) su ?_
   refine uT 8 (.agg #[(.slice at_ (ptJL x.ks 1 0).length ct),(.slice au U3.length cu)]) su ?_
   refine U_end (by kernel_rfl) ?_
   refine wpAny_chain [_,_,_] [9,10,11] _ _ _ _ (by kernel_rfl) rfl (by decide) ?_
   clear su
   go_wp2
   exact bodyPost_ret (res_sc Tryz.results7 (set2_same _ _ N3.out) rfl rfl rfl) rfl HR.out
end Go.Proofs.YtfcocoadaajbjaaGreatDoor
