/- Own text. ScopeTells: the statement's walk. ScopeTells: the walk as the law asks it. -/
import Derived.Test.YtfcocoadaajbjaaGreatDoorGc49
set_option linter.unusedVariables false
set_option linter.unusedSimpArgs false
set_option maxRecDepth 100000
set_option maxHeartbeats 32000000
namespace Go.Proofs.YtfcocoadaajbjaaGreatDoor
open Go.RowKit Go.MapKept
theorem lsays_any (y : Nd) (v : Value) (w : World) : Calls Tryz.prog 11 #[y.v v] w fun e w'=>e = .returned (.string y.t)∧Below w.heap.size w w':=by
 unfold Nd.v
 go_enter Tryz.func11,Tryz.ntmps11
 go_wp2
 go_ret
 exact ⟨rfl,bel_a _ _⟩
theorem tells_walk (x : Nd) (v : Value) (W : World) (hx : LAt W (fun b=>b < W.heap.size) v x.ks) (hz : x.size ≤ 1048576) (tx : x.tx) (he : WEnv W) : Calls Tryz.prog 3 #[x.v v] W fun e W'=>e = .returned (.bool true)∧Below W.heap.size W W':=by
 obtain ⟨av,cv,rfl⟩:=hx.sl
 obtain ⟨W0,hW0⟩ : ∃ X,W.alloc (nO x (.slice av x.ks.length cv))=X:=⟨_,rfl⟩
 have b0 : Below W.heap.size W W0:=by rw [← hW0];exact bel_a _ _
 have m0 : W0.heap[W.heap.size]?=some (nO x (.slice av x.ks.length cv)):=by rw [← hW0];exact hnew _ rfl
 have CR:=presolve_any x _ W0 (lat_up hx b0) (by omega) tx (he.bel b0)
 unfold Nd.v at CR
 obtain ⟨⟨n0,n1,n2,n3⟩,_⟩:=box4 m0
 have HX : Hid (LAt W (fun b=>b < W.heap.size) (.slice av x.ks.length cv) x.ks):=hx
 have B0 : Hid (Below W.heap.size W W0):=b0
 have M0 : Hid _:=m0
 have HE : Hid (WEnv W):=he
 have HT : Hid x.tx:=tx
 clear b0 m0 hx he tx
 unfold nO at hW0
 unfold Nd.v
 go_enter Tryz.func3,Tryz.ntmps3
 go_wp2_with fail
 go_at_call 7
 refine CR.mono ?_
 rintro e W1 ⟨b1,han⟩
 clear CR hW0 n0 n1 n2 n3
 have m1:=(b1.block _ (gl M0.out)).trans M0.out
 obtain ⟨⟨n0,n1,n2,n3⟩,_⟩:=box4 m1
 rcases han with ⟨hok,vt,vu,rfl,rt,ru⟩ | ⟨hno,a,b,hb,rfl⟩
 ·have ht:=ok_told hok
  obtain ⟨at_,ct,rfl⟩:=rw_form rt
  obtain ⟨au,cu,rfl⟩:=rw_form ru
  obtain ⟨W2,hW2⟩ : ∃ X,W1.alloc (Obj.cells #[.slice at_ (dRes x).tops.length ct,.slice au (dRes x).uses.length cu] 28)=X:=⟨_,rfl⟩
  have b2 : Below W1.heap.size W1 W2:=by rw [← hW2];exact bel_a _ _
  have m2 : W2.heap[W1.heap.size]?=some (Obj.cells #[.slice at_ (dRes x).tops.length ct,.slice au (dRes x).uses.length cu] 28 (0,0)):=by rw [← hW2];exact hnew _ rfl
  have m3:=(b2.block _ (gl m1)).trans m1
  obtain ⟨⟨n0,n1,n2,n3⟩,_⟩:=box4 m3
  have bW2 : Below W.heap.size W W2:=below_tr (below_tr B0.out b1) b2
  have CF:=flat_new x W2 _ (lat_up HX.out bW2) (by omega)
  unfold Nd.v at CF
  have ulen : (dRes x).uses.length ≤ 4194304:=by have:=(res_len x).1;omega
  have HU : Hid (∀ k (hk : k < (dRes x).uses.length),∃ g,au=some ⟨g,0,none⟩∧∀ X,Below W2.heap.size W2 X→(X.cell? ⟨g,k * 5,none⟩=some (.int .i64 (dRes x).uses[k].at_)∧X.cell? ⟨g,k * 5+1,none⟩=some (.int .i64 (dRes x).uses[k].kd)∧X.cell? ⟨g,k * 5+2,none⟩=some (.int .i64 (dRes x).uses[k].dc)∧X.cell? ⟨g,k * 5+3,none⟩=some (.string (dRes x).uses[k].nm)∧X.cell? ⟨g,k * 5+4,none⟩=some (.bool (dRes x).uses[k].ty))):=fun k hk=>by
   obtain ⟨g,c',e',q0,q1,q2,q3,q4⟩:=us_at ru hk
   injection e' with e1 e2 e3
   refine ⟨g,e1,fun X b=>?_⟩
   have lt:=World.block_lt_of_cell? W1 _ q0
   have bb : X.heap[g]?=W1.heap[g]?:=(b.block _ (Nat.lt_of_lt_of_le lt b2.size)).trans (b2.block _ lt)
   have cc:=fun i v (h : W1.cell? ⟨g,i,none⟩=some v)=>(World.cell?_of_block (a:=⟨g,i,none⟩) bb).trans h
   exact ⟨cc _ _ q0,cc _ _ q1,cc _ _ q2,cc _ _ q3,cc _ _ q4⟩
  have HS : Hid (∀ X,Below W2.heap.size W2 X→X.cell? ⟨W1.heap.size,1,none⟩=some (.slice au (dRes x).uses.length cu)):=fun X b=>by
   have:=(b.block _ (gl m2)).trans m2
   simp [World.cell?,this]
  have BW2 : Hid (Below W.heap.size W W2):=bW2
  have HTd : Hid (Told x (dRes x).uses):=ht
  clear rt ru m1 m2 m3 b1 b2 bW2 ht hok M0 B0
  generalize (dRes x).uses=U at *
  generalize (dRes x).tops.length=tl at *
  go_wp2_with fail
  go_at_call 10
  refine CF.mono ?_
  rintro e W3 ⟨bl,ol,cl,fl,rfl,⟨hbl,hq,hl⟩,b3⟩
  clear CF hW2 n0 n1 n2 n3
  have hsz : x.flat.length=x.size:=x.flat_len
  have hflen : x.flat.length ≤ 1048576:=by omega
  have HF : Hid (∀ X,Below W3.heap.size W3 X→∀ i (h : i < x.flat.length),Four X bl (ol+i * 4) x.flat[i] (fl i)):=fun X b i h=>(hq i h).of_block (b.block _ hbl)
  have HL : Hid (∀ X,Below W3.heap.size W3 X→∀ i (h : i < x.flat.length),LAt X (fun b=>b < X.heap.size) (fl i) x.flat[i].ks):=fun X b i h=>lat_up (hl i h) b
  have B3 : Hid (Below W2.heap.size W2 W3):=b3
  have BW3 : Hid (Below W.heap.size W W3):=below_tr BW2.out b3
  have s1:=HS.out W3 b3
  clear hq hl b3 hbl hsz BW2
  go_wp2
  go_loopw [10,11] (fun v10 v11 wo=>∃ (k : Nat) (la : Int),v11 = .int .i64 (k : Nat)∧v10 = .int .i64 la∧k ≤ U.length∧Hid (Below W3.heap.size W3 wo)∧Hid (∀ j (hj : j < U.length),k ≤ j→la < U[j].at_)) (fun _ v11 _=>U.length - (intOf v11).toNat)
  case atStart =>
   refine ⟨0,-1,rfl,rfl,by omega,Below.refl _ _,fun j hj _=>?_⟩
   obtain ⟨i,e,_⟩:=HTd.out.at_ j hj
   rw [e]
   omega
  case round =>
   obtain ⟨k,la,rfl,rfl,hk,HB,HLa⟩:=hrel
   clear s1
   have s1:=HS.out wr (below_tr B3.out HB.out)
   by_cases hkl : k < U.length
   ·obtain ⟨g,hau,HC0⟩:=HU.out k hkl
    subst hau
    obtain ⟨u0,u1,u2,u3,u4⟩:=HC0 wr (below_tr B3.out HB.out)
    have hd : (k : Int) < (U.length : Int):=by omega
    have hla:=HLa.out k hkl (Nat.le_refl _)
    obtain ⟨i,ei,hi,et⟩:=HTd.out.at_ k hkl
    have HLa' : Hid (∀ j (hj : j < U.length),k+1 ≤ j→U[k].at_ < U[j].at_):=fun j hj h=>HTd.out.up k j hkl hj (by omega)
    have hdc:=HTd.out.dc k hkl
    have HDc : Hid _:=hdc
    clear HC0 HLa hdc
    generalize U[k]=u at *
    obtain ⟨uat,ukd,udc,unm,uty⟩:=u
    have ei : uat=(i : Nat):=ei
    subst ei
    have et : x.flat[i].t=unm:=et
    subst et
    have hla : la < (i : Int):=hla
    simp only at u0 u1 u2 u3 u4
    obtain ⟨W1',hW1⟩ : ∃ X,wr.alloc (Obj.cells #[.int .i64 (i : Nat),.int .i64 ukd,.int .i64 udc,.string x.flat[i].t,.bool uty] 37)=X:=⟨_,rfl⟩
    have b1 : Below wr.heap.size wr W1':=by rw [← hW1];exact bel_a _ _
    have m1 : W1'.heap[wr.heap.size]?=some (Obj.cells #[.int .i64 (i : Nat),.int .i64 ukd,.int .i64 udc,.string x.flat[i].t,.bool uty] 37 (0,0)):=by rw [← hW1];exact hnew _ rfl
    have B1 : Hid (Below W3.heap.size W3 W1'):=below_tr HB.out b1
    have HZ : Hid (∀ X,Below W1'.heap.size W1' X→X.cell? ⟨wr.heap.size,0,none⟩=some (.int .i64 (i : Nat))∧X.cell? ⟨wr.heap.size,1,none⟩=some (.int .i64 ukd)∧X.cell? ⟨wr.heap.size,2,none⟩=some (.int .i64 udc)∧X.cell? ⟨wr.heap.size,3,none⟩=some (.string x.flat[i].t)):=fun X b=>by
     have:=(b.block _ (gl m1)).trans m1
     simp [World.cell?,this]
    have HY : Hid (∀ X,Below W1'.heap.size W1' X→X.cell? ⟨bl,ol+i * 4,none⟩=some (.int .i64 x.flat[i].k)∧X.cell? ⟨bl,ol+i * 4+1,none⟩=some (.string x.flat[i].t)∧X.cell? ⟨bl,ol+i * 4+2,none⟩=some (.int .i64 x.flat[i].n)∧X.cell? ⟨bl,ol+i * 4+3,none⟩=some (fl i)):=fun X b=>HF.out X (below_tr B1.out b) i hi
    have CS:=lsays_any x.flat[i] (fl i) (World.drew W1')
    unfold Nd.v at CS
    have h1 : ¬ ((i : Nat) : Int) ≤ la:=by omega
    have h2 : ¬ ((x.flat.length : Nat) : Int) ≤ ((i : Nat) : Int):=by omega
    have hi' : ((i : Nat) : Int) < ((x.flat.length : Nat) : Int):=by omega
    have sz:=HZ.out (World.drew W1') (Below.refl _ _).drew
    have sy:=HY.out (World.drew W1') (Below.refl _ _).drew
    clear b1 m1
    generalize x.flat[i]=y at *
    go_wp2_with fail
    refine region_held (fun X=>(X.cell? ⟨wr.heap.size,0,none⟩=some (.int .i64 (i : Nat))∧X.cell? ⟨wr.heap.size,1,none⟩=some (.int .i64 ukd)∧X.cell? ⟨wr.heap.size,2,none⟩=some (.int .i64 udc)∧X.cell? ⟨wr.heap.size,3,none⟩=some (.string y.t))∧(X.cell? ⟨bl,ol+i * 4,none⟩=some (.int .i64 y.k)∧X.cell? ⟨bl,ol+i * 4+1,none⟩=some (.string y.t)∧X.cell? ⟨bl,ol+i * 4+2,none⟩=some (.int .i64 y.n)∧X.cell? ⟨bl,ol+i * 4+3,none⟩=some (fl i))) (by kernel_rfl) ⟨sz,sy⟩ (fun hS=>?_)
    refine wpAnyH_take (i:=0) (v:=(.pointer (some ⟨wr.heap.size,0,none⟩))) rfl (by kernel_rfl) (by kernel_rfl) (by kernel_rfl) (fun _ _ _ h=>h) (Or.inl ⟨by rfl,fun w _=>by go_simp⟩) hS ?_
    refine wpAnyH_take (i:=1) (v:=(.int .i64 (i : Nat))) rfl (by kernel_rfl) (by kernel_rfl) (by kernel_rfl) (fun _ _ _ h=>h) (Or.inl ⟨by rfl,fun w hw=>by obtain ⟨⟨q0,q1,q2,q3⟩,p0,p1,p2,p3⟩:=hw;go_simp⟩) hS ?_
    refine wpAnyH_take (i:=2) (v:=(.int .i64 la)) rfl (by kernel_rfl) (by kernel_rfl) (by kernel_rfl) (fun _ _ _ h=>h) (Or.inl ⟨by rfl,fun w _=>by go_simp⟩) hS ?_
    refine wpAnyH_take (i:=3) (v:=(.bool false)) rfl (by kernel_rfl) (by kernel_rfl) (by kernel_rfl) (fun _ _ _ h=>h) (Or.inl ⟨by rfl,fun w _=>by go_simp⟩) hS ?_
    refine wpAnyH_take (i:=4) (v:=(.bool false)) rfl (by kernel_rfl) (by kernel_rfl) (by kernel_rfl) (fun _ _ _ h=>h) (Or.inl ⟨by rfl,fun w _=>by go_simp⟩) hS ?_
    refine wpAnyH_take (i:=5) (v:=(.pointer (some ⟨wr.heap.size,0,none⟩))) rfl (by kernel_rfl) (by kernel_rfl) (by kernel_rfl) (fun _ _ _ h=>h) (Or.inl ⟨by kernel_rfl,fun w _=>by go_simp⟩) hS ?_
    refine wpAnyH_take (i:=6) (v:=(.int .i64 (i : Nat))) rfl (by kernel_rfl) (by kernel_rfl) (by kernel_rfl) (fun _ _ _ h=>h) (Or.inl ⟨by kernel_rfl,fun w hw=>by obtain ⟨⟨q0,q1,q2,q3⟩,p0,p1,p2,p3⟩:=hw;go_simp⟩) hS ?_
    refine wpAnyH_take (i:=7) (v:=(.slice (some ⟨bl,ol,none⟩) x.flat.length cl)) rfl (by kernel_rfl) (by kernel_rfl) (by kernel_rfl) (fun _ _ _ h=>h) (Or.inl ⟨by kernel_rfl,fun w _=>by go_simp⟩) hS ?_
    refine wpAnyH_take (i:=8) (v:=(.int .i64 (x.flat.length : Nat))) rfl (by kernel_rfl) (by kernel_rfl) (by kernel_rfl) (fun _ _ _ h=>h) (Or.inl ⟨by kernel_rfl,fun w _=>by go_simp⟩) hS ?_
    refine wpAnyH_take (i:=9) (v:=(.bool false)) rfl (by kernel_rfl) (by kernel_rfl) (by kernel_rfl) (fun _ _ _ h=>h) (Or.inl ⟨by kernel_rfl,fun w _=>by go_simp⟩) hS ?_
    refine wpAnyH_take (i:=10) (v:=(.bool false)) rfl (by kernel_rfl) (by kernel_rfl) (by kernel_rfl) (fun _ _ _ h=>h) (Or.inl ⟨by kernel_rfl,fun w _=>by go_simp⟩) hS ?_
    refine wpAnyH_take (i:=11) (v:=(.bool false)) rfl (by kernel_rfl) (by kernel_rfl) (by kernel_rfl) (fun _ _ _ h=>h) (Or.inl ⟨by kernel_rfl,fun w _=>by go_simp⟩) hS ?_
    refine wpAnyH_take (i:=12) (v:=(.slice (some ⟨bl,ol,none⟩) x.flat.length cl)) rfl (by kernel_rfl) (by kernel_rfl) (by kernel_rfl) (fun _ _ _ h=>h) (Or.inl ⟨by kernel_rfl,fun w _=>by go_simp⟩) hS ?_
    refine wpAnyH_take (i:=13) (v:=(.pointer (some ⟨wr.heap.size,0,none⟩))) rfl (by kernel_rfl) (by kernel_rfl) (by kernel_rfl) (fun _ _ _ h=>h) (Or.inl ⟨by kernel_rfl,fun w _=>by go_simp⟩) hS ?_
    refine wpAnyH_take (i:=14) (v:=(.int .i64 (i : Nat))) rfl (by kernel_rfl) (by kernel_rfl) (by kernel_rfl) (fun _ _ _ h=>h) (Or.inl ⟨by kernel_rfl,fun w hw=>by obtain ⟨⟨q0,q1,q2,q3⟩,p0,p1,p2,p3⟩:=hw;go_simp⟩) hS ?_
    refine wpAnyH_take (i:=15) (v:=(.pointer (some ⟨bl,ol+i * 4,none⟩))) rfl (by kernel_rfl) (by kernel_rfl) (by kernel_rfl) (fun _ _ _ h=>h) (Or.inl ⟨by kernel_rfl,fun w _=>by go_simp⟩) hS ?_
    refine wpAnyH_take (i:=16) (v:=(.agg #[.int .i64 y.k,.string y.t,.int .i64 y.n,fl i])) rfl (by kernel_rfl) (by kernel_rfl) (by kernel_rfl) (fun _ _ _ h=>h) (Or.inl ⟨by kernel_rfl,fun w hw=>by obtain ⟨⟨q0,q1,q2,q3⟩,p0,p1,p2,p3⟩:=hw;go_simp⟩) hS ?_
    refine wpAnyH_take (i:=18) (v:=(.pointer (some ⟨wr.heap.size,3,none⟩))) rfl (by kernel_rfl) (by kernel_rfl) (by kernel_rfl) (fun _ _ _ h=>h) (Or.inl ⟨by kernel_rfl,fun w _=>by go_simp⟩) hS ?_
    refine wpAnyH_take (i:=19) (v:=(.string y.t)) rfl (by kernel_rfl) (by kernel_rfl) (by kernel_rfl) (fun _ _ _ h=>h) (Or.inl ⟨by kernel_rfl,fun w hw=>by obtain ⟨⟨q0,q1,q2,q3⟩,p0,p1,p2,p3⟩:=hw;go_simp⟩) hS ?_
    refine wpAnyH_ready (rs:=[17]) (by kernel_rfl) (by simp) ?_
    refine AllReadyH.cons rfl (fun K hK=>?_) AllReadyH.nil
    go_simp
    go_at_call 11
    refine CS.mono ?_
    rintro e W4 ⟨rfl,b4⟩
    have b4' : Below W1'.heap.size W1' W4:=(Below.refl _ _).drew.trans b4
    refine hK.out _ _ ⟨HZ.out W4 b4',HY.out W4 b4'⟩ (fun hS4=>?_)
    clear hK K hS CS b4
    refine wpAnyH_take (i:=20) (v:=(.bool false)) rfl (by kernel_rfl) (by kernel_rfl) (by kernel_rfl) (fun _ _ _ h=>h) (Or.inl ⟨by kernel_rfl,fun w _=>by go_simp⟩) hS4 ?_
    refine wpAnyH_take (i:=21) (v:=(.bool false)) rfl (by kernel_rfl) (by kernel_rfl) (by kernel_rfl) (fun _ _ _ h=>h) (Or.inl ⟨by kernel_rfl,fun w _=>by go_simp⟩) hS4 ?_
    refine wpAnyH_done (by kernel_rfl) ?_ _
    have B4 : Hid (Below W1'.heap.size W1' W4):=b4'
    obtain ⟨q0,q1,q2,q3⟩:=HZ.out W4 b4'
    have HB4 : Hid (∀ X,Below W4.heap.size W4 X→Below W3.heap.size W3 X):=fun X b=>below_tr B1.out (below_tr b4' b)
    clear hS4 b4' sz sy u0 u1 u2 u3 u4 hW1 h1 h2 hi' s1 HY HU HS
    cases wk : (ukd == 1) with
    | true =>
     go_wp2
     go_roundw
     case rel=>exact ⟨k+1,(i : Nat),by simp,rfl,by omega,HB4.out _ (Below.refl _ _),HLa'.out⟩
     case measure=>simp [intOf];omega
    | false =>
     obtain ⟨m,rfl,hm1,hm,hz⟩ : ∃ m : Nat,udc=(m : Nat)∧1 ≤ m∧∃ hm : m < x.flat.length,(x.flat[m].k=61∧x.flat[m].ks ≠ []∧(headT x.flat[m].ks).toList=y.t.toList∧ukd=4) ∨ (x.flat[m].k ≠ 61∧x.flat[m].k ≠ 63∧x.flat[m].t.toList=y.t.toList):=by
      rcases HDc.out with w | w
      ·exact absurd w (by simpa using wk)
      ·exact w
     have g1 : ¬ ((m : Nat) : Int) < 1:=by omega
     have g2 : ¬ ((x.flat.length : Nat) : Int) ≤ ((m : Nat) : Int):=by omega
     have g3 : ((m : Nat) : Int) < ((x.flat.length : Nat) : Int):=by omega
     obtain ⟨av2,cv2,hv2⟩:=(HL.out W4 (HB4.out _ (Below.refl _ _)) m hm).sl
     have f4:=HF.out W4 (HB4.out _ (Below.refl _ _)) m hm
     have l4:=HL.out W4 (HB4.out _ (Below.refl _ _)) m hm
     rw [hv2] at f4 l4
     generalize x.flat[m]=z at *
     obtain ⟨y1,y2,y3,y4⟩:=f4
     obtain ⟨W5,hW5⟩ : ∃ X,W4.alloc (nO z (.slice av2 z.ks.length cv2))=X:=⟨_,rfl⟩
     have b5 : Below W4.heap.size W4 W5:=by rw [← hW5];exact bel_a _ _
     have m5 : W5.heap[W4.heap.size]?=some (nO z (.slice av2 z.ks.length cv2)):=by rw [← hW5];exact hnew _ rfl
     obtain ⟨⟨z0,z1,z2,z3⟩,_⟩:=box4 m5
     obtain ⟨q0',q1',q2',q3'⟩:=HZ.out W5 (below_tr B4.out b5)
     have B5 : Hid (Below W3.heap.size W3 W5):=HB4.out _ b5
     have L5 : Hid (LAt W5 (fun b=>b < W5.heap.size) (.slice av2 z.ks.length cv2) z.ks):=lat_up l4 b5
     clear b5 m5 l4 hv2 HDc HF HL HB4 HZ B4
     unfold nO at hW5
     rcases hz with ⟨w1,w2,w3,w4⟩ | ⟨w1,w2,w3⟩
     ·have e61 : (z.k == 61)=true:=by simpa using w1
      obtain ⟨a,r,hzk⟩:=List.exists_cons_of_ne_nil w2
      obtain ⟨ax,cx,bx,ox,fx,hva,px,qx,rx⟩:=L5.out.op
      have hln : 0 < z.ks.length:=by rw [hzk];simp
      obtain ⟨rfl,_,_⟩:=px hln
      injection hva with hva1 _ hva2
      have t0:=(qx 0 hln).2.1
      have e0 : z.ks[0]=a:=by simp [hzk]
      rw [e0] at t0
      have t0' : W5.cell? ⟨bx,ox+1,none⟩=some (.string a.t):=by simpa using t0
      have e3 : (a.t.toList != y.t.toList)=false:=by rw [hzk] at w3;have w3 : a.t.toList=y.t.toList:=w3;simp [w3]
      have e3' : (a.t.toList == y.t.toList)=true:=by rw [hzk] at w3;have w3 : a.t.toList=y.t.toList:=w3;simp [w3]
      have e4 : (ukd != 4)=false:=by rw [w4];rfl
      have e4' : (ukd == 4)=true:=by rw [w4];rfl
      have d0 : (World.drew W5).cell? ⟨bx,ox+1,none⟩=some (.string a.t):=t0'
      subst hva1
      clear w1 w2 w3 w4 hzk e0 t0 qx rx px hva2
      go_wp2_with fail
      go_region
      go_wp2
      go_roundw
      case rel=>exact ⟨k+1,(i : Nat),by simp,rfl,by omega,B5.out.drew,HLa'.out⟩
      case measure=>simp [intOf];omega
     ·have e61 : (z.k == 61)=false:=by simpa using w1
      have e63 : (z.k == 63)=false:=by simpa using w2
      have e3 : (z.t.toList != y.t.toList)=false:=by simp [w3]
      have e3' : (z.t.toList == y.t.toList)=true:=by simp [w3]
      clear w1 w2 w3
      go_wp2
      go_roundw
      case rel=>exact ⟨k+1,(i : Nat),by simp,rfl,by omega,B5.out,HLa'.out⟩
      case measure=>simp [intOf];omega
   ·obtain rfl : k=U.length:=by omega
    have hd : ¬ ((U.length : Nat) : Int) < ((U.length : Nat) : Int):=by omega
    have CA:=awakeS_any wr (HE.out.bel (below_tr BW3.out HB.out))
    go_wp2_with fail
    go_at_call 9
    refine CA.mono ?_
    rintro e W9 ⟨rfl,b9⟩
    have BW9 : Hid (Below W.heap.size W W9):=below_tr (below_tr BW3.out HB.out) b9
    clear CA b9 s1
    go_wp2
    go_ret
    exact ⟨rfl,BW9.out⟩
 ·have b2 : Below W1.heap.size W1 (W1.alloc (Obj.cells #[.slice none 0 0,.slice none 0 0] 28)):=bel_a _ _
  have m3:=(b2.block _ (gl m1)).trans m1
  clear n0 n1 n2 n3
  obtain ⟨⟨n0,n1,n2,n3⟩,_⟩:=box4 m3
  have bW2:=below_tr (below_tr B0.out b1) b2
  have hb2 : (b != 0)=true:=by simpa using hb
  have CD:=rresolve_any x _ _ (lat_up HX.out bW2) (by omega) HT.out
  unfold Nd.v at CD
  have BW2 : Hid (Below W.heap.size W (W1.alloc (Obj.cells #[.slice none 0 0,.slice none 0 0] 28))):=bW2
  clear m1 m3 b1 b2 bW2 M0 B0 hb
  go_wp2_with fail
  go_at_call 8
  refine CD.mono ?_
  rintro e W3 ⟨b3,han⟩
  rcases han with ⟨hok,_⟩ | ⟨_,a',b',hb3,rfl⟩
  case inl=>exact absurd hok hno
  clear CD n0 n1 n2 n3
  have bW4:=below_tr (below_tr BW2.out b3) (bel_a W3 (Obj.cells #[.slice none 0 0,.slice none 0 0] 28))
  have CA:=awakeS_any _ (HE.out.bel bW4)
  have BW4 : Hid (Below W.heap.size W (W3.alloc (Obj.cells #[.slice none 0 0,.slice none 0 0] 28))):=bW4
  have hb4 : (b' != 0)=true:=by simpa using hb3
  clear b3 bW4 BW2 hno hb3
  go_wp2_with fail
  go_at_call 9
  refine CA.mono ?_
  rintro e W9 ⟨rfl,b9⟩
  have BW9 : Hid (Below W.heap.size W W9):=below_tr BW4.out b9
  clear CA b9
  go_wp2
  go_ret
  exact ⟨rfl,BW9.out⟩
end Go.Proofs.YtfcocoadaajbjaaGreatDoor
set_option linter.unusedVariables false
namespace Go.Proofs.YtfcocoadaajbjaaGreatDoor.SoT
open Go.RowKit
theorem walk (x : Nd) (u : Value) (w : World) (f : LAt w (fun b=>b < w.heap.size) u x.ks) (s : x.size ≤ 1048576) (t : ∀ y ∈ x.flat,y.t.size ≤ 1048576) (he : WEnv w) :
 Calls Tryz.prog 3 #[x.v u] w fun e w'=>e = .returned (.bool true)∧Below w.heap.size w w' :=
 tells_walk x u w f s (fun y hy=>Nat.le_trans (t y hy) (by decide)) he
end Go.Proofs.YtfcocoadaajbjaaGreatDoor.SoT
