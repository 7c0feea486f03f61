/- Own text. The document's walk over names: local declarations. -/
import Derived.Test.YtfcocoadaajbjaaGreatDoorGd15
import Derived.Test.YtfcocoadaajbjaaGreatDoorGd18
set_option linter.unusedVariables false
set_option linter.unusedSimpArgs false
set_option maxRecDepth 100000
set_option maxHeartbeats 32000000
namespace Go.Proofs.YtfcocoadaajbjaaGreatDoor
open Go.RowKit Go.MapKept
def gfL (nm : ByteArray) (p : Int) (L : List Lo) (d : Dw) : Dw:=L.foldl (fun v c=>if eqT c.nm nm=true then v.fail p 90 else v) d
theorem gfL_locs (nm : ByteArray) (p : Int) : ∀ (L : List Lo) (d : Dw),(gfL nm p L d).locs=d.locs
 | [],d=>rfl
 | c :: L,d=>by
  show (gfL nm p L (if eqT c.nm nm=true then d.fail p 90 else d)).locs=_
  rw [gfL_locs nm p L]
  split
  ·exact (fail_exs d p 90).2.2
  ·rfl
theorem gfL_take (nm : ByteArray) (p : Int) (L : List Lo) (d : Dw) (f k : Nat) (hf : f ≤ k) (hk : k < L.length) : gfL nm p ((L.drop f).take (k+1 - f)) d=if eqT L[k].nm nm=true then (gfL nm p ((L.drop f).take (k - f)) d).fail p 90 else gfL nm p ((L.drop f).take (k - f)) d:=by
 unfold gfL
 have h1 : k - f < (L.drop f).length:=by rw [List.length_drop];omega
 rw [show k+1 - f=(k - f)+1 by omega,List.take_succ_eq_append_getElem h1,List.foldl_append]
 have h2 : (L.drop f)[k - f]=L[k]:=by rw [List.getElem_drop];congr 1;omega
 rw [h2]
 rfl
theorem Wv.kbL {wb B : Nat} {W W1 W3 : World} {d : Dw} {V : Vs} (h : Wv wb B W d V) (b : Below W.heap.size W W1) (r2 : W1.grownBy W3 V.l.ownBlock) {k : Nat} {cs : Array Value} {t : TypeId} {fr : Nat × Nat} (hk : W.heap[k]?=some (.cells cs t fr)) (ht : t ≠ 128) : W3.heap[k]?=W.heap[k]?:=by
 have hl:=(gl hk)
 refine (r2.block k (Nat.lt_of_lt_of_le hl b.size) (fun e=>?_)).trans (b.block k hl)
 obtain ⟨cur,hb⟩:=own_cells h.l e.symm
 rw [hb] at hk;injection hk with hk;injection hk with _ hk;exact ht hk.symm
def SL (wb nb : Nat) (a : Option Addr) (n c : Nat) (x : Nd) (X : World) : Prop:=X.cell? ⟨wb,2,none⟩=some (.slice a n c)∧X.cell? ⟨nb,1,none⟩=some (.string x.t)∧X.cell? ⟨nb,0,none⟩=some (.int .i64 x.k)∧X.cell? ⟨nb,2,none⟩=some (.int .i64 x.n)
theorem hold_end {wb B nb : Nat} {W : World} {d : Dw} {V : Vs} {a : Option Addr} {c : Nat} {x : Nd} {v : Value} (h : Wv wb B W d V) (hv : V.l = .slice a d.locs.length c) (hm : W.heap[nb]?=some (nO x v)) (y : Lo) :
 (∀ X,Below W.heap.size W X→SL wb nb a d.locs.length c x X)∧∀ (W1 W3 : World) (gg cap : Nat),Below W.heap.size W W1→W3.ownsRow B 128 3 (.slice (some ⟨gg,0,none⟩) (d.locs.length+1) cap) (d.locs.length+1) (loV d.locs ++ y.cs)→W1.grownBy W3 (Value.slice a d.locs.length c).ownBlock→((Value.slice a d.locs.length c).ownBlock=some gg ∨ gg=W1.heap.size) →
  (W3.frozen? ⟨wb,2,none⟩=false∧W3.cell? ⟨wb,2,none⟩=some (.slice a d.locs.length c))∧SL wb nb a d.locs.length c x W3∧(W3.setCell ⟨wb,2,none⟩ (.slice (some ⟨gg,0,none⟩) (d.locs.length+1) cap)).heap[nb]?=some (nO x v)∧∃ V',Wv wb B (W3.setCell ⟨wb,2,none⟩ (.slice (some ⟨gg,0,none⟩) (d.locs.length+1) cap)) { d with locs:=d.locs ++ [y] } V'∧Kw wb V W V' (W3.setCell ⟨wb,2,none⟩ (.slice (some ⟨gg,0,none⟩) (d.locs.length+1) cap)):=by
 have hm' : W.heap[nb]?=some (.cells #[.int .i64 x.k,.string x.t,.int .i64 x.n,v] 24 (0,0)):=hm
 have ne : nb ≠ wb:=fun e=>by rw [e,h.r] at hm';injection hm' with hm';injection hm' with _ hm';exact absurd hm' (by decide)
 constructor
 ·intro X b
  obtain ⟨⟨_,_,c2,_⟩,_⟩:=box8 (h.bel b).r
  obtain ⟨⟨x0,x1,x2,x3⟩,_⟩:=box4 ((b.block _ (gl hm')).trans hm')
  exact ⟨by rw [c2,hv],x1,x0,x2⟩
 ·intro W1 W3 gg cap b r1 r2 r3
  rw [← hv] at r2 r3
  obtain ⟨k1,k2,k3⟩:=h.push_l b y r1 r2 r3
  obtain ⟨⟨_,_,c2,_⟩,fz⟩:=box8 (k3.trans h.r)
  have m:=(h.kbL b r2 hm' (by decide)).trans hm'
  obtain ⟨⟨x0,x1,x2,x3⟩,_⟩:=box4 m
  rw [hv] at c2
  exact ⟨⟨fz 2,c2⟩,⟨c2,x1,x0,x2⟩,(Below.heap_setCell W3 ⟨wb,2,none⟩ _ nb ne).trans m,_,k1,k2⟩
theorem hold_any {wb B : Nat} {W : World} {d : Dw} {V : Vs} (h : Wv wb B W d V) (l : List Nd) (v : Value) (hx : LAt W (fun b=>b < B) v l) (p : Int) (f : Nat) (hf : f ≤ d.locs.length) (hl : d.locs.length+l.length ≤ 8388608) (hp : 0 ≤ p) (hz : p+sizes l ≤ 16777216) (hs : sizes l ≤ 4194304) :
 Calls Tryz.prog 84 #[.pointer (some ⟨wb,0,none⟩),v,.int .i64 p,.int .i64 (f : Nat)] W (WvA wb B V W (Dw.hold l p f d)):=by
 obtain ⟨i0,hi0,hz0,hz1,hz2⟩:=info_parts info_lo
 obtain ⟨ax,cx,bx,ox,fx,rfl,px,qx,rx⟩:=hx.op
 have HV : Hid (Wv wb B W d V):=h
 have HQ : Hid (∀ i (h : i < l.length),Four W bx (ox+i * 4) l[i] (fx i)):=qx
 have HRx : Hid (∀ i (h : i < l.length),LAt W (fun b=>b < B) (fx i) l[i].ks):=rx
 have HPx : Hid (0 < l.length→ax=some ⟨bx,ox,none⟩∧bx < B∧bx < W.heap.size):=px
 have HTot : Hid (∀ i,sizes (l.take i) ≤ sizes l):=take_sizes_le l
 have HEnd : Hid (∀ (D : Dw) (pp : Int),Dw.hold (l.drop l.length) pp f D=D):=fun D pp=>by rw [List.drop_length];rfl
 have HLen : Hid (l.length ≤ sizes l):=sizes_len l
 clear h hx qx rx px
 go_enter Tryz.func84,Tryz.ntmps84
 go_wp2
 go_loopw [2,8] (fun v2 v8 wo=>∃ (k : Nat) (D : Dw) (VV : Vs),v8 = .int .i64 (k : Nat)∧v2 = .int .i64 (p+(sizes (l.take k) : Nat))∧k ≤ l.length∧Hid (Wv wb B wo D VV∧Kw wb V W VV wo∧Dw.hold l p f d=Dw.hold (l.drop k) (p+(sizes (l.take k) : Nat)) f D∧f ≤ D.locs.length∧D.locs.length ≤ d.locs.length+k)) (fun _ v8 _=>l.length - (intOf v8).toNat)
 case atStart=>exact ⟨0,d,V,rfl,by simp [sizes_nil],by omega,HV.out,Kw.refl _ _ _,by simp [sizes_nil],hf,by omega⟩
 case round =>
  obtain ⟨k,D,VV,rfl,rfl,hk,H⟩:=hrel
  obtain ⟨wo,hwo⟩ : ∃ X : World,X=wr:=⟨_,rfl⟩
  subst hwo
  by_cases hkl : k < l.length
  ·obtain ⟨rfl,hb1,hb2⟩:=HPx.out (by omega)
   obtain ⟨h1,h2,h3,h4,h5⟩:=H.out
   have hd : (k : Int) < (l.length : Int):=by omega
   obtain ⟨y1,y2,y3,y4⟩:=(HQ.out k hkl).of_block ((HV.out.below h2).block bx hb1)
   have HK0 : Hid (LAt W (fun b=>b < B) (fx k) l[k].ks):=HRx.out k hkl
   have HStep : Hid (Dw.hold l p f d=Dw.hold (l.drop (k+1)) (p+(sizes (l.take k) : Nat)+l[k].size) f (if decB l[k]=true then { gfL l[k].t (p+(sizes (l.take k) : Nat)) (D.locs.drop f) D with locs:=(gfL l[k].t (p+(sizes (l.take k) : Nat)) (D.locs.drop f) D).locs ++ [⟨l[k].t,p+(sizes (l.take k) : Nat),decide (l[k].k=13 ∨ (l[k].k=40∧l[k].n=0))⟩] } else D)):=by
    show _=_
    rw [h3,List.drop_eq_getElem_cons hkl]
    rfl
   have HSz : Hid (sizes (l.take (k+1))=sizes (l.take k)+l[k].size):=take_sizes l hkl
   have htk:=HTot.out (k+1)
   rw [HSz.out] at htk
   have H1' : Hid (Wv wb B wo D VV):=h1
   have K1' : Hid (Kw wb V W VV wo):=h2
   have hll:=HLen.out
   clear H h1 h2 h3 hb2
   generalize l[k]=x at *
   generalize fx k=vx at *
   generalize hsk : sizes (l.take k)=sk at *
   generalize hpk : p+(sk : Int)=pk at *
   obtain ⟨avx,cvx,hvx⟩:=HK0.out.sl
   rw [hvx] at y4 HK0
   clear hvx
   obtain ⟨W1,hW1⟩ : ∃ X,wo.alloc (nO x (.slice avx x.ks.length cvx))=X:=⟨_,rfl⟩
   have b1 : Below wo.heap.size wo W1:=by rw [← hW1];exact bel_a _ _
   have m1 : W1.heap[wo.heap.size]?=some (nO x (.slice avx x.ks.length cvx)):=by rw [← hW1];exact hnew _ rfl
   obtain ⟨⟨n0,n1,n2,n3⟩,_⟩:=box4 m1
   have H1 : Hid (Wv wb B W1 D VV):=H1'.out.bel b1
   have K1 : Hid (Kw wb V W VV W1):=K1'.out.trans (Kw.of b1)
   have M1 : Hid (W1.heap[wo.heap.size]?=some (nO x (.slice avx x.ks.length cvx))):=m1
   have HKd : Hid (∀ (X : World) (V2 : Vs),Kw wb V W V2 X→LAt X (fun b=>b < B) (.slice avx x.ks.length cvx) x.ks):=fun X V2 q=>HV.out.lat q HK0.out
   have HNx : Hid (p+((sk+x.size : Nat) : Int)=pk+(x.size : Nat)):=by show _=_;rw [← hpk];push_cast;omega
   have szx:=x.size_pos
   have hpk1 : 0 ≤ pk:=by omega
   have hpk2 : pk+(x.size : Nat) ≤ 16777216:=by omega
   have hsz2 : x.size ≤ 4194304:=by omega
   clear b1 m1 hpk hsk htk hll
   unfold nO at hW1
   cases q40 : (x.k == 40) with
   | true =>
    have t40 : x.k=40:=by simpa using q40
    have e13 : (x.k == 13)=false:=by rw [t40];decide
    have e40 : (x.k == 40)=true:=by rw [t40];decide
    have hfr : decide (x.k=13 ∨ (x.k=40∧x.n=0))=(x.n == 0):=by rw [Bool.eq_iff_iff];simp [t40]
    have HStp : Hid (Dw.hold l p f d=Dw.hold (l.drop (k+1)) (pk+(x.size : Nat)) f { gfL x.t pk (D.locs.drop f) D with locs:=D.locs ++ [⟨x.t,pk,(x.n == 0)⟩] }):=by
     show _=_
     rw [HStep.out,if_pos (by unfold decB;rw [t40];decide),hfr,gfL_locs]
    clear HStep t40 hfr
    obtain ⟨a,c,hv⟩:=rw_form H1.out.l
    have HL : Hid (VV.l = .slice a D.locs.length c):=hv
    have hDl : D.locs.length ≤ 8388608:=by omega
    have HW : Hid (∀ (X : World) (D2 : Dw),Wv wb B X D2 VV→D2.locs=D.locs→X.cell? ⟨wb,2,none⟩=some (.slice a D.locs.length c)∧X.frozen? ⟨wb,2,none⟩=false∧B ≤ X.heap.size∧X.ownsRow B 128 3 (.slice a D.locs.length c) D.locs.length (loV D.locs)∧(∀ j (hj : j < D.locs.length),∃ g,a=some ⟨g,0,none⟩∧X.cell? ⟨g,j * 3,none⟩=some (.string D.locs[j].nm))):=fun X D2 q e=>by
     obtain ⟨⟨_,_,c2,_⟩,fz⟩:=box8 q.r
     have ho:=q.l
     rw [hv] at c2
     rw [hv,e] at ho
     refine ⟨c2,fz 2,q.b,ho,fun j hj=>?_⟩
     obtain ⟨g,c',e',ck,_⟩:=lo_at ho hj
     injection e' with e1 e2 e3
     exact ⟨g,e1,ck⟩
    clear hv
    obtain ⟨z7,z8,z9,_,_⟩:=HW.out W1 D H1.out rfl
    go_wp2
    clear hW1
    go_loopw [10] (fun v10 wr=>∃ j : Nat,v10 = .int .i64 (j : Nat)∧f ≤ j∧j ≤ D.locs.length∧Hid (Wv wb B wr (gfL x.t pk ((D.locs.drop f).take (j - f)) D) VV∧Kw wb VV W1 VV wr)) (fun v10 _=>D.locs.length - (intOf v10).toNat)
    case atStart=>exact ⟨f,rfl,Nat.le_refl _,h4,by show _∧_;rw [Nat.sub_self];exact ⟨H1.out,Kw.refl _ _ _⟩⟩
    case round =>
     obtain ⟨j,rfl,hfj,hj,G⟩:=hrel
     obtain ⟨g1,g2⟩:=G.out
     have M2 : Hid (wr.heap[wo.heap.size]?=some (nO x (.slice avx x.ks.length cvx))):=H1.out.kept g2 M1.out (by decide)
     obtain ⟨⟨n0,n1,n2,n3⟩,_⟩:=box4 M2.out
     have hloc:=gfL_locs x.t pk ((D.locs.drop f).take (j - f)) D
     obtain ⟨z7,z8,z9,z10,z11⟩:=HW.out wr _ g1 hloc
     have G1 : Hid _:=g1
     have G2 : Hid (Kw wb V W VV wr):=K1.out.trans g2
     have G3 : Hid _:=g2
     clear G g1 g2
     by_cases hjl : j < D.locs.length
     ·obtain ⟨g,rfl,ck⟩:=z11 j hjl
      have hd2 : (j : Int) < (D.locs.length : Int):=by omega
      have HN : Hid (gfL x.t pk ((D.locs.drop f).take (j+1 - f)) D=if eqT D.locs[j].nm x.t=true then (gfL x.t pk ((D.locs.drop f).take (j - f)) D).fail pk 90 else gfL x.t pk ((D.locs.drop f).take (j - f)) D):=gfL_take x.t pk D.locs D f j hfj hjl
      have CF:=wfail_any (G1.out.bel (Below.refl _ _).drew) pk 90
      unfold eqT at HN
      clear z10 z11 hloc
      generalize D.locs[j]=z at *
      generalize z.nm=zn at *
      cases q : (zn.toList == x.t.toList) with
      | true =>
       have HR : Hid (gfL x.t pk ((D.locs.drop f).take (j+1 - f)) D=(gfL x.t pk ((D.locs.drop f).take (j - f)) D).fail pk 90):=by show _=_;rw [HN.out,if_pos q]
       clear HN
       go_wp2_with fail
       go_region
       go_wp2_with fail
       go_at_call 79
       refine CF.mono ?_
       rintro e W2 ⟨rfl,k1,k2⟩
       have K3 : Hid _:=k1
       have K4 : Hid _:=k2
       clear k1 k2 z7 z8 z9 ck n0 n1 n2 n3 CF
       go_wp2
       go_roundw
       case rel=>exact ⟨j+1,by simp,by omega,by omega,by show _∧_;rw [HR.out];exact ⟨K3.out,G3.out.trans ((Kw.of (Below.refl _ _).drew).trans K4.out)⟩⟩
       case measure=>simp [intOf];omega
      | false =>
       have HR : Hid (gfL x.t pk ((D.locs.drop f).take (j+1 - f)) D=gfL x.t pk ((D.locs.drop f).take (j - f)) D):=by show _=_;rw [HN.out,if_neg (by rw [q];decide)]
       clear HN CF
       go_wp2_with fail
       go_region
       go_wp2
       go_roundw
       case rel =>
        refine ⟨j+1,by simp,by omega,by omega,?_⟩
        show _∧_
        rw [HR.out]
        exact ⟨G1.out.bel (Below.refl _ _).drew,G3.out.trans (Kw.of (Below.refl _ _).drew)⟩
       case measure=>simp [intOf];omega
     ·obtain rfl : j=D.locs.length:=by omega
      have hd2 : ¬ ((D.locs.length : Nat) : Int) < ((D.locs.length : Nat) : Int):=by omega
      have e0 : (D.locs.drop f).take (D.locs.length - f)=D.locs.drop f:=by rw [← List.length_drop,List.take_length]
      rw [e0] at G1
      clear hloc z11 e0
      have hU2 : VV.l = .slice a (gfL x.t pk (D.locs.drop f) D).locs.length c:=by rw [gfL_locs];exact HL.out
      obtain ⟨SE,AE⟩:=hold_end G1.out hU2 M2.out ⟨x.t,pk,(x.n == 0)⟩
      rw [gfL_locs] at SE AE
      have HS : Hid (∀ X,Below (World.drew wr).heap.size (World.drew wr) X→X.cell? ⟨wb,2,none⟩=some (.slice a D.locs.length c)∧X.cell? ⟨wo.heap.size,1,none⟩=some (.string x.t)∧X.cell? ⟨wo.heap.size,0,none⟩=some (.int .i64 x.k)∧X.cell? ⟨wo.heap.size,2,none⟩=some (.int .i64 x.n)):=fun X q=>SE X ((Below.refl _ _).drew.trans q)
      have su0:=HS.out _ (Below.refl _ _)
      have own2:=(G1.out.bel (Below.refl _ _).drew).l
      rw [HL.out,gfL_locs] at own2
      have HA : Hid (∀ (Y W3 : World) (gg cap : Nat),Below (World.drew wr).heap.size (World.drew wr) Y→W3.ownsRow B 128 3 (.slice (some ⟨gg,0,none⟩) (D.locs.length+1) cap) (D.locs.length+1) (loV D.locs ++ [.string x.t,.int .i64 pk,.bool (x.n == 0)])→Y.grownBy W3 (Value.slice a D.locs.length c).ownBlock→((Value.slice a D.locs.length c).ownBlock=some gg ∨ gg=Y.heap.size)→_):=fun Y W3 gg cap q=>AE Y W3 gg cap ((Below.refl _ _).drew.trans q)
      clear SE AE hU2 HW
      go_wp2_with fail
      have su : (fun X : World=>X.cell? ⟨wb,2,none⟩=some (.slice a D.locs.length c)∧X.cell? ⟨wo.heap.size,1,none⟩=some (.string x.t)∧X.cell? ⟨wo.heap.size,0,none⟩=some (.int .i64 x.k)∧X.cell? ⟨wo.heap.size,2,none⟩=some (.int .i64 x.n)) (World.drew wr):=su0
      refine wp_region_U (u:=24) (S:=fun X=>X.cell? ⟨wb,2,none⟩=some (.slice a D.locs.length c)∧X.cell? ⟨wo.heap.size,1,none⟩=some (.string x.t)∧X.cell? ⟨wo.heap.size,0,none⟩=some (.int .i64 x.k)∧X.cell? ⟨wo.heap.size,2,none⟩=some (.int .i64 x.n)) (by kernel_rfl) ?_
      change wpAnyU _ _ _ _ _ _ _ _ _ (World.drew _)
      refine uT 0 (.pointer (some ⟨wb,0,none⟩)) su ?_
      refine uT 1 (.pointer (some ⟨wb,0,none⟩)) su ?_
      refine uT 2 (.pointer (some ⟨wb,0,none⟩)) su ?_
      refine uT 3 (.pointer (some ⟨wb,2,none⟩)) su ?_
      refine uT 4 (.slice a D.locs.length c) su ?_
      refine uT 5 (.pointer (some ⟨wo.heap.size,1,none⟩)) su ?_
      refine uT 6 (.string x.t) su ?_
      refine uT 7 (.int .i64 pk) su ?_
      refine uT 8 (.pointer (some ⟨wo.heap.size,0,none⟩)) su ?_
      refine uT 9 (.int .i64 x.k) su ?_
      refine uT 10 (.bool false) su ?_
      refine uT 11 (.bool false) su ?_
      refine uT 12 (.pointer (some ⟨wo.heap.size,0,none⟩)) su ?_
      refine uT 13 (.int .i64 x.k) su ?_
      refine uT 14 (.bool true) su ?_
      refine uT 15 (.bool true) su ?_
      refine uT 16 (.pointer (some ⟨wo.heap.size,2,none⟩)) su ?_
      refine uT 17 (.int .i64 x.n) su ?_
      refine uT 18 (.bool (x.n == 0)) su ?_
      refine uT 19 (.bool (x.n == 0)) su ?_
      refine uT 20 (.bool (x.n == 0)) su ?_
      refine uT 21 (.agg #[.string x.t,.int .i64 pk,.bool (x.n == 0)]) su ?_
      refine U_ready (rs:=[22]) (by kernel_rfl) (by simp) ?_
      refine AllU.cons rfl (by decide) (fun K hK=>?_) AllU.nil
      go_simp
      refine hK.out _ _ (HS.out _ (bel_a _ _)) ?_
      clear hK K
      refine U_ready (rs:=[23]) (by kernel_rfl) (by simp) ?_
      refine AllU.cons rfl (by decide) (fun K hK=>?_) AllU.nil
      refine step_append_lies _ (by rfl) _ _ _ (by rfl) B 128 i0 _ 3 32 Tryz.underlying60 hi0 hz0 hz1 hz2 rfl (by omega) _ D.locs.length (loV D.locs) (by rfl) (own2.alloc _) ⟨(World.drew wr).heap.size,0,none⟩ 1 1 [.string x.t,.int .i64 pk,.bool (x.n == 0)] (by rfl) (by rfl) (World.news_of_block (cs:=#[.string x.t,.int .i64 pk,.bool (x.n == 0)]) (t:=128) (fr:=(0,0)) (hnew _ (by simp))) (by simp [Value.oneCell']) (by omega) (by unfold maxLen;omega) (by omega) (by simp;omega) ((World.drew wr).heap.size+1) (by simp) ?_
      intro gg cap W6 hown6 hgrow hat hlt6
      obtain ⟨⟨w1,w2⟩,w3,hfin⟩:=HA.out _ W6 gg cap (bel_a _ _) hown6 hgrow (by simpa using hat)
      refine hK.out _ _ w3 ?_
      clear hK K
      refine U_end (by kernel_rfl) ?_
      refine wpAny_chain [_,_,_] [24,25,26] _ _ _ _ (by kernel_rfl) rfl (by decide) ?_
      have HFN : Hid _:=hfin
      clear HA HS own2 su su0 hown6 hgrow hat hlt6 w3 z7 z8 z9 z10 n0 n1 n2 n3
      obtain ⟨x4,V3,k3,k4⟩:=HFN.out
      have M3 : Hid _:=x4
      have H3 : Hid _:=k3
      have K3 : Hid (Kw wb V W V3 _):=G2.out.trans k4
      clear HFN x4 k3 k4
      have hDD2 : Hid ((gfL x.t pk (D.locs.drop f) D).locs=D.locs):=gfL_locs _ _ _ _
      generalize gfL x.t pk (D.locs.drop f) D=DD at *
      obtain ⟨⟨w0,w1,w2,w3⟩,_⟩:=box4 M3.out
      have CS:=rsize_any x _ _ _ (HKd.out _ _ K3.out) (by omega)
      unfold Nd.v at CS
      go_wp2_with fail
      go_at_call 12
      refine CS.mono ?_
      rintro e W9 ⟨rfl,b9⟩
      clear CS w0 w1 w2 w3
      have HF : Hid (Wv wb B W9 ({ DD with locs:=D.locs ++ [(⟨x.t,pk,(x.n == 0)⟩ : Lo)] } : Dw) _∧Kw wb V W _ W9∧Dw.hold l p f d=Dw.hold (l.drop (k+1)) (pk+(x.size : Nat)) f ({ DD with locs:=D.locs ++ [(⟨x.t,pk,(x.n == 0)⟩ : Lo)] } : Dw)∧f ≤ ({ DD with locs:=D.locs ++ [(⟨x.t,pk,(x.n == 0)⟩ : Lo)] } : Dw).locs.length∧({ DD with locs:=D.locs ++ [(⟨x.t,pk,(x.n == 0)⟩ : Lo)] } : Dw).locs.length ≤ d.locs.length+(k+1)):=⟨H3.out.bel b9,K3.out.trans (Kw.of b9),HStp.out,(by show f ≤ (D.locs ++ [_]).length;rw [List.length_append];omega),(by show (D.locs ++ [_]).length ≤ _;rw [List.length_append];simp;omega)⟩
      clear b9
      go_wp2
      go_roundw
      case rel=>exact ⟨k+1,({ DD with locs:=D.locs ++ [(⟨x.t,pk,(x.n == 0)⟩ : Lo)] } : Dw),_,by simp,by rw [HSz.out,HNx.out],by omega,by show _∧_;rw [HSz.out,HNx.out];exact HF.out⟩
      case measure=>simp [intOf];omega
   | false =>
    cases q41 : (x.k == 41) with
    | true =>
     have t41 : x.k=41:=by simpa using q41
     have e13 : (x.k == 13)=false:=by rw [t41];decide
     have e40 : (x.k == 40)=false:=by rw [t41];decide
     have hfr : decide (x.k=13 ∨ (x.k=40∧x.n=0))=false:=by simp [t41]
     have HStp : Hid (Dw.hold l p f d=Dw.hold (l.drop (k+1)) (pk+(x.size : Nat)) f { gfL x.t pk (D.locs.drop f) D with locs:=D.locs ++ [⟨x.t,pk,false⟩] }):=by
      show _=_
      rw [HStep.out,if_pos (by unfold decB;rw [t41];decide),hfr,gfL_locs]
     clear HStep t41 hfr
     obtain ⟨a,c,hv⟩:=rw_form H1.out.l
     have HL : Hid (VV.l = .slice a D.locs.length c):=hv
     have hDl : D.locs.length ≤ 8388608:=by omega
     have HW : Hid (∀ (X : World) (D2 : Dw),Wv wb B X D2 VV→D2.locs=D.locs→X.cell? ⟨wb,2,none⟩=some (.slice a D.locs.length c)∧X.frozen? ⟨wb,2,none⟩=false∧B ≤ X.heap.size∧X.ownsRow B 128 3 (.slice a D.locs.length c) D.locs.length (loV D.locs)∧(∀ j (hj : j < D.locs.length),∃ g,a=some ⟨g,0,none⟩∧X.cell? ⟨g,j * 3,none⟩=some (.string D.locs[j].nm))):=fun X D2 q e=>by
      obtain ⟨⟨_,_,c2,_⟩,fz⟩:=box8 q.r
      have ho:=q.l
      rw [hv] at c2
      rw [hv,e] at ho
      refine ⟨c2,fz 2,q.b,ho,fun j hj=>?_⟩
      obtain ⟨g,c',e',ck,_⟩:=lo_at ho hj
      injection e' with e1 e2 e3
      exact ⟨g,e1,ck⟩
     clear hv
     obtain ⟨z7,z8,z9,_,_⟩:=HW.out W1 D H1.out rfl
     go_wp2
     clear hW1
     go_loopw [10] (fun v10 wr=>∃ j : Nat,v10 = .int .i64 (j : Nat)∧f ≤ j∧j ≤ D.locs.length∧Hid (Wv wb B wr (gfL x.t pk ((D.locs.drop f).take (j - f)) D) VV∧Kw wb VV W1 VV wr)) (fun v10 _=>D.locs.length - (intOf v10).toNat)
     case atStart=>exact ⟨f,rfl,Nat.le_refl _,h4,by show _∧_;rw [Nat.sub_self];exact ⟨H1.out,Kw.refl _ _ _⟩⟩
     case round =>
      obtain ⟨j,rfl,hfj,hj,G⟩:=hrel
      obtain ⟨g1,g2⟩:=G.out
      have M2 : Hid (wr.heap[wo.heap.size]?=some (nO x (.slice avx x.ks.length cvx))):=H1.out.kept g2 M1.out (by decide)
      obtain ⟨⟨n0,n1,n2,n3⟩,_⟩:=box4 M2.out
      have hloc:=gfL_locs x.t pk ((D.locs.drop f).take (j - f)) D
      obtain ⟨z7,z8,z9,z10,z11⟩:=HW.out wr _ g1 hloc
      have G1 : Hid _:=g1
      have G2 : Hid (Kw wb V W VV wr):=K1.out.trans g2
      have G3 : Hid _:=g2
      clear G g1 g2
      by_cases hjl : j < D.locs.length
      ·obtain ⟨g,rfl,ck⟩:=z11 j hjl
       have hd2 : (j : Int) < (D.locs.length : Int):=by omega
       have HN : Hid (gfL x.t pk ((D.locs.drop f).take (j+1 - f)) D=if eqT D.locs[j].nm x.t=true then (gfL x.t pk ((D.locs.drop f).take (j - f)) D).fail pk 90 else gfL x.t pk ((D.locs.drop f).take (j - f)) D):=gfL_take x.t pk D.locs D f j hfj hjl
       have CF:=wfail_any (G1.out.bel (Below.refl _ _).drew) pk 90
       unfold eqT at HN
       clear z10 z11 hloc
       generalize D.locs[j]=z at *
       generalize z.nm=zn at *
       cases q : (zn.toList == x.t.toList) with
       | true =>
        have HR : Hid (gfL x.t pk ((D.locs.drop f).take (j+1 - f)) D=(gfL x.t pk ((D.locs.drop f).take (j - f)) D).fail pk 90):=by show _=_;rw [HN.out,if_pos q]
        clear HN
        go_wp2_with fail
        go_region
        go_wp2_with fail
        go_at_call 79
        refine CF.mono ?_
        rintro e W2 ⟨rfl,k1,k2⟩
        have K3 : Hid _:=k1
        have K4 : Hid _:=k2
        clear k1 k2 z7 z8 z9 ck n0 n1 n2 n3 CF
        go_wp2
        go_roundw
        case rel=>exact ⟨j+1,by simp,by omega,by omega,by show _∧_;rw [HR.out];exact ⟨K3.out,G3.out.trans ((Kw.of (Below.refl _ _).drew).trans K4.out)⟩⟩
        case measure=>simp [intOf];omega
       | false =>
        have HR : Hid (gfL x.t pk ((D.locs.drop f).take (j+1 - f)) D=gfL x.t pk ((D.locs.drop f).take (j - f)) D):=by show _=_;rw [HN.out,if_neg (by rw [q];decide)]
        clear HN CF
        go_wp2_with fail
        go_region
        go_wp2
        go_roundw
        case rel =>
         refine ⟨j+1,by simp,by omega,by omega,?_⟩
         show _∧_
         rw [HR.out]
         exact ⟨G1.out.bel (Below.refl _ _).drew,G3.out.trans (Kw.of (Below.refl _ _).drew)⟩
        case measure=>simp [intOf];omega
      ·obtain rfl : j=D.locs.length:=by omega
       have hd2 : ¬ ((D.locs.length : Nat) : Int) < ((D.locs.length : Nat) : Int):=by omega
       have e0 : (D.locs.drop f).take (D.locs.length - f)=D.locs.drop f:=by rw [← List.length_drop,List.take_length]
       rw [e0] at G1
       clear hloc z11 e0
       have hU2 : VV.l = .slice a (gfL x.t pk (D.locs.drop f) D).locs.length c:=by rw [gfL_locs];exact HL.out
       obtain ⟨SE,AE⟩:=hold_end G1.out hU2 M2.out ⟨x.t,pk,false⟩
       rw [gfL_locs] at SE AE
       have HS : Hid (∀ X,Below (World.drew wr).heap.size (World.drew wr) X→X.cell? ⟨wb,2,none⟩=some (.slice a D.locs.length c)∧X.cell? ⟨wo.heap.size,1,none⟩=some (.string x.t)∧X.cell? ⟨wo.heap.size,0,none⟩=some (.int .i64 x.k)∧X.cell? ⟨wo.heap.size,2,none⟩=some (.int .i64 x.n)):=fun X q=>SE X ((Below.refl _ _).drew.trans q)
       have su0:=HS.out _ (Below.refl _ _)
       have own2:=(G1.out.bel (Below.refl _ _).drew).l
       rw [HL.out,gfL_locs] at own2
       have HA : Hid (∀ (Y W3 : World) (gg cap : Nat),Below (World.drew wr).heap.size (World.drew wr) Y→W3.ownsRow B 128 3 (.slice (some ⟨gg,0,none⟩) (D.locs.length+1) cap) (D.locs.length+1) (loV D.locs ++ [.string x.t,.int .i64 pk,.bool false])→Y.grownBy W3 (Value.slice a D.locs.length c).ownBlock→((Value.slice a D.locs.length c).ownBlock=some gg ∨ gg=Y.heap.size)→_):=fun Y W3 gg cap q=>AE Y W3 gg cap ((Below.refl _ _).drew.trans q)
       clear SE AE hU2 HW
       go_wp2_with fail
       have su : (fun X : World=>X.cell? ⟨wb,2,none⟩=some (.slice a D.locs.length c)∧X.cell? ⟨wo.heap.size,1,none⟩=some (.string x.t)∧X.cell? ⟨wo.heap.size,0,none⟩=some (.int .i64 x.k)∧X.cell? ⟨wo.heap.size,2,none⟩=some (.int .i64 x.n)) (World.drew wr):=su0
       refine wp_region_U (u:=24) (S:=fun X=>X.cell? ⟨wb,2,none⟩=some (.slice a D.locs.length c)∧X.cell? ⟨wo.heap.size,1,none⟩=some (.string x.t)∧X.cell? ⟨wo.heap.size,0,none⟩=some (.int .i64 x.k)∧X.cell? ⟨wo.heap.size,2,none⟩=some (.int .i64 x.n)) (by kernel_rfl) ?_
       change wpAnyU _ _ _ _ _ _ _ _ _ (World.drew _)
       refine uT 0 (.pointer (some ⟨wb,0,none⟩)) su ?_
       refine uT 1 (.pointer (some ⟨wb,0,none⟩)) su ?_
       refine uT 2 (.pointer (some ⟨wb,0,none⟩)) su ?_
       refine uT 3 (.pointer (some ⟨wb,2,none⟩)) su ?_
       refine uT 4 (.slice a D.locs.length c) su ?_
       refine uT 5 (.pointer (some ⟨wo.heap.size,1,none⟩)) su ?_
       refine uT 6 (.string x.t) su ?_
       refine uT 7 (.int .i64 pk) su ?_
       refine uT 8 (.pointer (some ⟨wo.heap.size,0,none⟩)) su ?_
       refine uT 9 (.int .i64 x.k) su ?_
       refine uT 10 (.bool false) su ?_
       refine uT 11 (.bool false) su ?_
       refine uT 12 (.pointer (some ⟨wo.heap.size,0,none⟩)) su ?_
       refine uT 13 (.int .i64 x.k) su ?_
       refine uT 14 (.bool false) su ?_
       refine uT 15 (.bool false) su ?_
       refine uS 16 su ?_
       refine uS 17 su ?_
       refine uS 18 su ?_
       refine uT 19 (.bool false) su ?_
       refine uT 20 (.bool false) su ?_
       refine uT 21 (.agg #[.string x.t,.int .i64 pk,.bool false]) su ?_
       refine U_ready (rs:=[22]) (by kernel_rfl) (by simp) ?_
       refine AllU.cons rfl (by decide) (fun K hK=>?_) AllU.nil
       go_simp
       refine hK.out _ _ (HS.out _ (bel_a _ _)) ?_
       clear hK K
       refine U_ready (rs:=[23]) (by kernel_rfl) (by simp) ?_
       refine AllU.cons rfl (by decide) (fun K hK=>?_) AllU.nil
       refine step_append_lies _ (by rfl) _ _ _ (by rfl) B 128 i0 _ 3 32 Tryz.underlying60 hi0 hz0 hz1 hz2 rfl (by omega) _ D.locs.length (loV D.locs) (by rfl) (own2.alloc _) ⟨(World.drew wr).heap.size,0,none⟩ 1 1 [.string x.t,.int .i64 pk,.bool false] (by rfl) (by rfl) (World.news_of_block (cs:=#[.string x.t,.int .i64 pk,.bool false]) (t:=128) (fr:=(0,0)) (hnew _ (by simp))) (by simp [Value.oneCell']) (by omega) (by unfold maxLen;omega) (by omega) (by simp;omega) ((World.drew wr).heap.size+1) (by simp) ?_
       intro gg cap W6 hown6 hgrow hat hlt6
       obtain ⟨⟨w1,w2⟩,w3,hfin⟩:=HA.out _ W6 gg cap (bel_a _ _) hown6 hgrow (by simpa using hat)
       refine hK.out _ _ w3 ?_
       clear hK K
       refine U_end (by kernel_rfl) ?_
       refine wpAny_chain [_,_,_] [24,25,26] _ _ _ _ (by kernel_rfl) rfl (by decide) ?_
       have HFN : Hid _:=hfin
       clear HA HS own2 su su0 hown6 hgrow hat hlt6 w3 z7 z8 z9 z10 n0 n1 n2 n3
       obtain ⟨x4,V3,k3,k4⟩:=HFN.out
       have M3 : Hid _:=x4
       have H3 : Hid _:=k3
       have K3 : Hid (Kw wb V W V3 _):=G2.out.trans k4
       clear HFN x4 k3 k4
       have hDD2 : Hid ((gfL x.t pk (D.locs.drop f) D).locs=D.locs):=gfL_locs _ _ _ _
       generalize gfL x.t pk (D.locs.drop f) D=DD at *
       obtain ⟨⟨w0,w1,w2,w3⟩,_⟩:=box4 M3.out
       have CS:=rsize_any x _ _ _ (HKd.out _ _ K3.out) (by omega)
       unfold Nd.v at CS
       go_wp2_with fail
       go_at_call 12
       refine CS.mono ?_
       rintro e W9 ⟨rfl,b9⟩
       clear CS w0 w1 w2 w3
       have HF : Hid (Wv wb B W9 ({ DD with locs:=D.locs ++ [(⟨x.t,pk,false⟩ : Lo)] } : Dw) _∧Kw wb V W _ W9∧Dw.hold l p f d=Dw.hold (l.drop (k+1)) (pk+(x.size : Nat)) f ({ DD with locs:=D.locs ++ [(⟨x.t,pk,false⟩ : Lo)] } : Dw)∧f ≤ ({ DD with locs:=D.locs ++ [(⟨x.t,pk,false⟩ : Lo)] } : Dw).locs.length∧({ DD with locs:=D.locs ++ [(⟨x.t,pk,false⟩ : Lo)] } : Dw).locs.length ≤ d.locs.length+(k+1)):=⟨H3.out.bel b9,K3.out.trans (Kw.of b9),HStp.out,(by show f ≤ (D.locs ++ [_]).length;rw [List.length_append];omega),(by show (D.locs ++ [_]).length ≤ _;rw [List.length_append];simp;omega)⟩
       clear b9
       go_wp2
       go_roundw
       case rel=>exact ⟨k+1,({ DD with locs:=D.locs ++ [(⟨x.t,pk,false⟩ : Lo)] } : Dw),_,by simp,by rw [HSz.out,HNx.out],by omega,by show _∧_;rw [HSz.out,HNx.out];exact HF.out⟩
       case measure=>simp [intOf];omega
    | false =>
     cases q13 : (x.k == 13) with
     | true =>
      have t13 : x.k=13:=by simpa using q13
      have e13 : (x.k == 13)=true:=by rw [t13];decide
      have e40 : (x.k == 40)=false:=by rw [t13];decide
      have hfr : decide (x.k=13 ∨ (x.k=40∧x.n=0))=true:=by simp [t13]
      have HStp : Hid (Dw.hold l p f d=Dw.hold (l.drop (k+1)) (pk+(x.size : Nat)) f { gfL x.t pk (D.locs.drop f) D with locs:=D.locs ++ [⟨x.t,pk,true⟩] }):=by
       show _=_
       rw [HStep.out,if_pos (by unfold decB;rw [t13];decide),hfr,gfL_locs]
      clear HStep t13 hfr
      obtain ⟨a,c,hv⟩:=rw_form H1.out.l
      have HL : Hid (VV.l = .slice a D.locs.length c):=hv
      have hDl : D.locs.length ≤ 8388608:=by omega
      have HW : Hid (∀ (X : World) (D2 : Dw),Wv wb B X D2 VV→D2.locs=D.locs→X.cell? ⟨wb,2,none⟩=some (.slice a D.locs.length c)∧X.frozen? ⟨wb,2,none⟩=false∧B ≤ X.heap.size∧X.ownsRow B 128 3 (.slice a D.locs.length c) D.locs.length (loV D.locs)∧(∀ j (hj : j < D.locs.length),∃ g,a=some ⟨g,0,none⟩∧X.cell? ⟨g,j * 3,none⟩=some (.string D.locs[j].nm))):=fun X D2 q e=>by
       obtain ⟨⟨_,_,c2,_⟩,fz⟩:=box8 q.r
       have ho:=q.l
       rw [hv] at c2
       rw [hv,e] at ho
       refine ⟨c2,fz 2,q.b,ho,fun j hj=>?_⟩
       obtain ⟨g,c',e',ck,_⟩:=lo_at ho hj
       injection e' with e1 e2 e3
       exact ⟨g,e1,ck⟩
      clear hv
      obtain ⟨z7,z8,z9,_,_⟩:=HW.out W1 D H1.out rfl
      go_wp2
      clear hW1
      go_loopw [10] (fun v10 wr=>∃ j : Nat,v10 = .int .i64 (j : Nat)∧f ≤ j∧j ≤ D.locs.length∧Hid (Wv wb B wr (gfL x.t pk ((D.locs.drop f).take (j - f)) D) VV∧Kw wb VV W1 VV wr)) (fun v10 _=>D.locs.length - (intOf v10).toNat)
      case atStart=>exact ⟨f,rfl,Nat.le_refl _,h4,by show _∧_;rw [Nat.sub_self];exact ⟨H1.out,Kw.refl _ _ _⟩⟩
      case round =>
       obtain ⟨j,rfl,hfj,hj,G⟩:=hrel
       obtain ⟨g1,g2⟩:=G.out
       have M2 : Hid (wr.heap[wo.heap.size]?=some (nO x (.slice avx x.ks.length cvx))):=H1.out.kept g2 M1.out (by decide)
       obtain ⟨⟨n0,n1,n2,n3⟩,_⟩:=box4 M2.out
       have hloc:=gfL_locs x.t pk ((D.locs.drop f).take (j - f)) D
       obtain ⟨z7,z8,z9,z10,z11⟩:=HW.out wr _ g1 hloc
       have G1 : Hid _:=g1
       have G2 : Hid (Kw wb V W VV wr):=K1.out.trans g2
       have G3 : Hid _:=g2
       clear G g1 g2
       by_cases hjl : j < D.locs.length
       ·obtain ⟨g,rfl,ck⟩:=z11 j hjl
        have hd2 : (j : Int) < (D.locs.length : Int):=by omega
        have HN : Hid (gfL x.t pk ((D.locs.drop f).take (j+1 - f)) D=if eqT D.locs[j].nm x.t=true then (gfL x.t pk ((D.locs.drop f).take (j - f)) D).fail pk 90 else gfL x.t pk ((D.locs.drop f).take (j - f)) D):=gfL_take x.t pk D.locs D f j hfj hjl
        have CF:=wfail_any (G1.out.bel (Below.refl _ _).drew) pk 90
        unfold eqT at HN
        clear z10 z11 hloc
        generalize D.locs[j]=z at *
        generalize z.nm=zn at *
        cases q : (zn.toList == x.t.toList) with
        | true =>
         have HR : Hid (gfL x.t pk ((D.locs.drop f).take (j+1 - f)) D=(gfL x.t pk ((D.locs.drop f).take (j - f)) D).fail pk 90):=by show _=_;rw [HN.out,if_pos q]
         clear HN
         go_wp2_with fail
         go_region
         go_wp2_with fail
         go_at_call 79
         refine CF.mono ?_
         rintro e W2 ⟨rfl,k1,k2⟩
         have K3 : Hid _:=k1
         have K4 : Hid _:=k2
         clear k1 k2 z7 z8 z9 ck n0 n1 n2 n3 CF
         go_wp2
         go_roundw
         case rel=>exact ⟨j+1,by simp,by omega,by omega,by show _∧_;rw [HR.out];exact ⟨K3.out,G3.out.trans ((Kw.of (Below.refl _ _).drew).trans K4.out)⟩⟩
         case measure=>simp [intOf];omega
        | false =>
         have HR : Hid (gfL x.t pk ((D.locs.drop f).take (j+1 - f)) D=gfL x.t pk ((D.locs.drop f).take (j - f)) D):=by show _=_;rw [HN.out,if_neg (by rw [q];decide)]
         clear HN CF
         go_wp2_with fail
         go_region
         go_wp2
         go_roundw
         case rel =>
          refine ⟨j+1,by simp,by omega,by omega,?_⟩
          show _∧_
          rw [HR.out]
          exact ⟨G1.out.bel (Below.refl _ _).drew,G3.out.trans (Kw.of (Below.refl _ _).drew)⟩
         case measure=>simp [intOf];omega
       ·obtain rfl : j=D.locs.length:=by omega
        have hd2 : ¬ ((D.locs.length : Nat) : Int) < ((D.locs.length : Nat) : Int):=by omega
        have e0 : (D.locs.drop f).take (D.locs.length - f)=D.locs.drop f:=by rw [← List.length_drop,List.take_length]
        rw [e0] at G1
        clear hloc z11 e0
        have hU2 : VV.l = .slice a (gfL x.t pk (D.locs.drop f) D).locs.length c:=by rw [gfL_locs];exact HL.out
        obtain ⟨SE,AE⟩:=hold_end G1.out hU2 M2.out ⟨x.t,pk,true⟩
        rw [gfL_locs] at SE AE
        have HS : Hid (∀ X,Below (World.drew wr).heap.size (World.drew wr) X→X.cell? ⟨wb,2,none⟩=some (.slice a D.locs.length c)∧X.cell? ⟨wo.heap.size,1,none⟩=some (.string x.t)∧X.cell? ⟨wo.heap.size,0,none⟩=some (.int .i64 x.k)∧X.cell? ⟨wo.heap.size,2,none⟩=some (.int .i64 x.n)):=fun X q=>SE X ((Below.refl _ _).drew.trans q)
        have su0:=HS.out _ (Below.refl _ _)
        have own2:=(G1.out.bel (Below.refl _ _).drew).l
        rw [HL.out,gfL_locs] at own2
        have HA : Hid (∀ (Y W3 : World) (gg cap : Nat),Below (World.drew wr).heap.size (World.drew wr) Y→W3.ownsRow B 128 3 (.slice (some ⟨gg,0,none⟩) (D.locs.length+1) cap) (D.locs.length+1) (loV D.locs ++ [.string x.t,.int .i64 pk,.bool true])→Y.grownBy W3 (Value.slice a D.locs.length c).ownBlock→((Value.slice a D.locs.length c).ownBlock=some gg ∨ gg=Y.heap.size)→_):=fun Y W3 gg cap q=>AE Y W3 gg cap ((Below.refl _ _).drew.trans q)
        clear SE AE hU2 HW
        go_wp2_with fail
        have su : (fun X : World=>X.cell? ⟨wb,2,none⟩=some (.slice a D.locs.length c)∧X.cell? ⟨wo.heap.size,1,none⟩=some (.string x.t)∧X.cell? ⟨wo.heap.size,0,none⟩=some (.int .i64 x.k)∧X.cell? ⟨wo.heap.size,2,none⟩=some (.int .i64 x.n)) (World.drew wr):=su0
        refine wp_region_U (u:=24) (S:=fun X=>X.cell? ⟨wb,2,none⟩=some (.slice a D.locs.length c)∧X.cell? ⟨wo.heap.size,1,none⟩=some (.string x.t)∧X.cell? ⟨wo.heap.size,0,none⟩=some (.int .i64 x.k)∧X.cell? ⟨wo.heap.size,2,none⟩=some (.int .i64 x.n)) (by kernel_rfl) ?_
        change wpAnyU _ _ _ _ _ _ _ _ _ (World.drew _)
        refine uT 0 (.pointer (some ⟨wb,0,none⟩)) su ?_
        refine uT 1 (.pointer (some ⟨wb,0,none⟩)) su ?_
        refine uT 2 (.pointer (some ⟨wb,0,none⟩)) su ?_
        refine uT 3 (.pointer (some ⟨wb,2,none⟩)) su ?_
        refine uT 4 (.slice a D.locs.length c) su ?_
        refine uT 5 (.pointer (some ⟨wo.heap.size,1,none⟩)) su ?_
        refine uT 6 (.string x.t) su ?_
        refine uT 7 (.int .i64 pk) su ?_
        refine uT 8 (.pointer (some ⟨wo.heap.size,0,none⟩)) su ?_
        refine uT 9 (.int .i64 x.k) su ?_
        refine uT 10 (.bool true) su ?_
        refine uT 11 (.bool true) su ?_
        refine uS 12 su ?_
        refine uS 13 su ?_
        refine uS 14 su ?_
        refine uS 15 su ?_
        refine uS 16 su ?_
        refine uS 17 su ?_
        refine uS 18 su ?_
        refine uS 19 su ?_
        refine uT 20 (.bool true) su ?_
        refine uT 21 (.agg #[.string x.t,.int .i64 pk,.bool true]) su ?_
        refine U_ready (rs:=[22]) (by kernel_rfl) (by simp) ?_
        refine AllU.cons rfl (by decide) (fun K hK=>?_) AllU.nil
        go_simp
        refine hK.out _ _ (HS.out _ (bel_a _ _)) ?_
        clear hK K
        refine U_ready (rs:=[23]) (by kernel_rfl) (by simp) ?_
        refine AllU.cons rfl (by decide) (fun K hK=>?_) AllU.nil
        refine step_append_lies _ (by rfl) _ _ _ (by rfl) B 128 i0 _ 3 32 Tryz.underlying60 hi0 hz0 hz1 hz2 rfl (by omega) _ D.locs.length (loV D.locs) (by rfl) (own2.alloc _) ⟨(World.drew wr).heap.size,0,none⟩ 1 1 [.string x.t,.int .i64 pk,.bool true] (by rfl) (by rfl) (World.news_of_block (cs:=#[.string x.t,.int .i64 pk,.bool true]) (t:=128) (fr:=(0,0)) (hnew _ (by simp))) (by simp [Value.oneCell']) (by omega) (by unfold maxLen;omega) (by omega) (by simp;omega) ((World.drew wr).heap.size+1) (by simp) ?_
        intro gg cap W6 hown6 hgrow hat hlt6
        obtain ⟨⟨w1,w2⟩,w3,hfin⟩:=HA.out _ W6 gg cap (bel_a _ _) hown6 hgrow (by simpa using hat)
        refine hK.out _ _ w3 ?_
        clear hK K
        refine U_end (by kernel_rfl) ?_
        refine wpAny_chain [_,_,_] [24,25,26] _ _ _ _ (by kernel_rfl) rfl (by decide) ?_
        have HFN : Hid _:=hfin
        clear HA HS own2 su su0 hown6 hgrow hat hlt6 w3 z7 z8 z9 z10 n0 n1 n2 n3
        obtain ⟨x4,V3,k3,k4⟩:=HFN.out
        have M3 : Hid _:=x4
        have H3 : Hid _:=k3
        have K3 : Hid (Kw wb V W V3 _):=G2.out.trans k4
        clear HFN x4 k3 k4
        have hDD2 : Hid ((gfL x.t pk (D.locs.drop f) D).locs=D.locs):=gfL_locs _ _ _ _
        generalize gfL x.t pk (D.locs.drop f) D=DD at *
        obtain ⟨⟨w0,w1,w2,w3⟩,_⟩:=box4 M3.out
        have CS:=rsize_any x _ _ _ (HKd.out _ _ K3.out) (by omega)
        unfold Nd.v at CS
        go_wp2_with fail
        go_at_call 12
        refine CS.mono ?_
        rintro e W9 ⟨rfl,b9⟩
        clear CS w0 w1 w2 w3
        have HF : Hid (Wv wb B W9 ({ DD with locs:=D.locs ++ [(⟨x.t,pk,true⟩ : Lo)] } : Dw) _∧Kw wb V W _ W9∧Dw.hold l p f d=Dw.hold (l.drop (k+1)) (pk+(x.size : Nat)) f ({ DD with locs:=D.locs ++ [(⟨x.t,pk,true⟩ : Lo)] } : Dw)∧f ≤ ({ DD with locs:=D.locs ++ [(⟨x.t,pk,true⟩ : Lo)] } : Dw).locs.length∧({ DD with locs:=D.locs ++ [(⟨x.t,pk,true⟩ : Lo)] } : Dw).locs.length ≤ d.locs.length+(k+1)):=⟨H3.out.bel b9,K3.out.trans (Kw.of b9),HStp.out,(by show f ≤ (D.locs ++ [_]).length;rw [List.length_append];omega),(by show (D.locs ++ [_]).length ≤ _;rw [List.length_append];simp;omega)⟩
        clear b9
        go_wp2
        go_roundw
        case rel=>exact ⟨k+1,({ DD with locs:=D.locs ++ [(⟨x.t,pk,true⟩ : Lo)] } : Dw),_,by simp,by rw [HSz.out,HNx.out],by omega,by show _∧_;rw [HSz.out,HNx.out];exact HF.out⟩
        case measure=>simp [intOf];omega
     | false =>
      have HStp : Hid (Dw.hold l p f d=Dw.hold (l.drop (k+1)) (pk+(x.size : Nat)) f D):=by
       show _=_
       rw [HStep.out,if_neg]
       unfold decB
       rw [decide_eq_true_iff]
       rintro (w | w | w)
       ·simp [w] at q40
       ·simp [w] at q41
       ·simp [w] at q13
      clear HStep
      obtain ⟨⟨w0,w1,w2,w3⟩,_⟩:=box4 M1.out
      have CS:=rsize_any x W1 _ _ (HKd.out _ _ K1.out) (by omega)
      unfold Nd.v at CS
      go_wp2_with fail
      go_at_call 12
      refine CS.mono ?_
      rintro e W9 ⟨rfl,b9⟩
      clear CS w0 w1 w2 w3
      have HF : Hid (Wv wb B W9 D _∧Kw wb V W _ W9∧Dw.hold l p f d=Dw.hold (l.drop (k+1)) (pk+(x.size : Nat)) f D∧f ≤ D.locs.length∧D.locs.length ≤ d.locs.length+(k+1)):=⟨H1.out.bel b9,K1.out.trans (Kw.of b9),HStp.out,h4,(by omega)⟩
      clear b9
      go_wp2
      go_roundw
      case rel=>exact ⟨k+1,D,_,by simp,by rw [HSz.out,HNx.out],by omega,by show _∧_;rw [HSz.out,HNx.out];exact HF.out⟩
      case measure=>simp [intOf];omega
  ·obtain rfl : k=l.length:=by omega
   have hd : ¬ ((l.length : Nat) : Int) < ((l.length : Nat) : Int):=by omega
   obtain ⟨h1,h2,h3,h4,h5⟩:=H.out
   have HR : Hid (Dw.hold l p f d=D):=by show _=_;rw [h3,HEnd.out]
   have H1 : Hid _:=h1
   have K1 : Hid _:=h2
   clear H h1 h2 h3 h4 h5
   go_wp2
   go_end0
   exact ⟨rfl,VV,by rw [HR.out];exact H1.out,K1.out⟩
end Go.Proofs.YtfcocoadaajbjaaGreatDoor
