/- Own text. The document's walk over names: the kids of a tree,one behind the other. The document's walk over names: what has parameters. The document's walk over names: names,types,this,return. -/
import Derived.Test.YtfcocoadaajbjaaGreatDoorGd19
set_option linter.unusedVariables false
set_option linter.unusedSimpArgs false
set_option maxRecDepth 100000
set_option maxHeartbeats 32000000
namespace Go.Proofs.YtfcocoadaajbjaaGreatDoor
open Go.RowKit Go.MapKept
theorem Wv.keptN' {wb B : Nat} {W W' : World} {d : Dw} {V V' : Vs} (h : Wv wb B W d V) (q : Kw wb V W V' W') {k : Nat} {x : Nd} {v : Value} (hk : W.heap[k]?=some (nO x v)) : W'.heap[k]?=some (nO x v):=h.kept q hk (by decide)
def WkA (x : Nd) : Prop:=∀ (wb B : Nat) (W : World) (d : Dw) (V : Vs) (v : Value) (p : Int),Wv wb B W d V→LAt W (fun b=>b < B) v x.ks→d.tops.length ≤ 8388608→d.uses.length+x.size ≤ 8388608→d.locs.length+lcN x ≤ 8388608→0 ≤ p→p+(x.size : Nat) ≤ 16777216→x.size ≤ 4194304 →
 Calls Tryz.prog 48 #[.pointer (some ⟨wb,0,none⟩),x.v v,.int .i64 p] W (WvA wb B V W (dwalk x p d))
theorem wpre {x : Nd} {wb B : Nat} {W : World} {d : Dw} {V : Vs} (v : Value) (h : Wv wb B W d V) : ∃ W0,W.alloc (nO x v)=W0∧Hid (Wv wb B W0 d V)∧Hid (Kw wb V W V W0)∧Hid (W0.heap[W.heap.size]?=some (nO x v))∧W0.cell? ⟨W.heap.size,0,none⟩=some (.int .i64 x.k)∧W0.cell? ⟨W.heap.size,1,none⟩=some (.string x.t)∧W0.cell? ⟨W.heap.size,2,none⟩=some (.int .i64 x.n)∧W0.cell? ⟨W.heap.size,3,none⟩=some v:=by
 have m0 : (W.alloc (nO x v)).heap[W.heap.size]?=some (nO x v):=hnew _ rfl
 obtain ⟨⟨n0,n1,n2,n3⟩,_⟩:=box4 m0
 exact ⟨_,rfl,h.bel (bel_a _ _),Kw.of (bel_a _ _),m0,n0,n1,n2,n3⟩
theorem lcl (x : Nd) : lcL x.ks ≤ lcN x:=by obtain ⟨k,t,n,ks⟩:=x;rw [lcN];show lcL ks ≤ _;omega
theorem dw_fr (x : Nd) (p : Int) (w : Dw) : (dwalk x p w).tops=w.tops∧(dwalk x p w).locs=w.locs:=⟨(dwalk_did x p w).fr.tops,(dwalk_did x p w).fr.locs⟩
theorem dks_fr (l : List Nd) (p : Int) (w : Dw) : (dkids l p w).tops=w.tops∧(dkids l p w).locs=w.locs:=⟨(dkids_did l p w).fr.tops,(dkids_did l p w).fr.locs⟩
theorem wkids_any (x : Nd) (hW : ∀ y ∈ x.ks,WkA y) {wb B : Nat} {W : World} {d : Dw} {V : Vs} (v : Value) (p : Int) (h : Wv wb B W d V) (hx : LAt W (fun b=>b < B) v x.ks) (ht : d.tops.length ≤ 8388608) (hu : d.uses.length+sizes x.ks ≤ 8388608) (hl : d.locs.length+lcL x.ks ≤ 8388608) (hp : 0 ≤ p) (hz : p+(x.size : Nat) ≤ 16777216) (hs : x.size ≤ 4194304) :
 Calls Tryz.prog 23 #[.pointer (some ⟨wb,0,none⟩),x.v v,.int .i64 p] W (WvA wb B V W (dkids x.ks (p+1) d)):=by
 obtain ⟨ax,cx,bx,ox,fx,rfl,px,qx,rx⟩:=hx.op
 have hsz : x.size=1+sizes x.ks:=x.size_eq
 have hss : sizes x.ks ≤ 4194304:=by omega
 have hln : x.ks.length ≤ 4194304:=by have:=sizes_len x.ks;omega
 have hzz : p+1+(sizes x.ks : Nat) ≤ 16777216:=by omega
 obtain ⟨W0,hW0⟩ : ∃ X,W.alloc (nO x (.slice ax x.ks.length cx))=X:=⟨_,rfl⟩
 have b0 : Below W.heap.size W W0:=by rw [← hW0];exact bel_a _ _
 have m0 : W0.heap[W.heap.size]?=some (nO x (.slice ax x.ks.length cx)):=by rw [← hW0];exact hnew _ rfl
 have HV : Hid (Wv wb B W d V):=h
 have H0 : Hid (Wv wb B W0 d V):=h.bel b0
 have K0 : Hid (Kw wb V W V W0):=Kw.of b0
 have M0 : Hid (W0.heap[W.heap.size]?=some (nO x (.slice ax x.ks.length cx))):=m0
 have HQ : Hid (∀ i (h : i < x.ks.length),Four W bx (ox+i * 4) x.ks[i] (fx i)):=qx
 have HRx : Hid (∀ i (h : i < x.ks.length),LAt W (fun b=>b < B) (fx i) x.ks[i].ks):=rx
 have HPx : Hid (0 < x.ks.length→ax=some ⟨bx,ox,none⟩∧bx < B∧bx < W.heap.size):=px
 have HTot : Hid (∀ i,sizes (x.ks.take i) ≤ sizes x.ks):=take_sizes_le x.ks
 have HEnd : Hid (∀ (D : Dw) (pp : Int),dkids (x.ks.drop x.ks.length) pp D=D):=fun D pp=>by rw [List.drop_length,dkids]
 have HLen : Hid (x.ks.length ≤ sizes x.ks):=sizes_len x.ks
 have HWk : Hid (∀ y ∈ x.ks,WkA y):=hW
 have HLc : Hid (∀ i (h : i < x.ks.length),lcN x.ks[i] ≤ lcL x.ks):=fun i h=>lcL_mem (List.getElem_mem h)
 have HKM : Hid (∀ (VV : Vs) (X : World) (D : Dw) (V2 : Vs) (Y : World),Wv wb B X D VV→Kw wb VV X V2 Y→X.heap[W.heap.size]?=some (nO x (.slice ax x.ks.length cx))→Y.heap[W.heap.size]?=some (nO x (.slice ax x.ks.length cx))):=fun VV X D V2 Y q k m=>q.kept k m (by decide)
 obtain ⟨⟨n0,n1,n2,n3⟩,_⟩:=box4 m0
 clear h hx qx rx px hW b0 m0 hz hs hsz
 unfold nO at hW0
 unfold Nd.v
 go_enter Tryz.func23,Tryz.ntmps23
 go_wp2
 clear hW0
 go_loopw [6,7] (fun v6 v7 wo=>∃ (k : Nat) (D : Dw) (VV : Vs),v7 = .int .i64 (k : Nat)∧v6 = .int .i64 (p+1+(sizes (x.ks.take k) : Nat))∧k ≤ x.ks.length∧Hid (Wv wb B wo D VV∧Kw wb V W VV wo∧dkids x.ks (p+1) d=dkids (x.ks.drop k) (p+1+(sizes (x.ks.take k) : Nat)) D∧D.tops=d.tops∧D.locs=d.locs∧D.uses.length ≤ d.uses.length+sizes (x.ks.take k)∧wo.heap[W.heap.size]?=some (nO x (.slice ax x.ks.length cx)))) (fun _ v7 _=>x.ks.length - (intOf v7).toNat)
 case atStart=>exact ⟨0,d,V,rfl,by simp [sizes_nil],by omega,H0.out,K0.out,by simp [sizes_nil],rfl,rfl,by omega,M0.out⟩
 case round =>
  obtain ⟨k,D,VV,rfl,rfl,hk,H⟩:=hrel
  clear n0 n1 n2 n3
  obtain ⟨h1,h2,h3,h4,h5,h6,h7⟩:=H.out
  obtain ⟨⟨n0,n1,n2,n3⟩,_⟩:=box4 h7
  by_cases hkl : k < x.ks.length
  ·obtain ⟨rfl,hb1,hb2⟩:=HPx.out (by omega)
   have hd : (k : Int) < (x.ks.length : Int):=by omega
   obtain ⟨y1,y2,y3,y4⟩:=(HQ.out k hkl).of_block ((HV.out.below h2).block bx hb1)
   have HFo : Hid (∀ (X : World) (V2 : Vs),Kw wb V W V2 X→Four X bx (ox+k * 4) x.ks[k] (fx k)):=fun X V2 q=>(HQ.out k hkl).of_block ((HV.out.below q).block bx hb1)
   have HKd : Hid (∀ (X : World) (V2 : Vs),Kw wb V W V2 X→LAt X (fun b=>b < B) (fx k) x.ks[k].ks):=fun X V2 q=>HV.out.lat q (HRx.out k hkl)
   have HSz : Hid (sizes (x.ks.take (k+1))=sizes (x.ks.take k)+x.ks[k].size):=take_sizes x.ks hkl
   have HStp : Hid (dkids x.ks (p+1) d=dkids (x.ks.drop (k+1)) (p+1+(sizes (x.ks.take k) : Nat)+x.ks[k].size) (dwalk x.ks[k] (p+1+(sizes (x.ks.take k) : Nat)) D)):=by
    show _=_
    rw [h3,List.drop_eq_getElem_cons hkl,dkids]
   have htk:=HTot.out (k+1)
   rw [HSz.out] at htk
   have hll:=HLen.out
   have hlc:=HLc.out k hkl
   have szx:=x.ks[k].size_pos
   have CW:=HWk.out _ (List.getElem_mem hkl) wb B wr D VV (fx k) (p+1+(sizes (x.ks.take k) : Nat)) h1 (HKd.out _ _ h2) (by rw [h4];exact ht) (by omega) (by rw [h5];omega) (by omega) (by push_cast;omega) (by omega)
   have hpb : 0 ≤ p+1+(sizes (x.ks.take k) : Nat)∧p+1+(sizes (x.ks.take k) : Nat)+(x.ks[k].size : Nat) ≤ 16777216∧x.ks[k].size ≤ 4194304:=⟨by omega,by push_cast;omega,by omega⟩
   obtain ⟨hp1,hp2,hp3⟩:=hpb
   have H1 : Hid (Wv wb B wr D VV∧Kw wb V W VV wr∧D.tops=d.tops∧D.locs=d.locs∧D.uses.length ≤ d.uses.length+sizes (x.ks.take k)∧wr.heap[W.heap.size]?=some (nO x (.slice (some ⟨bx,ox,none⟩) x.ks.length cx))):=⟨h1,h2,h4,h5,h6,h7⟩
   unfold Nd.v at CW
   clear H h1 h2 h3 h4 h5 h6 h7 hb2 htk hll hlc
   generalize x.ks[k]=y at *
   generalize fx k=vy at *
   generalize hsk : sizes (x.ks.take k)=sk at *
   have HNx : Hid (p+1+((sk+y.size : Nat) : Int)=p+1+(sk : Nat)+(y.size : Nat)):=by show _=_;push_cast;omega
   generalize p+1+(sk : Int)=pk at *
   go_wp2_with fail
   go_at_call 48
   refine CW.mono ?_
   rintro e W1 ⟨rfl,V1,k1,k2⟩
   clear CW y1 y2 y3 y4 n0 n1 n2 n3
   obtain ⟨g1,g2,g3,g4,g5,g6⟩:=H1.out
   have m1:=HKM.out _ _ _ _ _ g1 k2 g6
   have kk:=g2.trans k2
   obtain ⟨⟨n0,n1,n2,n3⟩,_⟩:=box4 m1
   obtain ⟨y1,y2,y3,y4⟩:=HFo.out _ _ kk
   have CS:=rsize_any y W1 _ _ (HKd.out _ _ kk) (by omega)
   have HF : Hid (∀ X,Below W1.heap.size W1 X→Wv wb B X (dwalk y pk D) V1∧Kw wb V W V1 X∧dkids x.ks (p+1) d=dkids (x.ks.drop (k+1)) (pk+(y.size : Nat)) (dwalk y pk D)∧(dwalk y pk D).tops=d.tops∧(dwalk y pk D).locs=d.locs∧(dwalk y pk D).uses.length ≤ d.uses.length+(sk+y.size)∧X.heap[W.heap.size]?=some (nO x (.slice (some ⟨bx,ox,none⟩) x.ks.length cx))):=fun X b =>
    ⟨k1.bel b,kk.trans (Kw.of b),HStp.out,by rw [(dw_fr y pk D).1,g3],by rw [(dw_fr y pk D).2,g4],by have:=dw_len y pk D;omega,(b.block _ (gl m1)).trans m1⟩
   unfold Nd.v at CS
   clear H1 g1 g2 g3 g4 g5 g6 m1 kk k1 k2
   go_wp2_with fail
   go_at_call 12
   refine CS.mono ?_
   rintro e W9 ⟨rfl,b9⟩
   have HF2:=HF.out W9 b9
   have HF3 : Hid _:=HF2
   clear CS y1 y2 y3 y4 n0 n1 n2 n3 HF HF2 b9
   go_wp2
   go_roundw
   case rel=>exact ⟨k+1,dwalk y pk D,V1,by simp,by rw [HSz.out,HNx.out],by omega,by show _∧_;rw [HSz.out,HNx.out];exact HF3.out⟩
   case measure=>simp [intOf];omega
  ·obtain rfl : k=x.ks.length:=by omega
   have hd : ¬ ((x.ks.length : Nat) : Int) < ((x.ks.length : Nat) : Int):=by omega
   have HR : Hid (dkids x.ks (p+1) d=D):=by show _=_;rw [h3,HEnd.out]
   have H1 : Hid _:=h1
   have K1 : Hid _:=h2
   clear H h1 h2 h3 h4 h5 h6 h7
   go_wp2
   go_end0
   exact ⟨rfl,VV,by rw [HR.out];exact H1.out,K1.out⟩
theorem hold_fr (l : List Nd) (p : Int) (d : Dw) : (Dw.hold l p d.locs.length d).tops=d.tops∧d.locs.length ≤ (Dw.hold l p d.locs.length d).locs.length∧(Dw.hold l p d.locs.length d).locs.length ≤ d.locs.length+l.length:=by
 obtain ⟨w',e,f,_⟩:=hold_did l p d.locs.length d (Nat.le_refl _)
 rw [e]
 refine ⟨f.tops,by simp,?_⟩
 have : ∀ (l : List Nd) (p : Int),(held l p).length ≤ l.length:=fun l=>by
  induction l with
  | nil=>intro p;rw [held];exact Nat.le_refl _
  | cons n l ih =>
   intro p
   rw [held]
   split
   ·simp only [List.length_cons];have:=ih (p+n.size);omega
   ·simp only [List.length_cons];have:=ih (p+n.size);omega
 have:=this l p
 simp only [List.length_append]
 omega
theorem rw_cap {w : World} {base : Nat} {e : TypeId} {size : Nat} {a : Option Addr} {n c : Nat} {xs : List Value} (h : w.ownsRow base e size (.slice a n c) n xs) : n ≤ c:=by
 rcases h.2 with ⟨h0,h0'⟩ | ⟨g,cap,cur,hv,hg,hh,hn',hcap,hsz,htake⟩
 ·omega
 ·injection hv with e1 e2 e3
  omega
def Dw.body (d : Dw) (ps ks : List Nd) (p : Int) (th : Bool) : Dw :=
 { dkids ks (p+1) (Dw.hold ps (p+2) d.locs.length { d with this:=th,ins:=true }) with locs:=(dkids ks (p+1) (Dw.hold ps (p+2) d.locs.length { d with this:=th,ins:=true })).locs.take d.locs.length,this:=d.this,ins:=d.ins }
theorem wbody_any (x : Nd) (hW : ∀ y ∈ x.ks,WkA y) {a : Nd} {r : List Nd} (hxa : x.ks=a :: r) {wb B : Nat} {W : World} {d : Dw} {V : Vs} (v : Value) (p : Int) (th : Bool) (h : Wv wb B W d V) (hx : LAt W (fun b=>b < B) v x.ks) (ht : d.tops.length ≤ 8388608) (hu : d.uses.length+sizes x.ks ≤ 8388608) (hl : d.locs.length+a.ks.length+lcL x.ks ≤ 8388608) (hp : 0 ≤ p) (hz : p+(x.size : Nat) ≤ 16777216) (hs : x.size ≤ 4194304) :
 Calls Tryz.prog 83 #[.pointer (some ⟨wb,0,none⟩),x.v v,.int .i64 p,.bool th] W (WvA wb B V W (d.body a.ks x.ks p th)):=by
 obtain ⟨ax,cx,bx,ox,fx,rfl,px,qx,rx⟩:=hx.op
 have hlen : 0 < x.ks.length:=by rw [hxa];simp
 obtain ⟨rfl,hb1,hb2⟩:=px hlen
 have e0 : x.ks[0]=a:=by simp [hxa]
 have q0:=qx 0 hlen
 have r0:=rx 0 hlen
 rw [e0] at q0 r0
 obtain ⟨aa,ca,hva⟩:=r0.sl
 rw [hva] at q0 r0
 have hsz : x.size=1+sizes x.ks:=x.size_eq
 have hsa : sizes x.ks=a.size+sizes r:=by rw [hxa,sizes_cons]
 have hsa2 : a.size=1+sizes a.ks:=a.size_eq
 have hlk : a.ks.length ≤ sizes a.ks:=sizes_len _
 obtain ⟨W0,hW0⟩ : ∃ X,W.alloc (nO x (.slice (some ⟨bx,ox,none⟩) x.ks.length cx))=X:=⟨_,rfl⟩
 have b0 : Below W.heap.size W W0:=by rw [← hW0];exact bel_a _ _
 have m0 : W0.heap[W.heap.size]?=some (nO x (.slice (some ⟨bx,ox,none⟩) x.ks.length cx)):=by rw [← hW0];exact hnew _ rfl
 obtain ⟨v1,k1⟩:=(h.bel b0).setThis th
 obtain ⟨v2',k2⟩:=v1.setIns true
 have v2:=v2'.bel (Below.refl _ _).drew
 obtain ⟨W2,hW2⟩ : ∃ X,World.drew ((W0.setCell ⟨wb,3,none⟩ (.bool th)).setCell ⟨wb,4,none⟩ (.bool true))=X:=⟨_,rfl⟩
 rw [hW2] at v2
 have k3 : Kw wb V W0 V W2:=by rw [← hW2];exact k1.trans (k2.trans (Kw.of (Below.refl _ _).drew))
 have kk2 : Kw wb V W V W2:=(Kw.of b0).trans k3
 have m2 : W2.heap[W.heap.size]?=some (nO x (.slice (some ⟨bx,ox,none⟩) x.ks.length cx)):=(h.bel b0).kept k3 m0 (by decide)
 obtain ⟨av,cv,hlv⟩:=rw_form h.l
 have HLv : Hid (V.l = .slice av d.locs.length cv):=hlv
 obtain ⟨⟨_,_,c2,c3,c4,_⟩,fz⟩:=box8 (h.bel b0).r
 rw [hlv] at c2
 have f3 : W0.frozen? ⟨wb,3,none⟩=false:=fz 3
 have f4 : (W0.setCell ⟨wb,3,none⟩ (.bool th)).frozen? ⟨wb,4,none⟩=false:=(box8 v1.r).2 4
 obtain ⟨⟨n0,n1,n2,n3⟩,_⟩:=box4 m2
 have q2:=q0.of_block ((h.below kk2).block bx hb1)
 have CH:=hold_any v2 a.ks (.slice aa a.ks.length ca) (h.lat kk2 r0) (p+2) d.locs.length (Nat.le_refl _) (by show d.locs.length+_ ≤ _;omega) (by omega) (by omega) (by omega)
 have HB : Hid (d.body a.ks x.ks p th={ dkids x.ks (p+1) (Dw.hold a.ks (p+2) d.locs.length { d with this:=th,ins:=true }) with locs:=(dkids x.ks (p+1) (Dw.hold a.ks (p+2) d.locs.length { d with this:=th,ins:=true })).locs.take d.locs.length,this:=d.this,ins:=d.ins }):=rfl
 have HV : Hid (Wv wb B W d V):=h
 have HX : Hid (LAt W (fun b=>b < B) (.slice (some ⟨bx,ox,none⟩) x.ks.length cx) x.ks):=hx
 have HF : Hid ((Dw.hold a.ks (p+2) d.locs.length { d with this:=th,ins:=true }).tops=d.tops∧d.locs.length ≤ (Dw.hold a.ks (p+2) d.locs.length { d with this:=th,ins:=true }).locs.length∧(Dw.hold a.ks (p+2) d.locs.length { d with this:=th,ins:=true }).locs.length ≤ d.locs.length+a.ks.length∧(Dw.hold a.ks (p+2) d.locs.length { d with this:=th,ins:=true }).uses=d.uses):=by
  obtain ⟨g1,g2,g3⟩:=hold_fr a.ks (p+2) { d with this:=th,ins:=true }
  exact ⟨g1,g2,g3,hold_us _ _ _ _⟩
 have K2 : Hid _:=kk2
 have V2 : Hid _:=v2
 have M2 : Hid _:=m2
 have HW : Hid (∀ y ∈ x.ks,WkA y):=hW
 obtain ⟨y1,y2,y3,y4⟩:=q2
 generalize hD : Dw.hold a.ks (p+2) d.locs.length { d with this:=th,ins:=true }=D1 at *
 have hy4 : W2.cell? ⟨bx,ox+3,none⟩=some (.slice aa a.ks.length ca):=by simpa using y4
 have zz : Hid (x.size=1+sizes x.ks∧x.ks.length ≤ sizes x.ks):=⟨hsz,sizes_len _⟩
 clear h hx qx rx px q0 r0 hva v1 v2 v2' k1 k2 k3 kk2 m2 m0 b0 hsz hsa hsa2 hlk hxa e0 fz hlv hb2 hW hD y1 y2 y3 y4
 unfold nO at hW0
 unfold Nd.v
 go_enter Tryz.func83,Tryz.ntmps83
 go_wp2_with fail
 go_region
 go_wp2_with fail
 go_at_call 84
 refine CH.mono ?_
 rintro e W3 ⟨rfl,V3,k3,k4⟩
 clear CH c2 c3 c4 f3 f4 n0 n1 n2 n3 hy4 hW2 hW0
 have m3:=V2.out.kept k4 M2.out (by decide)
 have kk3:=K2.out.trans k4
 obtain ⟨⟨n0,n1,n2,n3⟩,_⟩:=box4 m3
 obtain ⟨g1,g2,g3,g4⟩:=HF.out
 have CK:=wkids_any x HW.out (.slice (some ⟨bx,ox,none⟩) x.ks.length cx) p k3 (HV.out.lat kk3 HX.out) (by rw [g1];exact ht) (by rw [g4];exact hu) (by omega) hp (by omega) hs
 unfold Nd.v at CK
 have K3 : Hid _:=kk3
 have G2 : Hid _:=g2
 clear V2 M2 K2 k3 k4 m3 kk3 g1 g2 g3 g4 HF
 go_wp2_with fail
 go_at_call 23
 refine CK.mono ?_
 rintro e W4 ⟨rfl,V4,k5,k6⟩
 clear CK n0 n1 n2 n3
 have kk4:=K3.out.trans k6
 have hlo : d.locs.length ≤ (dkids x.ks (p+1) D1).locs.length:=by rw [(dks_fr x.ks (p+1) D1).2];exact G2.out
 obtain ⟨al,cl,hl4⟩:=rw_form k5.l
 obtain ⟨⟨_,_,c2,_⟩,fz⟩:=box8 k5.r
 rw [hl4] at c2
 obtain ⟨v5,k7⟩:=k5.cut hl4 d.locs.length hlo
 obtain ⟨v6,k8⟩:=v5.setThis d.this
 obtain ⟨v7,k9⟩:=v6.setIns d.ins
 have hcp:=rw_cap (hl4 ▸ k5.l)
 have f2:=fz 2
 have f3:=(box8 v5.r).2 3
 have f4:=(box8 v6.r).2 4
 have HE : Hid (_∧_):=And.intro v7 (kk4.trans (k7.trans (k8.trans k9)))
 clear v5 v6 v7 k7 k8 k9 kk4 k5 k6 fz hl4 G2 K3
 generalize dkids x.ks (p+1) D1=D2 at *
 go_wp2
 go_end0
 exact ⟨rfl,_,by rw [HB.out];exact HE.out.1,HE.out.2⟩
theorem use_fr (d : Dw) (nm : ByteArray) (p : Int) : (d.use nm p).1.tops=d.tops∧(d.use nm p).1.locs=d.locs:=⟨(use_did d nm p).1.fr.tops,(use_did d nm p).1.fr.locs⟩
theorem wk_6 (x : Nd) (hq : x.k=6) (hW : ∀ y ∈ x.ks,WkA y) : WkA x:=by
 intro wb B W d V v p h hx ht hu hl hp hz hs
 obtain ⟨av,cv,rfl⟩:=hx.sl
 obtain ⟨W0,hW0,H0,K0,M0,n0,n1,n2,n3⟩:=wpre (x:=x) (.slice av x.ks.length cv) h
 have HV : Hid _:=h
 have HX : Hid _:=hx
 have HW : Hid (∀ y ∈ x.ks,WkA y):=hW
 obtain ⟨⟨_,_,c2,c3,c4,_⟩,fz⟩:=box8 H0.out.r
 have HSZ : Hid (x.size=1+sizes x.ks):=x.size_eq
 have hsz:=HSZ.out
 have hlc:=lcl x
 have e6 : (x.k == 6)=true:=by rw [hq];decide
 have HR : Hid (dwalk x p d=(d.use x.t p).1):=by
  obtain ⟨k,t,n,ks⟩:=x
  have hq : k=6:=hq
  subst hq
  show dwalk (.mk 6 t n _) p d=_
  rw [dwalk.eq_def]
  dsimp only
  rw [if_pos (by decide)]
  try rfl
 clear h hx hq hW
 have CU:=wuse_any H0.out x.t p ht (by omega) (by omega)
 unfold nO at hW0
 unfold Nd.v
 clear hsz
 go_enter Tryz.func48,Tryz.ntmps48
 go_wp2_with fail
 go_at_call 80
 refine CU.mono ?_
 rintro e W1 ⟨rfl,V1,k1,k2⟩
 clear CU
 go_wp2
 go_end0
 exact ⟨rfl,V1,by rw [HR.out];exact k1,K0.out.trans k2⟩
theorem wk_20 (x : Nd) (hq : x.k=20) (hW : ∀ y ∈ x.ks,WkA y) : WkA x:=by
 intro wb B W d V v p h hx ht hu hl hp hz hs
 obtain ⟨av,cv,rfl⟩:=hx.sl
 obtain ⟨W0,hW0,H0,K0,M0,n0,n1,n2,n3⟩:=wpre (x:=x) (.slice av x.ks.length cv) h
 have HV : Hid _:=h
 have HX : Hid _:=hx
 have HW : Hid (∀ y ∈ x.ks,WkA y):=hW
 obtain ⟨⟨_,_,c2,c3,c4,_⟩,fz⟩:=box8 H0.out.r
 have HSZ : Hid (x.size=1+sizes x.ks):=x.size_eq
 have hsz:=HSZ.out
 have hlc:=lcl x
 have e6 : (x.k == 6)=false:=by rw [hq];decide
 have e20 : (x.k == 20)=true:=by rw [hq];decide
 have HR : Hid (dwalk x p d=dkids x.ks (p+1) (d.use x.t p).1):=by
  obtain ⟨k,t,n,ks⟩:=x
  have hq : k=20:=hq
  subst hq
  show dwalk (.mk 20 t n _) p d=_
  rw [dwalk.eq_def]
  dsimp only
  rw [if_neg (by decide),if_pos (by decide)]
  try rfl
 clear h hx hq hW
 have CU:=wuse_any H0.out x.t p ht (by omega) (by omega)
 unfold nO at hW0
 unfold Nd.v
 clear hsz
 go_enter Tryz.func48,Tryz.ntmps48
 go_wp2_with fail
 go_at_call 80
 refine CU.mono ?_
 rintro e W1 ⟨rfl,V1,k1,k2⟩
 clear CU n0 n1 n2 n3 hW0 c2 c3 c4 fz
 have M1 : Hid _:=H0.out.keptN' k2 M0.out
 have H1 : Hid _:=k1
 have K1 : Hid _:=K0.out.trans k2
 clear k1 k2
 obtain ⟨⟨n0,n1,n2,n3⟩,_⟩:=box4 M1.out
 obtain ⟨f1,f2⟩:=use_fr d x.t p
 have f3:=use_len d x.t p
 have CK:=wkids_any x HW.out (.slice av x.ks.length cv) p H1.out (HV.out.lat K1.out HX.out) (by rw [f1];exact ht) (by have:=HSZ.out;omega) (by rw [f2];omega) hp hz hs
 unfold Nd.v at CK
 clear f1 f2 f3
 go_wp2_with fail
 go_at_call 23
 refine CK.mono ?_
 rintro e W8 ⟨rfl,V8,k8,k9⟩
 clear CK n0 n1 n2 n3
 go_wp2
 go_end0
 exact ⟨rfl,V8,by rw [HR.out];exact k8,K1.out.trans k9⟩
theorem wk_30 (x : Nd) (hq : x.k=30) (hW : ∀ y ∈ x.ks,WkA y) : WkA x:=by
 intro wb B W d V v p h hx ht hu hl hp hz hs
 obtain ⟨av,cv,rfl⟩:=hx.sl
 obtain ⟨W0,hW0,H0,K0,M0,n0,n1,n2,n3⟩:=wpre (x:=x) (.slice av x.ks.length cv) h
 have HV : Hid _:=h
 have HX : Hid _:=hx
 have HW : Hid (∀ y ∈ x.ks,WkA y):=hW
 obtain ⟨⟨_,_,c2,c3,c4,_⟩,fz⟩:=box8 H0.out.r
 have HSZ : Hid (x.size=1+sizes x.ks):=x.size_eq
 have hsz:=HSZ.out
 have hlc:=lcl x
 have e6 : (x.k == 6)=false:=by rw [hq];decide
 have e20 : (x.k == 20)=false:=by rw [hq];decide
 have e30 : (x.k == 30)=true:=by rw [hq];decide
 have HR : Hid (dwalk x p d=if plnB x.t=true then d else d.useType x.t p):=by
  obtain ⟨k,t,n,ks⟩:=x
  have hq : k=30:=hq
  subst hq
  show dwalk (.mk 30 t n _) p d=_
  rw [dwalk.eq_def]
  dsimp only
  rw [if_neg (by decide),if_neg (by decide),if_pos (by decide)]
  try rfl
 clear h hx hq hW
 have CP:=plain_any W0 x.t
 unfold nO at hW0
 unfold Nd.v
 clear hsz
 go_enter Tryz.func48,Tryz.ntmps48
 go_wp2_with fail
 go_at_call 81
 refine CP.mono ?_
 rintro e W1 ⟨rfl,b1⟩
 clear CP n0 n1 n2 n3 hW0 c2 c3 c4 fz
 have H1 : Hid (Wv wb B W1 d V):=H0.out.bel b1
 have K1 : Hid (Kw wb V W V W1):=K0.out.trans (Kw.of b1)
 have m1:=(b1.block _ (gl M0.out)).trans M0.out
 obtain ⟨⟨n0,n1,n2,n3⟩,_⟩:=box4 m1
 have CT:=useType_any H1.out x.t p ht (by omega)
 clear m1 b1
 cases hb : plnB x.t with
 | true =>
  have HR2 : Hid (dwalk x p d=d):=by show _=_;rw [HR.out,if_pos hb]
  clear hb HR CT
  go_wp2
  go_end0
  exact ⟨rfl,V,by rw [HR2.out];exact H1.out,K1.out⟩
 | false =>
  have HR2 : Hid (dwalk x p d=d.useType x.t p):=by show _=_;rw [HR.out,if_neg (by rw [hb];decide)]
  clear hb HR
  go_wp2_with fail
  go_at_call 82
  refine CT.mono ?_
  rintro e W2 ⟨rfl,V2,k3,k4⟩
  clear CT
  go_wp2
  go_end0
  exact ⟨rfl,V2,by rw [HR2.out];exact k3,K1.out.trans k4⟩
theorem wk_7 (x : Nd) (hq : x.k=7) (hW : ∀ y ∈ x.ks,WkA y) : WkA x:=by
 intro wb B W d V v p h hx ht hu hl hp hz hs
 obtain ⟨av,cv,rfl⟩:=hx.sl
 obtain ⟨W0,hW0,H0,K0,M0,n0,n1,n2,n3⟩:=wpre (x:=x) (.slice av x.ks.length cv) h
 have HV : Hid _:=h
 have HX : Hid _:=hx
 have HW : Hid (∀ y ∈ x.ks,WkA y):=hW
 obtain ⟨⟨_,_,c2,c3,c4,_⟩,fz⟩:=box8 H0.out.r
 have HSZ : Hid (x.size=1+sizes x.ks):=x.size_eq
 have hsz:=HSZ.out
 have hlc:=lcl x
 have e6 : (x.k == 6)=false:=by rw [hq];decide
 have e20 : (x.k == 20)=false:=by rw [hq];decide
 have e30 : (x.k == 30)=false:=by rw [hq];decide
 have e18 : (x.k == 18)=false:=by rw [hq];decide
 have e7 : (x.k == 7)=true:=by rw [hq];decide
 have HR : Hid (dwalk x p d=if d.this=true then d else d.fail p 93):=by
  obtain ⟨k,t,n,ks⟩:=x
  have hq : k=7:=hq
  subst hq
  show dwalk (.mk 7 t n _) p d=_
  rw [dwalk.eq_def]
  dsimp only
  rw [if_neg (by decide),if_neg (by decide),if_neg (by decide),if_neg (by decide),if_pos (by decide)]
  try rfl
 clear h hx hq hW
 have CF:=wfail_any H0.out p 93
 cases hb : d.this with
 | true =>
  have HR2 : Hid (dwalk x p d=d):=by show _=_;rw [HR.out,if_pos hb]
  rw [hb] at c3
  clear hb HR CF
  unfold nO at hW0
  unfold Nd.v
  clear hsz
  go_enter Tryz.func48,Tryz.ntmps48
  go_wp2
  go_end0
  exact ⟨rfl,V,by rw [HR2.out];exact H0.out,K0.out⟩
 | false =>
  have HR2 : Hid (dwalk x p d=d.fail p 93):=by show _=_;rw [HR.out,if_neg (by rw [hb];decide)]
  rw [hb] at c3
  clear hb HR
  unfold nO at hW0
  unfold Nd.v
  clear hsz
  go_enter Tryz.func48,Tryz.ntmps48
  go_wp2_with fail
  go_at_call 79
  refine CF.mono ?_
  rintro e W2 ⟨rfl,k3,k4⟩
  clear CF
  go_wp2
  go_end0
  exact ⟨rfl,V,by rw [HR2.out];exact k3,K0.out.trans k4⟩
theorem wk_50 (x : Nd) (hq : x.k=50) (hW : ∀ y ∈ x.ks,WkA y) : WkA x:=by
 intro wb B W d V v p h hx ht hu hl hp hz hs
 obtain ⟨av,cv,rfl⟩:=hx.sl
 obtain ⟨W0,hW0,H0,K0,M0,n0,n1,n2,n3⟩:=wpre (x:=x) (.slice av x.ks.length cv) h
 have HV : Hid _:=h
 have HX : Hid _:=hx
 have HW : Hid (∀ y ∈ x.ks,WkA y):=hW
 obtain ⟨⟨_,_,c2,c3,c4,_⟩,fz⟩:=box8 H0.out.r
 have HSZ : Hid (x.size=1+sizes x.ks):=x.size_eq
 have hsz:=HSZ.out
 have hlc:=lcl x
 have e6 : (x.k == 6)=false:=by rw [hq];decide
 have e20 : (x.k == 20)=false:=by rw [hq];decide
 have e30 : (x.k == 30)=false:=by rw [hq];decide
 have e18 : (x.k == 18)=false:=by rw [hq];decide
 have e7 : (x.k == 7)=false:=by rw [hq];decide
 have e50 : (x.k == 50)=true:=by rw [hq];decide
 have HR : Hid (dwalk x p d=dkids x.ks (p+1) (if d.ins=true then d else d.fail p 93)):=by
  obtain ⟨k,t,n,ks⟩:=x
  have hq : k=50:=hq
  subst hq
  show dwalk (.mk 50 t n _) p d=_
  rw [dwalk.eq_def]
  dsimp only
  rw [if_neg (by decide),if_neg (by decide),if_neg (by decide),if_neg (by decide),if_neg (by decide),if_pos (by decide)]
  try rfl
 clear h hx hq hW
 have CF:=wfail_any H0.out p 93
 cases hb : d.ins with
 | true =>
  have HR2 : Hid (dwalk x p d=dkids x.ks (p+1) d):=by show _=_;rw [HR.out,if_pos hb]
  rw [hb] at c4
  clear hb HR CF
  have CK:=wkids_any x HW.out (.slice av x.ks.length cv) p H0.out (HV.out.lat K0.out HX.out) ht (by have:=HSZ.out;omega) (by omega) hp hz hs
  unfold Nd.v at CK
  unfold nO at hW0
  unfold Nd.v
  clear hsz
  go_enter Tryz.func48,Tryz.ntmps48
  go_wp2_with fail
  go_at_call 23
  refine CK.mono ?_
  rintro e W8 ⟨rfl,V8,k8,k9⟩
  clear CK n0 n1 n2 n3
  go_wp2
  go_end0
  exact ⟨rfl,V8,by rw [HR2.out];exact k8,K0.out.trans k9⟩
 | false =>
  have HR2 : Hid (dwalk x p d=dkids x.ks (p+1) (d.fail p 93)):=by show _=_;rw [HR.out,if_neg (by rw [hb];decide)]
  rw [hb] at c4
  clear hb HR
  unfold nO at hW0
  unfold Nd.v
  clear hsz
  go_enter Tryz.func48,Tryz.ntmps48
  go_wp2_with fail
  go_at_call 79
  refine CF.mono ?_
  rintro e W1 ⟨rfl,k1,k2⟩
  clear CF n0 n1 n2 n3 hW0 c2 c3 c4 fz
  have M1 : Hid _:=H0.out.keptN' k2 M0.out
  have H1 : Hid _:=k1
  have K1 : Hid _:=K0.out.trans k2
  clear k1 k2
  obtain ⟨⟨n0,n1,n2,n3⟩,_⟩:=box4 M1.out
  obtain ⟨f0,f1,f2⟩:=fail_exs d p 93
  have f3:=fail_us d p 93
  have CK:=wkids_any x HW.out (.slice av x.ks.length cv) p H1.out (HV.out.lat K1.out HX.out) (by rw [f1];exact ht) (by rw [f3];have:=HSZ.out;omega) (by rw [f2];omega) hp hz hs
  unfold Nd.v at CK
  clear f0 f1 f2 f3
  go_wp2_with fail
  go_at_call 23
  refine CK.mono ?_
  rintro e W8 ⟨rfl,V8,k8,k9⟩
  clear CK n0 n1 n2 n3
  go_wp2
  go_end0
  exact ⟨rfl,V8,by rw [HR2.out];exact k8,K1.out.trans k9⟩
theorem wk_60 (x : Nd) (hq : x.k=60) (hW : ∀ y ∈ x.ks,WkA y) : WkA x:=by
 intro wb B W d V v p h hx ht hu hl hp hz hs
 obtain ⟨av,cv,rfl⟩:=hx.sl
 obtain ⟨W0,hW0,H0,K0,M0,n0,n1,n2,n3⟩:=wpre (x:=x) (.slice av x.ks.length cv) h
 have HV : Hid _:=h
 have HX : Hid _:=hx
 have HW : Hid (∀ y ∈ x.ks,WkA y):=hW
 obtain ⟨⟨_,_,c2,c3,c4,_⟩,fz⟩:=box8 H0.out.r
 have HSZ : Hid (x.size=1+sizes x.ks):=x.size_eq
 have hsz:=HSZ.out
 have hlc:=lcl x
 have e6 : (x.k == 6)=false:=by rw [hq];decide
 have e20 : (x.k == 20)=false:=by rw [hq];decide
 have e30 : (x.k == 30)=false:=by rw [hq];decide
 have e18 : (x.k == 18)=false:=by rw [hq];decide
 have e7 : (x.k == 7)=false:=by rw [hq];decide
 have e50 : (x.k == 50)=false:=by rw [hq];decide
 have e11 : (x.k == 11)=false:=by rw [hq];decide
 have e41 : (x.k == 41)=false:=by rw [hq];decide
 have e44 : (x.k == 44)=false:=by rw [hq];decide
 have e45 : (x.k == 45)=false:=by rw [hq];decide
 have e43 : (x.k == 43)=false:=by rw [hq];decide
 have e52 : (x.k == 52)=false:=by rw [hq];decide
 have e60 : (x.k == 60)=true:=by rw [hq];decide
 have HR : Hid (dwalk x p d=d):=by
  obtain ⟨k,t,n,ks⟩:=x
  have hq : k=60:=hq
  subst hq
  show dwalk (.mk 60 t n _) p d=_
  rw [dwalk.eq_def]
  dsimp only
  rw [if_neg (by decide),if_neg (by decide),if_neg (by decide),if_neg (by decide),if_neg (by decide),if_neg (by decide),if_neg (by decide),if_neg (by decide),if_neg (by decide),if_pos (by decide)]
  try rfl
 clear h hx hq hW
 unfold nO at hW0
 unfold Nd.v
 clear hsz
 go_enter Tryz.func48,Tryz.ntmps48
 go_wp2
 go_end0
 exact ⟨rfl,V,by rw [HR.out];exact H0.out,K0.out⟩
theorem wk_no (x : Nd) (hq : x.k ≠ 6∧x.k ≠ 20∧x.k ≠ 30∧x.k ≠ 18∧x.k ≠ 7∧x.k ≠ 50∧x.k ≠ 11∧x.k ≠ 41∧x.k ≠ 44∧x.k ≠ 45∧x.k ≠ 43∧x.k ≠ 52∧x.k ≠ 60∧x.k ≠ 64) (hW : ∀ y ∈ x.ks,WkA y) : WkA x:=by
 intro wb B W d V v p h hx ht hu hl hp hz hs
 obtain ⟨av,cv,rfl⟩:=hx.sl
 obtain ⟨W0,hW0,H0,K0,M0,n0,n1,n2,n3⟩:=wpre (x:=x) (.slice av x.ks.length cv) h
 have HV : Hid _:=h
 have HX : Hid _:=hx
 have HW : Hid (∀ y ∈ x.ks,WkA y):=hW
 obtain ⟨⟨_,_,c2,c3,c4,_⟩,fz⟩:=box8 H0.out.r
 have HSZ : Hid (x.size=1+sizes x.ks):=x.size_eq
 have hsz:=HSZ.out
 have hlc:=lcl x
 have e6 : (x.k == 6)=false:=by simpa using hq.1
 have e20 : (x.k == 20)=false:=by simpa using hq.2.1
 have e30 : (x.k == 30)=false:=by simpa using hq.2.2.1
 have e18 : (x.k == 18)=false:=by simpa using hq.2.2.2.1
 have e7 : (x.k == 7)=false:=by simpa using hq.2.2.2.2.1
 have e50 : (x.k == 50)=false:=by simpa using hq.2.2.2.2.2.1
 have e11 : (x.k == 11)=false:=by simpa using hq.2.2.2.2.2.2.1
 have e41 : (x.k == 41)=false:=by simpa using hq.2.2.2.2.2.2.2.1
 have e44 : (x.k == 44)=false:=by simpa using hq.2.2.2.2.2.2.2.2.1
 have e45 : (x.k == 45)=false:=by simpa using hq.2.2.2.2.2.2.2.2.2.1
 have e43 : (x.k == 43)=false:=by simpa using hq.2.2.2.2.2.2.2.2.2.2.1
 have e52 : (x.k == 52)=false:=by simpa using hq.2.2.2.2.2.2.2.2.2.2.2.1
 have e60 : (x.k == 60)=false:=by simpa using hq.2.2.2.2.2.2.2.2.2.2.2.2.1
 have e64 : (x.k == 64)=false:=by simpa using hq.2.2.2.2.2.2.2.2.2.2.2.2.2
 have HR : Hid (dwalk x p d=dkids x.ks (p+1) d):=by
  obtain ⟨k,t,n,ks⟩:=x
  have hq : k ≠ 6∧k ≠ 20∧k ≠ 30∧k ≠ 18∧k ≠ 7∧k ≠ 50∧k ≠ 11∧k ≠ 41∧k ≠ 44∧k ≠ 45∧k ≠ 43∧k ≠ 52∧k ≠ 60∧k ≠ 64:=hq
  obtain ⟨q6,q20,q30,q18,q7,q50,q11,q41,q44,q45,q43,q52,q60,q64⟩:=hq
  show dwalk (.mk k t n _) p d=_
  rw [dwalk.eq_def]
  dsimp only
  rw [if_neg q6,if_neg q20,if_neg q30,if_neg q18,if_neg q7,if_neg q50,if_neg (by omega),if_neg q43,if_neg q52,if_neg q60,if_neg q64]
  try rfl
 clear h hx hq hW
 have CK:=wkids_any x HW.out (.slice av x.ks.length cv) p H0.out (HV.out.lat K0.out HX.out) ht (by have:=HSZ.out;omega) (by omega) hp hz hs
 unfold Nd.v at CK
 unfold nO at hW0
 unfold Nd.v
 clear hsz
 go_enter Tryz.func48,Tryz.ntmps48
 go_wp2_with fail
 go_at_call 23
 refine CK.mono ?_
 rintro e W8 ⟨rfl,V8,k8,k9⟩
 clear CK n0 n1 n2 n3
 go_wp2
 go_end0
 exact ⟨rfl,V8,by rw [HR.out];exact k8,K0.out.trans k9⟩
end Go.Proofs.YtfcocoadaajbjaaGreatDoor
