/- Own text. The document's walk over names: the tops of imports,the names that are exported from elsewhere. Package scope: a name of the tops is declared. -/
import Derived.Test.YtfcocoadaajbjaaGreatDoorGd26
import Derived.Test.YtfcocoadaajbjaaGreatDoorGd24
set_option linter.unusedVariables false
set_option linter.unusedSimpArgs false
set_option maxRecDepth 100000
set_option maxHeartbeats 32000000
namespace Go.Proofs.YtfcocoadaajbjaaGreatDoor
open Go.RowKit Go.MapKept
theorem wtops_60 (x : Nd) (p it : Int) (hq : x.k=60) (hk1 : ∀ y ∈ x.ks,∃ a,y.ks=[a]) (hpp : 0 ≤ p) (hzz : p+(x.size : Nat) ≤ 16777216) (hss : x.size ≤ 4194304) : TpA x p it (dtop x p it):=by
 intro wb B W d V v h hx hn hn2
 obtain ⟨av,cv,rfl⟩:=hx.sl
 obtain ⟨W0,hW0,H0,K0,M0,n0,n1,n2,n3⟩:=wpre (x:=x) (.slice av x.ks.length cv) h
 have HV : Hid _:=h
 have HX : Hid _:=hx
 have szx:=x.size_pos
 have e40 : (x.k == 40)=false:=by rw [hq];decide
 have e41 : (x.k == 41)=false:=by rw [hq];decide
 have e42 : (x.k == 42)=false:=by rw [hq];decide
 have e46 : (x.k == 46)=false:=by rw [hq];decide
 have e66 : (x.k == 66)=false:=by rw [hq];decide
 have e62 : (x.k == 62)=false:=by rw [hq];decide
 have e63 : (x.k == 63)=false:=by rw [hq];decide
 have e60 : (x.k == 60)=true:=by rw [hq];decide
 obtain ⟨ax,cx,bx,ox,fx,hva,px,qx,rx⟩:=hx.op
 injection hva with hva1 _ hva2
 subst hva1 hva2
 have HQ : Hid (∀ i (h : i < x.ks.length),Four W bx (ox+i * 4) x.ks[i] (fx i)):=qx
 have HRx : Hid (∀ i (h : i < x.ks.length),LAt W (fun b=>b < B) (fx i) x.ks[i].ks):=rx
 have HPx : Hid (0 < x.ks.length→av=some ⟨bx,ox,none⟩∧bx < B∧bx < W.heap.size):=px
 have HTot : Hid (∀ i,sizes (x.ks.take i) ≤ sizes x.ks):=take_sizes_le x.ks
 have HEnd : Hid (∀ (D : Dw) (pp : Int),dimp (x.ks.drop x.ks.length) pp it D=D):=fun D pp=>by rw [List.drop_length,dimp]
 have HLen : Hid (x.ks.length ≤ sizes x.ks):=sizes_len x.ks
 have HK1 : Hid (∀ i (h : i < x.ks.length),∃ a,x.ks[i].ks=[a]):=fun i h=>hk1 _ (List.getElem_mem h)
 have HSZ : Hid (x.size=1+sizes x.ks):=x.size_eq
 have hln : x.ks.length ≤ 4194304:=by have:=HSZ.out;have:=HLen.out;omega
 have HKM : Hid (∀ (VV : Vs) (X : World) (D : Dw) (V2 : Vs) (Y : World),Wv wb B X D VV→Kw wb VV X V2 Y→X.heap[W.heap.size]?=some (nO x (.slice av x.ks.length cv))→Y.heap[W.heap.size]?=some (nO x (.slice av x.ks.length cv))):=fun VV X D V2 Y q k m=>q.kept k m (by decide)
 have HR : Hid (dtop x p it d=dimp x.ks (p+1) it d):=by
  obtain ⟨k,t,n,ks⟩:=x
  have hq : k=60:=hq
  subst hq
  rfl
 clear h hx hq qx rx px hk1
 unfold nO at hW0
 unfold Nd.v
 go_enter Tryz.func22,Tryz.ntmps22
 go_wp2
 clear hW0
 go_loopw [9,10] (fun vp vi wo=>∃ (k : Nat) (D : Dw) (VV : Vs),vi = .int .i64 (k : Nat)∧vp = .int .i64 (p+1+(sizes (x.ks.take k) : Nat))∧k ≤ x.ks.length∧Hid (Wv wb B wo D VV∧Kw wb V W VV wo∧dimp x.ks (p+1) it d=dimp (x.ks.drop k) (p+1+(sizes (x.ks.take k) : Nat)) it D∧D.tops.length ≤ d.tops.length+k∧wo.heap[W.heap.size]?=some (nO x (.slice av x.ks.length cv)))) (fun _ vi _=>x.ks.length - (intOf vi).toNat)
 case atStart=>exact ⟨0,d,V,rfl,by simp [sizes_nil],by omega,H0.out,K0.out,by simp [sizes_nil],by omega,M0.out⟩
 case round =>
  obtain ⟨k,D,VV,rfl,rfl,hk,H⟩:=hrel
  clear n0 n1 n2 n3
  obtain ⟨h1,h2,h3,h4,h7⟩:=H.out
  obtain ⟨⟨n0,n1,n2,n3⟩,_⟩:=box4 h7
  by_cases hkl : k < x.ks.length
  ·obtain ⟨rfl,hb1,hb2⟩:=HPx.out (by omega)
   have hd : (k : Int) < (x.ks.length : Int):=by omega
   obtain ⟨a,ha⟩:=HK1.out k hkl
   have hl0:=HRx.out k hkl
   obtain ⟨b1,o1,c1,f1,hva,hbb,q1,r1⟩:=lat_one (ha ▸ hl0)
   have HFo : Hid (∀ (X : World) (V2 : Vs),Kw wb V W V2 X→Four X bx (ox+k * 4) x.ks[k] (.slice (some ⟨b1,o1,none⟩) 1 c1)):=fun X V2 q=>by have:=(HQ.out k hkl).of_block ((HV.out.below q).block bx hb1);rw [hva] at this;exact this
   have HQ1 : Hid (∀ (X : World) (V2 : Vs),Kw wb V W V2 X→Four X b1 o1 a f1):=fun X V2 q=>q1.of_block ((HV.out.below q).block b1 hbb)
   have HKd : Hid (∀ (X : World) (V2 : Vs),Kw wb V W V2 X→LAt X (fun b=>b < B) (.slice (some ⟨b1,o1,none⟩) 1 c1) x.ks[k].ks):=fun X V2 q=>HV.out.lat q (hva ▸ hl0)
   obtain ⟨y1,y2,y3,y4⟩:=HFo.out _ _ h2
   obtain ⟨u1,u2,u3,u4⟩:=HQ1.out _ _ h2
   have HSz : Hid (sizes (x.ks.take (k+1))=sizes (x.ks.take k)+x.ks[k].size):=take_sizes x.ks hkl
   have HStp : Hid (dimp x.ks (p+1) it d=dimp (x.ks.drop (k+1)) (p+1+(sizes (x.ks.take k) : Nat)+x.ks[k].size) it (D.declare a.t 61 (p+1+(sizes (x.ks.take k) : Nat)) it true)):=by
    show _=_
    rw [h3,List.drop_eq_getElem_cons hkl,dimp]
    rw [ha];rfl
   have htk:=HTot.out (k+1)
   rw [HSz.out] at htk
   have hll:=HLen.out
   have hsx:=HSZ.out
   have szx:=x.ks[k].size_pos
   have hpb : 0 ≤ p+1+(sizes (x.ks.take k) : Nat)∧p+1+(sizes (x.ks.take k) : Nat)+(x.ks[k].size : Nat) ≤ 16777216∧x.ks[k].size ≤ 4194304∧D.tops.length ≤ 8388608:=⟨by omega,by push_cast;omega,by omega,by omega⟩
   obtain ⟨hp1,hp2,hp3,hp4⟩:=hpb
   have H1 : Hid (Wv wb B wr D VV∧Kw wb V W VV wr∧D.tops.length ≤ d.tops.length+k∧wr.heap[W.heap.size]?=some (nO x (.slice (some ⟨bx,ox,none⟩) x.ks.length cv))):=⟨h1,h2,h4,h7⟩
   have CD:=wdeclare_any h1 a.t 61 (p+1+(sizes (x.ks.take k) : Nat)) it false hp4
   clear H h1 h2 h3 h4 h7 hb2 htk hll hsx q1 r1 hva hl0
   generalize x.ks[k]=y at *
   generalize hsk : sizes (x.ks.take k)=sk at *
   have HNx : Hid (p+1+((sk+y.size : Nat) : Int)=p+1+(sk : Nat)+(y.size : Nat)):=by show _=_;push_cast;omega
   generalize p+1+(sk : Int)=pk at *
   go_wp2_with fail
   go_at_call 46
   refine CD.mono ?_
   rintro e W1 ⟨rfl,V1,k1,k2⟩
   clear CD y1 y2 y3 y4 u1 u2 u3 u4 n0 n1 n2 n3
   obtain ⟨g1,g2,g3,g6⟩:=H1.out
   have m1:=HKM.out _ _ _ _ _ g1 k2 g6
   have kk:=g2.trans k2
   obtain ⟨⟨n0,n1,n2,n3⟩,_⟩:=box4 m1
   obtain ⟨y1,y2,y3,y4⟩:=HFo.out _ _ kk
   have CS:=rsize_any y W1 _ _ (HKd.out _ _ kk) (by omega)
   have HF : Hid (∀ X,Below W1.heap.size W1 X→Wv wb B X (D.declare a.t 61 pk it true) V1∧Kw wb V W V1 X∧dimp x.ks (p+1) it d=dimp (x.ks.drop (k+1)) (pk+(y.size : Nat)) it (D.declare a.t 61 pk it true)∧(D.declare a.t 61 pk it true).tops.length ≤ d.tops.length+(k+1)∧X.heap[W.heap.size]?=some (nO x (.slice (some ⟨bx,ox,none⟩) x.ks.length cv))):=fun X b =>
    ⟨k1.bel b,kk.trans (Kw.of b),HStp.out,by have:=(declare_len D a.t 61 pk it true).1;omega,(b.block _ (gl m1)).trans m1⟩
   unfold Nd.v at CS
   clear H1 g1 g2 g3 g6 m1 kk k1 k2
   go_wp2_with fail
   go_at_call 12
   refine CS.mono ?_
   rintro e W9 ⟨rfl,b9⟩
   have HF2:=HF.out W9 b9
   have HF3 : Hid _:=HF2
   clear CS y1 y2 y3 y4 n0 n1 n2 n3 HF HF2 b9
   go_wp2
   go_roundw
   case rel=>exact ⟨k+1,_,V1,by simp,by rw [HSz.out,HNx.out],by omega,by show _∧_;rw [HSz.out,HNx.out];exact HF3.out⟩
   case measure=>simp [intOf];omega
  ·obtain rfl : k=x.ks.length:=by omega
   have hd : ¬ ((x.ks.length : Nat) : Int) < ((x.ks.length : Nat) : Int):=by omega
   have HR2 : Hid (dtop x p it d=D):=by show _=_;rw [HR.out,h3,HEnd.out]
   have H1 : Hid _:=h1
   have K1 : Hid _:=h2
   clear H h1 h2 h3 h4 h7
   go_wp2
   go_end0
   exact ⟨rfl,VV,by rw [HR2.out];exact H1.out,K1.out⟩
theorem wtops_64 (x : Nd) (p it : Int) (hq : x.k=64) (hk1 : ∀ y ∈ x.ks,∃ a,y.ks=[a]) (hpp : 0 ≤ p) (hzz : p+(x.size : Nat) ≤ 16777216) (hss : x.size ≤ 4194304) : TpA x p it (dtop x p it):=by
 intro wb B W d V v h hx hn hn2
 obtain ⟨av,cv,rfl⟩:=hx.sl
 obtain ⟨W0,hW0,H0,K0,M0,n0,n1,n2,n3⟩:=wpre (x:=x) (.slice av x.ks.length cv) h
 have HV : Hid _:=h
 have HX : Hid _:=hx
 have szx:=x.size_pos
 have e40 : (x.k == 40)=false:=by rw [hq];decide
 have e41 : (x.k == 41)=false:=by rw [hq];decide
 have e42 : (x.k == 42)=false:=by rw [hq];decide
 have e46 : (x.k == 46)=false:=by rw [hq];decide
 have e66 : (x.k == 66)=false:=by rw [hq];decide
 have e62 : (x.k == 62)=false:=by rw [hq];decide
 have e63 : (x.k == 63)=false:=by rw [hq];decide
 have e60 : (x.k == 60)=false:=by rw [hq];decide
 have e64 : (x.k == 64)=true:=by rw [hq];decide
 obtain ⟨ax,cx,bx,ox,fx,hva,px,qx,rx⟩:=hx.op
 injection hva with hva1 _ hva2
 subst hva1 hva2
 have HQ : Hid (∀ i (h : i < x.ks.length),Four W bx (ox+i * 4) x.ks[i] (fx i)):=qx
 have HRx : Hid (∀ i (h : i < x.ks.length),LAt W (fun b=>b < B) (fx i) x.ks[i].ks):=rx
 have HPx : Hid (0 < x.ks.length→av=some ⟨bx,ox,none⟩∧bx < B∧bx < W.heap.size):=px
 have HTot : Hid (∀ i,sizes (x.ks.take i) ≤ sizes x.ks):=take_sizes_le x.ks
 have HEnd : Hid (∀ (D : Dw) (pp : Int),dgiv (x.ks.drop x.ks.length) pp D=D):=fun D pp=>by rw [List.drop_length,dgiv]
 have HLen : Hid (x.ks.length ≤ sizes x.ks):=sizes_len x.ks
 have HK1 : Hid (∀ i (h : i < x.ks.length),∃ a,x.ks[i].ks=[a]):=fun i h=>hk1 _ (List.getElem_mem h)
 have HSZ : Hid (x.size=1+sizes x.ks):=x.size_eq
 have hln : x.ks.length ≤ 4194304:=by have:=HSZ.out;have:=HLen.out;omega
 have HKM : Hid (∀ (VV : Vs) (X : World) (D : Dw) (V2 : Vs) (Y : World),Wv wb B X D VV→Kw wb VV X V2 Y→X.heap[W.heap.size]?=some (nO x (.slice av x.ks.length cv))→Y.heap[W.heap.size]?=some (nO x (.slice av x.ks.length cv))):=fun VV X D V2 Y q k m=>q.kept k m (by decide)
 have HR : Hid (dtop x p it d=dgiv x.ks (p+1) d):=by
  obtain ⟨k,t,n,ks⟩:=x
  have hq : k=64:=hq
  subst hq
  rfl
 clear h hx hq qx rx px hk1
 unfold nO at hW0
 unfold Nd.v
 go_enter Tryz.func22,Tryz.ntmps22
 go_wp2
 clear hW0
 go_loopw [11,12] (fun vp vi wo=>∃ (k : Nat) (D : Dw) (VV : Vs),vi = .int .i64 (k : Nat)∧vp = .int .i64 (p+1+(sizes (x.ks.take k) : Nat))∧k ≤ x.ks.length∧Hid (Wv wb B wo D VV∧Kw wb V W VV wo∧dgiv x.ks (p+1) d=dgiv (x.ks.drop k) (p+1+(sizes (x.ks.take k) : Nat)) D∧D.exs.length ≤ d.exs.length+k∧wo.heap[W.heap.size]?=some (nO x (.slice av x.ks.length cv)))) (fun _ vi _=>x.ks.length - (intOf vi).toNat)
 case atStart=>exact ⟨0,d,V,rfl,by simp [sizes_nil],by omega,H0.out,K0.out,by simp [sizes_nil],by omega,M0.out⟩
 case round =>
  obtain ⟨k,D,VV,rfl,rfl,hk,H⟩:=hrel
  clear n0 n1 n2 n3
  obtain ⟨h1,h2,h3,h4,h7⟩:=H.out
  obtain ⟨⟨n0,n1,n2,n3⟩,_⟩:=box4 h7
  by_cases hkl : k < x.ks.length
  ·obtain ⟨rfl,hb1,hb2⟩:=HPx.out (by omega)
   have hd : (k : Int) < (x.ks.length : Int):=by omega
   obtain ⟨a,ha⟩:=HK1.out k hkl
   have hl0:=HRx.out k hkl
   obtain ⟨b1,o1,c1,f1,hva,hbb,q1,r1⟩:=lat_one (ha ▸ hl0)
   have HFo : Hid (∀ (X : World) (V2 : Vs),Kw wb V W V2 X→Four X bx (ox+k * 4) x.ks[k] (.slice (some ⟨b1,o1,none⟩) 1 c1)):=fun X V2 q=>by have:=(HQ.out k hkl).of_block ((HV.out.below q).block bx hb1);rw [hva] at this;exact this
   have HQ1 : Hid (∀ (X : World) (V2 : Vs),Kw wb V W V2 X→Four X b1 o1 a f1):=fun X V2 q=>q1.of_block ((HV.out.below q).block b1 hbb)
   have HKd : Hid (∀ (X : World) (V2 : Vs),Kw wb V W V2 X→LAt X (fun b=>b < B) (.slice (some ⟨b1,o1,none⟩) 1 c1) x.ks[k].ks):=fun X V2 q=>HV.out.lat q (hva ▸ hl0)
   obtain ⟨y1,y2,y3,y4⟩:=HFo.out _ _ h2
   obtain ⟨u1,u2,u3,u4⟩:=HQ1.out _ _ h2
   have HSz : Hid (sizes (x.ks.take (k+1))=sizes (x.ks.take k)+x.ks[k].size):=take_sizes x.ks hkl
   have HStp : Hid (dgiv x.ks (p+1) d=dgiv (x.ks.drop (k+1)) (p+1+(sizes (x.ks.take k) : Nat)+x.ks[k].size) (dgv x.ks[k] (p+1+(sizes (x.ks.take k) : Nat)) D)):=by
    show _=_
    rw [h3,List.drop_eq_getElem_cons hkl,dgiv]
    rfl
   have htk:=HTot.out (k+1)
   rw [HSz.out] at htk
   have hll:=HLen.out
   have hsx:=HSZ.out
   have szx:=x.ks[k].size_pos
   have hpb : 0 ≤ p+1+(sizes (x.ks.take k) : Nat)∧p+1+(sizes (x.ks.take k) : Nat)+(x.ks[k].size : Nat) ≤ 16777216∧x.ks[k].size ≤ 4194304∧D.exs.length ≤ 8388608:=⟨by omega,by push_cast;omega,by omega,by omega⟩
   obtain ⟨hp1,hp2,hp3,hp4⟩:=hpb
   have H1 : Hid (Wv wb B wr D VV∧Kw wb V W VV wr∧D.exs.length ≤ d.exs.length+k∧wr.heap[W.heap.size]?=some (nO x (.slice (some ⟨bx,ox,none⟩) x.ks.length cv))):=⟨h1,h2,h4,h7⟩
   skip
   clear H h1 h2 h3 h4 h7 hb2 htk hll hsx q1 r1 hva hl0
   generalize x.ks[k]=y at *
   generalize hsk : sizes (x.ks.take k)=sk at *
   have HNx : Hid (p+1+((sk+y.size : Nat) : Int)=p+1+(sk : Nat)+(y.size : Nat)):=by show _=_;push_cast;omega
   generalize p+1+(sk : Int)=pk at *
   obtain ⟨W2,hW2⟩ : ∃ X,wr.alloc (nO y (.slice (some ⟨b1,o1,none⟩) 1 c1))=X:=⟨_,rfl⟩
   have b2 : Below wr.heap.size wr W2:=by rw [← hW2];exact bel_a _ _
   have m2 : W2.heap[wr.heap.size]?=some (nO y (.slice (some ⟨b1,o1,none⟩) 1 c1)):=by rw [← hW2];exact hnew _ rfl
   obtain ⟨g1,g2,g3,g6⟩:=H1.out
   have M2 : Hid (W2.heap[wr.heap.size]?=some (nO y (.slice (some ⟨b1,o1,none⟩) 1 c1))):=m2
   have H2 : Hid (Wv wb B W2 D VV):=g1.bel b2
   have K2 : Hid (Kw wb V W VV W2):=g2.trans (Kw.of b2)
   have N2 : Hid (W2.heap[W.heap.size]?=some (nO x (.slice (some ⟨bx,ox,none⟩) x.ks.length cv))):=(b2.block _ (gl g6)).trans g6
   have HDl : Hid (D.exs.length ≤ d.exs.length+k):=g3
   obtain ⟨⟨z0,z1,z2,z3⟩,_⟩:=box4 m2
   clear u1 u2 u3 u4
   obtain ⟨u1,u2,u3,u4⟩:=HQ1.out _ _ K2.out
   clear g1 g2 g3 g6 b2 m2 H1
   unfold nO at hW2
   cases w6 : (a.k == 6) with
   | true =>
    have HG : Hid (dgv y pk D=D.give a.t pk):=by show _=_;unfold dgv;rw [ha];exact if_pos (show a.k=6 by simpa using w6)
    have CG:=wgive_any H2.out a.t pk hp4
    go_wp2_with fail
    go_at_call 47
    refine CG.mono ?_
    rintro e W3 ⟨rfl,V3,k1,k2⟩
    clear CG y1 y2 y3 y4 u1 u2 u3 u4 n0 n1 n2 n3 z0 z1 z2 z3 hW2
    have M3 : Hid _:=H2.out.keptN' k2 M2.out
    have N3 : Hid _:=HKM.out _ _ _ _ _ H2.out k2 N2.out
    have H3 : Hid (Wv wb B W3 (dgv y pk D) V3):=by show Wv _ _ _ _ _;rw [HG.out];exact k1
    have K3 : Hid (Kw wb V W V3 W3):=K2.out.trans k2
    clear k1 k2 M2 N2 H2 K2 HG
    obtain ⟨⟨z0,z1,z2,z3⟩,_⟩:=box4 M3.out
    have CS:=rsize_any y W3 _ _ (HKd.out _ _ K3.out) (by omega)
    have HF : Hid (∀ X,Below W3.heap.size W3 X→Wv wb B X (dgv y pk D) V3∧Kw wb V W V3 X∧dgiv x.ks (p+1) d=dgiv (x.ks.drop (k+1)) (pk+(y.size : Nat)) (dgv y pk D)∧(dgv y pk D).exs.length ≤ d.exs.length+(k+1)∧X.heap[W.heap.size]?=some (nO x (.slice (some ⟨bx,ox,none⟩) x.ks.length cv))):=fun X b =>
     ⟨H3.out.bel b,K3.out.trans (Kw.of b),HStp.out,by have:=(dgv_len y pk D).2;have:=HDl.out;omega,(b.block _ (gl N3.out)).trans N3.out⟩
    unfold Nd.v at CS
    clear M3 H3 K3 N3
    go_wp2_with fail
    go_at_call 12
    refine CS.mono ?_
    rintro e W9 ⟨rfl,b9⟩
    have HF2:=HF.out W9 b9
    have HF3 : Hid _:=HF2
    clear CS z0 z1 z2 z3 HF HF2 b9
    go_wp2
    go_roundw
    case rel=>exact ⟨k+1,_,_,by simp,by rw [HSz.out,HNx.out],by omega,by show _∧_;rw [HSz.out,HNx.out];exact HF3.out⟩
    case measure=>simp [intOf];omega
   | false =>
    cases ws : (y.t.toList == [42]) with
    | true =>
     have HG : Hid (dgv y pk D=D):=by show _=_;unfold dgv;rw [ha];show (if a.k=6 then _ else _)=_;rw [if_neg (by simpa using w6),if_pos (by simpa using ws)]
     have ws' : (y.t.toList != [42])=false:=by rw [bne,ws];rfl
     go_wp2_with fail
     clear y1 y2 y3 y4 u1 u2 u3 u4 n0 n1 n2 n3 z0 z1 z2 z3
     obtain ⟨W3,hW3⟩ : ∃ X,X=W2:=⟨_,rfl⟩
     obtain ⟨V3,hV3⟩ : ∃ X,X=VV:=⟨_,rfl⟩
     subst hW3 hV3
     have M3 : Hid _:=M2.out
     have N3 : Hid _:=N2.out
     have H3 : Hid (Wv wb B W3 (dgv y pk D) V3):=by show Wv _ _ _ _ _;rw [HG.out];exact H2.out
     have K3 : Hid (Kw wb V W V3 W3):=K2.out
     clear M2 N2 H2 K2 HG
     obtain ⟨⟨z0,z1,z2,z3⟩,_⟩:=box4 M3.out
     have CS:=rsize_any y W3 _ _ (HKd.out _ _ K3.out) (by omega)
     have HF : Hid (∀ X,Below W3.heap.size W3 X→Wv wb B X (dgv y pk D) V3∧Kw wb V W V3 X∧dgiv x.ks (p+1) d=dgiv (x.ks.drop (k+1)) (pk+(y.size : Nat)) (dgv y pk D)∧(dgv y pk D).exs.length ≤ d.exs.length+(k+1)∧X.heap[W.heap.size]?=some (nO x (.slice (some ⟨bx,ox,none⟩) x.ks.length cv))):=fun X b =>
      ⟨H3.out.bel b,K3.out.trans (Kw.of b),HStp.out,by have:=(dgv_len y pk D).2;have:=HDl.out;omega,(b.block _ (gl N3.out)).trans N3.out⟩
     unfold Nd.v at CS
     clear M3 H3 K3 N3
     go_at_call 12
     refine CS.mono ?_
     rintro e W9 ⟨rfl,b9⟩
     have HF2:=HF.out W9 b9
     have HF3 : Hid _:=HF2
     clear CS z0 z1 z2 z3 HF HF2 b9
     go_wp2
     go_roundw
     case rel=>exact ⟨k+1,_,_,by simp,by rw [HSz.out,HNx.out],by omega,by show _∧_;rw [HSz.out,HNx.out];exact HF3.out⟩
     case measure=>simp [intOf];omega
    | false =>
     have ws' : (y.t.toList != [42])=true:=by rw [bne,ws];rfl
     have HG : Hid (dgv y pk D=D.give y.t pk):=by show _=_;unfold dgv;rw [ha];show (if a.k=6 then _ else _)=_;rw [if_neg (by simpa using w6),if_neg (by simpa using ws)]
     have CG:=wgive_any H2.out y.t pk hp4
     go_wp2_with fail
     go_at_call 47
     refine CG.mono ?_
     rintro e W3 ⟨rfl,V3,k1,k2⟩
     clear CG y1 y2 y3 y4 u1 u2 u3 u4 n0 n1 n2 n3 z0 z1 z2 z3 hW2
     have M3 : Hid _:=H2.out.keptN' k2 M2.out
     have N3 : Hid _:=HKM.out _ _ _ _ _ H2.out k2 N2.out
     have H3 : Hid (Wv wb B W3 (dgv y pk D) V3):=by show Wv _ _ _ _ _;rw [HG.out];exact k1
     have K3 : Hid (Kw wb V W V3 W3):=K2.out.trans k2
     clear k1 k2 M2 N2 H2 K2 HG
     obtain ⟨⟨z0,z1,z2,z3⟩,_⟩:=box4 M3.out
     have CS:=rsize_any y W3 _ _ (HKd.out _ _ K3.out) (by omega)
     have HF : Hid (∀ X,Below W3.heap.size W3 X→Wv wb B X (dgv y pk D) V3∧Kw wb V W V3 X∧dgiv x.ks (p+1) d=dgiv (x.ks.drop (k+1)) (pk+(y.size : Nat)) (dgv y pk D)∧(dgv y pk D).exs.length ≤ d.exs.length+(k+1)∧X.heap[W.heap.size]?=some (nO x (.slice (some ⟨bx,ox,none⟩) x.ks.length cv))):=fun X b =>
      ⟨H3.out.bel b,K3.out.trans (Kw.of b),HStp.out,by have:=(dgv_len y pk D).2;have:=HDl.out;omega,(b.block _ (gl N3.out)).trans N3.out⟩
     unfold Nd.v at CS
     clear M3 H3 K3 N3
     go_wp2_with fail
     go_at_call 12
     refine CS.mono ?_
     rintro e W9 ⟨rfl,b9⟩
     have HF2:=HF.out W9 b9
     have HF3 : Hid _:=HF2
     clear CS z0 z1 z2 z3 HF HF2 b9
     go_wp2
     go_roundw
     case rel=>exact ⟨k+1,_,_,by simp,by rw [HSz.out,HNx.out],by omega,by show _∧_;rw [HSz.out,HNx.out];exact HF3.out⟩
     case measure=>simp [intOf];omega
  ·obtain rfl : k=x.ks.length:=by omega
   have hd : ¬ ((x.ks.length : Nat) : Int) < ((x.ks.length : Nat) : Int):=by omega
   have HR2 : Hid (dtop x p it d=D):=by show _=_;rw [HR.out,h3,HEnd.out]
   have H1 : Hid _:=h1
   have K1 : Hid _:=h2
   clear H h1 h2 h3 h4 h7
   go_wp2
   go_end0
   exact ⟨rfl,VV,by rw [HR2.out];exact H1.out,K1.out⟩
theorem wtops_any (x : Nd) (p it : Int) (h : itmS x) (hpp : 0 ≤ p) (hzz : p+(x.size : Nat) ≤ 16777216) (hss : x.size ≤ 4194304) : TpA x p it (dtop x p it):=by
 have hp1 : 0 ≤ p∧p ≤ 16777216:=⟨hpp,by omega⟩
 rcases h with h | ⟨t,n,y,rfl,hy,hd⟩ | ⟨t,n,y,rfl,hy,hd⟩ | ⟨t,n,ks,rfl,hk⟩ | ⟨t,n,ks,rfl,hk⟩
 ·by_cases q : isDecl x.k=true
  ·have e : dtop x p it=dtop0 x p it:=by
    obtain ⟨k,t,n,ks⟩:=x
    have q : isDecl k=true:=q
    funext w
    rw [dtop.eq_def,dtop0]
    dsimp only
    rw [if_pos q,if_pos q]
   rw [e]
   exact wtops_dec x p it q
  ·have hno : x.k ≠ 62∧x.k ≠ 63∧x.k ≠ 60∧x.k ≠ 64:=by
    rcases h.1 with h | ⟨k,t,n,ks,rfl,hk,_⟩
    ·obtain ⟨k,t,n,ks⟩:=x
     rw [innN] at h
     obtain ⟨_,_,a1,_,a2,a3,a4,_,_⟩:=h.1.no
     exact ⟨a2,a3,a1,a4⟩
    ·show k ≠ 62∧k ≠ 63∧k ≠ 60∧k ≠ 64
     omega
   have hd : ¬ (x.k=40 ∨ x.k=41 ∨ x.k=42 ∨ x.k=46 ∨ x.k=66):=fun w=>q (decide_eq_true w)
   have e : dtop x p it=fun d=>d:=by
    obtain ⟨k,t,n,ks⟩:=x
    have q : ¬ isDecl k=true:=q
    have hno : k ≠ 62∧k ≠ 63∧k ≠ 60∧k ≠ 64:=hno
    funext w
    rw [dtop.eq_def]
    dsimp only
    rw [if_neg q,if_neg hno.1,if_neg hno.2.1,if_neg hno.2.2.1,if_neg hno.2.2.2]
   rw [e]
   exact wtops_no x p it ⟨by omega,by omega,by omega,by omega,by omega,hno.1,hno.2.1,hno.2.2.1,hno.2.2.2⟩
 ·exact wtops_62 _ y p it rfl rfl hd hp1
 ·exact wtops_63 _ y p it rfl rfl hp1
 ·refine wtops_60 _ p it rfl (fun y hy=>?_) hpp hzz hss
  obtain ⟨t,n,a,rfl,_⟩:=(hk y hy).1
  exact ⟨a,rfl⟩
 ·refine wtops_64 _ p it rfl (fun y hy=>?_) hpp hzz hss
  obtain ⟨t,n,a,rfl,_⟩:=(hk y hy).1
  exact ⟨a,rfl⟩
def DtA (c : Rc) (nb mb : Nat) (vo : Value) (W : World) (vt : Value) (T : List Tp) (e : Ending) (W' : World) : Prop :=
 e = .returned (.tuple #[])∧∃ vt',Tv c nb mb vo W' vt' T∧Kpt (OwnT c mb vt) W W'∧∀ k,vt'.ownBlock=some k→vt.ownBlock=some k ∨ W.heap.size ≤ k
theorem declareTop_any {c : Rc} {nb mb : Nat} {vo : Value} {W : World} {vt : Value} {T : List Tp} (h : Tv c nb mb vo W vt T) (x : Nd) (v : Value) {S : Nat→Prop} (hx : LAt W S v x.ks) (hp : Pre x) (p i : Int) (hn : (dclN x).size ≤ 4194304) (hT : T.length ≤ 4194304) :
 Calls Tryz.prog 58 #[.pointer (some ⟨c.rb,0,none⟩),x.v v,.int .i64 p,.int .i64 i] W (DtA c nb mb vo W vt (T ++ ptop1 x p i)):=by
 obtain ⟨i0,hi0,hz0,hz1,hz2⟩:=info_parts info_tp
 obtain ⟨av,cv,rfl⟩:=hx.sl
 obtain ⟨at_,ct,rfl⟩:=rw_form h.t
 obtain ⟨W0,hW0⟩ : ∃ X,W.alloc (nO x (.slice av x.ks.length cv))=X:=⟨_,rfl⟩
 have b0 : Below W.heap.size W W0:=by rw [← hW0];exact bel_a _ _
 have m0 : W0.heap[W.heap.size]?=some (nO x (.slice av x.ks.length cv)):=by rw [← hW0];exact hnew _ rfl
 obtain ⟨⟨a0,a1,a2,a3⟩,_⟩:=box4 m0
 have CD0:=declares_any x _ W0 S (hx.bel b0) hp
 have HP : Hid (ptop1 x p i=if (dclN x).toList=[] then [] else [⟨dclN x,x.k,p,i,!frB x⟩]):=rfl
 generalize hnm : dclN x=nm at *
 unfold nO at hW0
 unfold Nd.v at CD0 ⊢
 go_enter Tryz.func58,Tryz.ntmps58
 go_wp2_with fail
 go_at_call 64
 refine CD0.mono ?_
 rintro e W1 ⟨rfl,b1⟩
 have bw1 : Below W.heap.size W W1:=b0.trans (b1.mono b0.size)
 have m1:=(b1.block _ (gl m0)).trans m0
 clear CD0 hW0 m0 a0 a1 a2 a3 b1
 obtain ⟨⟨a0,a1,a2,a3⟩,_⟩:=box4 m1
 cases hem : nm.toList.isEmpty with
 | true =>
  have HR : Hid (DtA c nb mb vo W (.slice at_ T.length ct) (T ++ ptop1 x p i) (.returned (.tuple #[])) W1):=by
   show DtA _ _ _ _ _ _ _ _ _
   rw [HP.out,if_pos (by simpa using hem),List.append_nil]
   exact ⟨rfl,_,h.bel bw1,Kpt.of bw1,fun k hk=>.inl hk⟩
  clear HP hx h m1
  go_wp2
  go_end0
  exact HR.out
 | false =>
  have HT : Hid (T ++ ptop1 x p i=T ++ [⟨nm,x.k,p,i,!frB x⟩]):=by show _=_;rw [HP.out,if_neg (by simpa using hem)]
  clear HP
  have CL:=fun X=>clone_anyT nm X (by omega)
  cases e61 : (x.k == 61)
  have HD : Hid (dc1 ⟨nm,x.k,p,i,!frB x⟩=⟨nm,x.k,p,3,frB x⟩):=by show dc1 _=_;unfold dc1;simp at e61;simp [e61]
  go_wp2_with fail
  generalize (3 : Int)=us at *
  rotate_left
  have HD : Hid (dc1 ⟨nm,x.k,p,i,!frB x⟩=⟨nm,x.k,p,4,frB x⟩):=by show dc1 _=_;unfold dc1;simp at e61;simp [e61]
  go_wp2_with fail
  generalize (4 : Int)=us at *
  rotate_left
  all_goals
   have CB:=declaredBy_any x (.slice av x.ks.length cv) p us W1 ⟨_,_,_,rfl⟩ nm
   unfold Nd.v Dc.v at CB
   go_at_call 63
   refine CB.mono ?_
   rintro e W2 ⟨rfl,b2⟩
   have bw2 : Below W.heap.size W W2:=bw1.trans (b2.mono bw1.size)
   have m2:=(b2.block _ (gl m1)).trans m1
   obtain ⟨W3,hW3⟩ : ∃ X,W2.alloc (Obj.cells #[.int .i64 x.k,.int .i64 p,.int .i64 us,.bool (frB x)] 72)=X:=⟨_,rfl⟩
   have b3 : Below W2.heap.size W2 W3:=by rw [← hW3];exact bel_a _ _
   have bw3 : Below W.heap.size W W3:=bw2.trans (b3.mono bw2.size)
   have m3 : W3.heap[W2.heap.size]?=some (.cells #[.int .i64 x.k,.int .i64 p,.int .i64 us,.bool (frB x)] 72 (0,0)):=by rw [← hW3];exact hnew _ rfl
   have m4:=(b3.block _ (gl m2)).trans m2
   have h3:=(h.bel bw3).bel (Below.refl _ W3).drew
   obtain ⟨n3,hm3⟩:=h3.m
   have CD:=declare_any ⟨nm,x.k,p,us,frB x⟩ h3.s hm3
   unfold Dc.v at CD
   obtain ⟨⟨r0,r1,r2,r3,r4,r5⟩,_⟩:=box6 h3.r
   obtain ⟨⟨q0,q1,q2,q3⟩,_⟩:=box4 m3
   have HS4 : Hid (∀ W4,Sm W4 mb (n3+1) (T.map dc1 ++ [⟨nm,x.k,p,us,frB x⟩])→W3.drew.grownBy W4 (some mb)→(W4.cell? ⟨c.rb,1,none⟩=some (.pointer (some ⟨nb,0,none⟩))∧(W4.cell? ⟨W2.heap.size,0,none⟩=some (.int .i64 x.k)∧W4.cell? ⟨W2.heap.size,1,none⟩=some (.int .i64 p)∧W4.cell? ⟨W2.heap.size,2,none⟩=some (.int .i64 us)∧W4.cell? ⟨W2.heap.size,3,none⟩=some (.bool (frB x))))∧∀ X,Below W4.heap.size W4 X→X.cell? ⟨W.heap.size,0,none⟩=some (.int .i64 x.k)∧X.cell? ⟨W2.heap.size,3,none⟩=some (.bool (frB x))∧X.cell? ⟨c.rb,4,none⟩=some (.slice at_ T.length ct)):=fun W4 hm4 g4=>by
    have hmm:=hm3
    obtain ⟨es,cl,hmb,_⟩:=hmm
    have nm : ∀ {k : Nat} {cs : Array Value} {t : TypeId} {fr : Nat × Nat},W3.drew.heap[k]?=some (Obj.cells cs t fr)→W4.heap[k]?=some (Obj.cells cs t fr):=fun {k cs t fr} hk=>(g4.block k (gl hk) (fun e=>by injection e with e;rw [e,hmb] at hk;injection hk with hk;cases hk)).trans hk
    refine ⟨⟨(box6 (nm h3.r)).1.2.1,(box4 (nm m3)).1⟩,fun X b=>?_⟩
    have y1:=(b.block _ (Array.getElem?_eq_some_iff.1 (nm m4)).1).trans (nm m4)
    have y2:=(b.block _ (Array.getElem?_eq_some_iff.1 (nm m3)).1).trans (nm m3)
    have y3:=(b.block _ (Array.getElem?_eq_some_iff.1 (nm h3.r)).1).trans (nm h3.r)
    exact ⟨(box4 y1).1.1,(box4 y2).1.2.2.2,(box6 y3).1.2.2.2.2.1⟩
   have HA : Hid (∀ (W4 X Y W5 : World) (gg cap : Nat),Sm W4 mb (n3+1) (T.map dc1 ++ [⟨nm,x.k,p,us,frB x⟩])→W3.drew.grownBy W4 (some mb)→Below W4.heap.size W4 X→Below X.heap.size X Y→W5.ownsRow c.B 43 5 (.slice (some ⟨gg,0,none⟩) (T.length+1) cap) (T.length+1) (tpV T ++ [.string nm,.int .i64 x.k,.int .i64 p,.int .i64 i,.bool (!frB x)])→Y.grownBy W5 (Value.slice at_ T.length ct).ownBlock→((Value.slice at_ T.length ct).ownBlock=some gg ∨ gg=Y.heap.size) →
    (W5.cell? ⟨c.rb,4,none⟩=some (.slice at_ T.length ct)∧W5.frozen? ⟨c.rb,4,none⟩=false)∧(W5.cell? ⟨W.heap.size,0,none⟩=some (.int .i64 x.k)∧W5.cell? ⟨W2.heap.size,3,none⟩=some (.bool (frB x)))∧DtA c nb mb vo W (.slice at_ T.length ct) (T ++ ptop1 x p i) (.returned (.tuple #[])) (W5.setCell ⟨c.rb,4,none⟩ (.slice (some ⟨gg,0,none⟩) (T.length+1) cap))):=fun W4 X Y W5 gg cap hm4 g4 bX bY r1 r2 r3=>by
    have hm4' : Sm W4 mb (n3+1) ((T ++ [(⟨nm,x.k,p,i,!frB x⟩ : Tp)]).map dc1):=by rw [List.map_append,List.map_cons,List.map_nil,HD.out];exact hm4
    obtain ⟨k1,k2,k3,k4⟩:=h3.push ⟨nm,x.k,p,i,!frB x⟩ hm4' g4 (bX.trans (bY.mono bX.size)) r1 r2 r3
    obtain ⟨⟨_,_,_,_,y5,_⟩,y6,_⟩:=box6 (k4.trans h3.r)
    have f1:=h3.kept k2 m4 (by decide)
    have f2:=h3.kept k2 m3 (by decide)
    have ne1 : W.heap.size ≠ c.rb:=fun e=>by have hr:=h3.r;rw [← e] at hr;have hr : W3.heap[W.heap.size]?=_:=hr;rw [m4] at hr;injection hr with hr;cases hr
    have ne2 : W2.heap.size ≠ c.rb:=fun e=>by have hr:=h3.r;rw [← e] at hr;have hr : W3.heap[W2.heap.size]?=_:=hr;rw [m3] at hr;injection hr with hr;cases hr
    have g1 : W5.heap[W.heap.size]?=_:=(Below.heap_setCell _ _ _ _ ne1).symm.trans f1
    have g2 : W5.heap[W2.heap.size]?=_:=(Below.heap_setCell _ _ _ _ ne2).symm.trans f2
    refine ⟨⟨y5,y6⟩,⟨(box4 g1).1.1,(box4 g2).1.2.2.2⟩,rfl,_,by rw [HT.out];exact k1,(Kpt.of bw3 (M:=OwnT c mb (.slice at_ T.length ct))).trans ((Kpt.refl (OwnT c mb (.slice at_ T.length ct)) W3).drew.trans k2 (fun _ _ q=>q)) (fun _ _ q=>q),fun k hk=>?_⟩
    rcases k3 k hk with q | q
    ·exact .inl q
    ·exact .inr (Nat.le_trans bw3.size q)
   have HO : Hid (∀ (W4 X : World),W3.drew.grownBy W4 (some mb)→Below W4.heap.size W4 X→X.ownsRow c.B 43 5 (.slice at_ T.length ct) T.length (tpV T)):=fun W4 X g4 b=>by
    have hmm:=hm3
    obtain ⟨es,cl,hmb,_⟩:=hmm
    refine rw_keep h3.t fun k hk=>(b.block k (Nat.lt_of_lt_of_le (rw_lt h3.t k hk).2 g4.size)).trans (g4.block k (rw_lt h3.t k hk).2 (fun e=>?_))
    injection e with e
    obtain ⟨cur,hb⟩:=own_cells h3.t hk
    rw [e,hmb] at hb;injection hb with hb;cases hb
   have HB : Hid (c.B ≤ W3.heap.size):=h3.b
   clear m1 m2 m3 m4 h h3 hm3 HT hx bw1 bw2 bw3 b2 b3 b0 CB r0 r2 r3 r4 r5 hp
   go_wp2_with fail
   refine region_held (fun X=>X.cell? ⟨c.rb,1,none⟩=some (.pointer (some ⟨nb,0,none⟩))∧(X.cell? ⟨W2.heap.size,0,none⟩=some (.int .i64 x.k)∧X.cell? ⟨W2.heap.size,1,none⟩=some (.int .i64 p)∧X.cell? ⟨W2.heap.size,2,none⟩=some (.int .i64 us)∧X.cell? ⟨W2.heap.size,3,none⟩=some (.bool (frB x)))) (by kernel_rfl) ⟨r1,q0,q1,q2,q3⟩ (fun hS=>?_)
   refine wpAnyH_take (i:=0) (v:=(.pointer (some ⟨c.rb,0,none⟩))) rfl (by kernel_rfl) (by kernel_rfl) (by kernel_rfl) (fun _ _ _ h=>h) (Or.inl ⟨by rfl,fun w _=>by go_simp⟩) hS ?_
   refine wpAnyH_take (i:=1) (v:=(.pointer (some ⟨c.rb,0,none⟩))) rfl (by kernel_rfl) (by kernel_rfl) (by kernel_rfl) (fun _ _ _ h=>h) (Or.inl ⟨by rfl,fun w _=>by go_simp⟩) hS ?_
   refine wpAnyH_take (i:=2) (v:=(.pointer (some ⟨c.rb,1,none⟩))) rfl (by kernel_rfl) (by kernel_rfl) (by kernel_rfl) (fun _ _ _ h=>h) (Or.inl ⟨by rfl,fun w _=>by go_simp⟩) hS ?_
   refine wpAnyH_take (i:=3) (v:=(.pointer (some ⟨nb,0,none⟩))) rfl (by kernel_rfl) (by kernel_rfl) (by kernel_rfl) (fun _ _ _ h=>h) (Or.inl ⟨by rfl,fun w hw=>by obtain ⟨l0,⟨l1,l2,l3,l4⟩⟩:=hw;go_simp⟩) hS ?_
   refine wpAnyH_take (i:=4) (v:=(.string nm)) rfl (by kernel_rfl) (by kernel_rfl) (by kernel_rfl) (fun _ _ _ h=>h) (Or.inl ⟨by rfl,fun w _=>by go_simp⟩) hS ?_
   refine wpAnyH_take (i:=5) (v:=(.agg #[.int .i64 x.k,.int .i64 p,.int .i64 us,.bool (frB x)])) rfl (by kernel_rfl) (by kernel_rfl) (by kernel_rfl) (fun _ _ _ h=>h) (Or.inl ⟨by rfl,fun w hw=>by obtain ⟨l0,⟨l1,l2,l3,l4⟩⟩:=hw;go_simp⟩) hS ?_
   refine wpAnyH_ready (rs:=[6]) (by kernel_rfl) (by simp) ?_
   refine AllReadyH.cons rfl (fun K hK=>?_) AllReadyH.nil
   go_simp
   go_at_call 31
   refine CD.mono ?_
   rintro e W4 ⟨rfl,hm4,g4⟩
   obtain ⟨hs7,hs8⟩:=HS4.out W4 hm4 g4
   refine hK.out _ _ hs7 (fun hS4=>?_)
   clear hK K hS hS4 hs7 r1 q0 q1 q2 q3
   refine wpAnyH_done (by kernel_rfl) ?_ _
   have HS8 : Hid _:=hs8
   have su:=hs8 W4.drew (Below.refl _ _).drew
   have HM4 : Hid _:=hm4
   have hT4 : T.length ≤ 4194304:=hT
   have hB4 : c.B ≤ W4.heap.size:=Nat.le_trans HB.out g4.size
   clear hs8 hm4 CD HS4 hT
   go_wp2_with fail
   refine wp_region_U (u:=17) (S:=fun X=>X.cell? ⟨W.heap.size,0,none⟩=some (.int .i64 x.k)∧X.cell? ⟨W2.heap.size,3,none⟩=some (.bool (frB x))∧X.cell? ⟨c.rb,4,none⟩=some (.slice at_ T.length ct)) (by kernel_rfl) ?_
   change wpAnyU _ _ _ _ _ _ _ _ _ (World.drew _)
   refine uT 0 (.pointer (some ⟨c.rb,0,none⟩)) su ?_
   refine uT 1 (.pointer (some ⟨c.rb,0,none⟩)) su ?_
   refine uT 2 (.pointer (some ⟨c.rb,0,none⟩)) su ?_
   refine uT 3 (.pointer (some ⟨c.rb,4,none⟩)) su ?_
   refine uT 4 (.slice at_ T.length ct) su ?_
   refine uT 5 (.string nm) su ?_
   refine uT 7 (.pointer (some ⟨W.heap.size,0,none⟩)) su ?_
   refine uT 8 (.int .i64 x.k) su ?_
   refine uT 9 (.int .i64 p) su ?_
   refine uT 10 (.int .i64 i) su ?_
   refine uT 11 (.pointer (some ⟨W2.heap.size,3,none⟩)) su ?_
   refine uT 12 (.bool (frB x)) su ?_
   refine uT 13 (.bool (!frB x)) su ?_
   refine U_ready (rs:=[6]) (by kernel_rfl) (by simp) ?_
   refine AllU.cons rfl (by decide) (fun K hK=>?_) AllU.nil
   go_simp
   go_at_call 26
   refine (CL _).mono ?_
   rintro e W5 ⟨rfl,b5⟩
   have b5' : Below W4.heap.size W4 W5:=(Below.refl _ W4).drew.trans b5
   have su5:=HS8.out W5 b5'
   refine hK.out _ _ su5 ?_
   clear hK K
   refine uT 14 (.agg #[.string nm,.int .i64 x.k,.int .i64 p,.int .i64 i,.bool (!frB x)]) su5 ?_
   refine U_ready (rs:=[15]) (by kernel_rfl) (by simp) ?_
   refine AllU.cons rfl (by decide) (fun K hK=>?_) AllU.nil
   go_simp
   refine hK.out _ _ (HS8.out _ (b5'.alloc b5'.size _)) ?_
   clear hK K
   refine U_ready (rs:=[16]) (by kernel_rfl) (by simp) ?_
   refine AllU.cons rfl (by decide) (fun K hK=>?_) AllU.nil
   have own5:=HO.out W4 W5 g4 b5'
   have s5:=b5'.size
   refine step_append_lies _ (by rfl) _ _ _ (by rfl) c.B 43 i0 _ 5 48 Tryz.underlying25 hi0 hz0 hz1 hz2 rfl (by omega) _ T.length (tpV T) (by rfl) (own5.alloc _) ⟨W5.heap.size,0,none⟩ 1 1 [.string nm,.int .i64 x.k,.int .i64 p,.int .i64 i,.bool (!frB x)] (by rfl) (by rfl) (World.news_of_block (cs:=#[.string nm,.int .i64 x.k,.int .i64 p,.int .i64 i,.bool (!frB x)]) (t:=43) (fr:=(0,0)) (hnew _ (by simp))) (by simp [Value.oneCell']) (by omega) (by unfold maxLen;omega) (by omega) (by simp;omega) (W5.heap.size+1) (by simp) ?_
   intro gg cap W6 hown6 hgrow hat hlt6
   obtain ⟨⟨w1,w2⟩,⟨w3,w4⟩,hfin⟩:=HA.out W4 W5 _ W6 gg cap HM4.out g4 b5' (bel_a _ _) hown6 hgrow (by simpa using hat)
   refine hK.out _ _ ⟨w3,w4,w1⟩ ?_
   clear hK K
   refine U_end (by kernel_rfl) ?_
   refine wpAny_chain [_,_,_] [17,18,19] _ _ _ _ (by kernel_rfl) rfl (by decide) ?_
   have HFN : Hid _:=hfin
   clear hfin HA HO HS8 HM4 hown6 hgrow hat hlt6 own5 su su5 CL g4 b5 b5'
   go_wp2
   go_end0
   exact ⟨rfl,HFN.out.2⟩
end Go.Proofs.YtfcocoadaajbjaaGreatDoor
