/- Own text. The document's Resolve. Package scope: Resolve of what is no module and no script. Package scope: what the builtins' scope says. Both Resolves,of whatever tree. -/
import Derived.Test.YtfcocoadaajbjaaGreatDoorGd25
import Derived.Test.YtfcocoadaajbjaaGreatDoorGd27
import Derived.Test.YtfcocoadaajbjaaGreatDoorGd31
import Derived.Test.YtfcocoadaajbjaaGreatDoorGd46
set_option linter.unusedVariables false
set_option linter.unusedSimpArgs false
set_option maxRecDepth 100000
set_option maxHeartbeats 32000000
namespace Go.Proofs.YtfcocoadaajbjaaGreatDoor
open Go.RowKit Go.MapKept
theorem fail_ul (w : Dw) (p e : Int) : (w.fail p e).uses=w.uses∧(w.fail p e).locs=w.locs:=by unfold Dw.fail;split <;> exact ⟨rfl,rfl⟩
theorem declare_ul (w : Dw) (nm : ByteArray) (kd p it : Int) (cn : Bool) : (w.declare nm kd p it cn).uses=w.uses∧(w.declare nm kd p it cn).locs=w.locs:=by
 unfold Dw.declare
 cases topS w.tops nm with
 | some t=>exact fail_ul w p 90
 | none=>exact ⟨rfl,rfl⟩
theorem gf_ul (nm : ByteArray) (p : Int) : ∀ (E : List ByteArray) (d : Dw),(gfE nm p E d).uses=d.uses∧(gfE nm p E d).locs=d.locs
 | [],d=>⟨rfl,rfl⟩
 | c :: E,d=>by
  show (gfE nm p E (if eqT c nm=true then d.fail p 90 else d)).uses=_∧(gfE nm p E (if eqT c nm=true then d.fail p 90 else d)).locs=_
  obtain ⟨h1,h2⟩:=gf_ul nm p E (if eqT c nm=true then d.fail p 90 else d)
  rw [h1,h2]
  split
  ·exact fail_ul d p 90
  ·exact ⟨rfl,rfl⟩
theorem give_ul (w : Dw) (nm : ByteArray) (p : Int) : (w.give nm p).uses=w.uses∧(w.give nm p).locs=w.locs:=gf_ul nm p w.exs w
theorem dtop0_ul (x : Nd) (p it : Int) (w : Dw) : (dtop0 x p it w).uses=w.uses∧(dtop0 x p it w).locs=w.locs:=by
 obtain ⟨k,t,n,ks⟩:=x
 rw [dtop0]
 split
 ·exact declare_ul _ _ _ _ _ _
 ·exact ⟨rfl,rfl⟩
theorem dimp_ul : ∀ (l : List Nd) (p it : Int) (w : Dw),(dimp l p it w).uses=w.uses∧(dimp l p it w).locs=w.locs
 | [],p,it,w=>by rw [dimp];exact ⟨rfl,rfl⟩
 | y :: l,p,it,w=>by
  rw [dimp]
  obtain ⟨h1,h2⟩:=dimp_ul l (p+y.size) it (w.declare (headT y.ks) 61 p it true)
  obtain ⟨h3,h4⟩:=declare_ul w (headT y.ks) 61 p it true
  exact ⟨h1.trans h3,h2.trans h4⟩
theorem dgv_ul (y : Nd) (p : Int) (w : Dw) : (dgv y p w).uses=w.uses∧(dgv y p w).locs=w.locs:=by
 unfold dgv
 split
 ·exact give_ul w _ p
 ·split
  ·exact ⟨rfl,rfl⟩
  ·exact give_ul w _ p
theorem dgiv_ul : ∀ (l : List Nd) (p : Int) (w : Dw),(dgiv l p w).uses=w.uses∧(dgiv l p w).locs=w.locs
 | [],p,w=>by rw [dgiv];exact ⟨rfl,rfl⟩
 | y :: l,p,w=>by
  rw [dgiv]
  obtain ⟨h1,h2⟩:=dgiv_ul l (p+y.size) (dgv y p w)
  obtain ⟨h3,h4⟩:=dgv_ul y p w
  exact ⟨h1.trans h3,h2.trans h4⟩
theorem dtop_ul (x : Nd) (p it : Int) (w : Dw) : (dtop x p it w).uses=w.uses∧(dtop x p it w).locs=w.locs:=by
 obtain ⟨k,t,n,ks⟩:=x
 rw [dtop.eq_def]
 dsimp only
 split
 ·exact declare_ul _ _ _ _ _ _
 ·split
  ·cases ks with
   | nil=>exact ⟨rfl,rfl⟩
   | cons a r =>
    obtain ⟨h1,h2⟩:=dtop0_ul a (p+1) it (w.give a.t p)
    obtain ⟨h3,h4⟩:=give_ul w a.t p
    exact ⟨h1.trans h3,h2.trans h4⟩
  ·split
   ·cases ks with
    | nil=>exact ⟨rfl,rfl⟩
    | cons a r =>
     dsimp only
     obtain ⟨h3,h4⟩:=give_ul w dflt p
     split
     ·obtain ⟨h1,h2⟩:=dtop0_ul a (p+1) it (w.give dflt p)
      exact ⟨h1.trans h3,h2.trans h4⟩
     ·obtain ⟨h1,h2⟩:=declare_ul (w.give dflt p) dflt 63 p it true
      exact ⟨h1.trans h3,h2.trans h4⟩
   ·split
    ·exact dimp_ul _ _ _ _
    ·split
     ·exact dgiv_ul _ _ _
     ·exact ⟨rfl,rfl⟩
def dRes (x : Nd) : Dw:=dkids x.ks 1 (dtops x.ks 1 0 dw0)
def RdA (x : Nd) (W : World) (e : Ending) (W' : World) : Prop :=
 Below W.heap.size W W'∧if (dRes x).er=0 then ∃ vt vu,e = .returned (.tuple #[.agg #[vt,vu],.int .i64 0,.int .i64 0])∧W'.ownsRow W.heap.size 43 5 vt (dRes x).tops.length (tpV (dRes x).tops)∧W'.ownsRow W.heap.size 37 5 vu (dRes x).uses.length (usV (dRes x).uses)
  else e = .returned (.tuple #[.agg #[.slice none 0 0,.slice none 0 0],.int .i64 (dRes x).at_,.int .i64 (dRes x).er])
theorem wv_new {W1 W2 : World} {B : Nat} (hB : B ≤ W1.heap.size) (m : W2.heap[W1.heap.size]?=some (.cells #[.slice none 0 0,.slice none 0 0,.slice none 0 0,.bool false,.bool false,.int .i64 0,.int .i64 0,.slice none 0 0] 62 (0,0))) (hs : W1.heap.size ≤ W2.heap.size) : Wv W1.heap.size B W2 dw0 ⟨.slice none 0 0,.slice none 0 0,.slice none 0 0,.slice none 0 0⟩ :=
 ⟨m,⟨rfl,.inl ⟨rfl,rfl⟩⟩,⟨rfl,.inl ⟨rfl,rfl⟩⟩,⟨rfl,.inl ⟨rfl,rfl⟩⟩,⟨rfl,.inl ⟨rfl,rfl⟩⟩,by omega,hB⟩
theorem rresolve_ok (x : Nd) (v : Value) (W : World) (hx : LAt W (fun b=>b < W.heap.size) v x.ks) (hz : x.size ≤ 4194304) (tx : x.tx) (hf : formP x=5 ∨ formP x=6) :
 Calls Tryz.prog 8 #[x.v v] W (RdA x W):=by
 obtain ⟨ax,cx,bx,ox,fx,rfl,px,qx,rx⟩:=hx.op
 obtain ⟨hk68,hit⟩:=form_items hf
 obtain ⟨mod,hshp,_⟩:=form_shape hf
 have hdn:=shp_dn x hshp
 have hWk : ∀ y ∈ x.ks,WkA y:=fun y hy=>wwalk_any y (hdn.kd y hy)
 have hsz : x.size=1+sizes x.ks:=x.size_eq
 have hlc:=lc_le x hdn
 have hlcL : lcL x.ks ≤ lcN x:=by obtain ⟨k,t,n,ks⟩:=x;rw [lcN];show lcL ks ≤ _;omega
 have hln : x.ks.length ≤ 4194304:=by have:=sizes_len x.ks;omega
 obtain ⟨W0,hW0⟩ : ∃ X,(W.alloc (nO x (.slice ax x.ks.length cx))).alloc (.cells #[.slice none 0 0,.slice none 0 0] 28)=X:=⟨_,rfl⟩
 have b0 : Below W.heap.size W W0:=by rw [← hW0];exact bel2 _ _ _
 have s0 : W0.heap.size=W.heap.size+2:=by rw [← hW0];simp
 have m0 : W0.heap[W.heap.size]?=some (nO x (.slice ax x.ks.length cx)):=by rw [← hW0];exact hold _ (by simp) (hnew _ rfl)
 have m1 : W0.heap[W.heap.size+1]?=some (.cells #[.slice none 0 0,.slice none 0 0] 28 (0,0)):=by rw [← hW0];exact hnew _ (by simp)
 have CF:=rform_any x hz tx W0 _ _ _ (hx.bel b0)
 unfold nv at CF
 obtain ⟨⟨a0,a1,a2,a3⟩,_⟩:=box4 m0
 have hfb : ((formP x != 5) && (formP x != 6))=false:=by rcases hf with h | h <;> rw [h] <;> decide
 have hfc : (formP x != 5)=true∧(formP x != 6)=false ∨ (formP x != 5)=false:=by rcases hf with h | h <;> rw [h] <;> decide
 have HQ : Hid (∀ i (h : i < x.ks.length),Four W bx (ox+i * 4) x.ks[i] (fx i)):=qx
 have HRx : Hid (∀ i (h : i < x.ks.length),LAt W (fun b=>b < W.heap.size) (fx i) x.ks[i].ks):=rx
 have HPx : Hid (0 < x.ks.length→ax=some ⟨bx,ox,none⟩∧bx < W.heap.size∧bx < W.heap.size):=px
 have HX : Hid (LAt W (fun b=>b < W.heap.size) (.slice ax x.ks.length cx) x.ks):=hx
 have HTot : Hid (∀ i,sizes (x.ks.take i) ≤ sizes x.ks):=take_sizes_le x.ks
 have HEnd : Hid (∀ (D : Dw) (pp it : Int),dtops (x.ks.drop x.ks.length) pp it D=D):=fun D pp it=>by rw [List.drop_length,dtops]
 have HIt : Hid (∀ i (h : i < x.ks.length),itmS x.ks[i]):=fun i h=>hit _ (List.getElem_mem h)
 have HWk : Hid (∀ y ∈ x.ks,WkA y):=hWk
 have HZ : Hid (x.size=1+sizes x.ks∧lcL x.ks+1 ≤ x.size):=⟨hsz,by omega⟩
 have B0 : Hid (Below W.heap.size W W0):=b0
 have S0 : Hid (W0.heap.size=W.heap.size+2):=s0
 have M0 : Hid (W0.heap[W.heap.size]?=some (nO x (.slice ax x.ks.length cx))):=m0
 have M1 : Hid (W0.heap[W.heap.size+1]?=some (.cells #[.slice none 0 0,.slice none 0 0] 28 (0,0))):=m1
 clear hx qx rx px hk68 hit hshp hdn hWk hsz hlc hlcL b0 s0 m0 m1 tx hf mod
 generalize formP x=fp at *
 unfold nO at hW0
 unfold Nd.v
 go_enter Tryz.func8,Tryz.ntmps8
 go_wp2_with fail
 go_at_call 21
 refine CF.mono ?_
 rintro e W1 ⟨rfl,b1⟩
 have bw1 : Below W.heap.size W W1:=B0.out.trans (b1.mono B0.out.size)
 have n0:=(b1.block _ (gl M0.out)).trans M0.out
 have n1:=(b1.block _ (gl M1.out)).trans M1.out
 have s1 : W.heap.size+2 ≤ W1.heap.size:=by have:=b1.size;have:=S0.out;omega
 clear CF hW0 a0 a1 a2 a3
 obtain ⟨W2,hW2⟩ : ∃ X,W1.alloc (.cells #[.slice none 0 0,.slice none 0 0,.slice none 0 0,.bool false,.bool false,.int .i64 0,.int .i64 0,.slice none 0 0] 62)=X:=⟨_,rfl⟩
 have b2 : Below W1.heap.size W1 W2:=by rw [← hW2];exact bel_a _ _
 have m2 : W2.heap[W1.heap.size]?=some (.cells #[.slice none 0 0,.slice none 0 0,.slice none 0 0,.bool false,.bool false,.int .i64 0,.int .i64 0,.slice none 0 0] 62 (0,0)):=by rw [← hW2];exact hnew _ rfl
 have H2 : Hid (Wv W1.heap.size W.heap.size W2 dw0 ⟨.slice none 0 0,.slice none 0 0,.slice none 0 0,.slice none 0 0⟩):=wv_new (by omega) m2 b2.size
 have bw2 : Below W.heap.size W W2:=bw1.trans (b2.mono (by omega))
 have BW2 : Hid (Below W.heap.size W W2):=bw2
 have N0 : Hid (W2.heap[W.heap.size]?=some (nO x (.slice ax x.ks.length cx))):=(b2.block _ (gl n0)).trans n0
 have N1 : Hid (W2.heap[W.heap.size+1]?=some (.cells #[.slice none 0 0,.slice none 0 0] 28 (0,0))):=(b2.block _ (gl n1)).trans n1
 have S1 : Hid _:=s1
 obtain ⟨⟨a0,a1,a2,a3⟩,_⟩:=box4 N0.out
 clear bw1 bw2 n0 n1 m2 b1 b2
 generalize hwb : W1.heap.size=wb at *
 have HLo : Hid (∀ (X : World) (V2 : Vs),Kw wb ⟨.slice none 0 0,.slice none 0 0,.slice none 0 0,.slice none 0 0⟩ W2 V2 X→Below W.heap.size W X):=fun X V2 q=>BW2.out.trans (H2.out.below q)
 rcases hfc with ⟨hf1,hf2⟩ | hf1
 all_goals
  go_wp2
  clear hW2
  go_loopw [7,8] (fun v7 v8 wo=>∃ (k : Nat) (D : Dw) (VV : Vs),v8 = .int .i64 (k : Nat)∧v7 = .int .i64 (1+(sizes (x.ks.take k) : Nat))∧k ≤ x.ks.length∧Hid (Wv wb W.heap.size wo D VV∧Kw wb ⟨.slice none 0 0,.slice none 0 0,.slice none 0 0,.slice none 0 0⟩ W2 VV wo∧dtops x.ks 1 0 dw0=dtops (x.ks.drop k) (1+(sizes (x.ks.take k) : Nat)) (k : Nat) D∧D.tops.length ≤ sizes (x.ks.take k)∧D.exs.length ≤ sizes (x.ks.take k)∧D.uses=[]∧D.locs=[]∧wo.heap[W.heap.size]?=some (nO x (.slice ax x.ks.length cx))∧wo.heap[W.heap.size+1]?=some (.cells #[.slice none 0 0,.slice none 0 0] 28 (0,0)))) (fun _ v8 _=>x.ks.length - (intOf v8).toNat)
  case atStart=>exact ⟨0,dw0,_,rfl,by simp [sizes_nil],by omega,H2.out,Kw.refl _ _ _,by simp [sizes_nil],Nat.zero_le _,Nat.zero_le _,rfl,rfl,N0.out,N1.out⟩
  case round =>
   obtain ⟨k,D,VV,rfl,rfl,hk,H⟩:=hrel
   clear a0 a1 a2 a3
   obtain ⟨h1,h2,h3,h4,h5,h6,h7,h8,h9⟩:=H.out
   obtain ⟨⟨a0,a1,a2,a3⟩,_⟩:=box4 h8
   by_cases hkl : k < x.ks.length
   ·obtain ⟨rfl,hb1,hb2⟩:=HPx.out (by omega)
    have hd : (k : Int) < (x.ks.length : Int):=by omega
    have HFo : Hid (∀ (X : World) (V2 : Vs),Kw wb ⟨.slice none 0 0,.slice none 0 0,.slice none 0 0,.slice none 0 0⟩ W2 V2 X→Four X bx (ox+k * 4) x.ks[k] (fx k)):=fun X V2 q=>(HQ.out k hkl).of_block ((HLo.out X V2 q).block bx hb1)
    have HKd : Hid (∀ (X : World) (V2 : Vs),Kw wb ⟨.slice none 0 0,.slice none 0 0,.slice none 0 0,.slice none 0 0⟩ W2 V2 X→LAt X (fun b=>b < W.heap.size) (fx k) x.ks[k].ks):=fun X V2 q=>(HRx.out k hkl).bel (HLo.out X V2 q)
    obtain ⟨y1,y2,y3,y4⟩:=HFo.out _ _ h2
    have HSz : Hid (sizes (x.ks.take (k+1))=sizes (x.ks.take k)+x.ks[k].size):=take_sizes x.ks hkl
    have HStp : Hid (dtops x.ks 1 0 dw0=dtops (x.ks.drop (k+1)) (1+(sizes (x.ks.take k) : Nat)+x.ks[k].size) ((k : Int)+1) (dtop x.ks[k] (1+(sizes (x.ks.take k) : Nat)) (k : Nat) D)):=by
     show _=_
     rw [h3,List.drop_eq_getElem_cons hkl,dtops]
    have htk:=HTot.out (k+1)
    rw [HSz.out] at htk
    obtain ⟨hz1,_⟩:=HZ.out
    have szx:=x.ks[k].size_pos
    have hpb : 0 ≤ 1+((sizes (x.ks.take k) : Nat) : Int)∧1+((sizes (x.ks.take k) : Nat) : Int)+(x.ks[k].size : Nat) ≤ 16777216∧x.ks[k].size ≤ 4194304:=⟨by omega,by push_cast;omega,by omega⟩
    obtain ⟨hp1,hp2,hp3⟩:=hpb
    have CT:=wtops_any x.ks[k] (1+(sizes (x.ks.take k) : Nat)) (k : Nat) (HIt.out k hkl) hp1 hp2 hp3 wb W.heap.size wr D VV (fx k) h1 (HKd.out _ _ h2) (by omega) (by omega)
    unfold Nd.v at CT
    have H1 : Hid (Wv wb W.heap.size wr D VV∧Kw wb ⟨.slice none 0 0,.slice none 0 0,.slice none 0 0,.slice none 0 0⟩ W2 VV wr∧D.tops.length ≤ sizes (x.ks.take k)∧D.exs.length ≤ sizes (x.ks.take k)∧D.uses=[]∧D.locs=[]∧wr.heap[W.heap.size]?=some (nO x (.slice (some ⟨bx,ox,none⟩) x.ks.length cx))∧wr.heap[W.heap.size+1]?=some (.cells #[.slice none 0 0,.slice none 0 0] 28 (0,0))):=⟨h1,h2,h4,h5,h6,h7,h8,h9⟩
    clear H h1 h2 h3 h4 h5 h6 h7 h8 h9 hb2 htk hz1
    generalize x.ks[k]=y at *
    generalize fx k=vy at *
    generalize hsk : sizes (x.ks.take k)=sk at *
    have HNx : Hid (1+((sk+y.size : Nat) : Int)=1+(sk : Nat)+(y.size : Nat)):=by show _=_;push_cast;omega
    generalize 1+(sk : Int)=pk at *
    go_wp2_with fail
    go_at_call 22
    refine CT.mono ?_
    rintro e W3 ⟨rfl,V3,k1,k2⟩
    clear CT y1 y2 y3 y4 a0 a1 a2 a3
    obtain ⟨g1,g2,g3,g4,g5,g6,g7,g8⟩:=H1.out
    have m3:=g1.keptN' k2 g7
    have m4:=g1.kept k2 g8 (by decide)
    have kk:=g2.trans k2
    obtain ⟨⟨a0,a1,a2,a3⟩,_⟩:=box4 m3
    obtain ⟨y1,y2,y3,y4⟩:=HFo.out _ _ kk
    have CS:=rsize_any y W3 _ _ (HKd.out _ _ kk) (by omega)
    have HF : Hid (∀ X,Below W3.heap.size W3 X→Wv wb W.heap.size X (dtop y pk (k : Nat) D) V3∧Kw wb ⟨.slice none 0 0,.slice none 0 0,.slice none 0 0,.slice none 0 0⟩ W2 V3 X∧dtops x.ks 1 0 dw0=dtops (x.ks.drop (k+1)) (pk+(y.size : Nat)) ((k+1 : Nat) : Int) (dtop y pk (k : Nat) D)∧(dtop y pk (k : Nat) D).tops.length ≤ sk+y.size∧(dtop y pk (k : Nat) D).exs.length ≤ sk+y.size∧(dtop y pk (k : Nat) D).uses=[]∧(dtop y pk (k : Nat) D).locs=[]∧X.heap[W.heap.size]?=some (nO x (.slice (some ⟨bx,ox,none⟩) x.ks.length cx))∧X.heap[W.heap.size+1]?=some (.cells #[.slice none 0 0,.slice none 0 0] 28 (0,0))):=fun X b =>
     ⟨k1.bel b,kk.trans (Kw.of b),by rw [HStp.out];rfl,by have:=(dtop_len y pk (k : Nat) D).1;omega,by have:=(dtop_len y pk (k : Nat) D).2;omega,by rw [(dtop_ul y pk (k : Nat) D).1,g5],by rw [(dtop_ul y pk (k : Nat) D).2,g6],(b.block _ (gl m3)).trans m3,(b.block _ (gl m4)).trans m4⟩
    unfold Nd.v at CS
    clear H1 g1 g2 g3 g4 g5 g6 g7 g8 m3 m4 kk k1 k2
    go_wp2_with fail
    go_at_call 12
    refine CS.mono ?_
    rintro e W9 ⟨rfl,b9⟩
    have HF2:=HF.out W9 b9
    have HF3 : Hid _:=HF2
    clear CS y1 y2 y3 y4 a0 a1 a2 a3 HF HF2 b9
    go_wp2
    go_roundw
    case rel=>exact ⟨k+1,_,V3,by simp,by rw [HSz.out,HNx.out],by omega,by show _∧_;rw [HSz.out,HNx.out];exact HF3.out⟩
    case measure=>simp [intOf];omega
   ·obtain rfl : k=x.ks.length:=by omega
    have hd : ¬ ((x.ks.length : Nat) : Int) < ((x.ks.length : Nat) : Int):=by omega
    have htk:=HTot.out x.ks.length
    obtain ⟨hz1,hz2⟩:=HZ.out
    have HD : Hid (dRes x=dkids x.ks (0+1) D):=by show _=_;unfold dRes;rw [h3,HEnd.out];rfl
    have CK:=wkids_any x HWk.out (.slice ax x.ks.length cx) 0 h1 (HX.out.bel (HLo.out _ _ h2)) (by omega) (by rw [h6];show 0+_ ≤ _;omega) (by rw [h7];show 0+_ ≤ _;omega) (by omega) (by omega) hz
    unfold Nd.v at CK
    rw [← HD.out] at CK
    have H1 : Hid (Wv wb W.heap.size wr D VV∧Kw wb ⟨.slice none 0 0,.slice none 0 0,.slice none 0 0,.slice none 0 0⟩ W2 VV wr∧wr.heap[W.heap.size+1]?=some (.cells #[.slice none 0 0,.slice none 0 0] 28 (0,0))):=⟨h1,h2,h9⟩
    clear H h1 h2 h3 h4 h5 h6 h7 h8 h9 htk hz1 hz2
    go_wp2_with fail
    go_at_call 23
    refine CK.mono ?_
    rintro e W3 ⟨rfl,V3,k1,k2⟩
    clear CK a0 a1 a2 a3
    obtain ⟨g1,g2,g8⟩:=H1.out
    have m4:=g1.kept k2 g8 (by decide)
    have kk:=g2.trans k2
    have bw3:=HLo.out _ _ kk
    have s1:=S1.out
    obtain ⟨⟨r0,r1,_,_,_,r5,r6,_⟩,_⟩:=box8 k1.r
    have bws : Hid (∀ a b : Value,Below W.heap.size W ((W3.setCell ⟨W.heap.size+1,0,none⟩ a).setCell ⟨W.heap.size+1,1,none⟩ b)):=fun a b=>bel_set (bel_set bw3 (by omega)) (by omega)
    have d0 : W3.cell? ⟨W.heap.size+1,0,none⟩=some (.slice none 0 0):=by simp [World.cell?,m4]
    have d1 : W3.cell? ⟨W.heap.size+1,1,none⟩=some (.slice none 0 0):=by simp [World.cell?,m4]
    have fz0 : W3.frozen? ⟨W.heap.size+1,0,none⟩=false:=by simp [World.frozen?,m4]
    have fz1 : W3.frozen? ⟨W.heap.size+1,1,none⟩=false:=by simp [World.frozen?,m4]
    have N3 : Hid _:=m4
    by_cases her : (dRes x).er=0
    ·obtain ⟨at_,ct,hvt⟩:=rw_form k1.t
     obtain ⟨au,cu,hvu⟩:=rw_form k1.u
     rw [hvt] at r0
     rw [hvu] at r1
     have hs : ∀ k,k ≠ W.heap.size+1→((W3.setCell ⟨W.heap.size+1,0,none⟩ (.slice at_ (dRes x).tops.length ct)).setCell ⟨W.heap.size+1,1,none⟩ (.slice au (dRes x).uses.length cu)).drew.heap[k]?=W3.heap[k]?:=fun k hk=>(Below.heap_setCell _ _ _ _ hk).trans (Below.heap_setCell _ _ _ _ hk)
     have HR : Hid (RdA x W (.returned (.tuple #[.agg #[(.slice at_ (dRes x).tops.length ct),(.slice au (dRes x).uses.length cu)],.int .i64 0,.int .i64 0])) ((W3.setCell ⟨W.heap.size+1,0,none⟩ (.slice at_ (dRes x).tops.length ct)).setCell ⟨W.heap.size+1,1,none⟩ (.slice au (dRes x).uses.length cu)).drew):=by
      refine ⟨(bws.out _ _).drew,?_⟩
      rw [if_pos her]
      have tt:=k1.t
      have uu:=k1.u
      rw [hvt] at tt
      rw [hvu] at uu
      refine ⟨_,_,rfl,rw_keep tt fun k hk=>?_,rw_keep uu fun k hk=>?_⟩
      ·obtain ⟨cur,hb⟩:=own_cells tt hk
       refine hs k (fun e=>?_)
       rw [e,m4] at hb;injection hb with hb;injection hb with _ hb;exact absurd hb (by decide)
      ·obtain ⟨cur,hb⟩:=own_cells uu hk
       refine hs k (fun e=>?_)
       rw [e,m4] at hb;injection hb with hb;injection hb with _ hb;exact absurd hb (by decide)
     have e6 : ((dRes x).er == 0)=true:=by simpa using her
     rw [her] at r6
     clear H1 g1 g2 g8 m4 kk bw3 k1 k2 hvt hvu hs her r5 e6 HD
     go_wp2_with fail
     have su : (fun X : World=>X.cell? ⟨wb,0,none⟩=some (.slice at_ (dRes x).tops.length ct)∧X.cell? ⟨wb,1,none⟩=some (.slice au (dRes x).uses.length cu)) W3.drew:=⟨r0,r1⟩
     refine wp_region_U (u:=9) (S:=fun X=>X.cell? ⟨wb,0,none⟩=some (.slice at_ (dRes x).tops.length ct)∧X.cell? ⟨wb,1,none⟩=some (.slice au (dRes x).uses.length cu)) (by kernel_rfl) ?_
     change wpAnyU _ _ _ _ _ _ _ _ _ (World.drew _)
     refine uT 0 (.pointer (some ⟨wb,0,none⟩)) su ?_
     refine uT 1 (.pointer (some ⟨wb,0,none⟩)) su ?_
     refine uT 2 (.pointer (some ⟨wb,0,none⟩)) su ?_
     refine uT 3 (.slice at_ (dRes x).tops.length ct) su ?_
     refine uT 4 (.pointer (some ⟨wb,0,none⟩)) su ?_
     refine uT 5 (.pointer (some ⟨wb,0,none⟩)) su ?_
     refine uT 6 (.pointer (some ⟨wb,1,none⟩)) su ?_
     refine uT 7 (.slice au (dRes x).uses.length cu) su ?_
     refine uT 8 (.agg #[(.slice at_ (dRes x).tops.length ct),(.slice au (dRes x).uses.length cu)]) su ?_
     refine U_end (by kernel_rfl) ?_
     refine wpAny_chain [_,_,_] [9,10,11] _ _ _ _ (by kernel_rfl) rfl (by decide) ?_
     clear su
     go_wp2
     exact bodyPost_ret (res_sc Tryz.results8 (set2_same _ _ N3.out) rfl rfl rfl) rfl HR.out
    ·have e6 : ((dRes x).er != 0)=true:=by simpa using her
     have HR : Hid (RdA x W (.returned (.tuple #[.agg #[.slice none 0 0,.slice none 0 0],.int .i64 (dRes x).at_,.int .i64 (dRes x).er])) ((W3.setCell ⟨W.heap.size+1,0,none⟩ (.slice none 0 0)).setCell ⟨W.heap.size+1,1,none⟩ (.slice none 0 0)).drew):=by
      refine ⟨(bws.out _ _).drew,?_⟩
      rw [if_neg her]
     clear H1 g1 g2 g8 m4 kk bw3 k1 k2 her r0 r1 HD
     go_wp2_with fail
     go_region
     go_wp2
     exact bodyPost_ret (res_sc Tryz.results8 (set2_same _ _ N3.out) rfl rfl rfl) rfl HR.out
theorem resolve_no (x : Nd) (v : Value) (W : World) (hx : LAt W (fun b=>b < W.heap.size) v x.ks) (hz : x.size ≤ 4194304) (tx : x.tx) (he : WEnv W) (hf : formP x ≠ 5∧formP x ≠ 6) :
 Calls Tryz.prog 7 #[x.v v] W fun e W'=>e = .returned (.tuple #[.agg #[.slice none 0 0,.slice none 0 0],.int .i64 0,.int .i64 50])∧Below W.heap.size W W':=by
 obtain ⟨av,cv,rfl⟩:=hx.sl
 obtain ⟨W0,hW0⟩ : ∃ X,(W.alloc (nO x (.slice av x.ks.length cv))).alloc (.cells #[.slice none 0 0,.slice none 0 0] 28)=X:=⟨_,rfl⟩
 have b0 : Below W.heap.size W W0:=by rw [← hW0];exact bel2 _ _ _
 have m0 : W0.heap[W.heap.size]?=some (nO x (.slice av x.ks.length cv)):=by rw [← hW0];exact hold _ (by simp) (hnew _ rfl)
 have m1 : W0.heap[W.heap.size+1]?=some (.cells #[.slice none 0 0,.slice none 0 0] 28 (0,0)):=by rw [← hW0];exact hnew _ (by simp)
 have CF:=form_any x W0 _ _ (hx.bel b0) hz tx (he.bel b0)
 obtain ⟨⟨a0,a1,a2,a3⟩,_⟩:=box4 m0
 have e5 : (formP x != 5)=true:=by simpa using hf.1
 have e6 : (formP x != 6)=true:=by simpa using hf.2
 generalize formP x=fp at *
 have B0 : Hid _:=b0
 have M1 : Hid _:=m1
 clear b0 m0 m1 hx he tx hf
 unfold nO at hW0
 unfold Nd.v at CF ⊢
 go_enter Tryz.func7,Tryz.ntmps7
 go_wp2_with fail
 go_at_call 18
 refine CF.mono ?_
 rintro e W1 ⟨rfl,b1⟩
 have bw1 : Below W.heap.size W W1:=B0.out.trans (b1.mono B0.out.size)
 have n1:=(b1.block _ (gl M1.out)).trans M1.out
 have d0 : W1.cell? ⟨W.heap.size+1,0,none⟩=some (.slice none 0 0):=by simp [World.cell?,n1]
 have d1 : W1.cell? ⟨W.heap.size+1,1,none⟩=some (.slice none 0 0):=by simp [World.cell?,n1]
 have fz : ∀ i,W1.frozen? ⟨W.heap.size+1,i,none⟩=false:=fun i=>by simp [World.frozen?,n1]
 have N1 : Hid _:=n1
 have BW : Hid _:=bw1
 clear CF hW0 a0 a1 a2 a3 n1 bw1 b1
 go_wp2
 refine bodyPost_ret (res_sc Tryz.results7 (set2_same _ _ N1.out) rfl rfl rfl) rfl ?_
 exact ⟨rfl,bel_set (bel_set BW.out (by omega)) (by omega)⟩
theorem bl_eqT (a nm : ByteArray) (l : List UInt8) (h : a.toList=l) : eqT a nm=(nm.toList == l):=by
 unfold eqT
 rw [h]
 exact Bool.eq_iff_iff.2 ⟨fun w=>by simpa using (by simpa using w : l=nm.toList).symm,fun w=>by simpa using (by simpa using w : nm.toList=l).symm⟩
theorem blt_bl : Blt (blN.map bdc):=by
 intro nm
 unfold bltB
 have e1:=bl_eqT ⟨#[112,97,114,115,101]⟩ nm [112,97,114,115,101] (ByteArray.toList_eq _)
 have e2:=bl_eqT ⟨#[112,114,105,110,116]⟩ nm [112,114,105,110,116] (ByteArray.toList_eq _)
 have e3:=bl_eqT ⟨#[112,117,115,104]⟩ nm [112,117,115,104] (ByteArray.toList_eq _)
 have e4:=bl_eqT ⟨#[114,101,97,100]⟩ nm [114,101,97,100] (ByteArray.toList_eq _)
 have e5:=bl_eqT ⟨#[116,101,120,116]⟩ nm [116,101,120,116] (ByteArray.toList_eq _)
 simp only [fnd1,blN,List.map_cons,List.map_nil,List.find?_cons,List.find?_nil,bdc,e1,e2,e3,e4,e5,List.any_cons,List.any_nil]
 cases (nm.toList == [112,97,114,115,101]) <;> cases (nm.toList == [112,114,105,110,116]) <;> cases (nm.toList == [112,117,115,104]) <;> cases (nm.toList == [114,101,97,100]) <;> cases (nm.toList == [116,101,120,116]) <;> simp
theorem ptop1_65 {y : Nd} (h : one65 65 y) (p it : Int) : ptop1 y p it=[]:=by
 obtain ⟨t,n,a,rfl,_⟩:=h
 unfold ptop1
 rw [if_pos]
 have e : dclN (.mk 65 t n [a])=⟨#[]⟩:=by
  rw [dclN,if_neg (by decide),if_neg (by decide),if_neg (by decide)]
 rw [e]
 exact ByteArray.toList_eq _
theorem ptopL_65 : ∀ (l : List Nd) (p it : Int),(∀ y ∈ l,one65 65 y)→ptopL l p it=[]
 | [],p,it,_=>rfl
 | y :: l,p,it,h=>by
  rw [ptopL,ptop1_65 (h y (by simp)),ptopL_65 l _ _ (fun z hz=>h z (by simp [hz]))]
  rfl
theorem ptJ_eq {x : Nd} (h : itm x) (p it : Int) : ptJ x p it=ptI x p it:=by
 obtain ⟨k,t,n,ks⟩:=x
 show ptop1 _ p it ++ (if dcK k=true then ptopL ks (p+1) it else [])=ptop1 _ p it ++ (if holdK k=true then ptopL ks (p+1) it else [])
 congr 1
 by_cases h64 : k=64
 ·subst h64
  have e : ptopL ks (p+1) it=[]:=by
   rcases h with (h | ⟨k',_,_,_,e,hk,_⟩) | ⟨k',_,_,_,e,hk,_⟩ | ⟨_,_,_,e,_⟩ | ⟨_,_,ks',e,h⟩
   ·exact absurd rfl h.1.no.2.2.2.2.2.2.1
   ·injection e with e;subst e;rcases hk with w | w | w <;> cases w
   ·injection e with e;subst e;rcases hk with w | w <;> cases w
   ·injection e with e;cases e
   ·injection e with _ _ _ e;subst e;exact ptopL_65 _ _ _ h
  rw [e]
  simp
 ·have e : dcK k=holdK k:=by
   unfold dcK holdK
   refine Bool.eq_iff_iff.2 ?_
   rw [decide_eq_true_iff,decide_eq_true_iff]
   constructor
   ·rintro (w | w | w)
    ·exact .inr (.inl w)
    ·exact .inr (.inr (.inl w))
    ·exact .inl w
   ·rintro (w | w | w | w)
    ·exact .inr (.inr w)
    ·exact .inl w
    ·exact .inr (.inl w)
    ·exact absurd w h64
  rw [e]
theorem ptJL_eq : ∀ (l : List Nd) (p it : Int),(∀ y ∈ l,itmS y)→ptJL l p it=ptL l p it
 | [],p,it,_=>rfl
 | y :: l,p,it,h=>by
  rw [ptJL,ptL,ptJ_eq (itmS_itm (h y (by simp))),ptJL_eq l _ _ (fun z hz=>h z (by simp [hz]))]
theorem rresolve_no (x : Nd) (v : Value) (W : World) (hx : LAt W (fun b=>b < W.heap.size) v x.ks) (hz : x.size ≤ 4194304) (tx : x.tx) (hf : formP x ≠ 5∧formP x ≠ 6) :
 Calls Tryz.prog 8 #[x.v v] W fun e W'=>e = .returned (.tuple #[.agg #[.slice none 0 0,.slice none 0 0],.int .i64 0,.int .i64 50])∧Below W.heap.size W W':=by
 obtain ⟨av,cv,rfl⟩:=hx.sl
 obtain ⟨W0,hW0⟩ : ∃ X,(W.alloc (nO x (.slice av x.ks.length cv))).alloc (.cells #[.slice none 0 0,.slice none 0 0] 28)=X:=⟨_,rfl⟩
 have b0 : Below W.heap.size W W0:=by rw [← hW0];exact bel2 _ _ _
 have m0 : W0.heap[W.heap.size]?=some (nO x (.slice av x.ks.length cv)):=by rw [← hW0];exact hold _ (by simp) (hnew _ rfl)
 have m1 : W0.heap[W.heap.size+1]?=some (.cells #[.slice none 0 0,.slice none 0 0] 28 (0,0)):=by rw [← hW0];exact hnew _ (by simp)
 have CF:=rform_any x hz tx W0 _ _ _ (hx.bel b0)
 unfold nv at CF
 obtain ⟨⟨a0,a1,a2,a3⟩,_⟩:=box4 m0
 have e5 : (formP x != 5)=true:=by simpa using hf.1
 have e6 : (formP x != 6)=true:=by simpa using hf.2
 generalize formP x=fp at *
 have B0 : Hid _:=b0
 have M1 : Hid _:=m1
 clear b0 m0 m1 hx tx hf
 unfold nO at hW0
 unfold Nd.v
 go_enter Tryz.func8,Tryz.ntmps8
 go_wp2_with fail
 go_at_call 21
 refine CF.mono ?_
 rintro e W1 ⟨rfl,b1⟩
 have bw1 : Below W.heap.size W W1:=B0.out.trans (b1.mono B0.out.size)
 have n1:=(b1.block _ (gl M1.out)).trans M1.out
 have d0 : W1.cell? ⟨W.heap.size+1,0,none⟩=some (.slice none 0 0):=by simp [World.cell?,n1]
 have d1 : W1.cell? ⟨W.heap.size+1,1,none⟩=some (.slice none 0 0):=by simp [World.cell?,n1]
 have fz : ∀ i,W1.frozen? ⟨W.heap.size+1,i,none⟩=false:=fun i=>by simp [World.frozen?,n1]
 have N1 : Hid _:=n1
 have BW : Hid _:=bw1
 clear CF hW0 a0 a1 a2 a3 n1 bw1 b1
 go_wp2
 refine bodyPost_ret (res_sc Tryz.results8 (set2_same _ _ N1.out) rfl rfl rfl) rfl ?_
 exact ⟨rfl,bel_set (bel_set BW.out (by omega)) (by omega)⟩
def okX (x : Nd) : Prop:=(formP x=5 ∨ formP x=6)∧(dRes x).er=0
def SAns (x : Nd) (W : World) (e : Ending) (W' : World) : Prop :=
 Below W.heap.size W W'∧((okX x∧∃ vt vu,e = .returned (.tuple #[.agg #[vt,vu],.int .i64 0,.int .i64 0])∧W'.ownsRow W.heap.size 43 5 vt (dRes x).tops.length (tpV (dRes x).tops)∧W'.ownsRow W.heap.size 37 5 vu (dRes x).uses.length (usV (dRes x).uses))
  ∨ (¬ okX x∧∃ a b,b ≠ 0∧e = .returned (.tuple #[.agg #[.slice none 0 0,.slice none 0 0],.int .i64 a,.int .i64 b])))
theorem rresolve_any (x : Nd) (v : Value) (W : World) (hx : LAt W (fun b=>b < W.heap.size) v x.ks) (hz : x.size ≤ 4194304) (tx : x.tx) : Calls Tryz.prog 8 #[x.v v] W (SAns x W):=by
 by_cases hf : formP x=5 ∨ formP x=6
 ·refine (rresolve_ok x v W hx hz tx hf).mono ?_
  rintro e W' ⟨b,h⟩
  refine ⟨b,?_⟩
  by_cases her : (dRes x).er=0
  ·rw [if_pos her] at h
   exact .inl ⟨⟨hf,her⟩,h⟩
  ·rw [if_neg her] at h
   exact .inr ⟨fun w=>her w.2,_,_,her,h⟩
 ·refine (rresolve_no x v W hx hz tx ⟨fun w=>hf (.inl w),fun w=>hf (.inr w)⟩).mono ?_
  rintro e W' ⟨rfl,b⟩
  exact ⟨b,.inr ⟨fun w=>hf w.1,0,50,by decide,rfl⟩⟩
theorem shp_pre {mod : Bool} {x : Nd} (h : Shp mod x) : Pre x:=⟨shp_some h,shp_exp h⟩
theorem tx_kid {x y : Nd} (h : x.tx) (hy : y ∈ x.ks) : y.tx:=fun z hz=>h z (by rw [Nd.flat_eq];exact List.mem_cons_of_mem _ (flats_mem hy hz))
theorem tx_self {x : Nd} (h : x.tx) : x.t.size ≤ 4194304:=h x (by rw [Nd.flat_eq];simp)
theorem shp_wn {mod : Bool} (x : Nd) : Shp mod x→x.tx→Wn x:=by
 induction x using Nd.ind with
 | h x ih=>exact fun h t=>.mk x (shp_pre h) (tx_self t) fun y hy=>ih y hy (shp_kid h hy) (tx_kid t hy)
theorem dcl_size {x : Nd} (h : x.tx) : (dclN x).size ≤ 4194304:=by
 have h1:=tx_self h
 have h2 : ∀ y ∈ x.ks,y.t.size ≤ 4194304:=fun y hy=>tx_self (tx_kid h hy)
 obtain ⟨k,t,n,ks⟩:=x
 have h1 : t.size ≤ 4194304:=h1
 have h2 : ∀ y ∈ ks,y.t.size ≤ 4194304:=h2
 have hd : dflt.size ≤ 4194304:=by decide
 have he : (⟨#[]⟩ : ByteArray).size ≤ 4194304:=by decide
 rw [dclN.eq_def]
 dsimp only
 split
 ·exact h1
 ·split
  ·cases ks with
   | nil=>exact he
   | cons a r=>exact h2 a (by simp)
  ·split
   ·cases ks with
    | nil=>exact hd
    | cons a r =>
     dsimp only
     split
     ·exact he
     ·exact hd
   ·exact he
theorem dflK_mod {k : Int} (h : k=68 ∨ k=69) : DflK k:=by
 rcases h with rfl | rfl <;> exact ⟨by unfold plainK;decide,by decide,by decide,by decide,by decide,by decide,by decide,by decide⟩
theorem pv_res (x : Nd) (hf : formP x=5 ∨ formP x=6) :
 (∃ g,pv ((ptJL x.ks 1 0).map dc1) [(ptJL x.ks 1 0).map dc1,blN.map bdc] 0 ⟨#[]⟩ false false x 0 ([],[]) = .ok (g,(dRes x).uses)∧(dRes x).er=0∧(dRes x).tops=ptJL x.ks 1 0)
 ∨ ((∃ e,pv ((ptJL x.ks 1 0).map dc1) [(ptJL x.ks 1 0).map dc1,blN.map bdc] 0 ⟨#[]⟩ false false x 0 ([],[]) = .error e)∧(dRes x).er ≠ 0):=by
 obtain ⟨hk,hit⟩:=form_items hf
 obtain ⟨k,t,n,l⟩:=x
 have hk : k=68 ∨ k=69:=hk
 have hit : ∀ y ∈ l,itmS y:=hit
 have e : ptJL l 1 0=ptL l 1 0:=ptJL_eq l 1 0 hit
 show (∃ g,pv ((ptJL l 1 0).map dc1) _ _ _ _ _ _ _ _=_∧_) ∨ _
 have h:=scope_same k t n l hit (dflK_mod hk) (by rcases hk with rfl | rfl <;> decide) (by omega) (by omega) (blN.map bdc) blt_bl 0 ⟨#[]⟩
 rw [← e] at h
 rcases h with ⟨g,us,h1,h2,h3,h4⟩ | ⟨h1,h2⟩
 ·left
  refine ⟨g,?_,h2,h3⟩
  rw [show (dRes (.mk k t n l)).uses=us from h4]
  exact h1
 ·exact .inr ⟨h1,h2⟩
theorem presolve_any (x : Nd) (v : Value) (W : World) (hx : LAt W (fun b=>b < W.heap.size) v x.ks) (hz : x.size ≤ 4194304) (tx : x.tx) (he : WEnv W) : Calls Tryz.prog 7 #[x.v v] W (SAns x W):=by
 by_cases hf : formP x=5 ∨ formP x=6
 ·obtain ⟨mod,hs,_⟩:=form_shape hf
  refine (resolve_ok x v W hx hz tx he hf (shp_wn x hs tx) (fun y hy=>⟨shp_pre (shp_kid hs hy),dcl_size (tx_kid tx hy),fun z hz=>⟨shp_pre (shp_kid (shp_kid hs hy) hz),dcl_size (tx_kid (tx_kid tx hy) hz)⟩⟩)).mono ?_
  rintro e W' ⟨b,h⟩
  refine ⟨b,?_⟩
  rcases pv_res x hf with ⟨g,h1,h2,h3⟩ | ⟨⟨q,h1⟩,h2⟩
  ·rw [h1] at h
   obtain ⟨vt,vu,e1,e2,e3⟩:=h
   rw [← h3] at e2
   exact .inl ⟨⟨hf,h2⟩,vt,vu,e1,e2,e3⟩
  ·rw [h1] at h
   exact .inr ⟨fun w=>h2 w.2,_,_,h.1,h.2⟩
 ·refine (resolve_no x v W hx hz tx he ⟨fun w=>hf (.inl w),fun w=>hf (.inr w)⟩).mono ?_
  rintro e W' ⟨rfl,b⟩
  exact ⟨b,.inr ⟨fun w=>hf w.1,0,50,by decide,rfl⟩⟩
end Go.Proofs.YtfcocoadaajbjaaGreatDoor
