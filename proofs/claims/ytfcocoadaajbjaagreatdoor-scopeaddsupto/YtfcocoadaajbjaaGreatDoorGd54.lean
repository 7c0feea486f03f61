/- Own text. All trees of a tree,one behind the other: the document's answer. Flat of a tree: the list that a call of it leaves. ScopeAdds: the statement's walk. ScopeAdds: the walk as the law asks it. -/
import Derived.Test.YtfcocoadaajbjaaGreatDoorGd04
import Derived.Test.YtfcocoadaajbjaaGreatDoorGd48
import Derived.Test.YtfcocoadaajbjaaGreatDoorGd53
import Derived.Test.YtfcocoadaajbjaaGreatDoorGd33
set_option linter.unusedVariables false
set_option maxRecDepth 100000
set_option maxHeartbeats 8000000
namespace Go.Proofs.YtfcocoadaajbjaaGreatDoor
open Go.RowKit
theorem LAt.old {w w' : World} {S : Nat→Prop} {v : Value} {ks : List Nd} {base : Nat} (h : LAt w S v ks) (hS : ∀ b,S b→b < base) (k : Below base w w') : LAt w' S v ks:=h.keep k.size (fun b hb _=>k.block b (hS b hb))
theorem LAt.keep' {w w' : World} {S : Nat→Prop} {v : Value} {ks : List Nd} {base : Nat} (h : LAt w' S v ks) (hS : ∀ b,S b→b < base) (k : Below base w w') (hb : base ≤ w.heap.size) : LAt w S v ks:=by
 induction h with
 | nil a c=>exact .nil a c
 | row bl o c ks f hS' hl h4 hk ih=>exact .row bl o c ks f hS' (by have:=hS bl hS';omega) (fun i hi=>(h4 i hi).of_block (k.block bl (hS bl hS')).symm) ih
theorem grow_trans {a b c : World} {r s : Option Nat} (h : a.grownBy b r) (k : b.grownBy c s) (hs : ∀ g,s=some g→r=some g ∨ a.heap.size ≤ g) : a.grownBy c r :=
 ⟨k.os.trans h.os,k.tape.trans h.tape,k.output.trans h.output,Nat.le_trans h.size k.size,fun i hi hn =>
  (k.block i (Nat.lt_of_lt_of_le hi h.size) (fun e=>by
   rcases hs i e.symm with e' | e'
   ·exact hn e'.symm
   ·omega)).trans (h.block i hi hn)⟩
theorem grow_alloc (w : World) (o : Obj) (r : Option Nat) : w.grownBy (w.alloc o) r:=⟨rfl,rfl,rfl,by simp,fun i hi _=>Below.heap_alloc w o i hi⟩
theorem flat_any (x : Nd) : ∀ (w : World) (S : Nat→Prop) (v vl : Value) (L : List (Nd × Value)) (base n : Nat),LAt w S v x.ks→(∀ b,S b→b < base)→base ≤ w.heap.size→w.ownsRow base 24 4 vl n (rowN L)→n+x.size ≤ 4194304 →
 Calls Tryz.prog 10 #[x.v v,vl] w fun e w'=>∃ (vl' : Value) (M : List (Nd × Value)),e = .returned vl'∧w'.ownsRow base 24 4 vl' (n+x.size) (rowN (L ++ M))∧M.map (·.1)=x.flat∧(∀ p ∈ M,LAt w S p.2 p.1.ks)∧w.grownBy w' vl.ownBlock∧(∀ g,vl'.ownBlock=some g→vl.ownBlock=some g ∨ w.heap.size ≤ g):=by
 induction x using Nd.ind with
 | h x ih =>
  intro w S v vl L base n hx hS hbase own zx
  obtain ⟨ax,cx,bx,ox,fx,rfl,px,qx,rx⟩:=hx.op
  have zs:=x.size_eq
  have lx:=sizes_len x.ks
  have lx2 : x.ks.length ≤ 4194304:=by omega
  obtain ⟨i0,hi0,hz0,hz1,hz2⟩:=info_parts info_nd
  have tot:=take_sizes_le x.ks
  unfold Nd.v
  go_enter Tryz.func10,Tryz.ntmps10
  go_wp2_with (at_builtin;refine wpList_append_lies _ (by rfl) _ _ _ (by rfl) base 24 i0 _ 4 56 Tryz.underlying22 hi0 hz0 hz1 hz2 rfl (by omega) _ n (rowN L) (by rfl) ((own.alloc _).alloc _) ⟨w.heap.size+1,0,none⟩ 1 1 [.int .i64 x.k,.string x.t,.int .i64 x.n,.slice ax x.ks.length cx] (by rfl) (by rfl) (World.news_of_block (cs:=#[.int .i64 x.k,.string x.t,.int .i64 x.n,.slice ax x.ks.length cx]) (t:=24) (fr:=(0,0)) (hnew _ (by simp))) (by simp [Value.oneCell']) (by omega) (by unfold maxLen;omega) (by omega) (by simp;omega) (w.heap.size+2) (by simp) ?_;intro gg cap W3 hown3 hgrow hat hlt3)
  have olt:=row_lt own
  have b3 : w.grownBy W3 vl.ownBlock:=grow_trans (grow_trans (grow_alloc _ _ _) (grow_alloc _ _ none) (fun g e=>by cases e)) hgrow (fun g e=>.inl e)
  have hat2 : ∀ g,(Value.slice (some ⟨gg,0,none⟩) (n+1) cap).ownBlock=some g→vl.ownBlock=some g ∨ w.heap.size ≤ g:=fun g e=>by
   obtain rfl : gg=g:=by simpa [Value.ownBlock] using e
   rcases hat with e | e
   ·exact .inl e
   ·exact .inr (by omega)
  have mB : W3.heap[w.heap.size]?=some (.cells #[.int .i64 x.k,.string x.t,.int .i64 x.n,.slice ax x.ks.length cx] 24 (0,0)) :=
   (hgrow.block _ (by simp;omega) (fun e=>by have:=(olt _ e.symm).2;omega)).trans (hold _ (by simp) (hnew _ rfl))
  have hs3 : w.heap.size+2 ≤ W3.heap.size:=by have:=hgrow.size;simpa using this
  have hgg : gg ≠ w.heap.size:=by
   rcases hat with e | e
   ·have:=(olt _ e).2;omega
   ·omega
  have h0 : (rowN (L ++ [(x,Value.slice ax x.ks.length cx)]))=rowN L ++ [.int .i64 x.k,.string x.t,.int .i64 x.n,.slice ax x.ks.length cx]:=by rw [rowN_append];rfl
  rw [← h0] at hown3
  clear hgrow hat h0
  go_loopw [1,5] (fun u i wr=>∃ (k : Nat) (M : List (Nd × Value)),i = .int .i64 (k : Nat)∧k ≤ x.ks.length∧wr.ownsRow base 24 4 u (n+1+sizes (x.ks.take k)) (rowN (L ++ M))∧Hid (M.map (·.1)=x :: flats (x.ks.take k))∧(∀ p ∈ M,LAt w S p.2 p.1.ks) ∧
   w.grownBy wr vl.ownBlock∧(∀ g,u.ownBlock=some g→vl.ownBlock=some g ∨ w.heap.size ≤ g)∧wr.heap[w.heap.size]?=some (.cells #[.int .i64 x.k,.string x.t,.int .i64 x.n,.slice ax x.ks.length cx] 24 (0,0))∧u.ownBlock ≠ some w.heap.size) (fun _ i _=>x.ks.length - (intOf i).toNat)
  case atStart=>exact ⟨0,[(x,Value.slice ax x.ks.length cx)],rfl,by omega,by simpa [sizes_nil] using hown3,by simp [Hid,flats_nil],by simpa using hx,b3,hat2,mB,fun e=>hgg (by simpa [Value.ownBlock] using e)⟩
  case round =>
   clear b3 mB hown3 hlt3
   obtain ⟨k,M,rfl,hk,ownr,HM,kM,belr,hat3,mr,hne⟩:=hrel
   have belb : Below base w wr:=(Below.refl base w).grown belr hbase (fun j hj=>(olt j hj).1)
   obtain ⟨⟨_,_,_,e0⟩,_⟩:=box4 mr
   by_cases hkl : k < x.ks.length
   ·obtain ⟨rfl,hSx,hbx⟩:=px (by omega)
    have iha:=ih x.ks[k] (List.getElem_mem hkl)
    have HS : Hid (sizes (x.ks.take (k+1))=sizes (x.ks.take k)+x.ks[k].size):=take_sizes x.ks hkl
    have HF : Hid (flats (x.ks.take (k+1))=flats (x.ks.take k) ++ x.ks[k].flat):=take_flats x.ks hkl
    have hle:=tot (k+1)
    rw [HS.out] at hle
    have h4:=(qx k hkl).of_block (belb.block bx (hS bx hSx))
    obtain ⟨u1,u2,u3,u4⟩:=h4
    have gx0:=rx k hkl
    have gx:=gx0.old hS belb
    have bw:=belr.size
    generalize x.ks[k]=xk at *
    generalize fx k=fxk at *
    generalize hs : sizes (x.ks.take k)=sk at *
    have olr:=row_lt ownr
    have iha':=iha wr S fxk _ (L ++ M) base (n+1+sk) gx hS (by omega) ownr (by omega)
    clear tot iha ih qx rx
    go_wp2_with (go_at_call 10;refine iha'.mono ?_;rintro e W1 ⟨vl',M',rfl,own',eM,kM',b1,hat4⟩)
    have hsz:=(Array.getElem?_eq_some_iff.1 mr).1
    have m1:=(b1.block w.heap.size hsz (fun e=>hne e.symm)).trans mr
    have HM' : Hid ((M ++ M').map (·.1)=x :: flats (x.ks.take (k+1))):=by
     show _=_
     rw [HF.out,List.map_append,HM.out,eM];rfl
    have own2 : W1.ownsRow base 24 4 vl' (n+1+sizes (x.ks.take (k+1))) (rowN (L ++ (M ++ M'))):=by
     rw [HS.out,← List.append_assoc]
     rw [Nat.add_assoc (n+1)] at own'
     exact own'
    have kM2 : ∀ p ∈ M ++ M',LAt w S p.2 p.1.ks:=fun p hp=>by
     rcases List.mem_append.1 hp with hp | hp
     ·exact kM p hp
     ·exact (kM' p hp).keep' hS belb hbase
    clear own' kM' kM eM iha'
    go_roundw
    case rel=>exact ⟨k+1,M ++ M',by simp,by omega,own2,HM',kM2,grow_trans belr b1 (fun g e=>hat3 g e),fun g e=>(hat4 g e).elim (fun h=>hat3 g h) (fun h=>.inr (by omega)),m1,fun e=>(hat4 _ e).elim (fun h=>hne h) (fun h=>by omega)⟩
    case measure=>simp [intOf];omega
   ·have e : x.ks.take k=x.ks:=List.take_of_length_le (by omega)
    have own2 : wr.ownsRow base 24 4 u1 (n+x.size) (rowN (L ++ M)):=by
     rw [e] at ownr
     rw [zs,← Nat.add_assoc]
     exact ownr
    have HM' : Hid (M.map (·.1)=x.flat):=by
     have:=HM.out
     rw [e,← x.flat_eq] at this
     exact this
    clear e ownr HM
    go_wp2
    go_ret
    exact ⟨_,M,rfl,own2,HM'.out,kM,belr,hat3⟩
end Go.Proofs.YtfcocoadaajbjaaGreatDoor
set_option linter.unusedVariables false
set_option linter.unusedSimpArgs false
namespace Go.Proofs.YtfcocoadaajbjaaGreatDoor
open Go.RowKit Go.MapKept
theorem flat_new (x : Nd) (w : World) (v : Value) (hx : LAt w (fun b=>b < w.heap.size) v x.ks) (zx : x.size ≤ 4194304) :
 Calls Tryz.prog 10 #[x.v v,.slice none 0 0] w fun e w'=>∃ (b o c : Nat) (f : Nat→Value),e = .returned (.slice (some ⟨b,o,none⟩) x.flat.length c)∧(b < w'.heap.size∧(∀ i (h : i < x.flat.length),Four w' b (o+i * 4) x.flat[i] (f i))∧(∀ i (h : i < x.flat.length),LAt w' (fun b=>b < w'.heap.size) (f i) x.flat[i].ks))∧Below w.heap.size w w':=by
 have h:=flat_any x w (fun b=>b < w.heap.size) v (.slice none 0 0) [] w.heap.size 0 hx (fun b hb=>hb) (Nat.le_refl _) (World.ownsRow_nil ..) (by omega)
 refine h.mono ?_
 rintro e w' ⟨vl',M,rfl,own,hM,hk,gr,hat⟩
 have bel : Below w.heap.size w w':=(Below.refl _ w).grown gr (Nat.le_refl _) (fun j hj=>by cases hj)
 have hlen : M.length=x.flat.length:=by rw [← hM];simp
 have hsz : x.flat.length=x.size:=x.flat_len
 rw [List.nil_append,Nat.zero_add,← hsz,← hlen] at own
 have l:=lat_of_row (S:=fun b=>b < w'.heap.size) own (fun p hp=>((hk p hp).bel bel).mono (fun b hb=>by have:=bel.size;omega)) (fun g hg=>(row_lt own g hg).2)
 rw [hM] at l
 obtain ⟨a,c,b,o,f,rfl,p,q,r⟩:=l.op
 have h0 : 0 < x.flat.length:=by rw [hsz];exact x.size_pos
 obtain ⟨rfl,_,p2⟩:=p h0
 exact ⟨b,o,c,f,rfl,⟨p2,q,r⟩,bel⟩
set_option maxRecDepth 100000
set_option maxHeartbeats 32000000
theorem adds_walk (x : Nd) (v : Value) (s : ByteArray) (W : World) (hx : LAt W (fun b=>b < W.heap.size) v x.ks) (hz : x.size ≤ 1048576) (tx : x.tx) (hs : s.size ≤ 1048576) (he : WEnv W) : Calls Tryz.prog 5 #[x.v v,.string s] W fun e W'=>e = .returned (.bool true)∧Below W.heap.size W W':=by
 obtain ⟨av,cv,rfl⟩:=hx.sl
 obtain ⟨W0,hW0⟩ : ∃ X,W.alloc (nO x (.slice av x.ks.length cv))=X:=⟨_,rfl⟩
 have b0 : Below W.heap.size W W0:=by rw [← hW0];exact bel_a _ _
 have m0 : W0.heap[W.heap.size]?=some (nO x (.slice av x.ks.length cv)):=by rw [← hW0];exact hnew _ rfl
 have CR:=rresolve_any x _ W0 (lat_up hx b0) (by omega) tx
 unfold Nd.v at CR
 obtain ⟨⟨n0,n1,n2,n3⟩,_⟩:=box4 m0
 have HX : Hid (LAt W (fun b=>b < W.heap.size) (.slice av x.ks.length cv) x.ks):=hx
 have B0 : Hid (Below W.heap.size W W0):=b0
 have HN : Hid (∀ X,Below W0.heap.size W0 X→NqZ X W.heap.size x.k x.t x.n av x.ks.length cv):=fun X b=>(box4 ((b.block _ (gl m0)).trans m0)).1
 have HE : Hid (WEnv W):=he
 have HT : Hid x.tx:=tx
 clear b0 m0 hx he tx
 unfold nO at hW0
 unfold Nd.v
 go_enter Tryz.func5,Tryz.ntmps5
 go_wp2_with fail
 go_at_call 8
 refine CR.mono ?_
 rintro e W1 ⟨b1,han⟩
 clear CR hW0 n0 n1 n2 n3
 rcases han with ⟨hok,vt,vu,rfl,rt,ru⟩ | ⟨hno,a,b,hb,rfl⟩
 ·have Hok : Hid (okX x):=hok
  obtain ⟨at_,ct,rfl⟩:=rw_form rt
  obtain ⟨au,cu,rfl⟩:=rw_form ru
  generalize (dRes x).tops.length=tl at *
  generalize (dRes x).uses.length=ul at *
  obtain ⟨W2,hW2⟩ : ∃ X,W1.alloc (Obj.cells #[.slice at_ tl ct,.slice au ul cu] 28)=X:=⟨_,rfl⟩
  have b2 : Below W1.heap.size W1 W2:=by rw [← hW2];exact bel_a _ _
  have B2 : Hid (Below W0.heap.size W0 W2):=below_tr b1 b2
  obtain ⟨n0,n1,n2,n3⟩:=HN.out W2 B2.out
  clear rt ru b1 b2 hok
  cases wk : (x.k != 68) with
  | true =>
   have CA:=awakeS_any W2 (HE.out.bel (below_tr B0.out B2.out))
   have BA : Hid (Below W.heap.size W W2):=(below_tr B0.out B2.out)
   clear HX HT Hok
   go_wp2_with fail
   go_at_call 9
   refine CA.mono ?_
   rintro e W9 ⟨rfl,b9⟩
   have BW9 : Hid (Below W.heap.size W W9):=below_tr BA.out b9
   clear CA b9
   go_wp2
   go_ret
   exact ⟨rfl,BW9.out⟩
  | false =>
   have CI:=rid_any s W2 (by omega)
   go_wp2_with fail
   go_at_call 13
   refine CI.mono ?_
   rintro e W3 ⟨rfl,b3⟩
   have B3 : Hid (Below W0.heap.size W0 W3):=below_tr B2.out b3
   clear CI b3 hW2 n0 n1 n2 n3 B2
   cases wi : idT false s with
   | false =>
    have CA:=awakeS_any W3 (HE.out.bel (below_tr B0.out B3.out))
    have BA : Hid (Below W.heap.size W W3):=(below_tr B0.out B3.out)
    clear HX HT Hok HN
    go_wp2_with fail
    go_at_call 9
    refine CA.mono ?_
    rintro e W9 ⟨rfl,b9⟩
    have BW9 : Hid (Below W.heap.size W W9):=below_tr BA.out b9
    clear CA b9
    go_wp2
    go_ret
    exact ⟨rfl,BW9.out⟩
   | true =>
    by_cases hl : s.size ≤ 1000
    case neg =>
     have hl1 : (1000 : Int) < (s.size : Int):=by omega
     have CA:=awakeS_any W3 (HE.out.bel (below_tr B0.out B3.out))
     have BA : Hid (Below W.heap.size W W3):=(below_tr B0.out B3.out)
     clear HX HT Hok HN
     go_wp2_with fail
     go_at_call 9
     refine CA.mono ?_
     rintro e W9 ⟨rfl,b9⟩
     have BW9 : Hid (Below W.heap.size W W9):=below_tr BA.out b9
     clear CA b9
     go_wp2
     go_ret
     exact ⟨rfl,BW9.out⟩
    case pos =>
     have hl1 : ¬ (1000 : Int) < (s.size : Int):=by omega
     have CA:=awakeS_any W3 (HE.out.bel (below_tr B0.out B3.out))
     go_wp2_with fail
     go_at_call 9
     refine CA.mono ?_
     rintro e W4 ⟨rfl,b4⟩
     have B4 : Hid (Below W0.heap.size W0 W4):=below_tr B3.out b4
     clear CA b4 B3
     go_wp2
     go_loopw [8] (fun v8 wo=>∃ k : Nat,v8 = .int .i64 (k : Nat)∧k ≤ s.size∧wo=W4∧Hid (∀ j (hj : j < s.data.size),j < k→s.data[j] ≠ 36)) (fun v8 _=>s.size - (intOf v8).toNat)
     case atStart=>exact ⟨0,rfl,by omega,rfl,fun j hj h=>by omega⟩
     case round =>
      obtain ⟨k,rfl,hk,rfl,HB⟩:=hrel
      by_cases hkl : k < s.size
      ·have hd : (k : Int) < (s.size : Int):=by omega
       cases q : (((s[k]).toNat : Int) == 36) with
       | true =>
        go_wp2
        go_ret
        exact ⟨rfl,below_tr B0.out B4.out⟩
       | false =>
        go_wp2
        go_roundw
        case rel =>
         refine ⟨k+1,by simp,by omega,trivial,fun j hj h=>?_⟩
         by_cases e : j < k
         ·exact HB.out j hj e
         ·obtain rfl : j=k:=by omega
          intro w
          have w' : s[j]=36:=w
          rw [w'] at q
          exact absurd q (by decide)
        case measure=>simp [intOf];omega
      ·obtain rfl : k=s.size:=by omega
       have hd : ¬ ((s.size : Nat) : Int) < ((s.size : Nat) : Int):=by omega
       have Hn : Hid (∀ c ∈ s.data.toList,c ≠ 36):=fun c hc=>by
        obtain ⟨i,hi,rfl⟩:=List.mem_iff_getElem.1 hc
        have hi' : i < s.data.size:=by simpa using hi
        simpa using HB.out i hi' hi'
       obtain ⟨n0,n1,n2,n3⟩:=HN.out wr B4.out
       have CF:=flat_new x wr _ (lat_up HX.out (below_tr B0.out B4.out)) (by omega)
       unfold Nd.v at CF
       clear HB
       go_wp2_with fail
       go_at_call 10
       refine CF.mono ?_
       rintro e W5 ⟨bl,ol,cl,fl,rfl,⟨hbl,hq,hl5⟩,b5⟩
       have Hsz : Hid (x.flat.length=x.size):=x.flat_len
       have hfl : x.flat.length ≤ 1048576:=by rw [Hsz.out];exact hz
       obtain ⟨f,hf⟩ : ∃ f,({ data:=#[122,122] } : ByteArray) ++ s=f:=⟨_,rfl⟩
       have Hf : Hid (zzT s=f):=(zz_cat s).symm.trans hf
       have B5 : Hid (Below W0.heap.size W0 W5):=below_tr B4.out b5
       have HQ : Hid (∀ i (h : i < x.flat.length),Four W5 bl (ol+i * 4) x.flat[i] (fl i)):=hq
       clear CF b5 hq hl5 n0 n1 n2 n3 B4
       rw [hf]
       clear hf
       go_wp2
       go_loopw [10] (fun v10 wo=>∃ k : Nat,v10 = .int .i64 (k : Nat)∧k ≤ x.flat.length∧wo=W5∧Hid (∀ j (hj : j < x.flat.length),j < k→(x.flat[j].t.toList == f.toList)=false)) (fun v10 _=>x.flat.length - (intOf v10).toNat)
       case atStart=>exact ⟨0,rfl,by omega,rfl,fun j hj h=>by omega⟩
       case round =>
        obtain ⟨k,rfl,hk,rfl,HB⟩:=hrel
        by_cases hkl : k < x.flat.length
        ·have hd : (k : Int) < (x.flat.length : Int):=by omega
         obtain ⟨y0,y1,y2,y3⟩:=HQ.out k hkl
         cases q : (x.flat[k].t.toList == f.toList) with
         | true =>
          go_wp2
          go_ret
          exact ⟨rfl,below_tr B0.out B5.out⟩
         | false =>
          go_wp2
          go_roundw
          case rel =>
           refine ⟨k+1,by simp,by omega,trivial,fun j hj h=>?_⟩
           by_cases e : j < k
           ·exact HB.out j hj e
           ·obtain rfl : j=k:=by omega
            exact q
          case measure=>simp [intOf];omega
        ·obtain rfl : k=x.flat.length:=by omega
         have hd : ¬ ((x.flat.length : Nat) : Int) < ((x.flat.length : Nat) : Int):=by omega
         have HFr : Hid (Fre x f):=by
          have h:=fre_mk (s:=s) Hok.out (by simpa using wk) wi Hn.out (fun y hy=>by
           obtain ⟨i,hi,rfl⟩:=List.mem_iff_getElem.1 hy
           rw [Hf.out]
           exact HB.out i hi hi)
          rw [Hf.out] at h
          exact h
         have ft : f.size ≤ 4194304:=by rw [← Hf.out,zz_size];omega
         obtain ⟨n0,n1,n2,n3⟩:=HN.out wr B5.out
         have L0 : Hid (LAt wr (fun b=>b < wr.heap.size) (.slice av x.ks.length cv) x.ks):=lat_up HX.out (below_tr B0.out B5.out)
         have lks : x.ks.length ≤ x.size:=by have:=x.size_eq;have:=sizes_len x.ks;omega
         obtain ⟨i0,hi0,hz0,hz1,hz2⟩:=info_parts info_nd
         clear HB Hn Hf HQ hbl HX
         go_wp2_with (at_builtin;refine wpList_append_lat _ (by rfl) _ _ (by rfl) wr.heap.size _ 0 [] (by rfl) (World.ownsRow_nil _ _ _ _) (fun b=>b < wr.heap.size) av cv x.ks (by rfl) L0.out (by omega) (Nat.le_refl _) ?_;intro v1 Y1 F hF ho1 hg1 ha1 hk1)
         have o1 : Y1.ownsRow wr.heap.size 24 4 v1 x.ks.length (rowN F):=(by simpa using ho1)
         have b1 : Below wr.heap.size wr Y1:=(Below.refl _ _).grown hg1 (Nat.le_refl _) (fun j hj=>by cases hj)
         obtain ⟨A1,C1,rfl⟩:=rw_form o1
         have hFl : x.ks.length=F.length:=(by rw [← hF];simp)
         have O1 : Hid (Y1.ownsRow wr.heap.size 24 4 (.slice A1 x.ks.length C1) x.ks.length (rowN F)):=o1
         have B1 : Hid (Below wr.heap.size wr Y1):=b1
         have K1 : Hid (∀ p ∈ F,LAt wr (fun b=>b < wr.heap.size) p.2 p.1.ks):=hk1
         have HFl : Hid (x.ks.length=F.length):=hFl
         have HF : Hid (F.map (·.1)=x.ks):=hF
         clear ho1 hg1 ha1 hk1 o1 b1 hFl hF n0 n1 n2 n3
         go_at_call 14
         refine (nameN_any f _).mono ?_
         rintro e Y2 ⟨a2,c2,rfl,ly,b2⟩
         have LY : Hid (LAt Y2 (fun b=>Y1.heap.size ≤ b∧b < Y2.heap.size) (.slice a2 (nmT f).ks.length c2) (nmT f).ks):=ly
         have B2 : Hid (Below Y1.heap.size Y1 Y2):=b2
         have O2 : Hid (Y2.ownsRow wr.heap.size 24 4 (.slice A1 x.ks.length C1) x.ks.length (rowN F)):=row_bel O1.out b2
         have z2 : wr.heap.size ≤ Y2.heap.size:=(by have:=B1.out.size;have:=b2.size;omega)
         clear ly b2
         obtain ⟨k1,hk1⟩ : ∃ l,x.ks ++ [nmT f]=l:=⟨_,rfl⟩
         have hl1 : x.ks.length+1=k1.length:=(by rw [← hk1];simp)
         unfold Nd.v
         go_upto_region 18 with (at_builtin;refine wpList_append_lies _ (by rfl) _ _ _ (by rfl) wr.heap.size 24 i0 _ 4 56 Tryz.underlying22 hi0 hz0 hz1 hz2 rfl (by omega) _ x.ks.length (rowN F) (by rfl) (O2.out.alloc _) ⟨Y2.heap.size,0,none⟩ 1 1 [.int .i64 47,.string ⟨#[]⟩,.int .i64 0,.slice a2 (nmT f).ks.length c2] (by rfl) (by rfl) (World.news_of_block (cs:=#[.int .i64 47,.string ⟨#[]⟩,.int .i64 0,.slice a2 (nmT f).ks.length c2]) (t:=24) (fr:=(0,0)) (hnew _ rfl)) (by simp [Value.oneCell']) (by omega) (by unfold maxLen;omega) (by omega) (by simp;omega) _ rfl ?_;intro g1 cap1 E1 ho4 hg4 ha4 hlt4;rw [hl1])
         obtain ⟨p1,p2⟩:=push_lat (y:=nmT f) HF.out HFl.out K1.out O1.out B1.out B2.out LY.out ho4 hg4
         rw [hl1,hk1] at p2
         have L1 : Hid (LAt (E1.alloc (Obj.cells #[.int .i64 68,.string ⟨#[]⟩,.int .i64 0,.slice (some ⟨g1,0,none⟩) k1.length cap1] 24)) (fun b=>b < (E1.alloc (Obj.cells #[.int .i64 68,.string ⟨#[]⟩,.int .i64 0,.slice (some ⟨g1,0,none⟩) k1.length cap1] 24)).heap.size) (.slice (some ⟨g1,0,none⟩) k1.length cap1) k1):=lat_up p2 (bel_a _ _)
         have BP1 : Hid (Below wr.heap.size wr (E1.alloc (Obj.cells #[.int .i64 68,.string ⟨#[]⟩,.int .i64 0,.slice (some ⟨g1,0,none⟩) k1.length cap1] 24))):=below_tr p1 (bel_a _ _)
         have M1 : Hid ((E1.alloc (Obj.cells #[.int .i64 68,.string ⟨#[]⟩,.int .i64 0,.slice (some ⟨g1,0,none⟩) k1.length cap1] 24)).heap[E1.heap.size]?=some (Obj.cells #[.int .i64 68,.string ⟨#[]⟩,.int .i64 0,.slice (some ⟨g1,0,none⟩) k1.length cap1] 24 (0,0))):=hnew _ rfl
         have Hk1 : Hid (x.ks ++ [nmT f]=k1):=hk1
         have lk1 : k1.length ≤ 1048576+1:=(by omega)
         clear ho4 hg4 ha4 hlt4 p1 p2 hl1 hk1 HF HFl K1 O1 O2 B1 B2 LY z2
         generalize (E1.alloc (Obj.cells #[.int .i64 68,.string ⟨#[]⟩,.int .i64 0,.slice (some ⟨g1,0,none⟩) k1.length cap1] 24))=P1 at *
         have HB1 : Hid (∀ X,Below P1.heap.size P1 X→NqZ X E1.heap.size 68 ⟨#[]⟩ 0 (some ⟨g1,0,none⟩) k1.length cap1):=fun X b=>(box4 ((b.block _ (gl M1.out)).trans M1.out)).1
         obtain ⟨s0,s1,s2,s3⟩:=HB1.out P1 (Below.refl _ _)
         clear M1
         go_wp2_with (at_builtin;refine wpList_append_lat _ (by rfl) _ _ (by rfl) P1.heap.size _ 0 [] (by rfl) (World.ownsRow_nil _ _ _ _) (fun b=>b < P1.heap.size) (some ⟨g1,0,none⟩) cap1 k1 (by rfl) L1.out (by omega) (Nat.le_refl _) ?_;intro v1 Y1 F hF ho1 hg1 ha1 hk1)
         have o1 : Y1.ownsRow P1.heap.size 24 4 v1 k1.length (rowN F):=(by simpa using ho1)
         have b1 : Below P1.heap.size P1 Y1:=(Below.refl _ _).grown hg1 (Nat.le_refl _) (fun j hj=>by cases hj)
         obtain ⟨A1,C1,rfl⟩:=rw_form o1
         have hFl : k1.length=F.length:=(by rw [← hF];simp)
         have O1 : Hid (Y1.ownsRow P1.heap.size 24 4 (.slice A1 k1.length C1) k1.length (rowN F)):=o1
         have B1 : Hid (Below P1.heap.size P1 Y1):=b1
         have K1 : Hid (∀ p ∈ F,LAt P1 (fun b=>b < P1.heap.size) p.2 p.1.ks):=hk1
         have HFl : Hid (k1.length=F.length):=hFl
         have HF : Hid (F.map (·.1)=k1):=hF
         clear ho1 hg1 ha1 hk1 o1 b1 hFl hF s0 s1 s2 s3
         go_at_call 15
         refine (letN_any f 1 _).mono ?_
         rintro e Y2 ⟨a2,c2,rfl,ly,b2⟩
         have LY : Hid (LAt Y2 (fun b=>Y1.heap.size ≤ b∧b < Y2.heap.size) (.slice a2 (ltT f 1).ks.length c2) (ltT f 1).ks):=ly
         have B2 : Hid (Below Y1.heap.size Y1 Y2):=b2
         have O2 : Hid (Y2.ownsRow P1.heap.size 24 4 (.slice A1 k1.length C1) k1.length (rowN F)):=row_bel O1.out b2
         have z2 : P1.heap.size ≤ Y2.heap.size:=(by have:=B1.out.size;have:=b2.size;omega)
         clear ly b2
         obtain ⟨k2,hk2⟩ : ∃ l,k1 ++ [ltT f 1]=l:=⟨_,rfl⟩
         have hl2 : k1.length+1=k2.length:=(by rw [← hk2];simp)
         unfold Nd.v
         go_upto_region 19 with (at_builtin;refine wpList_append_lies _ (by rfl) _ _ _ (by rfl) P1.heap.size 24 i0 _ 4 56 Tryz.underlying22 hi0 hz0 hz1 hz2 rfl (by omega) _ k1.length (rowN F) (by rfl) (O2.out.alloc _) ⟨Y2.heap.size,0,none⟩ 1 1 [.int .i64 40,.string f,.int .i64 1,.slice a2 (ltT f 1).ks.length c2] (by rfl) (by rfl) (World.news_of_block (cs:=#[.int .i64 40,.string f,.int .i64 1,.slice a2 (ltT f 1).ks.length c2]) (t:=24) (fr:=(0,0)) (hnew _ rfl)) (by simp [Value.oneCell']) (by omega) (by unfold maxLen;omega) (by omega) (by simp;omega) _ rfl ?_;intro g2 cap2 E2 ho4 hg4 ha4 hlt4;rw [hl2])
         obtain ⟨p1,p2⟩:=push_lat (y:=ltT f 1) HF.out HFl.out K1.out O1.out B1.out B2.out LY.out ho4 hg4
         rw [hl2,hk2] at p2
         have L2 : Hid (LAt (E2.alloc (Obj.cells #[.int .i64 68,.string ⟨#[]⟩,.int .i64 0,.slice (some ⟨g2,0,none⟩) k2.length cap2] 24)) (fun b=>b < (E2.alloc (Obj.cells #[.int .i64 68,.string ⟨#[]⟩,.int .i64 0,.slice (some ⟨g2,0,none⟩) k2.length cap2] 24)).heap.size) (.slice (some ⟨g2,0,none⟩) k2.length cap2) k2):=lat_up p2 (bel_a _ _)
         have BP2 : Hid (Below P1.heap.size P1 (E2.alloc (Obj.cells #[.int .i64 68,.string ⟨#[]⟩,.int .i64 0,.slice (some ⟨g2,0,none⟩) k2.length cap2] 24))):=below_tr p1 (bel_a _ _)
         have M2 : Hid ((E2.alloc (Obj.cells #[.int .i64 68,.string ⟨#[]⟩,.int .i64 0,.slice (some ⟨g2,0,none⟩) k2.length cap2] 24)).heap[E2.heap.size]?=some (Obj.cells #[.int .i64 68,.string ⟨#[]⟩,.int .i64 0,.slice (some ⟨g2,0,none⟩) k2.length cap2] 24 (0,0))):=hnew _ rfl
         have Hk2 : Hid (k1 ++ [ltT f 1]=k2):=hk2
         have lk2 : k2.length ≤ 1048576+2:=(by omega)
         clear ho4 hg4 ha4 hlt4 p1 p2 hl2 hk2 HF HFl K1 O1 O2 B1 B2 LY z2
         generalize (E2.alloc (Obj.cells #[.int .i64 68,.string ⟨#[]⟩,.int .i64 0,.slice (some ⟨g2,0,none⟩) k2.length cap2] 24))=P2 at *
         have HB2 : Hid (∀ X,Below P2.heap.size P2 X→NqZ X E2.heap.size 68 ⟨#[]⟩ 0 (some ⟨g2,0,none⟩) k2.length cap2):=fun X b=>(box4 ((b.block _ (gl M2.out)).trans M2.out)).1
         obtain ⟨s0,s1,s2,s3⟩:=HB2.out P2 (Below.refl _ _)
         clear M2
         go_wp2_with (at_builtin;refine wpList_append_lat _ (by rfl) _ _ (by rfl) P2.heap.size _ 0 [] (by rfl) (World.ownsRow_nil _ _ _ _) (fun b=>b < P2.heap.size) (some ⟨g2,0,none⟩) cap2 k2 (by rfl) L2.out (by omega) (Nat.le_refl _) ?_;intro v1 Y1 F hF ho1 hg1 ha1 hk1)
         have o1 : Y1.ownsRow P2.heap.size 24 4 v1 k2.length (rowN F):=(by simpa using ho1)
         have b1 : Below P2.heap.size P2 Y1:=(Below.refl _ _).grown hg1 (Nat.le_refl _) (fun j hj=>by cases hj)
         obtain ⟨A1,C1,rfl⟩:=rw_form o1
         have hFl : k2.length=F.length:=(by rw [← hF];simp)
         have O1 : Hid (Y1.ownsRow P2.heap.size 24 4 (.slice A1 k2.length C1) k2.length (rowN F)):=o1
         have B1 : Hid (Below P2.heap.size P2 Y1):=b1
         have K1 : Hid (∀ p ∈ F,LAt P2 (fun b=>b < P2.heap.size) p.2 p.1.ks):=hk1
         have HFl : Hid (k2.length=F.length):=hFl
         have HF : Hid (F.map (·.1)=k2):=hF
         clear ho1 hg1 ha1 hk1 o1 b1 hFl hF s0 s1 s2 s3
         go_at_call 15
         refine (letN_any f 0 _).mono ?_
         rintro e Y2 ⟨a2,c2,rfl,ly,b2⟩
         have LY : Hid (LAt Y2 (fun b=>Y1.heap.size ≤ b∧b < Y2.heap.size) (.slice a2 (ltT f 0).ks.length c2) (ltT f 0).ks):=ly
         have B2 : Hid (Below Y1.heap.size Y1 Y2):=b2
         have O2 : Hid (Y2.ownsRow P2.heap.size 24 4 (.slice A1 k2.length C1) k2.length (rowN F)):=row_bel O1.out b2
         have z2 : P2.heap.size ≤ Y2.heap.size:=(by have:=B1.out.size;have:=b2.size;omega)
         clear ly b2
         obtain ⟨k3,hk3⟩ : ∃ l,k2 ++ [ltT f 0]=l:=⟨_,rfl⟩
         have hl3 : k2.length+1=k3.length:=(by rw [← hk3];simp)
         unfold Nd.v
         go_upto_region 20 with (at_builtin;refine wpList_append_lies _ (by rfl) _ _ _ (by rfl) P2.heap.size 24 i0 _ 4 56 Tryz.underlying22 hi0 hz0 hz1 hz2 rfl (by omega) _ k2.length (rowN F) (by rfl) (O2.out.alloc _) ⟨Y2.heap.size,0,none⟩ 1 1 [.int .i64 40,.string f,.int .i64 0,.slice a2 (ltT f 0).ks.length c2] (by rfl) (by rfl) (World.news_of_block (cs:=#[.int .i64 40,.string f,.int .i64 0,.slice a2 (ltT f 0).ks.length c2]) (t:=24) (fr:=(0,0)) (hnew _ rfl)) (by simp [Value.oneCell']) (by omega) (by unfold maxLen;omega) (by omega) (by simp;omega) _ rfl ?_;intro g3 cap3 E3 ho4 hg4 ha4 hlt4;rw [hl3])
         obtain ⟨p1,p2⟩:=push_lat (y:=ltT f 0) HF.out HFl.out K1.out O1.out B1.out B2.out LY.out ho4 hg4
         rw [hl3,hk3] at p2
         have L3 : Hid (LAt (E3.alloc (Obj.cells #[.int .i64 68,.string ⟨#[]⟩,.int .i64 0,.slice (some ⟨g3,0,none⟩) k3.length cap3] 24)) (fun b=>b < (E3.alloc (Obj.cells #[.int .i64 68,.string ⟨#[]⟩,.int .i64 0,.slice (some ⟨g3,0,none⟩) k3.length cap3] 24)).heap.size) (.slice (some ⟨g3,0,none⟩) k3.length cap3) k3):=lat_up p2 (bel_a _ _)
         have BP3 : Hid (Below P2.heap.size P2 (E3.alloc (Obj.cells #[.int .i64 68,.string ⟨#[]⟩,.int .i64 0,.slice (some ⟨g3,0,none⟩) k3.length cap3] 24))):=below_tr p1 (bel_a _ _)
         have M3 : Hid ((E3.alloc (Obj.cells #[.int .i64 68,.string ⟨#[]⟩,.int .i64 0,.slice (some ⟨g3,0,none⟩) k3.length cap3] 24)).heap[E3.heap.size]?=some (Obj.cells #[.int .i64 68,.string ⟨#[]⟩,.int .i64 0,.slice (some ⟨g3,0,none⟩) k3.length cap3] 24 (0,0))):=hnew _ rfl
         have Hk3 : Hid (k2 ++ [ltT f 0]=k3):=hk3
         have lk3 : k3.length ≤ 1048576+3:=(by omega)
         clear ho4 hg4 ha4 hlt4 p1 p2 hl3 hk3 HF HFl K1 O1 O2 B1 B2 LY z2
         generalize (E3.alloc (Obj.cells #[.int .i64 68,.string ⟨#[]⟩,.int .i64 0,.slice (some ⟨g3,0,none⟩) k3.length cap3] 24))=P3 at *
         have HB3 : Hid (∀ X,Below P3.heap.size P3 X→NqZ X E3.heap.size 68 ⟨#[]⟩ 0 (some ⟨g3,0,none⟩) k3.length cap3):=fun X b=>(box4 ((b.block _ (gl M3.out)).trans M3.out)).1
         obtain ⟨s0,s1,s2,s3⟩:=HB3.out P3 (Below.refl _ _)
         clear M3
         clear s0 s1 s2 s3
         have BW3 : Hid (Below W.heap.size W P3):=below_tr (below_tr (below_tr (below_tr B0.out B5.out) BP1.out) BP2.out) BP3.out
         have e1 : x.ks ++ [nmT f]=k1:=Hk1.out
         have e2 : x.ks ++ [nmT f,ltT f 1]=k2:=(by rw [← Hk2.out,← Hk1.out];simp)
         have e3 : x.ks ++ [nmT f,ltT f 1,ltT f 0]=k3:=(by rw [← Hk3.out,← Hk2.out,← Hk1.out];simp)
         have C1:=HFr.out.c1 hz HT.out ft (.slice (some ⟨g1,0,none⟩) k1.length cap1) P3 (by rw [e1];exact lat_up (lat_up L1.out BP2.out) BP3.out) (HE.out.bel BW3.out)
         have CC2 : Hid (∀ X,Below P3.heap.size P3 X→Calls Tryz.prog 7 #[.agg #[.int .i64 68,.string ⟨#[]⟩,.int .i64 0,.slice (some ⟨g2,0,none⟩) k2.length cap2]] X _):=fun X b=>HFr.out.c2 hz HT.out ft (.slice (some ⟨g2,0,none⟩) k2.length cap2) X (by rw [e2];exact lat_up (lat_up L2.out BP3.out) b) (HE.out.bel (below_tr BW3.out b))
         have CC3 : Hid (∀ X,Below P3.heap.size P3 X→Calls Tryz.prog 7 #[.agg #[.int .i64 68,.string ⟨#[]⟩,.int .i64 0,.slice (some ⟨g3,0,none⟩) k3.length cap3]] X _):=fun X b=>HFr.out.c3 hz HT.out ft (.slice (some ⟨g3,0,none⟩) k3.length cap3) X (by rw [e3];exact lat_up L3.out b) (HE.out.bel (below_tr BW3.out b))
         rw [← Hsz.out] at C1
         obtain ⟨s0,s1,s2,s3⟩:=HB1.out P3 (below_tr BP2.out BP3.out)
         clear e1 e2 e3 Hk1 Hk2 Hk3 L0 L1 L2 L3
         go_wp2_with fail
         go_at_call 7
         refine C1.mono ?_
         rintro e Q1 ⟨rfl,b1⟩
         have d1 : Hid (Below P3.heap.size P3 (Q1.alloc (Obj.cells #[.slice none 0 0,.slice none 0 0] 28))):=below_tr b1 (bel_a _ _)
         have C2:=CC2.out _ d1.out
         clear s0 s1 s2 s3
         obtain ⟨s0,s1,s2,s3⟩:=HB2.out _ (below_tr BP3.out d1.out)
         clear C1 b1
         go_wp2_with fail
         go_at_call 7
         refine C2.mono ?_
         rintro e Q2 ⟨b2,n,m,g,c,g',c',⟨ln,lm⟩,rfl,t0,w0,w1,w2,w3,w4⟩
         rw [← Hsz.out] at w0 w2
         have HT2 : Hid (∀ X,Below Q2.heap.size Q2 X→X.cell? ⟨g,n * 5,none⟩=some (.string f)∧X.cell? ⟨g',m * 5,none⟩=some (.int .i64 ((x.flat.length : Int)+1))∧X.cell? ⟨g',m * 5+1,none⟩=some (.int .i64 3)∧X.cell? ⟨g',m * 5+2,none⟩=some (.int .i64 ((x.flat.length : Int)+2))∧X.cell? ⟨g',m * 5+3,none⟩=some (.string f)∧X.cell? ⟨g',m * 5+4,none⟩=some (.bool false)):=fun X b=>by
          have cc:=fun (a : Addr) v (h : Q2.cell? a=some v)=>(World.cell?_of_block (b.block a.block (World.block_lt_of_cell? Q2 _ h))).trans h
          exact ⟨cc _ _ t0,cc _ _ w0,cc _ _ w1,cc _ _ w2,cc _ _ w3,cc _ _ w4⟩
         have d2 : Hid (Below P3.heap.size P3 (Q2.alloc (Obj.cells #[.slice (some ⟨g,0,none⟩) (n+1) c,.slice (some ⟨g',0,none⟩) (m+1) c'] 28))):=below_tr (below_tr d1.out b2) (bel_a _ _)
         have C3:=CC3.out _ d2.out
         clear s0 s1 s2 s3 t0 w0 w1 w2 w3 w4
         obtain ⟨s0,s1,s2,s3⟩:=HB3.out _ d2.out
         have e2 : Hid (Below Q2.heap.size Q2 (Q2.alloc (Obj.cells #[.slice (some ⟨g,0,none⟩) (n+1) c,.slice (some ⟨g',0,none⟩) (m+1) c'] 28))):=bel_a _ _
         have M2 : Hid ((Q2.alloc (Obj.cells #[.slice (some ⟨g,0,none⟩) (n+1) c,.slice (some ⟨g',0,none⟩) (m+1) c'] 28)).heap[Q2.heap.size]?=some (Obj.cells #[.slice (some ⟨g,0,none⟩) (n+1) c,.slice (some ⟨g',0,none⟩) (m+1) c'] 28 (0,0))):=hnew _ rfl
         clear C2 b2
         go_wp2_with fail
         go_at_call 7
         refine C3.mono ?_
         rintro e Q3 ⟨rfl,b3⟩
         have M3 : Hid (∀ X,Below Q3.heap.size Q3 X→X.cell? ⟨Q2.heap.size,0,none⟩=some (.slice (some ⟨g,0,none⟩) (n+1) c)∧X.cell? ⟨Q2.heap.size,1,none⟩=some (.slice (some ⟨g',0,none⟩) (m+1) c')):=fun X b=>by
          have h:=((below_tr b3 b).block _ (gl M2.out)).trans M2.out
          constructor <;> simp [World.cell?,h]
         rw [← Hsz.out]
         have BQ : Hid (∀ X,Below Q3.heap.size Q3 X→Below W.heap.size W X):=fun X b=>below_tr (below_tr (below_tr BW3.out d2.out) b3) b
         have HT3 : Hid (∀ X,Below Q3.heap.size Q3 X→Below Q2.heap.size Q2 X):=fun X b=>below_tr (below_tr e2.out b3) b
         obtain ⟨t0,w0,w1,w2,w3,w4⟩:=HT2.out _ (HT3.out _ (bel_a Q3 (Obj.cells #[.slice none 0 0,.slice none 0 0] 28)))
         obtain ⟨r0,r1⟩:=M3.out _ (bel_a Q3 (Obj.cells #[.slice none 0 0,.slice none 0 0] 28))
         have hn0 : ((n : Int)+1 == 0)=false:=(by simp;omega)
         have hn1 : (n : Int) < (n : Int)+1:=(by omega)
         have hm1 : (m : Int) < (m : Int)+1:=(by omega)
         clear s0 s1 s2 s3 C3 M2 d1 d2 e2 HB1 HB2 HB3 CC2 CC3 b3
         go_wp2
         go_ret
         exact ⟨rfl,BQ.out _ (bel2 _ _ _)⟩
 ·have hb2 : (b != 0)=true:=by simpa using hb
  have b2:=below_tr (below_tr B0.out b1) (bel_a W1 (Obj.cells #[.slice none 0 0,.slice none 0 0] 28))
  have N2:=HN.out _ (below_tr b1 (bel_a W1 (Obj.cells #[.slice none 0 0,.slice none 0 0] 28)))
  obtain ⟨n0,n1,n2,n3⟩:=N2
  have CA:=awakeS_any _ (HE.out.bel b2)
  have BA : Hid (Below W.heap.size W _):=b2
  clear HX HT HN b1 b2 hno hb
  go_wp2_with fail
  go_at_call 9
  refine CA.mono ?_
  rintro e W9 ⟨rfl,b9⟩
  have BW9 : Hid (Below W.heap.size W W9):=below_tr BA.out b9
  clear CA b9
  go_wp2
  go_ret
  exact ⟨rfl,BW9.out⟩
end Go.Proofs.YtfcocoadaajbjaaGreatDoor
set_option linter.unusedVariables false
namespace Go.Proofs.YtfcocoadaajbjaaGreatDoor.SoX
open Go.RowKit
theorem walk (x : Nd) (u : Value) (s : ByteArray) (w : World) (f : LAt w (fun b=>b < w.heap.size) u x.ks) (z : x.size ≤ 1048576) (t : ∀ y ∈ x.flat,y.t.size ≤ 1048576) (hs : s.size ≤ 1048576) (he : WEnv w) :
 Calls Tryz.prog 5 #[x.v u,.string s] w fun e w'=>e = .returned (.bool true)∧Below w.heap.size w w' :=
 adds_walk x u s w f z (fun y hy=>Nat.le_trans (t y hy) (by decide)) hs he
end Go.Proofs.YtfcocoadaajbjaaGreatDoor.SoX
