/- Own text. All trees of a tree,one behind the other: the document's answer. Flat of a tree: the list that a call of it leaves. -/
import Derived.Test.YtfcocoadaajbjaaGreatDoorGc04
import Derived.Test.YtfcocoadaajbjaaGreatDoorGc48
set_option linter.unusedVariables false
set_option maxRecDepth 100000
set_option maxHeartbeats 8000000
namespace Go.Proofs.YtfcocoadaajbjaaGreatDoor
open Go.RowKit
theorem LAt.old {w w' : World} {S : Nat→Prop} {v : Value} {ks : List Nd} {base : Nat} (h : LAt w S v ks) (hS : ∀ b,S b→b < base) (k : Below base w w') : LAt w' S v ks:=h.keep k.size (fun b hb _=>k.block b (hS b hb))
theorem LAt.keep' {w w' : World} {S : Nat→Prop} {v : Value} {ks : List Nd} {base : Nat} (h : LAt w' S v ks) (hS : ∀ b,S b→b < base) (k : Below base w w') (hb : base ≤ w.heap.size) : LAt w S v ks:=by
 induction h with
 | nil a c=>exact .nil a c
 | row bl o c ks f hS' hl h4 hk ih=>exact .row bl o c ks f hS' (by have:=hS bl hS';omega) (fun i hi=>(h4 i hi).of_block (k.block bl (hS bl hS')).symm) ih
theorem grow_trans {a b c : World} {r s : Option Nat} (h : a.grownBy b r) (k : b.grownBy c s) (hs : ∀ g,s=some g→r=some g ∨ a.heap.size ≤ g) : a.grownBy c r :=
 ⟨k.os.trans h.os,k.tape.trans h.tape,k.output.trans h.output,Nat.le_trans h.size k.size,fun i hi hn =>
  (k.block i (Nat.lt_of_lt_of_le hi h.size) (fun e=>by
   rcases hs i e.symm with e' | e'
   ·exact hn e'.symm
   ·omega)).trans (h.block i hi hn)⟩
theorem grow_alloc (w : World) (o : Obj) (r : Option Nat) : w.grownBy (w.alloc o) r:=⟨rfl,rfl,rfl,by simp,fun i hi _=>Below.heap_alloc w o i hi⟩
theorem flat_any (x : Nd) : ∀ (w : World) (S : Nat→Prop) (v vl : Value) (L : List (Nd × Value)) (base n : Nat),LAt w S v x.ks→(∀ b,S b→b < base)→base ≤ w.heap.size→w.ownsRow base 24 4 vl n (rowN L)→n+x.size ≤ 4194304 →
 Calls Tryz.prog 10 #[x.v v,vl] w fun e w'=>∃ (vl' : Value) (M : List (Nd × Value)),e = .returned vl'∧w'.ownsRow base 24 4 vl' (n+x.size) (rowN (L ++ M))∧M.map (·.1)=x.flat∧(∀ p ∈ M,LAt w S p.2 p.1.ks)∧w.grownBy w' vl.ownBlock∧(∀ g,vl'.ownBlock=some g→vl.ownBlock=some g ∨ w.heap.size ≤ g):=by
 induction x using Nd.ind with
 | h x ih =>
  intro w S v vl L base n hx hS hbase own zx
  obtain ⟨ax,cx,bx,ox,fx,rfl,px,qx,rx⟩:=hx.op
  have zs:=x.size_eq
  have lx:=sizes_len x.ks
  have lx2 : x.ks.length ≤ 4194304:=by omega
  obtain ⟨i0,hi0,hz0,hz1,hz2⟩:=info_parts info_nd
  have tot:=take_sizes_le x.ks
  unfold Nd.v
  go_enter Tryz.func10,Tryz.ntmps10
  go_wp2_with (at_builtin;refine wpList_append_lies _ (by rfl) _ _ _ (by rfl) base 24 i0 _ 4 56 Tryz.underlying22 hi0 hz0 hz1 hz2 rfl (by omega) _ n (rowN L) (by rfl) ((own.alloc _).alloc _) ⟨w.heap.size+1,0,none⟩ 1 1 [.int .i64 x.k,.string x.t,.int .i64 x.n,.slice ax x.ks.length cx] (by rfl) (by rfl) (World.news_of_block (cs:=#[.int .i64 x.k,.string x.t,.int .i64 x.n,.slice ax x.ks.length cx]) (t:=24) (fr:=(0,0)) (hnew _ (by simp))) (by simp [Value.oneCell']) (by omega) (by unfold maxLen;omega) (by omega) (by simp;omega) (w.heap.size+2) (by simp) ?_;intro gg cap W3 hown3 hgrow hat hlt3)
  have olt:=row_lt own
  have b3 : w.grownBy W3 vl.ownBlock:=grow_trans (grow_trans (grow_alloc _ _ _) (grow_alloc _ _ none) (fun g e=>by cases e)) hgrow (fun g e=>.inl e)
  have hat2 : ∀ g,(Value.slice (some ⟨gg,0,none⟩) (n+1) cap).ownBlock=some g→vl.ownBlock=some g ∨ w.heap.size ≤ g:=fun g e=>by
   obtain rfl : gg=g:=by simpa [Value.ownBlock] using e
   rcases hat with e | e
   ·exact .inl e
   ·exact .inr (by omega)
  have mB : W3.heap[w.heap.size]?=some (.cells #[.int .i64 x.k,.string x.t,.int .i64 x.n,.slice ax x.ks.length cx] 24 (0,0)) :=
   (hgrow.block _ (by simp;omega) (fun e=>by have:=(olt _ e.symm).2;omega)).trans (hold _ (by simp) (hnew _ rfl))
  have hs3 : w.heap.size+2 ≤ W3.heap.size:=by have:=hgrow.size;simpa using this
  have hgg : gg ≠ w.heap.size:=by
   rcases hat with e | e
   ·have:=(olt _ e).2;omega
   ·omega
  have h0 : (rowN (L ++ [(x,Value.slice ax x.ks.length cx)]))=rowN L ++ [.int .i64 x.k,.string x.t,.int .i64 x.n,.slice ax x.ks.length cx]:=by rw [rowN_append];rfl
  rw [← h0] at hown3
  clear hgrow hat h0
  go_loopw [1,5] (fun u i wr=>∃ (k : Nat) (M : List (Nd × Value)),i = .int .i64 (k : Nat)∧k ≤ x.ks.length∧wr.ownsRow base 24 4 u (n+1+sizes (x.ks.take k)) (rowN (L ++ M))∧Hid (M.map (·.1)=x :: flats (x.ks.take k))∧(∀ p ∈ M,LAt w S p.2 p.1.ks) ∧
   w.grownBy wr vl.ownBlock∧(∀ g,u.ownBlock=some g→vl.ownBlock=some g ∨ w.heap.size ≤ g)∧wr.heap[w.heap.size]?=some (.cells #[.int .i64 x.k,.string x.t,.int .i64 x.n,.slice ax x.ks.length cx] 24 (0,0))∧u.ownBlock ≠ some w.heap.size) (fun _ i _=>x.ks.length - (intOf i).toNat)
  case atStart=>exact ⟨0,[(x,Value.slice ax x.ks.length cx)],rfl,by omega,by simpa [sizes_nil] using hown3,by simp [Hid,flats_nil],by simpa using hx,b3,hat2,mB,fun e=>hgg (by simpa [Value.ownBlock] using e)⟩
  case round =>
   clear b3 mB hown3 hlt3
   obtain ⟨k,M,rfl,hk,ownr,HM,kM,belr,hat3,mr,hne⟩:=hrel
   have belb : Below base w wr:=(Below.refl base w).grown belr hbase (fun j hj=>(olt j hj).1)
   obtain ⟨⟨_,_,_,e0⟩,_⟩:=box4 mr
   by_cases hkl : k < x.ks.length
   ·obtain ⟨rfl,hSx,hbx⟩:=px (by omega)
    have iha:=ih x.ks[k] (List.getElem_mem hkl)
    have HS : Hid (sizes (x.ks.take (k+1))=sizes (x.ks.take k)+x.ks[k].size):=take_sizes x.ks hkl
    have HF : Hid (flats (x.ks.take (k+1))=flats (x.ks.take k) ++ x.ks[k].flat):=take_flats x.ks hkl
    have hle:=tot (k+1)
    rw [HS.out] at hle
    have h4:=(qx k hkl).of_block (belb.block bx (hS bx hSx))
    obtain ⟨u1,u2,u3,u4⟩:=h4
    have gx0:=rx k hkl
    have gx:=gx0.old hS belb
    have bw:=belr.size
    generalize x.ks[k]=xk at *
    generalize fx k=fxk at *
    generalize hs : sizes (x.ks.take k)=sk at *
    have olr:=row_lt ownr
    have iha':=iha wr S fxk _ (L ++ M) base (n+1+sk) gx hS (by omega) ownr (by omega)
    clear tot iha ih qx rx
    go_wp2_with (go_at_call 10;refine iha'.mono ?_;rintro e W1 ⟨vl',M',rfl,own',eM,kM',b1,hat4⟩)
    have hsz:=(Array.getElem?_eq_some_iff.1 mr).1
    have m1:=(b1.block w.heap.size hsz (fun e=>hne e.symm)).trans mr
    have HM' : Hid ((M ++ M').map (·.1)=x :: flats (x.ks.take (k+1))):=by
     show _=_
     rw [HF.out,List.map_append,HM.out,eM];rfl
    have own2 : W1.ownsRow base 24 4 vl' (n+1+sizes (x.ks.take (k+1))) (rowN (L ++ (M ++ M'))):=by
     rw [HS.out,← List.append_assoc]
     rw [Nat.add_assoc (n+1)] at own'
     exact own'
    have kM2 : ∀ p ∈ M ++ M',LAt w S p.2 p.1.ks:=fun p hp=>by
     rcases List.mem_append.1 hp with hp | hp
     ·exact kM p hp
     ·exact (kM' p hp).keep' hS belb hbase
    clear own' kM' kM eM iha'
    go_roundw
    case rel=>exact ⟨k+1,M ++ M',by simp,by omega,own2,HM',kM2,grow_trans belr b1 (fun g e=>hat3 g e),fun g e=>(hat4 g e).elim (fun h=>hat3 g h) (fun h=>.inr (by omega)),m1,fun e=>(hat4 _ e).elim (fun h=>hne h) (fun h=>by omega)⟩
    case measure=>simp [intOf];omega
   ·have e : x.ks.take k=x.ks:=List.take_of_length_le (by omega)
    have own2 : wr.ownsRow base 24 4 u1 (n+x.size) (rowN (L ++ M)):=by
     rw [e] at ownr
     rw [zs,← Nat.add_assoc]
     exact ownr
    have HM' : Hid (M.map (·.1)=x.flat):=by
     have:=HM.out
     rw [e,← x.flat_eq] at this
     exact this
    clear e ownr HM
    go_wp2
    go_ret
    exact ⟨_,M,rfl,own2,HM'.out,kM,belr,hat3⟩
end Go.Proofs.YtfcocoadaajbjaaGreatDoor
set_option linter.unusedVariables false
set_option linter.unusedSimpArgs false
namespace Go.Proofs.YtfcocoadaajbjaaGreatDoor
open Go.RowKit Go.MapKept
theorem flat_new (x : Nd) (w : World) (v : Value) (hx : LAt w (fun b=>b < w.heap.size) v x.ks) (zx : x.size ≤ 4194304) :
 Calls Tryz.prog 10 #[x.v v,.slice none 0 0] w fun e w'=>∃ (b o c : Nat) (f : Nat→Value),e = .returned (.slice (some ⟨b,o,none⟩) x.flat.length c)∧(b < w'.heap.size∧(∀ i (h : i < x.flat.length),Four w' b (o+i * 4) x.flat[i] (f i))∧(∀ i (h : i < x.flat.length),LAt w' (fun b=>b < w'.heap.size) (f i) x.flat[i].ks))∧Below w.heap.size w w':=by
 have h:=flat_any x w (fun b=>b < w.heap.size) v (.slice none 0 0) [] w.heap.size 0 hx (fun b hb=>hb) (Nat.le_refl _) (World.ownsRow_nil ..) (by omega)
 refine h.mono ?_
 rintro e w' ⟨vl',M,rfl,own,hM,hk,gr,hat⟩
 have bel : Below w.heap.size w w':=(Below.refl _ w).grown gr (Nat.le_refl _) (fun j hj=>by cases hj)
 have hlen : M.length=x.flat.length:=by rw [← hM];simp
 have hsz : x.flat.length=x.size:=x.flat_len
 rw [List.nil_append,Nat.zero_add,← hsz,← hlen] at own
 have l:=lat_of_row (S:=fun b=>b < w'.heap.size) own (fun p hp=>((hk p hp).bel bel).mono (fun b hb=>by have:=bel.size;omega)) (fun g hg=>(row_lt own g hg).2)
 rw [hM] at l
 obtain ⟨a,c,b,o,f,rfl,p,q,r⟩:=l.op
 have h0 : 0 < x.flat.length:=by rw [hsz];exact x.size_pos
 obtain ⟨rfl,_,p2⟩:=p h0
 exact ⟨b,o,c,f,rfl,⟨p2,q,r⟩,bel⟩
end Go.Proofs.YtfcocoadaajbjaaGreatDoor
