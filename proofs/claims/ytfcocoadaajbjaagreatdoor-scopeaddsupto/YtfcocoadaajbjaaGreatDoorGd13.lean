/- Own text. The document's walk over names: what it has gathered,in memory. The document's walk over names: fail,top,local. -/
import Derived.Test.YtfcocoadaajbjaaGreatDoorGd06
import Derived.Test.YtfcocoadaajbjaaGreatDoorGd12
set_option linter.unusedVariables false
set_option linter.unusedSimpArgs false
namespace Go.Proofs.YtfcocoadaajbjaaGreatDoor
open Go.RowKit Go.MapKept
def Lo.cs (l : Lo) : List Value:=[.string l.nm,.int .i64 l.pl,.bool l.fr]
def loV (L : List Lo) : List Value:=L.flatMap Lo.cs
def stV (E : List ByteArray) : List Value:=E.map .string
theorem loV_app (a b : List Lo) : loV (a ++ b)=loV a ++ loV b:=by unfold loV;simp
theorem stV_app (a b : List ByteArray) : stV (a ++ b)=stV a ++ stV b:=by unfold stV;simp
theorem info_lo : (Tryz.prog.info? 128).map (fun i=>(i.zero,i.size,i.bytes))=some (some (.agg #[.string ByteArray.empty,.int .i64 0,.bool false]),3,32):=by kernel_rfl
theorem info_st : (Tryz.prog.info? 9).map (fun i=>(i.zero,i.size,i.bytes))=some (some (.string ByteArray.empty),1,16):=by kernel_rfl
structure Vs where
 t : Value
 u : Value
 l : Value
 x : Value
def OwnW (wb : Nat) (V : Vs) (k : Nat) : Prop:=k=wb ∨ V.t.ownBlock=some k ∨ V.u.ownBlock=some k ∨ V.l.ownBlock=some k ∨ V.x.ownBlock=some k
structure Wv (wb B : Nat) (W : World) (d : Dw) (V : Vs) : Prop where
 r : W.heap[wb]?=some (.cells #[V.t,V.u,V.l,.bool d.this,.bool d.ins,.int .i64 d.at_,.int .i64 d.er,V.x] 62 (0,0))
 t : W.ownsRow B 43 5 V.t d.tops.length (tpV d.tops)
 u : W.ownsRow B 37 5 V.u d.uses.length (usV d.uses)
 l : W.ownsRow B 128 3 V.l d.locs.length (loV d.locs)
 x : W.ownsRow B 9 1 V.x d.exs.length (stV d.exs)
 b : B ≤ W.heap.size
 hb : B ≤ wb
theorem Wv.ge {wb B : Nat} {W : World} {d : Dw} {V : Vs} (h : Wv wb B W d V) {k : Nat} (q : OwnW wb V k) : B ≤ k:=by
 rcases q with q | q | q | q | q
 ·rw [q];exact h.hb
 ·exact (rw_lt h.t k q).1
 ·exact (rw_lt h.u k q).1
 ·exact (rw_lt h.l k q).1
 ·exact (rw_lt h.x k q).1
theorem Wv.far {wb B : Nat} {W : World} {d : Dw} {V : Vs} (h : Wv wb B W d V) {k : Nat} {cs : Array Value} {t : TypeId} {fr : Nat × Nat} (hk : W.heap[k]?=some (.cells cs t fr)) (ht : t ≠ 62∧t ≠ 43∧t ≠ 37∧t ≠ 128∧t ≠ 9) : ¬ OwnW wb V k:=by
 rintro (q | q | q | q | q)
 ·subst q;rw [h.r] at hk;injection hk with hk;injection hk with _ hk;exact ht.1 hk.symm
 ·obtain ⟨cur,hb⟩:=own_cells h.t q
  rw [hb] at hk;injection hk with hk;injection hk with _ hk;exact ht.2.1 hk.symm
 ·obtain ⟨cur,hb⟩:=own_cells h.u q
  rw [hb] at hk;injection hk with hk;injection hk with _ hk;exact ht.2.2.1 hk.symm
 ·obtain ⟨cur,hb⟩:=own_cells h.l q
  rw [hb] at hk;injection hk with hk;injection hk with _ hk;exact ht.2.2.2.1 hk.symm
 ·obtain ⟨cur,hb⟩:=own_cells h.x q
  rw [hb] at hk;injection hk with hk;injection hk with _ hk;exact ht.2.2.2.2 hk.symm
structure Kw (wb : Nat) (V : Vs) (W : World) (V' : Vs) (W' : World) : Prop where
 k : Kpt (OwnW wb V) W W'
 n : ∀ i,OwnW wb V' i→OwnW wb V i ∨ W.heap.size ≤ i
theorem Kw.trans {wb : Nat} {V V1 V2 : Vs} {W W1 W2 : World} (h : Kw wb V W V1 W1) (g : Kw wb V1 W1 V2 W2) : Kw wb V W V2 W2 :=
 ⟨h.k.trans g.k fun i hi q=>(h.n i q).elim id (fun w=>absurd hi (by omega)),fun i q=>(g.n i q).elim (h.n i) (fun w=>.inr (Nat.le_trans h.k.size w))⟩
theorem Kw.of {wb : Nat} {V : Vs} {W W' : World} (h : Below W.heap.size W W') : Kw wb V W V W':=⟨Kpt.of h,fun _ q=>.inl q⟩
theorem Kw.refl (wb : Nat) (V : Vs) (W : World) : Kw wb V W V W:=Kw.of (Below.refl _ _)
theorem Kw.size {wb : Nat} {V V' : Vs} {W W' : World} (h : Kw wb V W V' W') : W.heap.size ≤ W'.heap.size:=h.k.size
theorem Wv.kept {wb B : Nat} {W W' : World} {d : Dw} {V V' : Vs} (h : Wv wb B W d V) (q : Kw wb V W V' W') {k : Nat} {cs : Array Value} {t : TypeId} {fr : Nat × Nat} (hk : W.heap[k]?=some (.cells cs t fr)) (ht : t ≠ 62∧t ≠ 43∧t ≠ 37∧t ≠ 128∧t ≠ 9) : W'.heap[k]?=some (.cells cs t fr) :=
 (q.k.block k (gl hk) (h.far hk ht)).trans hk
theorem Wv.below {wb B : Nat} {W W' : World} {d : Dw} {V V' : Vs} (h : Wv wb B W d V) (q : Kw wb V W V' W') : Below B W W':=q.k.bel h.b (fun k hk w=>absurd (h.ge w) (by omega))
theorem Wv.lat {wb B : Nat} {W W' : World} {d : Dw} {V V' : Vs} (h : Wv wb B W d V) (q : Kw wb V W V' W') {v : Value} {ks : List Nd} (hx : LAt W (fun b=>b < B) v ks) : LAt W' (fun b=>b < B) v ks :=
 hx.keep q.size (fun b hb _=>(h.below q).block b hb)
theorem Wv.bel {wb B : Nat} {W W' : World} {d : Dw} {V : Vs} (h : Wv wb B W d V) (b : Below W.heap.size W W') : Wv wb B W' d V :=
 ⟨(b.block _ (gl h.r)).trans h.r,rw_keep h.t fun k hk=>b.block k (rw_lt h.t k hk).2,rw_keep h.u fun k hk=>b.block k (rw_lt h.u k hk).2,rw_keep h.l fun k hk=>b.block k (rw_lt h.l k hk).2,rw_keep h.x fun k hk=>b.block k (rw_lt h.x k hk).2,Nat.le_trans h.b b.size,h.hb⟩
theorem box8 {w : World} {b : Nat} {p0 p1 p2 p3 p4 p5 p6 p7 : Value} {t : TypeId} (h : w.heap[b]?=some (.cells #[p0,p1,p2,p3,p4,p5,p6,p7] t (0,0))) :
 (w.cell? ⟨b,0,none⟩=some p0∧w.cell? ⟨b,1,none⟩=some p1∧w.cell? ⟨b,2,none⟩=some p2∧w.cell? ⟨b,3,none⟩=some p3∧w.cell? ⟨b,4,none⟩=some p4∧w.cell? ⟨b,5,none⟩=some p5∧w.cell? ⟨b,6,none⟩=some p6∧w.cell? ⟨b,7,none⟩=some p7)∧(∀ i,w.frozen? ⟨b,i,none⟩=false):=by
 refine ⟨by simp [World.cell?,h],fun i=>by simp [World.frozen?,h]⟩
theorem Wv.rows {wb B : Nat} {W : World} {d : Dw} {V : Vs} (h : Wv wb B W d V) (i : Nat) (v : Value) :
 (W.setCell ⟨wb,i,none⟩ v).ownsRow B 43 5 V.t d.tops.length (tpV d.tops)∧(W.setCell ⟨wb,i,none⟩ v).ownsRow B 37 5 V.u d.uses.length (usV d.uses) ∧
  (W.setCell ⟨wb,i,none⟩ v).ownsRow B 128 3 V.l d.locs.length (loV d.locs)∧(W.setCell ⟨wb,i,none⟩ v).ownsRow B 9 1 V.x d.exs.length (stV d.exs):=by
 have hr:=h.r
 refine ⟨rw_keep h.t fun k hk=>Below.heap_setCell _ _ _ _ (fun e=>?_),rw_keep h.u fun k hk=>Below.heap_setCell _ _ _ _ (fun e=>?_),rw_keep h.l fun k hk=>Below.heap_setCell _ _ _ _ (fun e=>?_),rw_keep h.x fun k hk=>Below.heap_setCell _ _ _ _ (fun e=>?_)⟩
 ·have e : k=wb:=e
  subst e
  obtain ⟨cur,hb⟩:=own_cells h.t hk
  rw [hr] at hb;injection hb with hb;injection hb with _ hb;exact absurd hb (by decide)
 ·have e : k=wb:=e
  subst e
  obtain ⟨cur,hb⟩:=own_cells h.u hk
  rw [hr] at hb;injection hb with hb;injection hb with _ hb;exact absurd hb (by decide)
 ·have e : k=wb:=e
  subst e
  obtain ⟨cur,hb⟩:=own_cells h.l hk
  rw [hr] at hb;injection hb with hb;injection hb with _ hb;exact absurd hb (by decide)
 ·have e : k=wb:=e
  subst e
  obtain ⟨cur,hb⟩:=own_cells h.x hk
  rw [hr] at hb;injection hb with hb;injection hb with _ hb;exact absurd hb (by decide)
theorem Kw.set {wb : Nat} {V V' : Vs} (W : World) (i : Nat) (v : Value) (hV : ∀ k,OwnW wb V' k→OwnW wb V k) : Kw wb V W V' (W.setCell ⟨wb,i,none⟩ v):=⟨Kpt.set (M:=OwnW wb V) _ _ _ _ (.inl rfl),fun k q=>.inl (hV k q)⟩
theorem Wv.setThis {wb B : Nat} {W : World} {d : Dw} {V : Vs} (h : Wv wb B W d V) (b : Bool) : Wv wb B (W.setCell ⟨wb,3,none⟩ (.bool b)) { d with this:=b } V∧Kw wb V W V (W.setCell ⟨wb,3,none⟩ (.bool b)):=by
 obtain ⟨h1,h2,h3,h4⟩:=h.rows 3 (.bool b)
 exact ⟨⟨by simp [World.setCell,Array.getElem?_modify,h.r],h1,h2,h3,h4,by simp [World.setCell];exact h.b,h.hb⟩,Kw.set _ _ _ (fun _ q=>q)⟩
theorem Wv.setIns {wb B : Nat} {W : World} {d : Dw} {V : Vs} (h : Wv wb B W d V) (b : Bool) : Wv wb B (W.setCell ⟨wb,4,none⟩ (.bool b)) { d with ins:=b } V∧Kw wb V W V (W.setCell ⟨wb,4,none⟩ (.bool b)):=by
 obtain ⟨h1,h2,h3,h4⟩:=h.rows 4 (.bool b)
 exact ⟨⟨by simp [World.setCell,Array.getElem?_modify,h.r],h1,h2,h3,h4,by simp [World.setCell];exact h.b,h.hb⟩,Kw.set _ _ _ (fun _ q=>q)⟩
theorem Wv.setAt {wb B : Nat} {W : World} {d : Dw} {V : Vs} (h : Wv wb B W d V) (b : Int) : Wv wb B (W.setCell ⟨wb,5,none⟩ (.int .i64 b)) { d with at_:=b } V∧Kw wb V W V (W.setCell ⟨wb,5,none⟩ (.int .i64 b)):=by
 obtain ⟨h1,h2,h3,h4⟩:=h.rows 5 (.int .i64 b)
 exact ⟨⟨by simp [World.setCell,Array.getElem?_modify,h.r],h1,h2,h3,h4,by simp [World.setCell];exact h.b,h.hb⟩,Kw.set _ _ _ (fun _ q=>q)⟩
theorem Wv.setEr {wb B : Nat} {W : World} {d : Dw} {V : Vs} (h : Wv wb B W d V) (b : Int) : Wv wb B (W.setCell ⟨wb,6,none⟩ (.int .i64 b)) { d with er:=b } V∧Kw wb V W V (W.setCell ⟨wb,6,none⟩ (.int .i64 b)):=by
 obtain ⟨h1,h2,h3,h4⟩:=h.rows 6 (.int .i64 b)
 exact ⟨⟨by simp [World.setCell,Array.getElem?_modify,h.r],h1,h2,h3,h4,by simp [World.setCell];exact h.b,h.hb⟩,Kw.set _ _ _ (fun _ q=>q)⟩
theorem loV_len : ∀ L : List Lo,(loV L).length=L.length * 3
 | []=>rfl
 | c :: L=>by
  have:=loV_len L
  unfold loV at this ⊢
  rw [List.flatMap_cons,List.length_append,this,List.length_cons]
  show 3+_=_
  omega
theorem loV_take : ∀ (L : List Lo) (n : Nat),loV (L.take n)=(loV L).take (n * 3)
 | [],n=>by simp [loV]
 | c :: L,0=>by simp [loV]
 | c :: L,n+1=>by
  have ih:=loV_take L n
  unfold loV at ih ⊢
  rw [List.take_succ_cons,List.flatMap_cons,List.flatMap_cons,ih,show (n+1) * 3=c.cs.length+n * 3 by show _=3+_;omega,List.take_length_add_append]
theorem own_cut {w : World} {base : Nat} {e : TypeId} {L : List Lo} {a : Option Addr} {c : Nat} (h : w.ownsRow base e 3 (.slice a L.length c) L.length (loV L)) (n : Nat) (hn : n ≤ L.length) : w.ownsRow base e 3 (.slice a n c) (L.take n).length (loV (L.take n)):=by
 obtain ⟨h1,h2⟩:=h
 refine ⟨loV_len _,?_⟩
 have hl : (L.take n).length=n:=by rw [List.length_take];omega
 rw [hl]
 rcases h2 with ⟨h0,h0'⟩ | ⟨g,cap,cur,hv,hg,hh,hn',hcap,hsz,htake⟩
 ·injection h0 with e1 e2 e3
  left
  rw [e1,e3]
  exact ⟨by rw [show n=0 by omega],by omega⟩
 ·injection hv with e1 e2 e3
  refine .inr ⟨g,cap,cur,by rw [e1,e3],hg,hh,by omega,hcap,hsz,?_⟩
  rw [loV_take,← htake,List.take_take,Nat.min_eq_left (Nat.mul_le_mul_right _ hn)]
theorem Wv.cut {wb B : Nat} {W : World} {d : Dw} {V : Vs} (h : Wv wb B W d V) {a : Option Addr} {c : Nat} (e : V.l = .slice a d.locs.length c) (n : Nat) (hn : n ≤ d.locs.length) :
 Wv wb B (W.setCell ⟨wb,2,none⟩ (.slice a n c)) { d with locs:=d.locs.take n } { V with l:=.slice a n c }∧Kw wb V W { V with l:=.slice a n c } (W.setCell ⟨wb,2,none⟩ (.slice a n c)):=by
 obtain ⟨h1,h2,h3,h4⟩:=h.rows 2 (.slice a n c)
 rw [e] at h3
 refine ⟨⟨by simp [World.setCell,Array.getElem?_modify,h.r],h1,h2,own_cut h3 n hn,h4,by simp [World.setCell];exact h.b,h.hb⟩,Kw.set _ _ _ (fun k q=>?_)⟩
 rcases q with q | q | q | q | q
 ·exact .inl q
 ·exact .inr (.inl q)
 ·exact .inr (.inr (.inl q))
 ·refine .inr (.inr (.inr (.inl ?_)))
  rw [e]
  cases a with
  | none=>cases q
  | some a=>exact q
 ·exact .inr (.inr (.inr (.inr q)))
theorem Wv.push_t {wb B gg cap : Nat} {W W1 W3 : World} {d : Dw} {V : Vs} (h : Wv wb B W d V) (b : Below W.heap.size W W1) (y : Tp)
 (r1 : W3.ownsRow B 43 5 (.slice (some ⟨gg,0,none⟩) (d.tops.length+1) cap) (d.tops.length+1) (tpV d.tops ++ y.cs)) (r2 : W1.grownBy W3 V.t.ownBlock) (r3 : V.t.ownBlock=some gg ∨ gg=W1.heap.size) :
 Wv wb B (W3.setCell ⟨wb,0,none⟩ (.slice (some ⟨gg,0,none⟩) (d.tops.length+1) cap)) { d with tops:=d.tops ++ [y] } { V with t:=(.slice (some ⟨gg,0,none⟩) (d.tops.length+1) cap) }∧Kw wb V W { V with t:=(.slice (some ⟨gg,0,none⟩) (d.tops.length+1) cap) } (W3.setCell ⟨wb,0,none⟩ (.slice (some ⟨gg,0,none⟩) (d.tops.length+1) cap))∧W3.heap[wb]?=W.heap[wb]?:=by
 have s1:=b.size
 have hw:=(gl h.r)
 have kb : ∀ {k : Nat} {cs : Array Value} {t : TypeId} {fr : Nat × Nat},W.heap[k]?=some (Obj.cells cs t fr)→t ≠ 43→W3.heap[k]?=W.heap[k]?:=fun {k cs t fr} hk ht=>by
  have hl:=(gl hk)
  refine (r2.block k (by omega) (fun e=>?_)).trans (b.block k hl)
  obtain ⟨cur,hb⟩:=own_cells h.t e.symm
  rw [hb] at hk;injection hk with hk;injection hk with _ hk;exact ht hk.symm
 have hr3:=kb h.r (by decide)
 have gne : gg ≠ wb:=fun e=>by
  rcases r3 with q | q
  ·obtain ⟨cur,hb⟩:=own_cells h.t q
   rw [e,h.r] at hb;injection hb with hb;injection hb with _ hb;exact absurd hb (by decide)
  ·omega
 have oth : ∀ {t : TypeId} (k : Nat),(∃ cur,W.heap[k]?=some (Obj.cells cur t (0,0)))→t ≠ 43→t ≠ 62→(W3.setCell ⟨wb,0,none⟩ (.slice (some ⟨gg,0,none⟩) (d.tops.length+1) cap)).heap[k]?=W.heap[k]?:=fun {t} k q ht hW=>by
  obtain ⟨cur,hb⟩:=q
  have ne : k ≠ wb:=fun e=>by rw [e,h.r] at hb;injection hb with hb;injection hb with _ hb;exact hW hb.symm
  exact (Below.heap_setCell _ _ _ _ ne).trans (kb hb ht)
 have r1' : W3.ownsRow B 43 5 (.slice (some ⟨gg,0,none⟩) (d.tops.length+1) cap) (d.tops ++ [y]).length (tpV (d.tops ++ [y])):=by
  rw [tpV_app,List.length_append]
  have : tpV [y]=y.cs:=by unfold tpV;simp
  rw [this]
  exact r1
 have kp : Kpt (OwnW wb V) W W3:=(Kpt.of b).trans (Kpt.grown (M:=OwnW wb V) r2 (fun k e=>.inr (.inl e))) (fun _ _ q=>q)
 refine ⟨⟨?_,?_,rw_keep h.u fun k hk=>oth k (own_cells h.u hk) (by decide) (by decide),rw_keep h.l fun k hk=>oth k (own_cells h.l hk) (by decide) (by decide),rw_keep h.x fun k hk=>oth k (own_cells h.x hk) (by decide) (by decide),by have:=kp.size;have:=h.b;simp [World.setCell];omega,h.hb⟩,⟨kp.trans (Kpt.set (M:=OwnW wb V) _ _ _ _ (.inl rfl)) (fun _ _ q=>q),fun k q=>?_⟩,hr3⟩
 ·have : W3.heap[wb]?=_:=hr3.trans h.r
  simp [World.setCell,Array.getElem?_modify,this]
 ·refine rw_keep r1' fun k hk=>Below.heap_setCell _ _ _ _ (fun e=>?_)
  have hk : gg=k:=by simpa [Value.ownBlock] using hk
  have e : k=wb:=e
  exact gne (hk.trans e)
 ·rcases q with q | q | q | q | q
  ·exact .inl (.inl q)
  ·have e : gg=k:=by simpa [Value.ownBlock] using q
   subst e
   rcases r3 with e | e
   ·exact .inl (.inr (.inl e))
   ·exact .inr (by omega)
  ·exact .inl (.inr (.inr (.inl q)))
  ·exact .inl (.inr (.inr (.inr (.inl q))))
  ·exact .inl (.inr (.inr (.inr (.inr q))))
theorem Wv.push_u {wb B gg cap : Nat} {W W1 W3 : World} {d : Dw} {V : Vs} (h : Wv wb B W d V) (b : Below W.heap.size W W1) (y : Us)
 (r1 : W3.ownsRow B 37 5 (.slice (some ⟨gg,0,none⟩) (d.uses.length+1) cap) (d.uses.length+1) (usV d.uses ++ y.cs)) (r2 : W1.grownBy W3 V.u.ownBlock) (r3 : V.u.ownBlock=some gg ∨ gg=W1.heap.size) :
 Wv wb B (W3.setCell ⟨wb,1,none⟩ (.slice (some ⟨gg,0,none⟩) (d.uses.length+1) cap)) { d with uses:=d.uses ++ [y] } { V with u:=(.slice (some ⟨gg,0,none⟩) (d.uses.length+1) cap) }∧Kw wb V W { V with u:=(.slice (some ⟨gg,0,none⟩) (d.uses.length+1) cap) } (W3.setCell ⟨wb,1,none⟩ (.slice (some ⟨gg,0,none⟩) (d.uses.length+1) cap))∧W3.heap[wb]?=W.heap[wb]?:=by
 have s1:=b.size
 have hw:=(gl h.r)
 have kb : ∀ {k : Nat} {cs : Array Value} {t : TypeId} {fr : Nat × Nat},W.heap[k]?=some (Obj.cells cs t fr)→t ≠ 37→W3.heap[k]?=W.heap[k]?:=fun {k cs t fr} hk ht=>by
  have hl:=(gl hk)
  refine (r2.block k (by omega) (fun e=>?_)).trans (b.block k hl)
  obtain ⟨cur,hb⟩:=own_cells h.u e.symm
  rw [hb] at hk;injection hk with hk;injection hk with _ hk;exact ht hk.symm
 have hr3:=kb h.r (by decide)
 have gne : gg ≠ wb:=fun e=>by
  rcases r3 with q | q
  ·obtain ⟨cur,hb⟩:=own_cells h.u q
   rw [e,h.r] at hb;injection hb with hb;injection hb with _ hb;exact absurd hb (by decide)
  ·omega
 have oth : ∀ {t : TypeId} (k : Nat),(∃ cur,W.heap[k]?=some (Obj.cells cur t (0,0)))→t ≠ 37→t ≠ 62→(W3.setCell ⟨wb,1,none⟩ (.slice (some ⟨gg,0,none⟩) (d.uses.length+1) cap)).heap[k]?=W.heap[k]?:=fun {t} k q ht hW=>by
  obtain ⟨cur,hb⟩:=q
  have ne : k ≠ wb:=fun e=>by rw [e,h.r] at hb;injection hb with hb;injection hb with _ hb;exact hW hb.symm
  exact (Below.heap_setCell _ _ _ _ ne).trans (kb hb ht)
 have r1' : W3.ownsRow B 37 5 (.slice (some ⟨gg,0,none⟩) (d.uses.length+1) cap) (d.uses ++ [y]).length (usV (d.uses ++ [y])):=by
  rw [usV_app,List.length_append]
  have : usV [y]=y.cs:=by unfold usV;simp
  rw [this]
  exact r1
 have kp : Kpt (OwnW wb V) W W3:=(Kpt.of b).trans (Kpt.grown (M:=OwnW wb V) r2 (fun k e=>.inr (.inr (.inl e)))) (fun _ _ q=>q)
 refine ⟨⟨?_,rw_keep h.t fun k hk=>oth k (own_cells h.t hk) (by decide) (by decide),?_,rw_keep h.l fun k hk=>oth k (own_cells h.l hk) (by decide) (by decide),rw_keep h.x fun k hk=>oth k (own_cells h.x hk) (by decide) (by decide),by have:=kp.size;have:=h.b;simp [World.setCell];omega,h.hb⟩,⟨kp.trans (Kpt.set (M:=OwnW wb V) _ _ _ _ (.inl rfl)) (fun _ _ q=>q),fun k q=>?_⟩,hr3⟩
 ·have : W3.heap[wb]?=_:=hr3.trans h.r
  simp [World.setCell,Array.getElem?_modify,this]
 ·refine rw_keep r1' fun k hk=>Below.heap_setCell _ _ _ _ (fun e=>?_)
  have hk : gg=k:=by simpa [Value.ownBlock] using hk
  have e : k=wb:=e
  exact gne (hk.trans e)
 ·rcases q with q | q | q | q | q
  ·exact .inl (.inl q)
  ·exact .inl (.inr (.inl q))
  ·have e : gg=k:=by simpa [Value.ownBlock] using q
   subst e
   rcases r3 with e | e
   ·exact .inl (.inr (.inr (.inl e)))
   ·exact .inr (by omega)
  ·exact .inl (.inr (.inr (.inr (.inl q))))
  ·exact .inl (.inr (.inr (.inr (.inr q))))
theorem Wv.push_l {wb B gg cap : Nat} {W W1 W3 : World} {d : Dw} {V : Vs} (h : Wv wb B W d V) (b : Below W.heap.size W W1) (y : Lo)
 (r1 : W3.ownsRow B 128 3 (.slice (some ⟨gg,0,none⟩) (d.locs.length+1) cap) (d.locs.length+1) (loV d.locs ++ y.cs)) (r2 : W1.grownBy W3 V.l.ownBlock) (r3 : V.l.ownBlock=some gg ∨ gg=W1.heap.size) :
 Wv wb B (W3.setCell ⟨wb,2,none⟩ (.slice (some ⟨gg,0,none⟩) (d.locs.length+1) cap)) { d with locs:=d.locs ++ [y] } { V with l:=(.slice (some ⟨gg,0,none⟩) (d.locs.length+1) cap) }∧Kw wb V W { V with l:=(.slice (some ⟨gg,0,none⟩) (d.locs.length+1) cap) } (W3.setCell ⟨wb,2,none⟩ (.slice (some ⟨gg,0,none⟩) (d.locs.length+1) cap))∧W3.heap[wb]?=W.heap[wb]?:=by
 have s1:=b.size
 have hw:=(gl h.r)
 have kb : ∀ {k : Nat} {cs : Array Value} {t : TypeId} {fr : Nat × Nat},W.heap[k]?=some (Obj.cells cs t fr)→t ≠ 128→W3.heap[k]?=W.heap[k]?:=fun {k cs t fr} hk ht=>by
  have hl:=(gl hk)
  refine (r2.block k (by omega) (fun e=>?_)).trans (b.block k hl)
  obtain ⟨cur,hb⟩:=own_cells h.l e.symm
  rw [hb] at hk;injection hk with hk;injection hk with _ hk;exact ht hk.symm
 have hr3:=kb h.r (by decide)
 have gne : gg ≠ wb:=fun e=>by
  rcases r3 with q | q
  ·obtain ⟨cur,hb⟩:=own_cells h.l q
   rw [e,h.r] at hb;injection hb with hb;injection hb with _ hb;exact absurd hb (by decide)
  ·omega
 have oth : ∀ {t : TypeId} (k : Nat),(∃ cur,W.heap[k]?=some (Obj.cells cur t (0,0)))→t ≠ 128→t ≠ 62→(W3.setCell ⟨wb,2,none⟩ (.slice (some ⟨gg,0,none⟩) (d.locs.length+1) cap)).heap[k]?=W.heap[k]?:=fun {t} k q ht hW=>by
  obtain ⟨cur,hb⟩:=q
  have ne : k ≠ wb:=fun e=>by rw [e,h.r] at hb;injection hb with hb;injection hb with _ hb;exact hW hb.symm
  exact (Below.heap_setCell _ _ _ _ ne).trans (kb hb ht)
 have r1' : W3.ownsRow B 128 3 (.slice (some ⟨gg,0,none⟩) (d.locs.length+1) cap) (d.locs ++ [y]).length (loV (d.locs ++ [y])):=by
  rw [loV_app,List.length_append]
  have : loV [y]=y.cs:=by unfold loV;simp
  rw [this]
  exact r1
 have kp : Kpt (OwnW wb V) W W3:=(Kpt.of b).trans (Kpt.grown (M:=OwnW wb V) r2 (fun k e=>.inr (.inr (.inr (.inl e))))) (fun _ _ q=>q)
 refine ⟨⟨?_,rw_keep h.t fun k hk=>oth k (own_cells h.t hk) (by decide) (by decide),rw_keep h.u fun k hk=>oth k (own_cells h.u hk) (by decide) (by decide),?_,rw_keep h.x fun k hk=>oth k (own_cells h.x hk) (by decide) (by decide),by have:=kp.size;have:=h.b;simp [World.setCell];omega,h.hb⟩,⟨kp.trans (Kpt.set (M:=OwnW wb V) _ _ _ _ (.inl rfl)) (fun _ _ q=>q),fun k q=>?_⟩,hr3⟩
 ·have : W3.heap[wb]?=_:=hr3.trans h.r
  simp [World.setCell,Array.getElem?_modify,this]
 ·refine rw_keep r1' fun k hk=>Below.heap_setCell _ _ _ _ (fun e=>?_)
  have hk : gg=k:=by simpa [Value.ownBlock] using hk
  have e : k=wb:=e
  exact gne (hk.trans e)
 ·rcases q with q | q | q | q | q
  ·exact .inl (.inl q)
  ·exact .inl (.inr (.inl q))
  ·exact .inl (.inr (.inr (.inl q)))
  ·have e : gg=k:=by simpa [Value.ownBlock] using q
   subst e
   rcases r3 with e | e
   ·exact .inl (.inr (.inr (.inr (.inl e))))
   ·exact .inr (by omega)
  ·exact .inl (.inr (.inr (.inr (.inr q))))
theorem Wv.push_x {wb B gg cap : Nat} {W W1 W3 : World} {d : Dw} {V : Vs} (h : Wv wb B W d V) (b : Below W.heap.size W W1) (y : ByteArray)
 (r1 : W3.ownsRow B 9 1 (.slice (some ⟨gg,0,none⟩) (d.exs.length+1) cap) (d.exs.length+1) (stV d.exs ++ [.string y])) (r2 : W1.grownBy W3 V.x.ownBlock) (r3 : V.x.ownBlock=some gg ∨ gg=W1.heap.size) :
 Wv wb B (W3.setCell ⟨wb,7,none⟩ (.slice (some ⟨gg,0,none⟩) (d.exs.length+1) cap)) { d with exs:=d.exs ++ [y] } { V with x:=(.slice (some ⟨gg,0,none⟩) (d.exs.length+1) cap) }∧Kw wb V W { V with x:=(.slice (some ⟨gg,0,none⟩) (d.exs.length+1) cap) } (W3.setCell ⟨wb,7,none⟩ (.slice (some ⟨gg,0,none⟩) (d.exs.length+1) cap))∧W3.heap[wb]?=W.heap[wb]?:=by
 have s1:=b.size
 have hw:=(gl h.r)
 have kb : ∀ {k : Nat} {cs : Array Value} {t : TypeId} {fr : Nat × Nat},W.heap[k]?=some (Obj.cells cs t fr)→t ≠ 9→W3.heap[k]?=W.heap[k]?:=fun {k cs t fr} hk ht=>by
  have hl:=(gl hk)
  refine (r2.block k (by omega) (fun e=>?_)).trans (b.block k hl)
  obtain ⟨cur,hb⟩:=own_cells h.x e.symm
  rw [hb] at hk;injection hk with hk;injection hk with _ hk;exact ht hk.symm
 have hr3:=kb h.r (by decide)
 have gne : gg ≠ wb:=fun e=>by
  rcases r3 with q | q
  ·obtain ⟨cur,hb⟩:=own_cells h.x q
   rw [e,h.r] at hb;injection hb with hb;injection hb with _ hb;exact absurd hb (by decide)
  ·omega
 have oth : ∀ {t : TypeId} (k : Nat),(∃ cur,W.heap[k]?=some (Obj.cells cur t (0,0)))→t ≠ 9→t ≠ 62→(W3.setCell ⟨wb,7,none⟩ (.slice (some ⟨gg,0,none⟩) (d.exs.length+1) cap)).heap[k]?=W.heap[k]?:=fun {t} k q ht hW=>by
  obtain ⟨cur,hb⟩:=q
  have ne : k ≠ wb:=fun e=>by rw [e,h.r] at hb;injection hb with hb;injection hb with _ hb;exact hW hb.symm
  exact (Below.heap_setCell _ _ _ _ ne).trans (kb hb ht)
 have r1' : W3.ownsRow B 9 1 (.slice (some ⟨gg,0,none⟩) (d.exs.length+1) cap) (d.exs ++ [y]).length (stV (d.exs ++ [y])):=by
  rw [stV_app,List.length_append]
  have : stV [y]=[.string y]:=by unfold stV;simp
  rw [this]
  exact r1
 have kp : Kpt (OwnW wb V) W W3:=(Kpt.of b).trans (Kpt.grown (M:=OwnW wb V) r2 (fun k e=>.inr (.inr (.inr (.inr e))))) (fun _ _ q=>q)
 refine ⟨⟨?_,rw_keep h.t fun k hk=>oth k (own_cells h.t hk) (by decide) (by decide),rw_keep h.u fun k hk=>oth k (own_cells h.u hk) (by decide) (by decide),rw_keep h.l fun k hk=>oth k (own_cells h.l hk) (by decide) (by decide),?_,by have:=kp.size;have:=h.b;simp [World.setCell];omega,h.hb⟩,⟨kp.trans (Kpt.set (M:=OwnW wb V) _ _ _ _ (.inl rfl)) (fun _ _ q=>q),fun k q=>?_⟩,hr3⟩
 ·have : W3.heap[wb]?=_:=hr3.trans h.r
  simp [World.setCell,Array.getElem?_modify,this]
 ·refine rw_keep r1' fun k hk=>Below.heap_setCell _ _ _ _ (fun e=>?_)
  have hk : gg=k:=by simpa [Value.ownBlock] using hk
  have e : k=wb:=e
  exact gne (hk.trans e)
 ·rcases q with q | q | q | q | q
  ·exact .inl (.inl q)
  ·exact .inl (.inr (.inl q))
  ·exact .inl (.inr (.inr (.inl q)))
  ·exact .inl (.inr (.inr (.inr (.inl q))))
  ·have e : gg=k:=by simpa [Value.ownBlock] using q
   subst e
   rcases r3 with e | e
   ·exact .inl (.inr (.inr (.inr (.inr e))))
   ·exact .inr (by omega)
set_option maxRecDepth 100000
set_option maxHeartbeats 8000000
theorem flat_at {α : Type} (f : α→List Value) (z : Nat) (hf : ∀ a,(f a).length=z) : ∀ (L : List α) (k i : Nat) (hk : k < L.length),i < z→(L.flatMap f)[k * z+i]?=(f L[k])[i]?
 | a :: L,0,i,hk,hi=>by
  rw [List.flatMap_cons,Nat.zero_mul,Nat.zero_add,List.getElem?_append_left (by rw [hf];exact hi)]
  rfl
 | a :: L,k+1,i,hk,hi=>by
  have:=flat_at f z hf L k i (by simpa using hk) hi
  rw [List.flatMap_cons,List.getElem?_append_right (by rw [hf,Nat.add_mul];omega),hf,show (k+1) * z+i - z=k * z+i by rw [Nat.add_mul];omega,this]
  rfl
theorem own_row {α : Type} {w : World} {base z : Nat} {e : TypeId} {v : Value} (f : α→List Value) (hf : ∀ a,(f a).length=z) {L : List α} (h : w.ownsRow base e z v L.length (L.flatMap f)) {k : Nat} (hk : k < L.length) :
 ∃ g c,v = .slice (some ⟨g,0,none⟩) L.length c∧∀ i,i < z→w.cell? ⟨g,k * z+i,none⟩=(f L[k])[i]?:=by
 rcases h.2 with ⟨rfl,h0⟩ | ⟨g,cap,cur,rfl,h1,h2,h3,_⟩
 ·omega
 ·refine ⟨g,cap,rfl,fun i hi=>?_⟩
  have hlt : k * z+i < L.length * z:=by
   have : (k+1) * z ≤ L.length * z:=Nat.mul_le_mul_right _ hk
   rw [Nat.add_mul] at this
   omega
  rw [World.ownsRow.cellAt h _ hlt,flat_at f z hf L k i hk hi]
theorem tp_at {w : World} {base : Nat} {e : TypeId} {v : Value} {T : List Tp} (h : w.ownsRow base e 5 v T.length (tpV T)) {k : Nat} (hk : k < T.length) :
 ∃ g c,v = .slice (some ⟨g,0,none⟩) T.length c∧w.cell? ⟨g,k * 5,none⟩=some (.string T[k].nm)∧w.cell? ⟨g,k * 5+1,none⟩=some (.int .i64 T[k].kd)∧w.cell? ⟨g,k * 5+2,none⟩=some (.int .i64 T[k].at_)∧w.cell? ⟨g,k * 5+3,none⟩=some (.int .i64 T[k].it)∧w.cell? ⟨g,k * 5+4,none⟩=some (.bool T[k].cn):=by
 obtain ⟨g,c,e,q⟩:=own_row Tp.cs (fun _=>rfl) h hk
 exact ⟨g,c,e,q 0 (by omega),q 1 (by omega),q 2 (by omega),q 3 (by omega),q 4 (by omega)⟩
theorem us_at {w : World} {base : Nat} {e : TypeId} {v : Value} {T : List Us} (h : w.ownsRow base e 5 v T.length (usV T)) {k : Nat} (hk : k < T.length) :
 ∃ g c,v = .slice (some ⟨g,0,none⟩) T.length c∧w.cell? ⟨g,k * 5,none⟩=some (.int .i64 T[k].at_)∧w.cell? ⟨g,k * 5+1,none⟩=some (.int .i64 T[k].kd)∧w.cell? ⟨g,k * 5+2,none⟩=some (.int .i64 T[k].dc)∧w.cell? ⟨g,k * 5+3,none⟩=some (.string T[k].nm)∧w.cell? ⟨g,k * 5+4,none⟩=some (.bool T[k].ty):=by
 obtain ⟨g,c,e,q⟩:=own_row Us.cs (fun _=>rfl) h hk
 exact ⟨g,c,e,q 0 (by omega),q 1 (by omega),q 2 (by omega),q 3 (by omega),q 4 (by omega)⟩
theorem lo_at {w : World} {base : Nat} {e : TypeId} {v : Value} {T : List Lo} (h : w.ownsRow base e 3 v T.length (loV T)) {k : Nat} (hk : k < T.length) :
 ∃ g c,v = .slice (some ⟨g,0,none⟩) T.length c∧w.cell? ⟨g,k * 3,none⟩=some (.string T[k].nm)∧w.cell? ⟨g,k * 3+1,none⟩=some (.int .i64 T[k].pl)∧w.cell? ⟨g,k * 3+2,none⟩=some (.bool T[k].fr):=by
 obtain ⟨g,c,e,q⟩:=own_row Lo.cs (fun _=>rfl) h hk
 exact ⟨g,c,e,q 0 (by omega),q 1 (by omega),q 2 (by omega)⟩
theorem st_at {w : World} {base : Nat} {e : TypeId} {v : Value} {T : List ByteArray} (h : w.ownsRow base e 1 v T.length (stV T)) {k : Nat} (hk : k < T.length) :
 ∃ g c,v = .slice (some ⟨g,0,none⟩) T.length c∧w.cell? ⟨g,k,none⟩=some (.string T[k]):=by
 rcases h.2 with ⟨rfl,h0⟩ | ⟨g,cap,cur,rfl,h1,h2,h3,_⟩
 ·omega
 ·refine ⟨g,cap,rfl,?_⟩
  rw [World.ownsRow.cellAt h k (by omega)]
  unfold stV
  rw [List.getElem?_map,List.getElem?_eq_getElem hk]
  rfl
theorem wfail_any {wb B : Nat} {W : World} {d : Dw} {V : Vs} (h : Wv wb B W d V) (p e : Int) :
 Calls Tryz.prog 79 #[.pointer (some ⟨wb,0,none⟩),.int .i64 p,.int .i64 e] W fun r W'=>r = .returned (.tuple #[])∧Wv wb B W' (d.fail p e) V∧Kw wb V W V W':=by
 obtain ⟨⟨c0,c1,c2,c3,c4,c5,c6,c7⟩,fz⟩:=box8 h.r
 have f5:=fz 5
 have f6:=fz 6
 have yes : d.er=0 ∨ p < d.at_→Wv wb B ((W.setCell ⟨wb,5,none⟩ (.int .i64 p)).setCell ⟨wb,6,none⟩ (.int .i64 e)) (d.fail p e) V∧Kw wb V W V ((W.setCell ⟨wb,5,none⟩ (.int .i64 p)).setCell ⟨wb,6,none⟩ (.int .i64 e)):=fun q=>by
  unfold Dw.fail
  rw [if_pos q]
  obtain ⟨h1,k1⟩:=h.setAt p
  obtain ⟨h2,k2⟩:=h1.setEr e
  exact ⟨h2,k1.trans k2⟩
 have HY : Hid (d.er=0 ∨ p < d.at_→Wv wb B ((W.setCell ⟨wb,5,none⟩ (.int .i64 p)).setCell ⟨wb,6,none⟩ (.int .i64 e)) (d.fail p e) V∧Kw wb V W V ((W.setCell ⟨wb,5,none⟩ (.int .i64 p)).setCell ⟨wb,6,none⟩ (.int .i64 e))):=yes
 have HN : Hid (¬ (d.er=0 ∨ p < d.at_)→Wv wb B W (d.fail p e) V):=fun q=>by unfold Dw.fail;rw [if_neg q];exact h
 clear yes h fz
 by_cases q1 : d.er=0
 ·have e1 : (d.er == 0)=true:=by simpa using q1
  have R:=HY.out (.inl q1)
  have HR : Hid _:=R
  clear q1 HY HN R
  generalize d.er=der at *
  go_enter Tryz.func79,Tryz.ntmps79
  go_wp2
  go_end0
  exact ⟨rfl,HR.out⟩
 ·have e1 : (d.er == 0)=false:=by simpa using q1
  by_cases q2 : p < d.at_
  ·have R:=HY.out (.inr q2)
   have HR : Hid _:=R
   clear q1 HY HN R
   generalize d.er=der at *
   go_enter Tryz.func79,Tryz.ntmps79
   go_wp2
   go_end0
   exact ⟨rfl,HR.out⟩
  ·have R:=HN.out (fun w=>w.elim q1 q2)
   have HR : Hid _:=R
   clear q1 HY HN R
   generalize d.er=der at *
   go_enter Tryz.func79,Tryz.ntmps79
   go_wp2
   go_end0
   exact ⟨rfl,HR.out,Kw.refl _ _ _⟩
def TopI (T : List Tp) (nm : ByteArray) (i : Int) : Prop:=(topS T nm=none∧i = -1) ∨ ∃ k : Nat,∃ h : k < T.length,i=(k : Nat)∧topS T nm=some T[k]
theorem wtop_any {wb B : Nat} {W : World} {d : Dw} {V : Vs} (h : Wv wb B W d V) (nm : ByteArray) (hn : d.tops.length ≤ 8388608) :
 Calls Tryz.prog 78 #[.pointer (some ⟨wb,0,none⟩),.string nm] W fun r W'=>W'=W∧∃ i,r = .returned (.int .i64 i)∧TopI d.tops nm i:=by
 obtain ⟨⟨c0,_⟩,_⟩:=box8 h.r
 have ht:=h.t
 have HA : Hid (∀ k (hk : k < d.tops.length),∃ g c,V.t = .slice (some ⟨g,0,none⟩) d.tops.length c∧W.cell? ⟨g,k * 5,none⟩=some (.string d.tops[k].nm)):=fun k hk=>by
  obtain ⟨g,c,e,q,_⟩:=tp_at ht hk
  exact ⟨g,c,e,q⟩
 obtain ⟨a,c,hv⟩:=rw_form ht
 rw [hv] at c0
 have HV : Hid (V.t = .slice a d.tops.length c):=hv
 clear ht h hv
 generalize d.tops=T at *
 go_enter Tryz.func78,Tryz.ntmps78
 go_wp2
 go_loopw [5] (fun v5 wr=>∃ k : Nat,v5 = .int .i64 (k : Nat)∧k ≤ T.length∧wr=W∧Hid (∀ j (hj : j < T.length),j < k→eqT T[j].nm nm=false)) (fun v5 _=>T.length - (intOf v5).toNat)
 case atStart=>exact ⟨0,rfl,by omega,rfl,fun i hi h=>by omega⟩
 case round =>
  obtain ⟨k,rfl,hk,hW,HK⟩:=hrel
  obtain rfl:=hW.symm
  by_cases hkl : k < T.length
  ·obtain ⟨g,c',e',ck⟩:=HA.out k hkl
   rw [HV.out] at e'
   simp only [Value.slice.injEq] at e'
   obtain ⟨rfl,_,rfl⟩:=e'
   have hd : (k : Int) < (T.length : Int):=by omega
   have HN : Hid (eqT T[k].nm nm=false→∀ j (hj : j < T.length),j < k+1→eqT T[j].nm nm=false):=fun h i hi hik=>by
    by_cases e : i=k
    ·subst e;exact h
    ·exact HK.out i hi (by omega)
   have HI : Hid (eqT T[k].nm nm=true→TopI T nm (k : Nat)):=fun h=>by
    refine .inr ⟨k,hkl,rfl,?_⟩
    unfold topS
    rw [List.find?_eq_some_iff_getElem]
    exact ⟨h,k,hkl,rfl,fun j hj=>by rw [HK.out j (by omega) hj];rfl⟩
   unfold eqT at HN HI
   generalize T[k]=z at *
   cases q : (z.nm.toList == nm.toList) with
   | true =>
    have HR:=HI.out q
    have HR' : Hid _:=HR
    clear HN HI HR
    generalize z.nm=zn at *
    go_wp2
    go_ret
    exact ⟨rfl,_,rfl,HR'.out⟩
   | false =>
    have HR:=HN.out q
    have HR' : Hid (∀ j (hj : j < T.length),j < k+1→eqT T[j].nm nm=false):=HR
    clear HN HI HR
    generalize z.nm=zn at *
    go_wp2
    go_roundw
    case rel=>exact ⟨k+1,by simp,by omega,by trivial,HR'⟩
    case measure=>simp [intOf];omega
  ·obtain rfl : k=T.length:=by omega
   have hd : ¬ ((T.length : Nat) : Int) < ((T.length : Nat) : Int):=by omega
   have HR : Hid (topS T nm=none):=by
    show _=_
    unfold topS
    rw [List.find?_eq_none]
    intro x hx
    obtain ⟨j,hj,rfl⟩:=List.mem_iff_getElem.1 hx
    have:=HK.out j hj hj
    simpa using this
   go_wp2
   go_ret
   exact ⟨rfl,_,rfl,.inl ⟨HR.out,rfl⟩⟩
def LocI (T : List Lo) (nm : ByteArray) (i : Int) : Prop:=(locS T nm=none∧i = -1) ∨ ∃ k : Nat,∃ h : k < T.length,i=(k : Nat)∧locS T nm=some T[k]
theorem wlocal_any {wb B : Nat} {W : World} {d : Dw} {V : Vs} (h : Wv wb B W d V) (nm : ByteArray) (hn : d.locs.length ≤ 8388608) :
 Calls Tryz.prog 102 #[.pointer (some ⟨wb,0,none⟩),.string nm] W fun r W'=>W'=W∧∃ i,r = .returned (.int .i64 i)∧LocI d.locs nm i:=by
 obtain ⟨⟨_,_,c0,_⟩,_⟩:=box8 h.r
 have ht:=h.l
 have HA : Hid (∀ k (hk : k < d.locs.length),∃ g c,V.l = .slice (some ⟨g,0,none⟩) d.locs.length c∧W.cell? ⟨g,k * 3,none⟩=some (.string d.locs[k].nm)):=fun k hk=>by
  obtain ⟨g,c,e,q,_⟩:=lo_at ht hk
  exact ⟨g,c,e,q⟩
 obtain ⟨a,c,hv⟩:=rw_form ht
 rw [hv] at c0
 have HV : Hid (V.l = .slice a d.locs.length c):=hv
 clear ht h hv
 generalize d.locs=T at *
 go_enter Tryz.func102,Tryz.ntmps102
 go_wp2
 go_loopw [5] (fun v5 wr=>∃ k : Nat,v5 = .int .i64 ((k : Int) - 1)∧k ≤ T.length∧wr=W∧Hid (∀ j (hj : j < T.length),k ≤ j→eqT T[j].nm nm=false)) (fun v5 _=>(intOf v5+1).toNat)
 case atStart=>exact ⟨T.length,by simp,Nat.le_refl _,rfl,fun i hi h=>by omega⟩
 case round =>
  obtain ⟨k,rfl,hk,hW,HK⟩:=hrel
  obtain rfl:=hW.symm
  cases k with
  | succ k =>
   have hkl : k < T.length:=by omega
   have ek : (((k+1 : Nat) : Int) - 1)=(k : Nat):=by push_cast;omega
   rw [ek]
   obtain ⟨g,c',e',ck⟩:=HA.out k hkl
   rw [HV.out] at e'
   simp only [Value.slice.injEq] at e'
   obtain ⟨rfl,_,rfl⟩:=e'
   have hd : (k : Int) < (T.length : Int):=by omega
   have HN : Hid (eqT T[k].nm nm=false→∀ j (hj : j < T.length),k ≤ j→eqT T[j].nm nm=false):=fun h i hi hik=>by
    by_cases e : i=k
    ·subst e;exact h
    ·exact HK.out i hi (by omega)
   have HI : Hid (eqT T[k].nm nm=true→LocI T nm (k : Nat)):=fun h=>by
    refine .inr ⟨k,hkl,rfl,?_⟩
    unfold locS
    rw [List.find?_eq_some_iff_getElem]
    refine ⟨h,T.length - 1 - k,by simp;omega,by simp only [List.getElem_reverse];congr 1;omega,fun j hj=>?_⟩
    rw [List.getElem_reverse,HK.out _ (by omega) (by omega)]
    rfl
   unfold eqT at HN HI
   generalize T[k]=z at *
   cases q : (z.nm.toList == nm.toList) with
   | true =>
    have HR:=HI.out q
    have HR' : Hid _:=HR
    clear HN HI HR ek
    generalize z.nm=zn at *
    go_wp2
    go_ret
    exact ⟨rfl,_,rfl,HR'.out⟩
   | false =>
    have HR:=HN.out q
    have HR' : Hid (∀ j (hj : j < T.length),k ≤ j→eqT T[j].nm nm=false):=HR
    clear HN HI HR ek
    generalize z.nm=zn at *
    go_wp2
    go_roundw
    case rel=>exact ⟨k,by simp,by omega,by trivial,HR'⟩
    case measure=>simp [intOf]
  | zero =>
   have HR : Hid (locS T nm=none):=by
    show _=_
    unfold locS
    rw [List.find?_eq_none]
    intro x hx
    obtain ⟨j,hj,rfl⟩:=List.mem_iff_getElem.1 (List.mem_reverse.1 hx)
    have:=HK.out j hj (by omega)
    simpa using this
   go_wp2
   go_ret
   exact ⟨rfl,_,rfl,.inl ⟨HR.out,rfl⟩⟩
end Go.Proofs.YtfcocoadaajbjaaGreatDoor
