/- Own text. A loop over an iterator whose rounds write what the iterator reads;the kids of a tree with their places. Package scope: the resolver in memory;a use is added. -/
import Derived.Test.YtfcocoadaajbjaaGreatDoorGa06
import Derived.Test.YtfcocoadaajbjaaGreatDoorGa15
import Derived.LoopIn
import Derived.LoopNIn
set_option linter.unusedVariables false
set_option linter.unusedSimpArgs false
set_option maxRecDepth 100000
set_option maxHeartbeats 8000000
namespace Go.Proofs.YtfcocoadaajbjaaGreatDoor
open Go.RowKit Go.MapKept
def Rnd2 (G : Nat→Array Value→World→Prop) (l : Nat) (J : Nat→World→Prop) : Prop :=
 ∀ k args W,G k args W→J k W→YieldAt Fence.wide 0 Tryz.prog l args W fun e W'=>e = .returned (.bool true)∧J (k+1) W'
def PostQ (D l k : Nat) (J : Nat→World→Prop) (W : World) : Exit→Act→World→Prop
 | .normal,_,W'=>J (k+1) W'∧W'.heap[l]?=W.heap[l]?∧W'.heap[D]?=W.heap[D]?
 | _,_,_=>False
theorem range_law2 {g : Operand} {ps : Array Tmp} {assign body : Code} {Q : Exit→Act→World→Prop} {a : Act} {w : World} {gf : Nat} {lb : Array Value} (hg : a.eval g = .func (.func gf) #[] lb) (eg : ∀ args w,(callFunc gf args).run Tryz.prog w = .ok (.enter gf args) w)
 (G : Nat→Array Value→World→Prop) (N : Nat) (hps : ∀ k args W,G k args W→args.size=ps.size) (Rz : World→Prop)
 (hit : ∀ (l : Nat) (J : Nat→World→Prop) (W1 : World),Below w.heap.size w W1→(∀ k X,J k X→Rz X)→(∀ k X Z,J k X→Below X.heap.size X Z→J k Z)→Rnd2 G l J→J 0 W1 →
  Calls Tryz.prog gf (#[.func (.yield l) #[] #[]] ++ lb) W1 fun e W'=>(∃ v,e = .returned v)∧J N W')
 (J : Nat→World→Prop) (hR : ∀ k X,J k X→Rz X) (hJ : ∀ k X Z,J k X→Below X.heap.size X Z→J k Z) (hJp : ∀ k X l r o,J k X→w.heap.size ≤ l→X.heap[l]?=some (.loop r)→J k (X.putObj l o)) (h0 : J 0 w)
 (Ax : Nat→Array Value→World→Act→World→Prop)
 (hassign : ∀ (l k : Nat) (args : Array Value) (W : World) (K : Act→World→Prop),G k args W→J k W→(∀ a' W',Below W.heap.size W W'→Ax k args W a' W'→K a' W') →
  assign.wpIn (Fence.wide.inRound l) 8 Tryz.prog (Exit.then K (fun _ _ _=>False)) { tmps:=(ps.zip args).foldl (fun t (p,v)=>t.setIfInBounds p v) a.tmps,defers:=[] } W)
 (hbody : ∀ (D l k : Nat) (args : Array Value) (a' : Act) (W Wa W2 : World),G k args W→J k W→Below W.heap.size W Wa→Ax k args W a' Wa→l < W.heap.size→w.heap.size ≤ l→(∀ c,c ≠ l→W2.heap[c]?=Wa.heap[c]?)→W2.heap.size=Wa.heap.size→(∃ r,W2.heap[l]?=some (.loop r))→(∃ r,W2.heap[D]?=some (.deferred r))→J k W2 →
  body.wpIn (Fence.wide.inRound l) 8 Tryz.prog (PostQ D l k J W2) a' W2)
 (hdone : ∀ (D : Nat) (W : World),w.heap.size ≤ D→J N W→W.heap[D]?=some (.deferred (some []))→Q .normal { a with defers:={ target:=.collected D,args:=#[] } :: a.defers } W) :
 (Code.rangeFunc g ps assign body).wpIn Fence.wide 10 Tryz.prog Q a w:=by
 refine wpIn_rangeFunc ?_
 intro fn hfn
 rw [show Fence.wide.round=none from rfl]
 obtain ⟨rec,hrec⟩ : ∃ rec : LoopState→Option Code→Loop,rec=fun st pe=>{ state:=st,pending:=pe,fn,tmps:=a.tmps,params:=ps,assign,body,defers:=w.heap.size }:=⟨_,rfl⟩
 obtain ⟨W1,hW1⟩ : ∃ W1,(w.alloc (.deferred (some []))).alloc (.loop (rec .ready none))=W1:=⟨_,rfl⟩
 have hL1 : W1.heap[w.heap.size+1]?=some (.loop (rec .ready none)):=by rw [← hW1];exact hnew _ (by simp)
 have hK1 : W1.heap[w.heap.size]?=some (.deferred (some [])):=by rw [← hW1];exact hold _ (by simp) (hnew _ rfl)
 have hs1 : W1.heap.size=w.heap.size+2:=by rw [← hW1];simp
 have hb1 : Below w.heap.size w W1:=by rw [← hW1];exact (bel_a _ _).alloc (by simp) _
 refine ⟨w.heap.size+1,[{ target:=.collected w.heap.size,args:=#[] }],W1,{ target:=.fn (.func gf) lb,args:=#[.func (.yield (w.heap.size+1)) #[] #[]] },W1,gf,
  #[.func (.yield (w.heap.size+1)) #[] #[]] ++ lb,W1,?_,?_,?_,?_,fun _=>(by omega),?_⟩
 ·rw [← hW1,hrec];exact run_enterLoop_outer _ _ _ _ _
 ·simp only [resolve,hg]
  simp [go_sem]
 ·intro f' hf';trivial
 ·simp [invoke,go_sem,eg]
 ·refine callsIn_wide.2 ?_
  refine (hit (w.heap.size+1)
   (fun k W=>J k W∧W.heap[w.heap.size+1]?=some (.loop (rec .ready none))∧W.heap[w.heap.size]?=some (.deferred (some [])))
   W1 hb1 (fun k X hX=>hR k X hX.1) (fun k X Z hX hB=>⟨hJ k X Z hX.1 hB,(hB.block _ (gl hX.2.1)).trans hX.2.1,(hB.block _ (gl hX.2.2)).trans hX.2.2⟩) ?_ ⟨hJ _ _ _ h0 hb1,hL1,hK1⟩).mono ?_
  ·rintro k args W hG ⟨hj,hl,hd⟩
   have hlt : w.heap.size+1 < W.heap.size:=(gl hl)
   have hy:=run_yield (P:=Tryz.prog) (args:=args) hl (by rw [hrec];exact hps k args W hG)
   rw [hrec] at hy
   refine ⟨fn,_,assign,body,hy,?_⟩
   have hRd : RoundIn Fence.wide 8 Tryz.prog (w.heap.size+1) fn ((ps.zip args).foldl (fun t (p,v)=>t.setIfInBounds p v) a.tmps) assign body W fun e W' =>
    e = .returned (.bool true)∧(J (k+1) W'∧W'.heap[w.heap.size+1]?=some (.loop (rec .ready none))∧W'.heap[w.heap.size]?=some (.deferred (some []))):=by
    refine roundIn_of_wpIn hfn (hassign _ k args W _ hG hj ?_)
    clear hy
    intro a' Wa hba hax
    have hla:=(hba.block _ hlt).trans hl
    have hda:=(hba.block w.heap.size (by omega)).trans hd
    have hsa:=hba.size
    have hlta : w.heap.size+1 < Wa.heap.size:=(gl hla)
    refine ⟨_,run_beginRound hla (by rw [hrec]),?_⟩
    obtain ⟨W2,hW2⟩ : ∃ W2,Wa.putObj (w.heap.size+1) (.loop { rec .ready none with state:=.busy })=W2:=⟨_,rfl⟩
    have hl2 : W2.heap[w.heap.size+1]?=some (.loop { rec .ready none with state:=.busy }):=by rw [← hW2];exact World.putObj_heap_same hlta
    have ho2 : ∀ c,c ≠ w.heap.size+1→W2.heap[c]?=Wa.heap[c]?:=fun c hc=>by rw [← hW2];exact World.putObj_heap_other hc
    have hs2 : W2.heap.size=Wa.heap.size:=by rw [← hW2];exact put_size _
    have hj2 : J k W2:=by rw [← hW2];exact hJp k Wa _ _ _ (hJ k W Wa hj hba) (by omega) hla
    rw [hW2]
    have hd2:=(ho2 w.heap.size (by omega)).trans hda
    refine wpIn_mono (hbody w.heap.size _ k args a' W Wa W2 hG hj hba hax hlt (by omega) ho2 hs2 ⟨_,hl2⟩ ⟨_,hd2⟩ hj2) ?_
    rintro e a3 W3 hp
    cases e with
    | normal =>
     obtain ⟨hj3,hl3,hd3⟩:=hp
     have hl3':=hl3.trans hl2
     have:=run_endRound (P:=Tryz.prog) none hl3'
     rw [hrec] at this ⊢
     refine ⟨_,_,this,rfl,hJp _ _ _ _ _ hj3 (by omega) hl3',?_,(World.putObj_heap_other (by omega)).trans (hd3.trans hd2)⟩
     exact World.putObj_heap_same (gl hl3')
    | ret=>exact hp.elim
    | exit id=>exact hp.elim
    | goto t=>exact hp.elim
    | panic ch=>exact hp.elim
    | outgrown=>exact hp.elim
   exact ⟨hRd.1,fun c cs _=>hRd.2 c cs (room_wide _)⟩
  ·rintro e W2 ⟨⟨v,rfl⟩,hj,hl,hk⟩
   exact ⟨none,_,by have:=run_endLoop (P:=Tryz.prog) hl (by rw [hrec];simp);rw [hrec] at this;exact this,hdone _ _ (Nat.le_refl _) (hJp _ _ _ _ _ hj (by omega) hl) ((World.putObj_heap_other (by omega)).trans hk)⟩
theorem kids_in (w : World) (rb : Nat) (x : Nd) (v : Value) (hv : ∃ a n c,v = .slice a n c) (p : Int) : Calls Tryz.prog 33 #[.pointer (some ⟨rb,0,none⟩),x.v v,.int .i64 p] w fun e w' =>
 e = .returned (.func (.func 57) #[] #[.pointer (some ⟨w.heap.size+1+1,0,none⟩),.pointer (some ⟨w.heap.size+1,0,none⟩),.pointer (some ⟨w.heap.size,0,none⟩)]) ∧
 w'=((w.alloc (.cells #[.pointer (some ⟨rb,0,none⟩)] 51)).alloc (.cells #[.int .i64 x.k,.string x.t,.int .i64 x.n,v] 24)).alloc (.cells #[.int .i64 p] 3):=by
 obtain ⟨a,n,c,rfl⟩:=hv
 unfold Nd.v
 go_enter Tryz.func33,Tryz.ntmps33
 go_wp2
 go_ret
 exact ⟨rfl,rfl⟩
def Zr (W : World) (sb c : Nat) (Z : List Nat) : Prop:=∃ base,W.ownsRow base 3 1 (.slice (some ⟨sb,0,none⟩) Z.length c) Z.length (iV Z)
theorem Zr.at {W : World} {sb c : Nat} {Z : List Nat} (h : Zr W sb c Z) {i n : Nat} (hi : Z[i]?=some n) : W.cell? ⟨sb,i,none⟩=some (.int .i64 (n : Nat))∧i < Z.length:=by
 obtain ⟨base,h⟩:=h
 have hl:=(List.getElem?_eq_some_iff.1 hi).1
 refine ⟨?_,hl⟩
 rw [World.ownsRow.cellAt h i (by omega)]
 unfold iV
 rw [List.getElem?_map,hi]
 rfl
theorem Zr.keep {W W' : World} {sb c : Nat} {Z : List Nat} (h : Zr W sb c Z) (e : W'.heap[sb]?=W.heap[sb]?) : Zr W' sb c Z:=by
 obtain ⟨base,h⟩:=h
 exact ⟨base,rw_keep h fun b hb=>by cases hb;exact e⟩
theorem Zr.lt {W : World} {sb c : Nat} {Z : List Nat} (h : Zr W sb c Z) : sb < W.heap.size:=by
 obtain ⟨base,h⟩:=h
 exact (rw_lt h sb rfl).2
structure Rk (rx rb sb c : Nat) (Z : List Nat) (S : Nat→Prop) (v : Value) (ks : List Nd) (W : World) : Prop where
 r : W.cell? ⟨rx,0,none⟩=some (.pointer (some ⟨rb,0,none⟩))
 s : W.cell? ⟨rb,0,none⟩=some (.slice (some ⟨sb,0,none⟩) Z.length c)
 z : Zr W sb c Z
 k : LAt W S v ks
def Gk (S : Nat→Prop) (p : Nat) (ks : List Nd) (j : Nat) (args : Array Value) (W : World) : Prop :=
 ∃ (h : j < ks.length) (a : Option Addr) (c : Nat),args=#[.int .i64 ((p+1+sizes (ks.take j) : Nat) : Int),(ks[j]).v (.slice a ks[j].ks.length c)]∧LAt W S (.slice a ks[j].ks.length c) ks[j].ks
theorem kids_it {w : World} {rx rb sb c nx ax p : Nat} {Z : List Nat} {S : Nat→Prop} {x : Nd} {v : Value}
 (hn : w.heap[nx]?=some (.cells #[.int .i64 x.k,.string x.t,.int .i64 x.n,v] 24 (0,0))) (ha : w.heap[ax]?=some (.cells #[.int .i64 ((p : Nat) : Int)] 3 (0,0))) (hl : LAt w S v x.ks) (hz : ∀ j (h : j < x.ks.length),Z[p+1+sizes (x.ks.take j)]?=some x.ks[j].size) (zs : Z.length ≤ 4194304) (hk : sizes x.ks ≤ 4194304) (hp : p ≤ 4194304) :
 ∀ (l : Nat) (J : Nat → World → Prop) (W1 : World),Below w.heap.size w W1 → (∀ k X,J k X → Rk rx rb sb c Z S v x.ks X) → (∀ k X Z,J k X → Below X.heap.size X Z → J k Z) → Rnd2 (Gk S p x.ks) l J → J 0 W1 →
   Calls Tryz.prog 57 (#[.func (.yield l) #[] #[]] ++ #[.pointer (some ⟨ax,0,none⟩),.pointer (some ⟨nx,0,none⟩),.pointer (some ⟨rx,0,none⟩)]) W1 fun e W'=>(∃ v,e = .returned v)∧J x.ks.length W':=by
 intro l J W1 b1 hR hJ hY h0
 have lx:=sizes_len x.ks
 have hnl:=(gl hn)
 have hal:=(gl ha)
 have hn1:=(b1.block nx hnl).trans hn
 have ha1:=(b1.block ax hal).trans ha
 obtain ⟨⟨n0,n1,n2,n3⟩,_⟩:=box4 hn1
 have a0 : W1.cell? ⟨ax,0,none⟩=some (.int .i64 ((p : Nat) : Int)):=by simp [World.cell?,ha1]
 obtain ⟨av,cv,rfl⟩:=hl.sl
 clear hn ha hn1 ha1
 refine (callsIn_wide (n:=10)).1 ?_
 refine callsIn_of_wp Tryz.func57 rfl trivial ?_ rfl
 simp only [Tryz.ntmps57,List.size_toArray,List.length_cons,List.length_nil,Nat.reduceAdd,Nat.reduceSub,Array.replicate_succ,Array.replicate_zero,List.push_toArray,List.append_toArray,List.nil_append,List.cons_append]
 gi_wp2
 gi_loopw [5,13] (fun n i wr=>∃ (j q : Nat),i = .int .i64 (j : Nat)∧n = .int .i64 (q : Nat)∧j ≤ x.ks.length∧Hid (q=p+1+sizes (x.ks.take j))∧q ≤ 8388608+1∧J j wr) (fun _ i _=>x.ks.length - (intOf i).toNat)
 case atStart=>exact ⟨0,p+1,rfl,by simp,by omega,by simp [Hid,sizes_nil],by omega,h0⟩
 case round =>
  clear h0 n0 n1 n2 n3 a0 b1
  obtain ⟨j,q,rfl,rfl,hj,HQ,hq8,hJr⟩:=hrel
  by_cases hjl : j < x.ks.length
  ·have hRr:=hR j wr hJr
   have hzj:=hz j hjl
   rw [← HQ.out] at hzj
   obtain ⟨zc,zl⟩:=hRr.z.at hzj
   obtain ⟨ax',cx',bx,ox,fx,hv,px,qx,rx'⟩:=hRr.k.op
   obtain ⟨hax,hSx,hbx⟩:=px (by omega)
   have hv2 : av=some ⟨bx,ox,none⟩:=by have:=hv;rw [hax] at this;injection this
   subst hv2
   obtain ⟨u1,u2,u3,u4⟩:=qx j hjl
   have gx:=rx' j hjl
   obtain ⟨ak,ck,hfk⟩:=gx.sl
   rw [hfk] at u4 gx
   obtain ⟨WB,hWB⟩ : ∃ X,wr.alloc (Obj.cells #[.int .i64 x.ks[j].k,.string x.ks[j].t,.int .i64 x.ks[j].n,.slice ak x.ks[j].ks.length ck] 24)=X:=⟨_,rfl⟩
   have bB : Below wr.heap.size wr WB:=by rw [← hWB];exact bel_a _ _
   have mB : WB.heap[wr.heap.size]?=some (.cells #[.int .i64 x.ks[j].k,.string x.ks[j].t,.int .i64 x.ks[j].n,.slice ak x.ks[j].ks.length ck] 24 (0,0)):=by rw [← hWB];exact hnew _ rfl
   obtain ⟨⟨e0,e1,e2,e3⟩,_⟩:=box4 mB
   have HS : Hid (sizes (x.ks.take (j+1))=sizes (x.ks.take j)+x.ks[j].size):=take_sizes x.ks hjl
   have hYj:=hY j #[.int .i64 (q : Nat),(x.ks[j]).v (.slice ak x.ks[j].ks.length ck)] WB ⟨hjl,ak,ck,by rw [HQ.out],gx.bel bB⟩ (hJ j wr WB hJr bB)
   have hle:=take_sizes_le x.ks (j+1)
   rw [HS.out] at hle
   have hsz1 : q+x.ks[j].size ≤ 8388609:=by have:=HQ.out;omega
   have HQ2 : Hid (q+x.ks[j].size=p+1+sizes (x.ks.take (j+1))):=by show _=_;rw [HS.out];have:=HQ.out;omega
   clear hle HS
   generalize hxk : x.ks[j]=xk at *
   unfold Nd.v at hYj
   obtain ⟨fn,tmps,assign,body,hy,hRd⟩:=yield_any 9 hYj
   clear hv px qx rx' mB hfk gx hRr hYj hax
   gi_wp2
   refine hRd.mono ?_
   rintro e W5 ⟨rfl,hJ5⟩
   have hR5:=hR _ _ hJ5
   have r5:=hR5.r
   have s5:=hR5.s
   obtain ⟨zc5,_⟩:=hR5.z.at hzj
   clear hRd hy hR5 zc hzj
   gi_wp2
   go_roundw
   case rel=>exact ⟨j+1,q+xk.size,by simp,by simp,by omega,HQ2,hsz1,hJ5⟩
   case measure=>simp [intOf];omega
  ·obtain rfl : j=x.ks.length:=by omega
   gi_wp2
   first | go_end0 | go_ret
   exact ⟨⟨_,rfl⟩,hJr⟩
structure Rc where
 rb : Nat
 sb : Nat
 cz : Nat
 eb : Nat
 ax : Nat
 B : Nat
 Z : List Nat
 vn : Value
 va : Value
 vt : Value
def exF (E : List ByteArray) (nm : ByteArray) : Option Unit:=if E.any (eqT · nm)=true then some () else none
abbrev Em (w : World) (m n : Nat) (E : List ByteArray) : Prop:=MF (fun _ : ByteArray=>True) (fun k : ByteArray=>Value.string k) (fun _ : Unit=>Value.agg #[]) w m n (exF E)
structure Rv (c : Rc) (W : World) (p : Int) (E : List ByteArray) (vu : Value) (U : List Us) : Prop where
 r : W.heap[c.rb]?=some (.cells #[.slice (some ⟨c.sb,0,none⟩) c.Z.length c.cz,c.vn,c.va,.map (some c.eb),c.vt,vu] 58 (0,0))
 a : W.heap[c.ax]?=some (.cells #[.int .i64 p] 3 (0,0))
 e : ∃ n,Em W c.eb n E
 u : W.ownsRow c.B 37 5 vu U.length (usV U)
 z : Zr W c.sb c.cz c.Z
 d : c.sb ≠ c.ax
 b : c.B ≤ W.heap.size
def Own (c : Rc) (vu : Value) (k : Nat) : Prop:=k=c.rb ∨ k=c.eb ∨ k=c.ax ∨ vu.ownBlock=some k
theorem Rv.far {c : Rc} {W : World} {p : Int} {E : List ByteArray} {vu : Value} {U : List Us} (h : Rv c W p E vu U) {k : Nat} {cs : Array Value} {t : TypeId} {fr : Nat × Nat} (hk : W.heap[k]?=some (.cells cs t fr)) (ht : t ≠ 58∧t ≠ 37∧t ≠ 3) : ¬ Own c vu k:=by
 rintro (q | q | q | q)
 ·subst q;rw [h.r] at hk;injection hk with hk;injection hk with _ hk;exact ht.1 hk.symm
 ·subst q
  obtain ⟨n,es,clock,hb,_⟩:=h.e
  rw [hb] at hk;injection hk with hk;cases hk
 ·subst q;rw [h.a] at hk;injection hk with hk;injection hk with _ hk;exact ht.2.2 hk.symm
 ·obtain ⟨cur,hb⟩:=own_cells h.u q
  rw [hb] at hk;injection hk with hk;injection hk with _ hk;exact ht.2.1 hk.symm
theorem Rv.kept {c : Rc} {W W' : World} {p : Int} {E : List ByteArray} {vu : Value} {U : List Us} (h : Rv c W p E vu U) (q : Kpt (Own c vu) W W') {k : Nat} {cs : Array Value} {t : TypeId} {fr : Nat × Nat} (hk : W.heap[k]?=some (.cells cs t fr)) (ht : t ≠ 58∧t ≠ 37∧t ≠ 3) : W'.heap[k]?=some (.cells cs t fr) :=
 (q.block k (gl hk) (h.far hk ht)).trans hk
theorem Rv.farM {c : Rc} {W : World} {p : Int} {E : List ByteArray} {vu : Value} {U : List Us} (h : Rv c W p E vu U) {k : Nat} {es : Array MapEntry} {cl : Nat} (hk : W.heap[k]?=some (.map es cl)) (hn : k ≠ c.eb) : ¬ Own c vu k:=by
 rintro (q | q | q | q)
 ·subst q;rw [h.r] at hk;injection hk with hk;cases hk
 ·exact hn q
 ·subst q;rw [h.a] at hk;injection hk with hk;cases hk
 ·obtain ⟨cur,hb⟩:=own_cells h.u q
  rw [hb] at hk;injection hk with hk;cases hk
theorem Rv.sat {c : Rc} {W W' : World} {p : Int} {E : List ByteArray} {vu : Value} {U : List Us} (h : Rv c W p E vu U) (q : Kpt (Own c vu) W W') {v : Value} {F : List (List Dc)} (hs : SAt W (fun k=>k ≠ c.eb) v F) : SAt W' (fun k=>k ≠ c.eb) v F:=by
 induction hs with
 | nil=>exact .nil
 | cons b m n v f F hS hM hb hm hs ih =>
  refine .cons b m n v f F hS hM (h.kept q hb (by decide)) ?_ ih
  have hm0:=hm
  obtain ⟨es,clock,hb,_⟩:=hm0
  exact MF.keep hm (q.block m hm.lt (h.farM hb hM))
theorem Rv.bel {c : Rc} {W W' : World} {p : Int} {E : List ByteArray} {vu : Value} {U : List Us} (h : Rv c W p E vu U) (b : Below W.heap.size W W') : Rv c W' p E vu U:=by
 obtain ⟨n,he⟩:=h.e
 exact ⟨(b.block _ (gl h.r)).trans h.r,(b.block _ (gl h.a)).trans h.a,⟨n,MF.keep he (b.block _ he.lt)⟩,rw_keep h.u fun k hk=>b.block k (rw_lt h.u k hk).2,h.z.keep (b.block _ h.z.lt),h.d,Nat.le_trans h.b b.size⟩
theorem Rv.drew {c : Rc} {W : World} {p : Int} {E : List ByteArray} {vu : Value} {U : List Us} (h : Rv c W p E vu U) : Rv c W.drew p E vu U:=h.bel (Below.refl _ _).drew
theorem box6 {w : World} {b : Nat} {p q r s u x : Value} {t : TypeId} (h : w.heap[b]?=some (.cells #[p,q,r,s,u,x] t (0,0))) :
 (w.cell? ⟨b,0,none⟩=some p∧w.cell? ⟨b,1,none⟩=some q∧w.cell? ⟨b,2,none⟩=some r∧w.cell? ⟨b,3,none⟩=some s∧w.cell? ⟨b,4,none⟩=some u∧w.cell? ⟨b,5,none⟩=some x)∧(w.frozen? ⟨b,4,none⟩=false∧w.frozen? ⟨b,5,none⟩=false):=by
 simp [World.cell?,World.frozen?,h]
theorem Rv.push {c : Rc} {W W1 W3 : World} {p : Int} {E : List ByteArray} {vu : Value} {U : List Us} {gg cap : Nat} (h : Rv c W p E vu U) (b : Below W.heap.size W W1) (x : Us)
 (r1 : W3.ownsRow c.B 37 5 (.slice (some ⟨gg,0,none⟩) (U.length+1) cap) (U.length+1) (usV U ++ x.cs)) (r2 : W1.grownBy W3 vu.ownBlock) (r3 : vu.ownBlock=some gg ∨ gg=W1.heap.size) :
 Rv c (W3.setCell ⟨c.rb,5,none⟩ (.slice (some ⟨gg,0,none⟩) (U.length+1) cap)) p E (.slice (some ⟨gg,0,none⟩) (U.length+1) cap) (U ++ [x])∧Kpt (Own c vu) W (W3.setCell ⟨c.rb,5,none⟩ (.slice (some ⟨gg,0,none⟩) (U.length+1) cap)) ∧
  (∀ k,(Value.slice (some ⟨gg,0,none⟩) (U.length+1) cap).ownBlock=some k→vu.ownBlock=some k ∨ W.heap.size ≤ k)∧W3.heap[c.rb]?=W.heap[c.rb]?:=by
 have s1:=b.size
 have own : ∀ {k : Nat} {cs : Array Value} {t : TypeId} {fr : Nat × Nat},W.heap[k]?=some (Obj.cells cs t fr)→t ≠ 37→some k ≠ vu.ownBlock:=fun {k cs t fr} hk ht e=>by
  obtain ⟨cur,hb⟩:=own_cells h.u e.symm
  rw [hb] at hk;injection hk with hk;injection hk with _ hk;exact ht hk.symm
 have kb : ∀ {k : Nat} {cs : Array Value} {t : TypeId} {fr : Nat × Nat},W.heap[k]?=some (Obj.cells cs t fr)→t ≠ 37→W3.heap[k]?=W.heap[k]?:=fun {k cs t fr} hk ht=>by
  have hl:=(gl hk)
  exact (r2.block k (by omega) (own hk ht)).trans (b.block k hl)
 have gne : ∀ {k : Nat} {cs : Array Value} {t : TypeId} {fr : Nat × Nat},W.heap[k]?=some (Obj.cells cs t fr)→t ≠ 37→gg ≠ k:=fun {k cs t fr} hk ht e=>by
  subst e
  rcases r3 with q | q
  ·exact own hk ht q.symm
  ·have:=(gl hk);omega
 have hr3:=kb h.r (by decide)
 have kp : Kpt (Own c vu) W W3:=(Kpt.of b).trans (Kpt.grown (M:=Own c vu) r2 (fun k e=>.inr (.inr (.inr e)))) (fun _ _ q=>q)
 have ka:=kb h.a (by decide)
 have na : c.ax ≠ c.rb:=fun e=>by have h1:=h.a;rw [e,h.r] at h1;injection h1 with h1;cases h1
 obtain ⟨n,he⟩:=h.e
 have he0:=he
 obtain ⟨es,clock,heb,_⟩:=he0
 have ne : c.eb ≠ c.rb:=fun e=>by rw [e,h.r] at heb;injection heb with heb;cases heb
 have ke : W3.heap[c.eb]?=W.heap[c.eb]?:=(r2.block _ (by have:=he.lt;omega) (fun e=>by
  obtain ⟨cur,hb⟩:=own_cells h.u e.symm
  rw [hb] at heb;injection heb with heb;cases heb)).trans (b.block _ he.lt)
 obtain ⟨base,hz⟩:=h.z
 obtain ⟨cz,hzc⟩:=own_cells hz (g:=c.sb) rfl
 have nz : c.sb ≠ c.rb:=fun e=>by rw [e,h.r] at hzc;injection hzc with hzc;cases hzc
 have kz:=kb hzc (by decide)
 refine ⟨⟨?_,(Below.heap_setCell _ _ _ _ na).trans (ka.trans h.a),⟨n,MF.keep he ((Below.heap_setCell _ _ _ _ ne).trans ke)⟩,?_,h.z.keep ((Below.heap_setCell _ _ _ _ nz).trans kz),h.d,by have:=kp.size;have:=h.b;simp [World.setCell];omega⟩,kp.trans (Kpt.set (M:=Own c vu) _ _ _ _ (.inl rfl)) (fun _ _ q=>q),fun k e=>?_,hr3⟩
 ·have : W3.heap[c.rb]?=_:=hr3.trans h.r
  simp [World.setCell,Array.getElem?_modify,this]
 ·have r1' : W3.ownsRow c.B 37 5 (.slice (some ⟨gg,0,none⟩) (U.length+1) cap) (U ++ [x]).length (usV (U ++ [x])):=by
   rw [usV_app,List.length_append]
   have : usV [x]=x.cs:=by unfold usV;simp
   rw [this]
   exact r1
  refine rw_keep r1' fun k hk=>Below.heap_setCell _ _ _ _ (fun e=>?_)
  have hk : gg=k:=by simpa [Value.ownBlock] using hk
  have e : k=c.rb:=e
  exact gne h.r (by decide) (hk.trans e)
 ·have e : gg=k:=by simpa [Value.ownBlock] using e
  subst e
  rcases r3 with e | e
  ·exact .inl e
  ·exact .inr (by omega)
def Ans (r : Except (Int × Int) Ps) (er : Int) (E : List ByteArray) (U : List Us) : Prop:=match r with
 | .ok S=>er=0∧S=(E,U)
 | .error q=>er=q.2∧q.2 ≠ 0
def SU (x : Nd) (d : Dc) (b1 b2 : Nat) (X : World) : Prop:=X.cell? ⟨b1,0,none⟩=some (.int .i64 x.k)∧X.cell? ⟨b2,1,none⟩=some (.int .i64 d.at_)∧X.cell? ⟨b2,2,none⟩=some (.int .i64 d.us)
theorem no_zdc (d : Dc) : d.v = .agg #[.int .i64 d.kd,.int .i64 d.at_,.int .i64 d.us,.bool d.fr]:=rfl
theorem use_any {c : Rc} {W : World} {p0 : Int} {E : List ByteArray} {vu : Value} {U : List Us} (h : Rv c W p0 E vu U) (x : Nd) (v : Value) (hv : ∃ a n c,v = .slice a n c) (p : Int) (nm : ByteArray) {vf : Value} {F : List (List Dc)} (hF : SAt W (fun k=>k ≠ c.eb) vf F) (hn : nm.size ≤ 4194304) (hU : U.length ≤ 4194304) :
 Calls Tryz.prog 61 #[.pointer (some ⟨c.rb,0,none⟩),x.v v,.int .i64 p,.string nm,vf] W fun e W'=>∃ er vu' U',e = .returned (.int .i64 er)∧Ans (pUse x.k p nm F (E,U)) er E U'∧Rv c W' p0 E vu' U'∧Kpt (Own c vu) W W'∧∀ k,vu'.ownBlock=some k→vu.ownBlock=some k ∨ W.heap.size ≤ k:=by
 obtain ⟨i0,hi0,hz0,hz1,hz2⟩:=info_parts info_us
 obtain ⟨av,nv,cv,rfl⟩:=hv
 obtain ⟨au,cu,rfl⟩:=rw_form h.u
 obtain ⟨pf,rfl⟩:=hF.ptr
 obtain ⟨W0,hW0⟩ : ∃ X,W.alloc (Obj.cells #[.int .i64 x.k,.string x.t,.int .i64 x.n,.slice av nv cv] 24)=X:=⟨_,rfl⟩
 have b0 : Below W.heap.size W W0:=by rw [← hW0];exact bel_a _ _
 have HS0 : Hid (W0.heap.size=W.heap.size+1):=by show _=_;rw [← hW0];simp
 have m0 : W0.heap[W.heap.size]?=some (.cells #[.int .i64 x.k,.string x.t,.int .i64 x.n,.slice av nv cv] 24 (0,0)):=by rw [← hW0];exact hnew _ rfl
 have h0:=h.bel b0
 have CF:=find_any (hF.bel b0) nm
 rw [no_zdc] at CF
 obtain ⟨res,hres⟩ : ∃ r,pUse x.k p nm F (E,U)=r:=⟨_,rfl⟩
 have HR : Hid (pUse x.k p nm F (E,U)=res):=hres
 rw [hres]
 clear hres
 unfold Nd.v
 go_enter Tryz.func61,Tryz.ntmps61
 go_wp2_with fail
 go_at_call 100
 refine CF.mono ?_
 rintro e W1 ⟨rfl,b1⟩
 have bw1 : Below W.heap.size W W1:=b0.trans (b1.mono b0.size)
 have m1:=(b1.block W.heap.size (by have:=HS0.out;omega)).trans m0
 clear CF hW0 m0
 cases hf : fndF F nm with
 | none =>
  obtain rfl : Except.error (p,91)=res:=by rw [← HR.out];unfold pUse;rw [hf]
  simp only [Option.getD,Option.isSome]
  go_wp2
  go_ret
  exact ⟨91,_,U,rfl,⟨rfl,(by decide : (91 : Int) ≠ 0)⟩,h.bel (bw1.trans ((bel_a _ _).mono bw1.size)),Kpt.of (bw1.trans ((bel_a _ _).mono bw1.size)),fun k hk=>.inl hk⟩
 | some d =>
  simp only [Option.getD,Option.isSome]
  obtain ⟨W2,hW2⟩ : ∃ X,W1.alloc (Obj.cells #[.int .i64 d.kd,.int .i64 d.at_,.int .i64 d.us,.bool d.fr] 72)=X:=⟨_,rfl⟩
  have b2 : Below W1.heap.size W1 W2:=by rw [← hW2];exact bel_a _ _
  have bw2 : Below W.heap.size W W2:=bw1.trans (b2.mono bw1.size)
  have m2:=(b2.block W.heap.size (by have:=b1.size;have:=HS0.out;omega)).trans m1
  have m3 : W2.heap[W1.heap.size]?=some (.cells #[.int .i64 d.kd,.int .i64 d.at_,.int .i64 d.us,.bool d.fr] 72 (0,0)):=by rw [← hW2];exact hnew _ rfl
  have HC : Hid (∀ X,Below W2.heap.size W2 X→(X.cell? ⟨W.heap.size,0,none⟩=some (.int .i64 x.k)∧X.cell? ⟨W1.heap.size,0,none⟩=some (.int .i64 d.kd)∧X.cell? ⟨W1.heap.size,1,none⟩=some (.int .i64 d.at_)∧X.cell? ⟨W1.heap.size,2,none⟩=some (.int .i64 d.us)∧X.cell? ⟨W1.heap.size,3,none⟩=some (.bool d.fr))∧X.cell? ⟨c.rb,5,none⟩=some (.slice au U.length cu)):=fun X b=>by
   have hr:=((h.bel bw2).bel b).r
   have e1:=(b.block _ (gl m2)).trans m2
   have e2:=(b.block _ (gl m3)).trans m3
   obtain ⟨⟨q0,q1,q2,q3⟩,_⟩:=box4 e2
   exact ⟨⟨(box4 e1).1.1,q0,q1,q2,q3⟩,(box6 hr).1.2.2.2.2.2⟩
  have CT:=dtyped_any d W2
  rw [no_zdc] at CT
  obtain ⟨⟨z0,z1,z2,z3,z4⟩,z5⟩:=HC.out W2 (Below.refl _ _)
  have bad : ∀ X,Below W.heap.size W X→Except.error (p,91)=res→∃ er vu' U',Ending.returned (Value.int .i64 91) = .returned (.int .i64 er)∧Ans res er E U'∧Rv c X p0 E vu' U'∧Kpt (Own c (.slice au U.length cu)) W X∧∀ k,vu'.ownBlock=some k→(Value.slice au U.length cu).ownBlock=some k ∨ W.heap.size ≤ k:=fun X b e=>by
   subst e
   exact ⟨91,_,U,rfl,⟨rfl,(by decide : (91 : Int) ≠ 0)⟩,h.bel b,Kpt.of b,fun k hk=>.inl hk⟩
  have HB : Hid _:=bad
  have HM : Hid (W2.heap[W.heap.size]?=some (.cells #[.int .i64 x.k,.string x.t,.int .i64 x.n,.slice av nv cv] 24 (0,0))∧W2.heap[W1.heap.size]?=some (.cells #[.int .i64 d.kd,.int .i64 d.at_,.int .i64 d.us,.bool d.fr] 72 (0,0))):=⟨m2,m3⟩
  clear bad m1 m2 m3
  by_cases q1 : x.k=30∧typB d.kd=false
  ·have hr : Except.error (p,91)=res:=by rw [← HR.out];unfold pUse;rw [hf];exact (if_pos q1).symm
   have e1 : (x.k == 30)=true:=by simpa using q1.1
   have e2:=q1.2
   rw [e2] at CT
   clear HR q1
   go_wp2_with (go_at_call 101;refine CT.mono ?_;rintro e W3 ⟨rfl,b3⟩)
   go_ret
   exact HB.out _ (bw2.trans (b3.mono bw2.size)) hr
  by_cases q2 : (x.k=6 ∨ x.k=20)∧d.kd=46
  ·have hr : Except.error (p,91)=res:=by rw [← HR.out];unfold pUse;rw [hf];simp only;rw [if_neg q1,if_pos q2]
   have e1 : (x.k == 30)=false:=by rcases q2.1 with e | e <;> rw [e] <;> decide
   have e2 : (d.kd == 46)=true:=by simpa using q2.2
   rcases q2.1 with e | e
   ·have e3 : (x.k == 6)=true:=by simpa using e
    clear HR q1 q2 e
    go_wp2
    go_ret
    exact HB.out _ bw2 hr
   ·have e3 : (x.k == 6)=false:=by rw [e];decide
    have e4 : (x.k == 20)=true:=by simpa using e
    clear HR q1 q2 e
    go_wp2
    go_ret
    exact HB.out _ bw2 hr
  have hr : Except.ok (E,U ++ [⟨p,d.us,d.at_,nm,decide (x.k=30)⟩])=res:=by rw [← HR.out];unfold pUse;rw [hf];simp only;rw [if_neg q1,if_neg q2]
  have hb : decide (x.k=30)=(x.k == 30):=by rw [Bool.eq_iff_iff];simp
  rw [hb] at hr
  have HRes : Hid (Except.ok (E,U ++ [⟨p,d.us,d.at_,nm,x.k == 30⟩])=res):=hr
  have CL:=fun X=>clone_anyT nm X (by omega)
  have HA : Hid (∀ (X Y W5 : World) (gg cap : Nat),Below W2.heap.size W2 X→Below X.heap.size X Y→W5.ownsRow c.B 37 5 (.slice (some ⟨gg,0,none⟩) (U.length+1) cap) (U.length+1) (usV U ++ [.int .i64 p,.int .i64 d.us,.int .i64 d.at_,.string nm,.bool (x.k == 30)])→Y.grownBy W5 (Value.slice au U.length cu).ownBlock→((Value.slice au U.length cu).ownBlock=some gg ∨ gg=Y.heap.size) →
   (W5.cell? ⟨c.rb,5,none⟩=some (.slice au U.length cu)∧W5.frozen? ⟨c.rb,5,none⟩=false)∧(∀ v,SU x d W.heap.size W1.heap.size (W5.setCell ⟨c.rb,5,none⟩ v))∧SU x d W.heap.size W1.heap.size W5∧∃ er vu' U',Ending.returned (Value.int .i64 0) = .returned (.int .i64 er)∧Ans res er E U'∧Rv c (W5.setCell ⟨c.rb,5,none⟩ (.slice (some ⟨gg,0,none⟩) (U.length+1) cap)) p0 E vu' U'∧Kpt (Own c (.slice au U.length cu)) W (W5.setCell ⟨c.rb,5,none⟩ (.slice (some ⟨gg,0,none⟩) (U.length+1) cap))∧∀ k,vu'.ownBlock=some k→(Value.slice au U.length cu).ownBlock=some k ∨ W.heap.size ≤ k):=fun X Y W5 gg cap bX bY r1 r2 r3=>by
   have bWX : Below W.heap.size W X:=bw2.trans (bX.mono bw2.size)
   have hX:=h.bel bWX
   obtain ⟨k1,k2,k3,k4⟩:=hX.push bY ⟨p,d.us,d.at_,nm,x.k == 30⟩ r1 r2 r3
   have hr5:=k4.trans hX.r
   obtain ⟨⟨_,_,_,_,_,y5⟩,_,y6⟩:=box6 hr5
   have n1:=(bX.block _ (gl HM.out.1)).trans HM.out.1
   have n2:=(bX.block _ (gl HM.out.2)).trans HM.out.2
   have f1:=hX.kept k2 n1 (by decide)
   have f2:=hX.kept k2 n2 (by decide)
   have ne1 : W.heap.size ≠ c.rb:=fun e=>by rw [e,hX.r] at n1;injection n1 with n1;cases n1
   have ne2 : W1.heap.size ≠ c.rb:=fun e=>by rw [e,hX.r] at n2;injection n2 with n2;cases n2
   have g1 : W5.heap[W.heap.size]?=_:=(Below.heap_setCell _ _ _ _ ne1).symm.trans f1
   have g2 : W5.heap[W1.heap.size]?=_:=(Below.heap_setCell _ _ _ _ ne2).symm.trans f2
   refine ⟨⟨y5,y6⟩,fun v=>?_,?_,0,_,_,rfl,?_,k1,(Kpt.of bWX).trans k2 (fun _ _ q=>q),fun k hk=>?_⟩
   ·obtain ⟨⟨q0,q1,q2,q3⟩,_⟩:=box4 ((Below.heap_setCell W5 ⟨c.rb,5,none⟩ v _ ne2).trans g2)
    exact ⟨(box4 ((Below.heap_setCell W5 ⟨c.rb,5,none⟩ v _ ne1).trans g1)).1.1,q1,q2⟩
   ·obtain ⟨⟨q0,q1,q2,q3⟩,_⟩:=box4 g2
    exact ⟨(box4 g1).1.1,q1,q2⟩
   ·rw [← HRes.out]
    exact ⟨rfl,rfl⟩
   ·rcases k3 k hk with q | q
    ·exact .inl q
    ·exact .inr (Nat.le_trans bWX.size q)
  have HSU : Hid (∀ X,Below W2.heap.size W2 X→X.cell? ⟨W.heap.size,0,none⟩=some (.int .i64 x.k)∧X.cell? ⟨W1.heap.size,1,none⟩=some (.int .i64 d.at_)∧X.cell? ⟨W1.heap.size,2,none⟩=some (.int .i64 d.us)∧X.cell? ⟨c.rb,5,none⟩=some (.slice au U.length cu)):=fun X b=>by
   obtain ⟨⟨i1,i2,i3,i4,i5⟩,i6⟩:=HC.out X b
   exact ⟨i1,i3,i4,i6⟩
  have hown:=fun X (b : Below W2.heap.size W2 X)=>((h.bel bw2).bel b).u
  have hsz:=h.b
  have hsz2:=bw2.size
  clear hr hb HB
  have cls : (x.k == 30)=true∧typB d.kd=true∧(x.k == 6)=false∧(x.k == 20)=false ∨ (x.k == 30)=false∧(x.k == 6)=true∧(d.kd == 46)=false ∨ (x.k == 30)=false∧(x.k == 6)=false∧(x.k == 20)=true∧(d.kd == 46)=false ∨ (x.k == 30)=false∧(x.k == 6)=false∧(x.k == 20)=false:=by
   by_cases z1 : x.k=30
   ·left
    refine ⟨by simpa using z1,?_,by rw [z1];decide,by rw [z1];decide⟩
    cases hq : typB d.kd with
    | true=>rfl
    | false=>exact absurd ⟨z1,hq⟩ q1
   ·by_cases z2 : x.k=6
    ·exact .inr (.inl ⟨by simpa using z1,by simpa using z2,by simpa using fun e=>q2 ⟨.inl z2,e⟩⟩)
    ·by_cases z3 : x.k=20
     ·exact .inr (.inr (.inl ⟨by simpa using z1,by simpa using z2,by simpa using z3,by simpa using fun e=>q2 ⟨.inr z3,e⟩⟩))
     ·exact .inr (.inr (.inr ⟨by simpa using z1,by simpa using z2,by simpa using z3⟩))
  clear q1 q2 HR hf
  rcases cls with ⟨e1,e2,e3,e4⟩ | ⟨e1,e3,e5⟩ | ⟨e1,e3,e4,e5⟩ | ⟨e1,e3,e4⟩
  ·rw [e2] at CT
   rw [e1] at HA
   go_wp2_with fail
   go_at_call 101
   refine CT.mono ?_
   rintro e W3 ⟨rfl,b3⟩
   obtain ⟨⟨x0,x1,x2,x3,x4⟩,x5⟩:=HC.out W3 b3
   have su:=HSU.out W3.drew b3.drew
   go_wp2_with fail
   refine wp_region_U (u:=18) (S:=fun X=>X.cell? ⟨W.heap.size,0,none⟩=some (.int .i64 x.k)∧X.cell? ⟨W1.heap.size,1,none⟩=some (.int .i64 d.at_)∧X.cell? ⟨W1.heap.size,2,none⟩=some (.int .i64 d.us)∧X.cell? ⟨c.rb,5,none⟩=some (.slice au U.length cu)) (by kernel_rfl) ?_
   change wpAnyU _ _ _ _ _ _ _ _ _ (World.drew _)
   refine uT 0 (.pointer (some ⟨c.rb,0,none⟩)) su ?_
   refine uT 1 (.pointer (some ⟨c.rb,0,none⟩)) su ?_
   refine uT 2 (.pointer (some ⟨c.rb,0,none⟩)) su ?_
   refine uT 3 (.pointer (some ⟨c.rb,5,none⟩)) su ?_
   refine uT 4 (.slice au U.length cu) su ?_
   refine uT 5 (.int .i64 p) su ?_
   refine uT 6 (.pointer (some ⟨W1.heap.size,2,none⟩)) su ?_
   refine uT 7 (.int .i64 d.us) su ?_
   refine uT 8 (.pointer (some ⟨W1.heap.size,1,none⟩)) su ?_
   refine uT 9 (.int .i64 d.at_) su ?_
   refine uT 10 (.string nm) su ?_
   refine uT 12 (.pointer (some ⟨W.heap.size,0,none⟩)) su ?_
   refine uT 13 (.int .i64 x.k) su ?_
   refine uT 14 (.bool true) su ?_
   refine U_ready (rs:=[11]) (by kernel_rfl) (by simp) ?_
   refine AllU.cons rfl (by decide) (fun K hK=>?_) AllU.nil
   go_simp
   go_at_call 26
   refine (CL _).mono ?_
   rintro e W4 ⟨rfl,b4⟩
   have b4' : Below W2.heap.size W2 W4:=⟨b4.os.trans b3.os,b4.tape.trans b3.tape,b4.output.trans b3.output,Nat.le_trans b3.size b4.size,fun k hk=>(b4.block k (Nat.lt_of_lt_of_le hk b3.size)).trans (b3.block k hk)⟩
   have su4:=HSU.out W4 b4'
   refine hK.out _ _ su4 ?_
   clear hK K
   refine uT 15 (.agg #[.int .i64 p,.int .i64 d.us,.int .i64 d.at_,.string nm,.bool true]) su4 ?_
   refine U_ready (rs:=[16]) (by kernel_rfl) (by simp) ?_
   refine AllU.cons rfl (by decide) (fun K hK=>?_) AllU.nil
   go_simp
   refine hK.out _ _ (HSU.out _ (b4'.alloc b4'.size _)) ?_
   clear hK K
   refine U_ready (rs:=[17]) (by kernel_rfl) (by simp) ?_
   refine AllU.cons rfl (by decide) (fun K hK=>?_) AllU.nil
   have own4:=hown W4 b4'
   have s4:=b4'.size
   refine step_append_lies _ (by rfl) _ _ _ (by rfl) c.B 37 i0 _ 5 48 Tryz.underlying26 hi0 hz0 hz1 hz2 rfl (by omega) _ U.length (usV U) (by rfl) (own4.alloc _) ⟨W4.heap.size,0,none⟩ 1 1 [.int .i64 p,.int .i64 d.us,.int .i64 d.at_,.string nm,.bool true] (by rfl) (by rfl) (World.news_of_block (cs:=#[.int .i64 p,.int .i64 d.us,.int .i64 d.at_,.string nm,.bool true]) (t:=37) (fr:=(0,0)) (hnew _ (by simp))) (by simp [Value.oneCell']) (by omega) (by unfold maxLen;omega) (by omega) (by simp;omega) (W4.heap.size+1) (by simp) ?_
   intro gg cap W5 hown5 hgrow hat hlt5
   obtain ⟨⟨w1,w2⟩,su6,su5,hfin⟩:=HA.out W4 _ W5 gg cap b4' (bel_a _ _) hown5 hgrow (by simpa using hat)
   refine hK.out _ _ ⟨su5.1,su5.2.1,su5.2.2,w1⟩ ?_
   clear hK K
   refine U_end (by kernel_rfl) ?_
   refine wpAny_chain [_,_,_] [18,19,20] _ _ _ _ (by kernel_rfl) rfl (by decide) ?_
   go_wp2
   go_ret
   exact hfin
  all_goals
   rw [e1] at HA
   have su:=HSU.out W2.drew (Below.refl _ _).drew
   go_wp2_with fail
   refine wp_region_U (u:=18) (S:=fun X=>X.cell? ⟨W.heap.size,0,none⟩=some (.int .i64 x.k)∧X.cell? ⟨W1.heap.size,1,none⟩=some (.int .i64 d.at_)∧X.cell? ⟨W1.heap.size,2,none⟩=some (.int .i64 d.us)∧X.cell? ⟨c.rb,5,none⟩=some (.slice au U.length cu)) (by kernel_rfl) ?_
   change wpAnyU _ _ _ _ _ _ _ _ _ (World.drew _)
   refine uT 0 (.pointer (some ⟨c.rb,0,none⟩)) su ?_
   refine uT 1 (.pointer (some ⟨c.rb,0,none⟩)) su ?_
   refine uT 2 (.pointer (some ⟨c.rb,0,none⟩)) su ?_
   refine uT 3 (.pointer (some ⟨c.rb,5,none⟩)) su ?_
   refine uT 4 (.slice au U.length cu) su ?_
   refine uT 5 (.int .i64 p) su ?_
   refine uT 6 (.pointer (some ⟨W1.heap.size,2,none⟩)) su ?_
   refine uT 7 (.int .i64 d.us) su ?_
   refine uT 8 (.pointer (some ⟨W1.heap.size,1,none⟩)) su ?_
   refine uT 9 (.int .i64 d.at_) su ?_
   refine uT 10 (.string nm) su ?_
   refine uT 12 (.pointer (some ⟨W.heap.size,0,none⟩)) su ?_
   refine uT 13 (.int .i64 x.k) su ?_
   refine uT 14 (.bool false) su ?_
   refine U_ready (rs:=[11]) (by kernel_rfl) (by simp) ?_
   refine AllU.cons rfl (by decide) (fun K hK=>?_) AllU.nil
   go_simp
   go_at_call 26
   refine (CL _).mono ?_
   rintro e W4 ⟨rfl,b4⟩
   have b4' : Below W2.heap.size W2 W4:=⟨b4.os,b4.tape,b4.output,b4.size,b4.block⟩
   have su4:=HSU.out W4 b4'
   refine hK.out _ _ su4 ?_
   clear hK K
   refine uT 15 (.agg #[.int .i64 p,.int .i64 d.us,.int .i64 d.at_,.string nm,.bool false]) su4 ?_
   refine U_ready (rs:=[16]) (by kernel_rfl) (by simp) ?_
   refine AllU.cons rfl (by decide) (fun K hK=>?_) AllU.nil
   go_simp
   refine hK.out _ _ (HSU.out _ (b4'.alloc b4'.size _)) ?_
   clear hK K
   refine U_ready (rs:=[17]) (by kernel_rfl) (by simp) ?_
   refine AllU.cons rfl (by decide) (fun K hK=>?_) AllU.nil
   have own4:=hown W4 b4'
   have s4:=b4'.size
   refine step_append_lies _ (by rfl) _ _ _ (by rfl) c.B 37 i0 _ 5 48 Tryz.underlying26 hi0 hz0 hz1 hz2 rfl (by omega) _ U.length (usV U) (by rfl) (own4.alloc _) ⟨W4.heap.size,0,none⟩ 1 1 [.int .i64 p,.int .i64 d.us,.int .i64 d.at_,.string nm,.bool false] (by rfl) (by rfl) (World.news_of_block (cs:=#[.int .i64 p,.int .i64 d.us,.int .i64 d.at_,.string nm,.bool false]) (t:=37) (fr:=(0,0)) (hnew _ (by simp))) (by simp [Value.oneCell']) (by omega) (by unfold maxLen;omega) (by omega) (by simp;omega) (W4.heap.size+1) (by simp) ?_
   intro gg cap W5 hown5 hgrow hat hlt5
   obtain ⟨⟨w1,w2⟩,su6,su5,hfin⟩:=HA.out W4 _ W5 gg cap b4' (bel_a _ _) hown5 hgrow (by simpa using hat)
   refine hK.out _ _ ⟨su5.1,su5.2.1,su5.2.2,w1⟩ ?_
   clear hK K
   refine U_end (by kernel_rfl) ?_
   refine wpAny_chain [_,_,_] [18,19,20] _ _ _ _ (by kernel_rfl) rfl (by decide) ?_
   go_wp2
   go_ret
   exact hfin
end Go.Proofs.YtfcocoadaajbjaaGreatDoor
