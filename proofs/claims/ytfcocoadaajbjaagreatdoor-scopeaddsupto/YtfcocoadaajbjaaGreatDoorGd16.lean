/- Own text. The walk over all places of a tree. A loop over what goes over a tree: from the iterator's own contract to the statement. A loop over an iterator whose rounds write what the iterator reads;the kids of a tree with their places. -/
import Derived.Test.YtfcocoadaajbjaaGreatDoorGd05
import Derived.RangeFuncNested
import Derived.RangeFuncBound
import Derived.RangeFuncCalls
import Derived.RangeFuncLeaves
import Derived.Shelf.Abstract
import Derived.Shelf.RegionOpen
import Derived.OwnWalkIn
import Derived.TacticsInMore
import Derived.LoopNIn
import Derived.LoopIn
import Derived.Laws.EntriesVeiled
import Derived.Test.YtfcocoadaajbjaaGreatDoorGd06
set_option linter.unusedVariables false
namespace Go.Proofs.YtfcocoadaajbjaaGreatDoor
open Go.RowKit
attribute [local go_sem] Oper.semAt_some
def NAt (w : World) (T : Nat→Prop) (b o : Nat) (x : Nd) : Prop:=∃ v,T b∧Four w b o x v∧LAt w T v x.ks
theorem NAt.keep {w w' : World} {T : Nat→Prop} {b o : Nat} {x : Nd} (h : NAt w T b o x) (hs : w.heap.size ≤ w'.heap.size) (e : ∀ c,T c→w'.heap[c]?=w.heap[c]?) : NAt w' T b o x:=by
 obtain ⟨v,h1,h2,h3⟩:=h
 exact ⟨v,h1,h2.of_block (e b h1),h3.keep hs (fun c hc _=>e c hc)⟩
inductive PlT (w : World) : Nat→Nat→Nd→Nat→Nat→Nat→Nd→Prop
 | here (b o : Nat) (x : Nd) : PlT w b o x 0 b o x
 | kid (b o : Nat) (x : Nd) (bl ol c i : Nat) (hi : i < x.ks.length) (hc : w.cell? ⟨b,o+3,none⟩=some (.slice (some ⟨bl,ol,none⟩) x.ks.length c)) (k b' o' : Nat) (y : Nd) (h : PlT w bl (ol+i * 4) x.ks[i] k b' o' y) : PlT w b o x (1+sizes (x.ks.take i)+k) b' o' y
theorem flats_get : ∀ (l : List Nd) (i k : Nat) (hi : i < l.length),k < l[i].size→(flats l)[sizes (l.take i)+k]?=l[i].flat[k]?
 | x :: l,0,k,hi,hk=>by
  rw [flats_cons,List.take_zero,sizes_nil,Nat.zero_add]
  simp only [List.getElem_cons_zero] at hk ⊢
  exact List.getElem?_append_left (by rw [x.flat_len];exact hk)
 | x :: l,i+1,k,hi,hk=>by
  rw [flats_cons,List.take_succ_cons,sizes_cons]
  simp only [List.getElem_cons_succ] at hk ⊢
  rw [List.getElem?_append_right (by rw [x.flat_len];omega),x.flat_len,show x.size+sizes (l.take i)+k - x.size=sizes (l.take i)+k by omega]
  exact flats_get l i k (by simpa using hi) hk
theorem PlT.flat {w : World} {b o : Nat} {x : Nd} {k b' o' : Nat} {y : Nd} (h : PlT w b o x k b' o' y) : x.flat[k]?=some y:=by
 induction h with
 | here b o x=>rw [x.flat_eq];rfl
 | kid b o x bl ol c i hi hc k b' o' y h ih =>
  have hk : k < x.ks[i].size:=by rw [← x.ks[i].flat_len];exact (List.getElem?_eq_some_iff.1 ih).1
  rw [x.flat_eq,show 1+sizes (x.ks.take i)+k=(sizes (x.ks.take i)+k)+1 by omega,List.getElem?_cons_succ,flats_get _ _ _ hi hk]
  exact ih
theorem yield_any {P : Program} {l : Nat} {args : Array Value} {W : World} {R : Ending→World→Prop} {m : Nat} (m' : Nat) (h : YieldAt Fence.wide m P l args W R) : YieldAt Fence.wide m' P l args W R:=by
 obtain ⟨fn,tmps,assign,body,hy,hR⟩:=h
 exact ⟨fn,tmps,assign,body,hy,hR.1,fun c cs _=>hR.2 c cs (room_wide _)⟩
set_option maxHeartbeats 1000000
theorem below_put {B : Nat} {W : World} {l : Nat} (o : Obj) (hl : B ≤ l) : Below B W (W.putObj l o):=by
 refine ⟨rfl,rfl,rfl,?_,fun c hc=>World.putObj_heap_other (by omega)⟩
 simp [World.putObj]
theorem put_size {W : World} {l : Nat} (o : Obj) : (W.putObj l o).heap.size=W.heap.size:=by simp [World.putObj]
end Go.Proofs.YtfcocoadaajbjaaGreatDoor
set_option linter.unusedVariables false
set_option linter.unusedSimpArgs false
set_option maxRecDepth 100000
set_option maxHeartbeats 8000000
namespace Go.Proofs.YtfcocoadaajbjaaGreatDoor
open Go.RowKit Go.MapKept
def Rnd2 (G : Nat→Array Value→World→Prop) (l : Nat) (J : Nat→World→Prop) : Prop :=
 ∀ k args W,G k args W→J k W→YieldAt Fence.wide 0 Tryz.prog l args W fun e W'=>e = .returned (.bool true)∧J (k+1) W'
def PostQ (D l k : Nat) (J : Nat→World→Prop) (W : World) : Exit→Act→World→Prop
 | .normal,_,W'=>J (k+1) W'∧W'.heap[l]?=W.heap[l]?∧W'.heap[D]?=W.heap[D]?
 | _,_,_=>False
theorem range_law2 {g : Operand} {ps : Array Tmp} {assign body : Code} {Q : Exit→Act→World→Prop} {a : Act} {w : World} {gf : Nat} {lb : Array Value} (hg : a.eval g = .func (.func gf) #[] lb) (eg : ∀ args w,(callFunc gf args).run Tryz.prog w = .ok (.enter gf args) w)
 (G : Nat→Array Value→World→Prop) (N : Nat) (hps : ∀ k args W,G k args W→args.size=ps.size) (Rz : World→Prop)
 (hit : ∀ (l : Nat) (J : Nat→World→Prop) (W1 : World),Below w.heap.size w W1→(∀ k X,J k X→Rz X)→(∀ k X Z,J k X→Below X.heap.size X Z→J k Z)→Rnd2 G l J→J 0 W1 →
  Calls Tryz.prog gf (#[.func (.yield l) #[] #[]] ++ lb) W1 fun e W'=>(∃ v,e = .returned v)∧J N W')
 (J : Nat→World→Prop) (hR : ∀ k X,J k X→Rz X) (hJ : ∀ k X Z,J k X→Below X.heap.size X Z→J k Z) (hJp : ∀ k X l r o,J k X→w.heap.size ≤ l→X.heap[l]?=some (.loop r)→J k (X.putObj l o)) (h0 : J 0 w)
 (Ax : Nat→Array Value→World→Act→World→Prop)
 (hassign : ∀ (l k : Nat) (args : Array Value) (W : World) (K : Act→World→Prop),G k args W→J k W→(∀ a' W',Below W.heap.size W W'→Ax k args W a' W'→K a' W') →
  assign.wpIn (Fence.wide.inRound l) 8 Tryz.prog (Exit.then K (fun _ _ _=>False)) { tmps:=(ps.zip args).foldl (fun t (p,v)=>t.setIfInBounds p v) a.tmps,defers:=[] } W)
 (hbody : ∀ (D l k : Nat) (args : Array Value) (a' : Act) (W Wa W2 : World),G k args W→J k W→Below W.heap.size W Wa→Ax k args W a' Wa→l < W.heap.size→w.heap.size ≤ l→(∀ c,c ≠ l→W2.heap[c]?=Wa.heap[c]?)→W2.heap.size=Wa.heap.size→(∃ r,W2.heap[l]?=some (.loop r))→(∃ r,W2.heap[D]?=some (.deferred r))→J k W2 →
  body.wpIn (Fence.wide.inRound l) 8 Tryz.prog (PostQ D l k J W2) a' W2)
 (hdone : ∀ (D : Nat) (W : World),w.heap.size ≤ D→J N W→W.heap[D]?=some (.deferred (some []))→Q .normal { a with defers:={ target:=.collected D,args:=#[] } :: a.defers } W) :
 (Code.rangeFunc g ps assign body).wpIn Fence.wide 10 Tryz.prog Q a w:=by
 refine wpIn_rangeFunc ?_
 intro fn hfn
 rw [show Fence.wide.round=none from rfl]
 obtain ⟨rec,hrec⟩ : ∃ rec : LoopState→Option Code→Loop,rec=fun st pe=>{ state:=st,pending:=pe,fn,tmps:=a.tmps,params:=ps,assign,body,defers:=w.heap.size }:=⟨_,rfl⟩
 obtain ⟨W1,hW1⟩ : ∃ W1,(w.alloc (.deferred (some []))).alloc (.loop (rec .ready none))=W1:=⟨_,rfl⟩
 have hL1 : W1.heap[w.heap.size+1]?=some (.loop (rec .ready none)):=by rw [← hW1];exact hnew _ (by simp)
 have hK1 : W1.heap[w.heap.size]?=some (.deferred (some [])):=by rw [← hW1];exact hold _ (by simp) (hnew _ rfl)
 have hs1 : W1.heap.size=w.heap.size+2:=by rw [← hW1];simp
 have hb1 : Below w.heap.size w W1:=by rw [← hW1];exact (bel_a _ _).alloc (by simp) _
 refine ⟨w.heap.size+1,[{ target:=.collected w.heap.size,args:=#[] }],W1,{ target:=.fn (.func gf) lb,args:=#[.func (.yield (w.heap.size+1)) #[] #[]] },W1,gf,
  #[.func (.yield (w.heap.size+1)) #[] #[]] ++ lb,W1,?_,?_,?_,?_,fun _=>(by omega),?_⟩
 ·rw [← hW1,hrec];exact run_enterLoop_outer _ _ _ _ _
 ·simp only [resolve,hg]
  simp [go_sem]
 ·intro f' hf';trivial
 ·simp [invoke,go_sem,eg]
 ·refine callsIn_wide.2 ?_
  refine (hit (w.heap.size+1)
   (fun k W=>J k W∧W.heap[w.heap.size+1]?=some (.loop (rec .ready none))∧W.heap[w.heap.size]?=some (.deferred (some [])))
   W1 hb1 (fun k X hX=>hR k X hX.1) (fun k X Z hX hB=>⟨hJ k X Z hX.1 hB,(hB.block _ (gl hX.2.1)).trans hX.2.1,(hB.block _ (gl hX.2.2)).trans hX.2.2⟩) ?_ ⟨hJ _ _ _ h0 hb1,hL1,hK1⟩).mono ?_
  ·rintro k args W hG ⟨hj,hl,hd⟩
   have hlt : w.heap.size+1 < W.heap.size:=(gl hl)
   have hy:=run_yield (P:=Tryz.prog) (args:=args) hl (by rw [hrec];exact hps k args W hG)
   rw [hrec] at hy
   refine ⟨fn,_,assign,body,hy,?_⟩
   have hRd : RoundIn Fence.wide 8 Tryz.prog (w.heap.size+1) fn ((ps.zip args).foldl (fun t (p,v)=>t.setIfInBounds p v) a.tmps) assign body W fun e W' =>
    e = .returned (.bool true)∧(J (k+1) W'∧W'.heap[w.heap.size+1]?=some (.loop (rec .ready none))∧W'.heap[w.heap.size]?=some (.deferred (some []))):=by
    refine roundIn_of_wpIn hfn (hassign _ k args W _ hG hj ?_)
    clear hy
    intro a' Wa hba hax
    have hla:=(hba.block _ hlt).trans hl
    have hda:=(hba.block w.heap.size (by omega)).trans hd
    have hsa:=hba.size
    have hlta : w.heap.size+1 < Wa.heap.size:=(gl hla)
    refine ⟨_,run_beginRound hla (by rw [hrec]),?_⟩
    obtain ⟨W2,hW2⟩ : ∃ W2,Wa.putObj (w.heap.size+1) (.loop { rec .ready none with state:=.busy })=W2:=⟨_,rfl⟩
    have hl2 : W2.heap[w.heap.size+1]?=some (.loop { rec .ready none with state:=.busy }):=by rw [← hW2];exact World.putObj_heap_same hlta
    have ho2 : ∀ c,c ≠ w.heap.size+1→W2.heap[c]?=Wa.heap[c]?:=fun c hc=>by rw [← hW2];exact World.putObj_heap_other hc
    have hs2 : W2.heap.size=Wa.heap.size:=by rw [← hW2];exact put_size _
    have hj2 : J k W2:=by rw [← hW2];exact hJp k Wa _ _ _ (hJ k W Wa hj hba) (by omega) hla
    rw [hW2]
    have hd2:=(ho2 w.heap.size (by omega)).trans hda
    refine wpIn_mono (hbody w.heap.size _ k args a' W Wa W2 hG hj hba hax hlt (by omega) ho2 hs2 ⟨_,hl2⟩ ⟨_,hd2⟩ hj2) ?_
    rintro e a3 W3 hp
    cases e with
    | normal =>
     obtain ⟨hj3,hl3,hd3⟩:=hp
     have hl3':=hl3.trans hl2
     have:=run_endRound (P:=Tryz.prog) none hl3'
     rw [hrec] at this ⊢
     refine ⟨_,_,this,rfl,hJp _ _ _ _ _ hj3 (by omega) hl3',?_,(World.putObj_heap_other (by omega)).trans (hd3.trans hd2)⟩
     exact World.putObj_heap_same (gl hl3')
    | ret=>exact hp.elim
    | exit id=>exact hp.elim
    | goto t=>exact hp.elim
    | panic ch=>exact hp.elim
    | outgrown=>exact hp.elim
   exact ⟨hRd.1,fun c cs _=>hRd.2 c cs (room_wide _)⟩
  ·rintro e W2 ⟨⟨v,rfl⟩,hj,hl,hk⟩
   exact ⟨none,_,by have:=run_endLoop (P:=Tryz.prog) hl (by rw [hrec];simp);rw [hrec] at this;exact this,hdone _ _ (Nat.le_refl _) (hJp _ _ _ _ _ hj (by omega) hl) ((World.putObj_heap_other (by omega)).trans hk)⟩
theorem kids_in (w : World) (rb : Nat) (x : Nd) (v : Value) (hv : ∃ a n c,v = .slice a n c) (p : Int) : Calls Tryz.prog 33 #[.pointer (some ⟨rb,0,none⟩),x.v v,.int .i64 p] w fun e w' =>
 e = .returned (.func (.func 57) #[] #[.pointer (some ⟨w.heap.size+1+1,0,none⟩),.pointer (some ⟨w.heap.size+1,0,none⟩),.pointer (some ⟨w.heap.size,0,none⟩)]) ∧
 w'=((w.alloc (.cells #[.pointer (some ⟨rb,0,none⟩)] 51)).alloc (.cells #[.int .i64 x.k,.string x.t,.int .i64 x.n,v] 24)).alloc (.cells #[.int .i64 p] 3):=by
 obtain ⟨a,n,c,rfl⟩:=hv
 unfold Nd.v
 go_enter Tryz.func33,Tryz.ntmps33
 go_wp2
 go_ret
 exact ⟨rfl,rfl⟩
def Zr (W : World) (sb c : Nat) (Z : List Nat) : Prop:=∃ base,W.ownsRow base 3 1 (.slice (some ⟨sb,0,none⟩) Z.length c) Z.length (iV Z)
theorem Zr.at {W : World} {sb c : Nat} {Z : List Nat} (h : Zr W sb c Z) {i n : Nat} (hi : Z[i]?=some n) : W.cell? ⟨sb,i,none⟩=some (.int .i64 (n : Nat))∧i < Z.length:=by
 obtain ⟨base,h⟩:=h
 have hl:=(List.getElem?_eq_some_iff.1 hi).1
 refine ⟨?_,hl⟩
 rw [World.ownsRow.cellAt h i (by omega)]
 unfold iV
 rw [List.getElem?_map,hi]
 rfl
theorem Zr.keep {W W' : World} {sb c : Nat} {Z : List Nat} (h : Zr W sb c Z) (e : W'.heap[sb]?=W.heap[sb]?) : Zr W' sb c Z:=by
 obtain ⟨base,h⟩:=h
 exact ⟨base,rw_keep h fun b hb=>by cases hb;exact e⟩
theorem Zr.lt {W : World} {sb c : Nat} {Z : List Nat} (h : Zr W sb c Z) : sb < W.heap.size:=by
 obtain ⟨base,h⟩:=h
 exact (rw_lt h sb rfl).2
structure Rk (rx rb sb c : Nat) (Z : List Nat) (S : Nat→Prop) (v : Value) (ks : List Nd) (W : World) : Prop where
 r : W.cell? ⟨rx,0,none⟩=some (.pointer (some ⟨rb,0,none⟩))
 s : W.cell? ⟨rb,0,none⟩=some (.slice (some ⟨sb,0,none⟩) Z.length c)
 z : Zr W sb c Z
 k : LAt W S v ks
def Gk (S : Nat→Prop) (p : Nat) (ks : List Nd) (j : Nat) (args : Array Value) (W : World) : Prop :=
 ∃ (h : j < ks.length) (a : Option Addr) (c : Nat),args=#[.int .i64 ((p+1+sizes (ks.take j) : Nat) : Int),(ks[j]).v (.slice a ks[j].ks.length c)]∧LAt W S (.slice a ks[j].ks.length c) ks[j].ks
theorem kids_it {w : World} {rx rb sb c nx ax p : Nat} {Z : List Nat} {S : Nat→Prop} {x : Nd} {v : Value}
 (hn : w.heap[nx]?=some (.cells #[.int .i64 x.k,.string x.t,.int .i64 x.n,v] 24 (0,0))) (ha : w.heap[ax]?=some (.cells #[.int .i64 ((p : Nat) : Int)] 3 (0,0))) (hl : LAt w S v x.ks) (hz : ∀ j (h : j < x.ks.length),Z[p+1+sizes (x.ks.take j)]?=some x.ks[j].size) (zs : Z.length ≤ 4194304) (hk : sizes x.ks ≤ 4194304) (hp : p ≤ 4194304) :
 ∀ (l : Nat) (J : Nat → World → Prop) (W1 : World),Below w.heap.size w W1 → (∀ k X,J k X → Rk rx rb sb c Z S v x.ks X) → (∀ k X Z,J k X → Below X.heap.size X Z → J k Z) → Rnd2 (Gk S p x.ks) l J → J 0 W1 →
   Calls Tryz.prog 57 (#[.func (.yield l) #[] #[]] ++ #[.pointer (some ⟨ax,0,none⟩),.pointer (some ⟨nx,0,none⟩),.pointer (some ⟨rx,0,none⟩)]) W1 fun e W'=>(∃ v,e = .returned v)∧J x.ks.length W':=by
 intro l J W1 b1 hR hJ hY h0
 have lx:=sizes_len x.ks
 have hnl:=(gl hn)
 have hal:=(gl ha)
 have hn1:=(b1.block nx hnl).trans hn
 have ha1:=(b1.block ax hal).trans ha
 obtain ⟨⟨n0,n1,n2,n3⟩,_⟩:=box4 hn1
 have a0 : W1.cell? ⟨ax,0,none⟩=some (.int .i64 ((p : Nat) : Int)):=by simp [World.cell?,ha1]
 obtain ⟨av,cv,rfl⟩:=hl.sl
 clear hn ha hn1 ha1
 refine (callsIn_wide (n:=10)).1 ?_
 refine callsIn_of_wp Tryz.func57 rfl trivial ?_ rfl
 simp only [Tryz.ntmps57,List.size_toArray,List.length_cons,List.length_nil,Nat.reduceAdd,Nat.reduceSub,Array.replicate_succ,Array.replicate_zero,List.push_toArray,List.append_toArray,List.nil_append,List.cons_append]
 gi_wp2
 gi_loopw [5,13] (fun n i wr=>∃ (j q : Nat),i = .int .i64 (j : Nat)∧n = .int .i64 (q : Nat)∧j ≤ x.ks.length∧Hid (q=p+1+sizes (x.ks.take j))∧q ≤ 8388608+1∧J j wr) (fun _ i _=>x.ks.length - (intOf i).toNat)
 case atStart=>exact ⟨0,p+1,rfl,by simp,by omega,by simp [Hid,sizes_nil],by omega,h0⟩
 case round =>
  clear h0 n0 n1 n2 n3 a0 b1
  obtain ⟨j,q,rfl,rfl,hj,HQ,hq8,hJr⟩:=hrel
  by_cases hjl : j < x.ks.length
  ·have hRr:=hR j wr hJr
   have hzj:=hz j hjl
   rw [← HQ.out] at hzj
   obtain ⟨zc,zl⟩:=hRr.z.at hzj
   obtain ⟨ax',cx',bx,ox,fx,hv,px,qx,rx'⟩:=hRr.k.op
   obtain ⟨hax,hSx,hbx⟩:=px (by omega)
   have hv2 : av=some ⟨bx,ox,none⟩:=by have:=hv;rw [hax] at this;injection this
   subst hv2
   obtain ⟨u1,u2,u3,u4⟩:=qx j hjl
   have gx:=rx' j hjl
   obtain ⟨ak,ck,hfk⟩:=gx.sl
   rw [hfk] at u4 gx
   obtain ⟨WB,hWB⟩ : ∃ X,wr.alloc (Obj.cells #[.int .i64 x.ks[j].k,.string x.ks[j].t,.int .i64 x.ks[j].n,.slice ak x.ks[j].ks.length ck] 24)=X:=⟨_,rfl⟩
   have bB : Below wr.heap.size wr WB:=by rw [← hWB];exact bel_a _ _
   have mB : WB.heap[wr.heap.size]?=some (.cells #[.int .i64 x.ks[j].k,.string x.ks[j].t,.int .i64 x.ks[j].n,.slice ak x.ks[j].ks.length ck] 24 (0,0)):=by rw [← hWB];exact hnew _ rfl
   obtain ⟨⟨e0,e1,e2,e3⟩,_⟩:=box4 mB
   have HS : Hid (sizes (x.ks.take (j+1))=sizes (x.ks.take j)+x.ks[j].size):=take_sizes x.ks hjl
   have hYj:=hY j #[.int .i64 (q : Nat),(x.ks[j]).v (.slice ak x.ks[j].ks.length ck)] WB ⟨hjl,ak,ck,by rw [HQ.out],gx.bel bB⟩ (hJ j wr WB hJr bB)
   have hle:=take_sizes_le x.ks (j+1)
   rw [HS.out] at hle
   have hsz1 : q+x.ks[j].size ≤ 8388609:=by have:=HQ.out;omega
   have HQ2 : Hid (q+x.ks[j].size=p+1+sizes (x.ks.take (j+1))):=by show _=_;rw [HS.out];have:=HQ.out;omega
   clear hle HS
   generalize hxk : x.ks[j]=xk at *
   unfold Nd.v at hYj
   obtain ⟨fn,tmps,assign,body,hy,hRd⟩:=yield_any 9 hYj
   clear hv px qx rx' mB hfk gx hRr hYj hax
   gi_wp2
   refine hRd.mono ?_
   rintro e W5 ⟨rfl,hJ5⟩
   have hR5:=hR _ _ hJ5
   have r5:=hR5.r
   have s5:=hR5.s
   obtain ⟨zc5,_⟩:=hR5.z.at hzj
   clear hRd hy hR5 zc hzj
   gi_wp2
   go_roundw
   case rel=>exact ⟨j+1,q+xk.size,by simp,by simp,by omega,HQ2,hsz1,hJ5⟩
   case measure=>simp [intOf];omega
  ·obtain rfl : j=x.ks.length:=by omega
   gi_wp2
   first | go_end0 | go_ret
   exact ⟨⟨_,rfl⟩,hJr⟩
end Go.Proofs.YtfcocoadaajbjaaGreatDoor
