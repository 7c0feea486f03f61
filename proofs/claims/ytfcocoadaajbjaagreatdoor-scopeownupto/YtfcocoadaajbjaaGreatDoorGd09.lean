/- Own text. What stands together in a class,an import,an export: package tree. Whether the members of a class stand in order: package tree. The rules of kinds: package tree. The rules of kinds: package tree. The rules of kinds: package tree. The rules of kinds: package tree. The rules of kinds: package tree. The form of a tree: package tree. -/
import Derived.Test.YtfcocoadaajbjaaGreatDoorGd08
import Derived.Test.YtfcocoadaajbjaaGreatDoorGd07
import Derived.Test.YtfcocoadaajbjaaGreatDoorGd05
set_option linter.unusedVariables false
set_option linter.unusedSimpArgs false
set_option maxRecDepth 100000
set_option maxHeartbeats 4000000
namespace Go.Proofs.YtfcocoadaajbjaaGreatDoor
open Go.RowKit
def hkL (l : List Nd) : Int:=match l with | []=>0 | z :: _=>z.k
def hk0 (y : Nd) : Int:=hkL y.ks
theorem hkL_get : ∀ (l : List Nd) (h : 0 < l.length),l[0].k=hkL l
 | z :: l,_=>rfl
theorem typed1_any (y : Nd) (hy : y.ks ≠ []) (W : World) (S : Nat→Prop) (v : Value) (hx : LAt W S v y.ks) : Calls Tryz.prog 111 #[y.v v] W fun e W'=>e = .returned (.bool (hk0 y == 14))∧Below W.heap.size W W':=by
 obtain ⟨ax,cx,bx,ox,fx,rfl,px,qx,rx⟩:=hx.op
 have hl : 0 < y.ks.length:=List.length_pos_iff.2 hy
 obtain ⟨rfl,hSx,hbx⟩:=px hl
 have h4:=(qx 0 hl).of_block (Below.heap_alloc W (Obj.cells #[.int .i64 y.k,.string y.t,.int .i64 y.n,.slice (some { block:=bx,off:=ox }) y.ks.length cx] 24) bx hbx)
 obtain ⟨u1,_⟩:=h4
 have hk : y.ks[0].k=hk0 y:=hkL_get y.ks hl
 rw [hk] at u1
 have e0 : ox+0 * 4=ox:=by omega
 rw [e0] at u1
 unfold Nd.v
 go_enter Tryz.func111,Tryz.ntmps111
 go_wp2
 go_ret
 exact ⟨rfl,bel_a _ _⟩
theorem star1_any (y : Nd) (W : World) (S : Nat→Prop) (v : Value) (hx : LAt W S v y.ks) : Calls Tryz.prog 121 #[y.v v] W fun e W'=>e = .returned (.bool (y.t.toList == [42]))∧Below W.heap.size W W':=by
 obtain ⟨ax,cx,rfl⟩:=hx.sl
 unfold Nd.v
 go_enter Tryz.func121,Tryz.ntmps121
 go_wp2
 go_ret
 exact ⟨rfl,bel_a _ _⟩
theorem containsFunc_any (w : World) (S : Nat→Prop) (l : List Nd) (v : Value) (f : FuncId) (cap : Array Value) (q : Nd→Bool) (hx : LAt w S v l) (hl : l.length ≤ 4194304) (ent : ∀ args w,(callFunc f args).run Tryz.prog w = .ok (.enter f args) w)
 (hq : ∀ y ∈ l,∀ (W : World) (v : Value),Below w.heap.size w W→LAt W S v y.ks→Calls Tryz.prog f (#[y.v v] ++ cap) W fun e W'=>e = .returned (.bool (q y))∧Below W.heap.size W W') :
 Calls Tryz.prog 110 #[v,.func (.func f) #[] cap] w fun e w'=>e = .returned (.bool (l.any q))∧Below w.heap.size w w':=by
 have hi:=indexFunc_any w S l v f cap q hx hl ent hq
 clear hq
 go_enter Tryz.func110,Tryz.ntmps110
 go_wp2_with (go_at_call 120;refine hi.mono ?_;rintro e w' ⟨i,rfl,b1,hor⟩)
 go_ret
 refine ⟨?_,b1⟩
 congr 2
 rcases hor with ⟨rfl,h⟩ | ⟨k,hk,rfl,h,_⟩
 ·have : l.any q=false:=by rw [List.any_eq_false];intro x hx;simp [h x hx]
  rw [this];rfl
 ·have : l.any q=true:=List.any_eq_true.2 ⟨l[k],List.getElem_mem hk,h⟩
  rw [this];simp
theorem typed_any (x : Nd) (w : World) (S : Nat→Prop) (v : Value) (hx : LAt w S v x.ks) (hl : x.ks.length ≤ 4194304) (hk : ∀ y ∈ x.ks,y.ks ≠ []) :
 Calls Tryz.prog 94 #[x.v v] w fun e w'=>e = .returned (.bool (!x.ks.any fun y=>hk0 y == 14))∧Below w.heap.size w w':=by
 have hc:=fun W (b : Below w.heap.size w W)=>containsFunc_any W S x.ks v 111 #[] (fun y=>hk0 y == 14) (hx.bel b) hl (enters_of Tryz.func111 (by kernel_rfl) rfl) (fun y hy W' v' _ h=>typed1_any y (hk y hy) W' S v' h)
 obtain ⟨ax,cx,rfl⟩:=hx.sl
 unfold Nd.v
 go_enter Tryz.func94,Tryz.ntmps94
 go_wp2_with (go_at_call 110;refine (hc _ (bel_a _ _)).mono ?_;rintro e W1 ⟨rfl,b1⟩)
 go_ret
 exact ⟨rfl,(bel_a _ _).trans (b1.mono (by simp))⟩
def starI (l : List Nd) : Option Nat:=l.findIdx? fun y=>y.t.toList == [42]
def starN (l : List Nd) : Int:=match starI l with | none=>-1 | some k=>k
theorem star_any (l : List Nd) (w : World) (S : Nat→Prop) (v : Value) (hx : LAt w S v l) (hl : l.length ≤ 4194304) :
 Calls Tryz.prog 114 #[v] w fun e w'=>e = .returned (.int .i64 (starN l))∧Below w.heap.size w w':=by
 have hi:=indexFunc_any w S l v 121 #[] (fun y=>y.t.toList == [42]) hx hl (enters_of Tryz.func121 (by kernel_rfl) rfl) (fun y hy W' v' _ h=>star1_any y W' S v' h)
 go_enter Tryz.func114,Tryz.ntmps114
 go_wp2_with (go_at_call 120;refine hi.mono ?_;rintro e w' ⟨i,rfl,b1,hor⟩)
 go_ret
 refine ⟨?_,b1⟩
 congr 2
 unfold starN starI
 rcases hor with ⟨rfl,h⟩ | ⟨k,hk,rfl,h,h2⟩
 ·have : l.findIdx? (fun y=>y.t.toList == [42])=none:=by rw [List.findIdx?_eq_none_iff];exact h
  rw [this]
  rfl
 ·have : l.findIdx? (fun y=>y.t.toList == [42])=some k:=by
   rw [List.findIdx?_eq_some_iff_getElem]
   refine ⟨hk,h,fun j hj=>?_⟩
   have:=h2 l[j] (by rw [List.mem_take_iff_getElem];exact ⟨j,by omega,rfl⟩)
   simp [this]
  rw [this]
  rfl
def def0 (l : List Nd) : Bool:=match l with | []=>false | z :: _=>z.t.toList == [100,101,102,97,117,108,116]
theorem def0_get : ∀ (l : List Nd) (h : 0 < l.length),l[0].t.toList=[100,101,102,97,117,108,116] ↔ def0 l=true
 | z :: l,_=>by simp [def0]
def importS (x : Nd) : Bool :=
 if starN x.ks < 0 then (x.n == 0) || decide (0 < x.ks.length)
 else ((starN x.ks == 0) || ((starN x.ks == 1) && def0 x.ks)) && (starN x.ks == (x.ks.length : Int) - 1) && (x.n == 0)
theorem starN_lt (l : List Nd) : -1 ≤ starN l∧(0 ≤ starN l→0 < l.length):=by
 unfold starN starI
 cases h : l.findIdx? (fun y=>y.t.toList == [42]) with
 | none=>simp
 | some k =>
  obtain ⟨hk,_⟩:=List.findIdx?_eq_some_iff_getElem.1 h
  exact ⟨by show -1 ≤ (k : Int);omega,fun _=>by omega⟩
theorem importStands_any (x : Nd) (w : World) (S : Nat→Prop) (v : Value) (hx : LAt w S v x.ks) (hl : x.ks.length ≤ 4194304) :
 Calls Tryz.prog 96 #[x.v v] w fun e w'=>e = .returned (.bool (importS x))∧Below w.heap.size w w':=by
 have hs:=fun W (b : Below w.heap.size w W)=>star_any x.ks W S v (hx.bel b) hl
 obtain ⟨ax,cx,bx,ox,fx,rfl,px,qx,rx⟩:=hx.op
 obtain ⟨sn1,sn2⟩:=starN_lt x.ks
 unfold importS Nd.v
 generalize starN x.ks=sn at *
 have e1 : Hid (∀ o W1,Below (w.alloc o).heap.size (w.alloc o) W1→Below w.heap.size w W1∧W1.heap[w.heap.size]?=some o):=fun o W1 b=>⟨(bel_a w o).trans (b.mono (by simp)),(b.block w.heap.size (by simp)).trans (hnew o rfl)⟩
 by_cases hneg : sn < 0
 ·go_enter Tryz.func96,Tryz.ntmps96
  go_wp2_with (go_at_call 114;refine (hs _ (bel_a _ _)).mono ?_;rintro e W1 ⟨rfl,b1⟩;obtain ⟨b2,m2⟩:=e1.out _ _ b1;obtain ⟨⟨c0,c1,c2,c3⟩,_⟩:=box4 m2)
  all_goals go_ret
  all_goals exact ⟨ret_bool (by clear hs e1;simp_all),b2⟩
 ·have hpos:=sn2 (by omega)
  obtain ⟨rfl,hSx,hbx⟩:=px hpos
  have hd : x.ks[0].t.toList=[100,101,102,97,117,108,116] ↔ def0 x.ks=true:=def0_get x.ks hpos
  have h4 : Hid (∀ W1,Below w.heap.size w W1→W1.cell? ⟨bx,ox+1,none⟩=some (.string x.ks[0].t)):=fun W1 b=>by
   have:=((qx 0 hpos).of_block (b.block bx hbx)).2.1
   simpa using this
  generalize x.ks[0].t=t0 at *
  generalize def0 x.ks=db at *
  have hd2 : (t0.toList == [100,101,102,97,117,108,116])=db:=by rw [Bool.eq_iff_iff];simpa using hd
  clear hd sn2 px qx rx hSx hbx
  obtain ⟨lb,hlb⟩ : ∃ lb,(sn == (x.ks.length : Int) - 1)=lb:=⟨_,rfl⟩
  rw [hlb,if_neg hneg]
  by_cases h0 : sn=0
  ·subst h0
   clear hneg sn1
   cases lb
   all_goals
    go_enter Tryz.func96,Tryz.ntmps96
    go_wp2_with (go_at_call 114;refine (hs _ (bel_a _ _)).mono ?_;rintro e W1 ⟨rfl,b1⟩;obtain ⟨b2,m2⟩:=e1.out _ _ b1;obtain ⟨⟨c0,c1,c2,c3⟩,_⟩:=box4 m2;have h4':=h4.out _ b2)
    all_goals go_ret
    all_goals exact ⟨ret_bool (by clear hs;simp),b2⟩
  by_cases h1 : sn=1
  ·subst h1
   clear hneg sn1 h0
   cases lb <;> cases db
   all_goals
    go_enter Tryz.func96,Tryz.ntmps96
    go_wp2_with (go_at_call 114;refine (hs _ (bel_a _ _)).mono ?_;rintro e W1 ⟨rfl,b1⟩;obtain ⟨b2,m2⟩:=e1.out _ _ b1;obtain ⟨⟨c0,c1,c2,c3⟩,_⟩:=box4 m2;have h4':=h4.out _ b2)
    all_goals go_ret
    all_goals exact ⟨ret_bool (by clear hs;simp),b2⟩
  ·cases lb
   all_goals
    go_enter Tryz.func96,Tryz.ntmps96
    go_wp2_with (go_at_call 114;refine (hs _ (bel_a _ _)).mono ?_;rintro e W1 ⟨rfl,b1⟩;obtain ⟨b2,m2⟩:=e1.out _ _ b1;obtain ⟨⟨c0,c1,c2,c3⟩,_⟩:=box4 m2;have h4':=h4.out _ b2)
    all_goals go_ret
    all_goals exact ⟨ret_bool (by clear hs;simp [h0,h1]),b2⟩
def exportS (mod : Bool) (x : Nd) : Bool :=
 if 0 ≤ starN x.ks then ((x.ks.length : Int) == 1) && (x.t.toList != []) && (x.n == 0)
 else (x.t.toList != []) || x.ks.all fun y=>idT mod y.t
theorem export1_any (y : Nd) (W : World) (S : Nat→Prop) (v fv : Value) (mod : Bool) (FB : Nat) (hx : LAt W S v y.ks) (hw : WAt W fv) (hf : ∃ t,W.heap[FB]?=some (.cells #[fv,.bool mod] t (0,0))) :
 Calls Tryz.prog 115 #[y.v v,.pointer (some ⟨FB,0,none⟩)] W fun e W'=>e = .returned (.bool (!idT mod y.t))∧Below W.heap.size W W':=by
 have hi:=fun W' (b : Below W.heap.size W W')=>isId_any W' fv mod y.t (hw.bel b)
 obtain ⟨a,rfl⟩ : ∃ a,fv = .slice a 19 19:=by obtain ⟨bl,t,rfl,_⟩:=hw;exact ⟨_,rfl⟩
 obtain ⟨ax,cx,rfl⟩:=hx.sl
 obtain ⟨t,hf⟩:=hf
 have hFl:=(Array.getElem?_eq_some_iff.1 hf).1
 have c0 : ∀ o,(W.alloc o).cell? ⟨FB,0,none⟩=some (.slice a 19 19)∧(W.alloc o).cell? ⟨FB,1,none⟩=some (.bool mod):=fun o=>by
  have e:=hold o hFl hf
  constructor <;> simp [World.cell?,e]
 have c1:=fun o=>(c0 o).1
 have c2:=fun o=>(c0 o).2
 clear c0
 unfold Nd.v
 unfold fmV at hi
 go_enter Tryz.func115,Tryz.ntmps115
 go_wp2_with (go_at_call 104;refine (hi _ (bel_a _ _)).mono ?_;rintro e W1 ⟨rfl,b1⟩)
 go_ret
 exact ⟨rfl,(bel_a _ _).trans (b1.mono (by simp))⟩
theorem exportStands_any (x : Nd) (w : World) (S : Nat→Prop) (v fv : Value) (mod : Bool) (hx : LAt w S v x.ks) (hl : x.ks.length ≤ 4194304) (hw : WAt w fv) :
 Calls Tryz.prog 97 #[fmV fv mod,x.v v] w fun e w'=>e = .returned (.bool (exportS mod x))∧Below w.heap.size w w':=by
 have hs:=fun W (b : Below w.heap.size w W)=>star_any x.ks W S v (hx.bel b) hl
 have hc:=fun W (b : Below w.heap.size w W) (hf : ∃ t,W.heap[w.heap.size]?=some (.cells #[fv,.bool mod] t (0,0)))=>containsFunc_any W S x.ks v 115 #[.pointer (some ⟨w.heap.size,0,none⟩)] (fun y=>!idT mod y.t) (hx.bel b) hl (enters_of Tryz.func115 (by kernel_rfl) rfl)
  (fun y hy W' v' b' h=>export1_any y W' S v' fv mod w.heap.size h (hw.bel (b.trans (b'.mono b.size))) (by obtain ⟨t,hf⟩:=hf;exact ⟨t,(b'.block _ (Array.getElem?_eq_some_iff.1 hf).1).trans hf⟩))
 obtain ⟨a,rfl⟩ : ∃ a,fv = .slice a 19 19:=by obtain ⟨bl,t,rfl,_⟩:=hw;exact ⟨_,rfl⟩
 obtain ⟨ax,cx,rfl⟩:=hx.sl
 have hall : (x.ks.all fun y=>idT mod y.t) = !(x.ks.any fun y=>!idT mod y.t):=by rw [List.not_any_eq_all_not];simp
 unfold exportS Nd.v fmV
 rw [hall]
 clear hall
 generalize starN x.ks=sn at *
 generalize (x.ks.any fun y=>!idT mod y.t)=an at *
 have e1 : ∀ o o' W1,Below ((w.alloc o).alloc o').heap.size ((w.alloc o).alloc o') W1→Below w.heap.size w W1∧W1.heap[w.heap.size]?=some o∧W1.heap[w.heap.size+1]?=some o':=fun o o' W1 b=>⟨((bel_a w o).alloc (by simp) _).trans (b.mono (by simp;omega)),(b.block w.heap.size (by simp <;> omega)).trans (hold o' (by simp) (hnew o rfl)),(b.block (w.heap.size+1) (by simp)).trans (hnew o' (by simp))⟩
 by_cases h0 : 0 ≤ sn
 ·clear hc
  go_enter Tryz.func97,Tryz.ntmps97
  go_wp2_with (go_at_call 114;refine (hs _ ((bel_a _ _).alloc (by simp) _)).mono ?_;rintro e W1 ⟨rfl,b1⟩;obtain ⟨b2,m1,m2⟩:=e1 _ _ _ b1;obtain ⟨⟨c0,c1,c2,c3⟩,_⟩:=box4 m2)
  all_goals go_ret
  all_goals exact ⟨ret_bool (by clear hs e1;first | (simp_all;done) | (simp_all [bne];done)),b2⟩
 ·by_cases ht : x.t.toList=[]
  ·go_enter Tryz.func97,Tryz.ntmps97
   go_wp2_with (first
    | (go_at_call 114;refine (hs _ ((bel_a _ _).alloc (by simp) _)).mono ?_;rintro e W1 ⟨rfl,b1⟩;obtain ⟨b2,m1,m2⟩:=e1 _ _ _ b1;obtain ⟨⟨c0,c1,c2,c3⟩,_⟩:=box4 m2)
    | fail)
   refine (hc W1 b2 ⟨_,m1⟩).mono ?_
   rintro e W2 ⟨rfl,b3⟩
   go_wp2
   go_ret
   exact ⟨ret_bool (by simp [h0,ht]),b2.trans (b3.mono b2.size)⟩
  ·clear hc
   have hte : x.t.toList.isEmpty=false:=by simpa using ht
   go_enter Tryz.func97,Tryz.ntmps97
   go_wp2_with (go_at_call 114;refine (hs _ ((bel_a _ _).alloc (by simp) _)).mono ?_;rintro e W1 ⟨rfl,b1⟩;obtain ⟨b2,m1,m2⟩:=e1 _ _ _ b1;obtain ⟨⟨c0,c1,c2,c3⟩,_⟩:=box4 m2)
   go_ret
   exact ⟨ret_bool (by simp [h0,ht]),b2⟩
theorem inOrder1_any (x y : Nd) (W : World) (S : Nat→Prop) (v u : Value) (hx : LAt W S v x.ks) (hy : LAt W S u y.ks) (h1 : 43 ≤ x.k∧x.k ≤ 45) (h2 : 43 ≤ y.k∧y.k ≤ 45) :
 Calls Tryz.prog 113 #[x.v v,y.v u] W fun e W'=>e = .returned (.int .i64 (x.k - y.k))∧Below W.heap.size W W':=by
 obtain ⟨ax,cx,rfl⟩:=hx.sl
 obtain ⟨ay,cy,rfl⟩:=hy.sl
 obtain ⟨l1,l2⟩:=h1
 obtain ⟨l3,l4⟩:=h2
 unfold Nd.v
 go_enter Tryz.func113,Tryz.ntmps113
 go_wp2
 go_ret
 exact ⟨by first | rfl | (congr 2;simp [wrap64];omega),(bel_a _ _).alloc (by simp) _⟩
theorem idx_nd (W : World) (bl o n c k : Nat) (h : k < n) : (Instr.indexAt 22 (.slice (some ⟨bl,o,none⟩) n c) (.int .i64 (k : Int))).run Tryz.prog W = .ok (.pointer (some ⟨bl,o+k * 4,none⟩)) W:=by
 have h1 : ¬ (k : Int) < 0:=by omega
 have h2 : ¬ (n : Int) ≤ k:=by omega
 have h3 : (k : Int) < n:=by omega
 simp [Instr.indexAt,go_sem,run_underlying Tryz.underlying22,h,h1,h2,h3]
def ordFrom (l : List Nd) (j : Int) : Prop:=∀ p (h : p+1 < l.length),j ≤ (p : Int)→l[p].k ≤ l[p+1].k
theorem isSorted_any (w : World) (S : Nat→Prop) (l : List Nd) (v : Value) (hx : LAt w S v l) (hl : l.length ≤ 4194304) (hb : ∀ y ∈ l,43 ≤ y.k∧y.k ≤ 45) :
 Calls Tryz.prog 112 #[v,.func (.func 113) #[] #[]] w fun e w'=>∃ b : Bool,e = .returned (.bool b)∧(b=true ↔ ordFrom l 0)∧Below w.heap.size w w':=by
 obtain ⟨ax,cx,bx,ox,fx,rfl,px,qx,rx⟩:=hx.op
 go_enter Tryz.func112,Tryz.ntmps112
 go_wp2
 go_loopw [5] (fun i wr=>∃ j : Int,i = .int .i64 j∧-1 ≤ j∧j < l.length∧Below w.heap.size w wr∧Hid (ordFrom l j)) (fun i _=>(intOf i+1).toNat)
 case atStart=>exact ⟨(l.length : Int) - 1,rfl,by omega,by omega,Below.refl _ _,fun p hp h=>by omega⟩
 case round =>
  obtain ⟨j,rfl,hj1,hj2,bel,HT⟩:=hrel
  by_cases hj : 0 < j
  ·obtain ⟨q,rfl⟩ : ∃ q : Nat,j=(q : Int)+1:=⟨(j - 1).toNat,by omega⟩
   have hq1 : q+1 < l.length:=by omega
   have hq0 : q < l.length:=by omega
   obtain ⟨rfl,hSx,hbx⟩:=px (by omega)
   have cell : ∀ W',Below wr.heap.size wr W'→(W'.cell? ⟨bx,ox+(q+1) * 4,none⟩=some (.int .i64 l[q+1].k)∧W'.cell? ⟨bx,ox+(q+1) * 4+1,none⟩=some (.string l[q+1].t)∧W'.cell? ⟨bx,ox+(q+1) * 4+2,none⟩=some (.int .i64 l[q+1].n)∧W'.cell? ⟨bx,ox+(q+1) * 4+3,none⟩=some (fx (q+1))) ∧
    (W'.cell? ⟨bx,ox+q * 4,none⟩=some (.int .i64 l[q].k)∧W'.cell? ⟨bx,ox+q * 4+1,none⟩=some (.string l[q].t)∧W'.cell? ⟨bx,ox+q * 4+2,none⟩=some (.int .i64 l[q].n)∧W'.cell? ⟨bx,ox+q * 4+3,none⟩=some (fx q)):=fun W' b=>by
    have b2:=bel.trans (b.mono bel.size)
    exact ⟨(kid_at (qx (q+1) hq1) (rx (q+1) hq1) hbx b2).1,(kid_at (qx q hq0) (rx q hq0) hbx b2).1⟩
   have g1:=(kid_at (qx (q+1) hq1) (rx (q+1) hq1) hbx bel.drew).2
   have g0:=(kid_at (qx q hq0) (rx q hq0) hbx bel.drew).2
   have hst:=cell wr.drew (Below.refl _ _).drew
   have cmp:=inOrder1_any l[q+1] l[q] wr.drew S _ _ g1 g0 (hb _ (List.getElem_mem hq1)) (hb _ (List.getElem_mem hq0))
   have HY : Hid (l[q].k ≤ l[q+1].k→ordFrom l q):=fun h p hp hpj=>by
    by_cases e : p=q
    ·subst e;exact h
    ·exact HT.out p hp (by omega)
   have HN : Hid (¬ l[q].k ≤ l[q+1].k→¬ ordFrom l 0):=fun h h0=>h (h0 q hq1 (by omega))
   obtain ⟨b1a,b1b⟩:=hb _ (List.getElem_mem hq1)
   obtain ⟨b0a,b0b⟩:=hb _ (List.getElem_mem hq0)
   obtain ⟨a1,c1,e1⟩:=g1.sl
   obtain ⟨a0,c0,e0⟩:=g0.sl
   have i1:=fun W=>idx_nd W bx ox l.length cx (q+1) hq1
   have e11 : ((q+1 : Nat) : Int)=(q : Int)+1:=by omega
   rw [e11] at i1
   have i0:=fun W=>idx_nd W bx ox l.length cx q hq0
   have hw1 : IntKind.i64.wrap (q : Int)=q:=by rw [IntKind.wrap_i64];omega
   have hw2 : IntKind.i64.wrap ((q : Int)+1 - 1)=q:=by rw [IntKind.wrap_i64];omega
   clear HT hb qx rx px e11
   generalize l[q+1]=y1 at *
   generalize l[q]=y0 at *
   generalize fx (q+1)=f1 at *
   generalize fx q=f0 at *
   subst e1 e0
   go_wp2_with fail
   go_region_held3 (fun W'=>(NqO W' bx (ox+(q+1) * 4) y1.k y1.t y1.n a1 y1.ks.length c1) ∧
    (NqO W' bx (ox+q * 4) y0.k y0.t y0.n a0 y0.ks.length c0))
    (first | assumption | exact hst | exact hst2)
    (first
     | (go_at_call 113;refine cmp.mono ?_;rintro e W1 ⟨rfl,b1⟩;have hst2:=cell W1 ((Below.refl _ _).drew.trans b1)))
   have bel1 : Below w.heap.size w W1:=bel.drew.trans (b1.mono bel.size)
   clear hst hst2 cell cmp g1 g0
   by_cases hle : y0.k ≤ y1.k
   ·have HT' : Hid (ordFrom l q):=HY.out hle
    have hlt : ¬ y1.k - y0.k < 0:=by omega
    clear HY HN
    go_wp2
    go_roundw
    case rel=>exact ⟨q,by simp,by omega,by omega,bel1,HT'⟩
    case measure=>simp [intOf];omega
   ·have HF : Hid (¬ ordFrom l 0):=HN.out (by omega)
    have hlt : y1.k - y0.k < 0:=by omega
    clear HY HN
    go_wp2
    go_ret
    first | exact ⟨false,rfl,by simp [HF.out],bel1⟩ | exact .inl ⟨rfl,HF.out,bel1⟩
  ·have HE : Hid (ordFrom l 0):=fun p hp _=>HT.out p hp (by omega)
   clear HT hb
   have hj' : ¬ 0 < j:=hj
   go_wp2
   go_ret
   first | exact .inr ⟨rfl,HE.out,bel⟩ | exact ⟨true,rfl,by simp [HE.out],bel⟩
theorem inOrder_any (w : World) (S : Nat→Prop) (l : List Nd) (v : Value) (hx : LAt w S v l) (hl : l.length ≤ 4194304) (hb : ∀ y ∈ l,43 ≤ y.k∧y.k ≤ 45) :
 Calls Tryz.prog 95 #[v] w fun e w'=>∃ b : Bool,e = .returned (.bool b)∧(b=true ↔ ordFrom l 0)∧Below w.heap.size w w':=by
 have hi:=isSorted_any w S l v hx hl hb
 clear hb
 go_enter Tryz.func95,Tryz.ntmps95
 go_wp2_with (go_at_call 112;refine hi.mono ?_;rintro e w' ⟨b,rfl,hb,b1⟩)
 go_ret
 exact ⟨b,rfl,hb,b1⟩
end Go.Proofs.YtfcocoadaajbjaaGreatDoor
set_option linter.unusedVariables false
set_option maxHeartbeats 8000000
namespace Go.Proofs.YtfcocoadaajbjaaGreatDoor
open Go.RowKit
theorem exprRule_any (k : Int) (w : World) : Calls Tryz.prog 86 #[.int .i64 k] w fun e w'=>RulAns w (exprR k) e w':=by
 go_enter Tryz.func86,Tryz.ntmps86
 go_wp2
 ·rw [show exprR _=(⟨0,9007199254740991,[],0⟩ : Rul) by simp_all [exprR]]
  exact bodyPost_ret (res_rule Tryz.results86 (hnew _ rfl) rfl) rfl ⟨_,rfl,.inl ⟨rfl,rfl⟩,bel_a _ _⟩
 ·rw [show exprR _=(⟨6,0,[],0⟩ : Rul) by simp_all [exprR]]
  exact bodyPost_ret (res_rule Tryz.results86 (hnew _ rfl) rfl) rfl ⟨_,rfl,.inl ⟨rfl,rfl⟩,bel_a _ _⟩
 ·rw [show exprR _=(⟨0,1,[],0⟩ : Rul) by simp_all [exprR]]
  exact bodyPost_ret (res_rule Tryz.results86 (hnew _ rfl) rfl) rfl ⟨_,rfl,.inl ⟨rfl,rfl⟩,bel_a _ _⟩
 ·rw [show exprR _=(⟨1,0,[],0⟩ : Rul) by simp_all [exprR]]
  exact bodyPost_ret (res_rule Tryz.results86 (hnew _ rfl) rfl) rfl ⟨_,rfl,.inl ⟨rfl,rfl⟩,bel_a _ _⟩
 ·rw [show exprR _=(⟨0,0,[],101⟩ : Rul) by simp_all [exprR]]
  exact bodyPost_ret (res_rule Tryz.results86 (hnew _ rfl) rfl) rfl ⟨_,rfl,.inl ⟨rfl,rfl⟩,bel_a _ _⟩
 ·rw [show exprR _=(⟨0,0,[],10⟩ : Rul) by simp_all [exprR]]
  exact bodyPost_ret (res_rule Tryz.results86 (hnew _ rfl) rfl) rfl ⟨_,rfl,.inl ⟨rfl,rfl⟩,bel_a _ _⟩
 ·rw [show exprR _=(⟨0,0,[12,106,52],0⟩ : Rul) by simp_all [exprR]]
  exact bodyPost_ret (res_rule Tryz.results86 (hold _ (by simp) (hnew _ rfl)) rfl) rfl ⟨_,rfl,.inr ⟨w.heap.size+1,_,rfl,hnew _ (by simp)⟩,bel_aa _ _ _⟩
 ·rw [show exprR _=(⟨7,0,[101],0⟩ : Rul) by simp_all [exprR]]
  exact bodyPost_ret (res_rule Tryz.results86 (hold _ (by simp) (hnew _ rfl)) rfl) rfl ⟨_,rfl,.inr ⟨w.heap.size+1,_,rfl,hnew _ (by simp)⟩,bel_aa _ _ _⟩
 ·rw [show exprR _=(⟨8,0,[101,101],0⟩ : Rul) by simp_all [exprR]]
  exact bodyPost_ret (res_rule Tryz.results86 (hold _ (by simp) (hnew _ rfl)) rfl) rfl ⟨_,rfl,.inr ⟨w.heap.size+1,_,rfl,hnew _ (by simp)⟩,bel_aa _ _ _⟩
 ·rw [show exprR _=(⟨0,0,[101,101,101],0⟩ : Rul) by simp_all [exprR]]
  exact bodyPost_ret (res_rule Tryz.results86 (hold _ (by simp) (hnew _ rfl)) rfl) rfl ⟨_,rfl,.inr ⟨w.heap.size+1,_,rfl,hnew _ (by simp)⟩,bel_aa _ _ _⟩
 ·rw [show exprR _=(⟨0,0,[103,101],0⟩ : Rul) by simp_all [exprR]]
  exact bodyPost_ret (res_rule Tryz.results86 (hold _ (by simp) (hnew _ rfl)) rfl) rfl ⟨_,rfl,.inr ⟨w.heap.size+1,_,rfl,hnew _ (by simp)⟩,bel_aa _ _ _⟩
 ·rw [show exprR _=(⟨0,0,[101],101⟩ : Rul) by simp_all [exprR]]
  exact bodyPost_ret (res_rule Tryz.results86 (hold _ (by simp) (hnew _ rfl)) rfl) rfl ⟨_,rfl,.inr ⟨w.heap.size+1,_,rfl,hnew _ (by simp)⟩,bel_aa _ _ _⟩
 ·rw [show exprR _=(⟨1,0,[],101⟩ : Rul) by simp_all [exprR]]
  exact bodyPost_ret (res_rule Tryz.results86 (hnew _ rfl) rfl) rfl ⟨_,rfl,.inl ⟨rfl,rfl⟩,bel_a _ _⟩
 ·rw [show exprR _=(⟨2,0,[101],0⟩ : Rul) by simp_all [exprR]]
  exact bodyPost_ret (res_rule Tryz.results86 (hold _ (by simp) (hnew _ rfl)) rfl) rfl ⟨_,rfl,.inr ⟨w.heap.size+1,_,rfl,hnew _ (by simp)⟩,bel_aa _ _ _⟩
 ·rw [show exprR _=(⟨0,0,[101,101],0⟩ : Rul) by simp_all [exprR]]
  exact bodyPost_ret (res_rule Tryz.results86 (hold _ (by simp) (hnew _ rfl)) rfl) rfl ⟨_,rfl,.inr ⟨w.heap.size+1,_,rfl,hnew _ (by simp)⟩,bel_aa _ _ _⟩
 ·rw [show exprR _=(⟨0,0,[],0⟩ : Rul) by simp_all [exprR]]
  exact bodyPost_ret (res_rule Tryz.results86 (hnew _ rfl) rfl) rfl ⟨_,rfl,.inl ⟨rfl,rfl⟩,bel_a _ _⟩
end Go.Proofs.YtfcocoadaajbjaaGreatDoor
namespace Go.Proofs.YtfcocoadaajbjaaGreatDoor
open Go.RowKit
theorem typeRule_any (k : Int) (w : World) : Calls Tryz.prog 87 #[.int .i64 k] w fun e w'=>RulAns w (typeR k) e w':=by
 go_enter Tryz.func87,Tryz.ntmps87
 go_wp2
 ·rw [show typeR _=(⟨0,0,[104],0⟩ : Rul) by simp_all [typeR]]
  exact bodyPost_ret (res_rule Tryz.results87 (hold _ (by simp) (hnew _ rfl)) rfl) rfl ⟨_,rfl,.inr ⟨w.heap.size+1,_,rfl,hnew _ (by simp)⟩,bel_aa _ _ _⟩
 ·rw [show typeR _=(⟨0,0,[105,105],105⟩ : Rul) by simp_all [typeR]]
  exact bodyPost_ret (res_rule Tryz.results87 (hold _ (by simp) (hnew _ rfl)) rfl) rfl ⟨_,rfl,.inr ⟨w.heap.size+1,_,rfl,hnew _ (by simp)⟩,bel_aa _ _ _⟩
 ·rw [show typeR _=(⟨0,0,[],34⟩ : Rul) by simp_all [typeR]]
  exact bodyPost_ret (res_rule Tryz.results87 (hnew _ rfl) rfl) rfl ⟨_,rfl,.inl ⟨rfl,rfl⟩,bel_a _ _⟩
 ·rw [show typeR _=(⟨0,0,[12,104],0⟩ : Rul) by simp_all [typeR]]
  exact bodyPost_ret (res_rule Tryz.results87 (hold _ (by simp) (hnew _ rfl)) rfl) rfl ⟨_,rfl,.inr ⟨w.heap.size+1,_,rfl,hnew _ (by simp)⟩,bel_aa _ _ _⟩
 ·rw [show typeR _=(⟨5,0,[],0⟩ : Rul) by simp_all [typeR]]
  exact bodyPost_ret (res_rule Tryz.results87 (hnew _ rfl) rfl) rfl ⟨_,rfl,.inl ⟨rfl,rfl⟩,bel_a _ _⟩
end Go.Proofs.YtfcocoadaajbjaaGreatDoor
namespace Go.Proofs.YtfcocoadaajbjaaGreatDoor
open Go.RowKit
theorem stmtRule_any (k : Int) (w : World) : Calls Tryz.prog 88 #[.int .i64 k] w fun e w'=>RulAns w (stmtR k) e w':=by
 go_enter Tryz.func88,Tryz.ntmps88
 go_wp2
 ·rw [show stmtR _=(⟨1,1,[106,101],0⟩ : Rul) by simp_all [stmtR]]
  exact bodyPost_ret (res_rule Tryz.results88 (hold _ (by simp) (hnew _ rfl)) rfl) rfl ⟨_,rfl,.inr ⟨w.heap.size+1,_,rfl,hnew _ (by simp)⟩,bel_aa _ _ _⟩
 ·rw [show stmtR _=(⟨1,0,[12,106,52],0⟩ : Rul) by simp_all [stmtR]]
  exact bodyPost_ret (res_rule Tryz.results88 (hold _ (by simp) (hnew _ rfl)) rfl) rfl ⟨_,rfl,.inr ⟨w.heap.size+1,_,rfl,hnew _ (by simp)⟩,bel_aa _ _ _⟩
 ·rw [show stmtR _=(⟨0,0,[101,52,108],0⟩ : Rul) by simp_all [stmtR]]
  exact bodyPost_ret (res_rule Tryz.results88 (hold _ (by simp) (hnew _ rfl)) rfl) rfl ⟨_,rfl,.inr ⟨w.heap.size+1,_,rfl,hnew _ (by simp)⟩,bel_aa _ _ _⟩
 ·rw [show stmtR _=(⟨0,0,[101,52],0⟩ : Rul) by simp_all [stmtR]]
  exact bodyPost_ret (res_rule Tryz.results88 (hold _ (by simp) (hnew _ rfl)) rfl) rfl ⟨_,rfl,.inr ⟨w.heap.size+1,_,rfl,hnew _ (by simp)⟩,bel_aa _ _ _⟩
 ·rw [show stmtR _=(⟨0,0,[102],0⟩ : Rul) by simp_all [stmtR]]
  exact bodyPost_ret (res_rule Tryz.results88 (hold _ (by simp) (hnew _ rfl)) rfl) rfl ⟨_,rfl,.inr ⟨w.heap.size+1,_,rfl,hnew _ (by simp)⟩,bel_aa _ _ _⟩
 ·rw [show stmtR _=(⟨0,0,[],107⟩ : Rul) by simp_all [stmtR]]
  exact bodyPost_ret (res_rule Tryz.results88 (hnew _ rfl) rfl) rfl ⟨_,rfl,.inl ⟨rfl,rfl⟩,bel_a _ _⟩
 ·rw [show stmtR _=(⟨0,0,[101],0⟩ : Rul) by simp_all [stmtR]]
  exact bodyPost_ret (res_rule Tryz.results88 (hold _ (by simp) (hnew _ rfl)) rfl) rfl ⟨_,rfl,.inr ⟨w.heap.size+1,_,rfl,hnew _ (by simp)⟩,bel_aa _ _ _⟩
end Go.Proofs.YtfcocoadaajbjaaGreatDoor
namespace Go.Proofs.YtfcocoadaajbjaaGreatDoor
open Go.RowKit
theorem itemRule_any (k : Int) (w : World) : Calls Tryz.prog 89 #[.int .i64 k] w fun e w'=>RulAns w (itemR k) e w':=by
 go_enter Tryz.func89,Tryz.ntmps89
 go_wp2
 ·rw [show itemR _=(⟨1,0,[],113⟩ : Rul) by simp_all [itemR]]
  exact bodyPost_ret (res_rule Tryz.results89 (hnew _ rfl) rfl) rfl ⟨_,rfl,.inl ⟨rfl,rfl⟩,bel_a _ _⟩
 ·rw [show itemR _=(⟨1,0,[104],0⟩ : Rul) by simp_all [itemR]]
  exact bodyPost_ret (res_rule Tryz.results89 (hold _ (by simp) (hnew _ rfl)) rfl) rfl ⟨_,rfl,.inr ⟨w.heap.size+1,_,rfl,hnew _ (by simp)⟩,bel_aa _ _ _⟩
 ·rw [show itemR _=(⟨6,1,[],61⟩ : Rul) by simp_all [itemR]]
  exact bodyPost_ret (res_rule Tryz.results89 (hnew _ rfl) rfl) rfl ⟨_,rfl,.inl ⟨rfl,rfl⟩,bel_a _ _⟩
 ·rw [show itemR _=(⟨0,0,[111],0⟩ : Rul) by simp_all [itemR]]
  exact bodyPost_ret (res_rule Tryz.results89 (hold _ (by simp) (hnew _ rfl)) rfl) rfl ⟨_,rfl,.inr ⟨w.heap.size+1,_,rfl,hnew _ (by simp)⟩,bel_aa _ _ _⟩
 ·rw [show itemR _=(⟨0,0,[112],0⟩ : Rul) by simp_all [itemR]]
  exact bodyPost_ret (res_rule Tryz.results89 (hold _ (by simp) (hnew _ rfl)) rfl) rfl ⟨_,rfl,.inr ⟨w.heap.size+1,_,rfl,hnew _ (by simp)⟩,bel_aa _ _ _⟩
 ·rw [show itemR _=(⟨6,1,[65],65⟩ : Rul) by simp_all [itemR]]
  exact bodyPost_ret (res_rule Tryz.results89 (hold _ (by simp) (hnew _ rfl)) rfl) rfl ⟨_,rfl,.inr ⟨w.heap.size+1,_,rfl,hnew _ (by simp)⟩,bel_aa _ _ _⟩
end Go.Proofs.YtfcocoadaajbjaaGreatDoor
namespace Go.Proofs.YtfcocoadaajbjaaGreatDoor
open Go.RowKit
theorem partRule_any (k : Int) (w : World) : Calls Tryz.prog 90 #[.int .i64 k] w fun e w'=>RulAns2 w (partR k) e w':=by
 go_enter Tryz.func90,Tryz.ntmps90
 go_wp2
 ·rw [show partR _=some (⟨0,0,[],0⟩ : Rul) by simp_all [partR]]
  exact bodyPost_ret (res_rule2 Tryz.results90 (hnew _ rfl) rfl) rfl ⟨⟨0,0,[],0⟩,true,_,rfl,fun _=>rfl,(fun h=>by cases h),.inl ⟨rfl,rfl⟩,bel_a _ _⟩
 ·rw [show partR _=some (⟨2,0,[101],0⟩ : Rul) by simp_all [partR]]
  exact bodyPost_ret (res_rule2 Tryz.results90 (hold _ (by simp) (hnew _ rfl)) rfl) rfl ⟨⟨2,0,[101],0⟩,true,_,rfl,fun _=>rfl,(fun h=>by cases h),.inr ⟨w.heap.size+1,_,rfl,hnew _ (by simp)⟩,bel_aa _ _ _⟩
 ·rw [show partR _=some (⟨0,0,[],13⟩ : Rul) by simp_all [partR]]
  exact bodyPost_ret (res_rule2 Tryz.results90 (hnew _ rfl) rfl) rfl ⟨⟨0,0,[],13⟩,true,_,rfl,fun _=>rfl,(fun h=>by cases h),.inl ⟨rfl,rfl⟩,bel_a _ _⟩
 ·rw [show partR _=some (⟨1,0,[106],0⟩ : Rul) by simp_all [partR]]
  exact bodyPost_ret (res_rule2 Tryz.results90 (hold _ (by simp) (hnew _ rfl)) rfl) rfl ⟨⟨1,0,[106],0⟩,true,_,rfl,fun _=>rfl,(fun h=>by cases h),.inr ⟨w.heap.size+1,_,rfl,hnew _ (by simp)⟩,bel_aa _ _ _⟩
 ·rw [show partR _=some (⟨2,0,[104],0⟩ : Rul) by simp_all [partR]]
  exact bodyPost_ret (res_rule2 Tryz.results90 (hold _ (by simp) (hnew _ rfl)) rfl) rfl ⟨⟨2,0,[104],0⟩,true,_,rfl,fun _=>rfl,(fun h=>by cases h),.inr ⟨w.heap.size+1,_,rfl,hnew _ (by simp)⟩,bel_aa _ _ _⟩
 ·rw [show partR _=some (⟨3,0,[106,101],0⟩ : Rul) by simp_all [partR]]
  exact bodyPost_ret (res_rule2 Tryz.results90 (hold _ (by simp) (hnew _ rfl)) rfl) rfl ⟨⟨3,0,[106,101],0⟩,true,_,rfl,fun _=>rfl,(fun h=>by cases h),.inr ⟨w.heap.size+1,_,rfl,hnew _ (by simp)⟩,bel_aa _ _ _⟩
 ·rw [show partR _=some (⟨0,0,[12,52],0⟩ : Rul) by simp_all [partR]]
  exact bodyPost_ret (res_rule2 Tryz.results90 (hold _ (by simp) (hnew _ rfl)) rfl) rfl ⟨⟨0,0,[12,52],0⟩,true,_,rfl,fun _=>rfl,(fun h=>by cases h),.inr ⟨w.heap.size+1,_,rfl,hnew _ (by simp)⟩,bel_aa _ _ _⟩
 ·rw [show partR _=some (⟨3,0,[12,106,52],0⟩ : Rul) by simp_all [partR]]
  exact bodyPost_ret (res_rule2 Tryz.results90 (hold _ (by simp) (hnew _ rfl)) rfl) rfl ⟨⟨3,0,[12,106,52],0⟩,true,_,rfl,fun _=>rfl,(fun h=>by cases h),.inr ⟨w.heap.size+1,_,rfl,hnew _ (by simp)⟩,bel_aa _ _ _⟩
 ·rw [show partR _=some (⟨4,0,[6],0⟩ : Rul) by simp_all [partR]]
  exact bodyPost_ret (res_rule2 Tryz.results90 (hold _ (by simp) (hnew _ rfl)) rfl) rfl ⟨⟨4,0,[6],0⟩,true,_,rfl,fun _=>rfl,(fun h=>by cases h),.inr ⟨w.heap.size+1,_,rfl,hnew _ (by simp)⟩,bel_aa _ _ _⟩
 ·rw [show partR _=some (⟨4,0,[114],0⟩ : Rul) by simp_all [partR]]
  exact bodyPost_ret (res_rule2 Tryz.results90 (hold _ (by simp) (hnew _ rfl)) rfl) rfl ⟨⟨4,0,[114],0⟩,true,_,rfl,fun _=>rfl,(fun h=>by cases h),.inr ⟨w.heap.size+1,_,rfl,hnew _ (by simp)⟩,bel_aa _ _ _⟩
 ·rw [show partR _=some (⟨1,0,[],67⟩ : Rul) by simp_all [partR]]
  exact bodyPost_ret (res_rule2 Tryz.results90 (hnew _ rfl) rfl) rfl ⟨⟨1,0,[],67⟩,true,_,rfl,fun _=>rfl,(fun h=>by cases h),.inl ⟨rfl,rfl⟩,bel_a _ _⟩
 ·rw [show partR _=some (⟨2,0,[6],0⟩ : Rul) by simp_all [partR]]
  exact bodyPost_ret (res_rule2 Tryz.results90 (hold _ (by simp) (hnew _ rfl)) rfl) rfl ⟨⟨2,0,[6],0⟩,true,_,rfl,fun _=>rfl,(fun h=>by cases h),.inr ⟨w.heap.size+1,_,rfl,hnew _ (by simp)⟩,bel_aa _ _ _⟩
 ·rw [show partR _=none by simp_all [partR]]
  exact bodyPost_ret (res_rule2 Tryz.results90 (hnew _ rfl) rfl) rfl ⟨⟨0,0,[],0⟩,false,_,rfl,(fun h=>by cases h),fun _=>rfl,.inl ⟨rfl,rfl⟩,bel_a _ _⟩
end Go.Proofs.YtfcocoadaajbjaaGreatDoor
set_option linter.unusedVariables false
set_option linter.unusedSimpArgs false
set_option maxRecDepth 100000
set_option maxHeartbeats 8000000
namespace Go.Proofs.YtfcocoadaajbjaaGreatDoor
open Go.RowKit
theorem PAt.set {W : World} {B : Nat} {v : Value} {ks : List Int} {t : TypeId} (h : PAt W v ks) (hb : W.heap[B]?=some (.cells #[.int .i64 0,.int .i64 0,.slice none 0 0,.int .i64 0] t (0,0))) (p q r s : Value) :
 PAt ((((W.setCell ⟨B,0,none⟩ p).setCell ⟨B,1,none⟩ q).setCell ⟨B,2,none⟩ r).setCell ⟨B,3,none⟩ s) v ks:=by
 rcases h with h | ⟨bl,t',h1,h2⟩
 ·exact .inl h
 ·refine .inr ⟨bl,t',h1,(set4_other (o:=0) p q r s (fun e=>?_)).trans h2⟩
  subst e
  rw [hb] at h2
  simp only [Option.some.injEq,Obj.cells.injEq] at h2
  have e:=congrArg (·[2]?) h2.1
  cases h : ks[2]? <;> simp [h] at e
theorem ruleOf_any (k : Int) (w : World) : Calls Tryz.prog 53 #[.int .i64 k] w fun e w'=>RulAns2 w (ruleK k) e w':=by
 have hf:=formOf_any k
 unfold ruleK
 generalize formK k=f at *
 have e1 : Hid (∀ o W1,Below (w.alloc o).heap.size (w.alloc o) W1→Below w.heap.size w W1∧W1.heap[w.heap.size]?=some o):=fun o W1 b=>⟨(bel_a w o).trans (b.mono (by simp)),(b.block w.heap.size (by simp)).trans (hnew o rfl)⟩
 by_cases hf1 : f=1
 ·subst hf1
  have h:=exprRule_any k
  go_enter Tryz.func53,Tryz.ntmps53
  go_wp2_with (first
   | (go_at_call 29;refine (hf _).mono ?_;rintro e w' ⟨rfl,rfl⟩)
   | (go_at_call 86;refine (h _).mono ?_;rintro e W1 ⟨v,rfl,pa,b1⟩;obtain ⟨a,rfl⟩:=pa.sl;unfold Rul.v;obtain ⟨b2,m2⟩:=e1.out _ _ b1;obtain ⟨⟨c0,c1,c2,c3⟩,⟨f0,f1,f2,f3⟩⟩:=box4 m2))
  refine bodyPost_ret (res_rule2 Tryz.results53 (box4_set _ _ _ _ m2) rfl) rfl ⟨exprR k,true,_,rfl,fun _=>by simp,(fun h=>by cases h),pa.set m2 _ _ _ _,?_⟩
  exact (((b2.setCell (Nat.le_refl _) _).setCell (Nat.le_refl _) _).setCell (Nat.le_refl _) _).setCell (Nat.le_refl _) _
 by_cases hf2 : f=2
 ·subst hf2
  have h:=typeRule_any k
  go_enter Tryz.func53,Tryz.ntmps53
  go_wp2_with (first
   | (go_at_call 29;refine (hf _).mono ?_;rintro e w' ⟨rfl,rfl⟩)
   | (go_at_call 87;refine (h _).mono ?_;rintro e W1 ⟨v,rfl,pa,b1⟩;obtain ⟨a,rfl⟩:=pa.sl;unfold Rul.v;obtain ⟨b2,m2⟩:=e1.out _ _ b1;obtain ⟨⟨c0,c1,c2,c3⟩,⟨f0,f1,f2,f3⟩⟩:=box4 m2))
  refine bodyPost_ret (res_rule2 Tryz.results53 (box4_set _ _ _ _ m2) rfl) rfl ⟨typeR k,true,_,rfl,fun _=>by simp,(fun h=>by cases h),pa.set m2 _ _ _ _,?_⟩
  exact (((b2.setCell (Nat.le_refl _) _).setCell (Nat.le_refl _) _).setCell (Nat.le_refl _) _).setCell (Nat.le_refl _) _
 by_cases hf3 : f=3
 ·subst hf3
  have h:=stmtRule_any k
  go_enter Tryz.func53,Tryz.ntmps53
  go_wp2_with (first
   | (go_at_call 29;refine (hf _).mono ?_;rintro e w' ⟨rfl,rfl⟩)
   | (go_at_call 88;refine (h _).mono ?_;rintro e W1 ⟨v,rfl,pa,b1⟩;obtain ⟨a,rfl⟩:=pa.sl;unfold Rul.v;obtain ⟨b2,m2⟩:=e1.out _ _ b1;obtain ⟨⟨c0,c1,c2,c3⟩,⟨f0,f1,f2,f3⟩⟩:=box4 m2))
  refine bodyPost_ret (res_rule2 Tryz.results53 (box4_set _ _ _ _ m2) rfl) rfl ⟨stmtR k,true,_,rfl,fun _=>by simp,(fun h=>by cases h),pa.set m2 _ _ _ _,?_⟩
  exact (((b2.setCell (Nat.le_refl _) _).setCell (Nat.le_refl _) _).setCell (Nat.le_refl _) _).setCell (Nat.le_refl _) _
 by_cases hf4 : f=4
 ·subst hf4
  have h:=itemRule_any k
  go_enter Tryz.func53,Tryz.ntmps53
  go_wp2_with (first
   | (go_at_call 29;refine (hf _).mono ?_;rintro e w' ⟨rfl,rfl⟩)
   | (go_at_call 89;refine (h _).mono ?_;rintro e W1 ⟨v,rfl,pa,b1⟩;obtain ⟨a,rfl⟩:=pa.sl;unfold Rul.v;obtain ⟨b2,m2⟩:=e1.out _ _ b1;obtain ⟨⟨c0,c1,c2,c3⟩,⟨f0,f1,f2,f3⟩⟩:=box4 m2))
  refine bodyPost_ret (res_rule2 Tryz.results53 (box4_set _ _ _ _ m2) rfl) rfl ⟨itemR k,true,_,rfl,fun _=>by simp,(fun h=>by cases h),pa.set m2 _ _ _ _,?_⟩
  exact (((b2.setCell (Nat.le_refl _) _).setCell (Nat.le_refl _) _).setCell (Nat.le_refl _) _).setCell (Nat.le_refl _) _
 by_cases hf5 : f=5
 ·subst hf5
  go_enter Tryz.func53,Tryz.ntmps53
  go_wp2_with (go_at_call 29;refine (hf _).mono ?_;rintro e w' ⟨rfl,rfl⟩)
  exact bodyPost_ret (res_rule2 Tryz.results53 (hnew _ rfl) rfl) rfl ⟨⟨0,0,[],109⟩,true,_,rfl,fun _=>by simp,(fun h=>by cases h),.inl ⟨rfl,rfl⟩,bel_a _ _⟩
 by_cases hf6 : f=6
 ·subst hf6
  go_enter Tryz.func53,Tryz.ntmps53
  go_wp2_with (go_at_call 29;refine (hf _).mono ?_;rintro e w' ⟨rfl,rfl⟩)
  exact bodyPost_ret (res_rule2 Tryz.results53 (hnew _ rfl) rfl) rfl ⟨⟨0,0,[],110⟩,true,_,rfl,fun _=>by simp,(fun h=>by cases h),.inl ⟨rfl,rfl⟩,bel_a _ _⟩
 have h:=partRule_any k
 rw [if_neg hf1,if_neg hf2,if_neg hf3,if_neg hf4,if_neg hf5,if_neg hf6]
 go_enter Tryz.func53,Tryz.ntmps53
 go_wp2_with (first
  | (go_at_call 29;refine (hf _).mono ?_;rintro e w' ⟨rfl,rfl⟩)
  | (go_at_call 90;refine (h _).mono ?_;rintro e W1 ⟨r,b,v,rfl,hb1,hb2,pa,b1⟩;obtain ⟨a,rfl⟩:=pa.sl;unfold Rul.v;obtain ⟨b2,m2⟩:=e1.out _ _ b1;obtain ⟨⟨c0,c1,c2,c3⟩,⟨f0,f1,f2,f3⟩⟩:=box4 m2))
 refine bodyPost_ret (res_rule2 Tryz.results53 (box4_set _ _ _ _ m2) rfl) rfl ⟨r,b,_,rfl,hb1,hb2,pa.set m2 _ _ _ _,?_⟩
 exact (((b2.setCell (Nat.le_refl _) _).setCell (Nat.le_refl _) _).setCell (Nat.le_refl _) _).setCell (Nat.le_refl _) _
end Go.Proofs.YtfcocoadaajbjaaGreatDoor
