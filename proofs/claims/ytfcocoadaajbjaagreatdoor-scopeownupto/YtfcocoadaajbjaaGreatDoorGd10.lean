/- Own text. Whether a tree is as its rule asks,and what stands together in it: package tree. The form of a tree: package tree. The form of a tree: package tree. The form of a tree: Form of package tree. -/
import Derived.Test.YtfcocoadaajbjaaGreatDoorGd09
import Derived.Deep.RegionHeld3
set_option linter.unusedVariables false
set_option linter.unusedSimpArgs false
set_option maxRecDepth 100000
set_option maxHeartbeats 8000000
namespace Go.Proofs.YtfcocoadaajbjaaGreatDoor
open Go.RowKit
def ordB : List Nd→Bool
 | x :: y :: l=>decide (x.k ≤ y.k) && ordB (y :: l)
 | _=>true
theorem ordB_iff : ∀ l : List Nd,ordB l=true ↔ ordFrom l 0
 | []=>by simp [ordB,ordFrom]
 | [x]=>by simp [ordB,ordFrom]
 | x :: y :: l=>by
  rw [ordB,Bool.and_eq_true,decide_eq_true_eq,ordB_iff (y :: l)]
  unfold ordFrom
  constructor
  ·rintro ⟨h1,h2⟩ p hp _
   cases p with
   | zero=>exact h1
   | succ p=>exact h2 p (by simpa using hp) (by omega)
  ·intro h
   exact ⟨h 0 (by simp) (by omega),fun p hp _=>h (p+1) (by simpa using hp) (by omega)⟩
def unlikeB (l : List Nd) : Bool:=decide ((l.map fun x=>x.t.data.toList).Nodup)
theorem unlikeB_iff (l : List Nd) : unlikeB l=true ↔ unlikeP l:=by
 unfold unlikeB unlikeP
 rw [decide_eq_true_eq]
 have e : (l.map fun x=>x.t.data.toList)=(l.map (·.t)).map fun t=>t.data.toList:=by simp
 rw [e]
 constructor
 ·intro h
  exact List.Pairwise.of_map _ (fun a b hab hE=>hab (by rw [hE])) h
 ·intro h
  refine List.Pairwise.map _ (fun a b hab hE=>hab ?_) h
  exact ByteArray.ext (Array.toList_inj.1 hE)
def firstTyped (l : List Nd) : Bool:=match l with | []=>false | z :: _=>!z.ks.any fun y=>hk0 y == 14
def firstText (l : List Nd) (t : ByteArray) : Bool:=match l with | []=>false | z :: _=>z.t.toList != t.toList
def agreesP (mod : Bool) (x : Nd) : Bool :=
 if x.k=12 ∨ x.k=33 then unlikeB x.ks
 else if x.k=35 then firstTyped x.ks
 else if x.k=42 then ordB x.ks && unlikeB x.ks
 else if x.k=60 then importS x
 else if x.k=64 then exportS mod x
 else if x.k=65 then firstText x.ks x.t
 else true
def PreA (x : Nd) : Prop:=(x.k=35→∃ z l,x.ks=z :: l∧∀ y ∈ z.ks,y.ks ≠ [])∧(x.k=42→∀ y ∈ x.ks,43 ≤ y.k∧y.k ≤ 45)∧(x.k=65→x.ks ≠ [])
theorem get0 {l : List Nd} {z : Nd} {r : List Nd} (e : l=z :: r) : ∃ h : 0 < l.length,l[0]=z:=by subst e;exact ⟨by simp,rfl⟩
theorem agrees_any (x : Nd) (w : World) (S : Nat→Prop) (v fv : Value) (mod : Bool) (hx : LAt w S v x.ks) (hw : WAt w fv) (zx : x.size ≤ 4194304) (tx : x.tx) (hp : PreA x) :
 Calls Tryz.prog 55 #[fmV fv mod,x.v v] w fun e w'=>e = .returned (.bool (agreesP mod x))∧Below w.heap.size w w':=by
 have zs:=x.size_eq
 have lx:=sizes_len x.ks
 have lx2 : x.ks.length ≤ 4194304:=by omega
 have tks : ∀ y ∈ x.ks,y.t.size ≤ 4194304:=fun y hy=>Nd.tx_own (Nd.tx_kid tx hy)
 have hun:=fun W (b : Below w.heap.size w W)=>unlike_any W S x.ks v (hx.bel b) lx2 tks
 have him:=fun W (b : Below w.heap.size w W)=>importStands_any x W S v (hx.bel b) lx2
 have hex:=fun W (b : Below w.heap.size w W)=>exportStands_any x W S v fv mod (hx.bel b) lx2 (hw.bel b)
 have hin:=fun W (b : Below w.heap.size w W) (h : ∀ y ∈ x.ks,43 ≤ y.k∧y.k ≤ 45)=>inOrder_any W S x.ks v (hx.bel b) lx2 h
 obtain ⟨a,rfl⟩ : ∃ a,fv = .slice a 19 19:=by obtain ⟨bl,t,rfl,_⟩:=hw;exact ⟨_,rfl⟩
 obtain ⟨ax,cx,bx,ox,fx,rfl,px,qx,rx⟩:=hx.op
 have e1 : Hid (∀ o o' W1,Below ((w.alloc o).alloc o').heap.size ((w.alloc o).alloc o') W1→Below w.heap.size w W1∧W1.heap[w.heap.size]?=some o∧W1.heap[w.heap.size+1]?=some o'):=fun o o' W1 b=>⟨((bel_a w o).alloc (by simp) _).trans (b.mono (by simp;omega)),(b.block w.heap.size (by simp <;> omega)).trans (hold o' (by simp) (hnew o rfl)),(b.block (w.heap.size+1) (by simp)).trans (hnew o' (by simp))⟩
 have bb : ∀ o o',Below w.heap.size w ((w.alloc o).alloc o'):=fun o o'=>(bel_a w o).alloc (by simp) o'
 have HB : Hid (∀ o o',Below w.heap.size w ((w.alloc o).alloc o')):=bb
 clear bb tx tks
 unfold fmV Nd.v at *
 unfold agreesP
 by_cases h12 : x.k=12 ∨ x.k=33
 ·rw [if_pos h12]
  clear him hex hin
  have HU:=unlikeB_iff x.ks
  have HU2 : Hid (unlikeB x.ks=true ↔ unlikeP x.ks):=HU
  clear HU
  rcases h12 with h | h
  all_goals
   go_enter Tryz.func55,Tryz.ntmps55
   go_wp2_with (go_at_call 93;refine (hun _ (HB.out _ _)).mono ?_;rintro e W1 ⟨b,rfl,hb,b1⟩)
   go_ret
   exact ⟨ret_bool (by rw [Bool.eq_iff_iff,hb,HU2.out]),(e1.out _ _ _ b1).1⟩
 rw [if_neg h12]
 have h12a : ¬ x.k=12:=fun h=>h12 (.inl h)
 have h33 : ¬ x.k=33:=fun h=>h12 (.inr h)
 clear h12
 by_cases h35 : x.k=35
 ·rw [if_pos h35]
  obtain ⟨z,l,e,hz⟩:=hp.1 h35
  obtain ⟨hpos,hz0⟩:=get0 e
  obtain ⟨rfl,hSx,hbx⟩:=px hpos
  have zk:=x.kid_size hpos
  have ty:=fun W (b : Below w.heap.size w W)=>typed_any z W S (fx 0) (by have:=(rx 0 hpos).bel b;rwa [hz0] at this) (by have:=sizes_len z.ks;have:=z.size_eq;rw [hz0] at zk;omega) hz
  have h4 : Hid (∀ W,Below w.heap.size w W→Four W bx (ox+0 * 4) z (fx 0)):=fun W b=>by have:=(qx 0 hpos).of_block (b.block bx hbx);rwa [hz0] at this
  have hft : firstTyped x.ks = !z.ks.any fun y=>hk0 y == 14:=by rw [e];rfl
  obtain ⟨az,cz,ez⟩:=(rx 0 hpos).sl
  rw [ez,hz0] at ty h4
  rw [hft]
  clear him hex hin hun qx rx px hp hft ez e hz hz0 zk
  have u:=h4.out _ (HB.out (Obj.cells #[.slice a 19 19,.bool mod] 67) (Obj.cells #[.int .i64 x.k,.string x.t,.int .i64 x.n,.slice (some { block:=bx,off:=ox }) x.ks.length cx] 24))
  obtain ⟨u1,u2,u3,u4⟩:=u
  simp only [Nat.zero_mul,Nat.add_zero,h35] at u1 u2 u3 u4
  unfold Nd.v at ty
  go_enter Tryz.func55,Tryz.ntmps55
  go_wp2_with (go_at_call 94;refine (ty _ (HB.out _ _)).mono ?_;rintro e W1 ⟨rfl,b1⟩)
  go_ret
  exact ⟨rfl,(e1.out _ _ _ b1).1⟩
 rw [if_neg h35]
 by_cases h42 : x.k=42
 ·rw [if_pos h42]
  have hkk:=hp.2.1 h42
  have hin2:=fun W (b : Below w.heap.size w W)=>hin W b hkk
  have HU2 : Hid (unlikeB x.ks=true ↔ unlikeP x.ks):=unlikeB_iff x.ks
  have HO2 : Hid (ordB x.ks=true ↔ ordFrom x.ks 0):=ordB_iff x.ks
  clear him hex hin px qx rx hp hkk
  cases hob : ordB x.ks
  ·go_enter Tryz.func55,Tryz.ntmps55
   go_wp2_with fail
   refine (hin2 _ (HB.out _ _)).mono ?_
   rintro e W1 ⟨b,rfl,hb,b1⟩
   obtain rfl : b=false:=by
    cases b
    ·rfl
    ·have:=HO2.out.2 (hb.1 rfl);rw [hob] at this;cases this
   clear hb hin2
   go_wp2
   go_ret
   exact ⟨rfl,(e1.out _ _ _ b1).1⟩
  ·go_enter Tryz.func55,Tryz.ntmps55
   go_wp2_with fail
   refine (hin2 _ (HB.out _ _)).mono ?_
   rintro e W1 ⟨b,rfl,hb,b1⟩
   obtain rfl : b=true:=hb.2 (HO2.out.1 hob)
   obtain ⟨b2,m1,m2⟩:=e1.out _ _ _ b1
   obtain ⟨⟨c0,c1,c2,c3⟩,_⟩:=box4 m2
   clear hb hin2
   go_wp2_with (go_at_call 93;refine (hun _ b2).mono ?_;rintro e W2 ⟨b,rfl,hb,b3⟩)
   go_ret
   exact ⟨ret_bool (by rw [Bool.eq_iff_iff];simp only [Bool.true_and,hb,HU2.out]),b2.trans (b3.mono b2.size)⟩
 rw [if_neg h42]
 by_cases h60 : x.k=60
 ·rw [if_pos h60]
  clear hun hex hin px qx rx hp
  go_enter Tryz.func55,Tryz.ntmps55
  rw [h60] at him
  go_wp2_with (go_at_call 96;refine (him _ (HB.out _ _)).mono ?_;rintro e W1 ⟨rfl,b1⟩)
  go_ret
  exact ⟨rfl,(e1.out _ _ _ b1).1⟩
 rw [if_neg h60]
 by_cases h64 : x.k=64
 ·rw [if_pos h64]
  clear hun him hin px qx rx hp
  rw [h64] at hex
  go_enter Tryz.func55,Tryz.ntmps55
  go_wp2_with (go_at_call 97;refine (hex _ (HB.out _ _)).mono ?_;rintro e W1 ⟨rfl,b1⟩)
  go_ret
  exact ⟨rfl,(e1.out _ _ _ b1).1⟩
 rw [if_neg h64]
 clear hun him hin hex
 by_cases h65 : x.k=65
 ·rw [if_pos h65]
  obtain ⟨z,l,e⟩:=List.exists_cons_of_ne_nil (hp.2.2 h65)
  obtain ⟨hpos,hz0⟩:=get0 e
  obtain ⟨rfl,hSx,hbx⟩:=px hpos
  have h4 : Hid (∀ W,Below w.heap.size w W→Four W bx (ox+0 * 4) z (fx 0)):=fun W b=>by have:=(qx 0 hpos).of_block (b.block bx hbx);rwa [hz0] at this
  have hft : firstText x.ks x.t=(z.t.toList != x.t.toList):=by rw [e];rfl
  rw [hft]
  have u:=h4.out _ (HB.out (Obj.cells #[.slice a 19 19,.bool mod] 67) (Obj.cells #[.int .i64 x.k,.string x.t,.int .i64 x.n,.slice (some { block:=bx,off:=ox }) x.ks.length cx] 24))
  obtain ⟨_,u2,_,_⟩:=u
  simp only [Nat.zero_mul,Nat.add_zero,h65] at u2
  clear qx rx px hp hft e hz0
  have hdr : ∀ W : World,Below W.heap.size W W.drew:=fun W=>(Below.refl _ _).drew
  go_enter Tryz.func55,Tryz.ntmps55
  go_wp2_with fail
  go_region
  all_goals
   go_wp2
   go_ret
   exact ⟨rfl,(HB.out _ _).drew⟩
 rw [if_neg h65]
 clear px qx rx hp
 go_enter Tryz.func55,Tryz.ntmps55
 go_wp2
 go_ret
 exact ⟨rfl,HB.out _ _⟩
end Go.Proofs.YtfcocoadaajbjaaGreatDoor
namespace Go.Proofs.YtfcocoadaajbjaaGreatDoor
open Go.RowKit
def hdB (mod : Bool) (t : ByteArray) (n : Int) (c : Nat) (r : Rul) : Bool:=saysT mod r.t t && !decide (n < 0) && !decide (r.m < n) && !decide (c < r.ks.length)
def propR : Rul:=⟨2,0,[],0⟩
mutual
def fitsP (mod : Bool) (p : Int) : Nd→Bool
 | .mk k t n ks=>if p=114∧k=6 then hdB mod t n ks.length propR && fitsL mod [] 0 ks
  else standsK p k && (match ruleK k with
   | none=>false
   | some r=>hdB mod t n ks.length r && fitsL mod r.ks r.r ks && agreesP mod (.mk k t n ks))
def fitsL (mod : Bool) (ps : List Int) (r : Int) : List Nd→Bool
 | []=>true
 | y :: ys=>fitsP mod (ps.headD r) y && fitsL mod ps.tail r ys
end
def folP (mod : Bool) (x : Nd) (r : Rul) : Bool:=hdB mod x.t x.n x.ks.length r && fitsL mod r.ks r.r x.ks
def wholeP (mod : Bool) (x : Nd) : Bool:=match ruleK x.k with
 | none=>false
 | some r=>folP mod x r && agreesP mod x
theorem fitsP_eq (mod : Bool) (p : Int) (x : Nd) : fitsP mod p x=if p=114∧x.k=6 then folP mod x propR else standsK p x.k && wholeP mod x:=by
 cases x
 rw [fitsP]
 rfl
theorem fitsL_nil (mod : Bool) (ps : List Int) (r : Int) : fitsL mod ps r []=true:=by rw [fitsL]
theorem fitsL_cons (mod : Bool) (ps : List Int) (r : Int) (y : Nd) (ys : List Nd) : fitsL mod ps r (y :: ys)=(fitsP mod (ps.headD r) y && fitsL mod ps.tail r ys):=by rw [fitsL]
theorem fitsL_all {mod : Bool} {r : Int} : ∀ {l : List Nd},fitsL mod [] r l=true→∀ y ∈ l,fitsP mod r y=true
 | z :: l,h,y,hy=>by
  rw [fitsL_cons,Bool.and_eq_true] at h
  rcases List.mem_cons.1 hy with rfl | hy
  ·exact h.1
  ·exact fitsL_all h.2 y hy
theorem preA_of {mod : Bool} {x : Nd} {r : Rul} (hr : ruleK x.k=some r) (h : folP mod x r=true) : PreA x:=by
 unfold folP at h
 rw [Bool.and_eq_true] at h
 obtain ⟨h1,h2⟩:=h
 unfold hdB at h1
 simp only [Bool.and_eq_true,Bool.not_eq_true',decide_eq_false_iff_not] at h1
 obtain ⟨⟨⟨_,_⟩,_⟩,hlen⟩:=h1
 refine ⟨fun e=>?_,fun e=>?_,fun e=>?_⟩
 ·rw [e,show ruleK 35=some ⟨0,0,[12,104],0⟩ by rfl] at hr
  cases hr
  cases hks : x.ks with
  | nil=>rw [hks] at hlen;simp at hlen
  | cons z l =>
   rw [hks,fitsL_cons,Bool.and_eq_true] at h2
   refine ⟨z,l,rfl,fun y hy=>?_⟩
   have hz:=h2.1
   simp only [List.headD_cons] at hz
   rw [fitsP_eq,if_neg (by omega),Bool.and_eq_true] at hz
   have zk : z.k=12:=by
    have:=hz.1
    simp [standsK] at this
    omega
   have hw:=hz.2
   unfold wholeP at hw
   rw [zk,show ruleK 12=some ⟨0,0,[],13⟩ by rfl] at hw
   simp only [Bool.and_eq_true] at hw
   have hf:=hw.1
   unfold folP at hf
   rw [Bool.and_eq_true] at hf
   have hy2:=fitsL_all hf.2 y hy
   rw [fitsP_eq,if_neg (by simp),Bool.and_eq_true] at hy2
   have yk : y.k=13:=by
    have:=hy2.1
    simp [standsK] at this
    omega
   have hyw:=hy2.2
   unfold wholeP at hyw
   rw [yk,show ruleK 13=some ⟨1,0,[106],0⟩ by rfl] at hyw
   simp only [Bool.and_eq_true] at hyw
   have:=hyw.1
   unfold folP hdB at this
   simp only [Bool.and_eq_true,Bool.not_eq_true',decide_eq_false_iff_not] at this
   intro e0
   have h3:=this.1.2
   rw [e0] at h3
   simp at h3
 ·rw [e,show ruleK 42=some ⟨1,0,[],113⟩ by rfl] at hr
  cases hr
  intro y hy
  have hy2:=fitsL_all h2 y hy
  rw [fitsP_eq,if_neg (by simp),Bool.and_eq_true] at hy2
  have:=hy2.1
  simp [standsK] at this
  omega
 ·rw [e,show ruleK 65=some ⟨4,0,[114],0⟩ by rfl] at hr
  cases hr
  intro e0
  rw [e0] at hlen
  simp at hlen
def FolC (x : Nd) : Prop:=∀ (w : World) (S : Nat→Prop) (v fv vr : Value) (mod : Bool) (r : Rul),LAt w S v x.ks→WAt w fv→PAt w vr r.ks→r.ks.length ≤ 3 →
 Calls Tryz.prog 54 #[fmV fv mod,x.v v,r.v vr] w fun e w'=>e = .returned (.bool (folP mod x r))∧Below w.heap.size w w'
def WhoC (x : Nd) : Prop:=∀ (w : World) (S : Nat→Prop) (v fv : Value) (mod : Bool),LAt w S v x.ks→WAt w fv →
 Calls Tryz.prog 28 #[fmV fv mod,x.v v] w fun e w'=>e = .returned (.bool (wholeP mod x))∧Below w.heap.size w w'
def FitC (x : Nd) : Prop:=∀ (w : World) (S : Nat→Prop) (v fv : Value) (mod : Bool) (p : Int),LAt w S v x.ks→WAt w fv →
 Calls Tryz.prog 92 #[fmV fv mod,.int .i64 p,x.v v] w fun e w'=>e = .returned (.bool (fitsP mod p x))∧Below w.heap.size w w'
theorem fits_of (x : Nd) (hF : FolC x) (hW : WhoC x) : FitC x:=by
 intro w S v fv mod p hx hw
 have hf:=fun W (b : Below w.heap.size w W)=>hF W S v fv (.slice none 0 0) mod propR (hx.bel b) (hw.bel b) (.inl ⟨rfl,rfl⟩) (by simp [propR])
 have hh:=fun W (b : Below w.heap.size w W)=>hW W S v fv mod (hx.bel b) (hw.bel b)
 have hst:=stands_any p x.k
 obtain ⟨a,rfl⟩ : ∃ a,fv = .slice a 19 19:=by obtain ⟨bl,t,rfl,_⟩:=hw;exact ⟨_,rfl⟩
 obtain ⟨ax,cx,rfl⟩:=hx.sl
 have HB : Hid (∀ o o',Below w.heap.size w ((w.alloc o).alloc o')):=fun o o'=>(bel_a w o).alloc (by simp) o'
 have e1 : Hid (∀ o o' W1,Below ((w.alloc o).alloc o').heap.size ((w.alloc o).alloc o') W1→Below w.heap.size w W1):=fun o o' W1 b=>((bel_a w o).alloc (by simp) _).trans (b.mono (by simp;omega))
 rw [fitsP_eq]
 unfold fmV Nd.v Rul.v propR at *
 generalize folP mod x ⟨2,0,[],0⟩=fb at *
 generalize wholeP mod x=wb at *
 generalize standsK p x.k=sb at *
 by_cases h114 : p=114
 ·subst h114
  by_cases h6 : x.k=6
  ·rw [if_pos ⟨rfl,h6⟩]
   rw [h6] at hf ⊢
   clear hst hh
   go_enter Tryz.func92,Tryz.ntmps92
   go_wp2_with (go_at_call 54;refine (hf _ (HB.out _ _)).mono ?_;rintro e W1 ⟨rfl,b1⟩)
   go_ret
   exact ⟨rfl,e1.out _ _ _ b1⟩
  ·rw [if_neg (fun h=>h6 h.2)]
   clear hf
   cases sb
   all_goals
    go_enter Tryz.func92,Tryz.ntmps92
    go_wp2_with (first
     | (go_at_call 109;refine (hst _).mono ?_;rintro e W1 ⟨rfl,rfl⟩)
     | (go_at_call 28;refine (hh _ (HB.out _ _)).mono ?_;rintro e W1 ⟨rfl,b1⟩))
    go_ret
    first | exact ⟨rfl,HB.out _ _⟩ | exact ⟨ret_bool (by simp),e1.out _ _ _ b1⟩
 ·rw [if_neg (fun h=>h114 h.1)]
  clear hf
  cases sb
  all_goals
   go_enter Tryz.func92,Tryz.ntmps92
   go_wp2_with (first
    | (go_at_call 109;refine (hst _).mono ?_;rintro e W1 ⟨rfl,rfl⟩)
    | (go_at_call 28;refine (hh _ (HB.out _ _)).mono ?_;rintro e W1 ⟨rfl,b1⟩))
   go_ret
   first | exact ⟨rfl,HB.out _ _⟩ | exact ⟨ret_bool (by simp),e1.out _ _ _ b1⟩
end Go.Proofs.YtfcocoadaajbjaaGreatDoor
namespace Go.Proofs.YtfcocoadaajbjaaGreatDoor
open Go.RowKit
theorem box2 {w : World} {b : Nat} {p q : Value} (h : ∃ t,w.heap[b]?=some (.cells #[p,q] t (0,0))) : w.cell? ⟨b,0,none⟩=some p∧w.cell? ⟨b,1,none⟩=some q:=by
 obtain ⟨t,h⟩:=h
 simp [World.cell?,h]
theorem box2_of {w w' : World} {b : Nat} {p q : Value} (h : ∃ t,w.heap[b]?=some (.cells #[p,q] t (0,0))) (e : w'.heap[b]?=w.heap[b]?) : ∃ t,w'.heap[b]?=some (.cells #[p,q] t (0,0)):=by
 obtain ⟨t,h⟩:=h
 exact ⟨t,e.trans h⟩
theorem PAt.get {w : World} {a : Option Addr} {ks : List Int} (h : PAt w (.slice a ks.length ks.length) ks) {k : Nat} (hk : k < ks.length) : ∃ bl,a=some ⟨bl,0,none⟩∧bl < w.heap.size∧∀ w',Below w.heap.size w w'→w'.cell? ⟨bl,k,none⟩=some (.int .i64 ks[k]):=by
 rcases h with ⟨rfl,_⟩ | ⟨bl,t,h1,h2⟩
 ·simp at hk
 ·cases h1
  have hl:=(Array.getElem?_eq_some_iff.1 h2).1
  refine ⟨bl,rfl,hl,fun w' b=>?_⟩
  rw [cell_of_row w' bl _ _ _ _ ((b.block bl hl).trans h2)]
  simp [hk]
theorem follows_of (x : Nd) (zx : x.size ≤ 4194304) (tx : x.tx) (hK : ∀ y ∈ x.ks,FitC y) : FolC x:=by
 intro w S v fv vr mod r hx hw hp hp3
 have zs:=x.size_eq
 have lx:=sizes_len x.ks
 have lx2 : x.ks.length ≤ 4194304:=by omega
 have hsy:=fun W (b : Below w.heap.size w W)=>says_any W fv mod r.t x.t (hw.bel b)
 obtain ⟨a,rfl⟩ : ∃ a,fv = .slice a 19 19:=by obtain ⟨bl,t,rfl,_⟩:=hw;exact ⟨_,rfl⟩
 obtain ⟨ax,cx,bx,ox,fx,rfl,px,qx,rx⟩:=hx.op
 obtain ⟨ar,rfl⟩:=hp.sl
 have HB : Hid (∀ o o' o'',Below w.heap.size w (((w.alloc o).alloc o').alloc o'')):=fun o o' o''=>((bel_a w o).alloc (by simp) o').alloc (by simp <;> omega) o''
 have e1 : Hid (∀ o o' o'' W1,Below (((w.alloc o).alloc o').alloc o'').heap.size (((w.alloc o).alloc o').alloc o'') W1→Below w.heap.size w W1∧W1.heap[w.heap.size]?=some o∧W1.heap[w.heap.size+1]?=some o'∧W1.heap[w.heap.size+1+1]?=some o''∧w.heap.size+3 ≤ W1.heap.size):=fun o o' o'' W1 b =>
  ⟨(((bel_a w o).alloc (by simp) _).alloc (by simp <;> omega) _).trans (b.mono (by simp;omega)),(b.block w.heap.size (by simp <;> omega)).trans (hold _ (by simp <;> omega) (hold _ (by simp) (hnew _ rfl))),(b.block (w.heap.size+1) (by simp <;> omega)).trans (hold _ (by simp) (hnew _ (by simp))),(b.block (w.heap.size+1+1) (by simp <;> omega)).trans (hnew _ (by simp)),by have:=b.size;simpa using this⟩
 unfold fmV Nd.v Rul.v at *
 unfold folP hdB
 obtain ⟨sb,hsb⟩ : ∃ sb,saysT mod r.t x.t=sb:=⟨_,rfl⟩
 rw [hsb] at hsy ⊢
 clear hsb tx
 cases sb
 ·go_enter Tryz.func54,Tryz.ntmps54
  go_wp2_with (go_at_call 91;refine (hsy _ (HB.out _ _ _)).mono ?_;rintro e W1 ⟨rfl,b1⟩)
  go_ret
  exact ⟨rfl,(e1.out _ _ _ _ b1).1⟩
 by_cases hn0 : x.n < 0
 ·go_enter Tryz.func54,Tryz.ntmps54
  go_wp2_with (go_at_call 91;refine (hsy _ (HB.out _ _ _)).mono ?_;rintro e W1 ⟨rfl,b1⟩;obtain ⟨b2,m0,m1,m2,z3⟩:=e1.out _ _ _ _ b1;obtain ⟨⟨c0,c1,c2,c3⟩,_⟩:=box4 m1)
  go_ret
  exact ⟨ret_bool (by simp [hn0]),b2⟩
 by_cases hnm : r.m < x.n
 ·go_enter Tryz.func54,Tryz.ntmps54
  go_wp2_with (go_at_call 91;refine (hsy _ (HB.out _ _ _)).mono ?_;rintro e W1 ⟨rfl,b1⟩;obtain ⟨b2,m0,m1,m2,z3⟩:=e1.out _ _ _ _ b1;obtain ⟨⟨c0,c1,c2,c3⟩,_⟩:=box4 m1;obtain ⟨⟨d0,d1,d2,d3⟩,_⟩:=box4 m2)
  go_ret
  exact ⟨ret_bool (by simp [hnm]),b2⟩
 by_cases hlen : x.ks.length < r.ks.length
 ·go_enter Tryz.func54,Tryz.ntmps54
  go_wp2_with (go_at_call 91;refine (hsy _ (HB.out _ _ _)).mono ?_;rintro e W1 ⟨rfl,b1⟩;obtain ⟨b2,m0,m1,m2,z3⟩:=e1.out _ _ _ _ b1;obtain ⟨⟨c0,c1,c2,c3⟩,_⟩:=box4 m1;obtain ⟨⟨d0,d1,d2,d3⟩,_⟩:=box4 m2)
  go_ret
  exact ⟨ret_bool (by simp [hlen]),b2⟩
 have HG : Hid ((true && !decide (x.n < 0) && !decide (r.m < x.n) && !decide (x.ks.length < r.ks.length) && fitsL mod r.ks r.r x.ks)=fitsL mod r.ks r.r x.ks):=by simp [Hid,hn0,hnm,hlen]
 rw [HG.out]
 go_enter Tryz.func54,Tryz.ntmps54
 go_wp2_with (go_at_call 91;refine (hsy _ (HB.out _ _ _)).mono ?_;rintro e W1 ⟨rfl,b1⟩;obtain ⟨b2,m0,m1,m2,z3⟩:=e1.out _ _ _ _ b1;obtain ⟨⟨c0,c1,c2,c3⟩,_⟩:=box4 m1;obtain ⟨⟨d0,d1,d2,d3⟩,_⟩:=box4 m2)
 clear c0 c1 c2 c3 d0 d1 d2 d3 m1 b1 hsy
 go_loopw [41] (fun i wr=>∃ k : Nat,i = .int .i64 (k : Nat)∧k ≤ x.ks.length∧Below w.heap.size w wr∧w.heap.size+3 ≤ wr.heap.size∧(∃ t,wr.heap[w.heap.size]?=some (.cells #[.slice a 19 19,.bool mod] t (0,0))) ∧
  wr.heap[w.heap.size+1+1]?=some (.cells #[.int .i64 r.t,.int .i64 r.m,.slice ar r.ks.length r.ks.length,.int .i64 r.r] 97 (0,0))∧Hid (fitsL mod r.ks r.r x.ks=fitsL mod (r.ks.drop k) r.r (x.ks.drop k))) (fun i _=>x.ks.length - (intOf i).toNat)
 case atStart=>exact ⟨0,rfl,by omega,b2,z3,⟨_,m0⟩,m2,by simp [Hid]⟩
 case round =>
  clear m0 m2 b2 z3
  obtain ⟨k,rfl,hk,bel,sz,m0,m2,HT⟩:=hrel
  obtain ⟨f0,f1⟩:=box2 m0
  obtain ⟨⟨d0,d1,d2,d3⟩,_⟩:=box4 m2
  by_cases hkl : k < x.ks.length
  ·obtain ⟨rfl,hSx,hbx⟩:=px (by omega)
   obtain ⟨⟨u1,u2,u3,u4⟩,gx⟩:=kid_at (qx k hkl) (rx k hkl) hbx bel
   have HD : Hid (x.ks.drop k=x.ks[k] :: x.ks.drop (k+1)):=List.drop_eq_getElem_cons hkl
   have hfit:=hK x.ks[k] (List.getElem_mem hkl)
   obtain ⟨ay,cy,ey⟩:=gx.sl
   clear hK qx rx px
   generalize x.ks[k]=y at *
   generalize fx k=fy at *
   subst ey
   obtain ⟨p,hpp⟩ : ∃ p,p=(r.ks.drop k).headD r.r:=⟨_,rfl⟩
   have hcall : ∀ W,Below wr.heap.size wr W→_:=fun W b=>hfit W S _ (.slice a 19 19) mod p (gx.bel b) (hw.bel (bel.trans (b.mono bel.size)))
   have HF : Hid (fitsL mod r.ks r.r x.ks=(fitsP mod p y && fitsL mod (r.ks.drop (k+1)) r.r (x.ks.drop (k+1)))):=by
    show _=_
    rw [HT.out,HD.out,fitsL_cons,← hpp,List.tail_drop]
   clear HT HD hfit
   obtain ⟨wr2,hwr2⟩ : ∃ W,wr.alloc (Obj.cells #[.int .i64 y.k,.string y.t,.int .i64 y.n,.slice ay y.ks.length cy] 24)=W:=⟨_,rfl⟩
   have bw2 : Below wr.heap.size wr wr2:=by rw [← hwr2];exact bel_a _ _
   have mK : wr2.heap[wr.heap.size]?=some (.cells #[.int .i64 y.k,.string y.t,.int .i64 y.n,.slice ay y.ks.length cy] 24 (0,0)):=by rw [← hwr2];exact hnew _ rfl
   obtain ⟨⟨k0,k1,k2,k3⟩,_⟩:=box4 mK
   obtain ⟨f0',f1'⟩:=box2 (box2_of m0 (bw2.block w.heap.size (by omega)))
   obtain ⟨⟨d0',d1',d2',d3'⟩,_⟩:=box4 ((bw2.block (w.heap.size+1+1) (by omega)).trans m2)
   have hcc:=hcall wr2 bw2
   have fin : Hid (∀ W1,Below wr2.heap.size wr2 W1→Below w.heap.size w W1∧w.heap.size+3 ≤ W1.heap.size∧(∃ t,W1.heap[w.heap.size]?=some (.cells #[.slice a 19 19,.bool mod] t (0,0)))∧W1.heap[w.heap.size+1+1]?=some (.cells #[.int .i64 r.t,.int .i64 r.m,.slice ar r.ks.length r.ks.length,.int .i64 r.r] 97 (0,0))):=fun W1 b=>by
    have b3:=bw2.trans (b.mono bw2.size)
    exact ⟨bel.trans (b3.mono bel.size),Nat.le_trans sz b3.size,box2_of m0 (b3.block _ (by omega)),(b3.block _ (by omega)).trans m2⟩
   clear hcall m0 m2 mK
   unfold fmV Nd.v at hcc
   by_cases hkr : k < r.ks.length
   ·obtain ⟨bl,rfl,hbl,hc⟩:=(hp.bel bel).get hkr
    have hc2:=hc wr2 bw2
    have hpe : p=r.ks[k]:=by rw [hpp,List.drop_eq_getElem_cons hkr];rfl
    rw [← hpe] at hc2
    clear hc hpe hpp hp
    cases hfb : fitsP mod p y
    ·rw [hfb] at hcc HF
     go_wp2_with (go_at_call 92;refine hcc.mono ?_;rintro e W1 ⟨rfl,b1⟩)
     go_ret
     exact ⟨ret_bool (by rw [HF.out];rfl),(fin.out _ b1).1⟩
    ·rw [hfb] at hcc HF
     go_wp2_with (go_at_call 92;refine hcc.mono ?_;rintro e W1 ⟨rfl,b1⟩)
     obtain ⟨b2,z3,q0,q2⟩:=fin.out _ b1
     go_roundw
     case rel=>exact ⟨k+1,by simp,by omega,b2,z3,q0,q2,HF.out⟩
     case measure=>simp [intOf];omega
   ·have hpe : p=r.r:=by rw [hpp,List.drop_of_length_le (by omega)];rfl
    subst hpe
    clear hpp hp
    cases hfb : fitsP mod r.r y
    ·rw [hfb] at hcc HF
     go_wp2_with (go_at_call 92;refine hcc.mono ?_;rintro e W1 ⟨rfl,b1⟩)
     go_ret
     exact ⟨ret_bool (by rw [HF.out];rfl),(fin.out _ b1).1⟩
    ·rw [hfb] at hcc HF
     go_wp2_with (go_at_call 92;refine hcc.mono ?_;rintro e W1 ⟨rfl,b1⟩)
     obtain ⟨b2,z3,q0,q2⟩:=fin.out _ b1
     go_roundw
     case rel=>exact ⟨k+1,by simp,by omega,b2,z3,q0,q2,HF.out⟩
     case measure=>simp [intOf];omega
  ·have HE : Hid (fitsL mod r.ks r.r x.ks=true):=by
    show _=_
    rw [HT.out,List.drop_of_length_le (by omega : x.ks.length ≤ k),fitsL_nil]
   clear HT hK
   go_wp2
   go_ret
   exact ⟨ret_bool (by rw [HE.out]),bel⟩
end Go.Proofs.YtfcocoadaajbjaaGreatDoor
set_option linter.unusedVariables false
set_option linter.unusedSimpArgs false
set_option maxRecDepth 100000
set_option maxHeartbeats 8000000
namespace Go.Proofs.YtfcocoadaajbjaaGreatDoor
open Go.RowKit
theorem ite_len {c : Prop} [Decidable c] {a b : Rul} (h1 : a.ks.length ≤ 3) (h2 : b.ks.length ≤ 3) : (if c then a else b).ks.length ≤ 3:=by
 by_cases h : c
 ·rw [if_pos h];exact h1
 ·rw [if_neg h];exact h2
theorem ite_some {c : Prop} [Decidable c] {a r : Rul} {o : Option Rul} (h : (if c then some a else o)=some r) (h1 : a.ks.length ≤ 3) (h2 : o=some r→r.ks.length ≤ 3) : r.ks.length ≤ 3:=by
 by_cases hc : c
 ·rw [if_pos hc] at h;cases h;exact h1
 ·rw [if_neg hc] at h;exact h2 h
theorem exprR_len (k : Int) : (exprR k).ks.length ≤ 3:=by
 unfold exprR
 repeat (refine ite_len (by decide) ?_)
 decide
theorem typeR_len (k : Int) : (typeR k).ks.length ≤ 3:=by
 unfold typeR
 repeat (refine ite_len (by decide) ?_)
 decide
theorem stmtR_len (k : Int) : (stmtR k).ks.length ≤ 3:=by
 unfold stmtR
 repeat (refine ite_len (by decide) ?_)
 decide
theorem itemR_len (k : Int) : (itemR k).ks.length ≤ 3:=by
 unfold itemR
 repeat (refine ite_len (by decide) ?_)
 decide
theorem partR_len {k : Int} {r : Rul} (h : partR k=some r) : r.ks.length ≤ 3:=by
 unfold partR at h
 repeat (refine ite_some h (by decide) ?_;clear h;intro h)
 cases h
theorem ruleK_len {k : Int} {r : Rul} (h : ruleK k=some r) : r.ks.length ≤ 3:=by
 unfold ruleK at h
 split at h
 ·cases h;exact exprR_len k
 split at h
 ·cases h;exact typeR_len k
 split at h
 ·cases h;exact stmtR_len k
 split at h
 ·cases h;exact itemR_len k
 split at h
 ·cases h;decide
 split at h
 ·cases h;decide
 exact partR_len h
theorem whole_of (x : Nd) (zx : x.size ≤ 4194304) (tx : x.tx) (hF : FolC x) : WhoC x:=by
 intro w S v fv mod hx hw
 have hrule:=ruleOf_any x.k
 have hag:=fun W (b : Below w.heap.size w W) (hp : PreA x)=>agrees_any x W S v fv mod (hx.bel b) (hw.bel b) zx tx hp
 have hfo:=fun W (b : Below w.heap.size w W) vr r (hp : PAt W vr r.ks) (h3 : r.ks.length ≤ 3)=>hF W S v fv vr mod r (hx.bel b) (hw.bel b) hp h3
 obtain ⟨a,rfl⟩ : ∃ a,fv = .slice a 19 19:=by obtain ⟨bl,t,rfl,_⟩:=hw;exact ⟨_,rfl⟩
 obtain ⟨ax,cx,rfl⟩:=hx.sl
 have e1 : Hid (∀ o o' W1,Below ((w.alloc o).alloc o').heap.size ((w.alloc o).alloc o') W1→Below w.heap.size w W1∧W1.heap[w.heap.size]?=some o∧W1.heap[w.heap.size+1]?=some o'∧w.heap.size+2 ≤ W1.heap.size):=fun o o' W1 b=>⟨((bel_a w o).alloc (by simp) _).trans (b.mono (by simp;omega)),(b.block w.heap.size (by simp <;> omega)).trans (hold o' (by simp) (hnew o rfl)),(b.block (w.heap.size+1) (by simp)).trans (hnew o' (by simp)),by have:=b.size;simpa using this⟩
 unfold fmV Nd.v at *
 go_enter Tryz.func28,Tryz.ntmps28
 go_wp2_with fail
 refine (hrule _).mono ?_
 rintro e W1 ⟨r,b,vr,rfl,hb1,hb2,pa,b1⟩
 obtain ⟨bw,m0,m1,z2⟩:=e1.out _ _ _ b1
 obtain ⟨ar,rfl⟩:=pa.sl
 clear hrule e1 b1
 unfold Rul.v
 cases b
 ·have hn:=hb2 rfl
  have HW : Hid (wholeP mod x=false):=by show _=_;unfold wholeP;rw [hn]
  clear hn hb1 hb2 hag hfo
  go_wp2
  go_ret
  exact ⟨ret_bool (by rw [HW.out]),bw.alloc bw.size _⟩
 ·have hs:=hb1 rfl
  have h3:=ruleK_len hs
  have HW : Hid (wholeP mod x=(folP mod x r && agreesP mod x)):=by show _=_;unfold wholeP;rw [hs]
  have HP : Hid (folP mod x r=true→PreA x):=fun h=>preA_of hs h
  clear hb1 hb2 hs
  obtain ⟨W2,hW2⟩ : ∃ W,W1.alloc (Obj.cells #[.int .i64 r.t,.int .i64 r.m,.slice ar r.ks.length r.ks.length,.int .i64 r.r] 97)=W:=⟨_,rfl⟩
  have b12 : Below W1.heap.size W1 W2:=by rw [← hW2];exact bel_a _ _
  have bw2 : Below w.heap.size w W2:=bw.trans (b12.mono bw.size)
  have fo:=hfo W2 bw2 _ r (pa.bel b12) h3
  have mR : W2.heap[W1.heap.size]?=some (.cells #[.int .i64 r.t,.int .i64 r.m,.slice ar r.ks.length r.ks.length,.int .i64 r.r] 97 (0,0)):=by rw [← hW2];exact hnew _ rfl
  have m0':=(b12.block _ (by omega)).trans m0
  have m1':=(b12.block _ (by omega)).trans m1
  obtain ⟨f0,f1⟩:=box2 ⟨_,m0'⟩
  obtain ⟨⟨c0,c1,c2,c3⟩,_⟩:=box4 m1'
  obtain ⟨⟨r0,r1,r2,r3⟩,_⟩:=box4 mR
  have aft : Hid (∀ W3,Below W2.heap.size W2 W3→Below w.heap.size w W3∧(W3.cell? ⟨w.heap.size,0,none⟩=some (.slice a 19 19)∧W3.cell? ⟨w.heap.size,1,none⟩=some (.bool mod))∧(NqZ W3 (w.heap.size+1) x.k x.t x.n ax x.ks.length cx)):=fun W3 b=>by
   have hz:=b12.size
   exact ⟨bw2.trans (b.mono bw2.size),box2 ⟨_,(b.block _ (by omega)).trans m0'⟩,(box4 ((b.block _ (by omega)).trans m1')).1⟩
  clear hfo m0 m1 m0' m1' mR b12 pa
  unfold Rul.v at fo
  cases hfb : folP mod x r
  ·rw [hfb] at fo
   clear hag
   go_wp2_with (go_at_call 54;refine fo.mono ?_;rintro e W3 ⟨rfl,b3⟩)
   go_ret
   exact ⟨ret_bool (by rw [HW.out,hfb];rfl),(aft.out _ b3).1⟩
  ·rw [hfb] at fo
   have hag2:=fun W (b : Below w.heap.size w W)=>hag W b (HP.out hfb)
   clear hag HP
   go_wp2_with (first
    | (go_at_call 54;refine fo.mono ?_;rintro e W3 ⟨rfl,b3⟩;obtain ⟨b4,⟨g0,g1⟩,⟨i0,i1,i2,i3⟩⟩:=aft.out _ b3)
    | (go_at_call 55;refine (hag2 _ b4).mono ?_;rintro e W4 ⟨rfl,b5⟩))
   go_ret
   exact ⟨ret_bool (by rw [HW.out,hfb];simp),b4.trans (b5.mono b4.size)⟩
theorem form_all (x : Nd) : x.size ≤ 4194304→x.tx→FolC x∧WhoC x:=by
 induction x using Nd.ind with
 | h x ih =>
  intro zx tx
  have hF : FolC x:=follows_of x zx tx (fun y hy=>by
   have hy2:=ih y hy (by have:=sizes_mem hy;have:=x.size_eq;omega) (Nd.tx_kid tx hy)
   exact fits_of y hy2.1 hy2.2)
  exact ⟨hF,whole_of x zx tx hF⟩
def formP (x : Nd) : Int:=if wholeP (x.k == 68) x=true then formK x.k else 0
theorem WEnv.bel {w w' : World} (h : WEnv w) (b : Below w.heap.size w w') : WEnv w':=by
 obtain ⟨t,fr,h⟩:=h
 exact ⟨t,fr,(b.block _ (Array.getElem?_eq_some_iff.1 h).1).trans h⟩
theorem form_any (x : Nd) (w : World) (S : Nat→Prop) (v : Value) (hx : LAt w S v x.ks) (zx : x.size ≤ 4194304) (tx : x.tx) (he : WEnv w) :
 Calls Tryz.prog 18 #[x.v v] w fun e w'=>e = .returned (.int .i64 (formP x))∧Below w.heap.size w w':=by
 have hwh:=(form_all x zx tx).2
 have hfo:=formOf_any x.k
 obtain ⟨ax,cx,rfl⟩:=hx.sl
 unfold Nd.v
 go_enter Tryz.func18,Tryz.ntmps18
 go_wp2_with fail
 obtain ⟨W0,hW0⟩ : ∃ W,w.alloc (Obj.cells #[.int .i64 x.k,.string x.t,.int .i64 x.n,.slice ax x.ks.length cx] 24)=W:=⟨_,rfl⟩
 have hb0 : Below w.heap.size w W0:=by rw [← hW0];exact bel_a _ _
 have m0 : W0.heap[w.heap.size]?=some (.cells #[.int .i64 x.k,.string x.t,.int .i64 x.n,.slice ax x.ks.length cx] 24 (0,0)):=by rw [← hW0];exact hnew _ rfl
 have hl0 : w.heap.size < W0.heap.size:=(Array.getElem?_eq_some_iff.1 m0).1
 rw [hW0]
 clear hW0
 have cell : ∀ W',Below W0.heap.size W0 W'→W'.cell? ⟨w.heap.size,0,none⟩=some (.int .i64 x.k):=fun W' b=>(box4 ((b.block _ hl0).trans m0)).1.1
 have HC : Hid (∀ W',Below W0.heap.size W0 W'→W'.cell? ⟨w.heap.size,0,none⟩=some (.int .i64 x.k)):=cell
 clear cell
 have hwd : Hid (∀ W',Below W0.heap.size W0 W'→Calls Tryz.prog 27 #[] W' fun e w'=>∃ v,e = .returned v∧WAt w' v∧Below W'.heap.size W' w'):=fun W' b=>wordsF_any W' (he.bel (hb0.trans (b.mono hb0.size)))
 go_region_held3 (fun W'=>W'.cell? ⟨w.heap.size,0,none⟩=some (.int .i64 x.k))
  (first | assumption | exact HC.out _ (Below.refl _ _).drew | exact HC.out _ ((Below.refl _ _).drew.alloc (Nat.le_refl _) _) | exact HC.out _ hB1 | exact HC.out _ (hB1.alloc hB1.size _) | exact HC.out _ ((hB1.setCell (Nat.le_refl _) _).setCell (Nat.le_refl _) _))
  (first
   | (go_at_call 27;refine (hwd.out _ (Below.refl _ _).drew).mono ?_;rintro e W1 ⟨fv,rfl,hwa,b1⟩;have hB1 : Below W0.heap.size W0 W1:=(Below.refl _ _).drew.trans b1;obtain ⟨fa,rfl⟩ : ∃ a,fv = .slice a 19 19:=(by obtain ⟨bl,t,rfl,_⟩:=hwa;exact ⟨_,rfl⟩))
   | (go_at_call 27;refine (hwd.out _ ((Below.refl _ _).drew.alloc (Nat.le_refl _) _)).mono ?_;rintro e W1 ⟨fv,rfl,hwa,b1⟩;have hB1 : Below W0.heap.size W0 W1:=((Below.refl _ _).drew.alloc (Nat.le_refl _) _).trans (b1.mono (by simp));have hz : W1.heap[W0.heap.size]?=some (.cells #[.slice none 0 0,.bool false] 67 (0,0)):=(b1.block W0.heap.size (by simp)).trans (hnew _ rfl);obtain ⟨y0,y1⟩:=box2 ⟨_,hz⟩;have y2 : W1.frozen? ⟨W0.heap.size,0,none⟩=false:=(by simp [World.frozen?,hz]);have y3 : W1.frozen? ⟨W0.heap.size,1,none⟩=false:=(by simp [World.frozen?,hz]);obtain ⟨fa,rfl⟩ : ∃ a,fv = .slice a 19 19:=(by obtain ⟨bl,t,rfl,_⟩:=hwa;exact ⟨_,rfl⟩)))
 have hBC:=hB1.alloc hB1.size (Obj.cells #[.slice fa 19 19,.bool (x.k == 68)] 67)
 have hwC:=hwa.bel (bel_a W1 (Obj.cells #[.slice fa 19 19,.bool (x.k == 68)] 67))
 have mC : ∃ t,(W1.alloc (Obj.cells #[.slice fa 19 19,.bool (x.k == 68)] 67)).heap[W1.heap.size]?=some (.cells #[.slice fa 19 19,.bool (x.k == 68)] t (0,0)):=⟨_,hnew _ rfl⟩
 generalize W1.alloc (Obj.cells #[.slice fa 19 19,.bool (x.k == 68)] 67)=WC at *
 generalize W1.heap.size=C at *
 rotate_left
 have hBC:=(hB1.setCell (p:=⟨W0.heap.size,0,none⟩) (Nat.le_refl _) (Value.slice fa 19 19)).setCell (p:=⟨W0.heap.size,1,none⟩) (Nat.le_refl _) (Value.bool (x.k == 68))
 have hwC : WAt ((W1.setCell ⟨W0.heap.size,0,none⟩ (Value.slice fa 19 19)).setCell ⟨W0.heap.size,1,none⟩ (Value.bool (x.k == 68))) (Value.slice fa 19 19):=by
  obtain ⟨bl,t,h1,h2⟩:=hwa
  refine ⟨bl,t,h1,?_⟩
  have hne : bl ≠ W0.heap.size:=fun e=>by
   subst e
   rw [hz] at h2
   simp only [Option.some.injEq,Obj.cells.injEq] at h2
   have:=congrArg Array.size h2.1
   simp [textC] at this
   cases this
  rw [Below.heap_setCell _ _ _ _ hne,Below.heap_setCell _ _ _ _ hne]
  exact h2
 have mC : ∃ t,((W1.setCell ⟨W0.heap.size,0,none⟩ (Value.slice fa 19 19)).setCell ⟨W0.heap.size,1,none⟩ (Value.bool (x.k == 68))).heap[W0.heap.size]?=some (.cells #[.slice fa 19 19,.bool (x.k == 68)] t (0,0)):=by
  refine ⟨67,?_⟩
  simp [World.setCell,Array.getElem?_modify,hz]
 obtain ⟨C,hCe⟩ : ∃ C,C=W0.heap.size:=⟨_,rfl⟩
 clear y0 y1 y2 y3 hz
 rw [← hCe] at mC hwC ⊢
 generalize hWC : ((W1.setCell { block:=C,off:=0 } (Value.slice fa 19 19)).setCell { block:=C,off:=1 } (Value.bool (x.k == 68)))=WC at *
 replace hBC : Below W0.heap.size W0 WC:=by rw [← hWC,hCe];exact hBC
 clear hWC hCe
 rotate_left
 all_goals
  clear hB1 b1 hwa hwd
  have bw : Below w.heap.size w WC:=hb0.trans (hBC.mono hb0.size)
  have mN:=(hBC.block _ hl0).trans m0
  obtain ⟨⟨c0,c1,c2,c3⟩,_⟩:=box4 mN
  obtain ⟨g0,g1⟩:=box2 mC
  have wh:=hwh WC S _ (Value.slice fa 19 19) (x.k == 68) (hx.bel bw) hwC
  have aft : Hid (∀ W3,Below WC.heap.size WC W3→Below w.heap.size w W3∧W3.cell? ⟨w.heap.size,0,none⟩=some (.int .i64 x.k)):=fun W3 b=>⟨bw.trans (b.mono bw.size),HC.out W3 (hBC.trans (b.mono hBC.size))⟩
  clear HC mN mC hwC hBC hwh
  unfold fmV Nd.v at wh
  cases hwb : wholeP (x.k == 68) x
  ·rw [hwb] at wh
   go_wp2_with (go_at_call 28;refine wh.mono ?_;rintro e W3 ⟨rfl,b3⟩)
   go_ret
   exact ⟨by simp [formP,hwb],(aft.out _ b3).1⟩
  ·rw [hwb] at wh
   go_wp2_with (first
    | (go_at_call 28;refine wh.mono ?_;rintro e W3 ⟨rfl,b3⟩;obtain ⟨b4,i0⟩:=aft.out _ b3)
    | (go_at_call 29;refine (hfo _).mono ?_;rintro e W4 ⟨rfl,rfl⟩))
   go_ret
   exact ⟨by simp [formP,hwb],b4⟩
end Go.Proofs.YtfcocoadaajbjaaGreatDoor
