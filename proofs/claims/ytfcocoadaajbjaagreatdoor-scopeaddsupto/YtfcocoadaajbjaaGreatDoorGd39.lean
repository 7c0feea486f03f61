/- Own text. Expressions,types,statements: the document's answer,of all trees. Names,spaces: the document's answer. Members of classes: the document's way of saying it and ours are one. -/
import Derived.Test.YtfcocoadaajbjaaGreatDoorGd37
import Derived.Test.YtfcocoadaajbjaaGreatDoorGd38
set_option linter.unusedVariables false
set_option linter.unusedSimpArgs false
set_option maxRecDepth 100000
set_option maxHeartbeats 8000000
namespace Go.Proofs.YtfcocoadaajbjaaGreatDoor
open Go.RowKit
theorem q_pa (typed : Bool) {w : World} {S : Nat→Prop} {z : Nd} {za : Option Addr} {zc : Nat} (hE : ∀ p ∈ z.ks,∀ u ∈ p.ks,TC u) (hT : ∀ p ∈ z.ks,p.t.size ≤ 4194304) (hl : z.ks.length ≤ 4194304) (hx : LAt w S (.slice za z.ks.length zc) z.ks) :
 Hid (QB 71 w (nv z.k z.t z.n za z.ks.length zc) typed (paB typed z)):=fun W b=>by
 unfold paB
 by_cases h : z.k=12
 ·rw [h]
  exact params_12 typed z.t z.n z.ks hE hT hl za zc W S (hx.bel b)
 ·rw [show (z.k == 12)=false by simpa using h]
  exact params_no typed z.k h z.t z.n za z.ks.length zc W
theorem kid_lt {y z : Nd} (h : z ∈ y.ks) : z.size < y.size:=by
 have:=sizes_mem h
 have:=y.size_eq
 omega
theorem ks_len {y : Nd} (zy : y.size ≤ 4194304) : y.ks.length ≤ 4194304:=by
 have:=y.size_eq
 have:=sizes_len y.ks
 omega
theorem tc_step (y : Nd) (zy : y.size ≤ 4194304) (ty : y.tx) (ih : ∀ z : Nd,z.size < y.size→z.tx→TC z) : TC y:=by
 intro w S a c hx
 have ll : y.ks.length ≤ 4194304:=ks_len zy
 have tt : y.t.size ≤ 4194304:=Nd.tx_own ty
 have hT : ∀ z ∈ y.ks,TC z:=fun z hz=>ih z (kid_lt hz) (Nd.tx_kid ty hz)
 by_cases hf : formK y.k=2
 ·rcases form2 hf with h | h | h | h | h
  ·rw [tyB_name h,h]
   exact ty_name _ _ _ _ _ _ _ (q_bare w _ _ _ _ _ _) _ (q_id w _ tt)
  ·rw [tyB_array h,h]
   by_cases h2 : y.ks.length=1
   ·obtain ⟨u,huv⟩:=one_of y.ks h2
    rw [huv] at hx hT ⊢
    obtain ⟨b,o,rfl,za,zc,k1,l1⟩:=kids1 hx
    rw [fl1,fits104]
    exact ty_array_1 _ _ b o c w _ _ _ _ _ _ _ k1 (q_ty (hT u (by simp)) l1)
   ·rw [fl1_no _ _ h2,Bool.and_false]
    exact ty_array_0 _ _ _ _ _ _ (lenF _ 1 (by omega))
  ·rw [tyB_union h,h]
   exact ty_union _ _ _ hT ll _ _ _ S hx
  ·rw [tyB_object h,h]
   exact ty_object _ _ _ (fun p hp z hz=>ih z (Nat.lt_trans (kid_lt hz) (kid_lt hp)) (Nd.tx_kid (Nd.tx_kid ty hp) hz)) (fun p hp=>Nd.tx_own (Nd.tx_kid ty hp)) ll _ _ _ S hx
  ·rw [tyB_func h,h]
   by_cases h2 : y.ks.length=2
   ·obtain ⟨u,v,huv⟩:=two_of y.ks h2
    have hu : u ∈ y.ks:=by rw [huv];simp
    have hv : v ∈ y.ks:=by rw [huv];simp
    have zu : u.size ≤ 4194304:=by have:=kid_lt hu;omega
    have P1 : ∀ p ∈ u.ks,∀ x ∈ p.ks,TC x:=fun p hp x hx=>ih x (Nat.lt_trans (kid_lt hx) (Nat.lt_trans (kid_lt hp) (kid_lt hu))) (Nd.tx_kid (Nd.tx_kid (Nd.tx_kid ty hu) hp) hx)
    have P2 : ∀ p ∈ u.ks,p.t.size ≤ 4194304:=fun p hp=>Nd.tx_own (Nd.tx_kid (Nd.tx_kid ty hu) hp)
    have P3:=hT v hv
    rw [huv] at hx ⊢
    obtain ⟨b,o,rfl,za,zc,ya,yc,k1,l1,k2,l2⟩:=kids2 hx
    rw [func2]
    exact ty_func _ _ b o c w _ _ _ _ _ _ k1 _ _ _ _ _ _ k2 _ (q_plain w _ _ _ _ _ _) _ (q_pa true P1 P2 (ks_len zu) l1) _ (q_ty P3 l2)
   ·rw [fl2_no _ _ _ h2,Bool.and_false,Bool.false_and]
    exact ty_func0 _ _ _ _ _ _ _ (q_plain w _ _ _ _ _ _) (lenF _ 2 (by omega))
 ·have e : tyB y=false:=by unfold tyB;simp [hf]
  rw [e]
  exact ty_none _ hf _ _ _ _ _ _
theorem bc_of (y : Nd) (zy : y.size ≤ 4194304) (ty : y.tx) (ihT : ∀ z : Nd,z.size < y.size→z.tx→TC z) (ihS : ∀ z : Nd,z.size < y.size→z.tx→SC z)
 (w : World) (S : Nat→Prop) (a : Option Addr) (c : Nat) (hx : LAt w S (.slice a y.ks.length c) y.ks) : BC w (.slice a y.ks.length c) (bodyB y.ks):=by
 intro W bel
 replace hx:=hx.bel bel
 by_cases h2 : y.ks.length=3
 ·obtain ⟨u,v,x,huv⟩:=three_of y.ks h2
  have hu : u ∈ y.ks:=by rw [huv];simp
  have hv : v ∈ y.ks:=by rw [huv];simp
  have hx' : x ∈ y.ks:=by rw [huv];simp
  have zu : u.size ≤ 4194304:=by have:=kid_lt hu;omega
  have P1 : ∀ p ∈ u.ks,∀ x ∈ p.ks,TC x:=fun p hp x hx=>ihT x (Nat.lt_trans (kid_lt hx) (Nat.lt_trans (kid_lt hp) (kid_lt hu))) (Nd.tx_kid (Nd.tx_kid (Nd.tx_kid ty hu) hp) hx)
  have P2 : ∀ p ∈ u.ks,p.t.size ≤ 4194304:=fun p hp=>Nd.tx_own (Nd.tx_kid (Nd.tx_kid ty hu) hp)
  have P3:=ihT v (kid_lt hv) (Nd.tx_kid ty hv)
  have P4:=ihS x (kid_lt hx') (Nd.tx_kid ty hx')
  rw [huv] at hx ⊢
  obtain ⟨b,o,rfl,za,zc,ya,yc,xa,xc,k1,l1,k2,l2,k3,l3⟩:=kids3 hx
  rw [body3]
  exact body_3 b o c W _ _ _ _ _ _ k1 _ _ _ _ _ _ k2 _ _ _ _ _ _ k3 _ (q_pa false P1 P2 (ks_len zu) l1) _ (q_to P3 l2) _ (q_bl P4 l3)
 ·rw [body0 _ h2]
  exact body_0 _ _ _ _ (lenF _ 3 (by omega))
theorem forms_all : ∀ (m : Nat),m ≤ 4194304→∀ (y : Nd),y.size ≤ m→y.tx→EC y∧TC y∧SC y:=by
 intro m
 induction m with
 | zero=>intro _ y hy;have:=y.size_pos;omega
 | succ m ih =>
  intro hm y hy ty
  have zy : y.size ≤ 4194304:=by omega
  have ihE : ∀ z : Nd,z.size < y.size→z.tx→EC z:=fun z hz tz=>(ih (by omega) z (by omega) tz).1
  have ihT : ∀ z : Nd,z.size < y.size→z.tx→TC z:=fun z hz tz=>(ih (by omega) z (by omega) tz).2.1
  have ihS : ∀ z : Nd,z.size < y.size→z.tx→SC z:=fun z hz tz=>(ih (by omega) z (by omega) tz).2.2
  have hB : ∀ (w : World) (S : Nat→Prop) (a : Option Addr) (c : Nat),LAt w S (.slice a y.ks.length c) y.ks→BC w (.slice a y.ks.length c) (bodyB y.ks):=bc_of y zy ty ihT ihS
  refine ⟨ec_step y zy ty (fun z hz=>ihE z (kid_lt hz) (Nd.tx_kid ty hz)) (fun z hz u hu=>ihE u (Nat.lt_trans (kid_lt hu) (kid_lt hz)) (Nd.tx_kid (Nd.tx_kid ty hz) hu)) hB,tc_step y zy ty ihT,?_⟩
  exact sc_step y zy ty (fun z hz=>ihE z (kid_lt hz) (Nd.tx_kid ty hz)) (fun z hz=>ihT z (kid_lt hz) (Nd.tx_kid ty hz)) (fun z hz=>ihS z (kid_lt hz) (Nd.tx_kid ty hz)) hB
end Go.Proofs.YtfcocoadaajbjaaGreatDoor
namespace Go.Proofs.YtfcocoadaajbjaaGreatDoor
open Go.RowKit
def naB (loose : Bool) (y : Nd) : Bool:=(y.k == 6) && (y.n == 0) && ((y.ks.length : Int) == 0) && (idT false y.t || (loose && propT false y.t.data.toList))
theorem name_anyG (loose : Bool) (k : Int) (t : ByteArray) (n : Int) (a : Option Addr) (len c : Nat) (w : World) (ht : t.size ≤ 4194304) :
 Calls Tryz.prog 77 #[nv k t n a len c,.bool loose] w fun e w'=>e = .returned (.bool ((k == 6) && (n == 0) && ((len : Int) == 0) && (idT false t || (loose && propT false t.data.toList))))∧Below w.heap.size w w':=by
 have C1:=bare' 6 t n a len c
 have C2:=fun W=>rid_any t W ht
 have C3:=fun W=>rprop_any t W ht
 generalize ((len : Int) == 0)=p1 at *
 generalize idT false t=p2 at *
 generalize propT false t.data.toList=p3 at *
 have X0 : (w.alloc (Obj.cells #[.int .i64 6,.string t,.int .i64 n,.slice a len c] 24)).heap[w.heap.size]?=some (.cells #[.int .i64 6,.string t,.int .i64 n,.slice a len c] 24 (0,0)):=hnew _ rfl
 have kp : Hid (∀ W',Below (w.heap.size+1) (w.alloc (Obj.cells #[.int .i64 6,.string t,.int .i64 n,.slice a len c] 24)) W'→(NqZ W' w.heap.size 6 t n a len c)):=fun W' b=>(box4 ((b.block _ (by omega)).trans X0)).1
 have kb : Hid (∀ W',Below (w.heap.size+1) (w.alloc (Obj.cells #[.int .i64 6,.string t,.int .i64 n,.slice a len c] 24)) W'→Below w.heap.size w W'∧w.heap.size+1 ≤ W'.heap.size):=fun W' b=>⟨(bel_a w _).trans (b.mono (by omega)),by have:=b.size;simpa using this⟩
 clear X0
 go_enter Tryz.func77,Tryz.ntmps77
 by_cases hk : k=6
 ·subst hk
  by_cases hn : n=0
  ·subst hn
   cases p1 with
   | false =>
    go_wp2_with (go_at_call 65;refine (C1 _).mono ?_;rintro e W1 ⟨rfl,b1⟩;have kb1:=b1.mono (show w.heap.size+1 ≤ _ by simp);have s1 : w.heap.size+1 ≤ W1.heap.size:=(kb.out _ kb1).2;obtain ⟨_,_,_,_⟩:=kp.out _ kb1)
    go_ret
    exact ⟨ret_b (by simp),(kb.out _ kb1).1⟩
   | true =>
    cases p2 with
    | true =>
     go_wp2_with (first
      | (go_at_call 65;refine (C1 _).mono ?_;rintro e W1 ⟨rfl,b1⟩;have kb1:=b1.mono (show w.heap.size+1 ≤ _ by simp);have s1 : w.heap.size+1 ≤ W1.heap.size:=(kb.out _ kb1).2;obtain ⟨_,_,_,_⟩:=kp.out _ kb1)
      | (go_at_call 13;refine (C2 _).mono ?_;rintro e W2 ⟨rfl,b2⟩;have kb2:=kb1.trans (b2.mono s1);have s2 : w.heap.size+1 ≤ W2.heap.size:=(kb.out _ kb2).2;obtain ⟨_,_,_,_⟩:=kp.out _ kb2))
     go_ret
     exact ⟨ret_b (by simp),(kb.out _ kb2).1⟩
    | false =>
     cases loose with
     | false =>
      go_wp2_with (first
       | (go_at_call 65;refine (C1 _).mono ?_;rintro e W1 ⟨rfl,b1⟩;have kb1:=b1.mono (show w.heap.size+1 ≤ _ by simp);have s1 : w.heap.size+1 ≤ W1.heap.size:=(kb.out _ kb1).2;obtain ⟨_,_,_,_⟩:=kp.out _ kb1)
       | (go_at_call 13;refine (C2 _).mono ?_;rintro e W2 ⟨rfl,b2⟩;have kb2:=kb1.trans (b2.mono s1);have s2 : w.heap.size+1 ≤ W2.heap.size:=(kb.out _ kb2).2;obtain ⟨_,_,_,_⟩:=kp.out _ kb2))
      go_ret
      exact ⟨ret_b (by simp),(kb.out _ kb2).1⟩
     | true =>
      go_wp2_with (first
       | (go_at_call 65;refine (C1 _).mono ?_;rintro e W1 ⟨rfl,b1⟩;have kb1:=b1.mono (show w.heap.size+1 ≤ _ by simp);have s1 : w.heap.size+1 ≤ W1.heap.size:=(kb.out _ kb1).2;obtain ⟨_,_,_,_⟩:=kp.out _ kb1)
       | (go_at_call 13;refine (C2 _).mono ?_;rintro e W2 ⟨rfl,b2⟩;have kb2:=kb1.trans (b2.mono s1);have s2 : w.heap.size+1 ≤ W2.heap.size:=(kb.out _ kb2).2;obtain ⟨_,_,_,_⟩:=kp.out _ kb2)
       | (go_at_call 68;refine (C3 _).mono ?_;rintro e W3 ⟨rfl,b3⟩;have kb3:=kb2.trans (b3.mono s2);have s3 : w.heap.size+1 ≤ W3.heap.size:=(kb.out _ kb3).2;obtain ⟨_,_,_,_⟩:=kp.out _ kb3))
      go_ret
      exact ⟨ret_b (by simp),(kb.out _ kb3).1⟩
  ·go_wp2
   go_ret
   exact ⟨ret_b (by simp [hn]),bel_a _ _⟩
 ·go_wp2
  go_ret
  exact ⟨ret_b (by simp [hk]),bel_a _ _⟩
end Go.Proofs.YtfcocoadaajbjaaGreatDoor
namespace Go.Proofs.YtfcocoadaajbjaaGreatDoor
open Go.RowKit
def ctorL : List UInt8:=[99,111,110,115,116,114,117,99,116,111,114]
def mbB (y : Nd) : Bool:=fitsP false 113 y
def clB (l : List Nd) : Bool:=l.all mbB && (ordB l && unlikeB l)
theorem mb_eq (y : Nd) : mbB y=(((y.k == 43) || (y.k == 44) || (y.k == 45)) && wholeP false y):=by
 unfold mbB
 rw [fitsP_eq,if_neg (by omega)]
 rfl
theorem mb43 {y : Nd} (h : y.k=43) : mbB y=(propT false y.t.data.toList && (y.t.toList != ctorL) && (y.n == 0) && (!decide (y.ks.length < 2) && fitsL false [106,101] 0 y.ks)):=by
 rw [mb_eq,whole_at (r:=⟨3,0,[106,101],0⟩) h rfl,show agreesP false y=true by unfold agreesP;rw [h];rfl,Bool.and_true,hd0,h,Bool.and_assoc]
 rfl
theorem mb44 {y : Nd} (h : y.k=44) : mbB y=((y.t.toList == []) && (y.n == 0) && (!decide (y.ks.length < 2) && fitsL false [12,52] 0 y.ks)):=by
 rw [mb_eq,whole_at (r:=⟨0,0,[12,52],0⟩) h rfl,show agreesP false y=true by unfold agreesP;rw [h];rfl,Bool.and_true,hd0,h,Bool.and_assoc]
 rfl
theorem mb45 {y : Nd} (h : y.k=45) : mbB y=(propT false y.t.data.toList && (y.t.toList != ctorL) && (y.n == 0) && bodyB y.ks):=by
 rw [mb_eq,whole_at (r:=⟨3,0,[12,106,52],0⟩) h rfl,show agreesP false y=true by unfold agreesP;rw [h];rfl,Bool.and_true,hd0,h,Bool.and_assoc]
 rfl
theorem mb_else {y : Nd} (h3 : y.k ≠ 43) (h4 : y.k ≠ 44) (h5 : y.k ≠ 45) : mbB y=false:=by
 rw [mb_eq,show (y.k == 43)=false by simpa using h3,show (y.k == 44)=false by simpa using h4,show (y.k == 45)=false by simpa using h5]
 rfl
theorem mb_kind {y : Nd} (h : mbB y=true) : y.k=43 ∨ y.k=44 ∨ y.k=45:=by
 by_cases h3 : y.k=43
 ·exact .inl h3
 ·by_cases h4 : y.k=44
  ·exact .inr (.inl h4)
  ·by_cases h5 : y.k=45
   ·exact .inr (.inr h5)
   ·rw [mb_else h3 h4 h5] at h
    cases h
theorem class_whole {y : Nd} (h : y.k=42) : wholeP false y=(idT false y.t && (y.n == 0) && clB y.ks):=by
 rw [whole_at (r:=⟨1,0,[],113⟩) h rfl,show agreesP false y=(ordB y.ks && unlikeB y.ks) by unfold agreesP;rw [h];rfl,hd0,fitsR 113 mbB (fun _=>rfl)]
 show (idT false y.t && (y.n == 0) && !decide (y.ks.length < 0) && _ && _)=_
 unfold clB
 simp [Bool.and_assoc]
theorem prop_nil : propT false []=false:=by rfl
theorem ordB_pair : ∀ (A B : List Nd) (y : Nd),ordB (A ++ y :: B)=true→∀ z ∈ A,z.k ≤ y.k
 | [],B,y,h,z,hz=>by simp at hz
 | [x],B,y,h,z,hz=>by
  obtain rfl : z=x:=by simpa using hz
  have h' : (decide (z.k ≤ y.k) && ordB (y :: B))=true:=h
  simp at h'
  exact h'.1
 | x :: x' :: A,B,y,h,z,hz=>by
  have h' : (decide (x.k ≤ x'.k) && ordB (x' :: A ++ y :: B))=true:=h
  rw [Bool.and_eq_true,decide_eq_true_eq] at h'
  have ih:=ordB_pair (x' :: A) B y h'.2
  rcases List.mem_cons.1 hz with rfl | hz
  ·have:=ih x' (List.mem_cons_self)
   omega
  ·exact ih z hz
theorem ordB_next : ∀ (A : List Nd) (y : Nd),ordB A=true→(∀ z ∈ A,z.k ≤ y.k)→ordB (A ++ [y])=true
 | [],y,_,_=>rfl
 | [x],y,_,h=>by
  show (decide (x.k ≤ y.k) && true)=true
  simp [h x (by simp)]
 | x :: x' :: A,y,ho,h=>by
  have h' : (decide (x.k ≤ x'.k) && ordB (x' :: A))=true:=ho
  rw [Bool.and_eq_true] at h'
  show (decide (x.k ≤ x'.k) && ordB (x' :: A ++ [y]))=true
  rw [h'.1,ordB_next (x' :: A) y h'.2 (fun z hz=>h z (List.mem_cons_of_mem _ hz))]
  rfl
def nmF (l : List Nd) : List (List UInt8):=nmL (l.filter fun x=>x.k != 44)
theorem nmF_app (l : List Nd) (y : Nd) (h : y.k ≠ 44) : nmF (l ++ [y])=nmF l ++ [y.t.data.toList]:=by
 have e : (y.k != 44)=true:=by simpa using h
 unfold nmF
 rw [List.filter_append,List.filter_cons,e]
 simp [nmL]
theorem nmF_ctor (l : List Nd) (y : Nd) (h : y.k=44) : nmF (l ++ [y])=nmF l:=by
 have e : (y.k != 44)=false:=by rw [h];rfl
 unfold nmF
 rw [List.filter_append,List.filter_cons,e]
 simp
theorem nmF_sub (l : List Nd) {b : List UInt8} (h : b ∈ nmF l) : b ∈ nmL l:=by
 unfold nmF nmL at *
 obtain ⟨x,hx,rfl⟩:=List.mem_map.1 h
 exact List.mem_map.2 ⟨x,(List.mem_filter.1 hx).1,rfl⟩
structure ClInv (l : List Nd) (k kk s : Nat) : Prop where
 all : ∀ z ∈ l.take k,mbB z=true
 nd : (nmL (l.take k)).Nodup
 ord : ordB (l.take k)=true
 top : ∀ z ∈ l.take k,z.k ≤ 43+s
 has : s ≠ 0→∃ z ∈ l.take k,z.k=43+s
 len : (nmF (l.take k)).length=kk
theorem ClInv.zero (l : List Nd) : ClInv l 0 0 0:=⟨by simp,by simp [nmL],rfl,by simp,fun h=>absurd rfl h,by simp [nmF,nmL]⟩
theorem cl_cut {l : List Nd} {k : Nat} (hk : k < l.length) : l=l.take k ++ l[k] :: l.drop (k+1):=by simp
section
variable {l : List Nd} {k kk s : Nat}
theorem cl_no_mb (hk : k < l.length) (h : mbB l[k]=false) : clB l=false:=by
 unfold clB
 rw [List.all_eq_false.2 ⟨l[k],List.getElem_mem hk,by rw [h];decide⟩]
 rfl
theorem cl_no_ord (I : ClInv l k kk s) (hk : k < l.length) (h : l[k].k < 43+s) (hs : s ≠ 0) : clB l=false:=by
 obtain ⟨z,hz,e⟩:=I.has hs
 have : ordB l=false:=by
  cases ho : ordB l with
  | false=>rfl
  | true =>
   rw [cl_cut hk] at ho
   have:=ordB_pair _ _ _ ho z hz
   omega
 unfold clB
 rw [this]
 simp
theorem cl_no_in (hk : k < l.length) (h : l[k].t.data.toList ∈ nmF (l.take k)) : clB l=false:=by
 unfold clB
 rw [unlike_no hk (nmF_sub _ h)]
 simp
theorem cl_no_ctor (I : ClInv l k kk s) (hk : k < l.length) (h : l[k].k=44) (ht : l[k].t.toList=[]) (hs : s ≠ 0) : clB l=false:=by
 by_cases h1 : s=1
 ·obtain ⟨z,hz,e⟩:=I.has hs
  have hz4 : z.k=44:=by omega
  have hm:=I.all z hz
  rw [mb44 hz4] at hm
  simp only [Bool.and_eq_true] at hm
  have ez : z.t.toList=[]:=by simpa using hm.1.1
  rw [bytes_toList] at ez ht
  unfold clB
  rw [unlike_no hk (by rw [ht];exact List.mem_map.2 ⟨z,hz,ez⟩)]
  simp
 ·exact cl_no_ord I hk (by omega) hs
theorem take_next (hk : k < l.length) : l.take (k+1)=l.take k ++ [l[k]]:=List.take_succ_eq_append_getElem hk
theorem cl_next (I : ClInv l k kk s) (hk : k < l.length) (hm : mbB l[k]=true) (hs : s ≤ 2) (h4 : l[k].k ≠ 44) (hord : 43+(s : Int) ≤ l[k].k) (hn : l[k].t.data.toList ∉ nmF (l.take k)) (s' : Nat) (hs' : l[k].k=43+s') : ClInv l (k+1) (kk+1) s'∧nmF (l.take (k+1))=nmF (l.take k) ++ [l[k].t.data.toList]:=by
 have hp : propT false l[k].t.data.toList=true:=by
  rcases mb_kind hm with h | h | h
  ·rw [mb43 h] at hm;simp only [Bool.and_eq_true] at hm;exact hm.1.1.1
  ·exact absurd h h4
  ·rw [mb45 h] at hm;simp only [Bool.and_eq_true] at hm;exact hm.1.1.1
 have e:=take_next hk
 refine ⟨⟨fun z hz=>?_,?_,?_,fun z hz=>?_,fun _=>⟨l[k],by rw [e];exact List.mem_append_right _ (List.mem_singleton.2 rfl),hs'⟩,?_⟩,by rw [e,nmF_app _ _ h4]⟩
 ·rw [e] at hz
  rcases List.mem_append.1 hz with hz | hz
  ·exact I.all z hz
  ·obtain rfl : z=l[k]:=by simpa using hz
   exact hm
 ·rw [e,nmL_app]
  refine unlike_next I.nd fun hin=>?_
  obtain ⟨z,hz,ez⟩:=List.mem_map.1 hin
  by_cases hz4 : z.k=44
  ·have hmz:=I.all z hz
   rw [mb44 hz4] at hmz
   simp only [Bool.and_eq_true] at hmz
   have ez' : z.t.toList=[]:=by simpa using hmz.1.1
   rw [bytes_toList] at ez'
   have ez2 : z.t.data.toList=l[k].t.data.toList:=ez
   rw [← ez2,ez',prop_nil] at hp
   cases hp
  ·exact hn (List.mem_map.2 ⟨z,List.mem_filter.2 ⟨hz,by simpa using hz4⟩,ez⟩)
 ·rw [e]
  exact ordB_next _ _ I.ord (fun z hz=>by have:=I.top z hz;omega)
 ·rw [e] at hz
  rcases List.mem_append.1 hz with hz | hz
  ·have:=I.top z hz;omega
  ·obtain rfl : z=l[k]:=by simpa using hz
   omega
 ·rw [e,nmF_app _ _ h4,List.length_append,I.len]
  rfl
theorem cl_ctor (I : ClInv l k kk s) (hk : k < l.length) (hm : mbB l[k]=true) (hs : s=0) (h4 : l[k].k=44) : ClInv l (k+1) kk 1∧nmF (l.take (k+1))=nmF (l.take k):=by
 have ht : l[k].t.data.toList=[]:=by
  rw [mb44 h4] at hm
  simp only [Bool.and_eq_true] at hm
  have:=hm.1.1
  rw [bytes_toList] at this
  simpa using this
 subst hs
 have e:=take_next hk
 refine ⟨⟨fun z hz=>?_,?_,?_,fun z hz=>?_,fun _=>⟨l[k],by rw [e];exact List.mem_append_right _ (List.mem_singleton.2 rfl),by omega⟩,?_⟩,by rw [e,nmF_ctor _ _ h4]⟩
 ·rw [e] at hz
  rcases List.mem_append.1 hz with hz | hz
  ·exact I.all z hz
  ·obtain rfl : z=l[k]:=by simpa using hz
   exact hm
 ·rw [e,nmL_app]
  refine unlike_next I.nd fun hin=>?_
  obtain ⟨z,hz,ez⟩:=List.mem_map.1 hin
  have hk3 : z.k=43:=by
   have:=I.top z hz
   rcases mb_kind (I.all z hz) with h | h | h <;> omega
  have hmz:=I.all z hz
  rw [mb43 hk3] at hmz
  simp only [Bool.and_eq_true] at hmz
  have hp:=hmz.1.1.1
  have ez2 : z.t.data.toList=l[k].t.data.toList:=ez
  rw [ez2,ht,prop_nil] at hp
  cases hp
 ·rw [e]
  exact ordB_next _ _ I.ord (fun z hz=>by have:=I.top z hz;omega)
 ·rw [e] at hz
  rcases List.mem_append.1 hz with hz | hz
  ·have:=I.top z hz;omega
  ·obtain rfl : z=l[k]:=by simpa using hz
   omega
 ·rw [e,nmF_ctor _ _ h4,I.len]
end
theorem ClInv.done {l : List Nd} {k kk s : Nat} (I : ClInv l k kk s) (hk : l.length ≤ k) : clB l=true:=by
 have e : l.take k=l:=List.take_of_length_le hk
 have h1:=I.all
 have h2:=I.nd
 have h3:=I.ord
 rw [e] at h1 h2 h3
 unfold clB
 rw [List.all_eq_true.2 h1,h3,show unlikeB l=true from decide_eq_true h2]
 rfl
end Go.Proofs.YtfcocoadaajbjaaGreatDoor
