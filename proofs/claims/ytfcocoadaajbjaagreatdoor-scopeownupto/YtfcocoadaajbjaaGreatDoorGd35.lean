/- Own text. Which trees are expressions: the document's way of saying it and ours are one. Which trees are expressions: the document's answer,all kinds. Nothing,a type or nothing,a block: the document's answer. Parts of types,parameters: in our words. Lists of names that grow. -/
import Derived.Test.YtfcocoadaajbjaaGreatDoorGd34
import Derived.Deep.AppendLies
set_option linter.unusedVariables false
set_option linter.unusedSimpArgs false
set_option maxRecDepth 100000
set_option maxHeartbeats 8000000
namespace Go.Proofs.YtfcocoadaajbjaaGreatDoor
open Go.RowKit
theorem exB_eq {y : Nd} {r : Rul} (hk : formK y.k=1) (hr : ruleK y.k=some r) (ha : agreesP false y=true) : exB y=(hdB false y.t y.n y.ks.length r && fitsL false r.ks r.r y.ks):=by
 unfold exB wholeP folP
 rw [hk,hr,ha]
 simp
theorem n0 (n : Int) : (!decide (n < 0) && !decide (0 < n))=(n == 0):=by
 rw [Bool.eq_iff_iff]
 simp
 omega
theorem hd0 (s : Int) (t : ByteArray) (n : Int) (c : Nat) (ps : List Int) (r : Int) : hdB false t n c ⟨s,0,ps,r⟩=(saysT false s t && (n == 0) && !decide (c < ps.length)):=by
 show (saysT false s t && !decide (n < 0) && !decide (0 < n) && !decide (c < ps.length))=_
 rw [Bool.and_assoc (saysT false s t),n0]
theorem fits0 (y : Nd) : fitsP false 0 y=false:=by
 rw [fitsP_eq,if_neg (by omega)]
 by_cases h : y.k=0
 ·have : wholeP false y=false:=by unfold wholeP;rw [h];rfl
  rw [this,Bool.and_false]
 ·have : standsK 0 y.k=false:=by
   show ((0 : Int) == y.k)=false
   simp
   omega
  rw [this,Bool.false_and]
theorem fits101 (y : Nd) : fitsP false 101 y=exB y:=by
 rw [fitsP_eq,if_neg (by omega)]
 rfl
theorem fits104 (y : Nd) : fitsP false 104 y=tyB y:=by
 rw [fitsP_eq,if_neg (by omega)]
 rfl
theorem fits107 (y : Nd) : fitsP false 107 y=stB y:=by
 rw [fitsP_eq,if_neg (by omega)]
 rfl
theorem fitsR (r : Int) (f : Nd→Bool) (h : ∀ y,fitsP false r y=f y) : ∀ l,fitsL false [] r l=l.all f
 | []=>by rw [fitsL_nil];rfl
 | y :: l=>by rw [fitsL_cons,List.all_cons];show (fitsP false r y && fitsL false [] r l)=_;rw [h,fitsR r f h l]
theorem fitsN (l : List Nd) : fitsL false [] 0 l=((l.length : Int) == 0):=by
 cases l with
 | nil=>rw [fitsL_nil];rfl
 | cons y l =>
  rw [fitsL_cons]
  show (fitsP false 0 y && _)=_
  rw [fits0,Bool.false_and]
  simp
  omega
theorem fitsC (p r : Int) (ps : List Int) (y : Nd) (l : List Nd) : fitsL false (p :: ps) r (y :: l)=(fitsP false p y && fitsL false ps r l):=fitsL_cons _ _ _ _ _
theorem lenF (l : List Nd) (j : Int) (h : (l.length : Int) ≠ j) : ((l.length : Int) == j)=false:=by simpa using h
theorem fits_1 (l : List Nd) : (!decide (l.length < 1) && fitsL false [101] 0 l)=(((l.length : Int) == 1) && l.all exB):=by
 rcases l with _ | ⟨a,_ | ⟨b,l⟩⟩
 ·rfl
 ·rw [fitsC,fits101,fitsN];simp
 ·rw [fitsC,fits101,fitsN,lenF _ 0 (by simp;omega),lenF _ 1 (by simp;omega)];simp
theorem fits_2 (l : List Nd) : (!decide (l.length < 2) && fitsL false [101,101] 0 l)=(((l.length : Int) == 2) && l.all exB):=by
 rcases l with _ | ⟨a,_ | ⟨b,_ | ⟨c,l⟩⟩⟩
 ·rfl
 ·simp
 ·rw [fitsC,fits101,fitsC,fits101,fitsN];simp
 ·rw [fitsC,fits101,fitsC,fits101,fitsN,lenF _ 0 (by simp;omega),lenF _ 2 (by simp;omega)];simp
theorem fits_3 (l : List Nd) : (!decide (l.length < 3) && fitsL false [101,101,101] 0 l)=(((l.length : Int) == 3) && l.all exB):=by
 rcases l with _ | ⟨a,_ | ⟨b,_ | ⟨c,_ | ⟨d,l⟩⟩⟩⟩
 ·rfl
 ·simp
 ·simp
 ·rw [fitsC,fits101,fitsC,fits101,fitsC,fits101,fitsN];simp [Bool.and_assoc]
 ·rw [fitsC,fits101,fitsC,fits101,fitsC,fits101,fitsN,lenF _ 0 (by simp;omega),lenF _ 3 (by simp;omega)];simp
theorem fits_c (l : List Nd) : (!decide (l.length < 1) && fitsL false [101] 101 l)=(decide (1 ≤ (l.length : Int)) && l.all exB):=by
 rcases l with _ | ⟨a,l⟩
 ·rfl
 ·rw [fitsC,fits101,fitsR 101 exB fits101];simp;omega
theorem plainT_eq (t : ByteArray) (n : Int) : (saysT false 0 t && (n == 0))=plainT t n:=rfl
theorem exB_plain {y : Nd} (h : y.k=4 ∨ y.k=5 ∨ y.k=7) : exB y=(plainT y.t y.n && ((y.ks.length : Int) == 0)):=by
 have e : exB y=(hdB false y.t y.n y.ks.length ⟨0,0,[],0⟩ && fitsL false [] 0 y.ks):=by
  rcases h with h | h | h <;> exact exB_eq (by rw [h];rfl) (by rw [h];rfl) (by unfold agreesP;rw [h];rfl)
 rw [e,hd0,plainT_eq,fitsN]
 simp
theorem exB_text {y : Nd} (h : y.k=2) : exB y=((y.n == 0) && validL y.t.data.toList && ((y.ks.length : Int) == 0)):=by
 rw [exB_eq (r:=⟨6,0,[],0⟩) (by rw [h];rfl) (by rw [h];rfl) (by unfold agreesP;rw [h];rfl),hd0,fitsN,Bool.and_comm (y.n == 0)]
 show (validL y.t.data.toList && _ && _ && _)=_
 simp
theorem exB_name {y : Nd} (h : y.k=6) : exB y=((y.n == 0) && idT false y.t && ((y.ks.length : Int) == 0)):=by
 rw [exB_eq (r:=⟨1,0,[],0⟩) (by rw [h];rfl) (by rw [h];rfl) (by unfold agreesP;rw [h];rfl),hd0,fitsN,Bool.and_comm (y.n == 0)]
 show (idT false y.t && _ && _ && _)=_
 simp
theorem exB_num {y : Nd} (h : y.k=1) : exB y=((y.t.toList == []) && decide (0 ≤ y.n) && decide (y.n ≤ 9007199254740991) && ((y.ks.length : Int) == 0)):=by
 rw [exB_eq (r:=⟨0,9007199254740991,[],0⟩) (by rw [h];rfl) (by rw [h];rfl) (by unfold agreesP;rw [h];rfl),fitsN]
 show ((y.t.toList == []) && !decide (y.n < 0) && !decide (9007199254740991 < y.n) && !decide (y.ks.length < 0) && _)=_
 simp [← decide_not]
theorem exB_bool {y : Nd} (h : y.k=3) : exB y=((y.t.toList == []) && ((y.n == 0) || (y.n == 1)) && ((y.ks.length : Int) == 0)):=by
 rw [exB_eq (r:=⟨0,1,[],0⟩) (by rw [h];rfl) (by rw [h];rfl) (by unfold agreesP;rw [h];rfl),fitsN]
 show ((y.t.toList == []) && !decide (y.n < 0) && !decide (1 < y.n) && !decide (y.ks.length < 0) && _)=_
 rw [Bool.and_assoc (y.t.toList == []),show (!decide (y.n < 0) && !decide (1 < y.n))=((y.n == 0) || (y.n == 1)) by rw [Bool.eq_iff_iff];simp;omega]
 simp
theorem exB_array {y : Nd} (h : y.k=8) : exB y=(plainT y.t y.n && y.ks.all exB):=by
 rw [exB_eq (r:=⟨0,0,[],101⟩) (by rw [h];rfl) (by rw [h];rfl) (by unfold agreesP;rw [h];rfl),hd0,plainT_eq,fitsR 101 exB fits101]
 simp
theorem exB_cond {y : Nd} (h : y.k=17) : exB y=(plainT y.t y.n && (((y.ks.length : Int) == 3) && y.ks.all exB)):=by
 rw [exB_eq (r:=⟨0,0,[101,101,101],0⟩) (by rw [h];rfl) (by rw [h];rfl) (by unfold agreesP;rw [h];rfl),hd0,plainT_eq,Bool.and_assoc]
 exact congrArg _ (fits_3 _)
theorem exB_call {y : Nd} (h : y.k=19) : exB y=(plainT y.t y.n && (decide (1 ≤ (y.ks.length : Int)) && y.ks.all exB)):=by
 rw [exB_eq (r:=⟨0,0,[101],101⟩) (by rw [h];rfl) (by rw [h];rfl) (by unfold agreesP;rw [h];rfl),hd0,plainT_eq,Bool.and_assoc]
 exact congrArg _ (fits_c _)
theorem exB_index {y : Nd} (h : y.k=22) : exB y=(plainT y.t y.n && (((y.ks.length : Int) == 2) && y.ks.all exB)):=by
 rw [exB_eq (r:=⟨0,0,[101,101],0⟩) (by rw [h];rfl) (by rw [h];rfl) (by unfold agreesP;rw [h];rfl),hd0,plainT_eq,Bool.and_assoc]
 exact congrArg _ (fits_2 _)
theorem exB_new {y : Nd} (h : y.k=20) : exB y=((y.n == 0) && idT false y.t && y.ks.all exB):=by
 rw [exB_eq (r:=⟨1,0,[],101⟩) (by rw [h];rfl) (by rw [h];rfl) (by unfold agreesP;rw [h];rfl),hd0,fitsR 101 exB fits101,Bool.and_comm (y.n == 0)]
 show (idT false y.t && _ && _ && _)=_
 simp
theorem exB_member {y : Nd} (h : y.k=21) : exB y=((y.n == 0) && propT false y.t.data.toList && (((y.ks.length : Int) == 1) && y.ks.all exB)):=by
 rw [exB_eq (r:=⟨2,0,[101],0⟩) (by rw [h];rfl) (by rw [h];rfl) (by unfold agreesP;rw [h];rfl),hd0,Bool.and_assoc,Bool.and_comm (y.n == 0)]
 exact congrArg _ (fits_1 _)
theorem unL_mem (s : List UInt8) : decide (s ∈ unaryL)=decide (s ∈ unL) :=
 decide_eq_decide.2 ⟨fun h=>(show ∀ x ∈ unaryL,x ∈ unL by decide) s h,fun h=>(show ∀ x ∈ unL,x ∈ unaryL by decide) s h⟩
theorem biL_mem (s : List UInt8) : decide (s ∈ binaryL)=decide (s ∈ biL) :=
 decide_eq_decide.2 ⟨fun h=>(show ∀ x ∈ binaryL,x ∈ biL by decide) s h,fun h=>(show ∀ x ∈ biL,x ∈ binaryL by decide) s h⟩
theorem exB_unary {y : Nd} (h : y.k=15) : exB y=((y.n == 0) && decide (y.t.data.toList ∈ unL) && (((y.ks.length : Int) == 1) && y.ks.all exB)):=by
 rw [exB_eq (r:=⟨7,0,[101],0⟩) (by rw [h];rfl) (by rw [h];rfl) (by unfold agreesP;rw [h];rfl),hd0,Bool.and_assoc,Bool.and_comm (y.n == 0),← unL_mem]
 exact congrArg _ (fits_1 _)
theorem exB_binary {y : Nd} (h : y.k=16) : exB y=((y.n == 0) && decide (y.t.data.toList ∈ biL) && (((y.ks.length : Int) == 2) && y.ks.all exB)):=by
 rw [exB_eq (r:=⟨8,0,[101,101],0⟩) (by rw [h];rfl) (by rw [h];rfl) (by unfold agreesP;rw [h];rfl),hd0,Bool.and_assoc,Bool.and_comm (y.n == 0),← biL_mem]
 exact congrArg _ (fits_2 _)
end Go.Proofs.YtfcocoadaajbjaaGreatDoor
namespace Go.Proofs.YtfcocoadaajbjaaGreatDoor
open Go.RowKit
theorem fits10 (y : Nd) : fitsP false 10 y=prB y:=by
 rw [fitsP_eq,if_neg (by omega)]
 by_cases h : y.k=10
 ·have e : wholeP false y=(hdB false y.t y.n y.ks.length ⟨2,0,[101],0⟩ && fitsL false [101] 0 y.ks):=by
   unfold wholeP folP
   rw [h,show ruleK 10=some ⟨2,0,[101],0⟩ from rfl]
   show (_ && agreesP false y)=_
   rw [show agreesP false y=true by unfold agreesP;rw [h];rfl,Bool.and_true]
  rw [e,hd0,Bool.and_assoc]
  unfold prB
  rw [show (!decide (y.ks.length < [(101 : Int)].length) && fitsL false [101] 0 y.ks)=_ from fits_1 _,h]
  show (true && ((propT false y.t.data.toList && _) && _))=_
  rw [Bool.and_comm (propT false y.t.data.toList)]
  simp [Bool.and_assoc]
 ·have e : standsK 10 y.k=false:=by
   show ((10 : Int) == y.k)=false
   simp
   omega
  rw [e,Bool.false_and]
  unfold prB
  simp [h]
theorem exB_object {y : Nd} (h : y.k=9) : exB y=(y.ks.all prB && plainT y.t y.n):=by
 rw [exB_eq (r:=⟨0,0,[],10⟩) (by rw [h];rfl) (by rw [h];rfl) (by unfold agreesP;rw [h];rfl),hd0,plainT_eq,fitsR 10 prB fits10,Bool.and_comm (y.ks.all prB)]
 simp
def bodyB (l : List Nd) : Bool:=!decide (l.length < 3) && fitsL false [12,106,52] 0 l
theorem exB_func {y : Nd} (h : y.k=11) : exB y=(plainT y.t y.n && bodyB y.ks):=by
 rw [exB_eq (r:=⟨0,0,[12,106,52],0⟩) (by rw [h];rfl) (by rw [h];rfl) (by unfold agreesP;rw [h];rfl),hd0,plainT_eq,Bool.and_assoc]
 rfl
theorem fits103 (y : Nd) : fitsP false 103 y=(exB y && ((y.k == 6) || (y.k == 21) || (y.k == 22))):=by
 rw [fitsP_eq,if_neg (by omega)]
 show (((y.k == 6) || (y.k == 21) || (y.k == 22)) && wholeP false y)=_
 by_cases h : y.k=6 ∨ y.k=21 ∨ y.k=22
 ·have e : exB y=wholeP false y:=by
   unfold exB
   rw [show formK y.k=1 by rcases h with h | h | h <;> rw [h] <;> rfl]
   rfl
  rw [e,Bool.and_comm]
 ·have e : ((y.k == 6) || (y.k == 21) || (y.k == 22))=false:=by simp;omega
  rw [e]
  simp
theorem exB_assign {y : Nd} (h : y.k=18) : exB y=(plainT y.t y.n && (!decide (y.ks.length < 2) && fitsL false [103,101] 0 y.ks)):=by
 rw [exB_eq (r:=⟨0,0,[103,101],0⟩) (by rw [h];rfl) (by rw [h];rfl) (by unfold agreesP;rw [h];rfl),hd0,plainT_eq,Bool.and_assoc]
 rfl
theorem fits_a0 (l : List Nd) (h : l.length ≠ 2) : (!decide (l.length < 2) && fitsL false [103,101] 0 l)=false:=by
 rcases l with _ | ⟨a,_ | ⟨b,_ | ⟨c,l⟩⟩⟩
 ·rfl
 ·simp
 ·simp at h
 ·rw [fitsC,fitsC,fitsN,lenF _ 0 (by simp;omega)];simp
theorem fits_a2 (a b : Nd) : (!decide ([a,b].length < 2) && fitsL false [103,101] 0 [a,b])=([a,b].all exB && ((a.k == 6) || (a.k == 21) || (a.k == 22))):=by
 rw [fitsC,fitsC,fitsN,fits103,fits101]
 simp only [List.all_cons,List.all_nil]
 generalize exB a=ea
 generalize exB b=eb
 cases ea <;> cases eb <;> simp
theorem ex_none (k : Int) (h : formK k ≠ 1) (t : ByteArray) (n : Int) (a : Option Addr) (len c : Nat) (w : World) :
 Calls Tryz.prog 38 #[nv k t n a len c] w fun e w'=>e = .returned (.bool false)∧Below w.heap.size w w':=by
 have hh : ¬ (k=1 ∨ k=2 ∨ k=3 ∨ k=4 ∨ k=5 ∨ k=6 ∨ k=7 ∨ k=8 ∨ k=9 ∨ k=11 ∨ k=15 ∨ k=16 ∨ k=17 ∨ k=18 ∨ k=19 ∨ k=20 ∨ k=21 ∨ k=22):=fun e=>h (by unfold formK;rw [if_pos e])
 simp only [not_or] at hh
 obtain ⟨h1,h2,h3,h4,h5,h6,h7,h8,h9,h11,h15,h16,h17,h18,h19,h20,h21,h22⟩:=hh
 clear h
 go_enter Tryz.func38,Tryz.ntmps38
 go_wp2
 go_ret
 exact ⟨rfl,bel_a _ _⟩
theorem form1 {k : Int} (h : formK k=1) : k=1 ∨ k=2 ∨ k=3 ∨ k=4 ∨ k=5 ∨ k=6 ∨ k=7 ∨ k=8 ∨ k=9 ∨ k=11 ∨ k=15 ∨ k=16 ∨ k=17 ∨ k=18 ∨ k=19 ∨ k=20 ∨ k=21 ∨ k=22:=by
 by_cases e : k=1 ∨ k=2 ∨ k=3 ∨ k=4 ∨ k=5 ∨ k=6 ∨ k=7 ∨ k=8 ∨ k=9 ∨ k=11 ∨ k=15 ∨ k=16 ∨ k=17 ∨ k=18 ∨ k=19 ∨ k=20 ∨ k=21 ∨ k=22
 ·exact e
 ·exfalso
  unfold formK at h
  rw [if_neg e] at h
  split at h
  ·omega
  ·split at h
   ·omega
   ·split at h
    ·omega
    ·split at h
     ·omega
     ·split at h <;> omega
theorem two_of (l : List Nd) (h : l.length=2) : ∃ u v,l=[u,v]:=by
 rcases l with _ | ⟨a,_ | ⟨b,_ | ⟨c,l⟩⟩⟩
 ·simp at h
 ·simp at h
 ·exact ⟨a,b,rfl⟩
 ·simp at h
theorem ec_step (y : Nd) (zy : y.size ≤ 4194304) (ty : y.tx) (hE : ∀ z ∈ y.ks,EC z) (hE2 : ∀ z ∈ y.ks,∀ u ∈ z.ks,EC u)
 (hB : ∀ (w : World) (S : Nat→Prop) (a : Option Addr) (c : Nat),LAt w S (.slice a y.ks.length c) y.ks→BC w (.slice a y.ks.length c) (bodyB y.ks)) : EC y:=by
 intro w S a c hx
 have zs:=y.size_eq
 have lx:=sizes_len y.ks
 have ll : y.ks.length ≤ 4194304:=by omega
 have tt : y.t.size ≤ 4194304:=Nd.tx_own ty
 have XE : Hid (XC w (.slice a y.ks.length c) (y.ks.all exB)):=fun W b=>exprs_any y.ks hE ll W S _ (hx.bel b)
 by_cases hf : formK y.k=1
 ·rcases form1 hf with h | h | h | h | h | h | h | h | h | h | h | h | h | h | h | h | h | h
  ·rw [exB_num h,h];exact ex_num _ _ _ _ _ _
  ·rw [exB_text h,h];exact ex_text _ _ _ _ _ _ tt
  ·rw [exB_bool h,h];exact ex_bool _ _ _ _ _ _
  ·rw [exB_plain (.inl h),h];exact ex_plain _ (.inl rfl) _ _ _ _ _ _
  ·rw [exB_plain (.inr (.inl h)),h];exact ex_plain _ (.inr (.inl rfl)) _ _ _ _ _ _
  ·rw [exB_name h,h];exact ex_name _ _ _ _ _ _ tt
  ·rw [exB_plain (.inr (.inr h)),h];exact ex_plain _ (.inr (.inr rfl)) _ _ _ _ _ _
  ·rw [exB_array h,h];exact ex_array _ _ _ _ _ _ _ XE
  ·rw [exB_object h,h];exact ex_object _ _ _ hE2 (fun z hz=>Nd.tx_own (Nd.tx_kid ty hz)) ll _ _ _ S hx
  ·rw [exB_func h,h];exact ex_func _ _ _ _ _ _ _ (hB w S a c hx)
  ·rw [exB_unary h,h,← Bool.and_assoc];exact ex_unary _ _ _ _ _ _ _ XE
  ·rw [exB_binary h,h,← Bool.and_assoc];exact ex_binary _ _ _ _ _ _ _ XE
  ·rw [exB_cond h,h,← Bool.and_assoc];exact ex_cond _ _ _ _ _ _ _ XE
  ·rw [exB_assign h,h]
   by_cases h2 : y.ks.length=2
   ·obtain ⟨u,v,huv⟩:=two_of y.ks h2
    rw [huv] at hx XE ⊢
    rw [fits_a2,← Bool.and_assoc]
    obtain ⟨ax,cx,bx,ox,fx,e,px,qx,rx⟩:=hx.op
    obtain ⟨rfl,rfl⟩ : a=ax∧c=cx:=by injection e with e1 e2 e3;exact ⟨e1,e3⟩
    obtain ⟨rfl,hS,hb⟩:=px (by simp)
    have q:=qx 0 (by simp)
    have r:=rx 0 (by simp)
    refine ex_assign2 _ _ bx ox c w _ u.k XE fun W b=>?_
    have:=(kid_at (k:=0) q r hb b).1.1
    simpa using this
   ·rw [fits_a0 _ h2,Bool.and_false]
    exact ex_assign0 _ _ _ _ _ _ (lenF _ 2 (by omega))
  ·rw [exB_call h,h,← Bool.and_assoc];exact ex_call _ _ _ _ _ _ _ XE
  ·rw [exB_new h,h];exact ex_new _ _ _ _ _ _ _ XE tt
  ·rw [exB_member h,h,← Bool.and_assoc];exact ex_member _ _ _ _ _ _ _ XE tt
  ·rw [exB_index h,h,← Bool.and_assoc];exact ex_index _ _ _ _ _ _ _ XE
 ·have e : exB y=false:=by unfold exB;simp [hf]
  rw [e]
  exact ex_none _ hf _ _ _ _ _ _
end Go.Proofs.YtfcocoadaajbjaaGreatDoor
namespace Go.Proofs.YtfcocoadaajbjaaGreatDoor
open Go.RowKit
theorem none' (k : Int) (t : ByteArray) (n : Int) (a : Option Addr) (len c : Nat) (w : World) :
 Calls Tryz.prog 74 #[nv k t n a len c] w fun e w'=>e = .returned (.bool ((k == 14) && plainT t n && ((len : Int) == 0)))∧Below w.heap.size w w':=by
 have C1:=plain' k t n a len c
 have C2:=bare' k t n a len c
 generalize plainT t n=p at *
 generalize ((len : Int) == 0)=q at *
 have X0 : (w.alloc (Obj.cells #[.int .i64 k,.string t,.int .i64 n,.slice a len c] 24)).heap[w.heap.size]?=some (.cells #[.int .i64 k,.string t,.int .i64 n,.slice a len c] 24 (0,0)):=hnew _ rfl
 have kp : Hid (∀ W',Below (w.heap.size+1) (w.alloc (Obj.cells #[.int .i64 k,.string t,.int .i64 n,.slice a len c] 24)) W'→(NqZ W' w.heap.size k t n a len c)):=fun W' b=>(box4 ((b.block _ (by omega)).trans X0)).1
 clear X0
 go_enter Tryz.func74,Tryz.ntmps74
 by_cases h : k=14
 ·subst h
  cases p with
  | false =>
   go_wp2_with (go_at_call 42;refine (C1 _).mono ?_;rintro e W1 ⟨rfl,b1⟩)
   go_ret
   exact ⟨ret_b rfl,(bel_a w _).trans (b1.mono (by simp))⟩
  | true =>
   go_wp2_with (first
    | (go_at_call 42;refine (C1 _).mono ?_;rintro e W1 ⟨rfl,b1⟩;obtain ⟨_,_,_,_⟩:=kp.out _ (b1.mono (by simp)))
    | (go_at_call 65;refine (C2 _).mono ?_;rintro e W2 ⟨rfl,b2⟩))
   go_ret
   exact ⟨ret_b rfl,((bel_a w _).trans (b1.mono (by simp))).trans (b2.mono (by have:=b1.size;simp at this;omega))⟩
 ·go_wp2
  go_ret
  exact ⟨ret_b (by simp [h]),bel_a _ _⟩
def noB (y : Nd) : Bool:=(y.k == 14) && plainT y.t y.n && ((y.ks.length : Int) == 0)
def toB (y : Nd) : Bool:=noB y || tyB y
def blB (y : Nd) : Bool:=(y.k == 52) && stB y
theorem typeOr_any (y : Nd) (hT : TC y) (w : World) (S : Nat→Prop) (a : Option Addr) (c : Nat) (hx : LAt w S (.slice a y.ks.length c) y.ks) :
 Calls Tryz.prog 72 #[nv y.k y.t y.n a y.ks.length c] w fun e w'=>e = .returned (.bool (toB y))∧Below w.heap.size w w':=by
 have C1 : ∀ W,Calls Tryz.prog 74 #[nv y.k y.t y.n a y.ks.length c] W fun e w'=>e = .returned (.bool (noB y))∧Below W.heap.size W w':=fun W=>none' y.k y.t y.n a y.ks.length c W
 have C2 : Hid (∀ W,Below w.heap.size w W→Calls Tryz.prog 39 #[nv y.k y.t y.n a y.ks.length c] W fun e w'=>e = .returned (.bool (tyB y))∧Below W.heap.size W w'):=fun W b=>hT W S a c (hx.bel b)
 have ht : Hid (toB y=(noB y || tyB y)):=rfl
 clear hT hx
 generalize toB y=r at *
 generalize noB y=p at *
 generalize tyB y=q at *
 generalize y.k=k at *
 generalize y.t=t at *
 generalize y.n=n at *
 generalize y.ks.length=len at *
 have X0 : (w.alloc (Obj.cells #[.int .i64 k,.string t,.int .i64 n,.slice a len c] 24)).heap[w.heap.size]?=some (.cells #[.int .i64 k,.string t,.int .i64 n,.slice a len c] 24 (0,0)):=hnew _ rfl
 have kp : Hid (∀ W',Below (w.heap.size+1) (w.alloc (Obj.cells #[.int .i64 k,.string t,.int .i64 n,.slice a len c] 24)) W'→(NqZ W' w.heap.size k t n a len c)):=fun W' b=>(box4 ((b.block _ (by omega)).trans X0)).1
 clear X0
 go_enter Tryz.func72,Tryz.ntmps72
 cases p with
 | true =>
  obtain rfl : r=true:=ht.out
  go_wp2_with (go_at_call 74;refine (C1 _).mono ?_;rintro e W1 ⟨rfl,b1⟩)
  go_ret
  exact ⟨ret_b rfl,(bel_a w _).trans (b1.mono (by simp))⟩
 | false =>
  obtain rfl : r=q:=by rw [ht.out];simp
  go_wp2_with (first
   | (go_at_call 74;refine (C1 _).mono ?_;rintro e W1 ⟨rfl,b1⟩;obtain ⟨_,_,_,_⟩:=kp.out _ (b1.mono (by simp)))
   | (go_at_call 39;refine (C2.out _ ((bel_a w _).trans (b1.mono (by simp)))).mono ?_;rintro e W2 ⟨rfl,b2⟩))
  go_ret
  exact ⟨ret_b rfl,((bel_a w _).trans (b1.mono (by simp))).trans (b2.mono (by have:=b1.size;simp at this;omega))⟩
theorem block_anyG (y : Nd) (hT : SC y) (w : World) (S : Nat→Prop) (a : Option Addr) (c : Nat) (hx : LAt w S (.slice a y.ks.length c) y.ks) :
 Calls Tryz.prog 73 #[nv y.k y.t y.n a y.ks.length c] w fun e w'=>e = .returned (.bool (blB y))∧Below w.heap.size w w':=by
 have C2 : Hid (∀ W,Below w.heap.size w W→Calls Tryz.prog 40 #[nv y.k y.t y.n a y.ks.length c] W fun e w'=>e = .returned (.bool (stB y))∧Below W.heap.size W w'):=fun W b=>hT W S a c (hx.bel b)
 have ht : Hid (blB y=((y.k == 52) && stB y)):=rfl
 clear hT hx
 generalize blB y=r at *
 generalize stB y=q at *
 generalize y.k=k at *
 generalize y.t=t at *
 generalize y.n=n at *
 generalize y.ks.length=len at *
 go_enter Tryz.func73,Tryz.ntmps73
 by_cases h : k=52
 ·subst h
  obtain rfl : r=q:=by rw [ht.out];simp
  go_wp2_with (go_at_call 40;refine (C2.out _ (bel_a w _)).mono ?_;rintro e W2 ⟨rfl,b2⟩)
  go_ret
  exact ⟨ret_b rfl,(bel_a w _).trans (b2.mono (by simp))⟩
 ·obtain rfl : r=false:=by rw [ht.out];simp [h]
  go_wp2
  go_ret
  exact ⟨ret_b rfl,bel_a _ _⟩
end Go.Proofs.YtfcocoadaajbjaaGreatDoor
namespace Go.Proofs.YtfcocoadaajbjaaGreatDoor
open Go.RowKit
def unB (y : Nd) : Bool:=tyB y && (y.k != 32)
def opB (y : Nd) : Bool:=(y.k == 34) && (y.n == 0) && propT false y.t.data.toList && ((y.ks.length : Int) == 1) && y.ks.all tyB
def ptB (typed : Bool) (z : Nd) : Bool:=toB z && !(typed && noB z)
def pmB (typed : Bool) (y : Nd) : Bool:=(y.k == 13) && (y.n == 0) && idT false y.t && ((y.ks.length : Int) == 1) && y.ks.all (ptB typed)
def paB (typed : Bool) (y : Nd) : Bool:=(y.k == 12) && (plainT y.t y.n && y.ks.all (pmB typed) && unlikeB y.ks)
end Go.Proofs.YtfcocoadaajbjaaGreatDoor
namespace Go.Proofs.YtfcocoadaajbjaaGreatDoor
open Go.RowKit
theorem info_str : (Tryz.prog.info? 9).map (fun i=>(i.zero,i.size,i.bytes))=some (some (.string ByteArray.empty),1,16):=by kernel_rfl
def nmL (l : List Nd) : List (List UInt8):=l.map fun x=>x.t.data.toList
theorem nmL_len (l : List Nd) : (nmL l).length=l.length:=by simp [nmL]
theorem nmL_app (l : List Nd) (y : Nd) : nmL (l ++ [y])=nmL l ++ [y.t.data.toList]:=by simp [nmL]
theorem textC_app (L : List (List UInt8)) (b : ByteArray) : textC (L ++ [b.data.toList])=textC L ++ [.string b]:=by
 simp [textC]
theorem tx_own {w : World} {base g c : Nat} {L : List (List UInt8)} (h : w.ownsRow base 9 1 (.slice (some ⟨g,0,none⟩) L.length c) L.length (textC L)) : TxAt w g L:=by
 refine ⟨fun k hk=>?_⟩
 rw [h.cellAt k (by omega)]
 simp [textC,List.getElem?_eq_getElem hk]
theorem in_nil (w : World) (s : ByteArray) (a : Option Addr) (c : Nat) :
 Calls Tryz.prog 70 #[.string s,.slice a 0 c] w fun e w'=>e = .returned (.bool false)∧w'=w:=by
 go_enter Tryz.func70,Tryz.ntmps70
 go_wp2
 go_loopw [5] (fun i wr=>i = .int .i64 0∧wr=w) (fun i _=>0)
 case atStart=>exact ⟨rfl,rfl⟩
 case round =>
  obtain ⟨rfl,rfl⟩:=hrel
  go_wp2
  go_ret
  exact ⟨rfl,rfl⟩
theorem in_own (w : World) (s : ByteArray) (v : Value) (base : Nat) (L : List (List UInt8)) (k : Nat) (hk : L.length=k) (h : w.ownsRow base 9 1 v k (textC L)) (hl : k ≤ 4194304) :
 Calls Tryz.prog 70 #[.string s,v] w fun e w'=>e = .returned (.bool (decide (s.data.toList ∈ L)))∧w'=w:=by
 subst hk
 rcases h.2 with ⟨rfl,h0⟩ | ⟨g,cap,cur,rfl,_⟩
 ·obtain rfl:=List.length_eq_zero_iff.1 h0
  simpa using in_nil w s none 0
 ·exact in_any w s g cap L (tx_own h) hl
theorem unlike_no {l : List Nd} {k : Nat} (hk : k < l.length) (h : l[k].t.data.toList ∈ nmL (l.take k)) : unlikeB l=false:=by
 unfold unlikeB
 refine decide_eq_false fun hn=>?_
 have e : l=l.take k ++ l[k] :: l.drop (k+1):=by simp
 have hn' : (nmL l).Nodup:=hn
 rw [e] at hn'
 have e2 : ∀ (A B : List Nd) (y : Nd),nmL (A ++ y :: B)=nmL A ++ y.t.data.toList :: nmL B:=fun A B y=>by simp [nmL]
 rw [e2,List.nodup_append] at hn'
 exact hn'.2.2 _ h _ (List.mem_cons_self) rfl
theorem unlike_next {L : List (List UInt8)} {b : List UInt8} (h : L.Nodup) (hb : b ∉ L) : (L ++ [b]).Nodup:=by
 rw [List.nodup_append]
 refine ⟨h,by simp,fun x hx y hy e=>?_⟩
 obtain rfl : y=b:=by simpa using hy
 exact hb (e ▸ hx)
end Go.Proofs.YtfcocoadaajbjaaGreatDoor
