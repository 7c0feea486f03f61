/- Own text. Which trees are exports of types from elsewhere: the document's answer. Items: the document's way of saying it and ours are one. Which trees are items: the document's answer. -/
import Derived.Test.YtfcocoadaajbjaaGreatDoorGd43
import Derived.Test.YtfcocoadaajbjaaGreatDoorGd39
import Derived.Test.YtfcocoadaajbjaaGreatDoorGd41
import Derived.Test.YtfcocoadaajbjaaGreatDoorGd37
set_option linter.unusedVariables false
set_option linter.unusedSimpArgs false
namespace Go.Proofs.YtfcocoadaajbjaaGreatDoor
open Go.RowKit
end Go.Proofs.YtfcocoadaajbjaaGreatDoor
set_option linter.unusedVariables false
set_option linter.unusedSimpArgs false
set_option maxRecDepth 100000
set_option maxHeartbeats 8000000
namespace Go.Proofs.YtfcocoadaajbjaaGreatDoor
open Go.RowKit
def itB (y : Nd) : Bool:=((formK y.k == 3) || (formK y.k == 4)) && wholeP false y
theorem fits6 (y : Nd) : fitsP false 6 y=naB false y:=by
 rw [fits_kind 6 (by omega)]
 unfold naB
 by_cases h : y.k=6
 ·rw [whole_at (r:=⟨1,0,[],0⟩) h rfl,show agreesP false y=true by unfold agreesP;rw [h];rfl,Bool.and_true,hd0,fitsN,h]
  show (_ && (idT false y.t && (y.n == 0) && !decide (y.ks.length < 0) && _))=_
  generalize idT false y.t=a
  generalize (y.n == 0)=b
  generalize ((y.ks.length : Int) == 0)=c
  cases a <;> cases b <;> cases c <;> simp
 ·rw [show (y.k == 6)=false by simpa using h]
  rfl
theorem fits67 (y : Nd) : fitsP false 67 y=spB y:=by
 rw [fits_kind 67 (by omega)]
 unfold spB
 by_cases h : y.k=67
 ·rw [whole_at (r:=⟨2,0,[6],0⟩) h rfl,show agreesP false y=true by unfold agreesP;rw [h];rfl,Bool.and_true,hd0,Bool.and_assoc]
  rw [show (!decide (y.ks.length < [(6 : Int)].length) && fitsL false [6] 0 y.ks)=_ from l1_all 6 (naB false) fits6 _]
  show (_ && (propT false y.t.data.toList && (y.n == 0) && _))=_
  generalize propT false y.t.data.toList=a
  generalize (y.n == 0)=b
  cases a <;> cases b <;> simp [h]
 ·rw [show (y.k == 67)=false by simpa using h]
  rfl
theorem space_whole {y : Nd} (h : y.k=66) : wholeP false y=(idT false y.t && (y.n == 0) && y.ks.all spB):=by
 rw [whole_at (r:=⟨1,0,[],67⟩) h rfl,show agreesP false y=true by unfold agreesP;rw [h];rfl,Bool.and_true,hd0,fitsR 67 spB fits67]
 show (idT false y.t && (y.n == 0) && !decide (y.ks.length < 0) && _)=_
 simp
theorem fits61 (y : Nd) : fitsP false 61 y=imB y:=by
 rw [fits_kind 61 (by omega)]
 unfold imB
 by_cases h : y.k=61
 ·rw [whole_at (r:=⟨4,0,[6],0⟩) h rfl,show agreesP false y=true by unfold agreesP;rw [h];rfl,Bool.and_true,hd0,Bool.and_assoc]
  rw [show (!decide (y.ks.length < [(6 : Int)].length) && fitsL false [6] 0 y.ks)=_ from l1_all 6 (naB false) fits6 _]
  show (_ && ((propT false y.t.data.toList || (y.t.toList == [42])) && (y.n == 0) && _))=_
  generalize propT false y.t.data.toList=a
  generalize (y.n == 0)=b
  generalize (y.t.toList == [42])=d
  generalize y.ks.all (naB false)=f
  generalize ((y.ks.length : Int) == 1)=g
  cases a <;> cases b <;> cases d <;> cases f <;> cases g <;> simp [h]
 ·rw [show (y.k == 61)=false by simpa using h]
  rfl
theorem import_whole {y : Nd} (h : y.k=60) : wholeP false y=(validL y.t.data.toList && ((y.n == 0) || (y.n == 1)) && (y.ks.all imB && imS y.ks y.n)):=by
 rw [whole_at (r:=⟨6,1,[],61⟩) h rfl,show agreesP false y=importS y by unfold agreesP;rw [h];rfl,imS_eq,hd1,fitsR 61 imB fits61]
 show (validL y.t.data.toList && _ && !decide (y.ks.length < 0) && _ && _)=_
 simp [Bool.and_assoc]
theorem fits114 (z : Nd) : fitsP false 114 z=(noB z || naB true z):=by
 rw [fitsP_eq]
 by_cases h : z.k=6
 ·rw [if_pos ⟨rfl,h⟩]
  have e : noB z=false:=by unfold noB;rw [h];rfl
  rw [e]
  unfold folP propR naB
  rw [hd0,fitsN,h]
  show (propT false z.t.data.toList && (z.n == 0) && !decide (z.ks.length < 0) && _)=_
  unfold idT
  generalize propT false z.t.data.toList=a
  generalize (z.n == 0)=b
  generalize ((z.ks.length : Int) == 0)=c
  generalize isW z.t=d
  cases a <;> cases b <;> cases c <;> cases d <;> simp
 ·rw [if_neg (fun e=>h e.2)]
  have e : naB true z=false:=by unfold naB;rw [show (z.k == 6)=false by simpa using h];rfl
  rw [e,Bool.or_false]
  show ((z.k == 14) && wholeP false z)=_
  by_cases h2 : z.k=14
  ·rw [whole14 h2,h2]
   simp
  ·unfold noB
   rw [show (z.k == 14)=false by simpa using h2]
   rfl
theorem no_text {z : Nd} (h : noB z=true) : z.t.toList=[]:=by
 unfold noB plainT at h
 simp only [Bool.and_eq_true] at h
 simpa using h.1.2.1
theorem fits65 (y : Nd) : fitsP false 65 y=(foB y && ((y.t.toList == [42]) || propT false y.t.data.toList)):=by
 rw [fits_kind 65 (by omega)]
 unfold foB
 by_cases h : y.k=65
 ·rw [whole_at (r:=⟨4,0,[114],0⟩) h rfl,show agreesP false y=firstText y.ks y.t by unfold agreesP;rw [h];rfl,hd0,Bool.and_assoc (saysT false 4 y.t && (y.n == 0))]
  rw [show (!decide (y.ks.length < [(114 : Int)].length) && fitsL false [114] 0 y.ks)=_ from l1_all 114 _ fits114 _]
  show (_ && ((propT false y.t.data.toList || (y.t.toList == [42])) && (y.n == 0) && _ && _))=_
  have key : ((propT false y.t.data.toList || (y.t.toList == [42])) && ((((y.ks.length : Int) == 1) && y.ks.all fun z=>noB z || naB true z) && firstText y.ks y.t))=(((((y.ks.length : Int) == 1) && y.ks.all (fun z=>noB z || (naB true z && !(z.t.toList == y.t.toList))))) && ((y.t.toList == [42]) || propT false y.t.data.toList)):=by
   by_cases h1 : y.ks.length=1
   ·obtain ⟨z,hz⟩:=one_of y.ks h1
    rw [hz]
    show (_ && ((true && ((noB z || naB true z) && true)) && (z.t.toList != y.t.toList)))=((true && ((noB z || (naB true z && !(z.t.toList == y.t.toList))) && true)) && _)
    cases hn : noB z with
    | false =>
     generalize propT false y.t.data.toList=a
     generalize (y.t.toList == [42])=d
     generalize naB true z=f
     simp only [bne]
     generalize (z.t.toList == y.t.toList)=g
     cases a <;> cases d <;> cases f <;> cases g <;> rfl
    | true =>
     rw [no_text hn]
     cases ht : y.t.toList with
     | nil =>
      have e : propT false y.t.data.toList=false:=by rw [← bytes_toList,ht];exact prop_nil
      rw [e]
      rfl
     | cons b l =>
      have e1 : (([] : List UInt8) != b :: l)=true:=rfl
      rw [e1]
      generalize propT false y.t.data.toList=a
      generalize ((b :: l) == [(42 : UInt8)])=d
      cases a <;> cases d <;> rfl
   ·have e : ((y.ks.length : Int) == 1)=false:=lenF _ 1 (by omega)
    rw [e]
    simp
  have h2 : (y.k == 65)=true:=by rw [h];rfl
  rw [h2]
  cases hn : (y.n == 0) with
  | false=>simp
  | true =>
   simp only [Bool.and_true,Bool.true_and]
   rw [Bool.and_assoc]
   exact key
 ·rw [show (y.k == 65)=false by simpa using h]
  rfl
def exS (l : List Nd) (t : ByteArray) (n : Int) : Bool:=if 0 ≤ starN l then ((l.length : Int) == 1) && (t.toList != []) && (n == 0) else (t.toList != []) || l.all fun y=>idT false y.t
theorem exS_eq (x : Nd) : exportS false x=exS x.ks x.t x.n:=rfl
theorem star_has {l : List Nd} (h : 0 ≤ starN l) : ∃ z ∈ l,(z.t.toList == [42])=true:=by
 by_cases hn : ∀ z ∈ l,(z.t.toList == [42])=false
 ·rw [starN_none hn] at h
  omega
 ·simp only [Classical.not_forall] at hn
  obtain ⟨z,hz,e⟩:=hn
  exact ⟨z,hz,by simpa using e⟩
theorem star_not {l : List Nd} (h : ¬ 0 ≤ starN l) : ∀ z ∈ l,(z.t.toList == [42])=false:=by
 intro z hz
 cases hs : (z.t.toList == [42]) with
 | false=>rfl
 | true =>
  exfalso
  apply h
  unfold starN starI
  cases hf : l.findIdx? (fun y=>y.t.toList == [42]) with
  | none =>
   rw [List.findIdx?_eq_none_iff] at hf
   have:=hf z hz
   rw [hs] at this
   cases this
  | some k=>show (0 : Int) ≤ k;omega
theorem from_eq (l : List Nd) (t : ByteArray) (n : Int) (h0 : 0 < l.length) : ((l.all fun y=>fitsP false 65 y) && exS l t n)=l.all (elB l.length t n):=by
 rw [Bool.eq_iff_iff,Bool.and_eq_true,List.all_eq_true,List.all_eq_true]
 unfold exS
 by_cases hs : 0 ≤ starN l
 ·rw [if_pos hs]
  obtain ⟨s,hsm,hss⟩:=star_has hs
  constructor
  ·rintro ⟨h1,h2⟩ y hy
   simp only [Bool.and_eq_true] at h2
   have hl : l.length=1:=by have:=h2.1.1;simp at this;omega
   obtain ⟨u,hu⟩:=one_of l hl
   have e : y=s:=by rw [hu] at hy hsm;simp at hy hsm;rw [hy,hsm]
   have h3:=h1 y hy
   rw [fits65,Bool.and_eq_true] at h3
   unfold elB
   rw [h3.1,e,if_pos hss,hl,show (!(t.toList == []))=true from h2.1.2,h2.2]
   rfl
  ·intro h
   have h1:=h s hsm
   unfold elB at h1
   rw [if_pos hss] at h1
   simp only [Bool.and_eq_true,decide_eq_true_eq] at h1
   obtain ⟨h2,⟨h3,h4⟩,h5⟩:=h1
   have hl : l.length=1:=by omega
   obtain ⟨u,hu⟩:=one_of l hl
   refine ⟨fun y hy=>?_,?_⟩
   ·have e : y=s:=by rw [hu] at hy hsm;simp at hy hsm;rw [hy,hsm]
    rw [fits65,e,h2,hss]
    rfl
   ·rw [hl,show (t.toList != [])=true from h4,h5]
    rfl
 ·rw [if_neg hs]
  have hn:=star_not hs
  have e1 : ∀ y ∈ l,fitsP false 65 y=(foB y && propT false y.t.data.toList):=fun y hy=>by rw [fits65,hn y hy,Bool.false_or]
  have e2 : ∀ y ∈ l,elB l.length t n y=(foB y && (propT false y.t.data.toList && (!(t.toList == []) || idT false y.t))):=fun y hy=>by unfold elB;rw [if_neg (by rw [hn y hy];decide)]
  constructor
  ·rintro ⟨h1,h2⟩ y hy
   have h3:=h1 y hy
   rw [e1 y hy,Bool.and_eq_true] at h3
   rw [e2 y hy,h3.1,h3.2]
   rw [Bool.or_eq_true] at h2
   rcases h2 with h2 | h2
   ·rw [show (!(t.toList == []))=true from h2]
    rfl
   ·rw [List.all_eq_true.1 h2 y hy]
    simp
  ·intro h
   refine ⟨fun y hy=>?_,?_⟩
   ·have h3:=h y hy
    rw [e2 y hy] at h3
    simp only [Bool.and_eq_true] at h3
    rw [e1 y hy,h3.1,h3.2.1]
    rfl
   ·cases ht : (t.toList != []) with
    | true=>rfl
    | false =>
     rw [Bool.false_or,List.all_eq_true]
     intro y hy
     have h3:=h y hy
     rw [e2 y hy,show (!(t.toList == []))=false from ht] at h3
     simp only [Bool.and_eq_true,Bool.false_or] at h3
     exact h3.2.2
theorem fitsL65 (l : List Nd) : fitsL false [65] 65 l=l.all fun y=>fitsP false 65 y:=by
 rcases l with _ | ⟨a,l⟩
 ·rw [fitsL_nil];rfl
 ·rw [fitsC,fitsR 65 (fun y=>fitsP false 65 y) (fun _=>rfl)];rfl
theorem from_whole {y : Nd} (h : y.k=64) : wholeP false y=(validL y.t.data.toList && ((y.n == 0) || (y.n == 1)) && (decide (0 < y.ks.length) && y.ks.all (elB y.ks.length y.t y.n))):=by
 rw [whole_at (r:=⟨6,1,[65],65⟩) h rfl,show agreesP false y=exportS false y by unfold agreesP;rw [h];rfl,exS_eq,hd1,fitsL65]
 show (validL y.t.data.toList && ((y.n == 0) || (y.n == 1)) && !decide (y.ks.length < 1) && _ && _)=_
 by_cases h0 : 0 < y.ks.length
 ·rw [← from_eq _ _ _ h0,show (!decide (y.ks.length < 1))=true by rw [decide_eq_false (by omega)];rfl,show decide (0 < y.ks.length)=true from decide_eq_true h0]
  simp [Bool.and_assoc]
 ·rw [show (!decide (y.ks.length < 1))=false by rw [decide_eq_true (by omega)];rfl,show decide (0 < y.ks.length)=false from decide_eq_false h0]
  simp
theorem alias_whole {y : Nd} (h : y.k=46) : wholeP false y=(idT false y.t && (y.n == 0) && (!decide (y.ks.length < 1) && fitsL false [104] 0 y.ks)):=by
 rw [whole_at (r:=⟨1,0,[104],0⟩) h rfl,show agreesP false y=true by unfold agreesP;rw [h];rfl,Bool.and_true,hd0,Bool.and_assoc]
 rfl
theorem export_whole {y : Nd} (h : y.k=62) : wholeP false y=(plainT y.t y.n && (!decide (y.ks.length < 1) && fitsL false [111] 0 y.ks)):=by
 rw [whole_at (r:=⟨0,0,[111],0⟩) h rfl,show agreesP false y=true by unfold agreesP;rw [h];rfl,Bool.and_true,hd0,plainT_eq,Bool.and_assoc]
 rfl
theorem default_whole {y : Nd} (h : y.k=63) : wholeP false y=(plainT y.t y.n && (!decide (y.ks.length < 1) && fitsL false [112] 0 y.ks)):=by
 rw [whole_at (r:=⟨0,0,[112],0⟩) h rfl,show agreesP false y=true by unfold agreesP;rw [h];rfl,Bool.and_true,hd0,plainT_eq,Bool.and_assoc]
 rfl
theorem fits111 (z : Nd) : fitsP false 111 z=(((z.k == 40) || (z.k == 41) || (z.k == 42) || (z.k == 46)) && itB z):=by
 rw [fitsP_eq,if_neg (by omega)]
 show (((z.k == 40) || (z.k == 41) || (z.k == 42) || (z.k == 46)) && wholeP false z)=_
 unfold itB
 by_cases h : z.k=40 ∨ z.k=41 ∨ z.k=42 ∨ z.k=46
 ·rw [show ((formK z.k == 3) || (formK z.k == 4))=true by rcases h with h | h | h | h <;> rw [h] <;> rfl,Bool.true_and]
 ·have e : ((z.k == 40) || (z.k == 41) || (z.k == 42) || (z.k == 46))=false:=by simp;omega
  rw [e]
  rfl
theorem fits112 (z : Nd) : fitsP false 112 z=(exB z || (((z.k == 41) || (z.k == 42)) && itB z)):=by
 rw [fitsP_eq,if_neg (by omega)]
 show (((formK z.k == 1) || (z.k == 41) || (z.k == 42)) && wholeP false z)=_
 unfold itB exB
 by_cases h : z.k=41 ∨ z.k=42
 ·rw [show ((formK z.k == 3) || (formK z.k == 4))=true by rcases h with h | h <;> rw [h] <;> rfl,show (formK z.k == 1)=false by rcases h with h | h <;> rw [h] <;> rfl]
  simp
 ·have e : ((z.k == 41) || (z.k == 42))=false:=by simp;omega
  rw [Bool.or_assoc,e]
  simp
theorem it_four {y : Nd} (h : formK y.k=4) : itB y=wholeP false y:=by
 unfold itB
 rw [h]
 rfl
theorem it_rest {y : Nd} (h : formK y.k ≠ 4) : itB y=stB y:=by
 unfold itB stB
 rw [show (formK y.k == 4)=false by simpa using h,Bool.or_false]
end Go.Proofs.YtfcocoadaajbjaaGreatDoor
namespace Go.Proofs.YtfcocoadaajbjaaGreatDoor
open Go.RowKit
theorem it_alias (t : ByteArray) (n : Int) (b o c : Nat) (w : World) (z0k : Int) (z0t : ByteArray) (z0n : Int) (z0a : Option Addr) (z0l z0c : Nat) (HZ0 : Hid (KC w b (o+0) z0k z0t z0n z0a z0l z0c)) (p1 : Bool) (C1 : Hid (QC 13 w (.string t) p1)) (p2 : Bool) (C2 : Hid (QC 39 w (nv z0k z0t z0n z0a z0l z0c) p2)) :
 Calls Tryz.prog 41 #[nv 46 t n (some ⟨b,o,none⟩) 1 c] w fun e w'=>e = .returned (.bool (p1 && (n == 0) && p2))∧Below w.heap.size w w':=by
 have bel0 : Below w.heap.size w (w.alloc (Obj.cells #[.int .i64 46,.string t,.int .i64 n,.slice (some ⟨b,o,none⟩) 1 c] 24)):=bel_a w _
 have HY0 : Hid (∀ W,Below w.heap.size w W→NqO W b o z0k z0t z0n z0a z0l z0c):=HZ0.out
 have X0 : (w.alloc (Obj.cells #[.int .i64 46,.string t,.int .i64 n,.slice (some ⟨b,o,none⟩) 1 c] 24)).heap[w.heap.size]?=some (.cells #[.int .i64 46,.string t,.int .i64 n,.slice (some ⟨b,o,none⟩) 1 c] 24 (0,0)):=hnew _ rfl
 have kp : Hid (∀ W',Below (w.heap.size+1) (w.alloc (Obj.cells #[.int .i64 46,.string t,.int .i64 n,.slice (some ⟨b,o,none⟩) 1 c] 24)) W'→(NqZ W' w.heap.size 46 t n (some ⟨b,o,none⟩) 1 c)):=fun W' b=>(box4 ((b.block _ (by omega)).trans X0)).1
 have kz : Hid ((w.alloc (Obj.cells #[.int .i64 46,.string t,.int .i64 n,.slice (some ⟨b,o,none⟩) 1 c] 24)).heap.size=w.heap.size+1):=by simp [Hid]
 have kr : Hid (Below (w.heap.size+1) (w.alloc (Obj.cells #[.int .i64 46,.string t,.int .i64 n,.slice (some ⟨b,o,none⟩) 1 c] 24)) (w.alloc (Obj.cells #[.int .i64 46,.string t,.int .i64 n,.slice (some ⟨b,o,none⟩) 1 c] 24))):=Below.refl _ _
 clear X0
 go_enter Tryz.func41,Tryz.ntmps41
 cases p1 with
 | false =>
  go_wp2_with (go_at_call 13;refine (C1.out _ bel0).mono ?_;rintro e W1 ⟨rfl,b1⟩;have bel1:=bel0.trans (b1.mono bel0.size);have kb1:=b1.mono (show w.heap.size+1 ≤ _ by have:=kz.out;omega);obtain ⟨_,_,_,_⟩:=kp.out _ kb1;have ks1 : w.heap.size+1 ≤ W1.heap.size:=(by have:=kz.out;have:=b1.size;omega);obtain ⟨_,_,_,_⟩:=HY0.out _ bel1)
  go_ret
  exact ⟨ret_b (by simp),bel1⟩
 | true =>
  by_cases hn : n=0
  ·subst hn
   go_wp2_with (first
    | (go_at_call 13;refine (C1.out _ bel0).mono ?_;rintro e W1 ⟨rfl,b1⟩;have bel1:=bel0.trans (b1.mono bel0.size);have kb1:=b1.mono (show w.heap.size+1 ≤ _ by have:=kz.out;omega);obtain ⟨_,_,_,_⟩:=kp.out _ kb1;have ks1 : w.heap.size+1 ≤ W1.heap.size:=(by have:=kz.out;have:=b1.size;omega);obtain ⟨_,_,_,_⟩:=HY0.out _ bel1)
    | (go_at_call 39;refine (C2.out _ bel1).mono ?_;rintro e W2 ⟨rfl,b2⟩;have bel2:=bel1.trans (b2.mono bel1.size);have kb2:=kb1.trans (b2.mono ks1);obtain ⟨_,_,_,_⟩:=kp.out _ kb2;have ks2 : w.heap.size+1 ≤ W2.heap.size:=(by have:=b2.size;omega);obtain ⟨_,_,_,_⟩:=HY0.out _ bel2))
   go_ret
   exact ⟨ret_b (by simp),bel2⟩
  ·go_wp2_with (go_at_call 13;refine (C1.out _ bel0).mono ?_;rintro e W1 ⟨rfl,b1⟩;have bel1:=bel0.trans (b1.mono bel0.size);have kb1:=b1.mono (show w.heap.size+1 ≤ _ by have:=kz.out;omega);obtain ⟨_,_,_,_⟩:=kp.out _ kb1;have ks1 : w.heap.size+1 ≤ W1.heap.size:=(by have:=kz.out;have:=b1.size;omega);obtain ⟨_,_,_,_⟩:=HY0.out _ bel1)
   go_ret
   exact ⟨ret_b (by simp [hn]),bel1⟩
theorem it_alias0 (t : ByteArray) (n : Int) (a : Option Addr) (len c : Nat) (w : World) (p1 : Bool) (C1 : Hid (QC 13 w (.string t) p1)) (hl : ((len : Int) == 1)=false) :
 Calls Tryz.prog 41 #[nv 46 t n a len c] w fun e w'=>e = .returned (.bool (false))∧Below w.heap.size w w':=by
 have bel0 : Below w.heap.size w (w.alloc (Obj.cells #[.int .i64 46,.string t,.int .i64 n,.slice a len c] 24)):=bel_a w _
 have X0 : (w.alloc (Obj.cells #[.int .i64 46,.string t,.int .i64 n,.slice a len c] 24)).heap[w.heap.size]?=some (.cells #[.int .i64 46,.string t,.int .i64 n,.slice a len c] 24 (0,0)):=hnew _ rfl
 have kp : Hid (∀ W',Below (w.heap.size+1) (w.alloc (Obj.cells #[.int .i64 46,.string t,.int .i64 n,.slice a len c] 24)) W'→(NqZ W' w.heap.size 46 t n a len c)):=fun W' b=>(box4 ((b.block _ (by omega)).trans X0)).1
 have kz : Hid ((w.alloc (Obj.cells #[.int .i64 46,.string t,.int .i64 n,.slice a len c] 24)).heap.size=w.heap.size+1):=by simp [Hid]
 have kr : Hid (Below (w.heap.size+1) (w.alloc (Obj.cells #[.int .i64 46,.string t,.int .i64 n,.slice a len c] 24)) (w.alloc (Obj.cells #[.int .i64 46,.string t,.int .i64 n,.slice a len c] 24))):=Below.refl _ _
 clear X0
 go_enter Tryz.func41,Tryz.ntmps41
 cases p1 with
 | false =>
  go_wp2_with (go_at_call 13;refine (C1.out _ bel0).mono ?_;rintro e W1 ⟨rfl,b1⟩;have bel1:=bel0.trans (b1.mono bel0.size);have kb1:=b1.mono (show w.heap.size+1 ≤ _ by have:=kz.out;omega);obtain ⟨_,_,_,_⟩:=kp.out _ kb1;have ks1 : w.heap.size+1 ≤ W1.heap.size:=(by have:=kz.out;have:=b1.size;omega))
  go_ret
  exact ⟨ret_b (by simp),bel1⟩
 | true =>
  by_cases hn : n=0
  ·subst hn
   go_wp2_with (go_at_call 13;refine (C1.out _ bel0).mono ?_;rintro e W1 ⟨rfl,b1⟩;have bel1:=bel0.trans (b1.mono bel0.size);have kb1:=b1.mono (show w.heap.size+1 ≤ _ by have:=kz.out;omega);obtain ⟨_,_,_,_⟩:=kp.out _ kb1;have ks1 : w.heap.size+1 ≤ W1.heap.size:=(by have:=kz.out;have:=b1.size;omega))
   go_ret
   exact ⟨ret_b (by simp),bel1⟩
  ·go_wp2_with (go_at_call 13;refine (C1.out _ bel0).mono ?_;rintro e W1 ⟨rfl,b1⟩;have bel1:=bel0.trans (b1.mono bel0.size);have kb1:=b1.mono (show w.heap.size+1 ≤ _ by have:=kz.out;omega);obtain ⟨_,_,_,_⟩:=kp.out _ kb1;have ks1 : w.heap.size+1 ≤ W1.heap.size:=(by have:=kz.out;have:=b1.size;omega))
   go_ret
   exact ⟨ret_b (by simp [hn]),bel1⟩
theorem it_class (t : ByteArray) (n : Int) (a : Option Addr) (len c : Nat) (w : World) (p1 : Bool) (C1 : Hid (QC 44 w (nv 42 t n a len c) p1)) :
 Calls Tryz.prog 41 #[nv 42 t n a len c] w fun e w'=>e = .returned (.bool p1)∧Below w.heap.size w w':=by
 go_enter Tryz.func41,Tryz.ntmps41
 go_wp2_with (go_at_call 44;refine (C1.out _ (bel_a w _)).mono ?_;rintro e W1 ⟨rfl,b1⟩)
 go_ret
 exact ⟨rfl,(bel_a w _).trans (b1.mono (by simp))⟩
theorem it_import (t : ByteArray) (n : Int) (a : Option Addr) (len c : Nat) (w : World) (p1 : Bool) (C1 : Hid (QC 75 w (nv 60 t n a len c) p1)) :
 Calls Tryz.prog 41 #[nv 60 t n a len c] w fun e w'=>e = .returned (.bool p1)∧Below w.heap.size w w':=by
 go_enter Tryz.func41,Tryz.ntmps41
 go_wp2_with (go_at_call 75;refine (C1.out _ (bel_a w _)).mono ?_;rintro e W1 ⟨rfl,b1⟩)
 go_ret
 exact ⟨rfl,(bel_a w _).trans (b1.mono (by simp))⟩
theorem it_from (t : ByteArray) (n : Int) (a : Option Addr) (len c : Nat) (w : World) (p1 : Bool) (C1 : Hid (QC 76 w (nv 64 t n a len c) p1)) :
 Calls Tryz.prog 41 #[nv 64 t n a len c] w fun e w'=>e = .returned (.bool p1)∧Below w.heap.size w w':=by
 go_enter Tryz.func41,Tryz.ntmps41
 go_wp2_with (go_at_call 76;refine (C1.out _ (bel_a w _)).mono ?_;rintro e W1 ⟨rfl,b1⟩)
 go_ret
 exact ⟨rfl,(bel_a w _).trans (b1.mono (by simp))⟩
theorem it_stmt (k : Int) (h42 : k ≠ 42) (h46 : k ≠ 46) (h60 : k ≠ 60) (h62 : k ≠ 62) (h63 : k ≠ 63) (h64 : k ≠ 64) (t : ByteArray) (n : Int) (a : Option Addr) (len c : Nat) (w : World) (p1 : Bool) (C1 : Hid (QC 40 w (nv k t n a len c) p1)) :
 Calls Tryz.prog 41 #[nv k t n a len c] w fun e w'=>e = .returned (.bool p1)∧Below w.heap.size w w':=by
 go_enter Tryz.func41,Tryz.ntmps41
 go_wp2_with (go_at_call 40;refine (C1.out _ (bel_a w _)).mono ?_;rintro e W1 ⟨rfl,b1⟩)
 go_ret
 exact ⟨rfl,(bel_a w _).trans (b1.mono (by simp))⟩
theorem it_export (t : ByteArray) (n : Int) (b o c : Nat) (w : World) (z0k : Int) (z0t : ByteArray) (z0n : Int) (z0a : Option Addr) (z0l z0c : Nat) (HZ0 : Hid (KC w b (o+0) z0k z0t z0n z0a z0l z0c)) (p1 : Bool) (C1 : Hid (QC 42 w (nv 62 t n (some ⟨b,o,none⟩) 1 c) p1)) (p2 : Bool) (C2 : Hid (QC 41 w (nv z0k z0t z0n z0a z0l z0c) p2)) :
 Calls Tryz.prog 41 #[nv 62 t n (some ⟨b,o,none⟩) 1 c] w fun e w'=>e = .returned (.bool (p1 && (((z0k == 40) || (z0k == 41) || (z0k == 42) || (z0k == 46)) && p2)))∧Below w.heap.size w w':=by
 have bel0 : Below w.heap.size w (w.alloc (Obj.cells #[.int .i64 62,.string t,.int .i64 n,.slice (some ⟨b,o,none⟩) 1 c] 24)):=bel_a w _
 have HY0 : Hid (∀ W,Below w.heap.size w W→NqO W b o z0k z0t z0n z0a z0l z0c):=HZ0.out
 have X0 : (w.alloc (Obj.cells #[.int .i64 62,.string t,.int .i64 n,.slice (some ⟨b,o,none⟩) 1 c] 24)).heap[w.heap.size]?=some (.cells #[.int .i64 62,.string t,.int .i64 n,.slice (some ⟨b,o,none⟩) 1 c] 24 (0,0)):=hnew _ rfl
 have kp : Hid (∀ W',Below (w.heap.size+1) (w.alloc (Obj.cells #[.int .i64 62,.string t,.int .i64 n,.slice (some ⟨b,o,none⟩) 1 c] 24)) W'→(NqZ W' w.heap.size 62 t n (some ⟨b,o,none⟩) 1 c)):=fun W' b=>(box4 ((b.block _ (by omega)).trans X0)).1
 have kz : Hid ((w.alloc (Obj.cells #[.int .i64 62,.string t,.int .i64 n,.slice (some ⟨b,o,none⟩) 1 c] 24)).heap.size=w.heap.size+1):=by simp [Hid]
 have kr : Hid (Below (w.heap.size+1) (w.alloc (Obj.cells #[.int .i64 62,.string t,.int .i64 n,.slice (some ⟨b,o,none⟩) 1 c] 24)) (w.alloc (Obj.cells #[.int .i64 62,.string t,.int .i64 n,.slice (some ⟨b,o,none⟩) 1 c] 24))):=Below.refl _ _
 clear X0
 go_enter Tryz.func41,Tryz.ntmps41
 cases p1 with
 | false =>
  go_wp2_with (go_at_call 42;refine (C1.out _ bel0).mono ?_;rintro e W1 ⟨rfl,b1⟩;have bel1:=bel0.trans (b1.mono bel0.size);have kb1:=b1.mono (show w.heap.size+1 ≤ _ by have:=kz.out;omega);obtain ⟨_,_,_,_⟩:=kp.out _ kb1;have ks1 : w.heap.size+1 ≤ W1.heap.size:=(by have:=kz.out;have:=b1.size;omega);obtain ⟨_,_,_,_⟩:=HY0.out _ bel1)
  go_ret
  exact ⟨ret_b (by simp),bel1⟩
 | true =>
  by_cases e40 : z0k=40
  ·subst e40
   go_wp2_with (first
    | (go_at_call 42;refine (C1.out _ bel0).mono ?_;rintro e W1 ⟨rfl,b1⟩;have bel1:=bel0.trans (b1.mono bel0.size);have kb1:=b1.mono (show w.heap.size+1 ≤ _ by have:=kz.out;omega);obtain ⟨_,_,_,_⟩:=kp.out _ kb1;have ks1 : w.heap.size+1 ≤ W1.heap.size:=(by have:=kz.out;have:=b1.size;omega);obtain ⟨_,_,_,_⟩:=HY0.out _ bel1)
    | (go_at_call 41;refine (C2.out _ bel1).mono ?_;rintro e W2 ⟨rfl,b2⟩;have bel2:=bel1.trans (b2.mono bel1.size);have kb2:=kb1.trans (b2.mono ks1);obtain ⟨_,_,_,_⟩:=kp.out _ kb2;have ks2 : w.heap.size+1 ≤ W2.heap.size:=(by have:=b2.size;omega);obtain ⟨_,_,_,_⟩:=HY0.out _ bel2))
   go_ret
   exact ⟨ret_b (by simp),bel2⟩
  ·by_cases e41 : z0k=41
   ·subst e41
    go_wp2_with (first
     | (go_at_call 42;refine (C1.out _ bel0).mono ?_;rintro e W1 ⟨rfl,b1⟩;have bel1:=bel0.trans (b1.mono bel0.size);have kb1:=b1.mono (show w.heap.size+1 ≤ _ by have:=kz.out;omega);obtain ⟨_,_,_,_⟩:=kp.out _ kb1;have ks1 : w.heap.size+1 ≤ W1.heap.size:=(by have:=kz.out;have:=b1.size;omega);obtain ⟨_,_,_,_⟩:=HY0.out _ bel1)
     | (go_at_call 41;refine (C2.out _ bel1).mono ?_;rintro e W2 ⟨rfl,b2⟩;have bel2:=bel1.trans (b2.mono bel1.size);have kb2:=kb1.trans (b2.mono ks1);obtain ⟨_,_,_,_⟩:=kp.out _ kb2;have ks2 : w.heap.size+1 ≤ W2.heap.size:=(by have:=b2.size;omega);obtain ⟨_,_,_,_⟩:=HY0.out _ bel2))
    go_ret
    exact ⟨ret_b (by simp),bel2⟩
   ·by_cases e42 : z0k=42
    ·subst e42
     go_wp2_with (first
      | (go_at_call 42;refine (C1.out _ bel0).mono ?_;rintro e W1 ⟨rfl,b1⟩;have bel1:=bel0.trans (b1.mono bel0.size);have kb1:=b1.mono (show w.heap.size+1 ≤ _ by have:=kz.out;omega);obtain ⟨_,_,_,_⟩:=kp.out _ kb1;have ks1 : w.heap.size+1 ≤ W1.heap.size:=(by have:=kz.out;have:=b1.size;omega);obtain ⟨_,_,_,_⟩:=HY0.out _ bel1)
      | (go_at_call 41;refine (C2.out _ bel1).mono ?_;rintro e W2 ⟨rfl,b2⟩;have bel2:=bel1.trans (b2.mono bel1.size);have kb2:=kb1.trans (b2.mono ks1);obtain ⟨_,_,_,_⟩:=kp.out _ kb2;have ks2 : w.heap.size+1 ≤ W2.heap.size:=(by have:=b2.size;omega);obtain ⟨_,_,_,_⟩:=HY0.out _ bel2))
     go_ret
     exact ⟨ret_b (by simp),bel2⟩
    ·by_cases e46 : z0k=46
     ·subst e46
      go_wp2_with (first
       | (go_at_call 42;refine (C1.out _ bel0).mono ?_;rintro e W1 ⟨rfl,b1⟩;have bel1:=bel0.trans (b1.mono bel0.size);have kb1:=b1.mono (show w.heap.size+1 ≤ _ by have:=kz.out;omega);obtain ⟨_,_,_,_⟩:=kp.out _ kb1;have ks1 : w.heap.size+1 ≤ W1.heap.size:=(by have:=kz.out;have:=b1.size;omega);obtain ⟨_,_,_,_⟩:=HY0.out _ bel1)
       | (go_at_call 41;refine (C2.out _ bel1).mono ?_;rintro e W2 ⟨rfl,b2⟩;have bel2:=bel1.trans (b2.mono bel1.size);have kb2:=kb1.trans (b2.mono ks1);obtain ⟨_,_,_,_⟩:=kp.out _ kb2;have ks2 : w.heap.size+1 ≤ W2.heap.size:=(by have:=b2.size;omega);obtain ⟨_,_,_,_⟩:=HY0.out _ bel2))
      go_ret
      exact ⟨ret_b (by simp),bel2⟩
     ·go_wp2_with (go_at_call 42;refine (C1.out _ bel0).mono ?_;rintro e W1 ⟨rfl,b1⟩;have bel1:=bel0.trans (b1.mono bel0.size);have kb1:=b1.mono (show w.heap.size+1 ≤ _ by have:=kz.out;omega);obtain ⟨_,_,_,_⟩:=kp.out _ kb1;have ks1 : w.heap.size+1 ≤ W1.heap.size:=(by have:=kz.out;have:=b1.size;omega);obtain ⟨_,_,_,_⟩:=HY0.out _ bel1)
      go_ret
      exact ⟨ret_b (by simp [e40,e41,e42,e46]),bel1⟩
theorem it_export0 (t : ByteArray) (n : Int) (a : Option Addr) (len c : Nat) (w : World) (p1 : Bool) (C1 : Hid (QC 42 w (nv 62 t n a len c) p1)) (hl : ((len : Int) == 1)=false) :
 Calls Tryz.prog 41 #[nv 62 t n a len c] w fun e w'=>e = .returned (.bool (false))∧Below w.heap.size w w':=by
 have bel0 : Below w.heap.size w (w.alloc (Obj.cells #[.int .i64 62,.string t,.int .i64 n,.slice a len c] 24)):=bel_a w _
 have X0 : (w.alloc (Obj.cells #[.int .i64 62,.string t,.int .i64 n,.slice a len c] 24)).heap[w.heap.size]?=some (.cells #[.int .i64 62,.string t,.int .i64 n,.slice a len c] 24 (0,0)):=hnew _ rfl
 have kp : Hid (∀ W',Below (w.heap.size+1) (w.alloc (Obj.cells #[.int .i64 62,.string t,.int .i64 n,.slice a len c] 24)) W'→(NqZ W' w.heap.size 62 t n a len c)):=fun W' b=>(box4 ((b.block _ (by omega)).trans X0)).1
 have kz : Hid ((w.alloc (Obj.cells #[.int .i64 62,.string t,.int .i64 n,.slice a len c] 24)).heap.size=w.heap.size+1):=by simp [Hid]
 have kr : Hid (Below (w.heap.size+1) (w.alloc (Obj.cells #[.int .i64 62,.string t,.int .i64 n,.slice a len c] 24)) (w.alloc (Obj.cells #[.int .i64 62,.string t,.int .i64 n,.slice a len c] 24))):=Below.refl _ _
 clear X0
 go_enter Tryz.func41,Tryz.ntmps41
 cases p1 with
 | false =>
  go_wp2_with (go_at_call 42;refine (C1.out _ bel0).mono ?_;rintro e W1 ⟨rfl,b1⟩;have bel1:=bel0.trans (b1.mono bel0.size);have kb1:=b1.mono (show w.heap.size+1 ≤ _ by have:=kz.out;omega);obtain ⟨_,_,_,_⟩:=kp.out _ kb1;have ks1 : w.heap.size+1 ≤ W1.heap.size:=(by have:=kz.out;have:=b1.size;omega))
  go_ret
  exact ⟨ret_b (by simp),bel1⟩
 | true =>
  go_wp2_with (go_at_call 42;refine (C1.out _ bel0).mono ?_;rintro e W1 ⟨rfl,b1⟩;have bel1:=bel0.trans (b1.mono bel0.size);have kb1:=b1.mono (show w.heap.size+1 ≤ _ by have:=kz.out;omega);obtain ⟨_,_,_,_⟩:=kp.out _ kb1;have ks1 : w.heap.size+1 ≤ W1.heap.size:=(by have:=kz.out;have:=b1.size;omega))
  go_ret
  exact ⟨ret_b (by simp),bel1⟩
theorem it_default (t : ByteArray) (n : Int) (b o c : Nat) (w : World) (z0k : Int) (z0t : ByteArray) (z0n : Int) (z0a : Option Addr) (z0l z0c : Nat) (HZ0 : Hid (KC w b (o+0) z0k z0t z0n z0a z0l z0c)) (p1 : Bool) (C1 : Hid (QC 42 w (nv 63 t n (some ⟨b,o,none⟩) 1 c) p1)) (p2 : Bool) (C2 : Hid (QC 38 w (nv z0k z0t z0n z0a z0l z0c) p2)) (p3 : Bool) (C3 : Hid (QC 41 w (nv z0k z0t z0n z0a z0l z0c) p3)) :
 Calls Tryz.prog 41 #[nv 63 t n (some ⟨b,o,none⟩) 1 c] w fun e w'=>e = .returned (.bool (p1 && (p2 || (((z0k == 41) || (z0k == 42)) && p3))))∧Below w.heap.size w w':=by
 have bel0 : Below w.heap.size w (w.alloc (Obj.cells #[.int .i64 63,.string t,.int .i64 n,.slice (some ⟨b,o,none⟩) 1 c] 24)):=bel_a w _
 have HY0 : Hid (∀ W,Below w.heap.size w W→NqO W b o z0k z0t z0n z0a z0l z0c):=HZ0.out
 have X0 : (w.alloc (Obj.cells #[.int .i64 63,.string t,.int .i64 n,.slice (some ⟨b,o,none⟩) 1 c] 24)).heap[w.heap.size]?=some (.cells #[.int .i64 63,.string t,.int .i64 n,.slice (some ⟨b,o,none⟩) 1 c] 24 (0,0)):=hnew _ rfl
 have kp : Hid (∀ W',Below (w.heap.size+1) (w.alloc (Obj.cells #[.int .i64 63,.string t,.int .i64 n,.slice (some ⟨b,o,none⟩) 1 c] 24)) W'→(NqZ W' w.heap.size 63 t n (some ⟨b,o,none⟩) 1 c)):=fun W' b=>(box4 ((b.block _ (by omega)).trans X0)).1
 have kz : Hid ((w.alloc (Obj.cells #[.int .i64 63,.string t,.int .i64 n,.slice (some ⟨b,o,none⟩) 1 c] 24)).heap.size=w.heap.size+1):=by simp [Hid]
 have kr : Hid (Below (w.heap.size+1) (w.alloc (Obj.cells #[.int .i64 63,.string t,.int .i64 n,.slice (some ⟨b,o,none⟩) 1 c] 24)) (w.alloc (Obj.cells #[.int .i64 63,.string t,.int .i64 n,.slice (some ⟨b,o,none⟩) 1 c] 24))):=Below.refl _ _
 clear X0
 go_enter Tryz.func41,Tryz.ntmps41
 cases p1 with
 | false =>
  go_wp2_with (go_at_call 42;refine (C1.out _ bel0).mono ?_;rintro e W1 ⟨rfl,b1⟩;have bel1:=bel0.trans (b1.mono bel0.size);have kb1:=b1.mono (show w.heap.size+1 ≤ _ by have:=kz.out;omega);obtain ⟨_,_,_,_⟩:=kp.out _ kb1;have ks1 : w.heap.size+1 ≤ W1.heap.size:=(by have:=kz.out;have:=b1.size;omega);obtain ⟨_,_,_,_⟩:=HY0.out _ bel1)
  go_ret
  exact ⟨ret_b (by simp),bel1⟩
 | true =>
  cases p2 with
  | true =>
   go_wp2_with (first
    | (go_at_call 42;refine (C1.out _ bel0).mono ?_;rintro e W1 ⟨rfl,b1⟩;have bel1:=bel0.trans (b1.mono bel0.size);have kb1:=b1.mono (show w.heap.size+1 ≤ _ by have:=kz.out;omega);obtain ⟨_,_,_,_⟩:=kp.out _ kb1;have ks1 : w.heap.size+1 ≤ W1.heap.size:=(by have:=kz.out;have:=b1.size;omega);obtain ⟨_,_,_,_⟩:=HY0.out _ bel1)
    | (go_at_call 38;refine (C2.out _ bel1).mono ?_;rintro e W2 ⟨rfl,b2⟩;have bel2:=bel1.trans (b2.mono bel1.size);have kb2:=kb1.trans (b2.mono ks1);obtain ⟨_,_,_,_⟩:=kp.out _ kb2;have ks2 : w.heap.size+1 ≤ W2.heap.size:=(by have:=b2.size;omega);obtain ⟨_,_,_,_⟩:=HY0.out _ bel2))
   go_ret
   exact ⟨ret_b (by simp),bel2⟩
  | false =>
   by_cases e41 : z0k=41
   ·subst e41
    go_wp2_with (first
     | (go_at_call 42;refine (C1.out _ bel0).mono ?_;rintro e W1 ⟨rfl,b1⟩;have bel1:=bel0.trans (b1.mono bel0.size);have kb1:=b1.mono (show w.heap.size+1 ≤ _ by have:=kz.out;omega);obtain ⟨_,_,_,_⟩:=kp.out _ kb1;have ks1 : w.heap.size+1 ≤ W1.heap.size:=(by have:=kz.out;have:=b1.size;omega);obtain ⟨_,_,_,_⟩:=HY0.out _ bel1)
     | (go_at_call 38;refine (C2.out _ bel1).mono ?_;rintro e W2 ⟨rfl,b2⟩;have bel2:=bel1.trans (b2.mono bel1.size);have kb2:=kb1.trans (b2.mono ks1);obtain ⟨_,_,_,_⟩:=kp.out _ kb2;have ks2 : w.heap.size+1 ≤ W2.heap.size:=(by have:=b2.size;omega);obtain ⟨_,_,_,_⟩:=HY0.out _ bel2)
     | (go_at_call 41;refine (C3.out _ bel2).mono ?_;rintro e W3 ⟨rfl,b3⟩;have bel3:=bel2.trans (b3.mono bel2.size);have kb3:=kb2.trans (b3.mono ks2);obtain ⟨_,_,_,_⟩:=kp.out _ kb3;have ks3 : w.heap.size+1 ≤ W3.heap.size:=(by have:=b3.size;omega);obtain ⟨_,_,_,_⟩:=HY0.out _ bel3))
    go_ret
    exact ⟨ret_b (by simp),bel3⟩
   ·by_cases e42 : z0k=42
    ·subst e42
     go_wp2_with (first
      | (go_at_call 42;refine (C1.out _ bel0).mono ?_;rintro e W1 ⟨rfl,b1⟩;have bel1:=bel0.trans (b1.mono bel0.size);have kb1:=b1.mono (show w.heap.size+1 ≤ _ by have:=kz.out;omega);obtain ⟨_,_,_,_⟩:=kp.out _ kb1;have ks1 : w.heap.size+1 ≤ W1.heap.size:=(by have:=kz.out;have:=b1.size;omega);obtain ⟨_,_,_,_⟩:=HY0.out _ bel1)
      | (go_at_call 38;refine (C2.out _ bel1).mono ?_;rintro e W2 ⟨rfl,b2⟩;have bel2:=bel1.trans (b2.mono bel1.size);have kb2:=kb1.trans (b2.mono ks1);obtain ⟨_,_,_,_⟩:=kp.out _ kb2;have ks2 : w.heap.size+1 ≤ W2.heap.size:=(by have:=b2.size;omega);obtain ⟨_,_,_,_⟩:=HY0.out _ bel2)
      | (go_at_call 41;refine (C3.out _ bel2).mono ?_;rintro e W3 ⟨rfl,b3⟩;have bel3:=bel2.trans (b3.mono bel2.size);have kb3:=kb2.trans (b3.mono ks2);obtain ⟨_,_,_,_⟩:=kp.out _ kb3;have ks3 : w.heap.size+1 ≤ W3.heap.size:=(by have:=b3.size;omega);obtain ⟨_,_,_,_⟩:=HY0.out _ bel3))
     go_ret
     exact ⟨ret_b (by simp),bel3⟩
    ·go_wp2_with (first
      | (go_at_call 42;refine (C1.out _ bel0).mono ?_;rintro e W1 ⟨rfl,b1⟩;have bel1:=bel0.trans (b1.mono bel0.size);have kb1:=b1.mono (show w.heap.size+1 ≤ _ by have:=kz.out;omega);obtain ⟨_,_,_,_⟩:=kp.out _ kb1;have ks1 : w.heap.size+1 ≤ W1.heap.size:=(by have:=kz.out;have:=b1.size;omega);obtain ⟨_,_,_,_⟩:=HY0.out _ bel1)
      | (go_at_call 38;refine (C2.out _ bel1).mono ?_;rintro e W2 ⟨rfl,b2⟩;have bel2:=bel1.trans (b2.mono bel1.size);have kb2:=kb1.trans (b2.mono ks1);obtain ⟨_,_,_,_⟩:=kp.out _ kb2;have ks2 : w.heap.size+1 ≤ W2.heap.size:=(by have:=b2.size;omega);obtain ⟨_,_,_,_⟩:=HY0.out _ bel2))
     go_ret
     exact ⟨ret_b (by simp [e41,e42]),bel2⟩
theorem it_default0 (t : ByteArray) (n : Int) (a : Option Addr) (len c : Nat) (w : World) (p1 : Bool) (C1 : Hid (QC 42 w (nv 63 t n a len c) p1)) (hl : ((len : Int) == 1)=false) :
 Calls Tryz.prog 41 #[nv 63 t n a len c] w fun e w'=>e = .returned (.bool (false))∧Below w.heap.size w w':=by
 have bel0 : Below w.heap.size w (w.alloc (Obj.cells #[.int .i64 63,.string t,.int .i64 n,.slice a len c] 24)):=bel_a w _
 have X0 : (w.alloc (Obj.cells #[.int .i64 63,.string t,.int .i64 n,.slice a len c] 24)).heap[w.heap.size]?=some (.cells #[.int .i64 63,.string t,.int .i64 n,.slice a len c] 24 (0,0)):=hnew _ rfl
 have kp : Hid (∀ W',Below (w.heap.size+1) (w.alloc (Obj.cells #[.int .i64 63,.string t,.int .i64 n,.slice a len c] 24)) W'→(NqZ W' w.heap.size 63 t n a len c)):=fun W' b=>(box4 ((b.block _ (by omega)).trans X0)).1
 have kz : Hid ((w.alloc (Obj.cells #[.int .i64 63,.string t,.int .i64 n,.slice a len c] 24)).heap.size=w.heap.size+1):=by simp [Hid]
 have kr : Hid (Below (w.heap.size+1) (w.alloc (Obj.cells #[.int .i64 63,.string t,.int .i64 n,.slice a len c] 24)) (w.alloc (Obj.cells #[.int .i64 63,.string t,.int .i64 n,.slice a len c] 24))):=Below.refl _ _
 clear X0
 go_enter Tryz.func41,Tryz.ntmps41
 cases p1 with
 | false =>
  go_wp2_with (go_at_call 42;refine (C1.out _ bel0).mono ?_;rintro e W1 ⟨rfl,b1⟩;have bel1:=bel0.trans (b1.mono bel0.size);have kb1:=b1.mono (show w.heap.size+1 ≤ _ by have:=kz.out;omega);obtain ⟨_,_,_,_⟩:=kp.out _ kb1;have ks1 : w.heap.size+1 ≤ W1.heap.size:=(by have:=kz.out;have:=b1.size;omega))
  go_ret
  exact ⟨ret_b (by simp),bel1⟩
 | true =>
  go_wp2_with (go_at_call 42;refine (C1.out _ bel0).mono ?_;rintro e W1 ⟨rfl,b1⟩;have bel1:=bel0.trans (b1.mono bel0.size);have kb1:=b1.mono (show w.heap.size+1 ≤ _ by have:=kz.out;omega);obtain ⟨_,_,_,_⟩:=kp.out _ kb1;have ks1 : w.heap.size+1 ≤ W1.heap.size:=(by have:=kz.out;have:=b1.size;omega))
  go_ret
  exact ⟨ret_b (by simp),bel1⟩
end Go.Proofs.YtfcocoadaajbjaaGreatDoor
