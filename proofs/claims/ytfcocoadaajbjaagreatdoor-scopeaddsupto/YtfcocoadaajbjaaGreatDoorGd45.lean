/- Own text. Whether a $ stands in a name of a tree: the document's answer. A $ in a module's names: the document's way of saying it and ours are one. Same of package tree: whether two trees are the same. The document's examples of trees. Whether two trees are the same,copies,sizes,depths: the law's own walk. -/
import Derived.Test.YtfcocoadaajbjaaGreatDoorGd35
import Derived.Test.YtfcocoadaajbjaaGreatDoorGd44
import Derived.Test.YtfcocoadaajbjaaGreatDoorGd04
import Derived.Test.YtfcocoadaajbjaaGreatDoorGd10
import Derived.Test.YtfcocoadaajbjaaGreatDoorGd32
set_option linter.unusedVariables false
set_option linter.unusedSimpArgs false
set_option maxRecDepth 100000
set_option maxHeartbeats 8000000
namespace Go.Proofs.YtfcocoadaajbjaaGreatDoor
open Go.RowKit
def isK (k : Int) : Bool:=(k != 2) && (k != 60) && (k != 64)
def has36 (t : ByteArray) : Bool:=t.data.toList.any (· == 36)
def dl1 (y : Nd) : Bool:=isK y.k && has36 y.t
def dolB (y : Nd) : Bool:=y.flat.any dl1
theorem flats_any (f : Nd→Bool) : ∀ l : List Nd,(flats l).any f=l.any fun y=>y.flat.any f
 | []=>by rw [flats_nil];rfl
 | x :: l=>by rw [flats_cons,List.any_append,flats_any f l];rfl
theorem dol_eq (y : Nd) : dolB y=(dl1 y || y.ks.any dolB):=by
 unfold dolB
 rw [y.flat_eq,List.any_cons,flats_any]
theorem at36 (t : ByteArray) (k : Nat) (h : k < t.size) : t.data.toList[k]?=some t[k]:=by
 rw [Array.getElem?_toList]
 exact Array.getElem?_eq_getElem h
theorem dollar_any (x : Nd) : ∀ (w : World) (S : Nat→Prop) (a : Option Addr) (c : Nat),LAt w S (.slice a x.ks.length c) x.ks→x.size ≤ 4194304→x.tx →
 Calls Tryz.prog 43 #[nv x.k x.t x.n a x.ks.length c] w fun e w'=>e = .returned (.bool (dolB x))∧Below w.heap.size w w':=by
 induction x using Nd.ind with
 | h x ih =>
 intro w S a c hx zx tx
 have tt : x.t.size ≤ 4194304:=Nd.tx_own tx
 have zs:=x.size_eq
 have lx:=sizes_len x.ks
 obtain ⟨ax,cx,bx,ox,fx,e,px,qx,rx⟩:=hx.op
 obtain ⟨rfl,rfl⟩ : a=ax∧c=cx:=by injection e with e1 e2 e3;exact ⟨e1,e3⟩
 clear e
 have X0 : (w.alloc (Obj.cells #[.int .i64 x.k,.string x.t,.int .i64 x.n,.slice a x.ks.length c] 24)).heap[w.heap.size]?=some (.cells #[.int .i64 x.k,.string x.t,.int .i64 x.n,.slice a x.ks.length c] 24 (0,0)):=hnew _ rfl
 have kp : Hid (∀ W',Below (w.heap.size+1) (w.alloc (Obj.cells #[.int .i64 x.k,.string x.t,.int .i64 x.n,.slice a x.ks.length c] 24)) W'→(NqZ W' w.heap.size x.k x.t x.n a x.ks.length c)):=fun W' b=>(box4 ((b.block _ (by omega)).trans X0)).1
 have kb : Hid (∀ W',Below (w.heap.size+1) (w.alloc (Obj.cells #[.int .i64 x.k,.string x.t,.int .i64 x.n,.slice a x.ks.length c] 24)) W'→Below w.heap.size w W'∧w.heap.size+1 ≤ W'.heap.size):=fun W' b=>⟨(bel_a w _).trans (b.mono (by omega)),by have:=b.size;simpa using this⟩
 have kr : Hid (Below (w.heap.size+1) (w.alloc (Obj.cells #[.int .i64 x.k,.string x.t,.int .i64 x.n,.slice a x.ks.length c] 24)) (w.alloc (Obj.cells #[.int .i64 x.k,.string x.t,.int .i64 x.n,.slice a x.ks.length c] 24))):=Below.refl _ _
 clear X0
 clear hx
 have HK : Hid (isK x.k=((x.k != 2) && (x.k != 60) && (x.k != 64))):=rfl
 have HD : Hid (dl1 x=(isK x.k && has36 x.t)):=rfl
 by_cases hk3 : x.k=2 ∨ x.k=60 ∨ x.k=64
 ·have HD0 : Hid (dl1 x=false):=by show _=_;rw [HD.out,HK.out];rcases hk3 with h | h | h <;> rw [h] <;> rfl
  clear HD HK
  obtain ⟨W0,hW0⟩ : ∃ X,w.alloc (Obj.cells #[.int .i64 x.k,.string x.t,.int .i64 x.n,.slice a x.ks.length c] 24)=X:=⟨_,rfl⟩
  rw [hW0] at kp kb kr
  rcases hk3 with h | h | h
  all_goals
   rw [h] at kp hW0 ⊢
   clear h
   obtain ⟨n1,n2,n3,n4⟩:=kp.out _ kr.out
   go_enter Tryz.func43,Tryz.ntmps43
   go_wp2
   clear hW0
   go_loopw [4] (fun i wr=>i = .int .i64 0∧W0=wr) (fun _ _=>0)
   case atStart=>exact ⟨rfl,rfl⟩
   case round =>
    obtain ⟨rfl,rfl⟩:=hrel
    rcases (show (¬ (0 : Int) < (x.t.size : Int)) ∨ (0 : Int) < (x.t.size : Int) by omega) with hz1 | hz1
    all_goals
     go_wp2
     go_loopg [5] x.ks.length (fun gk v5 wr=>∃ k : Nat,v5 = .int .i64 (k : Nat)∧Hid (gk+k=x.ks.length)∧Below (w.heap.size+1) W0 wr∧Hid (∀ y ∈ x.ks.take k,dolB y=false))
     case atStart=>exact ⟨0,rfl,by simp [Hid],kr.out,by simp [Hid]⟩
     case round =>
      obtain ⟨k,rfl,hk,bel0,HT⟩:=hrel
      obtain ⟨bel,sz⟩:=kb.out _ bel0
      have hkk : k ≤ x.ks.length:=by have:=hk.out;omega
      obtain ⟨n1,n2,n3,n4⟩:=kp.out _ bel0
      by_cases hkl : k < x.ks.length
      ·obtain ⟨rfl,hSx,hbx⟩:=px (by omega)
       have hm:=List.getElem_mem hkl
       have HS : Hid (x.ks.take (k+1)=x.ks.take k ++ [x.ks[k]]):=List.take_succ_eq_append_getElem hkl
       have iha:=ih x.ks[k] hm
       have zk:=x.kid_size hkl
       have tk:=Nd.tx_kid tx hm
       have HM : Hid (x.ks[k] ∈ x.ks):=hm
       obtain ⟨⟨u1,u2,u3,u4⟩,gx⟩:=kid_at (qx k hkl) (rx k hkl) hbx bel
       clear hm
       generalize x.ks[k]=y at *
       generalize fx k=fk at *
       obtain ⟨ak,ck,rfl⟩:=gx.sl
       have C:=iha wr S ak ck gx (by omega) tk
       cases hb : dolB y with
       | true =>
        have HR : Hid (dolB x=true):=by show _=_;rw [dol_eq,List.any_eq_true.2 ⟨y,HM.out,hb⟩];simp
        rw [hb] at C
        clear hb HM HS HT HD0 iha px qx rx ih
        go_wp2_with (go_at_call 43;refine C.mono ?_;rintro e W1 ⟨rfl,b1⟩)
        go_ret
        exact ⟨ret_b HR.out.symm,bel.trans (b1.mono bel.size)⟩
       | false =>
        have HR : Hid (∀ z ∈ x.ks.take (k+1),dolB z=false):=fun z hz=>by
         rw [HS.out] at hz
         rcases List.mem_append.1 hz with hz | hz
         ·exact HT.out z hz
         ·obtain rfl : z=y:=by simpa using hz
          exact hb
        rw [hb] at C
        clear hb HM HS HT iha px qx rx ih
        go_wp2_with (go_at_call 43;refine C.mono ?_;rintro e W1 ⟨rfl,b1⟩)
        go_roundg (gk - 1)
        case rel=>exact ⟨k+1,by simp,by have:=hk.out;show _=_;omega,bel0.trans (b1.mono sz),HR⟩
        case measure=>have:=hk.out;omega
      ·have e : x.ks.take k=x.ks:=List.take_of_length_le (by omega)
       have HR : Hid (dolB x=false):=by
        show _=_
        rw [dol_eq,HD0.out,Bool.false_or]
        refine List.any_eq_false.2 fun z hz=>?_
        have:=HT.out
        rw [e] at this
        rw [this z hz]
        decide
       clear HT e px qx rx ih HD0
       go_wp2
       go_ret
       exact ⟨ret_b HR.out.symm,bel⟩
 have hk2 : x.k ≠ 2:=fun w=>hk3 (.inl w)
 have hk60 : x.k ≠ 60:=fun w=>hk3 (.inr (.inl w))
 have hk64 : x.k ≠ 64:=fun w=>hk3 (.inr (.inr w))
 clear hk3
 have HK1 : Hid (isK x.k=true):=by show _=_;rw [HK.out];simp [bne,hk2,hk60,hk64]
 have e2 : (x.k != 2)=true:=by simpa using hk2
 have e60 : (x.k != 60)=true:=by simpa using hk60
 have e64 : (x.k != 64)=true:=by simpa using hk64
 go_enter Tryz.func43,Tryz.ntmps43
 go_wp2
 generalize w.alloc (Obj.cells #[.int .i64 x.k,.string x.t,.int .i64 x.n,.slice a x.ks.length c] 24)=W0 at *
 obtain ⟨n1,n2,n3,n4⟩:=kp.out _ kr.out
 go_loopw [4] (fun i wr=>∃ j : Nat,i = .int .i64 (j : Nat)∧j ≤ x.t.size∧W0=wr∧Hid (∀ q < j,x.t.data.toList[q]? ≠ some 36)) (fun i _=>x.t.size - (intOf i).toNat)
 case atStart=>exact ⟨0,rfl,by omega,rfl,fun q hq=>by omega⟩
 case round =>
  obtain ⟨j,rfl,hj,rfl,HJ⟩:=hrel
  by_cases hjl : j < x.t.size
  ·have hby:=at36 x.t j hjl
   by_cases h36 : x.t[j]=36
   ·have c1 : (((x.t[j].toNat : Nat) : Int) == 36)=true:=by rw [h36];rfl
    have HR : Hid (dolB x=true):=by
     show _=_
     rw [dol_eq,HD.out,HK1.out]
     have : has36 x.t=true:=List.any_eq_true.2 ⟨36,List.mem_of_getElem? (by rw [hby,h36]),rfl⟩
     rw [this]
     rfl
    clear HJ hby h36 HD HK HK1 ih px qx rx
    go_wp2
    go_ret
    exact ⟨ret_b HR.out.symm,(kb.out _ kr.out).1⟩
   ·have c1 : (((x.t[j].toNat : Nat) : Int) == 36)=false:=by
     simp
     exact fun e=>h36 (UInt8.toNat_inj.1 (by simpa using (Int.ofNat_inj.1 (by simpa using e) : x.t[j].toNat=36)))
    have HJ' : Hid (∀ q < j+1,x.t.data.toList[q]? ≠ some 36):=fun q hq=>by
     by_cases e : q=j
     ·subst e
      rw [hby]
      exact fun e=>h36 (Option.some.inj e)
     ·exact HJ.out q (by omega)
    clear HJ hby h36
    go_wp2
    go_roundw
    case rel=>exact ⟨j+1,by simp,by omega,by first | rfl | trivial,HJ'⟩
    case measure=>simp [intOf];omega
  ·have HD0 : Hid (dl1 x=false):=by
    show _=_
    rw [HD.out,HK1.out,Bool.true_and]
    refine List.any_eq_false.2 fun b hb hh=>?_
    obtain ⟨q,hq⟩:=List.getElem?_of_mem hb
    have hq2:=(List.getElem?_eq_some_iff.1 hq).1
    have : x.t.data.toList.length=x.t.size:=Array.length_toList
    exact HJ.out q (by omega) (by rw [hq,eq_of_beq hh])
   clear HJ HD HK HK1
   go_wp2
   go_loopg [5] x.ks.length (fun gk v5 wr=>∃ k : Nat,v5 = .int .i64 (k : Nat)∧Hid (gk+k=x.ks.length)∧Below (w.heap.size+1) W0 wr∧Hid (∀ y ∈ x.ks.take k,dolB y=false))
   case atStart=>exact ⟨0,rfl,by simp [Hid],kr.out,by simp [Hid]⟩
   case round =>
    obtain ⟨k,rfl,hk,bel0,HT⟩:=hrel
    obtain ⟨bel,sz⟩:=kb.out _ bel0
    have hkk : k ≤ x.ks.length:=by have:=hk.out;omega
    obtain ⟨n1,n2,n3,n4⟩:=kp.out _ bel0
    by_cases hkl : k < x.ks.length
    ·obtain ⟨rfl,hSx,hbx⟩:=px (by omega)
     have hm:=List.getElem_mem hkl
     have HS : Hid (x.ks.take (k+1)=x.ks.take k ++ [x.ks[k]]):=List.take_succ_eq_append_getElem hkl
     have iha:=ih x.ks[k] hm
     have zk:=x.kid_size hkl
     have tk:=Nd.tx_kid tx hm
     have HM : Hid (x.ks[k] ∈ x.ks):=hm
     obtain ⟨⟨u1,u2,u3,u4⟩,gx⟩:=kid_at (qx k hkl) (rx k hkl) hbx bel
     clear hm
     generalize x.ks[k]=y at *
     generalize fx k=fk at *
     obtain ⟨ak,ck,rfl⟩:=gx.sl
     have C:=iha wr S ak ck gx (by omega) tk
     cases hb : dolB y with
     | true =>
      have HR : Hid (dolB x=true):=by show _=_;rw [dol_eq,List.any_eq_true.2 ⟨y,HM.out,hb⟩];simp
      rw [hb] at C
      clear hb HM HS HT HD0 iha px qx rx ih
      go_wp2_with (go_at_call 43;refine C.mono ?_;rintro e W1 ⟨rfl,b1⟩)
      go_ret
      exact ⟨ret_b HR.out.symm,bel.trans (b1.mono bel.size)⟩
     | false =>
      have HR : Hid (∀ z ∈ x.ks.take (k+1),dolB z=false):=fun z hz=>by
       rw [HS.out] at hz
       rcases List.mem_append.1 hz with hz | hz
       ·exact HT.out z hz
       ·obtain rfl : z=y:=by simpa using hz
        exact hb
      rw [hb] at C
      clear hb HM HS HT iha px qx rx ih
      go_wp2_with (go_at_call 43;refine C.mono ?_;rintro e W1 ⟨rfl,b1⟩)
      go_roundg (gk - 1)
      case rel=>exact ⟨k+1,by simp,by have:=hk.out;show _=_;omega,bel0.trans (b1.mono sz),HR⟩
      case measure=>have:=hk.out;omega
    ·have e : x.ks.take k=x.ks:=List.take_of_length_le (by omega)
     have HR : Hid (dolB x=false):=by
      show _=_
      rw [dol_eq,HD0.out,Bool.false_or]
      refine List.any_eq_false.2 fun z hz=>?_
      have:=HT.out
      rw [e] at this
      rw [this z hz]
      decide
     clear HT e px qx rx ih HD0
     go_wp2
     go_ret
     exact ⟨ret_b HR.out.symm,bel⟩
end Go.Proofs.YtfcocoadaajbjaaGreatDoor
namespace Go.Proofs.YtfcocoadaajbjaaGreatDoor
open Go.RowKit
theorem dec_high (l : List UInt8) (h : ¬ atL l 0 < 128) : ∀ k,k < (decL l).2→128 ≤ atL l k:=by
 intro k hk
 by_cases k0 : k=0
 ·subst k0;omega
 have cont : ∀ j,contL l j=true→128 ≤ atL l j:=fun j hj=>by
  unfold contL at hj
  simp at hj
  omega
 unfold decL at hk
 rw [if_neg h] at hk
 split at hk
 ·rename_i h2
  simp only [Bool.and_eq_true] at h2
  split at hk
  ·have : k < 2:=hk
   obtain rfl : k=1:=by omega
   exact cont 1 h2.2
  ·have : k < 1:=hk
   omega
 ·split at hk
  ·rename_i h2
   simp only [Bool.and_eq_true] at h2
   split at hk
   ·have : k < 3:=hk
    rcases (by omega : k=1 ∨ k=2) with rfl | rfl
    ·exact cont 1 h2.1.2
    ·exact cont 2 h2.2
   ·have : k < 1:=hk
    omega
  ·split at hk
   ·rename_i h2
    simp only [Bool.and_eq_true] at h2
    split at hk
    ·have : k < 4:=hk
     rcases (by omega : k=1 ∨ k=2 ∨ k=3) with rfl | rfl | rfl
     ·exact cont 1 h2.1.1.2
     ·exact cont 2 h2.1.2
     ·exact cont 3 h2.2
    ·have : k < 1:=hk
     omega
   ·have : k < 1:=hk
    omega
theorem dec_first (l : List UInt8) (hl : l ≠ []) : ((decL l).1 == 36)=(l.take (decL l).2).any (· == 36):=by
 by_cases h : atL l 0 < 128
 ·have e : decL l=(atL l 0,1):=by unfold decL;rw [if_pos h]
  rw [e]
  cases l with
  | nil=>exact absurd rfl hl
  | cons b l =>
   show (b.toNat == 36)=((b == 36) || false)
   rw [Bool.or_false,Bool.eq_iff_iff,beq_iff_eq,beq_iff_eq,← UInt8.toNat_inj]
   rfl
 ·have h1:=decL_highG l h
  rw [show ((decL l).1 == 36)=false by simp;omega]
  symm
  refine List.any_eq_false.2 fun b hb hh=>?_
  obtain rfl : b=36:=eq_of_beq hh
  obtain ⟨k,hk⟩:=List.getElem?_of_mem hb
  have hk2 : k < (decL l).2:=by
   have:=(List.getElem?_eq_some_iff.1 hk).1
   rw [List.length_take] at this
   omega
  have:=dec_high l h k hk2
  rw [List.getElem?_take,if_pos hk2] at hk
  unfold atL at this
  rw [List.getD_eq_getElem?_getD,hk] at this
  exact absurd this (by decide)
theorem scan_36 : ∀ l : List UInt8,(scan l).any (fun x=>x.1 == 36)=l.any (· == 36):=by
 refine scan_induct _ rfl fun l hl ih=>?_
 rw [scan_cons l hl,List.any_cons,ih,dec_first l hl,← List.any_append,List.take_append_drop]
theorem ok_mod (f : Bool) (r : Nat) : okR true f (r : Int)=(okR false f (r : Int) && !(r == 36)):=by
 unfold okR
 by_cases h : r=36
 ·subst h
  cases f <;> rfl
 ·rw [show ((r : Int) == 36)=false by simp;omega,show (r == 36)=false by simpa using h]
  simp
theorem all_and {α : Type} (a b : α→Bool) (l : List α) : (l.all fun x=>a x && !b x)=(l.all a && !l.any b):=by
 induction l with
 | nil=>rfl
 | cons x l ih =>
  rw [List.all_cons,List.all_cons,List.any_cons,ih]
  generalize a x=p
  generalize b x=q
  generalize l.all a=r
  generalize l.any b=s
  cases p <;> cases q <;> cases r <;> cases s <;> rfl
theorem prop_mod (l : List UInt8) : propT true l=(propT false l && !l.any (· == 36)):=by
 rw [← scan_36]
 unfold propT
 cases scan l with
 | nil=>rfl
 | cons h t =>
  show (okR true true h.1 && t.all fun x=>okR true false x.1)=((okR false true h.1 && t.all fun x=>okR false false x.1) && !((h.1 == 36) || t.any fun x=>x.1 == 36))
  rw [ok_mod,show (t.all fun x=>okR true false x.1)=(t.all fun x=>okR false false x.1 && !(x.1 == 36)) by congr 1;funext x;exact ok_mod false x.1,all_and]
  generalize okR false true h.1=p
  generalize (h.1 == 36)=q
  generalize (t.all fun x=>okR false false x.1)=r
  generalize (t.any fun x=>x.1 == 36)=s
  cases p <;> cases q <;> cases r <;> cases s <;> rfl
theorem id_mod (t : ByteArray) : idT true t=(idT false t && !has36 t):=by
 unfold idT has36
 rw [prop_mod]
 generalize propT false t.data.toList=p
 generalize (t.data.toList.any (· == 36))=q
 generalize isW t=r
 cases p <;> cases q <;> cases r <;> rfl
theorem has_list {t : ByteArray} {l : List UInt8} (h : (t.toList == l)=true) (hl : l.any (· == 36)=false) : has36 t=false:=by
 unfold has36
 rw [← bytes_toList,eq_of_beq h,hl]
theorem mem_none {t : ByteArray} {L : List (List UInt8)} (h : decide (t.data.toList ∈ L)=true) (hL : (L.all fun l=>!l.any (· == 36))=true) : has36 t=false:=by
 have:=List.all_eq_true.1 hL _ (of_decide_eq_true h)
 unfold has36
 simpa using this
theorem says_mod (s : Int) (t : ByteArray) (hs : s ≠ 6) : saysT true s t=(saysT false s t && !has36 t):=by
 unfold saysT
 by_cases h1 : s=1
 ·rw [if_pos h1,if_pos h1];exact id_mod t
 rw [if_neg h1,if_neg h1]
 by_cases h2 : s=2
 ·rw [if_pos h2,if_pos h2];exact prop_mod _
 rw [if_neg h2,if_neg h2]
 by_cases h3 : s=3
 ·rw [if_pos h3,if_pos h3,prop_mod]
  unfold has36
  generalize propT false t.data.toList=p
  generalize (t.data.toList.any (· == 36))=q
  generalize (t.toList != [99,111,110,115,116,114,117,99,116,111,114])=r
  cases p <;> cases q <;> cases r <;> rfl
 rw [if_neg h3,if_neg h3]
 by_cases h4 : s=4
 ·rw [if_pos h4,if_pos h4,prop_mod]
  cases hb : (t.toList == [42]) with
  | true=>rw [has_list hb (by decide)];simp
  | false=>unfold has36;simp
 rw [if_neg h4,if_neg h4]
 by_cases h5 : s=5
 ·rw [if_pos h5,if_pos h5,id_mod]
  cases hb : (t.toList == [110,117,108,108]) with
  | true=>rw [has_list hb (by decide)];simp
  | false =>
   cases hc : (t.toList == [117,110,100,101,102,105,110,101,100]) with
   | true=>rw [has_list hc (by decide)];simp
   | false=>simp
 rw [if_neg h5,if_neg h5,if_neg hs]
 by_cases h7 : s=7
 ·rw [if_pos h7]
  cases hb : decide (t.data.toList ∈ unaryL) with
  | true=>rw [mem_none hb (by decide)];rfl
  | false=>rfl
 rw [if_neg h7]
 by_cases h8 : s=8
 ·rw [if_pos h8]
  cases hb : decide (t.data.toList ∈ binaryL) with
  | true=>rw [mem_none hb (by decide)];rfl
  | false=>rfl
 rw [if_neg h8]
 cases hb : (t.toList == []) with
 | true=>rw [has_list hb (by decide)];rfl
 | false=>rfl
theorem says_six (t : ByteArray) : saysT true 6 t=saysT false 6 t:=rfl
theorem isK_no {k : Int} (h : isK k=false) : k=2 ∨ k=60 ∨ k=64:=by
 unfold isK at h
 simp [bne] at h
 omega
theorem rt6 {k : Int} {r : Rul} (h : isK k=false) (hr : ruleK k=some r) : r.t=6:=by
 rcases isK_no h with rfl | rfl | rfl
 ·cases (show ruleK 2=some ⟨6,0,[],0⟩ from rfl).symm.trans hr;rfl
 ·cases (show ruleK 60=some ⟨6,1,[],61⟩ from rfl).symm.trans hr;rfl
 ·cases (show ruleK 64=some ⟨6,1,[65],65⟩ from rfl).symm.trans hr;rfl
theorem ite_t {c : Prop} [Decidable c] {a b : Rul} (h1 : c→a.t ≠ 6) (h2 : ¬ c→b.t ≠ 6) : (if c then a else b).t ≠ 6:=by
 split
 ·exact h1 (by assumption)
 ·exact h2 (by assumption)
theorem ite_o {c : Prop} [Decidable c] {a r : Rul} {o : Option Rul} (h : (if c then some a else o)=some r) (h1 : a.t ≠ 6) (h2 : o=some r→r.t ≠ 6) : r.t ≠ 6:=by
 split at h
 ·cases h;exact h1
 ·exact h2 h
theorem form4 {k : Int} (h : formK k=4) : k=42 ∨ k=46 ∨ k=60 ∨ k=62 ∨ k=63 ∨ k=64:=by
 by_cases e : k=42 ∨ k=46 ∨ k=60 ∨ k=62 ∨ k=63 ∨ k=64
 ·exact e
 ·exfalso
  unfold formK at h
  rw [if_neg e] at h
  repeat (first | omega | split at h)
theorem rtn {k : Int} {r : Rul} (h : isK k=true) (hr : ruleK k=some r) : r.t ≠ 6:=by
 have h2 : k ≠ 2:=fun e=>by rw [e] at h;cases h
 have h60 : k ≠ 60:=fun e=>by rw [e] at h;cases h
 have h64 : k ≠ 64:=fun e=>by rw [e] at h;cases h
 unfold ruleK at hr
 refine ite_o hr ?_ fun hr=>ite_o hr ?_ fun hr=>ite_o hr ?_ fun hr=>?_
 ·unfold exprR
  repeat (first | exact (by decide) | exact absurd ‹k=2› h2 | (refine ite_t (fun _=>?_) (fun _=>?_)))
 ·unfold typeR
  repeat (first | exact (by decide) | (refine ite_t (fun _=>?_) (fun _=>?_)))
 ·unfold stmtR
  repeat (first | exact (by decide) | (refine ite_t (fun _=>?_) (fun _=>?_)))
 ·by_cases h4 : formK k=4
  ·rw [if_pos h4] at hr
   cases hr
   rcases form4 h4 with rfl | rfl | rfl | rfl | rfl | rfl
   ·decide
   ·decide
   ·exact absurd rfl h60
   ·decide
   ·decide
   ·exact absurd rfl h64
  ·rw [if_neg h4] at hr
   refine ite_o hr (by decide) fun hr=>ite_o hr (by decide) fun hr=>?_
   unfold partR at hr
   exact ite_o hr (by decide) fun hr=>ite_o hr (by decide) fun hr=>ite_o hr (by decide) fun hr=>ite_o hr (by decide) fun hr=>ite_o hr (by decide) fun hr=>ite_o hr (by decide) fun hr=>ite_o hr (by decide) fun hr=>ite_o hr (by decide) fun hr=>ite_o hr (by decide) fun hr=>ite_o hr (by decide) fun hr=>ite_o hr (by decide) fun hr=>ite_o hr (by decide) fun hr=>by cases hr
theorem hd_mod {y : Nd} {r : Rul} (h1 : r.t ≠ 6→isK y.k=true) (h2 : r.t=6→isK y.k=false) : hdB true y.t y.n y.ks.length r=(hdB false y.t y.n y.ks.length r && !dl1 y):=by
 unfold hdB dl1
 by_cases h : r.t=6
 ·rw [h2 h,h,says_six]
  simp
 ·rw [h1 h,says_mod _ _ h]
  generalize saysT false r.t y.t=p
  generalize has36 y.t=q
  cases p <;> cases q <;> simp
theorem fitsL_mod : ∀ (l : List Nd) (ps : List Int) (r : Int),(∀ z ∈ l,∀ p,fitsP true p z=(fitsP false p z && !dolB z))→fitsL true ps r l=(fitsL false ps r l && !l.any dolB)
 | [],ps,r,_=>by rw [fitsL_nil,fitsL_nil];rfl
 | z :: l,ps,r,h=>by
  rw [fitsL_cons,fitsL_cons,h z (by simp),fitsL_mod l ps.tail r (fun x hx=>h x (by simp [hx])),List.any_cons]
  generalize fitsP false (ps.headD r) z=a
  generalize dolB z=b
  generalize fitsL false ps.tail r l=c
  generalize l.any dolB=d
  cases a <;> cases b <;> cases c <;> cases d <;> rfl
theorem fol_mod {y : Nd} {r : Rul} (ih : ∀ z ∈ y.ks,∀ p,fitsP true p z=(fitsP false p z && !dolB z)) (h1 : r.t ≠ 6→isK y.k=true) (h2 : r.t=6→isK y.k=false) : folP true y r=(folP false y r && !dolB y):=by
 unfold folP
 rw [hd_mod h1 h2,fitsL_mod _ _ _ ih,dol_eq]
 generalize hdB false y.t y.n y.ks.length r=a
 generalize dl1 y=b
 generalize fitsL false r.ks r.r y.ks=c
 generalize y.ks.any dolB=d
 cases a <;> cases b <;> cases c <;> cases d <;> rfl
theorem agrees_mod {y : Nd} (h : y.k ≠ 64) : agreesP true y=agreesP false y:=by
 unfold agreesP
 simp only [if_neg h]
theorem whole_mod' {y : Nd} (ih : ∀ z ∈ y.ks,∀ p,fitsP true p z=(fitsP false p z && !dolB z)) : wholeP true y=(wholeP false y && !dolB y):=by
 unfold wholeP
 cases hr : ruleK y.k with
 | none=>rfl
 | some r =>
  show (folP true y r && agreesP true y)=((folP false y r && agreesP false y) && !dolB y)
  have hf : folP true y r=(folP false y r && !dolB y):=fol_mod ih
   (fun h=>by cases e : isK y.k with | true=>rfl | false=>exact absurd (rt6 e hr) h)
   (fun h=>by cases e : isK y.k with | false=>rfl | true=>exact absurd h (rtn e hr))
  rw [hf]
  by_cases h64 : y.k=64
  ·cases hfo : folP false y r with
   | false=>rfl
   | true =>
    cases hd : dolB y with
    | true=>simp
    | false =>
     simp only [Bool.true_and,Bool.not_false,Bool.and_true]
     unfold agreesP
     rw [h64]
     show exportS true y=exportS false y
     unfold exportS
     split
     ·rfl
     ·congr 1
      rw [h64] at hr
      cases (show ruleK 64=some ⟨6,1,[65],65⟩ from rfl).symm.trans hr
      unfold folP at hfo
      rw [Bool.and_eq_true] at hfo
      have hfl : fitsL false [65] 65 y.ks=true:=hfo.2
      rw [fitsL65,List.all_eq_true] at hfl
      rw [dol_eq,Bool.or_eq_false_iff] at hd
      have key : ∀ z ∈ y.ks,idT true z.t=idT false z.t:=fun z hz=>by
       have h1:=hfl z hz
       rw [fits_kind 65 (by omega),Bool.and_eq_true] at h1
       have hk : z.k=65:=by simpa using h1.1
       have h2:=List.any_eq_false.1 hd.2 z hz
       have h3 : dolB z=false:=by simpa using h2
       rw [dol_eq,Bool.or_eq_false_iff] at h3
       have h4:=h3.1
       unfold dl1 at h4
       rw [hk,show isK 65=true from rfl,Bool.true_and] at h4
       rw [id_mod,h4]
       simp
      rw [Bool.eq_iff_iff,List.all_eq_true,List.all_eq_true]
      exact ⟨fun h z hz=>by rw [← key z hz];exact h z hz,fun h z hz=>by rw [key z hz];exact h z hz⟩
  ·rw [agrees_mod h64]
   generalize folP false y r=a
   generalize agreesP false y=b
   generalize dolB y=c
   cases a <;> cases b <;> cases c <;> rfl
theorem mod_all (y : Nd) : ∀ p,fitsP true p y=(fitsP false p y && !dolB y):=by
 induction y using Nd.ind with
 | h y ih =>
  intro p
  rw [fitsP_eq,fitsP_eq]
  by_cases h : p=114∧y.k=6
  ·rw [if_pos h,if_pos h]
   exact fol_mod ih (fun _=>by rw [h.2];rfl) (fun e=>by cases e)
  ·rw [if_neg h,if_neg h,whole_mod' ih,Bool.and_assoc]
theorem fits109 (z : Nd) : fitsP true 109 z=(itB z && !dolB z):=by
 rw [mod_all,fitsP_eq,if_neg (by omega)]
 rfl
theorem module_whole {y : Nd} (h : y.k=68) : wholeP true y=(plainT y.t y.n && y.ks.all fun z=>itB z && !dolB z):=by
 have e : ∀ l : List Nd,fitsL true [] 109 l=l.all fun z=>itB z && !dolB z:=by
  intro l
  induction l with
  | nil=>rw [fitsL_nil];rfl
  | cons z l ih=>rw [fitsL_cons,List.all_cons,← ih];show (fitsP true 109 z && _)=_;rw [fits109];rfl
 unfold wholeP folP
 rw [h,show ruleK 68=some ⟨0,0,[],109⟩ from rfl]
 show (hdB true y.t y.n y.ks.length ⟨0,0,[],109⟩ && fitsL true [] 109 y.ks && agreesP true y)=_
 rw [show agreesP true y=true by unfold agreesP;rw [h];rfl,e,Bool.and_true,show hdB true y.t y.n y.ks.length ⟨0,0,[],109⟩=hdB false y.t y.n y.ks.length ⟨0,0,[],109⟩ from rfl,hd0,plainT_eq]
 simp
def scB (z : Nd) : Bool:=stB z || ((z.k == 42) && wholeP false z) || ((z.k == 66) && wholeP false z)
theorem fits110 (z : Nd) : fitsP false 110 z=scB z:=by
 rw [fitsP_eq,if_neg (by omega)]
 show (((formK z.k == 3) || (z.k == 42) || (z.k == 66)) && wholeP false z)=_
 unfold scB stB
 generalize (formK z.k == 3)=a
 generalize (z.k == 42)=b
 generalize (z.k == 66)=c
 generalize wholeP false z=d
 cases a <;> cases b <;> cases c <;> cases d <;> rfl
theorem script_whole {y : Nd} (h : y.k=69) : wholeP false y=(plainT y.t y.n && y.ks.all scB):=by
 rw [whole_at (r:=⟨0,0,[],110⟩) h rfl,show agreesP false y=true by unfold agreesP;rw [h];rfl,Bool.and_true,hd0,plainT_eq,fitsR 110 scB fits110]
 simp
end Go.Proofs.YtfcocoadaajbjaaGreatDoor
set_option linter.unusedVariables false
namespace Go.Proofs.YtfcocoadaajbjaaGreatDoor
open Go.RowKit
set_option linter.unusedSimpArgs false
end Go.Proofs.YtfcocoadaajbjaaGreatDoor
set_option linter.unusedVariables false
set_option linter.unusedSimpArgs false
namespace Go.Proofs.YtfcocoadaajbjaaGreatDoor.Sames
open Go.RowKit
end Go.Proofs.YtfcocoadaajbjaaGreatDoor.Sames
