/- Own text. Which trees are spaces: the document's answer. Which trees are imports: the document's answer. -/
import Derived.Test.YtfcocoadaajbjaaGreatDoorGd39
set_option linter.unusedVariables false
set_option linter.unusedSimpArgs false
set_option maxRecDepth 100000
set_option maxHeartbeats 8000000
namespace Go.Proofs.YtfcocoadaajbjaaGreatDoor
open Go.RowKit
def spB (y : Nd) : Bool:=(y.k == 67) && (y.n == 0) && propT false y.t.data.toList && ((y.ks.length : Int) == 1) && y.ks.all (naB false)
theorem q_na (loose : Bool) {w : World} {z : Nd} {za : Option Addr} {zc : Nat} (ht : z.t.size ≤ 4194304) : Hid (QB 77 w (nv z.k z.t z.n za z.ks.length zc) loose (naB loose z)):=fun W b=>name_anyG loose z.k z.t z.n za z.ks.length zc W ht
theorem space_66 (t : ByteArray) (l : List Nd) (hX : ∀ z ∈ l,z.t.size ≤ 4194304) (hX2 : ∀ z ∈ l,∀ u ∈ z.ks,u.t.size ≤ 4194304) (ht : t.size ≤ 4194304) (hl : l.length ≤ 4194304) (a : Option Addr) (c : Nat) (w : World) (S : Nat→Prop) (hx : LAt w S (.slice a l.length c) l) :
 Calls Tryz.prog 45 #[nv 66 t 0 a l.length c] w fun e w'=>e = .returned (.bool (idT false t && l.all spB))∧Below w.heap.size w w':=by
 have CP:=fun W=>rid_any t W ht
 generalize idT false t=p at *
 obtain ⟨ax,cx,bx,ox,fx,e,px,qx,rx⟩:=hx.op
 obtain ⟨rfl,rfl⟩ : a=ax∧c=cx:=by injection e with e1 e2 e3;exact ⟨e1,e3⟩
 clear e
 have X0 : (w.alloc (Obj.cells #[.int .i64 66,.string t,.int .i64 0,.slice a l.length c] 24)).heap[w.heap.size]?=some (.cells #[.int .i64 66,.string t,.int .i64 0,.slice a l.length c] 24 (0,0)):=hnew _ rfl
 have kp : Hid (∀ W',Below (w.heap.size+1) (w.alloc (Obj.cells #[.int .i64 66,.string t,.int .i64 0,.slice a l.length c] 24)) W'→(NqZ W' w.heap.size 66 t 0 a l.length c)):=fun W' b=>(box4 ((b.block _ (by omega)).trans X0)).1
 have kb : Hid (∀ W',Below (w.heap.size+1) (w.alloc (Obj.cells #[.int .i64 66,.string t,.int .i64 0,.slice a l.length c] 24)) W'→Below w.heap.size w W'∧w.heap.size+1 ≤ W'.heap.size):=fun W' b=>⟨(bel_a w _).trans (b.mono (by omega)),by have:=b.size;simpa using this⟩
 have kr : Hid (Below (w.heap.size+1) (w.alloc (Obj.cells #[.int .i64 66,.string t,.int .i64 0,.slice a l.length c] 24)) (w.alloc (Obj.cells #[.int .i64 66,.string t,.int .i64 0,.slice a l.length c] 24))):=Below.refl _ _
 clear X0
 go_enter Tryz.func45,Tryz.ntmps45
 cases p with
 | false =>
  go_wp2_with (go_at_call 13;refine (CP _).mono ?_;rintro e W1 ⟨rfl,b1⟩)
  go_ret
  exact ⟨ret_b (by simp),(bel_a w _).trans (b1.mono (by simp))⟩
 | true =>
 go_wp2_with (go_at_call 13;refine (CP _).mono ?_;rintro e W1 ⟨rfl,b1⟩;have k1:=kr.out.trans (b1.mono (by simp));obtain ⟨_,_,_,_⟩:=kp.out _ k1)
 clear b1
 generalize w.alloc (Obj.cells #[.int .i64 66,.string t,.int .i64 0,.slice a l.length c] 24)=W0 at *
 go_loopg [3] l.length (fun gk v3 wr=>∃ (k : Nat),v3 = .int .i64 (k : Nat)∧Hid (gk+k=l.length)∧Below (w.heap.size+1) W0 wr∧Hid (∀ y ∈ l.take k,spB y=true))
 case atStart=>exact ⟨0,rfl,by simp [Hid],k1,by simp [Hid]⟩
 case round =>
  obtain ⟨k,rfl,hk,bel0,HT⟩:=hrel
  obtain ⟨bel,sz⟩:=kb.out _ bel0
  have hkk : k ≤ l.length:=by have:=hk.out;omega
  obtain ⟨n1,n2,n3,n4⟩:=kp.out _ bel0
  by_cases hkl : k < l.length
  ·obtain ⟨rfl,hSx,hbx⟩:=px (by omega)
   have hm:=List.getElem_mem hkl
   have HS : Hid (l.take (k+1)=l.take k ++ [l[k]]):=List.take_succ_eq_append_getElem hkl
   have hX1:=hX _ hm
   have hX3:=hX2 _ hm
   have HM : Hid (l[k] ∈ l):=hm
   have hr:=rx k hkl
   have hq:=qx k hkl
   clear hm
   generalize l[k]=y at *
   generalize fx k=fk at *
   obtain ⟨ak,ck,rfl⟩:=hr.sl
   have C1:=q_prop w y.t hX1
   have HB : Hid (spB y=false→l.all spB=false):=fun h=>List.all_eq_false.2 ⟨y,HM.out,by rw [h];decide⟩
   have HG : Hid (spB y=true→∀ z ∈ l.take (k+1),spB z=true):=fun h z hz=>by
    rw [HS.out] at hz
    rcases List.mem_append.1 hz with hz | hz
    ·exact HT.out z hz
    ·obtain rfl : z=y:=by simpa using hz
     exact h
   have HP : Hid (spB y=((y.k == 67) && (y.n == 0) && propT false y.t.data.toList && ((y.ks.length : Int) == 1) && y.ks.all (naB false))):=rfl
   obtain ⟨u1,u2,u3,u4⟩:=(kid_at hq hr hbx bel).1
   clear hX hX2 px qx rx HM HS HT hq
   by_cases h10 : y.k=67
   ·rw [h10] at u1 HP
    by_cases hn : y.n=0
    ·rw [hn] at u3 HP
     generalize propT false y.t.data.toList=pt at *
     cases pt with
     | false =>
      have HR : Hid (l.all spB=false):=HB.out (by rw [HP.out];simp)
      clear HB HG HP
      go_wp2_with (go_at_call 68;refine (C1.out _ (made_bel bel bel.size)).mono ?_;rintro e W1 ⟨rfl,b1⟩;rw [made_size] at b1;have HV : Hid (∀ W,Below (wr.heap.size+1) W1 W→NqZ W wr.heap.size 67 y.t 0 ak y.ks.length ck):=fun W b=>made4 (b1.trans b);have c1:=(made_bel (Below.refl wr.heap.size wr) (Nat.le_refl _)).trans (b1.mono (Nat.le_succ _));have s1 : wr.heap.size+1 ≤ W1.heap.size:=(by have:=b1.size;rw [made_size] at this;exact this);have kb1:=Below.refl (wr.heap.size+1) W1;obtain ⟨_,_,_,_⟩:=HV.out _ kb1)
      go_ret
      exact ⟨ret_b (by rw [HR.out];simp),(bel.trans (c1.mono bel.size))⟩
     | true =>
      by_cases h1 : y.ks.length=1
      ·obtain ⟨z,hz⟩:=List.length_eq_one_iff.1 h1
       have hCz:=hX3 z (by rw [hz];simp)
       rw [hz] at hr HP
       obtain ⟨bz,oz,cz,az,rfl,hbz,hgz,hcz⟩:=one_at hr
       have HZ : Hid (∀ W,Below w.heap.size w W→NqO W bz oz z.k z.t z.n az z.ks.length cz):=hcz
       have C2 : Hid (QB 77 w (nv z.k z.t z.n az z.ks.length cz) false (naB false z)):=q_na false hCz
       clear hcz hCz hX3 hgz hr
       rw [h1] at u4
       have HP2 : Hid (spB y=naB false z):=by show _=_;rw [HP.out];simp
       clear HP hz
       generalize naB false z=nz at *
       cases nz with
       | false =>
        have HR : Hid (l.all spB=false):=HB.out HP2.out
        clear HB HG HP2
        go_wp2_with (first
         | (go_at_call 68;refine (C1.out _ (made_bel bel bel.size)).mono ?_;rintro e W1 ⟨rfl,b1⟩;rw [made_size] at b1;have HV : Hid (∀ W,Below (wr.heap.size+1) W1 W→NqZ W wr.heap.size 67 y.t 0 (some ⟨bz,oz,none⟩) 1 ck):=fun W b=>made4 (b1.trans b);have c1:=(made_bel (Below.refl wr.heap.size wr) (Nat.le_refl _)).trans (b1.mono (Nat.le_succ _));have s1 : wr.heap.size+1 ≤ W1.heap.size:=(by have:=b1.size;rw [made_size] at this;exact this);have kb1:=Below.refl (wr.heap.size+1) W1;obtain ⟨_,_,_,_⟩:=HV.out _ kb1;obtain ⟨_,_,_,_⟩:=HZ.out _ (bel.trans (c1.mono bel.size)))
         | (go_at_call 77;refine (C2.out _ (bel.trans (c1.mono bel.size))).mono ?_;rintro e W2 ⟨rfl,b2⟩;have kb2:=kb1.trans (b2.mono s1);have c2:=c1.trans (b2.mono c1.size);have s2 : wr.heap.size+1 ≤ W2.heap.size:=(by have:=b2.size;omega);obtain ⟨_,_,_,_⟩:=HV.out _ kb2;obtain ⟨_,_,_,_⟩:=HZ.out _ (bel.trans (c2.mono bel.size))))
        go_ret
        exact ⟨ret_b (by rw [HR.out];simp),(bel.trans (c2.mono bel.size))⟩
       | true =>
        have HR : Hid (∀ z ∈ l.take (k+1),spB z=true):=HG.out HP2.out
        clear HB HG HP2
        go_wp2_with (first
         | (go_at_call 68;refine (C1.out _ (made_bel bel bel.size)).mono ?_;rintro e W1 ⟨rfl,b1⟩;rw [made_size] at b1;have HV : Hid (∀ W,Below (wr.heap.size+1) W1 W→NqZ W wr.heap.size 67 y.t 0 (some ⟨bz,oz,none⟩) 1 ck):=fun W b=>made4 (b1.trans b);have c1:=(made_bel (Below.refl wr.heap.size wr) (Nat.le_refl _)).trans (b1.mono (Nat.le_succ _));have s1 : wr.heap.size+1 ≤ W1.heap.size:=(by have:=b1.size;rw [made_size] at this;exact this);have kb1:=Below.refl (wr.heap.size+1) W1;obtain ⟨_,_,_,_⟩:=HV.out _ kb1;obtain ⟨_,_,_,_⟩:=HZ.out _ (bel.trans (c1.mono bel.size)))
         | (go_at_call 77;refine (C2.out _ (bel.trans (c1.mono bel.size))).mono ?_;rintro e W2 ⟨rfl,b2⟩;have kb2:=kb1.trans (b2.mono s1);have c2:=c1.trans (b2.mono c1.size);have s2 : wr.heap.size+1 ≤ W2.heap.size:=(by have:=b2.size;omega);obtain ⟨_,_,_,_⟩:=HV.out _ kb2;obtain ⟨_,_,_,_⟩:=HZ.out _ (bel.trans (c2.mono bel.size))))
        go_roundg (gk - 1)
        case rel=>exact ⟨k+1,by simp,by have:=hk.out;show _=_;omega,bel0.trans (c2.mono sz),HR⟩
        case measure=>have:=hk.out;omega
      ·have h1' : ((y.ks.length : Int) == 1)=false:=by simp;omega
       have h2 : ¬ (y.ks.length : Int)=1:=by omega
       have HR : Hid (l.all spB=false):=HB.out (by rw [HP.out,h1'];simp)
       clear HB HG HP
       go_wp2_with (go_at_call 68;refine (C1.out _ (made_bel bel bel.size)).mono ?_;rintro e W1 ⟨rfl,b1⟩;rw [made_size] at b1;have HV : Hid (∀ W,Below (wr.heap.size+1) W1 W→NqZ W wr.heap.size 67 y.t 0 ak y.ks.length ck):=fun W b=>made4 (b1.trans b);have c1:=(made_bel (Below.refl wr.heap.size wr) (Nat.le_refl _)).trans (b1.mono (Nat.le_succ _));have s1 : wr.heap.size+1 ≤ W1.heap.size:=(by have:=b1.size;rw [made_size] at this;exact this);have kb1:=Below.refl (wr.heap.size+1) W1;obtain ⟨_,_,_,_⟩:=HV.out _ kb1)
       go_ret
       exact ⟨ret_b (by rw [HR.out];simp),(bel.trans (c1.mono bel.size))⟩
    ·have HR : Hid (l.all spB=false):=HB.out (by rw [HP.out];simp [hn])
     clear HB HG HP
     go_wp2
     go_ret
     exact ⟨ret_b (by rw [HR.out];simp),(made_bel bel bel.size)⟩
   ·have HR : Hid (l.all spB=false):=HB.out (by rw [HP.out];simp [h10])
    clear HB HG HP
    go_wp2
    go_ret
    exact ⟨ret_b (by rw [HR.out];simp),(made_bel bel bel.size)⟩
  ·have e : l.take k=l:=List.take_of_length_le (by omega)
   have HR : Hid (l.all spB=true):=List.all_eq_true.2 (by have:=HT.out;rw [e] at this;exact this)
   clear HT e hX hX2 px qx rx
   go_wp2
   go_ret
   exact ⟨ret_b (by rw [HR.out];simp),bel⟩
theorem space_no (k : Int) (n : Int) (h : k ≠ 66 ∨ n ≠ 0) (t : ByteArray) (ht : t.size ≤ 4194304) (a : Option Addr) (len c : Nat) (w : World) :
 Calls Tryz.prog 45 #[nv k t n a len c] w fun e w'=>e = .returned (.bool false)∧Below w.heap.size w w':=by
 have CP:=fun W=>rid_any t W ht
 generalize idT false t=p at *
 have X0 : (w.alloc (Obj.cells #[.int .i64 k,.string t,.int .i64 n,.slice a len c] 24)).heap[w.heap.size]?=some (.cells #[.int .i64 k,.string t,.int .i64 n,.slice a len c] 24 (0,0)):=hnew _ rfl
 have kp : Hid (∀ W',Below (w.heap.size+1) (w.alloc (Obj.cells #[.int .i64 k,.string t,.int .i64 n,.slice a len c] 24)) W'→(NqZ W' w.heap.size k t n a len c)):=fun W' b=>(box4 ((b.block _ (by omega)).trans X0)).1
 clear X0
 go_enter Tryz.func45,Tryz.ntmps45
 by_cases hk : k=66
 ·have hn : n ≠ 0:=by rcases h with h | h;exact absurd hk h;exact h
  clear h
  subst hk
  cases p with
  | false =>
   go_wp2_with (go_at_call 13;refine (CP _).mono ?_;rintro e W1 ⟨rfl,b1⟩)
   go_ret
   exact ⟨rfl,(bel_a w _).trans (b1.mono (by simp))⟩
  | true =>
   go_wp2_with (go_at_call 13;refine (CP _).mono ?_;rintro e W1 ⟨rfl,b1⟩;obtain ⟨_,_,_,_⟩:=kp.out _ (b1.mono (by simp)))
   go_ret
   exact ⟨rfl,(bel_a w _).trans (b1.mono (by simp))⟩
 ·clear h
  go_wp2
  go_ret
  exact ⟨rfl,bel_a _ _⟩
theorem class_no (k : Int) (n : Int) (h : k ≠ 42 ∨ n ≠ 0) (t : ByteArray) (ht : t.size ≤ 4194304) (a : Option Addr) (len c : Nat) (w : World) :
 Calls Tryz.prog 44 #[nv k t n a len c] w fun e w'=>e = .returned (.bool false)∧Below w.heap.size w w':=by
 have CP:=fun W=>rid_any t W ht
 generalize idT false t=p at *
 have X0 : (w.alloc (Obj.cells #[.int .i64 k,.string t,.int .i64 n,.slice a len c] 24)).heap[w.heap.size]?=some (.cells #[.int .i64 k,.string t,.int .i64 n,.slice a len c] 24 (0,0)):=hnew _ rfl
 have kp : Hid (∀ W',Below (w.heap.size+1) (w.alloc (Obj.cells #[.int .i64 k,.string t,.int .i64 n,.slice a len c] 24)) W'→(NqZ W' w.heap.size k t n a len c)):=fun W' b=>(box4 ((b.block _ (by omega)).trans X0)).1
 clear X0
 go_enter Tryz.func44,Tryz.ntmps44
 by_cases hk : k=42
 ·have hn : n ≠ 0:=by rcases h with h | h;exact absurd hk h;exact h
  clear h
  subst hk
  cases p with
  | false =>
   go_wp2_with (go_at_call 13;refine (CP _).mono ?_;rintro e W1 ⟨rfl,b1⟩)
   go_ret
   exact ⟨rfl,(bel_a w _).trans (b1.mono (by simp))⟩
  | true =>
   go_wp2_with (go_at_call 13;refine (CP _).mono ?_;rintro e W1 ⟨rfl,b1⟩;obtain ⟨_,_,_,_⟩:=kp.out _ (b1.mono (by simp)))
   go_ret
   exact ⟨rfl,(bel_a w _).trans (b1.mono (by simp))⟩
 ·clear h
  go_wp2
  go_ret
  exact ⟨rfl,bel_a _ _⟩
end Go.Proofs.YtfcocoadaajbjaaGreatDoor
namespace Go.Proofs.YtfcocoadaajbjaaGreatDoor
open Go.RowKit
def imB (y : Nd) : Bool:=(y.k == 61) && (y.n == 0) && ((y.ks.length : Int) == 1) && y.ks.all (naB false) && ((y.t.toList == [42]) || propT false y.t.data.toList)
def starOK (l : List Nd) : Bool:=((starN l == 0) || ((starN l == 1) && def0 l)) && (starN l == (l.length : Int) - 1)
def imS (l : List Nd) (n : Int) : Bool:=if starN l < 0 then (n == 0) || decide (0 < l.length) else starOK l && (n == 0)
theorem imS_eq (x : Nd) : importS x=imS x.ks x.n:=rfl
theorem starN_none {l : List Nd} (h : ∀ z ∈ l,(z.t.toList == [42])=false) : starN l = -1:=by
 unfold starN starI
 have : l.findIdx? (fun y=>y.t.toList == [42])=none:=by rw [List.findIdx?_eq_none_iff];exact h
 rw [this]
theorem starN_at {l : List Nd} {k : Nat} (hk : k < l.length) (h : ∀ z ∈ l.take k,(z.t.toList == [42])=false) (hs : (l[k].t.toList == [42])=true) : starN l=k:=by
 unfold starN starI
 have : l.findIdx? (fun y=>y.t.toList == [42])=some k:=by
  rw [List.findIdx?_eq_some_iff_getElem]
  refine ⟨hk,hs,fun j hj=>?_⟩
  have:=h l[j] (by rw [List.mem_take_iff_getElem];exact ⟨j,by omega,rfl⟩)
  simp [this]
 rw [this]
structure ImInv (l : List Nd) (k : Nat) (sb : Bool) : Prop where
 all : ∀ z ∈ l.take k,imB z=true
 no : sb=false→∀ z ∈ l.take k,(z.t.toList == [42])=false
 yes : sb=true→k=l.length∧0 ≤ starN l∧starOK l=true
theorem ImInv.zero (l : List Nd) : ImInv l 0 false:=⟨by simp,by simp,fun h=>by cases h⟩
section
variable {l : List Nd} {k : Nat}
theorem im_no (hk : k < l.length) (n : Int) (h : imB l[k]=false) : (l.all imB && imS l n)=false:=by
 rw [List.all_eq_false.2 ⟨l[k],List.getElem_mem hk,by rw [h];decide⟩]
 rfl
theorem im_bad (I : ImInv l k false) (hk : k < l.length) (n : Int) (hs : (l[k].t.toList == [42])=true) (h : 1 < k ∨ (k=1∧def0 l=false) ∨ k+1 < l.length) : (l.all imB && imS l n)=false:=by
 have e:=starN_at hk (I.no rfl) hs
 have : starOK l=false:=by
  unfold starOK
  rw [e]
  rcases h with h | ⟨h,h'⟩ | h
  ·rw [show ((k : Int) == 0)=false by simp;omega,show ((k : Int) == 1)=false by simp;omega]
   rfl
  ·rw [h',show ((k : Int) == 0)=false by simp;omega]
   simp
  ·rw [show ((k : Int) == (l.length : Int) - 1)=false by simp;omega]
   simp
 unfold imS
 rw [if_neg (by omega),this]
 simp
theorem im_all (I : ImInv l k false) (hk : k < l.length) (hm : imB l[k]=true) : ∀ z ∈ l.take (k+1),imB z=true:=fun z hz=>by
 rw [(show l.take (k+1)=l.take k ++ [l[k]] from List.take_succ_eq_append_getElem hk)] at hz
 rcases List.mem_append.1 hz with hz | hz
 ·exact I.all z hz
 ·obtain rfl : z=l[k]:=by simpa using hz
  exact hm
theorem im_star (I : ImInv l k false) (hk : k < l.length) (hm : imB l[k]=true) (hs : (l[k].t.toList == [42])=true) (h1 : k=0 ∨ (k=1∧def0 l=true)) (h2 : k+1=l.length) : ImInv l (k+1) true:=by
 have e:=starN_at hk (I.no rfl) hs
 refine ⟨im_all I hk hm,(fun h=>by cases h),fun _=>⟨h2,by omega,?_⟩⟩
 unfold starOK
 rw [e,show ((k : Int) == (l.length : Int) - 1)=true by simp;omega]
 rcases h1 with h1 | ⟨h1,h1'⟩
 ·rw [show ((k : Int) == 0)=true by simp;omega]
  rfl
 ·rw [h1',show ((k : Int) == 1)=true by simp;omega]
  simp
theorem im_next (I : ImInv l k false) (hk : k < l.length) (hm : imB l[k]=true) (hs : (l[k].t.toList == [42])=false) : ImInv l (k+1) false :=
 ⟨im_all I hk hm,fun _ z hz=>by
  rw [(show l.take (k+1)=l.take k ++ [l[k]] from List.take_succ_eq_append_getElem hk)] at hz
  rcases List.mem_append.1 hz with hz | hz
  ·exact I.no rfl z hz
  ·obtain rfl : z=l[k]:=by simpa using hz
   exact hs,fun h=>by cases h⟩
end
theorem ImInv.done {l : List Nd} {k : Nat} {sb : Bool} (I : ImInv l k sb) (hk : l.length ≤ k) (n : Int) : (l.all imB && imS l n)=((n == 0) || (decide (0 < l.length) && !sb)):=by
 have e : l.take k=l:=List.take_of_length_le hk
 have h1:=I.all
 rw [e] at h1
 rw [List.all_eq_true.2 h1,Bool.true_and]
 unfold imS
 cases sb with
 | false =>
  have h2:=I.no rfl
  rw [e] at h2
  rw [starN_none h2,if_pos (by omega)]
  simp
 | true =>
  obtain ⟨_,h3,h4⟩:=I.yes rfl
  rw [if_neg (by omega),h4]
  simp
theorem imports_m (m : Int) (hm : m=0 ∨ m=1) (t : ByteArray) (l : List Nd) (hX : ∀ z ∈ l,z.t.size ≤ 4194304) (hX2 : ∀ z ∈ l,∀ u ∈ z.ks,u.t.size ≤ 4194304) (ht : t.size ≤ 4194304) (hl : l.length ≤ 4194304) (a : Option Addr) (c : Nat) (w : World) (S : Nat→Prop) (hx : LAt w S (.slice a l.length c) l) :
 Calls Tryz.prog 75 #[nv 60 t m a l.length c] w fun e w'=>e = .returned (.bool (validL t.data.toList && (l.all imB && imS l m)))∧Below w.heap.size w w':=by
 have CP:=fun W=>rvalid_any t W (by omega)
 generalize validL t.data.toList=p at *
 obtain ⟨ax,cx,bx,ox,fx,e,px,qx,rx⟩:=hx.op
 obtain ⟨rfl,rfl⟩ : a=ax∧c=cx:=by injection e with e1 e2 e3;exact ⟨e1,e3⟩
 clear e
 have X0 : (w.alloc (Obj.cells #[.int .i64 60,.string t,.int .i64 m,.slice a l.length c] 24)).heap[w.heap.size]?=some (.cells #[.int .i64 60,.string t,.int .i64 m,.slice a l.length c] 24 (0,0)):=hnew _ rfl
 have kp : Hid (∀ W',Below (w.heap.size+1) (w.alloc (Obj.cells #[.int .i64 60,.string t,.int .i64 m,.slice a l.length c] 24)) W'→(NqZ W' w.heap.size 60 t m a l.length c)):=fun W' b=>(box4 ((b.block _ (by omega)).trans X0)).1
 have kb : Hid (∀ W',Below (w.heap.size+1) (w.alloc (Obj.cells #[.int .i64 60,.string t,.int .i64 m,.slice a l.length c] 24)) W'→Below w.heap.size w W'∧w.heap.size+1 ≤ W'.heap.size):=fun W' b=>⟨(bel_a w _).trans (b.mono (by omega)),by have:=b.size;simpa using this⟩
 have kr : Hid (Below (w.heap.size+1) (w.alloc (Obj.cells #[.int .i64 60,.string t,.int .i64 m,.slice a l.length c] 24)) (w.alloc (Obj.cells #[.int .i64 60,.string t,.int .i64 m,.slice a l.length c] 24))):=Below.refl _ _
 clear X0
 have hcl : ((m == 0)=true∧(m != 0)=false) ∨ ((m == 0)=false∧(m != 0)=true∧(m != 1)=false∧(m == 1)=true):=by rcases hm with rfl | rfl <;> decide
 clear hm
 rcases hcl with ⟨em,e0⟩ | ⟨em,e0,e1,e1'⟩
 all_goals
  go_enter Tryz.func75,Tryz.ntmps75
  cases p with
  | false =>
   go_wp2_with (go_at_call 66;refine (CP _).mono ?_;rintro e W1 ⟨rfl,b1⟩)
   go_ret
   exact ⟨ret_b (by simp),(bel_a w _).trans (b1.mono (by simp))⟩
  | true =>
  go_wp2_with (go_at_call 66;refine (CP _).mono ?_;rintro e W1 ⟨rfl,b1⟩;have k1:=kr.out.trans (b1.mono (by simp));obtain ⟨_,_,_,_⟩:=kp.out _ k1)
  clear b1
  generalize w.alloc (Obj.cells #[.int .i64 60,.string t,.int .i64 m,.slice a l.length c] 24)=W0 at *
  go_loopg [3,4] l.length (fun gk v3 v4 wr=>∃ (k : Nat) (sb : Bool),v3 = .bool sb∧v4 = .int .i64 (k : Nat)∧Hid (gk+k=l.length)∧Below (w.heap.size+1) W0 wr∧Hid (ImInv l k sb))
  case atStart=>exact ⟨0,false,rfl,rfl,by simp [Hid],k1,ImInv.zero l⟩
  case round =>
   obtain ⟨k,sb,rfl,rfl,hk,bel0,HI⟩:=hrel
   obtain ⟨bel,sz⟩:=kb.out _ bel0
   have hkk : k ≤ l.length:=by have:=hk.out;omega
   obtain ⟨n1,n2,n3,n4⟩:=kp.out _ bel0
   by_cases hkl : k < l.length
   ·obtain rfl : sb=false:=by
     cases sb with
     | false=>rfl
     | true=>have:=(HI.out.yes rfl).1;omega
    obtain ⟨rfl,hSx,hbx⟩:=px (by omega)
    have hm:=List.getElem_mem hkl
    have hX1:=hX _ hm
    have hX3:=hX2 _ hm
    have H0 : Hid (∀ W,Below w.heap.size w W→W.cell? ⟨bx,ox+1,none⟩=some (.string (l[0]'(by omega)).t)):=fun W b=>by
     have:=(kid_at (k:=0) (qx 0 (by omega)) (rx 0 (by omega)) hbx b).1.2.1
     simpa using this
    have HD : Hid (def0 l=((l[0]'(by omega)).t.toList == [100,101,102,97,117,108,116])):=by
     have:=def0_get l (by omega)
     show _=_
     rw [Bool.eq_iff_iff,← this]
     simp
    have HB : Hid (imB l[k]=false→(l.all imB && imS l m)=false):=im_no hkl m
    have HBad : Hid ((l[k].t.toList == [42])=true→(1 < k ∨ (k=1∧def0 l=false) ∨ k+1 < l.length)→(l.all imB && imS l m)=false):=im_bad HI.out hkl m
    have HStar : Hid (imB l[k]=true→(l[k].t.toList == [42])=true→(k=0 ∨ (k=1∧def0 l=true))→k+1=l.length→ImInv l (k+1) true):=im_star HI.out hkl
    have HNext : Hid (imB l[k]=true→(l[k].t.toList == [42])=false→ImInv l (k+1) false):=im_next HI.out hkl
    have HP : Hid (imB l[k]=((l[k].k == 61) && (l[k].n == 0) && ((l[k].ks.length : Int) == 1) && l[k].ks.all (naB false) && ((l[k].t.toList == [42]) || propT false l[k].t.data.toList))):=rfl
    have hr:=rx k hkl
    have hq:=qx k hkl
    clear hm HI
    generalize (l[0]'(by omega)).t=t0 at *
    generalize l[k]=y at *
    generalize fx k=fk at *
    obtain ⟨ak,ck,rfl⟩:=hr.sl
    have C1:=q_prop w y.t hX1
    obtain ⟨u1,u2,u3,u4⟩:=(kid_at hq hr hbx bel).1
    clear hX hX2 px qx rx hq
    by_cases h10 : y.k=61
    ·rw [h10] at u1 HP
     by_cases hn : y.n=0
     ·rw [hn] at u3 HP
      by_cases h1 : y.ks.length=1
      ·obtain ⟨z,hz⟩:=List.length_eq_one_iff.1 h1
       have hCz:=hX3 z (by rw [hz];simp)
       rw [hz] at hr HP
       obtain ⟨bz,oz,cz,az,rfl,hbz,hgz,hcz⟩:=one_at hr
       have HZ : Hid (∀ W,Below w.heap.size w W→NqO W bz oz z.k z.t z.n az z.ks.length cz):=hcz
       have C2 : Hid (QB 77 w (nv z.k z.t z.n az z.ks.length cz) false (naB false z)):=q_na false hCz
       clear hcz hCz hX3 hgz hr
       rw [h1] at u4
       have HP2 : Hid (imB y=(naB false z && ((y.t.toList == [42]) || propT false y.t.data.toList))):=by show _=_;rw [HP.out];simp
       clear HP hz
       have HP:=HP2
       clear HP2
       generalize propT false y.t.data.toList=pt at *
       generalize naB false z=nz at *
       obtain ⟨z1,z2,z3,z4⟩:=HZ.out _ (made_bel (o:=Obj.cells #[.int .i64 61,.string y.t,.int .i64 0,.slice (some ⟨bz,oz,none⟩) 1 ck] 24) bel bel.size)
       cases nz with
       | false =>
        have HR : Hid ((l.all imB && imS l m)=false):=HB.out HP.out
        clear HB HP HBad HStar HNext
        go_wp2_with (go_at_call 77;refine (C2.out _ (made_bel bel bel.size)).mono ?_;rintro e W1 ⟨rfl,b1⟩;rw [made_size] at b1;have HV : Hid (∀ W,Below (wr.heap.size+1) W1 W→NqZ W wr.heap.size 61 y.t 0 (some ⟨bz,oz,none⟩) 1 ck):=fun W b=>made4 (b1.trans b);have c1:=(made_bel (Below.refl wr.heap.size wr) (Nat.le_refl _)).trans (b1.mono (Nat.le_succ _));have s1 : wr.heap.size+1 ≤ W1.heap.size:=(by have:=b1.size;rw [made_size] at this;exact this);have kb1:=Below.refl (wr.heap.size+1) W1;obtain ⟨_,_,_,_⟩:=HV.out _ kb1;obtain ⟨_,_,_,_⟩:=HZ.out _ (bel.trans (c1.mono bel.size));obtain ⟨_,_,_,_⟩:=kp.out _ (bel0.trans (c1.mono sz));have g1:=H0.out _ (bel.trans (c1.mono bel.size)))
        go_ret
        exact ⟨ret_b (by first | rw [Bool.true_and,HR.out] | rw [HR.out]),(bel.trans (c1.mono bel.size))⟩
       | true =>
        cases he : (y.t.toList == [42]) with
        | false =>
         rw [he] at HP
         cases pt with
         | false =>
          have HR : Hid ((l.all imB && imS l m)=false):=HB.out HP.out
          clear HB HP HBad HStar HNext
          go_wp2_with (first
           | (go_at_call 77;refine (C2.out _ (made_bel bel bel.size)).mono ?_;rintro e W1 ⟨rfl,b1⟩;rw [made_size] at b1;have HV : Hid (∀ W,Below (wr.heap.size+1) W1 W→NqZ W wr.heap.size 61 y.t 0 (some ⟨bz,oz,none⟩) 1 ck):=fun W b=>made4 (b1.trans b);have c1:=(made_bel (Below.refl wr.heap.size wr) (Nat.le_refl _)).trans (b1.mono (Nat.le_succ _));have s1 : wr.heap.size+1 ≤ W1.heap.size:=(by have:=b1.size;rw [made_size] at this;exact this);have kb1:=Below.refl (wr.heap.size+1) W1;obtain ⟨_,_,_,_⟩:=HV.out _ kb1;obtain ⟨_,_,_,_⟩:=HZ.out _ (bel.trans (c1.mono bel.size));obtain ⟨_,_,_,_⟩:=kp.out _ (bel0.trans (c1.mono sz));have g1:=H0.out _ (bel.trans (c1.mono bel.size)))
           | (go_at_call 68;refine (C1.out _ (bel.trans (c1.mono bel.size))).mono ?_;rintro e W2 ⟨rfl,b2⟩;have kb2:=kb1.trans (b2.mono s1);have c2:=c1.trans (b2.mono c1.size);have s2 : wr.heap.size+1 ≤ W2.heap.size:=(by have:=b2.size;omega);obtain ⟨_,_,_,_⟩:=HV.out _ kb2;obtain ⟨_,_,_,_⟩:=HZ.out _ (bel.trans (c2.mono bel.size));obtain ⟨_,_,_,_⟩:=kp.out _ (bel0.trans (c2.mono sz));have g2:=H0.out _ (bel.trans (c2.mono bel.size))))
          go_ret
          exact ⟨ret_b (by first | rw [Bool.true_and,HR.out] | rw [HR.out]),(bel.trans (c2.mono bel.size))⟩
         | true =>
          have HR : Hid (ImInv l (k+1) false):=HNext.out HP.out he
          clear HB HP HBad HStar HNext
          go_wp2_with (first
           | (go_at_call 77;refine (C2.out _ (made_bel bel bel.size)).mono ?_;rintro e W1 ⟨rfl,b1⟩;rw [made_size] at b1;have HV : Hid (∀ W,Below (wr.heap.size+1) W1 W→NqZ W wr.heap.size 61 y.t 0 (some ⟨bz,oz,none⟩) 1 ck):=fun W b=>made4 (b1.trans b);have c1:=(made_bel (Below.refl wr.heap.size wr) (Nat.le_refl _)).trans (b1.mono (Nat.le_succ _));have s1 : wr.heap.size+1 ≤ W1.heap.size:=(by have:=b1.size;rw [made_size] at this;exact this);have kb1:=Below.refl (wr.heap.size+1) W1;obtain ⟨_,_,_,_⟩:=HV.out _ kb1;obtain ⟨_,_,_,_⟩:=HZ.out _ (bel.trans (c1.mono bel.size));obtain ⟨_,_,_,_⟩:=kp.out _ (bel0.trans (c1.mono sz));have g1:=H0.out _ (bel.trans (c1.mono bel.size)))
           | (go_at_call 68;refine (C1.out _ (bel.trans (c1.mono bel.size))).mono ?_;rintro e W2 ⟨rfl,b2⟩;have kb2:=kb1.trans (b2.mono s1);have c2:=c1.trans (b2.mono c1.size);have s2 : wr.heap.size+1 ≤ W2.heap.size:=(by have:=b2.size;omega);obtain ⟨_,_,_,_⟩:=HV.out _ kb2;obtain ⟨_,_,_,_⟩:=HZ.out _ (bel.trans (c2.mono bel.size));obtain ⟨_,_,_,_⟩:=kp.out _ (bel0.trans (c2.mono sz));have g2:=H0.out _ (bel.trans (c2.mono bel.size))))
          go_roundg (gk - 1)
          case rel=>exact ⟨k+1,false,rfl,(by first | (simp;done) | (simp;omega)),by have:=hk.out;show _=_;omega,bel0.trans (c2.mono sz),HR⟩
          case measure=>have:=hk.out;omega
        | true =>
         rw [he] at HP
         by_cases hk1 : 1 < k
         ·have hk1' : (1 : Int) < (k : Int):=by omega
          have HR : Hid ((l.all imB && imS l m)=false):=HBad.out he (.inl hk1)
          clear HB HP HBad HStar HNext
          go_wp2_with (go_at_call 77;refine (C2.out _ (made_bel bel bel.size)).mono ?_;rintro e W1 ⟨rfl,b1⟩;rw [made_size] at b1;have HV : Hid (∀ W,Below (wr.heap.size+1) W1 W→NqZ W wr.heap.size 61 y.t 0 (some ⟨bz,oz,none⟩) 1 ck):=fun W b=>made4 (b1.trans b);have c1:=(made_bel (Below.refl wr.heap.size wr) (Nat.le_refl _)).trans (b1.mono (Nat.le_succ _));have s1 : wr.heap.size+1 ≤ W1.heap.size:=(by have:=b1.size;rw [made_size] at this;exact this);have kb1:=Below.refl (wr.heap.size+1) W1;obtain ⟨_,_,_,_⟩:=HV.out _ kb1;obtain ⟨_,_,_,_⟩:=HZ.out _ (bel.trans (c1.mono bel.size));obtain ⟨_,_,_,_⟩:=kp.out _ (bel0.trans (c1.mono sz));have g1:=H0.out _ (bel.trans (c1.mono bel.size)))
          go_ret
          exact ⟨ret_b (by first | rw [Bool.true_and,HR.out] | rw [HR.out]),(bel.trans (c1.mono bel.size))⟩
         ·have hk1' : ¬ (1 : Int) < (k : Int):=by omega
          by_cases hk2 : k=1
          ·have hk2' : (k : Int)=1:=by omega
           have v1 : wr.cell? ⟨bx,ox+4,none⟩=some (.int .i64 61):=by have:=u1;rw [hk2] at this;exact this
           have v2 : wr.cell? ⟨bx,ox+4+1,none⟩=some (.string y.t):=by have:=u2;rw [hk2] at this;exact this
           have v3 : wr.cell? ⟨bx,ox+4+2,none⟩=some (.int .i64 0):=by have:=u3;rw [hk2] at this;exact this
           have v4 : wr.cell? ⟨bx,ox+4+3,none⟩=some (.slice (some ⟨bz,oz,none⟩) 1 ck):=by have:=u4;rw [hk2] at this;exact this
           cases hd : (t0.toList == [100,101,102,97,117,108,116]) with
           | false =>
            have HR : Hid ((l.all imB && imS l m)=false):=HBad.out he (.inr (.inl ⟨hk2,HD.out.trans hd⟩))
            clear HB HP HBad HStar HNext
            go_wp2_with (go_at_call 77;refine (C2.out _ (made_bel bel bel.size)).mono ?_;rintro e W1 ⟨rfl,b1⟩;rw [made_size] at b1;have HV : Hid (∀ W,Below (wr.heap.size+1) W1 W→NqZ W wr.heap.size 61 y.t 0 (some ⟨bz,oz,none⟩) 1 ck):=fun W b=>made4 (b1.trans b);have c1:=(made_bel (Below.refl wr.heap.size wr) (Nat.le_refl _)).trans (b1.mono (Nat.le_succ _));have s1 : wr.heap.size+1 ≤ W1.heap.size:=(by have:=b1.size;rw [made_size] at this;exact this);have kb1:=Below.refl (wr.heap.size+1) W1;obtain ⟨_,_,_,_⟩:=HV.out _ kb1;obtain ⟨_,_,_,_⟩:=HZ.out _ (bel.trans (c1.mono bel.size));obtain ⟨_,_,_,_⟩:=kp.out _ (bel0.trans (c1.mono sz));have g1:=H0.out _ (bel.trans (c1.mono bel.size)))
            go_ret
            exact ⟨ret_b (by first | rw [Bool.true_and,HR.out] | rw [HR.out]),(bel.trans (c1.mono bel.size))⟩
           | true =>
            by_cases hk3 : k+1 < l.length
            ·have hk3' : (k : Int)+1 < (l.length : Int):=by omega
             have HR : Hid ((l.all imB && imS l m)=false):=HBad.out he (.inr (.inr hk3))
             clear HB HP HBad HStar HNext
             go_wp2_with (go_at_call 77;refine (C2.out _ (made_bel bel bel.size)).mono ?_;rintro e W1 ⟨rfl,b1⟩;rw [made_size] at b1;have HV : Hid (∀ W,Below (wr.heap.size+1) W1 W→NqZ W wr.heap.size 61 y.t 0 (some ⟨bz,oz,none⟩) 1 ck):=fun W b=>made4 (b1.trans b);have c1:=(made_bel (Below.refl wr.heap.size wr) (Nat.le_refl _)).trans (b1.mono (Nat.le_succ _));have s1 : wr.heap.size+1 ≤ W1.heap.size:=(by have:=b1.size;rw [made_size] at this;exact this);have kb1:=Below.refl (wr.heap.size+1) W1;obtain ⟨_,_,_,_⟩:=HV.out _ kb1;obtain ⟨_,_,_,_⟩:=HZ.out _ (bel.trans (c1.mono bel.size));obtain ⟨_,_,_,_⟩:=kp.out _ (bel0.trans (c1.mono sz));have g1:=H0.out _ (bel.trans (c1.mono bel.size)))
             go_ret
             exact ⟨ret_b (by first | rw [Bool.true_and,HR.out] | rw [HR.out]),(bel.trans (c1.mono bel.size))⟩
            ·have hk3' : ¬ (k : Int)+1 < (l.length : Int):=by omega
             have HR : Hid (ImInv l (k+1) true):=HStar.out HP.out he (.inr ⟨hk2,HD.out.trans hd⟩) (by omega)
             clear HB HP HBad HStar HNext
             go_wp2_with (go_at_call 77;refine (C2.out _ (made_bel bel bel.size)).mono ?_;rintro e W1 ⟨rfl,b1⟩;rw [made_size] at b1;have HV : Hid (∀ W,Below (wr.heap.size+1) W1 W→NqZ W wr.heap.size 61 y.t 0 (some ⟨bz,oz,none⟩) 1 ck):=fun W b=>made4 (b1.trans b);have c1:=(made_bel (Below.refl wr.heap.size wr) (Nat.le_refl _)).trans (b1.mono (Nat.le_succ _));have s1 : wr.heap.size+1 ≤ W1.heap.size:=(by have:=b1.size;rw [made_size] at this;exact this);have kb1:=Below.refl (wr.heap.size+1) W1;obtain ⟨_,_,_,_⟩:=HV.out _ kb1;obtain ⟨_,_,_,_⟩:=HZ.out _ (bel.trans (c1.mono bel.size));obtain ⟨_,_,_,_⟩:=kp.out _ (bel0.trans (c1.mono sz));have g1:=H0.out _ (bel.trans (c1.mono bel.size)))
             go_roundg (gk - 1)
             case rel=>exact ⟨k+1,true,rfl,(by first | (simp;done) | (simp;omega)),by have:=hk.out;show _=_;omega,bel0.trans (c1.mono sz),HR⟩
             case measure=>have:=hk.out;omega
          ·have hk2' : ¬ (k : Int)=1:=by omega
           by_cases hk3 : k+1 < l.length
           ·have hk3' : (k : Int)+1 < (l.length : Int):=by omega
            have HR : Hid ((l.all imB && imS l m)=false):=HBad.out he (.inr (.inr hk3))
            clear HB HP HBad HStar HNext
            go_wp2_with (go_at_call 77;refine (C2.out _ (made_bel bel bel.size)).mono ?_;rintro e W1 ⟨rfl,b1⟩;rw [made_size] at b1;have HV : Hid (∀ W,Below (wr.heap.size+1) W1 W→NqZ W wr.heap.size 61 y.t 0 (some ⟨bz,oz,none⟩) 1 ck):=fun W b=>made4 (b1.trans b);have c1:=(made_bel (Below.refl wr.heap.size wr) (Nat.le_refl _)).trans (b1.mono (Nat.le_succ _));have s1 : wr.heap.size+1 ≤ W1.heap.size:=(by have:=b1.size;rw [made_size] at this;exact this);have kb1:=Below.refl (wr.heap.size+1) W1;obtain ⟨_,_,_,_⟩:=HV.out _ kb1;obtain ⟨_,_,_,_⟩:=HZ.out _ (bel.trans (c1.mono bel.size));obtain ⟨_,_,_,_⟩:=kp.out _ (bel0.trans (c1.mono sz));have g1:=H0.out _ (bel.trans (c1.mono bel.size)))
            go_ret
            exact ⟨ret_b (by first | rw [Bool.true_and,HR.out] | rw [HR.out]),(bel.trans (c1.mono bel.size))⟩
           ·have hk3' : ¬ (k : Int)+1 < (l.length : Int):=by omega
            have HR : Hid (ImInv l (k+1) true):=HStar.out HP.out he (.inl (by omega)) (by omega)
            clear HB HP HBad HStar HNext
            go_wp2_with (go_at_call 77;refine (C2.out _ (made_bel bel bel.size)).mono ?_;rintro e W1 ⟨rfl,b1⟩;rw [made_size] at b1;have HV : Hid (∀ W,Below (wr.heap.size+1) W1 W→NqZ W wr.heap.size 61 y.t 0 (some ⟨bz,oz,none⟩) 1 ck):=fun W b=>made4 (b1.trans b);have c1:=(made_bel (Below.refl wr.heap.size wr) (Nat.le_refl _)).trans (b1.mono (Nat.le_succ _));have s1 : wr.heap.size+1 ≤ W1.heap.size:=(by have:=b1.size;rw [made_size] at this;exact this);have kb1:=Below.refl (wr.heap.size+1) W1;obtain ⟨_,_,_,_⟩:=HV.out _ kb1;obtain ⟨_,_,_,_⟩:=HZ.out _ (bel.trans (c1.mono bel.size));obtain ⟨_,_,_,_⟩:=kp.out _ (bel0.trans (c1.mono sz));have g1:=H0.out _ (bel.trans (c1.mono bel.size)))
            go_roundg (gk - 1)
            case rel=>exact ⟨k+1,true,rfl,(by first | (simp;done) | (simp;omega)),by have:=hk.out;show _=_;omega,bel0.trans (c1.mono sz),HR⟩
            case measure=>have:=hk.out;omega
      ·have h1' : ((y.ks.length : Int) == 1)=false:=by simp;omega
       have h2 : ¬ (y.ks.length : Int)=1:=by omega
       have HR : Hid ((l.all imB && imS l m)=false):=HB.out (by rw [HP.out,h1'];simp)
       clear HB HP HBad HStar HNext
       go_wp2
       go_ret
       exact ⟨ret_b (by first | rw [Bool.true_and,HR.out] | rw [HR.out]),(made_bel bel bel.size)⟩
     ·have HR : Hid ((l.all imB && imS l m)=false):=HB.out (by rw [HP.out];simp [hn])
      clear HB HP HBad HStar HNext
      go_wp2
      go_ret
      exact ⟨ret_b (by first | rw [Bool.true_and,HR.out] | rw [HR.out]),(made_bel bel bel.size)⟩
    ·have HR : Hid ((l.all imB && imS l m)=false):=HB.out (by rw [HP.out];simp [h10])
     clear HB HP HBad HStar HNext
     go_wp2
     go_ret
     exact ⟨ret_b (by first | rw [Bool.true_and,HR.out] | rw [HR.out]),(made_bel bel bel.size)⟩
   ·have HR : Hid ((l.all imB && imS l m)=((m == 0) || (decide (0 < l.length) && !sb))):=HI.out.done (by omega) m
    clear HI hX hX2 px qx rx
    by_cases hz : l.length=0
    ·have hz' : ¬ (0 : Int) < (l.length : Int):=by omega
     go_wp2
     go_ret
     exact ⟨ret_b (by (first | rw [Bool.true_and,HR.out] | rw [HR.out]);(try rw [em]);first | done | simp [hz]),bel⟩
    ·have hz' : (0 : Int) < (l.length : Int):=by omega
     have hz2 : 0 < l.length:=by omega
     go_wp2
     go_ret
     exact ⟨ret_b (by (first | rw [Bool.true_and,HR.out] | rw [HR.out]);(try rw [em]);first | done | simp [hz2]),bel⟩
theorem imports_0 (t : ByteArray) (l : List Nd) (hX : ∀ z ∈ l,z.t.size ≤ 4194304) (hX2 : ∀ z ∈ l,∀ u ∈ z.ks,u.t.size ≤ 4194304) (ht : t.size ≤ 4194304) (hl : l.length ≤ 4194304) (a : Option Addr) (c : Nat) (w : World) (S : Nat→Prop) (hx : LAt w S (.slice a l.length c) l) :
 Calls Tryz.prog 75 #[nv 60 t 0 a l.length c] w fun e w'=>e = .returned (.bool (validL t.data.toList && (l.all imB && imS l 0)))∧Below w.heap.size w w':=imports_m 0 (.inl rfl) t l hX hX2 ht hl a c w S hx
theorem imports_1 (t : ByteArray) (l : List Nd) (hX : ∀ z ∈ l,z.t.size ≤ 4194304) (hX2 : ∀ z ∈ l,∀ u ∈ z.ks,u.t.size ≤ 4194304) (ht : t.size ≤ 4194304) (hl : l.length ≤ 4194304) (a : Option Addr) (c : Nat) (w : World) (S : Nat→Prop) (hx : LAt w S (.slice a l.length c) l) :
 Calls Tryz.prog 75 #[nv 60 t 1 a l.length c] w fun e w'=>e = .returned (.bool (validL t.data.toList && (l.all imB && imS l 1)))∧Below w.heap.size w w':=imports_m 1 (.inr rfl) t l hX hX2 ht hl a c w S hx
theorem imports_no (n : Int) (h0 : n ≠ 0) (h1 : n ≠ 1) (t : ByteArray) (ht : t.size ≤ 4194304) (a : Option Addr) (len c : Nat) (w : World) :
 Calls Tryz.prog 75 #[nv 60 t n a len c] w fun e w'=>e = .returned (.bool false)∧Below w.heap.size w w':=by
 have CP:=fun W=>rvalid_any t W (by omega)
 generalize validL t.data.toList=p at *
 have X0 : (w.alloc (Obj.cells #[.int .i64 60,.string t,.int .i64 n,.slice a len c] 24)).heap[w.heap.size]?=some (.cells #[.int .i64 60,.string t,.int .i64 n,.slice a len c] 24 (0,0)):=hnew _ rfl
 have kp : Hid (∀ W',Below (w.heap.size+1) (w.alloc (Obj.cells #[.int .i64 60,.string t,.int .i64 n,.slice a len c] 24)) W'→(NqZ W' w.heap.size 60 t n a len c)):=fun W' b=>(box4 ((b.block _ (by omega)).trans X0)).1
 clear X0
 have e0 : (n != 0)=true:=by simpa using h0
 have e1 : (n != 1)=true:=by simpa using h1
 go_enter Tryz.func75,Tryz.ntmps75
 cases p with
 | false =>
  go_wp2_with (go_at_call 66;refine (CP _).mono ?_;rintro e W1 ⟨rfl,b1⟩)
  go_ret
  exact ⟨rfl,(bel_a w _).trans (b1.mono (by simp))⟩
 | true =>
  go_wp2_with (go_at_call 66;refine (CP _).mono ?_;rintro e W1 ⟨rfl,b1⟩;obtain ⟨_,_,_,_⟩:=kp.out _ (b1.mono (by simp)))
  go_ret
  exact ⟨rfl,(bel_a w _).trans (b1.mono (by simp))⟩
end Go.Proofs.YtfcocoadaajbjaaGreatDoor
