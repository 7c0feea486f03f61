/- Own text. Items: the document's answer,of all trees. The form of a tree: the document's answer. The form of any tree: the law's own walk. -/
import Derived.Test.YtfcocoadaajbjaaGreatDoorGd40
import Derived.Test.YtfcocoadaajbjaaGreatDoorGd44
import Derived.Test.YtfcocoadaajbjaaGreatDoorGd45
set_option linter.unusedVariables false
set_option linter.unusedSimpArgs false
set_option maxRecDepth 100000
set_option maxHeartbeats 8000000
namespace Go.Proofs.YtfcocoadaajbjaaGreatDoor
open Go.RowKit
theorem from_no (n : Int) (h0 : n ≠ 0) (h1 : n ≠ 1) (t : ByteArray) (ht : t.size ≤ 4194304) (a : Option Addr) (len c : Nat) (w : World) :
 Calls Tryz.prog 76 #[nv 64 t n a len c] w fun e w'=>e = .returned (.bool false)∧Below w.heap.size w w':=by
 have CP:=fun W=>rvalid_any t W (by omega)
 generalize validL t.data.toList=p at *
 have X0 : (w.alloc (Obj.cells #[.int .i64 64,.string t,.int .i64 n,.slice a len c] 24)).heap[w.heap.size]?=some (.cells #[.int .i64 64,.string t,.int .i64 n,.slice a len c] 24 (0,0)):=hnew _ rfl
 have kp : Hid (∀ W',Below (w.heap.size+1) (w.alloc (Obj.cells #[.int .i64 64,.string t,.int .i64 n,.slice a len c] 24)) W'→(NqZ W' w.heap.size 64 t n a len c)):=fun W' b=>(box4 ((b.block _ (by omega)).trans X0)).1
 clear X0
 have e0 : (n != 0)=true:=by simpa using h0
 have e1 : (n != 1)=true:=by simpa using h1
 go_enter Tryz.func76,Tryz.ntmps76
 cases p with
 | false =>
  go_wp2_with (go_at_call 66;refine (CP _).mono ?_;rintro e W1 ⟨rfl,b1⟩)
  go_ret
  exact ⟨rfl,(bel_a w _).trans (b1.mono (by simp))⟩
 | true =>
  go_wp2_with (go_at_call 66;refine (CP _).mono ?_;rintro e W1 ⟨rfl,b1⟩;obtain ⟨_,_,_,_⟩:=kp.out _ (b1.mono (by simp)))
  go_ret
  exact ⟨rfl,(bel_a w _).trans (b1.mono (by simp))⟩
theorem from_nil (n : Int) (hn : n=0 ∨ n=1) (t : ByteArray) (ht : t.size ≤ 4194304) (a : Option Addr) (c : Nat) (w : World) :
 Calls Tryz.prog 76 #[nv 64 t n a 0 c] w fun e w'=>e = .returned (.bool false)∧Below w.heap.size w w':=by
 have CP:=fun W=>rvalid_any t W (by omega)
 generalize validL t.data.toList=p at *
 have X0 : (w.alloc (Obj.cells #[.int .i64 64,.string t,.int .i64 n,.slice a 0 c] 24)).heap[w.heap.size]?=some (.cells #[.int .i64 64,.string t,.int .i64 n,.slice a 0 c] 24 (0,0)):=hnew _ rfl
 have kp : Hid (∀ W',Below (w.heap.size+1) (w.alloc (Obj.cells #[.int .i64 64,.string t,.int .i64 n,.slice a 0 c] 24)) W'→(NqZ W' w.heap.size 64 t n a 0 c)):=fun W' b=>(box4 ((b.block _ (by omega)).trans X0)).1
 clear X0
 go_enter Tryz.func76,Tryz.ntmps76
 rcases hn with rfl | rfl
 ·cases p with
  | false =>
   go_wp2_with (go_at_call 66;refine (CP _).mono ?_;rintro e W1 ⟨rfl,b1⟩)
   go_ret
   exact ⟨rfl,(bel_a w _).trans (b1.mono (by simp))⟩
  | true =>
   go_wp2_with (go_at_call 66;refine (CP _).mono ?_;rintro e W1 ⟨rfl,b1⟩;obtain ⟨_,_,_,_⟩:=kp.out _ (b1.mono (by simp)))
   go_ret
   exact ⟨rfl,(bel_a w _).trans (b1.mono (by simp))⟩
 ·cases p with
  | false =>
   go_wp2_with (go_at_call 66;refine (CP _).mono ?_;rintro e W1 ⟨rfl,b1⟩)
   go_ret
   exact ⟨rfl,(bel_a w _).trans (b1.mono (by simp))⟩
  | true =>
   go_wp2_with (go_at_call 66;refine (CP _).mono ?_;rintro e W1 ⟨rfl,b1⟩;obtain ⟨_,_,_,_⟩:=kp.out _ (b1.mono (by simp)))
   go_ret
   exact ⟨rfl,(bel_a w _).trans (b1.mono (by simp))⟩
section
variable {w : World} {S : Nat→Prop} {y : Nd} {a : Option Addr} {c : Nat}
theorem ec_all {z : Nd} (h : z.size ≤ 4194304) (t : z.tx) : EC z:=(forms_all 4194304 (Nat.le_refl _) z h t).1
theorem tc_all {z : Nd} (h : z.size ≤ 4194304) (t : z.tx) : TC z:=(forms_all 4194304 (Nat.le_refl _) z h t).2.1
theorem sc_all {z : Nd} (h : z.size ≤ 4194304) (t : z.tx) : SC z:=(forms_all 4194304 (Nat.le_refl _) z h t).2.2
theorem kz {x z : Nd} (h : x.size ≤ 4194304) (hz : z ∈ x.ks) : z.size ≤ 4194304:=by have:=kid_lt hz;omega
theorem q_class (zy : y.size ≤ 4194304) (ty : y.tx) (hx : LAt w S (.slice a y.ks.length c) y.ks) : Hid (QC 44 w (nv y.k y.t y.n a y.ks.length c) ((y.k == 42) && wholeP false y)):=fun W b=>by
 by_cases h : y.k=42
 ·rw [class_whole h,h]
  by_cases hn : y.n=0
  ·rw [hn]
   have:=class_42 y.t y.ks (fun z hz u hu=>ec_all (kz (kz zy hz) hu) (Nd.tx_kid (Nd.tx_kid ty hz) hu)) (fun z hz u hu=>tc_all (kz (kz zy hz) hu) (Nd.tx_kid (Nd.tx_kid ty hz) hu)) (fun z hz u hu=>sc_all (kz (kz zy hz) hu) (Nd.tx_kid (Nd.tx_kid ty hz) hu))
    (fun z hz u hu p hp x hx=>tc_all (kz (kz (kz (kz zy hz) hu) hp) hx) (Nd.tx_kid (Nd.tx_kid (Nd.tx_kid (Nd.tx_kid ty hz) hu) hp) hx)) (fun z hz=>Nd.tx_own (Nd.tx_kid ty hz)) (fun z hz u hu p hp=>Nd.tx_own (Nd.tx_kid (Nd.tx_kid (Nd.tx_kid ty hz) hu) hp)) (fun z hz u hu=>ks_len (kz (kz zy hz) hu))
    (fun z hz=>bc_of z (kz zy hz) (Nd.tx_kid ty hz) (fun u hu tu=>tc_all (by have:=kz zy hz;omega) tu) (fun u hu tu=>sc_all (by have:=kz zy hz;omega) tu)) (Nd.tx_own ty) (ks_len zy) a c W S (hx.bel b)
   simpa using this
  ·have e : (y.n == 0)=false:=by simpa using hn
   rw [e]
   have:=class_no 42 y.n (.inr hn) y.t (Nd.tx_own ty) a y.ks.length c W
   simpa using this
 ·rw [show (y.k == 42)=false by simpa using h]
  exact class_no y.k y.n (.inl h) y.t (Nd.tx_own ty) a y.ks.length c W
theorem q_space (zy : y.size ≤ 4194304) (ty : y.tx) (hx : LAt w S (.slice a y.ks.length c) y.ks) : Hid (QC 45 w (nv y.k y.t y.n a y.ks.length c) ((y.k == 66) && wholeP false y)):=fun W b=>by
 by_cases h : y.k=66
 ·rw [space_whole h,h]
  by_cases hn : y.n=0
  ·rw [hn]
   have:=space_66 y.t y.ks (fun z hz=>Nd.tx_own (Nd.tx_kid ty hz)) (fun z hz u hu=>Nd.tx_own (Nd.tx_kid (Nd.tx_kid ty hz) hu)) (Nd.tx_own ty) (ks_len zy) a c W S (hx.bel b)
   simpa using this
  ·have e : (y.n == 0)=false:=by simpa using hn
   rw [e]
   have:=space_no 66 y.n (.inr hn) y.t (Nd.tx_own ty) a y.ks.length c W
   simpa using this
 ·rw [show (y.k == 66)=false by simpa using h]
  exact space_no y.k y.n (.inl h) y.t (Nd.tx_own ty) a y.ks.length c W
theorem q_import (zy : y.size ≤ 4194304) (ty : y.tx) (hx : LAt w S (.slice a y.ks.length c) y.ks) (h : y.k=60) : Hid (QC 75 w (nv 60 y.t y.n a y.ks.length c) (wholeP false y)):=fun W b=>by
 rw [import_whole h]
 by_cases h0 : y.n=0
 ·rw [h0]
  have:=imports_0 y.t y.ks (fun z hz=>Nd.tx_own (Nd.tx_kid ty hz)) (fun z hz u hu=>Nd.tx_own (Nd.tx_kid (Nd.tx_kid ty hz) hu)) (Nd.tx_own ty) (ks_len zy) a c W S (hx.bel b)
  simpa using this
 ·by_cases h1 : y.n=1
  ·rw [h1]
   have:=imports_1 y.t y.ks (fun z hz=>Nd.tx_own (Nd.tx_kid ty hz)) (fun z hz u hu=>Nd.tx_own (Nd.tx_kid (Nd.tx_kid ty hz) hu)) (Nd.tx_own ty) (ks_len zy) a c W S (hx.bel b)
   simpa using this
  ·rw [show (y.n == 0)=false by simpa using h0,show (y.n == 1)=false by simpa using h1]
   have:=imports_no y.n h0 h1 y.t (Nd.tx_own ty) a y.ks.length c W
   simpa using this
theorem q_from (zy : y.size ≤ 4194304) (ty : y.tx) (hx : LAt w S (.slice a y.ks.length c) y.ks) (h : y.k=64) : Hid (QC 76 w (nv 64 y.t y.n a y.ks.length c) (wholeP false y)):=fun W b=>by
 rw [from_whole h]
 by_cases h01 : y.n=0 ∨ y.n=1
 ·by_cases hl : 0 < y.ks.length
  ·rw [show decide (0 < y.ks.length)=true from decide_eq_true hl]
   rcases h01 with h0 | h1
   ·rw [h0]
    have:=from_0 y.t y.ks (fun z hz=>Nd.tx_own (Nd.tx_kid ty hz)) (fun z hz u hu=>Nd.tx_own (Nd.tx_kid (Nd.tx_kid ty hz) hu)) (Nd.tx_own ty) hl (ks_len zy) a c W S (hx.bel b)
    simpa using this
   ·rw [h1]
    have:=from_1 y.t y.ks (fun z hz=>Nd.tx_own (Nd.tx_kid ty hz)) (fun z hz u hu=>Nd.tx_own (Nd.tx_kid (Nd.tx_kid ty hz) hu)) (Nd.tx_own ty) hl (ks_len zy) a c W S (hx.bel b)
    simpa using this
  ·rw [show decide (0 < y.ks.length)=false from decide_eq_false hl,show y.ks.length=0 by omega]
   have:=from_nil y.n h01 y.t (Nd.tx_own ty) a c W
   simpa using this
 ·have h0 : y.n ≠ 0:=fun e=>h01 (.inl e)
  have h1 : y.n ≠ 1:=fun e=>h01 (.inr e)
  rw [show (y.n == 0)=false by simpa using h0,show (y.n == 1)=false by simpa using h1]
  have:=from_no y.n h0 h1 y.t (Nd.tx_own ty) a y.ks.length c W
  simpa using this
end
def IC (y : Nd) : Prop:=∀ (w : World) (S : Nat→Prop) (a : Option Addr) (c : Nat),LAt w S (.slice a y.ks.length c) y.ks→Calls Tryz.prog 41 #[nv y.k y.t y.n a y.ks.length c] w fun e w'=>e = .returned (.bool (itB y))∧Below w.heap.size w w'
theorem ic_all (y : Nd) : y.size ≤ 4194304→y.tx→IC y:=by
 induction y using Nd.ind with
 | h y ih =>
 intro zy ty w S a c hx
 have tt:=Nd.tx_own ty
 by_cases h42 : y.k=42
 ·have q:=q_class zy ty hx
  rw [it_four (by rw [h42];rfl)]
  rw [h42] at q ⊢
  exact it_class _ _ _ _ _ _ _ q
 by_cases h46 : y.k=46
 ·rw [it_four (by rw [h46];rfl),alias_whole h46,h46]
  by_cases h2 : y.ks.length=1
  ·obtain ⟨u,huv⟩:=one_of y.ks h2
   have hu : u ∈ y.ks:=by rw [huv];simp
   have P:=tc_all (kz zy hu) (Nd.tx_kid ty hu)
   rw [huv] at hx ⊢
   obtain ⟨b,o,rfl,za,zc,k1,l1⟩:=kids1 hx
   rw [fl1,fits104]
   exact it_alias _ _ b o c w _ _ _ _ _ _ k1 _ (q_id w _ tt) _ (q_ty P l1)
  ·rw [fl1_no _ _ h2,Bool.and_false]
   exact it_alias0 _ _ _ _ _ _ _ (q_id w _ tt) (lenF _ 1 (by omega))
 by_cases h60 : y.k=60
 ·rw [it_four (by rw [h60];rfl),h60]
  exact it_import _ _ _ _ _ _ _ (q_import zy ty hx h60)
 by_cases h62 : y.k=62
 ·rw [it_four (by rw [h62];rfl),export_whole h62,h62]
  by_cases h2 : y.ks.length=1
  ·obtain ⟨u,huv⟩:=one_of y.ks h2
   have hu : u ∈ y.ks:=by rw [huv];simp
   have P:=ih u hu (kz zy hu) (Nd.tx_kid ty hu)
   rw [huv] at hx ⊢
   obtain ⟨b,o,rfl,za,zc,k1,l1⟩:=kids1 hx
   rw [fl1,fits111]
   exact it_export _ _ b o c w _ _ _ _ _ _ k1 _ (q_plain w _ _ _ _ _ _) _ (fun W b=>P W S za zc (l1.bel b))
  ·rw [fl1_no _ _ h2,Bool.and_false]
   exact it_export0 _ _ _ _ _ _ _ (q_plain w _ _ _ _ _ _) (lenF _ 1 (by omega))
 by_cases h63 : y.k=63
 ·rw [it_four (by rw [h63];rfl),default_whole h63,h63]
  by_cases h2 : y.ks.length=1
  ·obtain ⟨u,huv⟩:=one_of y.ks h2
   have hu : u ∈ y.ks:=by rw [huv];simp
   have P:=ih u hu (kz zy hu) (Nd.tx_kid ty hu)
   have P2:=ec_all (kz zy hu) (Nd.tx_kid ty hu)
   rw [huv] at hx ⊢
   obtain ⟨b,o,rfl,za,zc,k1,l1⟩:=kids1 hx
   rw [fl1,fits112]
   exact it_default _ _ b o c w _ _ _ _ _ _ k1 _ (q_plain w _ _ _ _ _ _) _ (q_ex P2 l1) _ (fun W b=>P W S za zc (l1.bel b))
  ·rw [fl1_no _ _ h2,Bool.and_false]
   exact it_default0 _ _ _ _ _ _ _ (q_plain w _ _ _ _ _ _) (lenF _ 1 (by omega))
 by_cases h64 : y.k=64
 ·rw [it_four (by rw [h64];rfl),h64]
  exact it_from _ _ _ _ _ _ _ (q_from zy ty hx h64)
 have h4 : formK y.k ≠ 4:=fun h=>by
  unfold formK at h
  rw [if_neg (show ¬ (y.k=42 ∨ y.k=46 ∨ y.k=60 ∨ y.k=62 ∨ y.k=63 ∨ y.k=64) by omega)] at h
  repeat (first | omega | split at h)
 rw [it_rest h4]
 exact it_stmt _ h42 h46 h60 h62 h63 h64 _ _ _ _ _ _ _ (fun W b=>sc_all zy ty W S a c (hx.bel b))
end Go.Proofs.YtfcocoadaajbjaaGreatDoor
namespace Go.Proofs.YtfcocoadaajbjaaGreatDoor
open Go.RowKit
theorem form5 {k : Int} (h : formK k=5) : k=68:=by
 by_cases e : k=68
 ·exact e
 ·exfalso
  unfold formK at h
  rw [if_neg e] at h
  repeat (first | omega | split at h)
theorem form6 {k : Int} (h : formK k=6) : k=69:=by
 by_cases e : k=69
 ·exact e
 ·exfalso
  unfold formK at h
  rw [if_neg e] at h
  repeat (first | omega | split at h)
theorem form_le (k : Int) : 0 ≤ formK k∧formK k ≤ 6:=by
 unfold formK
 repeat' split
 all_goals omega
theorem form_plain {x : Nd} (h : x.k ≠ 68) : formP x=if wholeP false x=true then formK x.k else 0:=by
 unfold formP
 rw [show (x.k == 68)=false by simpa using h]
theorem f_one {x : Nd} (h : exB x=true) : formP x=1:=by
 unfold exB at h
 rw [Bool.and_eq_true] at h
 have e : formK x.k=1:=by simpa using h.1
 rw [form_plain (fun hk=>by rw [hk] at e;exact absurd e (by decide)),if_pos h.2,e]
theorem f_two {x : Nd} (h : tyB x=true) : formP x=2:=by
 unfold tyB at h
 rw [Bool.and_eq_true] at h
 have e : formK x.k=2:=by simpa using h.1
 rw [form_plain (fun hk=>by rw [hk] at e;exact absurd e (by decide)),if_pos h.2,e]
theorem f_three {x : Nd} (h : stB x=true) : formP x=3:=by
 unfold stB at h
 rw [Bool.and_eq_true] at h
 have e : formK x.k=3:=by simpa using h.1
 rw [form_plain (fun hk=>by rw [hk] at e;exact absurd e (by decide)),if_pos h.2,e]
theorem f_four {x : Nd} (h3 : stB x=false) (h : itB x=true) : formP x=4:=by
 unfold itB at h
 rw [Bool.and_eq_true] at h
 have hw:=h.2
 have e : formK x.k=4:=by
  have h1:=h.1
  rw [Bool.or_eq_true] at h1
  rcases h1 with h1 | h1
  ·exfalso
   unfold stB at h3
   rw [h1,hw] at h3
   cases h3
  ·simpa using h1
 rw [form_plain (fun hk=>by rw [hk] at e;exact absurd e (by decide)),if_pos hw,e]
theorem f_zero {x : Nd} (h1 : exB x=false) (h2 : tyB x=false) (h3 : stB x=false) (h4 : itB x=false) (h8 : x.k ≠ 68) (h9 : x.k ≠ 69) : formP x=0:=by
 rw [form_plain h8]
 by_cases hw : wholeP false x=true
 ·rw [if_pos hw]
  unfold exB at h1
  unfold tyB at h2
  unfold itB at h4
  rw [hw,Bool.and_true] at h1 h2 h4
  rw [Bool.or_eq_false_iff] at h4
  have g1 : formK x.k ≠ 1:=by simpa using h1
  have g2 : formK x.k ≠ 2:=by simpa using h2
  have g3 : formK x.k ≠ 3:=by simpa using h4.1
  have g4 : formK x.k ≠ 4:=by simpa using h4.2
  have g5 : formK x.k ≠ 5:=fun e=>h8 (form5 e)
  have g6 : formK x.k ≠ 6:=fun e=>h9 (form6 e)
  have:=form_le x.k
  omega
 ·rw [if_neg hw]
theorem none_of {x : Nd} (h : x.k=68 ∨ x.k=69) : exB x=false∧tyB x=false∧stB x=false∧itB x=false:=by
 unfold exB tyB stB itB
 rcases h with h | h <;> rw [h] <;> exact ⟨rfl,rfl,rfl,rfl⟩
theorem f_module {x : Nd} (h : x.k=68) : formP x=if (plainT x.t x.n && x.ks.all fun z=>itB z && !dolB z)=true then 5 else 0:=by
 unfold formP
 rw [show (x.k == 68)=true by rw [h];rfl,module_whole h,h]
 rfl
theorem f_script {x : Nd} (h : x.k=69) : formP x=if (plainT x.t x.n && x.ks.all scB)=true then 6 else 0:=by
 rw [form_plain (by omega),script_whole h,h]
 rfl
theorem ret_i {n m : Int} (h : n=m) : Ending.returned (.int .i64 n)=Ending.returned (.int .i64 m):=by rw [h]
theorem form_other
 (x : Nd) (zx : x.size ≤ 4194304) (tx : x.tx) (w : World) (S : Nat→Prop) (a : Option Addr) (c : Nat) (hx : LAt w S (.slice a x.ks.length c) x.ks) (h8 : x.k ≠ 68) (h9 : x.k ≠ 69) :
 Calls Tryz.prog 21 #[nv x.k x.t x.n a x.ks.length c] w fun e w'=>e = .returned (.int .i64 (formP x))∧Below w.heap.size w w':=by
 have C1 : Hid (QC 38 w (nv x.k x.t x.n a x.ks.length c) (exB x)):=fun W b=>ec_all zx tx W S a c (hx.bel b)
 have C2 : Hid (QC 39 w (nv x.k x.t x.n a x.ks.length c) (tyB x)):=fun W b=>tc_all zx tx W S a c (hx.bel b)
 have C3 : Hid (QC 40 w (nv x.k x.t x.n a x.ks.length c) (stB x)):=fun W b=>sc_all zx tx W S a c (hx.bel b)
 have C4 : Hid (QC 41 w (nv x.k x.t x.n a x.ks.length c) (itB x)):=fun W b=>ic_all x zx tx W S a c (hx.bel b)
 have F1 : Hid (exB x=true→formP x=1):=f_one
 have F2 : Hid (tyB x=true→formP x=2):=f_two
 have F3 : Hid (stB x=true→formP x=3):=f_three
 have F4 : Hid (stB x=false→itB x=true→formP x=4):=f_four
 have F0 : Hid (exB x=false→tyB x=false→stB x=false→itB x=false→formP x=0):=fun q1 q2 q3 q4=>f_zero q1 q2 q3 q4 h8 h9
 have X0 : (w.alloc (Obj.cells #[.int .i64 x.k,.string x.t,.int .i64 x.n,.slice a x.ks.length c] 24)).heap[w.heap.size]?=some (.cells #[.int .i64 x.k,.string x.t,.int .i64 x.n,.slice a x.ks.length c] 24 (0,0)):=hnew _ rfl
 have kp : Hid (∀ W',Below (w.heap.size+1) (w.alloc (Obj.cells #[.int .i64 x.k,.string x.t,.int .i64 x.n,.slice a x.ks.length c] 24)) W'→(NqZ W' w.heap.size x.k x.t x.n a x.ks.length c)):=fun W' b=>(box4 ((b.block _ (by omega)).trans X0)).1
 have kb : Hid (∀ W',Below (w.heap.size+1) (w.alloc (Obj.cells #[.int .i64 x.k,.string x.t,.int .i64 x.n,.slice a x.ks.length c] 24)) W'→Below w.heap.size w W'∧w.heap.size+1 ≤ W'.heap.size):=fun W' b=>⟨(bel_a w _).trans (b.mono (by omega)),by have:=b.size;simpa using this⟩
 have kr : Hid (Below (w.heap.size+1) (w.alloc (Obj.cells #[.int .i64 x.k,.string x.t,.int .i64 x.n,.slice a x.ks.length c] 24)) (w.alloc (Obj.cells #[.int .i64 x.k,.string x.t,.int .i64 x.n,.slice a x.ks.length c] 24))):=Below.refl _ _
 clear X0
 clear hx
 generalize exB x=p1 at *
 generalize tyB x=p2 at *
 generalize stB x=p3 at *
 generalize itB x=p4 at *
 go_enter Tryz.func21,Tryz.ntmps21
 cases p1 with
 | true =>
  have HQ : Hid (formP x=1):=F1.out rfl
  clear F0 F1 F2 F3 F4
  go_wp2_with (go_at_call 38;refine (C1.out _ (bel_a w _)).mono ?_;rintro e W1 ⟨rfl,b1⟩;have B1:=b1.mono (show w.heap.size+1 ≤ _ by simp);obtain ⟨_,_,_,_⟩:=kp.out _ B1)
  go_ret
  exact ⟨ret_i HQ.out.symm,(kb.out _ B1).1⟩
 | false =>
  cases p2 with
  | true =>
   have HQ : Hid (formP x=2):=F2.out rfl
   clear F0 F1 F2 F3 F4
   go_wp2_with (first
    | (go_at_call 38;refine (C1.out _ (bel_a w _)).mono ?_;rintro e W1 ⟨rfl,b1⟩;have B1:=b1.mono (show w.heap.size+1 ≤ _ by simp);obtain ⟨_,_,_,_⟩:=kp.out _ B1)
    | (go_at_call 39;refine (C2.out _ (kb.out _ B1).1).mono ?_;rintro e W2 ⟨rfl,b2⟩;have B2:=B1.trans (b2.mono (kb.out _ B1).2);obtain ⟨_,_,_,_⟩:=kp.out _ B2))
   go_ret
   exact ⟨ret_i HQ.out.symm,(kb.out _ B2).1⟩
  | false =>
   cases p3 with
   | true =>
    have HQ : Hid (formP x=3):=F3.out rfl
    clear F0 F1 F2 F3 F4
    go_wp2_with (first
     | (go_at_call 38;refine (C1.out _ (bel_a w _)).mono ?_;rintro e W1 ⟨rfl,b1⟩;have B1:=b1.mono (show w.heap.size+1 ≤ _ by simp);obtain ⟨_,_,_,_⟩:=kp.out _ B1)
     | (go_at_call 39;refine (C2.out _ (kb.out _ B1).1).mono ?_;rintro e W2 ⟨rfl,b2⟩;have B2:=B1.trans (b2.mono (kb.out _ B1).2);obtain ⟨_,_,_,_⟩:=kp.out _ B2)
     | (go_at_call 40;refine (C3.out _ (kb.out _ B2).1).mono ?_;rintro e W3 ⟨rfl,b3⟩;have B3:=B2.trans (b3.mono (kb.out _ B2).2);obtain ⟨_,_,_,_⟩:=kp.out _ B3))
    go_ret
    exact ⟨ret_i HQ.out.symm,(kb.out _ B3).1⟩
   | false =>
    cases p4 with
    | true =>
     have HQ : Hid (formP x=4):=F4.out rfl rfl
     clear F0 F1 F2 F3 F4
     go_wp2_with (first
      | (go_at_call 38;refine (C1.out _ (bel_a w _)).mono ?_;rintro e W1 ⟨rfl,b1⟩;have B1:=b1.mono (show w.heap.size+1 ≤ _ by simp);obtain ⟨_,_,_,_⟩:=kp.out _ B1)
      | (go_at_call 39;refine (C2.out _ (kb.out _ B1).1).mono ?_;rintro e W2 ⟨rfl,b2⟩;have B2:=B1.trans (b2.mono (kb.out _ B1).2);obtain ⟨_,_,_,_⟩:=kp.out _ B2)
      | (go_at_call 40;refine (C3.out _ (kb.out _ B2).1).mono ?_;rintro e W3 ⟨rfl,b3⟩;have B3:=B2.trans (b3.mono (kb.out _ B2).2);obtain ⟨_,_,_,_⟩:=kp.out _ B3)
      | (go_at_call 41;refine (C4.out _ (kb.out _ B3).1).mono ?_;rintro e W4 ⟨rfl,b4⟩;have B4:=B3.trans (b4.mono (kb.out _ B3).2);obtain ⟨_,_,_,_⟩:=kp.out _ B4))
     go_ret
     exact ⟨ret_i HQ.out.symm,(kb.out _ B4).1⟩
    | false =>
     have HQ : Hid (formP x=0):=F0.out rfl rfl rfl rfl
     clear F0 F1 F2 F3 F4
     go_wp2_with (first
      | (go_at_call 38;refine (C1.out _ (bel_a w _)).mono ?_;rintro e W1 ⟨rfl,b1⟩;have B1:=b1.mono (show w.heap.size+1 ≤ _ by simp);obtain ⟨_,_,_,_⟩:=kp.out _ B1)
      | (go_at_call 39;refine (C2.out _ (kb.out _ B1).1).mono ?_;rintro e W2 ⟨rfl,b2⟩;have B2:=B1.trans (b2.mono (kb.out _ B1).2);obtain ⟨_,_,_,_⟩:=kp.out _ B2)
      | (go_at_call 40;refine (C3.out _ (kb.out _ B2).1).mono ?_;rintro e W3 ⟨rfl,b3⟩;have B3:=B2.trans (b3.mono (kb.out _ B2).2);obtain ⟨_,_,_,_⟩:=kp.out _ B3)
      | (go_at_call 41;refine (C4.out _ (kb.out _ B3).1).mono ?_;rintro e W4 ⟨rfl,b4⟩;have B4:=B3.trans (b4.mono (kb.out _ B3).2);obtain ⟨_,_,_,_⟩:=kp.out _ B4))
     go_ret
     exact ⟨ret_i HQ.out.symm,(kb.out _ B4).1⟩
theorem form_module
 (x : Nd) (zx : x.size ≤ 4194304) (tx : x.tx) (w : World) (S : Nat→Prop) (a : Option Addr) (c : Nat) (hx : LAt w S (.slice a x.ks.length c) x.ks) (hk : x.k=68) :
 Calls Tryz.prog 21 #[nv 68 x.t x.n a x.ks.length c] w fun e w'=>e = .returned (.int .i64 (formP x))∧Below w.heap.size w w':=by
 obtain ⟨n1,n2,n3,n4⟩:=none_of (x:=x) (by rw [hk];omega)
 have C1 : Hid (QC 38 w (nv 68 x.t x.n a x.ks.length c) false):=fun W b=>by have:=ec_all zx tx W S a c (hx.bel b);rw [hk,n1] at this;exact this
 have C2 : Hid (QC 39 w (nv 68 x.t x.n a x.ks.length c) false):=fun W b=>by have:=tc_all zx tx W S a c (hx.bel b);rw [hk,n2] at this;exact this
 have C3 : Hid (QC 40 w (nv 68 x.t x.n a x.ks.length c) false):=fun W b=>by have:=sc_all zx tx W S a c (hx.bel b);rw [hk,n3] at this;exact this
 have C4 : Hid (QC 41 w (nv 68 x.t x.n a x.ks.length c) false):=fun W b=>by have:=ic_all x zx tx W S a c (hx.bel b);rw [hk,n4] at this;exact this
 have C5 : Hid (QC 42 w (nv 68 x.t x.n a x.ks.length c) (plainT x.t x.n)):=q_plain w _ _ _ _ _ _
 have HF : Hid (formP x=if (plainT x.t x.n && x.ks.all (fun y=>itB y && !dolB y))=true then 5 else 0):=f_module hk
 clear n1 n2 n3 n4 hk
 have hl : x.ks.length ≤ 4194304:=ks_len zx
 obtain ⟨ax,cx,bx,ox,fx,e,px,qx,rx⟩:=hx.op
 obtain ⟨rfl,rfl⟩ : a=ax∧c=cx:=by injection e with e1 e2 e3;exact ⟨e1,e3⟩
 clear e hx
 have X0 : (w.alloc (Obj.cells #[.int .i64 68,.string x.t,.int .i64 x.n,.slice a x.ks.length c] 24)).heap[w.heap.size]?=some (.cells #[.int .i64 68,.string x.t,.int .i64 x.n,.slice a x.ks.length c] 24 (0,0)):=hnew _ rfl
 have kp : Hid (∀ W',Below (w.heap.size+1) (w.alloc (Obj.cells #[.int .i64 68,.string x.t,.int .i64 x.n,.slice a x.ks.length c] 24)) W'→(NqZ W' w.heap.size 68 x.t x.n a x.ks.length c)):=fun W' b=>(box4 ((b.block _ (by omega)).trans X0)).1
 have kb : Hid (∀ W',Below (w.heap.size+1) (w.alloc (Obj.cells #[.int .i64 68,.string x.t,.int .i64 x.n,.slice a x.ks.length c] 24)) W'→Below w.heap.size w W'∧w.heap.size+1 ≤ W'.heap.size):=fun W' b=>⟨(bel_a w _).trans (b.mono (by omega)),by have:=b.size;simpa using this⟩
 have kr : Hid (Below (w.heap.size+1) (w.alloc (Obj.cells #[.int .i64 68,.string x.t,.int .i64 x.n,.slice a x.ks.length c] 24)) (w.alloc (Obj.cells #[.int .i64 68,.string x.t,.int .i64 x.n,.slice a x.ks.length c] 24))):=Below.refl _ _
 clear X0
 generalize plainT x.t x.n=p at *
 go_enter Tryz.func21,Tryz.ntmps21
 cases p with
 | false =>
  have HR : Hid (formP x=0):=by show _=_;rw [HF.out];rfl
  clear HF px qx rx
  go_wp2_with (first
   | (go_at_call 38;refine (C1.out _ (bel_a w _)).mono ?_;rintro e W1 ⟨rfl,b1⟩;have B1:=b1.mono (show w.heap.size+1 ≤ _ by simp);obtain ⟨_,_,_,_⟩:=kp.out _ B1)
   | (go_at_call 39;refine (C2.out _ (kb.out _ B1).1).mono ?_;rintro e W2 ⟨rfl,b2⟩;have B2:=B1.trans (b2.mono (kb.out _ B1).2);obtain ⟨_,_,_,_⟩:=kp.out _ B2)
   | (go_at_call 40;refine (C3.out _ (kb.out _ B2).1).mono ?_;rintro e W3 ⟨rfl,b3⟩;have B3:=B2.trans (b3.mono (kb.out _ B2).2);obtain ⟨_,_,_,_⟩:=kp.out _ B3)
   | (go_at_call 41;refine (C4.out _ (kb.out _ B3).1).mono ?_;rintro e W4 ⟨rfl,b4⟩;have B4:=B3.trans (b4.mono (kb.out _ B3).2);obtain ⟨_,_,_,_⟩:=kp.out _ B4)
   | (go_at_call 42;refine (C5.out _ (kb.out _ B4).1).mono ?_;rintro e W5 ⟨rfl,b5⟩;have B5:=B4.trans (b5.mono (kb.out _ B4).2);obtain ⟨_,_,_,_⟩:=kp.out _ B5))
  go_ret
  exact ⟨ret_i (HR.out).symm,(kb.out _ B5).1⟩
 | true =>
 go_wp2_with (first
  | (go_at_call 38;refine (C1.out _ (bel_a w _)).mono ?_;rintro e W1 ⟨rfl,b1⟩;have B1:=b1.mono (show w.heap.size+1 ≤ _ by simp);obtain ⟨_,_,_,_⟩:=kp.out _ B1)
  | (go_at_call 39;refine (C2.out _ (kb.out _ B1).1).mono ?_;rintro e W2 ⟨rfl,b2⟩;have B2:=B1.trans (b2.mono (kb.out _ B1).2);obtain ⟨_,_,_,_⟩:=kp.out _ B2)
  | (go_at_call 40;refine (C3.out _ (kb.out _ B2).1).mono ?_;rintro e W3 ⟨rfl,b3⟩;have B3:=B2.trans (b3.mono (kb.out _ B2).2);obtain ⟨_,_,_,_⟩:=kp.out _ B3)
  | (go_at_call 41;refine (C4.out _ (kb.out _ B3).1).mono ?_;rintro e W4 ⟨rfl,b4⟩;have B4:=B3.trans (b4.mono (kb.out _ B3).2);obtain ⟨_,_,_,_⟩:=kp.out _ B4)
  | (go_at_call 42;refine (C5.out _ (kb.out _ B4).1).mono ?_;rintro e W5 ⟨rfl,b5⟩;have B5:=B4.trans (b5.mono (kb.out _ B4).2);obtain ⟨_,_,_,_⟩:=kp.out _ B5))
 clear b1 b2 b3 b4 b5 B1 B2 B3 B4
 generalize w.alloc (Obj.cells #[.int .i64 68,.string x.t,.int .i64 x.n,.slice a x.ks.length c] 24)=W0 at *
 go_loopg [3] x.ks.length (fun gk v wr=>∃ k : Nat,v = .int .i64 (k : Nat)∧Hid (gk+k=x.ks.length)∧Below (w.heap.size+1) W0 wr∧Hid (∀ y ∈ x.ks.take k,(itB y && !dolB y)=true))
 case atStart=>exact ⟨0,rfl,by simp [Hid],B5,by simp [Hid]⟩
 case round =>
  obtain ⟨k,rfl,hk',bel0,HT⟩:=hrel
  obtain ⟨bel,sz⟩:=kb.out _ bel0
  have hkk : k ≤ x.ks.length:=by have:=hk'.out;omega
  obtain ⟨n1',n2',n3',n4'⟩:=kp.out _ bel0
  by_cases hkl : k < x.ks.length
  ·obtain ⟨rfl,hSx,hbx⟩:=px (by omega)
   have hm:=List.getElem_mem hkl
   have HS : Hid (x.ks.take (k+1)=x.ks.take k ++ [x.ks[k]]):=List.take_succ_eq_append_getElem hkl
   have HM : Hid (x.ks[k] ∈ x.ks):=hm
   have zk : x.ks[k].size ≤ 4194304:=kz zx hm
   have tk:=Nd.tx_kid tx hm
   have hr:=rx k hkl
   have hq:=qx k hkl
   clear hm
   generalize x.ks[k]=y at *
   generalize fx k=fk at *
   obtain ⟨ak,ck,rfl⟩:=hr.sl
   have HK : Hid (∀ W,Below w.heap.size w W→NqO W bx (ox+k * 4) y.k y.t y.n ak y.ks.length ck):=fun W b=>(kid_at hq hr hbx b).1
   have HB : Hid ((itB y && !dolB y)=false→formP x=0):=fun h=>by
    rw [HF.out,if_neg]
    rw [Bool.true_and,List.all_eq_false.2 ⟨y,HM.out,by rw [h];decide⟩]
    decide
   have HG : Hid ((itB y && !dolB y)=true→∀ y ∈ x.ks.take (k+1),(itB y && !dolB y)=true):=fun h z hz=>by
    rw [HS.out] at hz
    rcases List.mem_append.1 hz with hz | hz
    ·exact HT.out z hz
    ·obtain rfl : z=y:=by simpa using hz
     exact h
   obtain ⟨u1,u2,u3,u4⟩:=HK.out _ bel
   have K1 : Hid (QC 41 w (nv y.k y.t y.n ak y.ks.length ck) (itB y)):=fun W b=>ic_all y zk tk W S ak ck (hr.bel b)
   have K2 : Hid (QC 43 w (nv y.k y.t y.n ak y.ks.length ck) (dolB y)):=fun W b=>dollar_any y W S ak ck (hr.bel b) zk tk
   clear hr hq
   cases hi : itB y with
   | false =>
    rw [hi] at K1
    have HR : Hid (formP x=0):=HB.out (by rw [hi];rfl)
    clear HB HG HM HS HT HF px qx rx
    go_wp2_with (go_at_call 41;refine (K1.out _ bel).mono ?_;rintro e W1 ⟨rfl,b1⟩;have c1:=b1;obtain ⟨_,_,_,_⟩:=HK.out _ (bel.trans (c1.mono bel.size));obtain ⟨_,_,_,_⟩:=kp.out _ (bel0.trans (c1.mono sz)))
    go_ret
    exact ⟨ret_i HR.out.symm,bel.trans (c1.mono bel.size)⟩
   | true =>
    rw [hi] at K1
    cases hd : dolB y with
    | true =>
     rw [hd] at K2
     have HR : Hid (formP x=0):=HB.out (by rw [hi,hd];rfl)
     clear HB HG HM HS HT HF px qx rx
     go_wp2_with (first
      | (go_at_call 41;refine (K1.out _ bel).mono ?_;rintro e W1 ⟨rfl,b1⟩;have c1:=b1;obtain ⟨_,_,_,_⟩:=HK.out _ (bel.trans (c1.mono bel.size));obtain ⟨_,_,_,_⟩:=kp.out _ (bel0.trans (c1.mono sz)))
      | (go_at_call 43;refine (K2.out _ (bel.trans (c1.mono bel.size))).mono ?_;rintro e W2 ⟨rfl,b2⟩;have c2:=c1.trans (b2.mono c1.size);obtain ⟨_,_,_,_⟩:=HK.out _ (bel.trans (c2.mono bel.size));obtain ⟨_,_,_,_⟩:=kp.out _ (bel0.trans (c2.mono sz))))
     go_ret
     exact ⟨ret_i HR.out.symm,bel.trans (c2.mono bel.size)⟩
    | false =>
     rw [hd] at K2
     have HR : Hid (∀ y ∈ x.ks.take (k+1),(itB y && !dolB y)=true):=HG.out (by rw [hi,hd];rfl)
     clear HB HG HM HS HT px qx rx
     go_wp2_with (first
      | (go_at_call 41;refine (K1.out _ bel).mono ?_;rintro e W1 ⟨rfl,b1⟩;have c1:=b1;obtain ⟨_,_,_,_⟩:=HK.out _ (bel.trans (c1.mono bel.size));obtain ⟨_,_,_,_⟩:=kp.out _ (bel0.trans (c1.mono sz)))
      | (go_at_call 43;refine (K2.out _ (bel.trans (c1.mono bel.size))).mono ?_;rintro e W2 ⟨rfl,b2⟩;have c2:=c1.trans (b2.mono c1.size);obtain ⟨_,_,_,_⟩:=HK.out _ (bel.trans (c2.mono bel.size));obtain ⟨_,_,_,_⟩:=kp.out _ (bel0.trans (c2.mono sz))))
     go_roundg (gk - 1)
     case rel=>exact ⟨k+1,by simp,by have:=hk'.out;show _=_;omega,bel0.trans (c2.mono sz),HR⟩
     case measure=>have:=hk'.out;omega
  ·have e : x.ks.take k=x.ks:=List.take_of_length_le (by omega)
   have HR : Hid (formP x=5):=by
    show _=_
    rw [HF.out,if_pos]
    rw [Bool.true_and,List.all_eq_true]
    have:=HT.out
    rw [e] at this
    exact this
   clear HT e px qx rx HF
   go_wp2
   go_ret
   exact ⟨ret_i HR.out.symm,bel⟩
theorem form_script
 (x : Nd) (zx : x.size ≤ 4194304) (tx : x.tx) (w : World) (S : Nat→Prop) (a : Option Addr) (c : Nat) (hx : LAt w S (.slice a x.ks.length c) x.ks) (hk : x.k=69) :
 Calls Tryz.prog 21 #[nv 69 x.t x.n a x.ks.length c] w fun e w'=>e = .returned (.int .i64 (formP x))∧Below w.heap.size w w':=by
 obtain ⟨n1,n2,n3,n4⟩:=none_of (x:=x) (by rw [hk];omega)
 have C1 : Hid (QC 38 w (nv 69 x.t x.n a x.ks.length c) false):=fun W b=>by have:=ec_all zx tx W S a c (hx.bel b);rw [hk,n1] at this;exact this
 have C2 : Hid (QC 39 w (nv 69 x.t x.n a x.ks.length c) false):=fun W b=>by have:=tc_all zx tx W S a c (hx.bel b);rw [hk,n2] at this;exact this
 have C3 : Hid (QC 40 w (nv 69 x.t x.n a x.ks.length c) false):=fun W b=>by have:=sc_all zx tx W S a c (hx.bel b);rw [hk,n3] at this;exact this
 have C4 : Hid (QC 41 w (nv 69 x.t x.n a x.ks.length c) false):=fun W b=>by have:=ic_all x zx tx W S a c (hx.bel b);rw [hk,n4] at this;exact this
 have C5 : Hid (QC 42 w (nv 69 x.t x.n a x.ks.length c) (plainT x.t x.n)):=q_plain w _ _ _ _ _ _
 have HF : Hid (formP x=if (plainT x.t x.n && x.ks.all scB)=true then 6 else 0):=f_script hk
 clear n1 n2 n3 n4 hk
 have hl : x.ks.length ≤ 4194304:=ks_len zx
 obtain ⟨ax,cx,bx,ox,fx,e,px,qx,rx⟩:=hx.op
 obtain ⟨rfl,rfl⟩ : a=ax∧c=cx:=by injection e with e1 e2 e3;exact ⟨e1,e3⟩
 clear e hx
 have X0 : (w.alloc (Obj.cells #[.int .i64 69,.string x.t,.int .i64 x.n,.slice a x.ks.length c] 24)).heap[w.heap.size]?=some (.cells #[.int .i64 69,.string x.t,.int .i64 x.n,.slice a x.ks.length c] 24 (0,0)):=hnew _ rfl
 have kp : Hid (∀ W',Below (w.heap.size+1) (w.alloc (Obj.cells #[.int .i64 69,.string x.t,.int .i64 x.n,.slice a x.ks.length c] 24)) W'→(NqZ W' w.heap.size 69 x.t x.n a x.ks.length c)):=fun W' b=>(box4 ((b.block _ (by omega)).trans X0)).1
 have kb : Hid (∀ W',Below (w.heap.size+1) (w.alloc (Obj.cells #[.int .i64 69,.string x.t,.int .i64 x.n,.slice a x.ks.length c] 24)) W'→Below w.heap.size w W'∧w.heap.size+1 ≤ W'.heap.size):=fun W' b=>⟨(bel_a w _).trans (b.mono (by omega)),by have:=b.size;simpa using this⟩
 have kr : Hid (Below (w.heap.size+1) (w.alloc (Obj.cells #[.int .i64 69,.string x.t,.int .i64 x.n,.slice a x.ks.length c] 24)) (w.alloc (Obj.cells #[.int .i64 69,.string x.t,.int .i64 x.n,.slice a x.ks.length c] 24))):=Below.refl _ _
 clear X0
 generalize plainT x.t x.n=p at *
 go_enter Tryz.func21,Tryz.ntmps21
 cases p with
 | false =>
  have HR : Hid (formP x=0):=by show _=_;rw [HF.out];rfl
  clear HF px qx rx
  go_wp2_with (first
   | (go_at_call 38;refine (C1.out _ (bel_a w _)).mono ?_;rintro e W1 ⟨rfl,b1⟩;have B1:=b1.mono (show w.heap.size+1 ≤ _ by simp);obtain ⟨_,_,_,_⟩:=kp.out _ B1)
   | (go_at_call 39;refine (C2.out _ (kb.out _ B1).1).mono ?_;rintro e W2 ⟨rfl,b2⟩;have B2:=B1.trans (b2.mono (kb.out _ B1).2);obtain ⟨_,_,_,_⟩:=kp.out _ B2)
   | (go_at_call 40;refine (C3.out _ (kb.out _ B2).1).mono ?_;rintro e W3 ⟨rfl,b3⟩;have B3:=B2.trans (b3.mono (kb.out _ B2).2);obtain ⟨_,_,_,_⟩:=kp.out _ B3)
   | (go_at_call 41;refine (C4.out _ (kb.out _ B3).1).mono ?_;rintro e W4 ⟨rfl,b4⟩;have B4:=B3.trans (b4.mono (kb.out _ B3).2);obtain ⟨_,_,_,_⟩:=kp.out _ B4)
   | (go_at_call 42;refine (C5.out _ (kb.out _ B4).1).mono ?_;rintro e W5 ⟨rfl,b5⟩;have B5:=B4.trans (b5.mono (kb.out _ B4).2);obtain ⟨_,_,_,_⟩:=kp.out _ B5))
  go_ret
  exact ⟨ret_i (HR.out).symm,(kb.out _ B5).1⟩
 | true =>
 go_wp2_with (first
  | (go_at_call 38;refine (C1.out _ (bel_a w _)).mono ?_;rintro e W1 ⟨rfl,b1⟩;have B1:=b1.mono (show w.heap.size+1 ≤ _ by simp);obtain ⟨_,_,_,_⟩:=kp.out _ B1)
  | (go_at_call 39;refine (C2.out _ (kb.out _ B1).1).mono ?_;rintro e W2 ⟨rfl,b2⟩;have B2:=B1.trans (b2.mono (kb.out _ B1).2);obtain ⟨_,_,_,_⟩:=kp.out _ B2)
  | (go_at_call 40;refine (C3.out _ (kb.out _ B2).1).mono ?_;rintro e W3 ⟨rfl,b3⟩;have B3:=B2.trans (b3.mono (kb.out _ B2).2);obtain ⟨_,_,_,_⟩:=kp.out _ B3)
  | (go_at_call 41;refine (C4.out _ (kb.out _ B3).1).mono ?_;rintro e W4 ⟨rfl,b4⟩;have B4:=B3.trans (b4.mono (kb.out _ B3).2);obtain ⟨_,_,_,_⟩:=kp.out _ B4)
  | (go_at_call 42;refine (C5.out _ (kb.out _ B4).1).mono ?_;rintro e W5 ⟨rfl,b5⟩;have B5:=B4.trans (b5.mono (kb.out _ B4).2);obtain ⟨_,_,_,_⟩:=kp.out _ B5))
 clear b1 b2 b3 b4 b5 B1 B2 B3 B4
 generalize w.alloc (Obj.cells #[.int .i64 69,.string x.t,.int .i64 x.n,.slice a x.ks.length c] 24)=W0 at *
 go_loopg [4] x.ks.length (fun gk v wr=>∃ k : Nat,v = .int .i64 (k : Nat)∧Hid (gk+k=x.ks.length)∧Below (w.heap.size+1) W0 wr∧Hid (∀ y ∈ x.ks.take k,scB y=true))
 case atStart=>exact ⟨0,rfl,by simp [Hid],B5,by simp [Hid]⟩
 case round =>
  obtain ⟨k,rfl,hk',bel0,HT⟩:=hrel
  obtain ⟨bel,sz⟩:=kb.out _ bel0
  have hkk : k ≤ x.ks.length:=by have:=hk'.out;omega
  obtain ⟨n1',n2',n3',n4'⟩:=kp.out _ bel0
  by_cases hkl : k < x.ks.length
  ·obtain ⟨rfl,hSx,hbx⟩:=px (by omega)
   have hm:=List.getElem_mem hkl
   have HS : Hid (x.ks.take (k+1)=x.ks.take k ++ [x.ks[k]]):=List.take_succ_eq_append_getElem hkl
   have HM : Hid (x.ks[k] ∈ x.ks):=hm
   have zk : x.ks[k].size ≤ 4194304:=kz zx hm
   have tk:=Nd.tx_kid tx hm
   have hr:=rx k hkl
   have hq:=qx k hkl
   clear hm
   generalize x.ks[k]=y at *
   generalize fx k=fk at *
   obtain ⟨ak,ck,rfl⟩:=hr.sl
   have HK : Hid (∀ W,Below w.heap.size w W→NqO W bx (ox+k * 4) y.k y.t y.n ak y.ks.length ck):=fun W b=>(kid_at hq hr hbx b).1
   have HB : Hid (scB y=false→formP x=0):=fun h=>by
    rw [HF.out,if_neg]
    rw [Bool.true_and,List.all_eq_false.2 ⟨y,HM.out,by rw [h];decide⟩]
    decide
   have HG : Hid (scB y=true→∀ y ∈ x.ks.take (k+1),scB y=true):=fun h z hz=>by
    rw [HS.out] at hz
    rcases List.mem_append.1 hz with hz | hz
    ·exact HT.out z hz
    ·obtain rfl : z=y:=by simpa using hz
     exact h
   obtain ⟨u1,u2,u3,u4⟩:=HK.out _ bel
   have K1 : Hid (QC 40 w (nv y.k y.t y.n ak y.ks.length ck) (stB y)):=fun W b=>sc_all zk tk W S ak ck (hr.bel b)
   have K2 : Hid (QC 44 w (nv y.k y.t y.n ak y.ks.length ck) ((y.k == 42) && wholeP false y)):=q_class zk tk hr
   have K3 : Hid (QC 45 w (nv y.k y.t y.n ak y.ks.length ck) ((y.k == 66) && wholeP false y)):=q_space zk tk hr
   have HE : Hid (scB y=(stB y || ((y.k == 42) && wholeP false y) || ((y.k == 66) && wholeP false y))):=rfl
   clear hr hq
   generalize stB y=s1 at *
   generalize ((y.k == 42) && wholeP false y)=s2 at *
   generalize ((y.k == 66) && wholeP false y)=s3 at *
   cases s1 with
   | true =>
    have HR : Hid (∀ y ∈ x.ks.take (k+1),scB y=true):=HG.out (by rw [HE.out];rfl)
    clear HB HG HM HS HT px qx rx
    go_wp2_with (go_at_call 40;refine (K1.out _ bel).mono ?_;rintro e W1 ⟨rfl,b1⟩;have c1:=b1;obtain ⟨_,_,_,_⟩:=HK.out _ (bel.trans (c1.mono bel.size));obtain ⟨_,_,_,_⟩:=kp.out _ (bel0.trans (c1.mono sz)))
    go_roundg (gk - 1)
    case rel=>exact ⟨k+1,by simp,by have:=hk'.out;show _=_;omega,bel0.trans (c1.mono sz),HR⟩
    case measure=>have:=hk'.out;omega
   | false =>
    cases s2 with
    | true =>
     have HR : Hid (∀ y ∈ x.ks.take (k+1),scB y=true):=HG.out (by rw [HE.out];rfl)
     clear HB HG HM HS HT px qx rx
     go_wp2_with (first
      | (go_at_call 40;refine (K1.out _ bel).mono ?_;rintro e W1 ⟨rfl,b1⟩;have c1:=b1;obtain ⟨_,_,_,_⟩:=HK.out _ (bel.trans (c1.mono bel.size));obtain ⟨_,_,_,_⟩:=kp.out _ (bel0.trans (c1.mono sz)))
      | (go_at_call 44;refine (K2.out _ (bel.trans (c1.mono bel.size))).mono ?_;rintro e W2 ⟨rfl,b2⟩;have c2:=c1.trans (b2.mono c1.size);obtain ⟨_,_,_,_⟩:=HK.out _ (bel.trans (c2.mono bel.size));obtain ⟨_,_,_,_⟩:=kp.out _ (bel0.trans (c2.mono sz))))
     go_roundg (gk - 1)
     case rel=>exact ⟨k+1,by simp,by have:=hk'.out;show _=_;omega,bel0.trans (c2.mono sz),HR⟩
     case measure=>have:=hk'.out;omega
    | false =>
     cases s3 with
     | true =>
      have HR : Hid (∀ y ∈ x.ks.take (k+1),scB y=true):=HG.out (by rw [HE.out];rfl)
      clear HB HG HM HS HT px qx rx
      go_wp2_with (first
       | (go_at_call 40;refine (K1.out _ bel).mono ?_;rintro e W1 ⟨rfl,b1⟩;have c1:=b1;obtain ⟨_,_,_,_⟩:=HK.out _ (bel.trans (c1.mono bel.size));obtain ⟨_,_,_,_⟩:=kp.out _ (bel0.trans (c1.mono sz)))
       | (go_at_call 44;refine (K2.out _ (bel.trans (c1.mono bel.size))).mono ?_;rintro e W2 ⟨rfl,b2⟩;have c2:=c1.trans (b2.mono c1.size);obtain ⟨_,_,_,_⟩:=HK.out _ (bel.trans (c2.mono bel.size));obtain ⟨_,_,_,_⟩:=kp.out _ (bel0.trans (c2.mono sz)))
       | (go_at_call 45;refine (K3.out _ (bel.trans (c2.mono bel.size))).mono ?_;rintro e W3 ⟨rfl,b3⟩;have c3:=c2.trans (b3.mono c2.size);obtain ⟨_,_,_,_⟩:=HK.out _ (bel.trans (c3.mono bel.size));obtain ⟨_,_,_,_⟩:=kp.out _ (bel0.trans (c3.mono sz))))
      go_roundg (gk - 1)
      case rel=>exact ⟨k+1,by simp,by have:=hk'.out;show _=_;omega,bel0.trans (c3.mono sz),HR⟩
      case measure=>have:=hk'.out;omega
     | false =>
      have HR : Hid (formP x=0):=HB.out (by rw [HE.out];rfl)
      clear HB HG HM HS HT HF px qx rx
      go_wp2_with (first
       | (go_at_call 40;refine (K1.out _ bel).mono ?_;rintro e W1 ⟨rfl,b1⟩;have c1:=b1;obtain ⟨_,_,_,_⟩:=HK.out _ (bel.trans (c1.mono bel.size));obtain ⟨_,_,_,_⟩:=kp.out _ (bel0.trans (c1.mono sz)))
       | (go_at_call 44;refine (K2.out _ (bel.trans (c1.mono bel.size))).mono ?_;rintro e W2 ⟨rfl,b2⟩;have c2:=c1.trans (b2.mono c1.size);obtain ⟨_,_,_,_⟩:=HK.out _ (bel.trans (c2.mono bel.size));obtain ⟨_,_,_,_⟩:=kp.out _ (bel0.trans (c2.mono sz)))
       | (go_at_call 45;refine (K3.out _ (bel.trans (c2.mono bel.size))).mono ?_;rintro e W3 ⟨rfl,b3⟩;have c3:=c2.trans (b3.mono c2.size);obtain ⟨_,_,_,_⟩:=HK.out _ (bel.trans (c3.mono bel.size));obtain ⟨_,_,_,_⟩:=kp.out _ (bel0.trans (c3.mono sz))))
      go_ret
      exact ⟨ret_i HR.out.symm,bel.trans (c3.mono bel.size)⟩
  ·have e : x.ks.take k=x.ks:=List.take_of_length_le (by omega)
   have HR : Hid (formP x=6):=by
    show _=_
    rw [HF.out,if_pos]
    rw [Bool.true_and,List.all_eq_true]
    have:=HT.out
    rw [e] at this
    exact this
   clear HT e px qx rx HF
   go_wp2
   go_ret
   exact ⟨ret_i HR.out.symm,bel⟩
theorem rform_any (x : Nd) (zx : x.size ≤ 4194304) (tx : x.tx) (w : World) (S : Nat→Prop) (a : Option Addr) (c : Nat) (hx : LAt w S (.slice a x.ks.length c) x.ks) :
 Calls Tryz.prog 21 #[nv x.k x.t x.n a x.ks.length c] w fun e w'=>e = .returned (.int .i64 (formP x))∧Below w.heap.size w w':=by
 by_cases h8 : x.k=68
 ·have:=form_module x zx tx w S a c hx h8
  rw [h8]
  exact this
 ·by_cases h9 : x.k=69
  ·have:=form_script x zx tx w S a c hx h9
   rw [h9]
   exact this
  ·exact form_other x zx tx w S a c hx h8 h9
end Go.Proofs.YtfcocoadaajbjaaGreatDoor
namespace Go.Proofs.YtfcocoadaajbjaaGreatDoor.Forms
open Go.RowKit
end Go.Proofs.YtfcocoadaajbjaaGreatDoor.Forms
