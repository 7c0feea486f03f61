/- Own text. Which trees are expressions: the document's answer,kinds without kids. Which trees are expressions: the document's answer,kinds whose kids are all expressions. Which trees are expressions: the document's answer,operators. Which trees are expressions: the document's answer,assignments and functions. Which trees are expressions: the document's answer,objects. -/
import Derived.Test.YtfcocoadaajbjaaGreatDoorGd33
set_option linter.unusedVariables false
set_option linter.unusedSimpArgs false
set_option maxRecDepth 100000
set_option maxHeartbeats 8000000
namespace Go.Proofs.YtfcocoadaajbjaaGreatDoor
open Go.RowKit
theorem ex_num (t : ByteArray) (n : Int) (a : Option Addr) (len c : Nat) (w : World) :
 Calls Tryz.prog 38 #[nv 1 t n a len c] w fun e w'=>e = .returned (.bool ((t.toList == []) && decide (0 ≤ n) && decide (n ≤ 9007199254740991) && ((len : Int) == 0)))∧Below w.heap.size w w':=by
 have C2:=bare' 1 t n a len c
 generalize ((len : Int) == 0)=q at *
 go_enter Tryz.func38,Tryz.ntmps38
 by_cases h : (t.toList == [])=true
 ·by_cases h1 : 0 ≤ n
  ·by_cases h2 : n ≤ 9007199254740991
   ·go_wp2_with (go_at_call 65;refine (C2 _).mono ?_;rintro e W1 ⟨rfl,b1⟩)
    go_ret
    exact ⟨ret_b (by simp [h,h1,h2]),(bel_a w _).trans (b1.mono (by simp))⟩
   ·go_wp2
    go_ret
    exact ⟨ret_b (by simp;intros;omega),bel_a _ _⟩
  ·go_wp2
   go_ret
   exact ⟨ret_b (by simp;intros;omega),bel_a _ _⟩
 ·have h' : (t.toList == [])=false:=by simpa using h
  clear h
  go_wp2
  go_ret
  exact ⟨ret_b (by simp [h']),bel_a _ _⟩
theorem ex_bool (t : ByteArray) (n : Int) (a : Option Addr) (len c : Nat) (w : World) :
 Calls Tryz.prog 38 #[nv 3 t n a len c] w fun e w'=>e = .returned (.bool ((t.toList == []) && ((n == 0) || (n == 1)) && ((len : Int) == 0)))∧Below w.heap.size w w':=by
 have C2:=bare' 3 t n a len c
 generalize ((len : Int) == 0)=q at *
 go_enter Tryz.func38,Tryz.ntmps38
 by_cases h : (t.toList == [])=true
 ·by_cases h1 : n=0 ∨ n=1
  ·rcases h1 with rfl | rfl
   all_goals
    go_wp2_with (go_at_call 65;refine (C2 _).mono ?_;rintro e W1 ⟨rfl,b1⟩)
    go_ret
    exact ⟨ret_b (by simp [h]),(bel_a w _).trans (b1.mono (by simp))⟩
  ·have h2 : ¬ n=0:=fun e=>h1 (.inl e)
   have h3 : ¬ n=1:=fun e=>h1 (.inr e)
   clear h1
   go_wp2
   go_ret
   exact ⟨ret_b (by simp [h2,h3]),bel_a _ _⟩
 ·have h' : (t.toList == [])=false:=by simpa using h
  clear h
  go_wp2
  go_ret
  exact ⟨ret_b (by simp [h']),bel_a _ _⟩
theorem ex_text (t : ByteArray) (n : Int) (a : Option Addr) (len c : Nat) (w : World) (hs : t.size ≤ 4194304) :
 Calls Tryz.prog 38 #[nv 2 t n a len c] w fun e w'=>e = .returned (.bool ((n == 0) && validL t.data.toList && ((len : Int) == 0)))∧Below w.heap.size w w':=by
 have C1:=fun W=>rvalid_any t W (by omega)
 have C2:=bare' 2 t n a len c
 generalize validL t.data.toList=p at *
 generalize ((len : Int) == 0)=q at *
 have X0 : (w.alloc (Obj.cells #[.int .i64 2,.string t,.int .i64 n,.slice a len c] 24)).heap[w.heap.size]?=some (.cells #[.int .i64 2,.string t,.int .i64 n,.slice a len c] 24 (0,0)):=hnew _ rfl
 have kp : Hid (∀ W',Below (w.heap.size+1) (w.alloc (Obj.cells #[.int .i64 2,.string t,.int .i64 n,.slice a len c] 24)) W'→(NqZ W' w.heap.size 2 t n a len c)):=fun W' b=>(box4 ((b.block _ (by omega)).trans X0)).1
 clear X0
 clear hs
 go_enter Tryz.func38,Tryz.ntmps38
 by_cases h : n=0
 ·subst h
  cases p with
  | false =>
   go_wp2_with (go_at_call 66;refine (C1 _).mono ?_;rintro e W1 ⟨rfl,b1⟩)
   go_ret
   exact ⟨ret_b rfl,(bel_a w _).trans (b1.mono (by simp))⟩
  | true =>
   go_wp2_with (first
    | (go_at_call 66;refine (C1 _).mono ?_;rintro e W1 ⟨rfl,b1⟩;obtain ⟨_,_,_,_⟩:=kp.out _ (b1.mono (by simp)))
    | (go_at_call 65;refine (C2 _).mono ?_;rintro e W2 ⟨rfl,b2⟩))
   go_ret
   exact ⟨ret_b rfl,((bel_a w _).trans (b1.mono (by simp))).trans (b2.mono (by have:=b1.size;simp at this;omega))⟩
 ·go_wp2
  go_ret
  exact ⟨ret_b (by simp [h]),bel_a _ _⟩
theorem ex_name (t : ByteArray) (n : Int) (a : Option Addr) (len c : Nat) (w : World) (hs : t.size ≤ 4194304) :
 Calls Tryz.prog 38 #[nv 6 t n a len c] w fun e w'=>e = .returned (.bool ((n == 0) && idT false t && ((len : Int) == 0)))∧Below w.heap.size w w':=by
 have C1:=fun W=>rid_any t W hs
 have C2:=bare' 6 t n a len c
 generalize idT false t=p at *
 generalize ((len : Int) == 0)=q at *
 have X0 : (w.alloc (Obj.cells #[.int .i64 6,.string t,.int .i64 n,.slice a len c] 24)).heap[w.heap.size]?=some (.cells #[.int .i64 6,.string t,.int .i64 n,.slice a len c] 24 (0,0)):=hnew _ rfl
 have kp : Hid (∀ W',Below (w.heap.size+1) (w.alloc (Obj.cells #[.int .i64 6,.string t,.int .i64 n,.slice a len c] 24)) W'→(NqZ W' w.heap.size 6 t n a len c)):=fun W' b=>(box4 ((b.block _ (by omega)).trans X0)).1
 clear X0
 clear hs
 go_enter Tryz.func38,Tryz.ntmps38
 by_cases h : n=0
 ·subst h
  cases p with
  | false =>
   go_wp2_with (go_at_call 13;refine (C1 _).mono ?_;rintro e W1 ⟨rfl,b1⟩)
   go_ret
   exact ⟨ret_b rfl,(bel_a w _).trans (b1.mono (by simp))⟩
  | true =>
   go_wp2_with (first
    | (go_at_call 13;refine (C1 _).mono ?_;rintro e W1 ⟨rfl,b1⟩;obtain ⟨_,_,_,_⟩:=kp.out _ (b1.mono (by simp)))
    | (go_at_call 65;refine (C2 _).mono ?_;rintro e W2 ⟨rfl,b2⟩))
   go_ret
   exact ⟨ret_b rfl,((bel_a w _).trans (b1.mono (by simp))).trans (b2.mono (by have:=b1.size;simp at this;omega))⟩
 ·go_wp2
  go_ret
  exact ⟨ret_b (by simp [h]),bel_a _ _⟩
end Go.Proofs.YtfcocoadaajbjaaGreatDoor
namespace Go.Proofs.YtfcocoadaajbjaaGreatDoor
open Go.RowKit
def XC (w : World) (v : Value) (q : Bool) : Prop:=∀ W,Below w.heap.size w W→Calls Tryz.prog 67 #[v] W fun e w'=>e = .returned (.bool q)∧Below W.heap.size W w'
theorem ex_array (t : ByteArray) (n : Int) (a : Option Addr) (len c : Nat) (w : World) (q : Bool) (XE : Hid (XC w (.slice a len c) q)) :
 Calls Tryz.prog 38 #[nv 8 t n a len c] w fun e w'=>e = .returned (.bool (plainT t n && q))∧Below w.heap.size w w':=by
 have C1:=plain' 8 t n a len c
 generalize plainT t n=p at *
 go_enter Tryz.func38,Tryz.ntmps38
 cases p with
 | false =>
  go_wp2_with (go_at_call 42;refine (C1 _).mono ?_;rintro e W1 ⟨rfl,b1⟩)
  go_ret
  exact ⟨ret_b rfl,((bel_a w _).trans (b1.mono (by simp)))⟩
 | true =>
  go_wp2_with (first
   | (go_at_call 42;refine (C1 _).mono ?_;rintro e W1 ⟨rfl,b1⟩)
   | (go_at_call 67;refine (XE.out _ ((bel_a w _).trans (b1.mono (by simp)))).mono ?_;rintro e W2 ⟨rfl,b2⟩))
  go_ret
  exact ⟨ret_b (by simp),((bel_a w _).trans (b1.mono (by simp))).trans (b2.mono (by have:=b1.size;simp at this;omega))⟩
theorem ex_cond (t : ByteArray) (n : Int) (a : Option Addr) (len c : Nat) (w : World) (q : Bool) (XE : Hid (XC w (.slice a len c) q)) :
 Calls Tryz.prog 38 #[nv 17 t n a len c] w fun e w'=>e = .returned (.bool (plainT t n && ((len : Int) == 3) && q))∧Below w.heap.size w w':=by
 have C1:=plain' 17 t n a len c
 generalize plainT t n=p at *
 go_enter Tryz.func38,Tryz.ntmps38
 cases p with
 | false =>
  go_wp2_with (go_at_call 42;refine (C1 _).mono ?_;rintro e W1 ⟨rfl,b1⟩)
  go_ret
  exact ⟨ret_b rfl,((bel_a w _).trans (b1.mono (by simp)))⟩
 | true =>
  cases h : ((len : Int) == 3) with
  | true =>
   go_wp2_with (first
    | (go_at_call 42;refine (C1 _).mono ?_;rintro e W1 ⟨rfl,b1⟩)
    | (go_at_call 67;refine (XE.out _ ((bel_a w _).trans (b1.mono (by simp)))).mono ?_;rintro e W2 ⟨rfl,b2⟩))
   go_ret
   exact ⟨ret_b (by simp),((bel_a w _).trans (b1.mono (by simp))).trans (b2.mono (by have:=b1.size;simp at this;omega))⟩
  | false =>
   go_wp2_with (go_at_call 42;refine (C1 _).mono ?_;rintro e W1 ⟨rfl,b1⟩)
   go_ret
   exact ⟨ret_b (by simp),((bel_a w _).trans (b1.mono (by simp)))⟩
theorem ex_call (t : ByteArray) (n : Int) (a : Option Addr) (len c : Nat) (w : World) (q : Bool) (XE : Hid (XC w (.slice a len c) q)) :
 Calls Tryz.prog 38 #[nv 19 t n a len c] w fun e w'=>e = .returned (.bool (plainT t n && decide (1 ≤ (len : Int)) && q))∧Below w.heap.size w w':=by
 have C1:=plain' 19 t n a len c
 generalize plainT t n=p at *
 go_enter Tryz.func38,Tryz.ntmps38
 cases p with
 | false =>
  go_wp2_with (go_at_call 42;refine (C1 _).mono ?_;rintro e W1 ⟨rfl,b1⟩)
  go_ret
  exact ⟨ret_b rfl,((bel_a w _).trans (b1.mono (by simp)))⟩
 | true =>
  by_cases h : 1 ≤ (len : Int)
  ·go_wp2_with (first
    | (go_at_call 42;refine (C1 _).mono ?_;rintro e W1 ⟨rfl,b1⟩)
    | (go_at_call 67;refine (XE.out _ ((bel_a w _).trans (b1.mono (by simp)))).mono ?_;rintro e W2 ⟨rfl,b2⟩))
   go_ret
   exact ⟨ret_b (by simp [h]),((bel_a w _).trans (b1.mono (by simp))).trans (b2.mono (by have:=b1.size;simp at this;omega))⟩
  ·go_wp2_with (go_at_call 42;refine (C1 _).mono ?_;rintro e W1 ⟨rfl,b1⟩)
   go_ret
   exact ⟨ret_b (by simp;intros;omega),((bel_a w _).trans (b1.mono (by simp)))⟩
theorem ex_index (t : ByteArray) (n : Int) (a : Option Addr) (len c : Nat) (w : World) (q : Bool) (XE : Hid (XC w (.slice a len c) q)) :
 Calls Tryz.prog 38 #[nv 22 t n a len c] w fun e w'=>e = .returned (.bool (plainT t n && ((len : Int) == 2) && q))∧Below w.heap.size w w':=by
 have C1:=plain' 22 t n a len c
 generalize plainT t n=p at *
 go_enter Tryz.func38,Tryz.ntmps38
 cases p with
 | false =>
  go_wp2_with (go_at_call 42;refine (C1 _).mono ?_;rintro e W1 ⟨rfl,b1⟩)
  go_ret
  exact ⟨ret_b rfl,((bel_a w _).trans (b1.mono (by simp)))⟩
 | true =>
  cases h : ((len : Int) == 2) with
  | true =>
   go_wp2_with (first
    | (go_at_call 42;refine (C1 _).mono ?_;rintro e W1 ⟨rfl,b1⟩)
    | (go_at_call 67;refine (XE.out _ ((bel_a w _).trans (b1.mono (by simp)))).mono ?_;rintro e W2 ⟨rfl,b2⟩))
   go_ret
   exact ⟨ret_b (by simp),((bel_a w _).trans (b1.mono (by simp))).trans (b2.mono (by have:=b1.size;simp at this;omega))⟩
  | false =>
   go_wp2_with (go_at_call 42;refine (C1 _).mono ?_;rintro e W1 ⟨rfl,b1⟩)
   go_ret
   exact ⟨ret_b (by simp),((bel_a w _).trans (b1.mono (by simp)))⟩
theorem ex_new (t : ByteArray) (n : Int) (a : Option Addr) (len c : Nat) (w : World) (q : Bool) (XE : Hid (XC w (.slice a len c) q)) (hs : t.size ≤ 4194304) :
 Calls Tryz.prog 38 #[nv 20 t n a len c] w fun e w'=>e = .returned (.bool ((n == 0) && idT false t && q))∧Below w.heap.size w w':=by
 have C1:=fun W=>rid_any t W hs
 generalize idT false t=p at *
 clear hs
 go_enter Tryz.func38,Tryz.ntmps38
 by_cases hn : n=0
 ·subst hn
  cases p with
  | false =>
   go_wp2_with (go_at_call 13;refine (C1 _).mono ?_;rintro e W1 ⟨rfl,b1⟩)
   go_ret
   exact ⟨ret_b rfl,((bel_a w _).trans (b1.mono (by simp)))⟩
  | true =>
   go_wp2_with (first
    | (go_at_call 13;refine (C1 _).mono ?_;rintro e W1 ⟨rfl,b1⟩)
    | (go_at_call 67;refine (XE.out _ ((bel_a w _).trans (b1.mono (by simp)))).mono ?_;rintro e W2 ⟨rfl,b2⟩))
   go_ret
   exact ⟨ret_b (by simp),((bel_a w _).trans (b1.mono (by simp))).trans (b2.mono (by have:=b1.size;simp at this;omega))⟩
 ·go_wp2
  go_ret
  exact ⟨ret_b (by simp [hn]),bel_a _ _⟩
theorem ex_member (t : ByteArray) (n : Int) (a : Option Addr) (len c : Nat) (w : World) (q : Bool) (XE : Hid (XC w (.slice a len c) q)) (hs : t.size ≤ 4194304) :
 Calls Tryz.prog 38 #[nv 21 t n a len c] w fun e w'=>e = .returned (.bool ((n == 0) && propT false t.data.toList && ((len : Int) == 1) && q))∧Below w.heap.size w w':=by
 have C1:=fun W=>rprop_any t W hs
 generalize propT false t.data.toList=p at *
 clear hs
 go_enter Tryz.func38,Tryz.ntmps38
 by_cases hn : n=0
 ·subst hn
  cases p with
  | false =>
   go_wp2_with (go_at_call 68;refine (C1 _).mono ?_;rintro e W1 ⟨rfl,b1⟩)
   go_ret
   exact ⟨ret_b rfl,((bel_a w _).trans (b1.mono (by simp)))⟩
  | true =>
   cases h : ((len : Int) == 1) with
   | true =>
    go_wp2_with (first
     | (go_at_call 68;refine (C1 _).mono ?_;rintro e W1 ⟨rfl,b1⟩)
     | (go_at_call 67;refine (XE.out _ ((bel_a w _).trans (b1.mono (by simp)))).mono ?_;rintro e W2 ⟨rfl,b2⟩))
    go_ret
    exact ⟨ret_b (by simp),((bel_a w _).trans (b1.mono (by simp))).trans (b2.mono (by have:=b1.size;simp at this;omega))⟩
   | false =>
    go_wp2_with (go_at_call 68;refine (C1 _).mono ?_;rintro e W1 ⟨rfl,b1⟩)
    go_ret
    exact ⟨ret_b (by simp),((bel_a w _).trans (b1.mono (by simp)))⟩
 ·go_wp2
  go_ret
  exact ⟨ret_b (by simp [hn]),bel_a _ _⟩
end Go.Proofs.YtfcocoadaajbjaaGreatDoor
namespace Go.Proofs.YtfcocoadaajbjaaGreatDoor
open Go.RowKit
def unL : List (List UInt8):=[[45],[33],[116,121,112,101,111,102]]
def biL : List (List UInt8):=[[43],[45],[42],[47],[37],[61,61,61],[33,61,61],[60],[60,61],[62],[62,61],[38,38],[124,124]]
theorem in_new (W : World) (t : ByteArray) (L : List (List UInt8)) (hl : L.length ≤ 4194304) :
 Calls Tryz.prog 70 #[.string t,.slice (some ⟨W.heap.size,0,none⟩) L.length L.length] (W.alloc (Obj.cells (textC L).toArray 9)) fun e w'=>e = .returned (.bool (decide (t.data.toList ∈ L)))∧Below (W.heap.size+1) (W.alloc (Obj.cells (textC L).toArray 9)) w':=by
 have hc0 : (W.alloc (Obj.cells (textC L).toArray 9)).heap[W.heap.size]?=some (.cells (textC L).toArray 9 (0,0)):=hnew _ rfl
 refine (in_any _ t W.heap.size L.length L ⟨fun k hk=>?_⟩ hl).mono ?_
 ·rw [cell_of_row _ W.heap.size _ _ _ _ hc0]
  simp [textC,List.getElem?_eq_getElem hk]
 ·rintro e w' ⟨rfl,rfl⟩
  exact ⟨rfl,Below.refl _ _⟩
theorem ex_unary (t : ByteArray) (n : Int) (a : Option Addr) (len c : Nat) (w : World) (q : Bool) (XE : Hid (XC w (.slice a len c) q)) :
 Calls Tryz.prog 38 #[nv 15 t n a len c] w fun e w'=>e = .returned (.bool ((n == 0) && decide (t.data.toList ∈ unL) && ((len : Int) == 1) && q))∧Below w.heap.size w w':=by
 have C1 : ∀ W : World,Calls Tryz.prog 70 #[.string t,.slice (some ⟨W.heap.size,0,none⟩) 3 3] (W.alloc (Obj.cells #[.string { data:=#[45] },.string { data:=#[33] },.string { data:=#[116,121,112,101,111,102] }] 9)) fun e w'=>e = .returned (.bool (decide (t.data.toList ∈ unL)))∧Below (W.heap.size+1) (W.alloc (Obj.cells #[.string { data:=#[45] },.string { data:=#[33] },.string { data:=#[116,121,112,101,111,102] }] 9)) w':=fun W=>in_new W t unL (by decide)
 have C1:=C1 (w.alloc (Obj.cells #[.int .i64 15,.string t,.int .i64 n,.slice a len c] 24))
 rw [show (w.alloc (Obj.cells #[.int .i64 15,.string t,.int .i64 n,.slice a len c] 24)).heap.size=w.heap.size+1 by simp] at C1
 generalize decide (t.data.toList ∈ unL)=p at *
 go_enter Tryz.func38,Tryz.ntmps38
 by_cases hn : n=0
 ·subst hn
  cases p with
  | false =>
   go_wp2_with (go_at_call 70;refine C1.mono ?_;rintro e W1 ⟨rfl,b1⟩)
   go_ret
   exact ⟨ret_b rfl,((bel_aa w _ _).trans (b1.mono (by omega)))⟩
  | true =>
   cases h : ((len : Int) == 1) with
   | true =>
    go_wp2_with (first
     | (go_at_call 70;refine C1.mono ?_;rintro e W1 ⟨rfl,b1⟩)
     | (go_at_call 67;refine (XE.out _ ((bel_aa w _ _).trans (b1.mono (by omega)))).mono ?_;rintro e W2 ⟨rfl,b2⟩))
    go_ret
    exact ⟨ret_b (by simp),((bel_aa w _ _).trans (b1.mono (by omega))).trans (b2.mono (by have:=b1.size;simp at this;omega))⟩
   | false =>
    go_wp2_with (go_at_call 70;refine C1.mono ?_;rintro e W1 ⟨rfl,b1⟩)
    go_ret
    exact ⟨ret_b (by simp),((bel_aa w _ _).trans (b1.mono (by omega)))⟩
 ·go_wp2
  go_ret
  exact ⟨ret_b (by simp [hn]),bel_a _ _⟩
theorem ex_binary (t : ByteArray) (n : Int) (a : Option Addr) (len c : Nat) (w : World) (q : Bool) (XE : Hid (XC w (.slice a len c) q)) :
 Calls Tryz.prog 38 #[nv 16 t n a len c] w fun e w'=>e = .returned (.bool ((n == 0) && decide (t.data.toList ∈ biL) && ((len : Int) == 2) && q))∧Below w.heap.size w w':=by
 have C1 : ∀ W : World,Calls Tryz.prog 70 #[.string t,.slice (some ⟨W.heap.size,0,none⟩) 13 13] (W.alloc (Obj.cells #[.string { data:=#[43] },.string { data:=#[45] },.string { data:=#[42] },.string { data:=#[47] },.string { data:=#[37] },.string { data:=#[61,61,61] },.string { data:=#[33,61,61] },.string { data:=#[60] },.string { data:=#[60,61] },.string { data:=#[62] },.string { data:=#[62,61] },.string { data:=#[38,38] },.string { data:=#[124,124] }] 9)) fun e w'=>e = .returned (.bool (decide (t.data.toList ∈ biL)))∧Below (W.heap.size+1) (W.alloc (Obj.cells #[.string { data:=#[43] },.string { data:=#[45] },.string { data:=#[42] },.string { data:=#[47] },.string { data:=#[37] },.string { data:=#[61,61,61] },.string { data:=#[33,61,61] },.string { data:=#[60] },.string { data:=#[60,61] },.string { data:=#[62] },.string { data:=#[62,61] },.string { data:=#[38,38] },.string { data:=#[124,124] }] 9)) w':=fun W=>in_new W t biL (by decide)
 have C1:=C1 (w.alloc (Obj.cells #[.int .i64 16,.string t,.int .i64 n,.slice a len c] 24))
 rw [show (w.alloc (Obj.cells #[.int .i64 16,.string t,.int .i64 n,.slice a len c] 24)).heap.size=w.heap.size+1 by simp] at C1
 generalize decide (t.data.toList ∈ biL)=p at *
 go_enter Tryz.func38,Tryz.ntmps38
 by_cases hn : n=0
 ·subst hn
  cases p with
  | false =>
   go_wp2_with (go_at_call 70;refine C1.mono ?_;rintro e W1 ⟨rfl,b1⟩)
   go_ret
   exact ⟨ret_b rfl,((bel_aa w _ _).trans (b1.mono (by omega)))⟩
  | true =>
   cases h : ((len : Int) == 2) with
   | true =>
    go_wp2_with (first
     | (go_at_call 70;refine C1.mono ?_;rintro e W1 ⟨rfl,b1⟩)
     | (go_at_call 67;refine (XE.out _ ((bel_aa w _ _).trans (b1.mono (by omega)))).mono ?_;rintro e W2 ⟨rfl,b2⟩))
    go_ret
    exact ⟨ret_b (by simp),((bel_aa w _ _).trans (b1.mono (by omega))).trans (b2.mono (by have:=b1.size;simp at this;omega))⟩
   | false =>
    go_wp2_with (go_at_call 70;refine C1.mono ?_;rintro e W1 ⟨rfl,b1⟩)
    go_ret
    exact ⟨ret_b (by simp),((bel_aa w _ _).trans (b1.mono (by omega)))⟩
 ·go_wp2
  go_ret
  exact ⟨ret_b (by simp [hn]),bel_a _ _⟩
end Go.Proofs.YtfcocoadaajbjaaGreatDoor
namespace Go.Proofs.YtfcocoadaajbjaaGreatDoor
open Go.RowKit
def BC (w : World) (v : Value) (q : Bool) : Prop:=∀ W,Below w.heap.size w W→Calls Tryz.prog 69 #[v] W fun e w'=>e = .returned (.bool q)∧Below W.heap.size W w'
theorem ex_func (t : ByteArray) (n : Int) (a : Option Addr) (len c : Nat) (w : World) (q : Bool) (XE : Hid (BC w (.slice a len c) q)) :
 Calls Tryz.prog 38 #[nv 11 t n a len c] w fun e w'=>e = .returned (.bool (plainT t n && q))∧Below w.heap.size w w':=by
 have C1:=plain' 11 t n a len c
 generalize plainT t n=p at *
 go_enter Tryz.func38,Tryz.ntmps38
 cases p with
 | false =>
  go_wp2_with (go_at_call 42;refine (C1 _).mono ?_;rintro e W1 ⟨rfl,b1⟩)
  go_ret
  exact ⟨ret_b rfl,((bel_a w _).trans (b1.mono (by simp)))⟩
 | true =>
  go_wp2_with (first
   | (go_at_call 42;refine (C1 _).mono ?_;rintro e W1 ⟨rfl,b1⟩)
   | (go_at_call 69;refine (XE.out _ ((bel_a w _).trans (b1.mono (by simp)))).mono ?_;rintro e W2 ⟨rfl,b2⟩))
  go_ret
  exact ⟨ret_b (by simp),((bel_a w _).trans (b1.mono (by simp))).trans (b2.mono (by have:=b1.size;simp at this;omega))⟩
theorem ex_assign0 (t : ByteArray) (n : Int) (a : Option Addr) (len c : Nat) (w : World) (h : ((len : Int) == 2)=false) :
 Calls Tryz.prog 38 #[nv 18 t n a len c] w fun e w'=>e = .returned (.bool false)∧Below w.heap.size w w':=by
 have C1:=plain' 18 t n a len c
 generalize plainT t n=p at *
 go_enter Tryz.func38,Tryz.ntmps38
 cases p with
 | false =>
  go_wp2_with (go_at_call 42;refine (C1 _).mono ?_;rintro e W1 ⟨rfl,b1⟩)
  go_ret
  exact ⟨ret_b rfl,((bel_a w _).trans (b1.mono (by simp)))⟩
 | true =>
  go_wp2_with (go_at_call 42;refine (C1 _).mono ?_;rintro e W1 ⟨rfl,b1⟩)
  go_ret
  exact ⟨ret_b rfl,((bel_a w _).trans (b1.mono (by simp)))⟩
theorem ex_assign2 (t : ByteArray) (n : Int) (bl o c : Nat) (w : World) (q : Bool) (yk : Int) (XE : Hid (XC w (.slice (some ⟨bl,o,none⟩) 2 c) q)) (hc : Hid (∀ W,Below w.heap.size w W→W.cell? ⟨bl,o,none⟩=some (.int .i64 yk))) :
 Calls Tryz.prog 38 #[nv 18 t n (some ⟨bl,o,none⟩) 2 c] w fun e w'=>e = .returned (.bool (plainT t n && q && ((yk == 6) || (yk == 21) || (yk == 22))))∧Below w.heap.size w w':=by
 have C1:=plain' 18 t n (some ⟨bl,o,none⟩) 2 c
 generalize plainT t n=p at *
 go_enter Tryz.func38,Tryz.ntmps38
 cases p with
 | false =>
  go_wp2_with (go_at_call 42;refine (C1 _).mono ?_;rintro e W1 ⟨rfl,b1⟩)
  go_ret
  exact ⟨ret_b rfl,((bel_a w _).trans (b1.mono (by simp)))⟩
 | true =>
  cases q with
  | false =>
   go_wp2_with (first
    | (go_at_call 42;refine (C1 _).mono ?_;rintro e W1 ⟨rfl,b1⟩)
    | (go_at_call 67;refine (XE.out _ ((bel_a w _).trans (b1.mono (by simp)))).mono ?_;rintro e W2 ⟨rfl,b2⟩))
   go_ret
   exact ⟨ret_b rfl,((bel_a w _).trans (b1.mono (by simp))).trans (b2.mono (by have:=b1.size;simp at this;omega))⟩
  | true =>
   by_cases h6 : yk=6
   ·subst h6
    go_wp2_with (first
     | (go_at_call 42;refine (C1 _).mono ?_;rintro e W1 ⟨rfl,b1⟩)
     | (go_at_call 67;refine (XE.out _ ((bel_a w _).trans (b1.mono (by simp)))).mono ?_;rintro e W2 ⟨rfl,b2⟩;have u:=hc.out _ (((bel_a w _).trans (b1.mono (by simp))).trans (b2.mono (by have:=b1.size;simp at this;omega)))))
    go_ret
    exact ⟨ret_b rfl,((bel_a w _).trans (b1.mono (by simp))).trans (b2.mono (by have:=b1.size;simp at this;omega))⟩
   ·by_cases h21 : yk=21
    ·subst h21
     go_wp2_with (first
      | (go_at_call 42;refine (C1 _).mono ?_;rintro e W1 ⟨rfl,b1⟩)
      | (go_at_call 67;refine (XE.out _ ((bel_a w _).trans (b1.mono (by simp)))).mono ?_;rintro e W2 ⟨rfl,b2⟩;have u:=hc.out _ (((bel_a w _).trans (b1.mono (by simp))).trans (b2.mono (by have:=b1.size;simp at this;omega)))))
     go_ret
     exact ⟨ret_b rfl,((bel_a w _).trans (b1.mono (by simp))).trans (b2.mono (by have:=b1.size;simp at this;omega))⟩
    ·go_wp2_with (first
      | (go_at_call 42;refine (C1 _).mono ?_;rintro e W1 ⟨rfl,b1⟩)
      | (go_at_call 67;refine (XE.out _ ((bel_a w _).trans (b1.mono (by simp)))).mono ?_;rintro e W2 ⟨rfl,b2⟩;have u:=hc.out _ (((bel_a w _).trans (b1.mono (by simp))).trans (b2.mono (by have:=b1.size;simp at this;omega)))))
     go_ret
     exact ⟨ret_b (by simp [h6,h21]),((bel_a w _).trans (b1.mono (by simp))).trans (b2.mono (by have:=b1.size;simp at this;omega))⟩
end Go.Proofs.YtfcocoadaajbjaaGreatDoor
namespace Go.Proofs.YtfcocoadaajbjaaGreatDoor
open Go.RowKit
def prB (y : Nd) : Bool:=(y.k == 10) && (y.n == 0) && propT false y.t.data.toList && ((y.ks.length : Int) == 1) && y.ks.all exB
theorem one_at {w : World} {S : Nat→Prop} {a : Option Addr} {c len : Nat} {z : Nd} (h : LAt w S (.slice a len c) [z]) : ∃ (b o c' : Nat) (a' : Option Addr),a=some ⟨b,o,none⟩∧b < w.heap.size∧LAt w S (.slice a' z.ks.length c') z.ks ∧
 ∀ W,Below w.heap.size w W→NqO W b o z.k z.t z.n a' z.ks.length c':=by
 obtain ⟨ax,cx,bx,ox,fx,e,px,qx,rx⟩:=h.op
 obtain ⟨e1,e2,e3⟩ : a=ax∧len=1∧c=cx:=by injection e with e1 e2 e3;exact ⟨e1,e2,e3⟩
 obtain ⟨e4,hS,hb⟩:=px (by simp)
 have q:=qx 0 (by simp)
 have r:=rx 0 (by simp)
 obtain ⟨a',c',hs⟩:=r.sl
 rw [hs] at q r
 refine ⟨bx,ox,c',a',e1.trans e4,hb,r,fun W b=>?_⟩
 have:=(kid_at (k:=0) q r hb b).1
 simpa using this
theorem ex_object (t : ByteArray) (n : Int) (l : List Nd) (hE : ∀ y ∈ l,∀ z ∈ y.ks,EC z) (hT : ∀ y ∈ l,y.t.size ≤ 4194304) (hl : l.length ≤ 4194304) (a : Option Addr) (c : Nat) (w : World) (S : Nat→Prop) (hx : LAt w S (.slice a l.length c) l) :
 Calls Tryz.prog 38 #[nv 9 t n a l.length c] w fun e w'=>e = .returned (.bool (l.all prB && plainT t n))∧Below w.heap.size w w':=by
 have CP:=plain' 9 t n a l.length c
 generalize plainT t n=p at *
 obtain ⟨ax,cx,bx,ox,fx,e,px,qx,rx⟩:=hx.op
 obtain ⟨rfl,rfl⟩ : a=ax∧c=cx:=by injection e with e1 e2 e3;exact ⟨e1,e3⟩
 clear e
 have X0 : (w.alloc (Obj.cells #[.int .i64 9,.string t,.int .i64 n,.slice a l.length c] 24)).heap[w.heap.size]?=some (.cells #[.int .i64 9,.string t,.int .i64 n,.slice a l.length c] 24 (0,0)):=hnew _ rfl
 have kp : Hid (∀ W',Below (w.heap.size+1) (w.alloc (Obj.cells #[.int .i64 9,.string t,.int .i64 n,.slice a l.length c] 24)) W'→(NqZ W' w.heap.size 9 t n a l.length c)):=fun W' b=>(box4 ((b.block _ (by omega)).trans X0)).1
 have kb : Hid (∀ W',Below (w.heap.size+1) (w.alloc (Obj.cells #[.int .i64 9,.string t,.int .i64 n,.slice a l.length c] 24)) W'→Below w.heap.size w W'∧w.heap.size+1 ≤ W'.heap.size):=fun W' b=>⟨(bel_a w _).trans (b.mono (by omega)),by have:=b.size;simpa using this⟩
 have kr : Hid (Below (w.heap.size+1) (w.alloc (Obj.cells #[.int .i64 9,.string t,.int .i64 n,.slice a l.length c] 24)) (w.alloc (Obj.cells #[.int .i64 9,.string t,.int .i64 n,.slice a l.length c] 24))):=Below.refl _ _
 clear X0
 go_enter Tryz.func38,Tryz.ntmps38
 go_wp2
 generalize w.alloc (Obj.cells #[.int .i64 9,.string t,.int .i64 n,.slice a l.length c] 24)=W0 at *
 go_loopg [4] l.length (fun gk v3 wr=>∃ k : Nat,v3 = .int .i64 (k : Nat)∧Hid (gk+k=l.length)∧Below (w.heap.size+1) W0 wr∧Hid (∀ y ∈ l.take k,prB y=true))
 case atStart=>exact ⟨0,rfl,by simp [Hid],kr.out,by simp [Hid]⟩
 case round =>
  obtain ⟨k,rfl,hk,bel0,HT⟩:=hrel
  obtain ⟨bel,sz⟩:=kb.out _ bel0
  have hkk : k ≤ l.length:=by have:=hk.out;omega
  by_cases hkl : k < l.length
  ·obtain ⟨rfl,hSx,hbx⟩:=px (by omega)
   have hm:=List.getElem_mem hkl
   have HS : Hid (l.take (k+1)=l.take k ++ [l[k]]):=List.take_succ_eq_append_getElem hkl
   have hC:=hE _ hm
   have C1:=fun W=>rprop_any l[k].t W (hT _ hm)
   have HM : Hid (l[k] ∈ l):=hm
   have hr:=rx k hkl
   have hq:=qx k hkl
   clear hm
   generalize l[k]=y at *
   generalize fx k=fk at *
   obtain ⟨ak,ck,rfl⟩:=hr.sl
   have HK : Hid (∀ W,Below w.heap.size w W→NqO W bx (ox+k * 4) y.k y.t y.n ak y.ks.length ck):=fun W b=>(kid_at hq hr hbx b).1
   have HB : Hid (prB y=false→l.all prB=false):=fun h=>List.all_eq_false.2 ⟨y,HM.out,by rw [h];decide⟩
   have HG : Hid (prB y=true→∀ z ∈ l.take (k+1),prB z=true):=fun h z hz=>by
    rw [HS.out] at hz
    rcases List.mem_append.1 hz with hz | hz
    ·exact HT.out z hz
    ·obtain rfl : z=y:=by simpa using hz
     exact h
   have HP : Hid (prB y=((y.k == 10) && (y.n == 0) && propT false y.t.data.toList && ((y.ks.length : Int) == 1) && y.ks.all exB)):=rfl
   obtain ⟨u1,u2,u3,u4⟩:=HK.out _ bel
   clear hE hT px qx rx HM HS HT hq
   by_cases h10 : y.k=10
   ·rw [h10] at u1 HK HP
    by_cases hn : y.n=0
    ·rw [hn] at u3 HK HP
     generalize propT false y.t.data.toList=pt at *
     cases pt with
     | false =>
      have HR : Hid (l.all prB=false):=HB.out (by rw [HP.out];simp)
      clear HB HG HP
      go_wp2_with (go_at_call 68;refine (C1 _).mono ?_;rintro e W1 ⟨rfl,b1⟩;have bel1:=bel.trans (b1.mono bel.size);obtain ⟨_,_,_,_⟩:=HK.out _ bel1)
      go_ret
      exact ⟨ret_b (by rw [HR.out];rfl),bel1⟩
     | true =>
      by_cases h1 : y.ks.length=1
      ·obtain ⟨z,hz⟩:=List.length_eq_one_iff.1 h1
       have hCz:=hC z (by rw [hz];simp)
       rw [hz] at hr HP
       obtain ⟨bz,oz,cz,az,rfl,hbz,hgz,hcz⟩:=one_at hr
       have HZ : Hid (∀ W,Below w.heap.size w W→NqO W bz oz z.k z.t z.n az z.ks.length cz):=hcz
       have CE : Hid (∀ W,Below w.heap.size w W→Calls Tryz.prog 38 #[nv z.k z.t z.n az z.ks.length cz] W fun e w'=>e = .returned (.bool (exB z))∧Below W.heap.size W w'):=fun W b=>hCz W S az cz (hgz.bel b)
       clear hcz hCz hC hgz hr
       rw [h1] at u4 HK
       have HP2 : Hid (prB y=exB z):=by show _=_;rw [HP.out];simp
       clear HP
       cases hb : exB z with
       | false =>
        have HR : Hid (l.all prB=false):=HB.out (by rw [HP2.out,hb])
        rw [hb] at CE
        clear hb HB HG HP2 hz
        go_wp2_with (first
         | (go_at_call 68;refine (C1 _).mono ?_;rintro e W1 ⟨rfl,b1⟩;have bel1:=bel.trans (b1.mono bel.size);obtain ⟨_,_,_,_⟩:=HK.out _ bel1;obtain ⟨_,_,_,_⟩:=HZ.out _ bel1)
         | (go_at_call 38;refine (CE.out _ bel1).mono ?_;rintro e W2 ⟨rfl,b2⟩))
        go_ret
        exact ⟨ret_b (by rw [HR.out];rfl),bel1.trans (b2.mono bel1.size)⟩
       | true =>
        have HR : Hid (∀ z ∈ l.take (k+1),prB z=true):=HG.out (by rw [HP2.out,hb])
        rw [hb] at CE
        clear hb HB HG HP2 hz
        go_wp2_with (first
         | (go_at_call 68;refine (C1 _).mono ?_;rintro e W1 ⟨rfl,b1⟩;have bel1:=bel.trans (b1.mono bel.size);obtain ⟨_,_,_,_⟩:=HK.out _ bel1;obtain ⟨_,_,_,_⟩:=HZ.out _ bel1)
         | (go_at_call 38;refine (CE.out _ bel1).mono ?_;rintro e W2 ⟨rfl,b2⟩))
        have bel2:=bel0.trans ((b1.mono (by omega : w.heap.size+1 ≤ _)).trans (b2.mono (by have:=b1.size;omega)))
        go_roundg (gk - 1)
        case rel=>exact ⟨k+1,by simp,by have:=hk.out;show _=_;omega,bel2,HR⟩
        case measure=>have:=hk.out;omega
      ·have h1' : ((y.ks.length : Int) == 1)=false:=by simp;omega
       have HR : Hid (l.all prB=false):=HB.out (by rw [HP.out,h1'];simp)
       have h2 : ¬ (y.ks.length : Int)=1:=by omega
       clear HB HG HP h1 hC hr
       go_wp2_with (go_at_call 68;refine (C1 _).mono ?_;rintro e W1 ⟨rfl,b1⟩;have bel1:=bel.trans (b1.mono bel.size);obtain ⟨_,_,_,_⟩:=HK.out _ bel1)
       go_ret
       exact ⟨ret_b (by rw [HR.out];rfl),bel1⟩
    ·have HR : Hid (l.all prB=false):=HB.out (by rw [HP.out];simp [hn])
     clear HB HG HP hC hr
     go_wp2
     go_ret
     exact ⟨ret_b (by rw [HR.out];rfl),bel⟩
   ·have HR : Hid (l.all prB=false):=HB.out (by rw [HP.out];simp [h10])
    clear HB HG HP hC hr
    go_wp2
    go_ret
    exact ⟨ret_b (by rw [HR.out];rfl),bel⟩
  ·have e : l.take k=l:=List.take_of_length_le (by omega)
   have HR : Hid (l.all prB=true):=List.all_eq_true.2 (by have:=HT.out;rw [e] at this;exact this)
   clear HT e hE hT px qx rx
   obtain ⟨_,_,_,_⟩:=kp.out _ bel0
   go_wp2_with (go_at_call 42;refine (CP _).mono ?_;rintro e W1 ⟨rfl,b1⟩)
   go_ret
   exact ⟨ret_b (by rw [HR.out];simp),bel.trans (b1.mono bel.size)⟩
end Go.Proofs.YtfcocoadaajbjaaGreatDoor
