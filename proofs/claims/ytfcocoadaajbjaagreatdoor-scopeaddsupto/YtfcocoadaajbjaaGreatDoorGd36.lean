/- Own text. Which trees are types,statements: the document's answer,kinds with one part. Which trees are statements: the document's answer,kinds with two parts. Which trees are statements: the document's answer,if,blocks. -/
import Derived.Test.YtfcocoadaajbjaaGreatDoorGd35
set_option linter.unusedVariables false
set_option linter.unusedSimpArgs false
set_option maxRecDepth 100000
set_option maxHeartbeats 8000000
namespace Go.Proofs.YtfcocoadaajbjaaGreatDoor
open Go.RowKit
def KC (w : World) (b o : Nat) (k : Int) (t : ByteArray) (n : Int) (a : Option Addr) (len c : Nat) : Prop:=∀ W,Below w.heap.size w W→NqO W b o k t n a len c
def QC (f : FuncId) (w : World) (v : Value) (q : Bool) : Prop:=∀ W,Below w.heap.size w W→Calls Tryz.prog f #[v] W fun e w'=>e = .returned (.bool q)∧Below W.heap.size W w'
theorem ty_array_0 (t : ByteArray) (n : Int) (a : Option Addr) (len c : Nat) (w : World) (h : ((len : Int) == 1)=false) :
 Calls Tryz.prog 39 #[nv 31 t n a len c] w fun e w'=>e = .returned (.bool false)∧Below w.heap.size w w':=by
 have C1:=plain' 31 t n a len c
 generalize plainT t n=p at *
 go_enter Tryz.func39,Tryz.ntmps39
 cases p with
 | false =>
  go_wp2_with (go_at_call 42;refine (C1 _).mono ?_;rintro e W1 ⟨rfl,b1⟩)
  go_ret
  exact ⟨ret_b rfl,((bel_a w _).trans (b1.mono (by simp)))⟩
 | true =>
  go_wp2_with (go_at_call 42;refine (C1 _).mono ?_;rintro e W1 ⟨rfl,b1⟩)
  go_ret
  exact ⟨ret_b rfl,((bel_a w _).trans (b1.mono (by simp)))⟩
theorem ty_array_1 (t : ByteArray) (n : Int) (b o c : Nat) (w : World) (q : Bool) (zk : Int) (zt : ByteArray) (zn : Int) (za : Option Addr) (zl zc : Nat) (HZ : Hid (KC w b o zk zt zn za zl zc)) (CE : Hid (QC 39 w (nv zk zt zn za zl zc) q)) :
 Calls Tryz.prog 39 #[nv 31 t n (some ⟨b,o,none⟩) 1 c] w fun e w'=>e = .returned (.bool (plainT t n && q))∧Below w.heap.size w w':=by
 have C1:=plain' 31 t n (some ⟨b,o,none⟩) 1 c
 generalize plainT t n=p at *
 go_enter Tryz.func39,Tryz.ntmps39
 cases p with
 | false =>
  go_wp2_with (go_at_call 42;refine (C1 _).mono ?_;rintro e W1 ⟨rfl,b1⟩)
  go_ret
  exact ⟨ret_b rfl,((bel_a w _).trans (b1.mono (by simp)))⟩
 | true =>
  go_wp2_with (first
   | (go_at_call 42;refine (C1 _).mono ?_;rintro e W1 ⟨rfl,b1⟩;obtain ⟨_,_,_,_⟩:=HZ.out _ ((bel_a w _).trans (b1.mono (by simp))))
   | (go_at_call 39;refine (CE.out _ ((bel_a w _).trans (b1.mono (by simp)))).mono ?_;rintro e W2 ⟨rfl,b2⟩))
  go_ret
  exact ⟨ret_b (by simp),((bel_a w _).trans (b1.mono (by simp))).trans (b2.mono (by have:=b1.size;simp at this;omega))⟩
theorem st_expr_0 (t : ByteArray) (n : Int) (a : Option Addr) (len c : Nat) (w : World) (h : ((len : Int) == 1)=false) :
 Calls Tryz.prog 40 #[nv 47 t n a len c] w fun e w'=>e = .returned (.bool false)∧Below w.heap.size w w':=by
 have C1:=plain' 47 t n a len c
 generalize plainT t n=p at *
 go_enter Tryz.func40,Tryz.ntmps40
 cases p with
 | false =>
  go_wp2_with (go_at_call 42;refine (C1 _).mono ?_;rintro e W1 ⟨rfl,b1⟩)
  go_ret
  exact ⟨ret_b rfl,((bel_a w _).trans (b1.mono (by simp)))⟩
 | true =>
  go_wp2_with (go_at_call 42;refine (C1 _).mono ?_;rintro e W1 ⟨rfl,b1⟩)
  go_ret
  exact ⟨ret_b rfl,((bel_a w _).trans (b1.mono (by simp)))⟩
theorem st_expr_1 (t : ByteArray) (n : Int) (b o c : Nat) (w : World) (q : Bool) (zk : Int) (zt : ByteArray) (zn : Int) (za : Option Addr) (zl zc : Nat) (HZ : Hid (KC w b o zk zt zn za zl zc)) (CE : Hid (QC 38 w (nv zk zt zn za zl zc) q)) :
 Calls Tryz.prog 40 #[nv 47 t n (some ⟨b,o,none⟩) 1 c] w fun e w'=>e = .returned (.bool (plainT t n && q))∧Below w.heap.size w w':=by
 have C1:=plain' 47 t n (some ⟨b,o,none⟩) 1 c
 generalize plainT t n=p at *
 go_enter Tryz.func40,Tryz.ntmps40
 cases p with
 | false =>
  go_wp2_with (go_at_call 42;refine (C1 _).mono ?_;rintro e W1 ⟨rfl,b1⟩)
  go_ret
  exact ⟨ret_b rfl,((bel_a w _).trans (b1.mono (by simp)))⟩
 | true =>
  go_wp2_with (first
   | (go_at_call 42;refine (C1 _).mono ?_;rintro e W1 ⟨rfl,b1⟩;obtain ⟨_,_,_,_⟩:=HZ.out _ ((bel_a w _).trans (b1.mono (by simp))))
   | (go_at_call 38;refine (CE.out _ ((bel_a w _).trans (b1.mono (by simp)))).mono ?_;rintro e W2 ⟨rfl,b2⟩))
  go_ret
  exact ⟨ret_b (by simp),((bel_a w _).trans (b1.mono (by simp))).trans (b2.mono (by have:=b1.size;simp at this;omega))⟩
theorem st_throw_0 (t : ByteArray) (n : Int) (a : Option Addr) (len c : Nat) (w : World) (h : ((len : Int) == 1)=false) :
 Calls Tryz.prog 40 #[nv 51 t n a len c] w fun e w'=>e = .returned (.bool false)∧Below w.heap.size w w':=by
 have C1:=plain' 51 t n a len c
 generalize plainT t n=p at *
 go_enter Tryz.func40,Tryz.ntmps40
 cases p with
 | false =>
  go_wp2_with (go_at_call 42;refine (C1 _).mono ?_;rintro e W1 ⟨rfl,b1⟩)
  go_ret
  exact ⟨ret_b rfl,((bel_a w _).trans (b1.mono (by simp)))⟩
 | true =>
  go_wp2_with (go_at_call 42;refine (C1 _).mono ?_;rintro e W1 ⟨rfl,b1⟩)
  go_ret
  exact ⟨ret_b rfl,((bel_a w _).trans (b1.mono (by simp)))⟩
theorem st_throw_1 (t : ByteArray) (n : Int) (b o c : Nat) (w : World) (q : Bool) (zk : Int) (zt : ByteArray) (zn : Int) (za : Option Addr) (zl zc : Nat) (HZ : Hid (KC w b o zk zt zn za zl zc)) (CE : Hid (QC 38 w (nv zk zt zn za zl zc) q)) :
 Calls Tryz.prog 40 #[nv 51 t n (some ⟨b,o,none⟩) 1 c] w fun e w'=>e = .returned (.bool (plainT t n && q))∧Below w.heap.size w w':=by
 have C1:=plain' 51 t n (some ⟨b,o,none⟩) 1 c
 generalize plainT t n=p at *
 go_enter Tryz.func40,Tryz.ntmps40
 cases p with
 | false =>
  go_wp2_with (go_at_call 42;refine (C1 _).mono ?_;rintro e W1 ⟨rfl,b1⟩)
  go_ret
  exact ⟨ret_b rfl,((bel_a w _).trans (b1.mono (by simp)))⟩
 | true =>
  go_wp2_with (first
   | (go_at_call 42;refine (C1 _).mono ?_;rintro e W1 ⟨rfl,b1⟩;obtain ⟨_,_,_,_⟩:=HZ.out _ ((bel_a w _).trans (b1.mono (by simp))))
   | (go_at_call 38;refine (CE.out _ ((bel_a w _).trans (b1.mono (by simp)))).mono ?_;rintro e W2 ⟨rfl,b2⟩))
  go_ret
  exact ⟨ret_b (by simp),((bel_a w _).trans (b1.mono (by simp))).trans (b2.mono (by have:=b1.size;simp at this;omega))⟩
theorem st_return_0 (t : ByteArray) (n : Int) (a : Option Addr) (len c : Nat) (w : World) (h : ((len : Int) == 1)=false) :
 Calls Tryz.prog 40 #[nv 50 t n a len c] w fun e w'=>e = .returned (.bool false)∧Below w.heap.size w w':=by
 have C1:=plain' 50 t n a len c
 generalize plainT t n=p at *
 go_enter Tryz.func40,Tryz.ntmps40
 cases p with
 | false =>
  go_wp2_with (go_at_call 42;refine (C1 _).mono ?_;rintro e W1 ⟨rfl,b1⟩)
  go_ret
  exact ⟨ret_b rfl,((bel_a w _).trans (b1.mono (by simp)))⟩
 | true =>
  go_wp2_with (go_at_call 42;refine (C1 _).mono ?_;rintro e W1 ⟨rfl,b1⟩)
  go_ret
  exact ⟨ret_b rfl,((bel_a w _).trans (b1.mono (by simp)))⟩
theorem st_return_1 (t : ByteArray) (n : Int) (b o c : Nat) (w : World) (q : Bool) (zk : Int) (zt : ByteArray) (zn : Int) (za : Option Addr) (zl zc : Nat) (HZ : Hid (KC w b o zk zt zn za zl zc)) (CE : Hid (QC 38 w (nv zk zt zn za zl zc) q)) :
 Calls Tryz.prog 40 #[nv 50 t n (some ⟨b,o,none⟩) 1 c] w fun e w'=>e = .returned (.bool (plainT t n && (((zk == 14) && plainT zt zn && ((zl : Int) == 0)) || q)))∧Below w.heap.size w w':=by
 have C1:=plain' 50 t n (some ⟨b,o,none⟩) 1 c
 have C2:=none' zk zt zn za zl zc
 generalize plainT t n=p at *
 generalize ((zk == 14) && plainT zt zn && ((zl : Int) == 0))=r at *
 go_enter Tryz.func40,Tryz.ntmps40
 cases p with
 | false =>
  go_wp2_with (go_at_call 42;refine (C1 _).mono ?_;rintro e W1 ⟨rfl,b1⟩)
  go_ret
  exact ⟨ret_b rfl,((bel_a w _).trans (b1.mono (by simp)))⟩
 | true =>
  cases r with
  | true =>
   go_wp2_with (first
    | (go_at_call 42;refine (C1 _).mono ?_;rintro e W1 ⟨rfl,b1⟩;obtain ⟨_,_,_,_⟩:=HZ.out _ ((bel_a w _).trans (b1.mono (by simp))))
    | (go_at_call 74;refine (C2 _).mono ?_;rintro e W2 ⟨rfl,b2⟩))
   go_ret
   exact ⟨ret_b (by simp),((bel_a w _).trans (b1.mono (by simp))).trans (b2.mono (by have:=b1.size;simp at this;omega))⟩
  | false =>
   go_wp2_with (first
    | (go_at_call 42;refine (C1 _).mono ?_;rintro e W1 ⟨rfl,b1⟩;obtain ⟨_,_,_,_⟩:=HZ.out _ ((bel_a w _).trans (b1.mono (by simp))))
    | (go_at_call 74;refine (C2 _).mono ?_;rintro e W2 ⟨rfl,b2⟩;have bel2:=((bel_a w _).trans (b1.mono (by simp))).trans (b2.mono (by have:=b1.size;simp at this;omega));obtain ⟨_,_,_,_⟩:=HZ.out _ bel2)
    | (go_at_call 38;refine (CE.out _ bel2).mono ?_;rintro e W3 ⟨rfl,b3⟩))
   go_ret
   exact ⟨ret_b (by simp),bel2.trans (b3.mono bel2.size)⟩
end Go.Proofs.YtfcocoadaajbjaaGreatDoor
namespace Go.Proofs.YtfcocoadaajbjaaGreatDoor
open Go.RowKit
theorem st_let (t : ByteArray) (n : Int) (b o c : Nat) (w : World) (z0k : Int) (z0t : ByteArray) (z0n : Int) (z0a : Option Addr) (z0l z0c : Nat) (HZ0 : Hid (KC w b (o+0) z0k z0t z0n z0a z0l z0c)) (z1k : Int) (z1t : ByteArray) (z1n : Int) (z1a : Option Addr) (z1l z1c : Nat) (HZ1 : Hid (KC w b (o+4) z1k z1t z1n z1a z1l z1c)) (p1 : Bool) (C1 : Hid (QC 13 w (.string t) p1)) (p2 : Bool) (C2 : Hid (QC 72 w (nv z0k z0t z0n z0a z0l z0c) p2)) (p3 : Bool) (C3 : Hid (QC 38 w (nv z1k z1t z1n z1a z1l z1c) p3)) :
 Calls Tryz.prog 40 #[nv 40 t n (some ⟨b,o,none⟩) 2 c] w fun e w'=>e = .returned (.bool (p1 && ((n == 0) || (n == 1)) && p2 && p3))∧Below w.heap.size w w':=by
 have bel0 : Below w.heap.size w (w.alloc (Obj.cells #[.int .i64 40,.string t,.int .i64 n,.slice (some ⟨b,o,none⟩) 2 c] 24)):=bel_a w _
 have HY0 : Hid (∀ W,Below w.heap.size w W→NqO W b o z0k z0t z0n z0a z0l z0c):=HZ0.out
 have HY1 : Hid (∀ W,Below w.heap.size w W→W.cell? ⟨b,o+4,none⟩=some (.int .i64 z1k)∧W.cell? ⟨b,o+5,none⟩=some (.string z1t)∧W.cell? ⟨b,o+6,none⟩=some (.int .i64 z1n)∧W.cell? ⟨b,o+7,none⟩=some (.slice z1a z1l z1c)):=HZ1.out
 have X0 : (w.alloc (Obj.cells #[.int .i64 40,.string t,.int .i64 n,.slice (some ⟨b,o,none⟩) 2 c] 24)).heap[w.heap.size]?=some (.cells #[.int .i64 40,.string t,.int .i64 n,.slice (some ⟨b,o,none⟩) 2 c] 24 (0,0)):=hnew _ rfl
 have kp : Hid (∀ W',Below (w.heap.size+1) (w.alloc (Obj.cells #[.int .i64 40,.string t,.int .i64 n,.slice (some ⟨b,o,none⟩) 2 c] 24)) W'→(NqZ W' w.heap.size 40 t n (some ⟨b,o,none⟩) 2 c)):=fun W' b=>(box4 ((b.block _ (by omega)).trans X0)).1
 have kz : Hid ((w.alloc (Obj.cells #[.int .i64 40,.string t,.int .i64 n,.slice (some ⟨b,o,none⟩) 2 c] 24)).heap.size=w.heap.size+1):=by simp [Hid]
 have kr : Hid (Below (w.heap.size+1) (w.alloc (Obj.cells #[.int .i64 40,.string t,.int .i64 n,.slice (some ⟨b,o,none⟩) 2 c] 24)) (w.alloc (Obj.cells #[.int .i64 40,.string t,.int .i64 n,.slice (some ⟨b,o,none⟩) 2 c] 24))):=Below.refl _ _
 clear X0
 go_enter Tryz.func40,Tryz.ntmps40
 cases p1 with
 | false =>
  go_wp2_with (go_at_call 13;refine (C1.out _ bel0).mono ?_;rintro e W1 ⟨rfl,b1⟩;have bel1:=bel0.trans (b1.mono bel0.size);have kb1:=b1.mono (show w.heap.size+1 ≤ _ by have:=kz.out;omega);obtain ⟨_,_,_,_⟩:=kp.out _ kb1;have ks1 : w.heap.size+1 ≤ W1.heap.size:=(by have:=kz.out;have:=b1.size;omega);obtain ⟨_,_,_,_⟩:=HY0.out _ bel1;obtain ⟨_,_,_,_⟩:=HY1.out _ bel1)
  go_ret
  exact ⟨ret_b (by simp),bel1⟩
 | true =>
  by_cases hn : n=0
  ·subst hn
   cases p2 with
   | false =>
    go_wp2_with (first
     | (go_at_call 13;refine (C1.out _ bel0).mono ?_;rintro e W1 ⟨rfl,b1⟩;have bel1:=bel0.trans (b1.mono bel0.size);have kb1:=b1.mono (show w.heap.size+1 ≤ _ by have:=kz.out;omega);obtain ⟨_,_,_,_⟩:=kp.out _ kb1;have ks1 : w.heap.size+1 ≤ W1.heap.size:=(by have:=kz.out;have:=b1.size;omega);obtain ⟨_,_,_,_⟩:=HY0.out _ bel1;obtain ⟨_,_,_,_⟩:=HY1.out _ bel1)
     | (go_at_call 72;refine (C2.out _ bel1).mono ?_;rintro e W2 ⟨rfl,b2⟩;have bel2:=bel1.trans (b2.mono bel1.size);have kb2:=kb1.trans (b2.mono ks1);obtain ⟨_,_,_,_⟩:=kp.out _ kb2;have ks2 : w.heap.size+1 ≤ W2.heap.size:=(by have:=b2.size;omega);obtain ⟨_,_,_,_⟩:=HY0.out _ bel2;obtain ⟨_,_,_,_⟩:=HY1.out _ bel2))
    go_ret
    exact ⟨ret_b (by simp),bel2⟩
   | true =>
    go_wp2_with (first
     | (go_at_call 13;refine (C1.out _ bel0).mono ?_;rintro e W1 ⟨rfl,b1⟩;have bel1:=bel0.trans (b1.mono bel0.size);have kb1:=b1.mono (show w.heap.size+1 ≤ _ by have:=kz.out;omega);obtain ⟨_,_,_,_⟩:=kp.out _ kb1;have ks1 : w.heap.size+1 ≤ W1.heap.size:=(by have:=kz.out;have:=b1.size;omega);obtain ⟨_,_,_,_⟩:=HY0.out _ bel1;obtain ⟨_,_,_,_⟩:=HY1.out _ bel1)
     | (go_at_call 72;refine (C2.out _ bel1).mono ?_;rintro e W2 ⟨rfl,b2⟩;have bel2:=bel1.trans (b2.mono bel1.size);have kb2:=kb1.trans (b2.mono ks1);obtain ⟨_,_,_,_⟩:=kp.out _ kb2;have ks2 : w.heap.size+1 ≤ W2.heap.size:=(by have:=b2.size;omega);obtain ⟨_,_,_,_⟩:=HY0.out _ bel2;obtain ⟨_,_,_,_⟩:=HY1.out _ bel2)
     | (go_at_call 38;refine (C3.out _ bel2).mono ?_;rintro e W3 ⟨rfl,b3⟩;have bel3:=bel2.trans (b3.mono bel2.size);have kb3:=kb2.trans (b3.mono ks2);obtain ⟨_,_,_,_⟩:=kp.out _ kb3;have ks3 : w.heap.size+1 ≤ W3.heap.size:=(by have:=b3.size;omega);obtain ⟨_,_,_,_⟩:=HY0.out _ bel3;obtain ⟨_,_,_,_⟩:=HY1.out _ bel3))
    go_ret
    exact ⟨ret_b (by simp),bel3⟩
  ·by_cases hm : n=1
   ·subst hm
    cases p2 with
    | false =>
     go_wp2_with (first
      | (go_at_call 13;refine (C1.out _ bel0).mono ?_;rintro e W1 ⟨rfl,b1⟩;have bel1:=bel0.trans (b1.mono bel0.size);have kb1:=b1.mono (show w.heap.size+1 ≤ _ by have:=kz.out;omega);obtain ⟨_,_,_,_⟩:=kp.out _ kb1;have ks1 : w.heap.size+1 ≤ W1.heap.size:=(by have:=kz.out;have:=b1.size;omega);obtain ⟨_,_,_,_⟩:=HY0.out _ bel1;obtain ⟨_,_,_,_⟩:=HY1.out _ bel1)
      | (go_at_call 72;refine (C2.out _ bel1).mono ?_;rintro e W2 ⟨rfl,b2⟩;have bel2:=bel1.trans (b2.mono bel1.size);have kb2:=kb1.trans (b2.mono ks1);obtain ⟨_,_,_,_⟩:=kp.out _ kb2;have ks2 : w.heap.size+1 ≤ W2.heap.size:=(by have:=b2.size;omega);obtain ⟨_,_,_,_⟩:=HY0.out _ bel2;obtain ⟨_,_,_,_⟩:=HY1.out _ bel2))
     go_ret
     exact ⟨ret_b (by simp),bel2⟩
    | true =>
     go_wp2_with (first
      | (go_at_call 13;refine (C1.out _ bel0).mono ?_;rintro e W1 ⟨rfl,b1⟩;have bel1:=bel0.trans (b1.mono bel0.size);have kb1:=b1.mono (show w.heap.size+1 ≤ _ by have:=kz.out;omega);obtain ⟨_,_,_,_⟩:=kp.out _ kb1;have ks1 : w.heap.size+1 ≤ W1.heap.size:=(by have:=kz.out;have:=b1.size;omega);obtain ⟨_,_,_,_⟩:=HY0.out _ bel1;obtain ⟨_,_,_,_⟩:=HY1.out _ bel1)
      | (go_at_call 72;refine (C2.out _ bel1).mono ?_;rintro e W2 ⟨rfl,b2⟩;have bel2:=bel1.trans (b2.mono bel1.size);have kb2:=kb1.trans (b2.mono ks1);obtain ⟨_,_,_,_⟩:=kp.out _ kb2;have ks2 : w.heap.size+1 ≤ W2.heap.size:=(by have:=b2.size;omega);obtain ⟨_,_,_,_⟩:=HY0.out _ bel2;obtain ⟨_,_,_,_⟩:=HY1.out _ bel2)
      | (go_at_call 38;refine (C3.out _ bel2).mono ?_;rintro e W3 ⟨rfl,b3⟩;have bel3:=bel2.trans (b3.mono bel2.size);have kb3:=kb2.trans (b3.mono ks2);obtain ⟨_,_,_,_⟩:=kp.out _ kb3;have ks3 : w.heap.size+1 ≤ W3.heap.size:=(by have:=b3.size;omega);obtain ⟨_,_,_,_⟩:=HY0.out _ bel3;obtain ⟨_,_,_,_⟩:=HY1.out _ bel3))
     go_ret
     exact ⟨ret_b (by simp),bel3⟩
   ·go_wp2_with (go_at_call 13;refine (C1.out _ bel0).mono ?_;rintro e W1 ⟨rfl,b1⟩;have bel1:=bel0.trans (b1.mono bel0.size);have kb1:=b1.mono (show w.heap.size+1 ≤ _ by have:=kz.out;omega);obtain ⟨_,_,_,_⟩:=kp.out _ kb1;have ks1 : w.heap.size+1 ≤ W1.heap.size:=(by have:=kz.out;have:=b1.size;omega);obtain ⟨_,_,_,_⟩:=HY0.out _ bel1;obtain ⟨_,_,_,_⟩:=HY1.out _ bel1)
    go_ret
    exact ⟨ret_b (by simp [hn,hm]),bel1⟩
theorem st_let0 (t : ByteArray) (n : Int) (a : Option Addr) (len c : Nat) (w : World) (p1 : Bool) (C1 : Hid (QC 13 w (.string t) p1)) (hl : ((len : Int) == 2)=false) :
 Calls Tryz.prog 40 #[nv 40 t n a len c] w fun e w'=>e = .returned (.bool (false))∧Below w.heap.size w w':=by
 have bel0 : Below w.heap.size w (w.alloc (Obj.cells #[.int .i64 40,.string t,.int .i64 n,.slice a len c] 24)):=bel_a w _
 have X0 : (w.alloc (Obj.cells #[.int .i64 40,.string t,.int .i64 n,.slice a len c] 24)).heap[w.heap.size]?=some (.cells #[.int .i64 40,.string t,.int .i64 n,.slice a len c] 24 (0,0)):=hnew _ rfl
 have kp : Hid (∀ W',Below (w.heap.size+1) (w.alloc (Obj.cells #[.int .i64 40,.string t,.int .i64 n,.slice a len c] 24)) W'→(NqZ W' w.heap.size 40 t n a len c)):=fun W' b=>(box4 ((b.block _ (by omega)).trans X0)).1
 have kz : Hid ((w.alloc (Obj.cells #[.int .i64 40,.string t,.int .i64 n,.slice a len c] 24)).heap.size=w.heap.size+1):=by simp [Hid]
 have kr : Hid (Below (w.heap.size+1) (w.alloc (Obj.cells #[.int .i64 40,.string t,.int .i64 n,.slice a len c] 24)) (w.alloc (Obj.cells #[.int .i64 40,.string t,.int .i64 n,.slice a len c] 24))):=Below.refl _ _
 clear X0
 go_enter Tryz.func40,Tryz.ntmps40
 cases p1 with
 | false =>
  go_wp2_with (go_at_call 13;refine (C1.out _ bel0).mono ?_;rintro e W1 ⟨rfl,b1⟩;have bel1:=bel0.trans (b1.mono bel0.size);have kb1:=b1.mono (show w.heap.size+1 ≤ _ by have:=kz.out;omega);obtain ⟨_,_,_,_⟩:=kp.out _ kb1;have ks1 : w.heap.size+1 ≤ W1.heap.size:=(by have:=kz.out;have:=b1.size;omega))
  go_ret
  exact ⟨ret_b (by simp),bel1⟩
 | true =>
  by_cases hn : n=0
  ·subst hn
   go_wp2_with (go_at_call 13;refine (C1.out _ bel0).mono ?_;rintro e W1 ⟨rfl,b1⟩;have bel1:=bel0.trans (b1.mono bel0.size);have kb1:=b1.mono (show w.heap.size+1 ≤ _ by have:=kz.out;omega);obtain ⟨_,_,_,_⟩:=kp.out _ kb1;have ks1 : w.heap.size+1 ≤ W1.heap.size:=(by have:=kz.out;have:=b1.size;omega))
   go_ret
   exact ⟨ret_b (by simp),bel1⟩
  ·by_cases hm : n=1
   ·subst hm
    go_wp2_with (go_at_call 13;refine (C1.out _ bel0).mono ?_;rintro e W1 ⟨rfl,b1⟩;have bel1:=bel0.trans (b1.mono bel0.size);have kb1:=b1.mono (show w.heap.size+1 ≤ _ by have:=kz.out;omega);obtain ⟨_,_,_,_⟩:=kp.out _ kb1;have ks1 : w.heap.size+1 ≤ W1.heap.size:=(by have:=kz.out;have:=b1.size;omega))
    go_ret
    exact ⟨ret_b (by simp),bel1⟩
   ·go_wp2_with (go_at_call 13;refine (C1.out _ bel0).mono ?_;rintro e W1 ⟨rfl,b1⟩;have bel1:=bel0.trans (b1.mono bel0.size);have kb1:=b1.mono (show w.heap.size+1 ≤ _ by have:=kz.out;omega);obtain ⟨_,_,_,_⟩:=kp.out _ kb1;have ks1 : w.heap.size+1 ≤ W1.heap.size:=(by have:=kz.out;have:=b1.size;omega))
    go_ret
    exact ⟨ret_b (by simp [hn,hm]),bel1⟩
theorem st_while (t : ByteArray) (n : Int) (b o c : Nat) (w : World) (z0k : Int) (z0t : ByteArray) (z0n : Int) (z0a : Option Addr) (z0l z0c : Nat) (HZ0 : Hid (KC w b (o+0) z0k z0t z0n z0a z0l z0c)) (z1k : Int) (z1t : ByteArray) (z1n : Int) (z1a : Option Addr) (z1l z1c : Nat) (HZ1 : Hid (KC w b (o+4) z1k z1t z1n z1a z1l z1c)) (p1 : Bool) (C1 : Hid (QC 42 w (nv 49 t n (some ⟨b,o,none⟩) 2 c) p1)) (p2 : Bool) (C2 : Hid (QC 38 w (nv z0k z0t z0n z0a z0l z0c) p2)) (p3 : Bool) (C3 : Hid (QC 73 w (nv z1k z1t z1n z1a z1l z1c) p3)) :
 Calls Tryz.prog 40 #[nv 49 t n (some ⟨b,o,none⟩) 2 c] w fun e w'=>e = .returned (.bool (p1 && p2 && p3))∧Below w.heap.size w w':=by
 have bel0 : Below w.heap.size w (w.alloc (Obj.cells #[.int .i64 49,.string t,.int .i64 n,.slice (some ⟨b,o,none⟩) 2 c] 24)):=bel_a w _
 have HY0 : Hid (∀ W,Below w.heap.size w W→NqO W b o z0k z0t z0n z0a z0l z0c):=HZ0.out
 have HY1 : Hid (∀ W,Below w.heap.size w W→W.cell? ⟨b,o+4,none⟩=some (.int .i64 z1k)∧W.cell? ⟨b,o+5,none⟩=some (.string z1t)∧W.cell? ⟨b,o+6,none⟩=some (.int .i64 z1n)∧W.cell? ⟨b,o+7,none⟩=some (.slice z1a z1l z1c)):=HZ1.out
 have X0 : (w.alloc (Obj.cells #[.int .i64 49,.string t,.int .i64 n,.slice (some ⟨b,o,none⟩) 2 c] 24)).heap[w.heap.size]?=some (.cells #[.int .i64 49,.string t,.int .i64 n,.slice (some ⟨b,o,none⟩) 2 c] 24 (0,0)):=hnew _ rfl
 have kp : Hid (∀ W',Below (w.heap.size+1) (w.alloc (Obj.cells #[.int .i64 49,.string t,.int .i64 n,.slice (some ⟨b,o,none⟩) 2 c] 24)) W'→(NqZ W' w.heap.size 49 t n (some ⟨b,o,none⟩) 2 c)):=fun W' b=>(box4 ((b.block _ (by omega)).trans X0)).1
 have kz : Hid ((w.alloc (Obj.cells #[.int .i64 49,.string t,.int .i64 n,.slice (some ⟨b,o,none⟩) 2 c] 24)).heap.size=w.heap.size+1):=by simp [Hid]
 have kr : Hid (Below (w.heap.size+1) (w.alloc (Obj.cells #[.int .i64 49,.string t,.int .i64 n,.slice (some ⟨b,o,none⟩) 2 c] 24)) (w.alloc (Obj.cells #[.int .i64 49,.string t,.int .i64 n,.slice (some ⟨b,o,none⟩) 2 c] 24))):=Below.refl _ _
 clear X0
 go_enter Tryz.func40,Tryz.ntmps40
 cases p1 with
 | false =>
  go_wp2_with (go_at_call 42;refine (C1.out _ bel0).mono ?_;rintro e W1 ⟨rfl,b1⟩;have bel1:=bel0.trans (b1.mono bel0.size);have kb1:=b1.mono (show w.heap.size+1 ≤ _ by have:=kz.out;omega);obtain ⟨_,_,_,_⟩:=kp.out _ kb1;have ks1 : w.heap.size+1 ≤ W1.heap.size:=(by have:=kz.out;have:=b1.size;omega);obtain ⟨_,_,_,_⟩:=HY0.out _ bel1;obtain ⟨_,_,_,_⟩:=HY1.out _ bel1)
  go_ret
  exact ⟨ret_b (by simp),bel1⟩
 | true =>
  cases p2 with
  | false =>
   go_wp2_with (first
    | (go_at_call 42;refine (C1.out _ bel0).mono ?_;rintro e W1 ⟨rfl,b1⟩;have bel1:=bel0.trans (b1.mono bel0.size);have kb1:=b1.mono (show w.heap.size+1 ≤ _ by have:=kz.out;omega);obtain ⟨_,_,_,_⟩:=kp.out _ kb1;have ks1 : w.heap.size+1 ≤ W1.heap.size:=(by have:=kz.out;have:=b1.size;omega);obtain ⟨_,_,_,_⟩:=HY0.out _ bel1;obtain ⟨_,_,_,_⟩:=HY1.out _ bel1)
    | (go_at_call 38;refine (C2.out _ bel1).mono ?_;rintro e W2 ⟨rfl,b2⟩;have bel2:=bel1.trans (b2.mono bel1.size);have kb2:=kb1.trans (b2.mono ks1);obtain ⟨_,_,_,_⟩:=kp.out _ kb2;have ks2 : w.heap.size+1 ≤ W2.heap.size:=(by have:=b2.size;omega);obtain ⟨_,_,_,_⟩:=HY0.out _ bel2;obtain ⟨_,_,_,_⟩:=HY1.out _ bel2))
   go_ret
   exact ⟨ret_b (by simp),bel2⟩
  | true =>
   go_wp2_with (first
    | (go_at_call 42;refine (C1.out _ bel0).mono ?_;rintro e W1 ⟨rfl,b1⟩;have bel1:=bel0.trans (b1.mono bel0.size);have kb1:=b1.mono (show w.heap.size+1 ≤ _ by have:=kz.out;omega);obtain ⟨_,_,_,_⟩:=kp.out _ kb1;have ks1 : w.heap.size+1 ≤ W1.heap.size:=(by have:=kz.out;have:=b1.size;omega);obtain ⟨_,_,_,_⟩:=HY0.out _ bel1;obtain ⟨_,_,_,_⟩:=HY1.out _ bel1)
    | (go_at_call 38;refine (C2.out _ bel1).mono ?_;rintro e W2 ⟨rfl,b2⟩;have bel2:=bel1.trans (b2.mono bel1.size);have kb2:=kb1.trans (b2.mono ks1);obtain ⟨_,_,_,_⟩:=kp.out _ kb2;have ks2 : w.heap.size+1 ≤ W2.heap.size:=(by have:=b2.size;omega);obtain ⟨_,_,_,_⟩:=HY0.out _ bel2;obtain ⟨_,_,_,_⟩:=HY1.out _ bel2)
    | (go_at_call 73;refine (C3.out _ bel2).mono ?_;rintro e W3 ⟨rfl,b3⟩;have bel3:=bel2.trans (b3.mono bel2.size);have kb3:=kb2.trans (b3.mono ks2);obtain ⟨_,_,_,_⟩:=kp.out _ kb3;have ks3 : w.heap.size+1 ≤ W3.heap.size:=(by have:=b3.size;omega);obtain ⟨_,_,_,_⟩:=HY0.out _ bel3;obtain ⟨_,_,_,_⟩:=HY1.out _ bel3))
   go_ret
   exact ⟨ret_b (by simp),bel3⟩
theorem st_while0 (t : ByteArray) (n : Int) (a : Option Addr) (len c : Nat) (w : World) (p1 : Bool) (C1 : Hid (QC 42 w (nv 49 t n a len c) p1)) (hl : ((len : Int) == 2)=false) :
 Calls Tryz.prog 40 #[nv 49 t n a len c] w fun e w'=>e = .returned (.bool (false))∧Below w.heap.size w w':=by
 have bel0 : Below w.heap.size w (w.alloc (Obj.cells #[.int .i64 49,.string t,.int .i64 n,.slice a len c] 24)):=bel_a w _
 have X0 : (w.alloc (Obj.cells #[.int .i64 49,.string t,.int .i64 n,.slice a len c] 24)).heap[w.heap.size]?=some (.cells #[.int .i64 49,.string t,.int .i64 n,.slice a len c] 24 (0,0)):=hnew _ rfl
 have kp : Hid (∀ W',Below (w.heap.size+1) (w.alloc (Obj.cells #[.int .i64 49,.string t,.int .i64 n,.slice a len c] 24)) W'→(NqZ W' w.heap.size 49 t n a len c)):=fun W' b=>(box4 ((b.block _ (by omega)).trans X0)).1
 have kz : Hid ((w.alloc (Obj.cells #[.int .i64 49,.string t,.int .i64 n,.slice a len c] 24)).heap.size=w.heap.size+1):=by simp [Hid]
 have kr : Hid (Below (w.heap.size+1) (w.alloc (Obj.cells #[.int .i64 49,.string t,.int .i64 n,.slice a len c] 24)) (w.alloc (Obj.cells #[.int .i64 49,.string t,.int .i64 n,.slice a len c] 24))):=Below.refl _ _
 clear X0
 go_enter Tryz.func40,Tryz.ntmps40
 cases p1 with
 | false =>
  go_wp2_with (go_at_call 42;refine (C1.out _ bel0).mono ?_;rintro e W1 ⟨rfl,b1⟩;have bel1:=bel0.trans (b1.mono bel0.size);have kb1:=b1.mono (show w.heap.size+1 ≤ _ by have:=kz.out;omega);obtain ⟨_,_,_,_⟩:=kp.out _ kb1;have ks1 : w.heap.size+1 ≤ W1.heap.size:=(by have:=kz.out;have:=b1.size;omega))
  go_ret
  exact ⟨ret_b (by simp),bel1⟩
 | true =>
  go_wp2_with (go_at_call 42;refine (C1.out _ bel0).mono ?_;rintro e W1 ⟨rfl,b1⟩;have bel1:=bel0.trans (b1.mono bel0.size);have kb1:=b1.mono (show w.heap.size+1 ≤ _ by have:=kz.out;omega);obtain ⟨_,_,_,_⟩:=kp.out _ kb1;have ks1 : w.heap.size+1 ≤ W1.heap.size:=(by have:=kz.out;have:=b1.size;omega))
  go_ret
  exact ⟨ret_b (by simp),bel1⟩
theorem st_func (t : ByteArray) (n : Int) (a : Option Addr) (len c : Nat) (w : World) (p1 : Bool) (C1 : Hid (QC 13 w (.string t) p1)) (p2 : Bool) (C2 : Hid (QC 69 w (.slice a len c) p2)) :
 Calls Tryz.prog 40 #[nv 41 t n a len c] w fun e w'=>e = .returned (.bool (p1 && (n == 0) && p2))∧Below w.heap.size w w':=by
 have bel0 : Below w.heap.size w (w.alloc (Obj.cells #[.int .i64 41,.string t,.int .i64 n,.slice a len c] 24)):=bel_a w _
 have X0 : (w.alloc (Obj.cells #[.int .i64 41,.string t,.int .i64 n,.slice a len c] 24)).heap[w.heap.size]?=some (.cells #[.int .i64 41,.string t,.int .i64 n,.slice a len c] 24 (0,0)):=hnew _ rfl
 have kp : Hid (∀ W',Below (w.heap.size+1) (w.alloc (Obj.cells #[.int .i64 41,.string t,.int .i64 n,.slice a len c] 24)) W'→(NqZ W' w.heap.size 41 t n a len c)):=fun W' b=>(box4 ((b.block _ (by omega)).trans X0)).1
 have kz : Hid ((w.alloc (Obj.cells #[.int .i64 41,.string t,.int .i64 n,.slice a len c] 24)).heap.size=w.heap.size+1):=by simp [Hid]
 have kr : Hid (Below (w.heap.size+1) (w.alloc (Obj.cells #[.int .i64 41,.string t,.int .i64 n,.slice a len c] 24)) (w.alloc (Obj.cells #[.int .i64 41,.string t,.int .i64 n,.slice a len c] 24))):=Below.refl _ _
 clear X0
 go_enter Tryz.func40,Tryz.ntmps40
 cases p1 with
 | false =>
  go_wp2_with (go_at_call 13;refine (C1.out _ bel0).mono ?_;rintro e W1 ⟨rfl,b1⟩;have bel1:=bel0.trans (b1.mono bel0.size);have kb1:=b1.mono (show w.heap.size+1 ≤ _ by have:=kz.out;omega);obtain ⟨_,_,_,_⟩:=kp.out _ kb1;have ks1 : w.heap.size+1 ≤ W1.heap.size:=(by have:=kz.out;have:=b1.size;omega))
  go_ret
  exact ⟨ret_b (by simp),bel1⟩
 | true =>
  by_cases hn : n=0
  ·subst hn
   go_wp2_with (first
    | (go_at_call 13;refine (C1.out _ bel0).mono ?_;rintro e W1 ⟨rfl,b1⟩;have bel1:=bel0.trans (b1.mono bel0.size);have kb1:=b1.mono (show w.heap.size+1 ≤ _ by have:=kz.out;omega);obtain ⟨_,_,_,_⟩:=kp.out _ kb1;have ks1 : w.heap.size+1 ≤ W1.heap.size:=(by have:=kz.out;have:=b1.size;omega))
    | (go_at_call 69;refine (C2.out _ bel1).mono ?_;rintro e W2 ⟨rfl,b2⟩;have bel2:=bel1.trans (b2.mono bel1.size);have kb2:=kb1.trans (b2.mono ks1);obtain ⟨_,_,_,_⟩:=kp.out _ kb2;have ks2 : w.heap.size+1 ≤ W2.heap.size:=(by have:=b2.size;omega)))
   go_ret
   exact ⟨ret_b (by simp),bel2⟩
  ·go_wp2_with (go_at_call 13;refine (C1.out _ bel0).mono ?_;rintro e W1 ⟨rfl,b1⟩;have bel1:=bel0.trans (b1.mono bel0.size);have kb1:=b1.mono (show w.heap.size+1 ≤ _ by have:=kz.out;omega);obtain ⟨_,_,_,_⟩:=kp.out _ kb1;have ks1 : w.heap.size+1 ≤ W1.heap.size:=(by have:=kz.out;have:=b1.size;omega))
   go_ret
   exact ⟨ret_b (by simp [hn]),bel1⟩
end Go.Proofs.YtfcocoadaajbjaaGreatDoor
namespace Go.Proofs.YtfcocoadaajbjaaGreatDoor
open Go.RowKit
theorem st_if (t : ByteArray) (n : Int) (b o c : Nat) (w : World) (z0k : Int) (z0t : ByteArray) (z0n : Int) (z0a : Option Addr) (z0l z0c : Nat) (HZ0 : Hid (KC w b (o+0) z0k z0t z0n z0a z0l z0c)) (z1k : Int) (z1t : ByteArray) (z1n : Int) (z1a : Option Addr) (z1l z1c : Nat) (HZ1 : Hid (KC w b (o+4) z1k z1t z1n z1a z1l z1c)) (z2k : Int) (z2t : ByteArray) (z2n : Int) (z2a : Option Addr) (z2l z2c : Nat) (HZ2 : Hid (KC w b (o+8) z2k z2t z2n z2a z2l z2c)) (p1 : Bool) (C1 : Hid (QC 42 w (nv 48 t n (some ⟨b,o,none⟩) 3 c) p1)) (p2 : Bool) (C2 : Hid (QC 38 w (nv z0k z0t z0n z0a z0l z0c) p2)) (p3 : Bool) (C3 : Hid (QC 73 w (nv z1k z1t z1n z1a z1l z1c) p3)) (p4 : Bool) (C4 : Hid (QC 74 w (nv z2k z2t z2n z2a z2l z2c) p4)) (p5 : Bool) (C5 : Hid (QC 73 w (nv z2k z2t z2n z2a z2l z2c) p5)) :
 Calls Tryz.prog 40 #[nv 48 t n (some ⟨b,o,none⟩) 3 c] w fun e w'=>e = .returned (.bool (p1 && p2 && p3 && (p4 || p5)))∧Below w.heap.size w w':=by
 have bel0 : Below w.heap.size w (w.alloc (Obj.cells #[.int .i64 48,.string t,.int .i64 n,.slice (some ⟨b,o,none⟩) 3 c] 24)):=bel_a w _
 have HY0 : Hid (∀ W,Below w.heap.size w W→NqO W b o z0k z0t z0n z0a z0l z0c):=HZ0.out
 have HY1 : Hid (∀ W,Below w.heap.size w W→W.cell? ⟨b,o+4,none⟩=some (.int .i64 z1k)∧W.cell? ⟨b,o+5,none⟩=some (.string z1t)∧W.cell? ⟨b,o+6,none⟩=some (.int .i64 z1n)∧W.cell? ⟨b,o+7,none⟩=some (.slice z1a z1l z1c)):=HZ1.out
 have HY2 : Hid (∀ W,Below w.heap.size w W→W.cell? ⟨b,o+8,none⟩=some (.int .i64 z2k)∧W.cell? ⟨b,o+9,none⟩=some (.string z2t)∧W.cell? ⟨b,o+10,none⟩=some (.int .i64 z2n)∧W.cell? ⟨b,o+11,none⟩=some (.slice z2a z2l z2c)):=HZ2.out
 have X0 : (w.alloc (Obj.cells #[.int .i64 48,.string t,.int .i64 n,.slice (some ⟨b,o,none⟩) 3 c] 24)).heap[w.heap.size]?=some (.cells #[.int .i64 48,.string t,.int .i64 n,.slice (some ⟨b,o,none⟩) 3 c] 24 (0,0)):=hnew _ rfl
 have kp : Hid (∀ W',Below (w.heap.size+1) (w.alloc (Obj.cells #[.int .i64 48,.string t,.int .i64 n,.slice (some ⟨b,o,none⟩) 3 c] 24)) W'→(NqZ W' w.heap.size 48 t n (some ⟨b,o,none⟩) 3 c)):=fun W' b=>(box4 ((b.block _ (by omega)).trans X0)).1
 have kz : Hid ((w.alloc (Obj.cells #[.int .i64 48,.string t,.int .i64 n,.slice (some ⟨b,o,none⟩) 3 c] 24)).heap.size=w.heap.size+1):=by simp [Hid]
 have kr : Hid (Below (w.heap.size+1) (w.alloc (Obj.cells #[.int .i64 48,.string t,.int .i64 n,.slice (some ⟨b,o,none⟩) 3 c] 24)) (w.alloc (Obj.cells #[.int .i64 48,.string t,.int .i64 n,.slice (some ⟨b,o,none⟩) 3 c] 24))):=Below.refl _ _
 clear X0
 go_enter Tryz.func40,Tryz.ntmps40
 cases p1 with
 | false =>
  go_wp2_with (go_at_call 42;refine (C1.out _ bel0).mono ?_;rintro e W1 ⟨rfl,b1⟩;have bel1:=bel0.trans (b1.mono bel0.size);have kb1:=b1.mono (show w.heap.size+1 ≤ _ by have:=kz.out;omega);obtain ⟨_,_,_,_⟩:=kp.out _ kb1;have ks1 : w.heap.size+1 ≤ W1.heap.size:=(by have:=kz.out;have:=b1.size;omega);obtain ⟨_,_,_,_⟩:=HY0.out _ bel1;obtain ⟨_,_,_,_⟩:=HY1.out _ bel1;obtain ⟨_,_,_,_⟩:=HY2.out _ bel1)
  go_ret
  exact ⟨ret_b (by simp),bel1⟩
 | true =>
  cases p2 with
  | false =>
   go_wp2_with (first
    | (go_at_call 42;refine (C1.out _ bel0).mono ?_;rintro e W1 ⟨rfl,b1⟩;have bel1:=bel0.trans (b1.mono bel0.size);have kb1:=b1.mono (show w.heap.size+1 ≤ _ by have:=kz.out;omega);obtain ⟨_,_,_,_⟩:=kp.out _ kb1;have ks1 : w.heap.size+1 ≤ W1.heap.size:=(by have:=kz.out;have:=b1.size;omega);obtain ⟨_,_,_,_⟩:=HY0.out _ bel1;obtain ⟨_,_,_,_⟩:=HY1.out _ bel1;obtain ⟨_,_,_,_⟩:=HY2.out _ bel1)
    | (go_at_call 38;refine (C2.out _ bel1).mono ?_;rintro e W2 ⟨rfl,b2⟩;have bel2:=bel1.trans (b2.mono bel1.size);have kb2:=kb1.trans (b2.mono ks1);obtain ⟨_,_,_,_⟩:=kp.out _ kb2;have ks2 : w.heap.size+1 ≤ W2.heap.size:=(by have:=b2.size;omega);obtain ⟨_,_,_,_⟩:=HY0.out _ bel2;obtain ⟨_,_,_,_⟩:=HY1.out _ bel2;obtain ⟨_,_,_,_⟩:=HY2.out _ bel2))
   go_ret
   exact ⟨ret_b (by simp),bel2⟩
  | true =>
   cases p3 with
   | false =>
    go_wp2_with (first
     | (go_at_call 42;refine (C1.out _ bel0).mono ?_;rintro e W1 ⟨rfl,b1⟩;have bel1:=bel0.trans (b1.mono bel0.size);have kb1:=b1.mono (show w.heap.size+1 ≤ _ by have:=kz.out;omega);obtain ⟨_,_,_,_⟩:=kp.out _ kb1;have ks1 : w.heap.size+1 ≤ W1.heap.size:=(by have:=kz.out;have:=b1.size;omega);obtain ⟨_,_,_,_⟩:=HY0.out _ bel1;obtain ⟨_,_,_,_⟩:=HY1.out _ bel1;obtain ⟨_,_,_,_⟩:=HY2.out _ bel1)
     | (go_at_call 38;refine (C2.out _ bel1).mono ?_;rintro e W2 ⟨rfl,b2⟩;have bel2:=bel1.trans (b2.mono bel1.size);have kb2:=kb1.trans (b2.mono ks1);obtain ⟨_,_,_,_⟩:=kp.out _ kb2;have ks2 : w.heap.size+1 ≤ W2.heap.size:=(by have:=b2.size;omega);obtain ⟨_,_,_,_⟩:=HY0.out _ bel2;obtain ⟨_,_,_,_⟩:=HY1.out _ bel2;obtain ⟨_,_,_,_⟩:=HY2.out _ bel2)
     | (go_at_call 73;refine (C3.out _ bel2).mono ?_;rintro e W3 ⟨rfl,b3⟩;have bel3:=bel2.trans (b3.mono bel2.size);have kb3:=kb2.trans (b3.mono ks2);obtain ⟨_,_,_,_⟩:=kp.out _ kb3;have ks3 : w.heap.size+1 ≤ W3.heap.size:=(by have:=b3.size;omega);obtain ⟨_,_,_,_⟩:=HY0.out _ bel3;obtain ⟨_,_,_,_⟩:=HY1.out _ bel3;obtain ⟨_,_,_,_⟩:=HY2.out _ bel3))
    go_ret
    exact ⟨ret_b (by simp),bel3⟩
   | true =>
    cases p4 with
    | true =>
     go_wp2_with (first
      | (go_at_call 42;refine (C1.out _ bel0).mono ?_;rintro e W1 ⟨rfl,b1⟩;have bel1:=bel0.trans (b1.mono bel0.size);have kb1:=b1.mono (show w.heap.size+1 ≤ _ by have:=kz.out;omega);obtain ⟨_,_,_,_⟩:=kp.out _ kb1;have ks1 : w.heap.size+1 ≤ W1.heap.size:=(by have:=kz.out;have:=b1.size;omega);obtain ⟨_,_,_,_⟩:=HY0.out _ bel1;obtain ⟨_,_,_,_⟩:=HY1.out _ bel1;obtain ⟨_,_,_,_⟩:=HY2.out _ bel1)
      | (go_at_call 38;refine (C2.out _ bel1).mono ?_;rintro e W2 ⟨rfl,b2⟩;have bel2:=bel1.trans (b2.mono bel1.size);have kb2:=kb1.trans (b2.mono ks1);obtain ⟨_,_,_,_⟩:=kp.out _ kb2;have ks2 : w.heap.size+1 ≤ W2.heap.size:=(by have:=b2.size;omega);obtain ⟨_,_,_,_⟩:=HY0.out _ bel2;obtain ⟨_,_,_,_⟩:=HY1.out _ bel2;obtain ⟨_,_,_,_⟩:=HY2.out _ bel2)
      | (go_at_call 73;refine (C3.out _ bel2).mono ?_;rintro e W3 ⟨rfl,b3⟩;have bel3:=bel2.trans (b3.mono bel2.size);have kb3:=kb2.trans (b3.mono ks2);obtain ⟨_,_,_,_⟩:=kp.out _ kb3;have ks3 : w.heap.size+1 ≤ W3.heap.size:=(by have:=b3.size;omega);obtain ⟨_,_,_,_⟩:=HY0.out _ bel3;obtain ⟨_,_,_,_⟩:=HY1.out _ bel3;obtain ⟨_,_,_,_⟩:=HY2.out _ bel3)
      | (go_at_call 74;refine (C4.out _ bel3).mono ?_;rintro e W4 ⟨rfl,b4⟩;have bel4:=bel3.trans (b4.mono bel3.size);have kb4:=kb3.trans (b4.mono ks3);obtain ⟨_,_,_,_⟩:=kp.out _ kb4;have ks4 : w.heap.size+1 ≤ W4.heap.size:=(by have:=b4.size;omega);obtain ⟨_,_,_,_⟩:=HY0.out _ bel4;obtain ⟨_,_,_,_⟩:=HY1.out _ bel4;obtain ⟨_,_,_,_⟩:=HY2.out _ bel4))
     go_ret
     exact ⟨ret_b (by simp),bel4⟩
    | false =>
     go_wp2_with (first
      | (go_at_call 42;refine (C1.out _ bel0).mono ?_;rintro e W1 ⟨rfl,b1⟩;have bel1:=bel0.trans (b1.mono bel0.size);have kb1:=b1.mono (show w.heap.size+1 ≤ _ by have:=kz.out;omega);obtain ⟨_,_,_,_⟩:=kp.out _ kb1;have ks1 : w.heap.size+1 ≤ W1.heap.size:=(by have:=kz.out;have:=b1.size;omega);obtain ⟨_,_,_,_⟩:=HY0.out _ bel1;obtain ⟨_,_,_,_⟩:=HY1.out _ bel1;obtain ⟨_,_,_,_⟩:=HY2.out _ bel1)
      | (go_at_call 38;refine (C2.out _ bel1).mono ?_;rintro e W2 ⟨rfl,b2⟩;have bel2:=bel1.trans (b2.mono bel1.size);have kb2:=kb1.trans (b2.mono ks1);obtain ⟨_,_,_,_⟩:=kp.out _ kb2;have ks2 : w.heap.size+1 ≤ W2.heap.size:=(by have:=b2.size;omega);obtain ⟨_,_,_,_⟩:=HY0.out _ bel2;obtain ⟨_,_,_,_⟩:=HY1.out _ bel2;obtain ⟨_,_,_,_⟩:=HY2.out _ bel2)
      | (go_at_call 73;refine (C3.out _ bel2).mono ?_;rintro e W3 ⟨rfl,b3⟩;have bel3:=bel2.trans (b3.mono bel2.size);have kb3:=kb2.trans (b3.mono ks2);obtain ⟨_,_,_,_⟩:=kp.out _ kb3;have ks3 : w.heap.size+1 ≤ W3.heap.size:=(by have:=b3.size;omega);obtain ⟨_,_,_,_⟩:=HY0.out _ bel3;obtain ⟨_,_,_,_⟩:=HY1.out _ bel3;obtain ⟨_,_,_,_⟩:=HY2.out _ bel3)
      | (go_at_call 74;refine (C4.out _ bel3).mono ?_;rintro e W4 ⟨rfl,b4⟩;have bel4:=bel3.trans (b4.mono bel3.size);have kb4:=kb3.trans (b4.mono ks3);obtain ⟨_,_,_,_⟩:=kp.out _ kb4;have ks4 : w.heap.size+1 ≤ W4.heap.size:=(by have:=b4.size;omega);obtain ⟨_,_,_,_⟩:=HY0.out _ bel4;obtain ⟨_,_,_,_⟩:=HY1.out _ bel4;obtain ⟨_,_,_,_⟩:=HY2.out _ bel4)
      | (go_at_call 73;refine (C5.out _ bel4).mono ?_;rintro e W5 ⟨rfl,b5⟩;have bel5:=bel4.trans (b5.mono bel4.size);have kb5:=kb4.trans (b5.mono ks4);obtain ⟨_,_,_,_⟩:=kp.out _ kb5;have ks5 : w.heap.size+1 ≤ W5.heap.size:=(by have:=b5.size;omega);obtain ⟨_,_,_,_⟩:=HY0.out _ bel5;obtain ⟨_,_,_,_⟩:=HY1.out _ bel5;obtain ⟨_,_,_,_⟩:=HY2.out _ bel5))
     go_ret
     exact ⟨ret_b (by simp),bel5⟩
theorem st_if0 (t : ByteArray) (n : Int) (a : Option Addr) (len c : Nat) (w : World) (p1 : Bool) (C1 : Hid (QC 42 w (nv 48 t n a len c) p1)) (hl : ((len : Int) == 3)=false) :
 Calls Tryz.prog 40 #[nv 48 t n a len c] w fun e w'=>e = .returned (.bool (false))∧Below w.heap.size w w':=by
 have bel0 : Below w.heap.size w (w.alloc (Obj.cells #[.int .i64 48,.string t,.int .i64 n,.slice a len c] 24)):=bel_a w _
 have X0 : (w.alloc (Obj.cells #[.int .i64 48,.string t,.int .i64 n,.slice a len c] 24)).heap[w.heap.size]?=some (.cells #[.int .i64 48,.string t,.int .i64 n,.slice a len c] 24 (0,0)):=hnew _ rfl
 have kp : Hid (∀ W',Below (w.heap.size+1) (w.alloc (Obj.cells #[.int .i64 48,.string t,.int .i64 n,.slice a len c] 24)) W'→(NqZ W' w.heap.size 48 t n a len c)):=fun W' b=>(box4 ((b.block _ (by omega)).trans X0)).1
 have kz : Hid ((w.alloc (Obj.cells #[.int .i64 48,.string t,.int .i64 n,.slice a len c] 24)).heap.size=w.heap.size+1):=by simp [Hid]
 have kr : Hid (Below (w.heap.size+1) (w.alloc (Obj.cells #[.int .i64 48,.string t,.int .i64 n,.slice a len c] 24)) (w.alloc (Obj.cells #[.int .i64 48,.string t,.int .i64 n,.slice a len c] 24))):=Below.refl _ _
 clear X0
 go_enter Tryz.func40,Tryz.ntmps40
 cases p1 with
 | false =>
  go_wp2_with (go_at_call 42;refine (C1.out _ bel0).mono ?_;rintro e W1 ⟨rfl,b1⟩;have bel1:=bel0.trans (b1.mono bel0.size);have kb1:=b1.mono (show w.heap.size+1 ≤ _ by have:=kz.out;omega);obtain ⟨_,_,_,_⟩:=kp.out _ kb1;have ks1 : w.heap.size+1 ≤ W1.heap.size:=(by have:=kz.out;have:=b1.size;omega))
  go_ret
  exact ⟨ret_b (by simp),bel1⟩
 | true =>
  go_wp2_with (go_at_call 42;refine (C1.out _ bel0).mono ?_;rintro e W1 ⟨rfl,b1⟩;have bel1:=bel0.trans (b1.mono bel0.size);have kb1:=b1.mono (show w.heap.size+1 ≤ _ by have:=kz.out;omega);obtain ⟨_,_,_,_⟩:=kp.out _ kb1;have ks1 : w.heap.size+1 ≤ W1.heap.size:=(by have:=kz.out;have:=b1.size;omega))
  go_ret
  exact ⟨ret_b (by simp),bel1⟩
theorem st_none (k : Int) (h : formK k ≠ 3) (t : ByteArray) (n : Int) (a : Option Addr) (len c : Nat) (w : World) :
 Calls Tryz.prog 40 #[nv k t n a len c] w fun e w'=>e = .returned (.bool false)∧Below w.heap.size w w':=by
 have hh : ¬ (k=40 ∨ k=41 ∨ k=47 ∨ k=48 ∨ k=49 ∨ k=50 ∨ k=51 ∨ k=52):=fun e=>h (by rcases e with rfl | rfl | rfl | rfl | rfl | rfl | rfl | rfl <;> rfl)
 simp only [not_or] at hh
 obtain ⟨h40,h41,h47,h48,h49,h50,h51,h52⟩:=hh
 clear h
 go_enter Tryz.func40,Tryz.ntmps40
 go_wp2
 go_ret
 exact ⟨rfl,bel_a _ _⟩
theorem st_block (t : ByteArray) (n : Int) (l : List Nd) (hE : ∀ y ∈ l,SC y) (hl : l.length ≤ 4194304) (a : Option Addr) (c : Nat) (w : World) (S : Nat→Prop) (hx : LAt w S (.slice a l.length c) l) :
 Calls Tryz.prog 40 #[nv 52 t n a l.length c] w fun e w'=>e = .returned (.bool (l.all stB && plainT t n))∧Below w.heap.size w w':=by
 have CP:=plain' 52 t n a l.length c
 generalize plainT t n=p at *
 obtain ⟨ax,cx,bx,ox,fx,e,px,qx,rx⟩:=hx.op
 obtain ⟨rfl,rfl⟩ : a=ax∧c=cx:=by injection e with e1 e2 e3;exact ⟨e1,e3⟩
 clear e
 have X0 : (w.alloc (Obj.cells #[.int .i64 52,.string t,.int .i64 n,.slice a l.length c] 24)).heap[w.heap.size]?=some (.cells #[.int .i64 52,.string t,.int .i64 n,.slice a l.length c] 24 (0,0)):=hnew _ rfl
 have kp : Hid (∀ W',Below (w.heap.size+1) (w.alloc (Obj.cells #[.int .i64 52,.string t,.int .i64 n,.slice a l.length c] 24)) W'→(NqZ W' w.heap.size 52 t n a l.length c)):=fun W' b=>(box4 ((b.block _ (by omega)).trans X0)).1
 have kb : Hid (∀ W',Below (w.heap.size+1) (w.alloc (Obj.cells #[.int .i64 52,.string t,.int .i64 n,.slice a l.length c] 24)) W'→Below w.heap.size w W'∧w.heap.size+1 ≤ W'.heap.size):=fun W' b=>⟨(bel_a w _).trans (b.mono (by omega)),by have:=b.size;simpa using this⟩
 have kr : Hid (Below (w.heap.size+1) (w.alloc (Obj.cells #[.int .i64 52,.string t,.int .i64 n,.slice a l.length c] 24)) (w.alloc (Obj.cells #[.int .i64 52,.string t,.int .i64 n,.slice a l.length c] 24))):=Below.refl _ _
 clear X0
 go_enter Tryz.func40,Tryz.ntmps40
 go_wp2
 generalize w.alloc (Obj.cells #[.int .i64 52,.string t,.int .i64 n,.slice a l.length c] 24)=W0 at *
 go_loopg [4] l.length (fun gk v3 wr=>∃ k : Nat,v3 = .int .i64 (k : Nat)∧Hid (gk+k=l.length)∧Below (w.heap.size+1) W0 wr∧Hid (∀ y ∈ l.take k,stB y=true))
 case atStart=>exact ⟨0,rfl,by simp [Hid],kr.out,by simp [Hid]⟩
 case round =>
  obtain ⟨k,rfl,hk,bel0,HT⟩:=hrel
  obtain ⟨bel,sz⟩:=kb.out _ bel0
  have hkk : k ≤ l.length:=by have:=hk.out;omega
  by_cases hkl : k < l.length
  ·obtain ⟨rfl,hSx,hbx⟩:=px (by omega)
   have hm:=List.getElem_mem hkl
   have HS : Hid (l.take (k+1)=l.take k ++ [l[k]]):=List.take_succ_eq_append_getElem hkl
   have hC:=hE _ hm
   have HM : Hid (l[k] ∈ l):=hm
   obtain ⟨⟨u1,u2,u3,u4⟩,gx⟩:=kid_at (qx k hkl) (rx k hkl) hbx bel
   clear hm
   generalize l[k]=y at *
   generalize fx k=fk at *
   obtain ⟨ak,ck,rfl⟩:=gx.sl
   have C:=hC wr S ak ck gx
   have HB : Hid (stB y=false→l.all stB=false):=fun h=>List.all_eq_false.2 ⟨y,HM.out,by rw [h];decide⟩
   have HG : Hid (stB y=true→∀ z ∈ l.take (k+1),stB z=true):=fun h z hz=>by
    rw [HS.out] at hz
    rcases List.mem_append.1 hz with hz | hz
    ·exact HT.out z hz
    ·obtain rfl : z=y:=by simpa using hz
     exact h
   clear hE px qx rx hC HM HS HT gx
   cases hb : stB y with
   | false =>
    rw [hb] at C HB
    have HR : Hid (l.all stB=false):=HB.out rfl
    clear hb HB HG
    go_wp2_with (go_at_call 40;refine C.mono ?_;rintro e W1 ⟨rfl,b1⟩)
    go_ret
    exact ⟨ret_b (by rw [HR.out];rfl),bel.trans (b1.mono bel.size)⟩
   | true =>
    rw [hb] at C HG
    have HR : Hid (∀ z ∈ l.take (k+1),stB z=true):=HG.out rfl
    clear hb HB HG
    go_wp2_with (go_at_call 40;refine C.mono ?_;rintro e W1 ⟨rfl,b1⟩)
    have bel2:=bel0.trans (b1.mono (by omega : w.heap.size+1 ≤ _))
    go_roundg (gk - 1)
    case rel=>exact ⟨k+1,by simp,by have:=hk.out;show _=_;omega,bel2,HR⟩
    case measure=>have:=hk.out;omega
  ·have e : l.take k=l:=List.take_of_length_le (by omega)
   have HR : Hid (l.all stB=true):=List.all_eq_true.2 (by have:=HT.out;rw [e] at this;exact this)
   clear HT e hE px qx rx
   obtain ⟨_,_,_,_⟩:=kp.out _ bel0
   go_wp2_with (go_at_call 42;refine (CP _).mono ?_;rintro e W1 ⟨rfl,b1⟩)
   go_ret
   exact ⟨ret_b (by rw [HR.out];simp),bel.trans (b1.mono bel.size)⟩
end Go.Proofs.YtfcocoadaajbjaaGreatDoor
