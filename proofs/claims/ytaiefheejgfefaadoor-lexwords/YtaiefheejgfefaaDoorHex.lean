/- The contract of byNumber of package runes: the number of a byte in hexadecimal digits. -/
import Derived.Test.YtaiefheejgfefaaDoorShelf
import Derived.Test.YtaiefheejgfefaaDoorPlainA
import Derived.Test.YtaiefheejgfefaaDoorSmall
import Derived.WalkKit
import Derived.Handy
namespace Go.Proofs.YtaiefheejgfefaaDoor
open Go.RowKit

theorem zeros_any (w : World) (hc : w.cell? ⟨7, 15, none⟩ = some (.int .u8 4)) :
    Calls Tryd.prog 100 #[.int .u64 16] w fun e w' => e = .returned (.int .i64 4) ∧ w' = w := by
  have hb : bits BinOp.and IntKind.u64 16 (IntKind.u64.wrap (-16)) = 16 := by kernel_rfl
  have hm : IntKind.u64.wrap 4573923408821661840 = 4573923408821661840 := by kernel_rfl
  go_enter Tryd.func100, Tryd.ntmps100
  go_wp2
  go_ret
  exact ⟨rfl, rfl⟩

theorem digit_at (u : Nat) (hu : u < 16) (h : u < (ByteArray.mk #[48, 49, 50, 51, 52, 53, 54, 55, 56, 57, 97, 98, 99, 100, 101, 102, 103, 104, 105, 106, 107, 108, 109, 110, 111, 112, 113, 114, 115, 116, 117, 118, 119, 120, 121, 122]).size) :
    (ByteArray.mk #[48, 49, 50, 51, 52, 53, 54, 55, 56, 57, 97, 98, 99, 100, 101, 102, 103, 104, 105, 106, 107, 108, 109, 110, 111, 112, 113, 114, 115, 116, 117, 118, 119, 120, 121, 122])[u]'h = hexc u := by
  have hall : ∀ v : Fin 16, (ByteArray.mk #[48, 49, 50, 51, 52, 53, 54, 55, 56, 57, 97, 98, 99, 100, 101, 102, 103, 104, 105, 106, 107, 108, 109, 110, 111, 112, 113, 114, 115, 116, 117, 118, 119, 120, 121, 122]).data.toList.getD v.val 0 = hexc v.val := by decide
  rw [← hall ⟨u, hu⟩]
  show _ = (ByteArray.mk _).data.toList.getD u 0
  rw [List.getD_eq_getElem?_getD, Array.getElem?_toList, Array.getElem?_eq_getElem h]
  rfl

theorem conv_cells (W : World) (C : Array Value) (t : TypeId) (o : Nat) (l : List UInt8) (h : ∀ j (hj : j < l.length), C[o + j]? = some (.int .u8 (l[j].toNat : Int))) (c : Nat) :
    (convert 49 9 (.slice (some ⟨W.heap.size, o, none⟩) l.length c)).run Tryd.prog (W.alloc (.cells C t)) = .ok (.string ⟨l.toArray⟩) (W.alloc (.cells C t)) := by
  refine run_convert_bytes_back _ _ _ 5 _ _ l Tryd.underlying49 Tryd.underlying5 Tryd.underlying9 ?_
  intro j hj
  rw [← h j hj]
  have hb : (W.alloc (.cells C t)).heap[W.heap.size]? = some (.cells C t) := by
    show (W.heap.push _)[W.heap.size]? = _
    simp
  have ha : (⟨W.heap.size, o, none⟩ : Addr).add j = ⟨W.heap.size, o + j, none⟩ := by cases j <;> simp [Addr.add]
  rw [ha]
  simp only [World.cell?, hb]
  rfl

def zc65 : Array Value := (List.replicate 65 (Value.int .u8 0)).toArray
theorem zc65_size : zc65.size = 65 := by kernel_rfl
theorem zc65_zero (w : World) : (zeroValue 122).run Tryd.prog w = .ok (.agg zc65) w := by kernel_rfl
theorem conv1 (W : World) (C : Array Value) (hC : C.size = 65) (x : UInt8) (c : Nat) :
    (convert 49 9 (.slice (some ⟨W.heap.size, 64, none⟩) 1 c)).run Tryd.prog (W.alloc (.cells (C.setIfInBounds 64 (.int .u8 (x.toNat : Int))) 122)) = .ok (.string ⟨#[x]⟩) (W.alloc (.cells (C.setIfInBounds 64 (.int .u8 (x.toNat : Int))) 122)) := by
  refine conv_cells W _ _ 64 [x] ?_ c
  intro j hj
  obtain rfl : j = 0 := by simpa using hj
  simp [hC]
theorem conv2 (W : World) (C : Array Value) (hC : C.size = 65) (x y : UInt8) (c : Nat) :
    (convert 49 9 (.slice (some ⟨W.heap.size, 63, none⟩) 2 c)).run Tryd.prog (W.alloc (.cells ((C.setIfInBounds 64 (.int .u8 (y.toNat : Int))).setIfInBounds 63 (.int .u8 (x.toNat : Int))) 122)) = .ok (.string ⟨#[x, y]⟩) (W.alloc (.cells ((C.setIfInBounds 64 (.int .u8 (y.toNat : Int))).setIfInBounds 63 (.int .u8 (x.toNat : Int))) 122)) := by
  refine conv_cells W _ _ 63 [x, y] ?_ c
  intro j hj
  match j, hj with
  | 0, _ => simp [hC]
  | 1, _ => simp [hC]

theorem ret_ss {a b : ByteArray} (h : a = b) : Ending.returned (.tuple #[.slice none 0 0, .string a]) = .returned (.tuple #[.slice none 0 0, .string b]) := by rw [h]
theorem ret_str {a b : ByteArray} (h : a = b) : Ending.returned (.string a) = .returned (.string b) := by rw [h]

theorem bits_one (u : Nat) (w : World) (hu : u < 16) (hc : w.cell? ⟨7, 15, none⟩ = some (.int .u8 4)) (hz : 7 < w.heap.size) :
    Calls Tryd.prog 89 #[.slice none 0 0, .int .u64 u, .int .i64 16, .bool false, .bool false] w fun e w' => e = .returned (.tuple #[.slice none 0 0, .string ⟨(hexL u).toArray⟩]) ∧ Below w.heap.size w w' := by
  go_enter Tryd.func89, Tryd.ntmps89
  have hcc : ∀ o, (w.alloc o).cell? ⟨7, 15, none⟩ = some (.int .u8 4) := fun o => by rw [World.cell?_alloc_past _ _ _ hz]; exact hc
  have hpow : (bits BinOp.and IntKind.i64 16 15 == 0) = true := by decide
  have hconv := fun C hC x c => conv1 w C hC x c
  have hzv := zc65_zero
  have hzs := zc65_size
  go_wp2_with (first | (go_at_call 100; refine (zeros_any _ (hcc _)).mono ?_; rintro e w' ⟨rfl, rfl⟩) | (go_at_call 99; go_in))
  go_rounds 1
  go_ret2
  exact ⟨ret_ss (by rw [hexL_one u hu, digit_at u hu]), (Below.refl _ w).alloc (Nat.le_refl _) _⟩

set_option maxHeartbeats 1000000 in
theorem bits_two (u : Nat) (w : World) (hu : 16 ≤ u) (hu2 : u < 256) (hc : w.cell? ⟨7, 15, none⟩ = some (.int .u8 4)) (hz : 7 < w.heap.size) :
    Calls Tryd.prog 89 #[.slice none 0 0, .int .u64 u, .int .i64 16, .bool false, .bool false] w fun e w' => e = .returned (.tuple #[.slice none 0 0, .string ⟨(hexL u).toArray⟩]) ∧ Below w.heap.size w w' := by
  go_enter Tryd.func89, Tryd.ntmps89
  have hcc : ∀ o, (w.alloc o).cell? ⟨7, 15, none⟩ = some (.int .u8 4) := fun o => by rw [World.cell?_alloc_past _ _ _ hz]; exact hc
  have hpow : (bits BinOp.and IntKind.i64 16 15 == 0) = true := by decide
  have hconv := fun C hC x y c => conv2 w C hC x y c
  have hzv := zc65_zero
  have hzs := zc65_size
  have hall : ∀ v : Fin 256, bits BinOp.and IntKind.u64 ((v.val : Nat) : Int) 15 = ((v.val % 16 : Nat) : Int) := by decide +kernel
  have hand0 := hall ⟨u, hu2⟩
  clear hall
  obtain ⟨m, hm⟩ : ∃ m, m = u % 16 := ⟨_, rfl⟩
  have hand : bits BinOp.and IntKind.u64 (u : Int) 15 = (m : Int) := by rw [hm]; exact hand0
  have hm2 : m < 16 := by omega
  have HM : Hid (m = u % 16) := hm
  clear hm hand0
  go_wp2_with (first | (go_at_call 100; refine (zeros_any _ (hcc _)).mono ?_; rintro e w' ⟨rfl, rfl⟩) | (go_at_call 99; go_in))
  go_rounds 2
  go_ret2
  exact ⟨ret_ss (by simp only [hexL_two u hu, ← HM.out, digit_at m hm2, digit_at (u / 16) (by omega)]), (Below.refl _ w).alloc (Nat.le_refl _) _⟩

/-- byNumber: a number below 256 between braces, in hexadecimal digits. -/
theorem byNumber_any (u : Nat) (w : World) (hu : u < 256) (hc : w.cell? ⟨7, 15, none⟩ = some (.int .u8 4)) :
    Calls Tryd.prog 58 #[.int .i32 u] w fun e w' => e = .returned (.string ⟨([92, 117, 123] ++ hexL u ++ [125]).toArray⟩) ∧ Below w.heap.size w w' := by
  have hz : 7 < w.heap.size := by
    refine Decidable.byContradiction fun hn => ?_
    simp [World.cell?, Array.getElem?_eq_none (Nat.le_of_not_lt hn)] at hc
  have hbits : Calls Tryd.prog 89 #[.slice none 0 0, .int .u64 u, .int .i64 16, .bool false, .bool false] w fun e w' => e = .returned (.tuple #[.slice none 0 0, .string ⟨(hexL u).toArray⟩]) ∧ Below w.heap.size w w' := by
    by_cases h : u < 16
    · exact bits_one u w h hc hz
    · exact bits_two u w (by omega) hu hc hz
  have hl : (hexL u).length ≤ 2 := by unfold hexL; split <;> simp
  clear hc
  go_enter Tryd.func58, Tryd.ntmps58
  go_wp2_with (first | (go_at_call 75; go_in) | (go_at_call 74; go_in) | (go_at_call 89; refine hbits.mono ?_; rintro e w' ⟨rfl, hw⟩))
  go_ret
  exact ⟨ret_str (by apply ByteArray.ext; simp), hw⟩
end Go.Proofs.YtaiefheejgfefaaDoor
