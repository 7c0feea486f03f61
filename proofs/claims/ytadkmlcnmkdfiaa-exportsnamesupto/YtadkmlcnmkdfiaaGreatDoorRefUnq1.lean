/- The contract of the document's Encode: a rune's bytes. -/
import Derived.Lib.Small
import Derived.Test.YtadkmlcnmkdfiaaGreatDoorHex
import Derived.Lib.RuneBytes
namespace Go.Proofs.YtadkmlcnmkdfiaaGreatDoor
open Go.RowKit

theorem conv_nums (W : World) (xs : List Int) (t : TypeId) :
    (convert 147 9 (.slice (some ⟨W.heap.size, 0, none⟩) xs.length xs.length)).run Tryz.prog (W.alloc (.cells (xs.map (Value.int .u8)).toArray t)) = .ok (.string (strOfNums xs)) (W.alloc (.cells (xs.map (Value.int .u8)).toArray t)) := by
  refine run_convert_bytes_arg _ 147 5 Tryz.underlying147 Tryz.underlying5 W.heap.size 0 xs.length xs.length xs rfl ?_ 9 Tryz.underlying9
  intro i hi
  have hb : (W.alloc (.cells (xs.map (Value.int .u8)).toArray t)).heap[W.heap.size]? = some (.cells (xs.map (Value.int .u8)).toArray t) := by
    show (W.heap.push _)[W.heap.size]? = _
    simp
  simp only [World.cell?, hb]
  simp [hi]
theorem conv_1 (W : World) (t : TypeId) (a : Int) : (convert 147 9 (.slice (some ⟨W.heap.size, 0, none⟩) 1 1)).run Tryz.prog (W.alloc (.cells #[.int .u8 a] t)) = .ok (.string ⟨#[UInt8.ofNat a.toNat]⟩) (W.alloc (.cells #[.int .u8 a] t)) := conv_nums W [a] t
theorem conv_2 (W : World) (t : TypeId) (a b : Int) : (convert 147 9 (.slice (some ⟨W.heap.size, 0, none⟩) 2 2)).run Tryz.prog (W.alloc (.cells #[.int .u8 a, .int .u8 b] t)) = .ok (.string ⟨#[UInt8.ofNat a.toNat, UInt8.ofNat b.toNat]⟩) (W.alloc (.cells #[.int .u8 a, .int .u8 b] t)) := conv_nums W [a, b] t
theorem conv_3 (W : World) (t : TypeId) (a b c : Int) : (convert 147 9 (.slice (some ⟨W.heap.size, 0, none⟩) 3 3)).run Tryz.prog (W.alloc (.cells #[.int .u8 a, .int .u8 b, .int .u8 c] t)) = .ok (.string ⟨#[UInt8.ofNat a.toNat, UInt8.ofNat b.toNat, UInt8.ofNat c.toNat]⟩) (W.alloc (.cells #[.int .u8 a, .int .u8 b, .int .u8 c] t)) := conv_nums W [a, b, c] t
theorem conv_4 (W : World) (t : TypeId) (a b c d : Int) : (convert 147 9 (.slice (some ⟨W.heap.size, 0, none⟩) 4 4)).run Tryz.prog (W.alloc (.cells #[.int .u8 a, .int .u8 b, .int .u8 c, .int .u8 d] t)) = .ok (.string ⟨#[UInt8.ofNat a.toNat, UInt8.ofNat b.toNat, UInt8.ofNat c.toNat, UInt8.ofNat d.toNat]⟩) (W.alloc (.cells #[.int .u8 a, .int .u8 b, .int .u8 c, .int .u8 d] t)) := conv_nums W [a, b, c, d] t

set_option maxHeartbeats 1000000 in
theorem encode_any (v : Int) (w : World) (h0 : 0 ≤ v) (h1 : v ≤ 1114111) (hs : v < 55296 ∨ 57344 ≤ v) :
    Calls Tryz.prog 182 #[.int .i64 v] w fun e w' => e = .returned (.string ⟨(Lib.encodeRune v).toArray⟩) ∧ Below w.heap.size w w' := by
  by_cases c1 : v < 128
  · have HE : Hid (Lib.encodeRuneZ v = [v]) := Lib.encodeRuneZ_one (by omega) (by omega)
    rw [Lib.encodeRune, HE.out]
    clear hs HE
    have hcv := conv_1 w
    go_enter Tryz.func182, Tryz.ntmps182
    go_wp2
    go_ret
    exact ⟨ret_str rfl, (Below.refl _ w).alloc (Nat.le_refl _) _⟩
  by_cases c2 : v < 2048
  · have HE : Hid (Lib.encodeRuneZ v = [192 + v / 64, 128 + v % 64]) := Lib.encodeRuneZ_two (by omega) (by omega)
    rw [Lib.encodeRune, HE.out]
    clear hs HE
    have hcv := conv_2 w
    go_enter Tryz.func182, Tryz.ntmps182
    go_wp2
    go_ret
    exact ⟨ret_str rfl, (Below.refl _ w).alloc (Nat.le_refl _) _⟩
  by_cases c3 : v < 65536
  · have HE : Hid (Lib.encodeRuneZ v = [224 + v / 4096, 128 + v / 64 % 64, 128 + v % 64]) := Lib.encodeRuneZ_three (by omega)
    rw [Lib.encodeRune, HE.out]
    clear hs HE
    have hcv := conv_3 w
    go_enter Tryz.func182, Tryz.ntmps182
    go_wp2
    go_ret
    exact ⟨ret_str rfl, (Below.refl _ w).alloc (Nat.le_refl _) _⟩
  · have HE : Hid (Lib.encodeRuneZ v = [240 + v / 262144, 128 + v / 4096 % 64, 128 + v / 64 % 64, 128 + v % 64]) := Lib.encodeRuneZ_four (by omega) (by omega)
    rw [Lib.encodeRune, HE.out]
    clear hs HE
    have hcv := conv_4 w
    go_enter Tryz.func182, Tryz.ntmps182
    go_wp2
    go_ret
    exact ⟨ret_str rfl, (Below.refl _ w).alloc (Nat.le_refl _) _⟩

/-- The digits with which a text goes on, up to a count: their number, their value behind one that stood ahead. -/
def digs : Nat → List UInt8 → Nat × Nat → Nat × Nat
  | 0, _, s => s
  | _ + 1, [], s => s
  | f + 1, c :: l, (k, v) => if hexv (c.toNat : Int) < 0 then (k, v) else digs f l (k + 1, v * 16 + (hexv (c.toNat : Int)).toNat)
/-- What stands behind an escaping u: what it says, and how many bytes it has. -/
def numL (l : List UInt8) : Option (List UInt8 × Nat) :=
  match l with
  | [] => none
  | c :: r =>
    if c.toNat ≠ 123 then none
    else if (digs 6 r (0, 0)).1 = 0 ∨ atL r (digs 6 r (0, 0)).1 ≠ 125 ∨ r.length ≤ (digs 6 r (0, 0)).1 ∨ Lib.validRune ((digs 6 r (0, 0)).2 : Int) = false then none
    else some (Lib.encodeRune ((digs 6 r (0, 0)).2 : Int), (digs 6 r (0, 0)).1 + 2)
end Go.Proofs.YtadkmlcnmkdfiaaGreatDoor
