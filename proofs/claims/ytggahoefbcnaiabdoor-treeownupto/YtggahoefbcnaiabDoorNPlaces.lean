/- Own text. The places of a tree: the law's own walk. -/
import Derived.Test.YtggahoefbcnaiabDoorT7
import Derived.Test.YtggahoefbcnaiabDoorT12
import Derived.Test.YtggahoefbcnaiabDoorF8
import Derived.Test.YtggahoefbcnaiabDoorF14
namespace Go.Proofs.YtggahoefbcnaiabDoor
open Go.RowKit
set_option linter.unusedVariables false
set_option linter.unusedSimpArgs false

theorem flat_all (x : Nd) (w : World) (S : Nat → Prop) (v : Value) (hx : LAt w S v x.ks) (zx : x.size ≤ 4194304) :
    Calls Tryd.prog 10 #[x.v v, .slice none 0 0] w fun e w' => ∃ a c, e = .returned (.slice a x.flat.length c) ∧ LAt w' (fun b => b < w'.heap.size) (.slice a x.flat.length c) x.flat ∧ Below w.heap.size w w' := by
  have h := flat_any x w (fun b => b < w.heap.size) v (.slice none 0 0) [] w.heap.size 0 (hx.mono' (fun b hb _ => hb)) (fun b hb => hb) (Nat.le_refl _) (World.ownsRow_nil ..) (by omega)
  refine h.mono ?_
  rintro e w' ⟨vl', M, rfl, own, hM, hk, gr, hat⟩
  have bel : Below w.heap.size w w' := (Below.refl _ w).grown gr (Nat.le_refl _) (fun j hj => by cases hj)
  have hlen : M.length = x.flat.length := by rw [← hM]; simp
  have hsz : x.flat.length = x.size := x.flat_len
  rw [List.nil_append, Nat.zero_add, ← hsz, ← hlen] at own
  have l := lat_of_row (S := fun b => b < w'.heap.size) own (fun p hp => ((hk p hp).bel bel).mono (fun b hb => by have := bel.size; omega)) (fun g hg => (row_lt own g hg).2)
  rw [hM] at l
  obtain ⟨a, c, rfl⟩ := l.sl
  exact ⟨a, c, rfl, l, bel⟩
theorem at_in (x : Nd) (w : World) (S : Nat → Prop) (v : Value) (k : Nat) (hx : LAt w S v x.ks) (zx : x.size ≤ 4194304) (tx : x.tx) (hk : k < x.flat.length) :
    Calls Tryd.prog 6 #[x.v v, .int .i64 (k : Int)] w fun e w' => ∃ a c, e = .returned (.tuple #[.agg #[.int .i64 x.flat[k].k, .string x.flat[k].t, .int .i64 x.flat[k].n, .slice a x.flat[k].ks.length c], .bool true]) ∧ LAt w' (fun b => w.heap.size ≤ b ∧ b < w'.heap.size) (.slice a x.flat[k].ks.length c) x.flat[k].ks ∧ Below w.heap.size w w' := by
  refine (at_any x w S v k hx zx tx).mono ?_
  rintro e w' ⟨bel, ⟨y, v', _, hy, rfl, l⟩ | ⟨h, rfl⟩⟩
  · rw [Int.toNat_natCast, List.getElem?_eq_getElem hk] at hy
    obtain rfl := Option.some.inj hy
    have l2 := l.lat
    obtain ⟨a, c, rfl⟩ := l2.sl
    exact ⟨a, c, rfl, l2, bel⟩
  · have := x.flat_len
    omega
theorem at_out (x : Nd) (w : World) (S : Nat → Prop) (v : Value) (i : Int) (hx : LAt w S v x.ks) (zx : x.size ≤ 4194304) (tx : x.tx) (hi : i < 0 ∨ (x.flat.length : Int) ≤ i) :
    Calls Tryd.prog 6 #[x.v v, .int .i64 i] w fun e w' => e = .returned (.tuple #[.agg #[.int .i64 0, .string ByteArray.empty, .int .i64 0, .slice none 0 0], .bool false]) ∧ Below w.heap.size w w' := by
  refine (at_any x w S v i hx zx tx).mono ?_
  rintro e w' ⟨bel, ⟨y, v', h0, hy, rfl, l⟩ | ⟨h, rfl⟩⟩
  · have := (List.getElem?_eq_some_iff.1 hy).1
    omega
  · exact ⟨rfl, bel⟩
end Go.Proofs.YtggahoefbcnaiabDoor
