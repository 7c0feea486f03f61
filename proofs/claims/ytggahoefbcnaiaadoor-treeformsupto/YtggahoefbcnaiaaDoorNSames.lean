/- Own text. Whether two trees are the same, copies, sizes, depths: the law's own walk. -/
import Derived.Test.YtggahoefbcnaiaaDoorT6
import Derived.Test.YtggahoefbcnaiaaDoorT12
import Derived.Test.YtggahoefbcnaiaaDoorF14
namespace Go.Proofs.YtggahoefbcnaiaaDoor.Sames
open Go.RowKit
set_option linter.unusedVariables false
set_option linter.unusedSimpArgs false

set_option maxRecDepth 100000 in
set_option maxHeartbeats 16000000 in
theorem walk (x : Nd) (vx : Value) (y : Nd) (vy : Value) (w : World) (hx : LAt w (fun b => b < w.heap.size) vx x.ks) (zx : x.size ≤ 1048576) (tx : ∀ z ∈ x.flat, z.t.size ≤ 1048576) (hy : LAt w (fun b => b < w.heap.size) vy y.ks) (zy : y.size ≤ 1048576) (ty : ∀ z ∈ y.flat, z.t.size ≤ 1048576) (he : WEnv w) :
    Calls Tryd.prog 4 #[x.v vx, y.v vy] w fun e w' => e = .returned (.bool true) ∧ Below w.heap.size w w' := by
  have tx' : x.tx := fun z hz => Nat.le_trans (tx z hz) (by decide)
  obtain ⟨ax, cx, rfl⟩ := hx.sl
  obtain ⟨ay, cy, rfl⟩ := hy.sl
  have zx4 : x.size ≤ 4194304 := by omega
  have zy4 : y.size ≤ 4194304 := by omega
  have C1 : Hid (∀ W, Below w.heap.size w W → Calls Tryd.prog 14 #[.agg #[Value.int IntKind.i64 x.k, Value.string x.t, Value.int IntKind.i64 x.n, Value.slice ax x.ks.length cx], .agg #[Value.int IntKind.i64 y.k, Value.string y.t, Value.int IntKind.i64 y.n, Value.slice ay y.ks.length cy]] W fun e w' => ∃ b : Bool, e = .returned (.bool b) ∧ (b = true ↔ x = y) ∧ Below W.heap.size W w') := fun W b => same_any x y W _ _ _ _ (hx.bel b) (hy.bel b) zx4 zy4
  have C2 : Hid (∀ W, Below w.heap.size w W → Calls Tryd.prog 12 #[.agg #[Value.int IntKind.i64 x.k, Value.string x.t, Value.int IntKind.i64 x.n, Value.slice ax x.ks.length cx], .agg #[Value.int IntKind.i64 y.k, Value.string y.t, Value.int IntKind.i64 y.n, Value.slice ay y.ks.length cy]] W fun e w' => ∃ b : Bool, e = .returned (.bool b) ∧ (b = true ↔ x = y) ∧ Below W.heap.size W w') := fun W b => rsame_any x y W _ _ _ _ (hx.bel b) (hy.bel b) zx4 zy4
  have C3 : Hid (∀ W, Below w.heap.size w W → Calls Tryd.prog 9 #[.agg #[Value.int IntKind.i64 x.k, Value.string x.t, Value.int IntKind.i64 x.n, Value.slice ax x.ks.length cx]] W fun e w' => ∃ a c, e = .returned (.agg #[.int .i64 x.k, .string x.t, .int .i64 x.n, .slice a x.ks.length c]) ∧ LAt w' (fun b => W.heap.size ≤ b) (.slice a x.ks.length c) x.ks ∧ Below W.heap.size W w') := fun W b => (rcopy_any x W _ _ (hx.bel b) zx4).mono (by rintro e w' ⟨v, rfl, l, bb⟩; obtain ⟨a, c, rfl⟩ := l.sl; exact ⟨a, c, rfl, l, bb⟩)
  have C4 : Hid (∀ W S a c, Below w.heap.size w W → LAt W S (.slice a x.ks.length c) x.ks → Calls Tryd.prog 14 #[.agg #[Value.int IntKind.i64 x.k, Value.string x.t, Value.int IntKind.i64 x.n, Value.slice ax x.ks.length cx], .agg #[.int .i64 x.k, .string x.t, .int .i64 x.n, .slice a x.ks.length c]] W fun e w' => e = .returned (.bool true) ∧ Below W.heap.size W w') := fun W S a c b l => (same_any x x W _ _ _ _ (hx.bel b) l zx4 zx4).mono (by rintro e w' ⟨b, rfl, hb, bb⟩; exact ⟨by rw [hb.2 rfl], bb⟩)
  have C5 : Hid (∀ W, Below w.heap.size w W → Calls Tryd.prog 15 #[.agg #[Value.int IntKind.i64 x.k, Value.string x.t, Value.int IntKind.i64 x.n, Value.slice ax x.ks.length cx]] W fun e w' => ∃ a c, e = .returned (.agg #[.int .i64 x.k, .string x.t, .int .i64 x.n, .slice a x.ks.length c]) ∧ LAt w' (fun b => W.heap.size ≤ b ∧ b < w'.heap.size) (.slice a x.ks.length c) x.ks ∧ Below W.heap.size W w') := fun W b => (copy_any x W _ _ (hx.bel b) zx4 tx').mono (by rintro e w' ⟨v, rfl, l, bb⟩; obtain ⟨a, c, rfl⟩ := l.sl; exact ⟨a, c, rfl, l.lat, bb⟩)
  have C6 : Hid (∀ W S a c, Below w.heap.size w W → LAt W S (.slice a x.ks.length c) x.ks → Calls Tryd.prog 12 #[.agg #[.int .i64 x.k, .string x.t, .int .i64 x.n, .slice a x.ks.length c], .agg #[Value.int IntKind.i64 x.k, Value.string x.t, Value.int IntKind.i64 x.n, Value.slice ax x.ks.length cx]] W fun e w' => e = .returned (.bool true) ∧ Below W.heap.size W w') := fun W S a c b l => (rsame_any x x W _ _ _ _ l (hx.bel b) zx4 zx4).mono (by rintro e w' ⟨b, rfl, hb, bb⟩; exact ⟨by rw [hb.2 rfl], bb⟩)
  have C7 : Hid (∀ W, Below w.heap.size w W → Calls Tryd.prog 16 #[.agg #[Value.int IntKind.i64 x.k, Value.string x.t, Value.int IntKind.i64 x.n, Value.slice ax x.ks.length cx]] W fun e w' => e = .returned (.int .i64 (x.size : Nat)) ∧ Below W.heap.size W w') := fun W b => size_any x W _ _ (hx.bel b) zx4
  have C8 : Hid (∀ W, Below w.heap.size w W → Calls Tryd.prog 17 #[.agg #[Value.int IntKind.i64 x.k, Value.string x.t, Value.int IntKind.i64 x.n, Value.slice ax x.ks.length cx]] W fun e w' => e = .returned (.int .i64 (x.size : Nat)) ∧ Below W.heap.size W w') := fun W b => rsize_any x W _ _ (hx.bel b) zx4
  have C9 : Hid (∀ W, Below w.heap.size w W → Calls Tryd.prog 18 #[.agg #[Value.int IntKind.i64 y.k, Value.string y.t, Value.int IntKind.i64 y.n, Value.slice ay y.ks.length cy]] W fun e w' => e = .returned (.int .i64 (y.depth : Nat)) ∧ Below W.heap.size W w') := fun W b => depth_any y W _ _ (hy.bel b) zy4
  have C10 : Hid (∀ W, Below w.heap.size w W → Calls Tryd.prog 19 #[.agg #[Value.int IntKind.i64 y.k, Value.string y.t, Value.int IntKind.i64 y.n, Value.slice ay y.ks.length cy]] W fun e w' => e = .returned (.int .i64 (y.depth : Nat)) ∧ Below W.heap.size W w') := fun W b => rdepth_any y W _ _ (hy.bel b) zy4
  have C11 : Hid (∀ W, Below w.heap.size w W → Calls Tryd.prog 13 #[] W fun e w' => e = .returned (.bool true) ∧ Below W.heap.size W w') := fun W b => awake_any W (he.bel b)
  unfold Nd.v
  go_enter Tryd.func4, Tryd.ntmps4
  go_wp2_with fail
  obtain ⟨W0, hW0⟩ : ∃ W, ((w.alloc (Obj.cells #[Value.int IntKind.i64 x.k, Value.string x.t, Value.int IntKind.i64 x.n, Value.slice ax x.ks.length cx] 24)).alloc (Obj.cells #[Value.int IntKind.i64 y.k, Value.string y.t, Value.int IntKind.i64 y.n, Value.slice ay y.ks.length cy] 24)) = W := ⟨_, rfl⟩
  have b0 : Below w.heap.size w W0 := by rw [← hW0]; exact (bel_a _ _).alloc (by simp) _
  have m0 : W0.heap[w.heap.size]? = some (.cells #[Value.int IntKind.i64 x.k, Value.string x.t, Value.int IntKind.i64 x.n, Value.slice ax x.ks.length cx] 24 (0, 0)) := by rw [← hW0]; exact hold _ (by simp) (hnew _ rfl)
  have m1 : W0.heap[w.heap.size + 1]? = some (.cells #[Value.int IntKind.i64 y.k, Value.string y.t, Value.int IntKind.i64 y.n, Value.slice ay y.ks.length cy] 24 (0, 0)) := by rw [← hW0]; exact hnew _ (by simp)
  have hl : w.heap.size + 1 < W0.heap.size := (Array.getElem?_eq_some_iff.1 m1).1
  rw [hW0]
  clear hW0 hx hy tx ty tx' he
  have cs : Hid (∀ W', Below W0.heap.size W0 W' → (W'.cell? ⟨w.heap.size, 0, none⟩ = some (.int .i64 x.k) ∧ W'.cell? ⟨w.heap.size, 1, none⟩ = some (.string x.t) ∧ W'.cell? ⟨w.heap.size, 2, none⟩ = some (.int .i64 x.n) ∧ W'.cell? ⟨w.heap.size, 3, none⟩ = some (.slice ax x.ks.length cx)) ∧ (W'.cell? ⟨w.heap.size + 1, 0, none⟩ = some (.int .i64 y.k) ∧ W'.cell? ⟨w.heap.size + 1, 1, none⟩ = some (.string y.t) ∧ W'.cell? ⟨w.heap.size + 1, 2, none⟩ = some (.int .i64 y.n) ∧ W'.cell? ⟨w.heap.size + 1, 3, none⟩ = some (.slice ay y.ks.length cy))) := fun W' b => ⟨(box4 ((b.block _ (by omega)).trans m0)).1, (box4 ((b.block _ hl).trans m1)).1⟩
  have up : Hid (∀ W', Below W0.heap.size W0 W' → Below w.heap.size w W') := fun W' b => b0.trans (b.mono b0.size)
  have nx : Hid (∀ W' W'', Below W0.heap.size W0 W' → Below W'.heap.size W' W'' → Below W0.heap.size W0 W'') := fun W' W'' b b' => b.trans (b'.mono b.size)
  have B0 : Below W0.heap.size W0 W0.drew := (Below.refl _ _).drew
  clear m0 m1
  have t1 : True := trivial
  have t2 : True := trivial
  go_region_held3 (fun W' => (W'.cell? ⟨w.heap.size, 0, none⟩ = some (.int .i64 x.k) ∧ W'.cell? ⟨w.heap.size, 1, none⟩ = some (.string x.t) ∧ W'.cell? ⟨w.heap.size, 2, none⟩ = some (.int .i64 x.n) ∧ W'.cell? ⟨w.heap.size, 3, none⟩ = some (.slice ax x.ks.length cx)) ∧ (W'.cell? ⟨w.heap.size + 1, 0, none⟩ = some (.int .i64 y.k) ∧ W'.cell? ⟨w.heap.size + 1, 1, none⟩ = some (.string y.t) ∧ W'.cell? ⟨w.heap.size + 1, 2, none⟩ = some (.int .i64 y.n) ∧ W'.cell? ⟨w.heap.size + 1, 3, none⟩ = some (.slice ay y.ks.length cy)))
    (first | assumption | exact cs.out _ B11 | exact cs.out _ B10 | exact cs.out _ B9 | exact cs.out _ B8 | exact cs.out _ B7 | exact cs.out _ B6 | exact cs.out _ B5 | exact cs.out _ B4 | exact cs.out _ B3 | exact cs.out _ B2 | exact cs.out _ B1 | exact cs.out _ B0)
    (first
      | (go_at_call 14; have _t := t1; refine (C1.out _ (up.out _ B0)).mono ?_; rintro e W1 ⟨bb, rfl, hbb, b1⟩; have B1 := nx.out _ _ B0 b1; clear t1)
      | (go_at_call 12; have _t := t2; refine (C2.out _ (up.out _ B1)).mono ?_; rintro e W2 ⟨bc, rfl, hbc, b2⟩; have B2 := nx.out _ _ B1 b2; obtain rfl : bc = bb := (by rw [Bool.eq_iff_iff, hbc, hbb]); clear t2)
      | (go_at_call 9; refine (C3.out _ (up.out _ B2)).mono ?_; rintro e W3 ⟨a3, c3, rfl, l3, b3⟩; have B3 := nx.out _ _ B2 b3)
      | (go_at_call 14; refine (C4.out _ _ _ _ (up.out _ B3) l3).mono ?_; rintro e W4 ⟨rfl, b4⟩; have B4 := nx.out _ _ B3 b4)
      | (go_at_call 15; refine (C5.out _ (up.out _ B4)).mono ?_; rintro e W5 ⟨a5, c5, rfl, l5, b5⟩; have B5 := nx.out _ _ B4 b5)
      | (go_at_call 12; refine (C6.out _ _ _ _ (up.out _ B5) l5).mono ?_; rintro e W6 ⟨rfl, b6⟩; have B6 := nx.out _ _ B5 b6)
      | (go_at_call 16; refine (C7.out _ (up.out _ B6)).mono ?_; rintro e W7 ⟨rfl, b7⟩; have B7 := nx.out _ _ B6 b7)
      | (go_at_call 17; refine (C8.out _ (up.out _ B7)).mono ?_; rintro e W8 ⟨rfl, b8⟩; have B8 := nx.out _ _ B7 b8)
      | (go_at_call 18; refine (C9.out _ (up.out _ B8)).mono ?_; rintro e W9 ⟨rfl, b9⟩; have B9 := nx.out _ _ B8 b9)
      | (go_at_call 19; refine (C10.out _ (up.out _ B9)).mono ?_; rintro e W10 ⟨rfl, b10⟩; have B10 := nx.out _ _ B9 b10)
      | (go_at_call 13; refine (C11.out _ (up.out _ B10)).mono ?_; rintro e W11 ⟨rfl, b11⟩; have B11 := nx.out _ _ B10 b11))
  all_goals
    go_wp2
    go_ret
    exact ⟨rfl, up.out _ B11⟩
end Go.Proofs.YtggahoefbcnaiaaDoor.Sames
