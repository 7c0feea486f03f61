/- Own text. The places of a tree: the law's own walk. -/
import Derived.Test.YtggahoefbcnaiaaDoorNPlaces
namespace Go.Proofs.YtggahoefbcnaiaaDoor.Places
open Go.RowKit
set_option linter.unusedVariables false
set_option linter.unusedSimpArgs false

set_option maxRecDepth 100000 in
set_option maxHeartbeats 16000000 in
theorem walk_out (x : Nd) (vx : Value) (i : Int) (w : World) (hx : LAt w (fun b => b < w.heap.size) vx x.ks) (zx : x.size ≤ 1048576) (tx : ∀ z ∈ x.flat, z.t.size ≤ 1048576) (he : WEnv w) (hi : i < 0 ∨ (x.flat.length : Int) ≤ i) :
    Calls Tryd.prog 5 #[x.v vx, .int .i64 i] w fun e w' => e = .returned (.bool true) ∧ Below w.heap.size w w' := by
  have tx' : x.tx := fun z hz => Nat.le_trans (tx z hz) (by decide)
  obtain ⟨ax, cx, rfl⟩ := hx.sl
  have zx4 : x.size ≤ 4194304 := by omega
  have C1 : Hid (∀ W, Below w.heap.size w W → Calls Tryd.prog 20 #[.agg #[Value.int IntKind.i64 x.k, Value.string x.t, Value.int IntKind.i64 x.n, Value.slice ax x.ks.length cx], .slice none 0 0] W fun e w' => ∃ a c, e = .returned (.slice a x.flat.length c) ∧ LAt w' (fun b => b < w'.heap.size) (.slice a x.flat.length c) x.flat ∧ Below W.heap.size W w') := fun W b => flat_all x W _ _ (hx.bel b) zx4
  have C2 : Hid (∀ W, Below w.heap.size w W → Calls Tryd.prog 21 #[.agg #[Value.int IntKind.i64 x.k, Value.string x.t, Value.int IntKind.i64 x.n, Value.slice ax x.ks.length cx], .int .i64 i] W fun e w' => e = .returned (.tuple #[.agg #[.int .i64 0, .string ByteArray.empty, .int .i64 0, .slice none 0 0], .bool false]) ∧ Below W.heap.size W w') := fun W b => at_out x W _ _ i (hx.bel b) zx4 tx' hi
  have C3 : Hid (∀ W, Calls Tryd.prog 12 #[.agg #[.int .i64 0, .string ByteArray.empty, .int .i64 0, .slice none 0 0], .agg #[.int .i64 0, .string ByteArray.empty, .int .i64 0, .slice none 0 0]] W fun e w' => e = .returned (.bool true) ∧ Below W.heap.size W w') := fun W => (rsame_any zN zN W (fun _ => True) (fun _ => True) (.slice none 0 0) (.slice none 0 0) (.nil _ _) (.nil _ _) (by decide +kernel) (by decide +kernel)).mono (by rintro e w' ⟨b, rfl, hb, bb⟩; exact ⟨by rw [hb.2 rfl], bb⟩)
  have C4 : Hid (∀ W, Below w.heap.size w W → Calls Tryd.prog 13 #[] W fun e w' => e = .returned (.bool true) ∧ Below W.heap.size W w') := fun W b => awake_any W (he.bel b)
  have nx : Hid (∀ W' W'', Below w.heap.size w W' → Below W'.heap.size W' W'' → Below w.heap.size w W'') := fun W' W'' b b' => b.trans (b'.mono b.size)
  have hg : ¬ i < 0 → (x.flat.length : Int) ≤ i := fun h => by omega
  have hsz : x.flat.length ≤ 4194304 := by rw [x.flat_len]; omega
  have m0 : (w.alloc (Obj.cells #[Value.int IntKind.i64 x.k, Value.string x.t, Value.int IntKind.i64 x.n, Value.slice ax x.ks.length cx] 24)).heap[w.heap.size]? = some (.cells #[Value.int IntKind.i64 x.k, Value.string x.t, Value.int IntKind.i64 x.n, Value.slice ax x.ks.length cx] 24 (0, 0)) := hnew _ rfl
  have B0 : Below w.heap.size w (w.alloc (Obj.cells #[Value.int IntKind.i64 x.k, Value.string x.t, Value.int IntKind.i64 x.n, Value.slice ax x.ks.length cx] 24)) := bel_a _ _
  generalize hz : w.heap.size = p at *
  generalize hfl : x.flat.length = fl at *
  unfold Nd.v
  clear hi hx tx tx' he zx zx4
  go_enter Tryd.func5, Tryd.ntmps5
  by_cases h0 : i < 0
  · go_wp2_with (first
      | (go_at_call 20; refine (C1.out _ B0).mono ?_; rintro e W1 ⟨a1, c1, rfl, l1, b1⟩; have B1 := nx.out _ _ B0 b1; have m1 := (b1.block _ (by simp; omega)).trans m0; obtain ⟨⟨e0, e1, e2, e3⟩, _⟩ := box4 m1)
      | (go_at_call 21; refine (C2.out _ B1).mono ?_; rintro e W2 ⟨rfl, b2⟩; have B2 := nx.out _ _ B1 b2)
      | (go_at_call 12; refine (C3.out _).mono ?_; rintro e W3 ⟨rfl, b3⟩; have B3 := nx.out _ _ (nx.out _ _ B2 (bel_a _ _)) b3)
      | (go_at_call 13; refine (C4.out _ B3).mono ?_; rintro e W4 ⟨rfl, b4⟩; have B4 := nx.out _ _ B3 b4))
    all_goals
      go_ret
      exact ⟨rfl, B4⟩
  · have h1 := hg h0
    go_wp2_with (first
      | (go_at_call 20; refine (C1.out _ B0).mono ?_; rintro e W1 ⟨a1, c1, rfl, l1, b1⟩; have B1 := nx.out _ _ B0 b1; have m1 := (b1.block _ (by simp; omega)).trans m0; obtain ⟨⟨e0, e1, e2, e3⟩, _⟩ := box4 m1)
      | (go_at_call 21; refine (C2.out _ B1).mono ?_; rintro e W2 ⟨rfl, b2⟩; have B2 := nx.out _ _ B1 b2)
      | (go_at_call 12; refine (C3.out _).mono ?_; rintro e W3 ⟨rfl, b3⟩; have B3 := nx.out _ _ (nx.out _ _ B2 (bel_a _ _)) b3)
      | (go_at_call 13; refine (C4.out _ B3).mono ?_; rintro e W4 ⟨rfl, b4⟩; have B4 := nx.out _ _ B3 b4))
    all_goals
      go_ret
      exact ⟨rfl, B4⟩
end Go.Proofs.YtggahoefbcnaiaaDoor.Places
