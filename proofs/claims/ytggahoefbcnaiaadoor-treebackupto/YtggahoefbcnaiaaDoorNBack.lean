/- Own text. A tree's own part put back: the law's own walk. -/
import Derived.Test.YtggahoefbcnaiaaDoorT6
import Derived.Test.YtggahoefbcnaiaaDoorT16
import Derived.Test.YtggahoefbcnaiaaDoorF14
namespace Go.Proofs.YtggahoefbcnaiaaDoor.Back
open Go.RowKit
set_option linter.unusedVariables false
set_option linter.unusedSimpArgs false

set_option maxRecDepth 100000 in
set_option maxHeartbeats 16000000 in
theorem walk_out (x : Nd) (vx : Value) (i : Int) (m : Nd) (vm : Value) (w : World) (hx : LAt w (fun b => b < w.heap.size) vx x.ks) (zx : x.size ≤ 1048576) (tx : ∀ z ∈ x.flat, z.t.size ≤ 1048576) (hm : LAt w (fun b => b < w.heap.size) vm m.ks) (he : WEnv w) (hi : i < 0 ∨ (x.flat.length : Int) ≤ i) :
    Calls Tryd.prog 8 #[x.v vx, .int .i64 i, m.v vm] w fun e w' => e = .returned (.bool true) ∧ Below w.heap.size w w' := by
  have tx' : x.tx := fun z hz => Nat.le_trans (tx z hz) (by decide)
  obtain ⟨ax, cx, rfl⟩ := hx.sl
  obtain ⟨am, cm, rfl⟩ := hm.sl
  have zx4 : x.size ≤ 4194304 := by omega
  have C2 : Hid (∀ W, Below w.heap.size w W → Calls Tryd.prog 21 #[.agg #[Value.int IntKind.i64 x.k, Value.string x.t, Value.int IntKind.i64 x.n, Value.slice ax x.ks.length cx], .int .i64 i] W fun e w' => e = .returned (.tuple #[.agg #[.int .i64 0, .string ByteArray.empty, .int .i64 0, .slice none 0 0], .bool false]) ∧ Below W.heap.size W w') := fun W b => at_out x W _ _ i (hx.bel b) zx4 tx' hi
  have C3 : Hid (∀ W, Below w.heap.size w W → Calls Tryd.prog 16 #[.agg #[Value.int IntKind.i64 x.k, Value.string x.t, Value.int IntKind.i64 x.n, Value.slice ax x.ks.length cx]] W fun e w' => e = .returned (.int .i64 (x.size : Nat)) ∧ Below W.heap.size W w') := fun W b => size_any x W _ _ (hx.bel b) zx4
  have C4 : Hid (∀ W, Below w.heap.size w W → Calls Tryd.prog 13 #[] W fun e w' => e = .returned (.bool true) ∧ Below W.heap.size W w') := fun W b => awake_any W (he.bel b)
  have nx : Hid (∀ W' W'', Below w.heap.size w W' → Below W'.heap.size W' W'' → Below w.heap.size w W'') := fun W' W'' b b' => b.trans (b'.mono b.size)
  rw [x.flat_len] at hi
  have hg : ¬ i < 0 → ((x.size : Nat) : Int) ≤ i := fun h => by omega
  have b0 : Below w.heap.size w ((w.alloc (Obj.cells #[Value.int IntKind.i64 x.k, Value.string x.t, Value.int IntKind.i64 x.n, Value.slice ax x.ks.length cx] 24)).alloc (Obj.cells #[Value.int IntKind.i64 m.k, Value.string m.t, Value.int IntKind.i64 m.n, Value.slice am m.ks.length cm] 24)) := (bel_a _ _).alloc (by simp) _
  have m0 : ((w.alloc (Obj.cells #[Value.int IntKind.i64 x.k, Value.string x.t, Value.int IntKind.i64 x.n, Value.slice ax x.ks.length cx] 24)).alloc (Obj.cells #[Value.int IntKind.i64 m.k, Value.string m.t, Value.int IntKind.i64 m.n, Value.slice am m.ks.length cm] 24)).heap[w.heap.size]? = some (Obj.cells #[Value.int IntKind.i64 x.k, Value.string x.t, Value.int IntKind.i64 x.n, Value.slice ax x.ks.length cx] 24) := hold _ (by simp) (hnew _ rfl)
  have kp : Hid (∀ W1, Below ((w.alloc (Obj.cells #[Value.int IntKind.i64 x.k, Value.string x.t, Value.int IntKind.i64 x.n, Value.slice ax x.ks.length cx] 24)).alloc (Obj.cells #[Value.int IntKind.i64 m.k, Value.string m.t, Value.int IntKind.i64 m.n, Value.slice am m.ks.length cm] 24)).heap.size ((w.alloc (Obj.cells #[Value.int IntKind.i64 x.k, Value.string x.t, Value.int IntKind.i64 x.n, Value.slice ax x.ks.length cx] 24)).alloc (Obj.cells #[Value.int IntKind.i64 m.k, Value.string m.t, Value.int IntKind.i64 m.n, Value.slice am m.ks.length cm] 24)) W1 → ∀ o, ((W1.alloc o).cell? ⟨w.heap.size, 0, none⟩ = some (.int .i64 x.k) ∧ (W1.alloc o).cell? ⟨w.heap.size, 1, none⟩ = some (.string x.t) ∧ (W1.alloc o).cell? ⟨w.heap.size, 2, none⟩ = some (.int .i64 x.n) ∧ (W1.alloc o).cell? ⟨w.heap.size, 3, none⟩ = some (.slice ax x.ks.length cx))) := fun W1 b o => (box4 (((b.alloc b.size o).block _ (by simp <;> omega)).trans m0)).1
  clear m0 hx tx tx' he zx hi hm
  unfold Nd.v
  go_enter Tryd.func8, Tryd.ntmps8
  by_cases h0 : i < 0
  · go_wp2_with (first
      | (go_at_call 21; refine (C2.out _ b0).mono ?_; rintro e W1 ⟨rfl, b1⟩; have B1 := nx.out _ _ b0 b1)
      | (go_at_call 13; refine (C4.out _ (nx.out _ _ B1 (bel_a _ _))).mono ?_; rintro e W2 ⟨rfl, b2⟩; have B2 := nx.out _ _ (nx.out _ _ B1 (bel_a _ _)) b2))
    all_goals
      go_ret
      exact ⟨rfl, B2⟩
  · have h1 := hg h0
    go_wp2_with (first
      | (go_at_call 21; refine (C2.out _ b0).mono ?_; rintro e W1 ⟨rfl, b1⟩; have B1 := nx.out _ _ b0 b1; have k1 := kp.out _ b1)
      | (go_at_call 16; refine (C3.out _ (nx.out _ _ B1 (bel_a _ _))).mono ?_; rintro e W2 ⟨rfl, b2⟩; have B2 := nx.out _ _ (nx.out _ _ B1 (bel_a _ _)) b2)
      | (go_at_call 13; refine (C4.out _ B2).mono ?_; rintro e W3 ⟨rfl, b3⟩; have B3 := nx.out _ _ B2 b3))
    all_goals
      go_ret
      exact ⟨rfl, B3⟩
end Go.Proofs.YtggahoefbcnaiaaDoor.Back
