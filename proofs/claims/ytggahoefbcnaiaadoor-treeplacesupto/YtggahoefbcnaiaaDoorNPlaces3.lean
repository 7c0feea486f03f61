/- Own text. The places of a tree: the law's own walk, within. -/
import Derived.Test.YtggahoefbcnaiaaDoorNPlaces2
namespace Go.Proofs.YtggahoefbcnaiaaDoor.Places
open Go.RowKit
set_option linter.unusedVariables false
set_option linter.unusedSimpArgs false

theorem flat_in (x : Nd) (w : World) (S : Nat → Prop) (v : Value) (k : Nat) (hk : k < x.flat.length) (hx : LAt w S v x.ks) (zx : x.size ≤ 4194304) :
    Calls Tryd.prog 20 #[x.v v, .slice none 0 0] w fun e w' => ∃ bl o c a' c', e = .returned (.slice (some ⟨bl, o, none⟩) x.flat.length c) ∧ bl < w'.heap.size ∧ Four w' bl (o + k * 4) x.flat[k] (.slice a' x.flat[k].ks.length c') ∧ LAt w' (fun b => b < w'.heap.size) (.slice a' x.flat[k].ks.length c') x.flat[k].ks ∧ Below w.heap.size w w' := by
  refine (flat_all x w S v hx zx).mono ?_
  rintro e w' ⟨a, c, rfl, l, b⟩
  obtain ⟨a2, c2, bl, o, f, e, p, q, r⟩ := l.op
  simp only [Value.slice.injEq, true_and] at e
  obtain ⟨rfl, rfl⟩ := e
  obtain ⟨rfl, hS, hb⟩ := p (by omega)
  have q1 := q k hk
  have r1 := r k hk
  obtain ⟨a', c', e'⟩ := r1.sl
  rw [e'] at q1 r1
  exact ⟨bl, o, c, a', c', rfl, hb, q1, r1, b⟩

set_option maxRecDepth 100000 in
set_option maxHeartbeats 16000000 in
theorem walk_in (x : Nd) (vx : Value) (k : Nat) (w : World) (hx : LAt w (fun b => b < w.heap.size) vx x.ks) (zx : x.size ≤ 1048576) (tx : ∀ z ∈ x.flat, z.t.size ≤ 1048576) (he : WEnv w) (hk : k < x.flat.length) :
    Calls Tryd.prog 5 #[x.v vx, .int .i64 (k : Int)] w fun e w' => e = .returned (.bool true) ∧ Below w.heap.size w w' := by
  have tx' : x.tx := fun z hz => Nat.le_trans (tx z hz) (by decide)
  obtain ⟨ax, cx, rfl⟩ := hx.sl
  have zx4 : x.size ≤ 4194304 := by omega
  have hsz : x.flat.length ≤ 4194304 := by rw [x.flat_len]; omega
  have yz : x.flat[k].size ≤ 4194304 := Nat.le_trans (flat_sub x _ (List.getElem_mem hk)).1 zx4
  have C1 : Hid (∀ W, Below w.heap.size w W → Calls Tryd.prog 20 #[.agg #[Value.int IntKind.i64 x.k, Value.string x.t, Value.int IntKind.i64 x.n, Value.slice ax x.ks.length cx], .slice none 0 0] W _) := fun W b => flat_in x W _ _ k hk (hx.bel b) zx4
  have C2 : Hid (∀ W, Below w.heap.size w W → Calls Tryd.prog 21 #[.agg #[Value.int IntKind.i64 x.k, Value.string x.t, Value.int IntKind.i64 x.n, Value.slice ax x.ks.length cx], .int .i64 (k : Int)] W _) := fun W b => at_in x W _ _ k (hx.bel b) zx4 tx' hk
  generalize x.flat[k] = y at *
  have C3 : Hid (∀ W S T a b c d, LAt W S (.slice a y.ks.length c) y.ks → LAt W T (.slice b y.ks.length d) y.ks → Calls Tryd.prog 12 #[.agg #[.int .i64 y.k, .string y.t, .int .i64 y.n, .slice a y.ks.length c], .agg #[.int .i64 y.k, .string y.t, .int .i64 y.n, .slice b y.ks.length d]] W fun e w' => e = .returned (.bool true) ∧ Below W.heap.size W w') := fun W S T a b c d h1 h2 => (rsame_any y y W S T _ _ h1 h2 yz yz).mono (by rintro e w' ⟨b, rfl, hb, bb⟩; exact ⟨by rw [hb.2 rfl], bb⟩)
  have C4 : Hid (∀ W, Below w.heap.size w W → Calls Tryd.prog 13 #[] W fun e w' => e = .returned (.bool true) ∧ Below W.heap.size W w') := fun W b => awake_any W (he.bel b)
  have nx : Hid (∀ W' W'', Below w.heap.size w W' → Below W'.heap.size W' W'' → Below w.heap.size w W'') := fun W' W'' b b' => b.trans (b'.mono b.size)
  have h0 : ¬ (k : Int) < 0 := by omega
  have h1 : ¬ (x.flat.length : Int) ≤ (k : Int) := by omega
  have m0 : (w.alloc (Obj.cells #[Value.int IntKind.i64 x.k, Value.string x.t, Value.int IntKind.i64 x.n, Value.slice ax x.ks.length cx] 24)).heap[w.heap.size]? = some (.cells #[Value.int IntKind.i64 x.k, Value.string x.t, Value.int IntKind.i64 x.n, Value.slice ax x.ks.length cx] 24 (0, 0)) := hnew _ rfl
  have B0 : Below w.heap.size w (w.alloc (Obj.cells #[Value.int IntKind.i64 x.k, Value.string x.t, Value.int IntKind.i64 x.n, Value.slice ax x.ks.length cx] 24)) := bel_a _ _
  generalize hz : w.heap.size = p at *
  generalize x.flat.length = fl at *
  unfold Nd.v
  clear hx tx tx' he zx zx4
  go_enter Tryd.func5, Tryd.ntmps5
  go_wp2_with (first
      | (go_at_call 20; refine (C1.out _ B0).mono ?_; rintro e W1 ⟨bl, o, c1, a', c', rfl, hbl, q1, r1, b1⟩; have B1 := nx.out _ _ B0 b1; have m1 := (b1.block _ (by simp; omega)).trans m0; obtain ⟨⟨e0, e1, e2, e3⟩, _⟩ := box4 m1)
      | (go_at_call 21; refine (C2.out _ B1).mono ?_; rintro e W2 ⟨a2, c2, rfl, l2, b2⟩; have B2 := nx.out _ _ B1 b2))
  obtain ⟨W3, hW3⟩ : ∃ W, (W2.alloc (Obj.cells #[.int .i64 y.k, .string y.t, .int .i64 y.n, .slice a2 y.ks.length c2] 24)) = W := ⟨_, rfl⟩
  have b3 : Below W2.heap.size W2 W3 := by rw [← hW3]; exact bel_a _ _
  have m3 : W3.heap[W2.heap.size]? = some (.cells #[.int .i64 y.k, .string y.t, .int .i64 y.n, .slice a2 y.ks.length c2] 24 (0, 0)) := by rw [← hW3]; exact hnew _ rfl
  have hl : W2.heap.size < W3.heap.size := (Array.getElem?_eq_some_iff.1 m3).1
  rw [hW3]
  have b13 : Below W1.heap.size W1 W3 := b2.trans (b3.mono b2.size)
  have cs : Hid (∀ W', Below W3.heap.size W3 W' → (W'.cell? ⟨W2.heap.size, 0, none⟩ = some (.int .i64 y.k) ∧ W'.cell? ⟨W2.heap.size, 1, none⟩ = some (.string y.t) ∧ W'.cell? ⟨W2.heap.size, 2, none⟩ = some (.int .i64 y.n) ∧ W'.cell? ⟨W2.heap.size, 3, none⟩ = some (.slice a2 y.ks.length c2)) ∧ (W'.cell? ⟨bl, o + k * 4, none⟩ = some (.int .i64 y.k) ∧ W'.cell? ⟨bl, o + k * 4 + 1, none⟩ = some (.string y.t) ∧ W'.cell? ⟨bl, o + k * 4 + 2, none⟩ = some (.int .i64 y.n) ∧ W'.cell? ⟨bl, o + k * 4 + 3, none⟩ = some (.slice a' y.ks.length c'))) := fun W' b => ⟨(box4 ((b.block _ hl).trans m3)).1, q1.of_block ((b13.trans (b.mono b13.size)).block bl hbl)⟩
  have L2 : Hid (∀ W', Below W3.heap.size W3 W' → LAt W' _ (.slice a2 y.ks.length c2) y.ks) := fun W' b => l2.bel (b3.trans (b.mono b3.size))
  have L1 : Hid (∀ W', Below W3.heap.size W3 W' → LAt W' _ (.slice a' y.ks.length c') y.ks) := fun W' b => r1.bel (b13.trans (b.mono b13.size))
  have up : Hid (∀ W', Below W3.heap.size W3 W' → Below p w W') := fun W' b => nx.out _ _ (nx.out _ _ B2 b3) b
  have nx3 : Hid (∀ W' W'', Below W3.heap.size W3 W' → Below W'.heap.size W' W'' → Below W3.heap.size W3 W'') := fun W' W'' b b' => b.trans (b'.mono b.size)
  have D0 : Below W3.heap.size W3 W3.drew := (Below.refl _ _).drew
  have ix := fun W => idx_nd W bl o fl c1 k hk
  clear hW3 m3 m0 m1 e0 e1 e2 e3 q1 r1 l2 b3 b13 B0 B1 B2 b1 b2
  go_region_held3 (fun W' => (W'.cell? ⟨W2.heap.size, 0, none⟩ = some (.int .i64 y.k) ∧ W'.cell? ⟨W2.heap.size, 1, none⟩ = some (.string y.t) ∧ W'.cell? ⟨W2.heap.size, 2, none⟩ = some (.int .i64 y.n) ∧ W'.cell? ⟨W2.heap.size, 3, none⟩ = some (.slice a2 y.ks.length c2)) ∧ (W'.cell? ⟨bl, o + k * 4, none⟩ = some (.int .i64 y.k) ∧ W'.cell? ⟨bl, o + k * 4 + 1, none⟩ = some (.string y.t) ∧ W'.cell? ⟨bl, o + k * 4 + 2, none⟩ = some (.int .i64 y.n) ∧ W'.cell? ⟨bl, o + k * 4 + 3, none⟩ = some (.slice a' y.ks.length c')))
    (first | assumption | exact cs.out _ D2 | exact cs.out _ D1 | exact cs.out _ D0)
    (first
      | (go_at_call 12; refine (C3.out _ _ _ _ _ _ _ (L2.out _ D0) (L1.out _ D0)).mono ?_; rintro e W4 ⟨rfl, b4⟩; have D1 := nx3.out _ _ D0 b4)
      | (go_at_call 13; refine (C4.out _ (up.out _ D1)).mono ?_; rintro e W5 ⟨rfl, b5⟩; have D2 := nx3.out _ _ D1 b5))
  all_goals
    go_wp2
    go_ret
    exact ⟨rfl, up.out _ D2⟩

theorem walk (x : Nd) (vx : Value) (i : Int) (w : World) (hx : LAt w (fun b => b < w.heap.size) vx x.ks) (zx : x.size ≤ 1048576) (tx : ∀ z ∈ x.flat, z.t.size ≤ 1048576) (hi0 : -9223372036854775808 ≤ i) (hi1 : i ≤ 9223372036854775807) (he : WEnv w) :
    Calls Tryd.prog 5 #[x.v vx, .int .i64 i] w fun e w' => e = .returned (.bool true) ∧ Below w.heap.size w w' := by
  by_cases h : i < 0 ∨ (x.flat.length : Int) ≤ i
  · exact walk_out x vx i w hx zx tx he h
  · have := walk_in x vx i.toNat w hx zx tx he (by omega)
    rwa [show ((i.toNat : Nat) : Int) = i by omega] at this
end Go.Proofs.YtggahoefbcnaiaaDoor.Places
