/- Own text. Two trees copied into two variables, in whatever order: the law's first statement. -/
import Derived.Test.YtggahoefbcnaiaaDoorRInv
namespace Go.Proofs.YtggahoefbcnaiaaDoor.Replaces
open Go.RowKit
set_option linter.unusedVariables false
set_option linter.unusedSimpArgs false

/-- what the two copies leave. -/
structure Two (W0 : World) (n : Nat) (x m : Nd) (p q : Nat) (a : Option Addr) (c : Nat) (a' : Option Addr) (c' : Nat) (W : World) : Prop where
  hp : Bx W p x a c
  hq : Bx W q m a' c'
  lx : LAt W (fun _ => True) (.slice a x.ks.length c) x.ks
  lm : LAt W (fun _ => True) (.slice a' m.ks.length c') m.ks
  bel : Below n W0 W
def ops1 : Array Oper := #[{ dst := some 11, op := .load 24 (.tmp 3), type := 24, pos := "law.go:43", after := #[], guard := none },
  { dst := some 12, op := .call { callee := .value (.func 9), args := #[.tmp 11], argTypes := #[24] }, type := 24, pos := "law.go:43", after := #[{ on := 0, ground := .data }], guard := none },
  { dst := some 13, op := .load 24 (.tmp 5), type := 24, pos := "law.go:43", after := #[], guard := none },
  { dst := some 14, op := .call { callee := .value (.func 9), args := #[.tmp 13], argTypes := #[24] }, type := 24, pos := "law.go:43", after := #[{ on := 2, ground := .data }, { on := 1, ground := .chain }], guard := none },
  { dst := some 7, op := .alloc 24, type := 0, pos := "law.go:43", after := #[], guard := none },
  { dst := some 8, op := .alloc 24, type := 0, pos := "law.go:43", after := #[], guard := none },
  { dst := none, op := .store 24 (.tmp 7) (.tmp 12), type := 0, pos := "law.go:43", after := #[{ on := 4, ground := .data }, { on := 1, ground := .data }, { on := 3, ground := .chain }, { on := 0, ground := .phase }, { on := 1, ground := .phase }, { on := 2, ground := .textOnly .lateStores }, { on := 3, ground := .textOnly .lateStoresUnsure }, { on := 4, ground := .phase }, { on := 5, ground := .phase }], guard := none },
  { dst := none, op := .store 24 (.tmp 8) (.tmp 14), type := 0, pos := "law.go:43", after := #[{ on := 5, ground := .data }, { on := 3, ground := .data }, { on := 6, ground := .chain }, { on := 0, ground := .phase }, { on := 1, ground := .phase }, { on := 2, ground := .phase }, { on := 3, ground := .phase }, { on := 4, ground := .phase }, { on := 5, ground := .phase }, { on := 6, ground := .phase }], guard := none }]
def fr1 (v0 v1 v2 v3 v5 u7 u8 u11 u12 u13 u14 : Value) : Act := { tmps := #[v0, v1, v2, v3, undef, v5, .bool false, u7, u8, undef, undef, u11, u12, u13, u14, undef, undef, undef, undef, undef, undef, undef, undef, undef, undef, undef, undef, undef, undef, undef, undef, undef, undef, undef, undef, undef, undef, undef, undef, undef, undef, undef, undef, undef, undef, undef, undef, undef, undef, undef, undef, undef, undef, undef, undef, undef, undef, undef, undef, undef], defers := [] }
/-- what holds when these operations are done. -/
structure FF (W0 : World) (x m : Nd) (X M : Value) (b0 b1 b2 b3 b4 b5 b6 b7 : Bool) (u7 u8 u11 u12 u13 u14 : Value) (W : World) : Prop where
  bel : Below W0.heap.size W0 W
  h0 : b0 = true → u11 = X
  h2 : b2 = true → u13 = M
  h1 : b1 = true → ∃ a c, u12 = (.agg #[.int .i64 x.k, .string x.t, .int .i64 x.n, .slice a x.ks.length c]) ∧ LAt W (fun b => b < W.heap.size ∧ (b4 = true → u7 ≠ .pointer (some ⟨b, 0, none⟩)) ∧ (b5 = true → u8 ≠ .pointer (some ⟨b, 0, none⟩))) (.slice a x.ks.length c) x.ks
  h3 : b3 = true → ∃ a c, u14 = (.agg #[.int .i64 m.k, .string m.t, .int .i64 m.n, .slice a m.ks.length c]) ∧ LAt W (fun b => b < W.heap.size ∧ (b4 = true → u7 ≠ .pointer (some ⟨b, 0, none⟩)) ∧ (b5 = true → u8 ≠ .pointer (some ⟨b, 0, none⟩))) (.slice a m.ks.length c) m.ks
  h4 : b4 = true → ∃ p, u7 = .pointer (some ⟨p, 0, none⟩) ∧ W0.heap.size ≤ p ∧ p < W.heap.size ∧ (b6 = false → W.heap[p]? = some cellsZ) ∧ (b6 = true → ∃ a c, u12 = (.agg #[.int .i64 x.k, .string x.t, .int .i64 x.n, .slice a x.ks.length c]) ∧ Bx W p x a c)
  h5 : b5 = true → ∃ p, u8 = .pointer (some ⟨p, 0, none⟩) ∧ W0.heap.size ≤ p ∧ p < W.heap.size ∧ (b7 = false → W.heap[p]? = some cellsZ) ∧ (b7 = true → ∃ a c, u14 = (.agg #[.int .i64 m.k, .string m.t, .int .i64 m.n, .slice a m.ks.length c]) ∧ Bx W p m a c)
  h45 : b4 = true → b5 = true → u7 ≠ u8
  h32 : b3 = true → b2 = true
  h6 : b6 = true → b0 = true ∧ b1 = true ∧ b2 = true ∧ b3 = true ∧ b4 = true ∧ b5 = true
  h7 : b7 = true → b0 = true ∧ b1 = true ∧ b2 = true ∧ b3 = true ∧ b4 = true ∧ b5 = true
theorem FF.grow {W0 W W' : World} {x m : Nd} {X M : Value} {b0 b1 b2 b3 b4 b5 b6 b7 : Bool} {u7 u8 u11 u12 u13 u14 : Value} (h : FF W0 x m X M b0 b1 b2 b3 b4 b5 b6 b7 u7 u8 u11 u12 u13 u14 W) (b : Below W.heap.size W W') : FF W0 x m X M b0 b1 b2 b3 b4 b5 b6 b7 u7 u8 u11 u12 u13 u14 W' := by
  refine ⟨h.bel.trans (b.mono h.bel.size), h.h0, h.h2, fun e => ?_, fun e => ?_, fun e => ?_, fun e => ?_, h.h45, h.h32, h.h6, h.h7⟩
  · obtain ⟨a, c, e1, l⟩ := h.h1 e
    exact ⟨a, c, e1, (l.bel b).mono (fun j hj => ⟨Nat.lt_of_lt_of_le hj.1 b.size, hj.2⟩)⟩
  · obtain ⟨a, c, e1, l⟩ := h.h3 e
    exact ⟨a, c, e1, (l.bel b).mono (fun j hj => ⟨Nat.lt_of_lt_of_le hj.1 b.size, hj.2⟩)⟩
  · obtain ⟨p, e1, h1, h2, h3, h4⟩ := h.h4 e
    exact ⟨p, e1, h1, Nat.lt_of_lt_of_le h2 b.size, fun e => (b.block p h2).trans (h3 e), fun e => by obtain ⟨a, c, e2, hb⟩ := h4 e; exact ⟨a, c, e2, hb.bel b⟩⟩
  · obtain ⟨p, e1, h1, h2, h3, h4⟩ := h.h5 e
    exact ⟨p, e1, h1, Nat.lt_of_lt_of_le h2 b.size, fun e => (b.block p h2).trans (h3 e), fun e => by obtain ⟨a, c, e2, hb⟩ := h4 e; exact ⟨a, c, e2, hb.bel b⟩⟩
theorem ptr_ne {p q : Nat} (h : p ≠ q) : (.pointer (some ⟨p, 0, none⟩) : Value) ≠ .pointer (some ⟨q, 0, none⟩) := by
  intro e
  injection e with e
  injection e with e
  injection e with e
  exact h e
theorem ag_inj {x : Nd} {a a' : Option Addr} {c c' : Nat} (h : ((.agg #[.int .i64 x.k, .string x.t, .int .i64 x.n, .slice a x.ks.length c]) : Value) = (.agg #[.int .i64 x.k, .string x.t, .int .i64 x.n, .slice a' x.ks.length c'])) : a = a' ∧ c = c' := by
  simpa using h
theorem FF.call_x {W0 W W' : World} {x m : Nd} {X M : Value} {b0 b2 b3 b4 b5 b6 b7 : Bool} {u7 u8 u11 u12 u13 u14 : Value} (h : FF W0 x m X M b0 false b2 b3 b4 b5 b6 b7 u7 u8 u11 u12 u13 u14 W) (b : Below W.heap.size W W') {a : Option Addr} {c : Nat} (l : LAt W' (fun b => W.heap.size ≤ b) (.slice a x.ks.length c) x.ks) :
    FF W0 x m X M b0 true b2 b3 b4 b5 b6 b7 u7 u8 u11 (.agg #[.int .i64 x.k, .string x.t, .int .i64 x.n, .slice a x.ks.length c]) u13 u14 W' := by
  have g := h.grow b
  have n6 : b6 = false := by
    cases h6 : b6 with
    | false => rfl
    | true => have := (h.h6 h6).2.1; cases this
  have n7 : b7 = false := by
    cases h7 : b7 with
    | false => rfl
    | true => have := (h.h7 h7).2.1; cases this
  refine ⟨g.bel, g.h0, g.h2, fun _ => ⟨a, c, rfl, l.mono' (fun j hj hS => ⟨hj, fun e4 e => ?_, fun e5 e => ?_⟩)⟩, g.h3, fun e => ?_, g.h5, g.h45, g.h32, fun e => (by rw [n6] at e; cases e), fun e => (by rw [n7] at e; cases e)⟩
  · obtain ⟨p, e1, _, h2, _⟩ := h.h4 e4
    exact ptr_ne (show p ≠ j by omega) (e1.symm.trans e)
  · obtain ⟨p, e1, _, h2, _⟩ := h.h5 e5
    exact ptr_ne (show p ≠ j by omega) (e1.symm.trans e)
  · obtain ⟨p, e1, h1, h2, h3, h4⟩ := g.h4 e
    exact ⟨p, e1, h1, h2, h3, fun e => (by rw [n6] at e; cases e)⟩
theorem FF.call_m {W0 W W' : World} {x m : Nd} {X M : Value} {b0 b1 b2 b4 b5 b6 b7 : Bool} {u7 u8 u11 u12 u13 u14 : Value} (h32' : true = true → b2 = true) (h : FF W0 x m X M b0 b1 b2 false b4 b5 b6 b7 u7 u8 u11 u12 u13 u14 W) (b : Below W.heap.size W W') {a : Option Addr} {c : Nat} (l : LAt W' (fun b => W.heap.size ≤ b) (.slice a m.ks.length c) m.ks) :
    FF W0 x m X M b0 b1 b2 true b4 b5 b6 b7 u7 u8 u11 u12 u13 (.agg #[.int .i64 m.k, .string m.t, .int .i64 m.n, .slice a m.ks.length c]) W' := by
  have g := h.grow b
  have n6 : b6 = false := by
    cases h6 : b6 with
    | false => rfl
    | true => have := (h.h6 h6).2.2.2.1; cases this
  have n7 : b7 = false := by
    cases h7 : b7 with
    | false => rfl
    | true => have := (h.h7 h7).2.2.2.1; cases this
  refine ⟨g.bel, g.h0, g.h2, g.h1, fun _ => ⟨a, c, rfl, l.mono' (fun j hj hS => ⟨hj, fun e4 e => ?_, fun e5 e => ?_⟩)⟩, g.h4, fun e => ?_, g.h45, h32', fun e => (by rw [n6] at e; cases e), fun e => (by rw [n7] at e; cases e)⟩
  · obtain ⟨p, e1, _, h2, _⟩ := h.h4 e4
    exact ptr_ne (show p ≠ j by omega) (e1.symm.trans e)
  · obtain ⟨p, e1, _, h2, _⟩ := h.h5 e5
    exact ptr_ne (show p ≠ j by omega) (e1.symm.trans e)
  · obtain ⟨p, e1, h1, h2, h3, h4⟩ := g.h5 e
    exact ⟨p, e1, h1, h2, h3, fun e => (by rw [n7] at e; cases e)⟩
theorem FF.alloc_p {W0 W W' : World} {x m : Nd} {X M : Value} {b0 b1 b2 b3 b5 b6 b7 : Bool} {u7 u8 u11 u12 u13 u14 : Value} (h : FF W0 x m X M b0 b1 b2 b3 false b5 b6 b7 u7 u8 u11 u12 u13 u14 W) {p : Nat} (hp : p = W.heap.size ∧ W'.heap.size = W.heap.size + 1) (hz : W'.heap[p]? = some cellsZ) (b : Below W.heap.size W W') :
    FF W0 x m X M b0 b1 b2 b3 true b5 b6 b7 (.pointer (some ⟨p, 0, none⟩)) u8 u11 u12 u13 u14 W' := by
  have g := h.grow b
  have n6 : b6 = false := by
    cases h6 : b6 with
    | false => rfl
    | true => have := (h.h6 h6).2.2.2.2.1; cases this
  have n7 : b7 = false := by
    cases h7 : b7 with
    | false => rfl
    | true => have := (h.h7 h7).2.2.2.2.1; cases this
  obtain ⟨rfl, hs⟩ := hp
  have hw := h.bel.size
  refine ⟨g.bel, g.h0, g.h2, fun e => ?_, fun e => ?_, fun e => ⟨_, rfl, hw, by omega, fun _ => hz, fun e => (by rw [n6] at e; cases e)⟩, g.h5, fun _ e5 => ?_, g.h32, fun e => (by rw [n6] at e; cases e), fun e => (by rw [n7] at e; cases e)⟩
  · obtain ⟨a, c, e1, l⟩ := h.h1 e
    exact ⟨a, c, e1, (l.bel b).mono (fun j hj => ⟨by have := hj.1; omega, fun _ => ptr_ne (by have := hj.1; omega), hj.2.2⟩)⟩
  · obtain ⟨a, c, e1, l⟩ := h.h3 e
    exact ⟨a, c, e1, (l.bel b).mono (fun j hj => ⟨by have := hj.1; omega, fun _ => ptr_ne (by have := hj.1; omega), hj.2.2⟩)⟩
  · obtain ⟨q, e1, _, h2, _⟩ := h.h5 e5
    rw [e1]
    exact ptr_ne (by omega)
theorem FF.alloc_q {W0 W W' : World} {x m : Nd} {X M : Value} {b0 b1 b2 b3 b4 b6 b7 : Bool} {u7 u8 u11 u12 u13 u14 : Value} (h : FF W0 x m X M b0 b1 b2 b3 b4 false b6 b7 u7 u8 u11 u12 u13 u14 W) {p : Nat} (hp : p = W.heap.size ∧ W'.heap.size = W.heap.size + 1) (hz : W'.heap[p]? = some cellsZ) (b : Below W.heap.size W W') :
    FF W0 x m X M b0 b1 b2 b3 b4 true b6 b7 u7 (.pointer (some ⟨p, 0, none⟩)) u11 u12 u13 u14 W' := by
  have g := h.grow b
  have n6 : b6 = false := by
    cases h6 : b6 with
    | false => rfl
    | true => have := (h.h6 h6).2.2.2.2.2; cases this
  have n7 : b7 = false := by
    cases h7 : b7 with
    | false => rfl
    | true => have := (h.h7 h7).2.2.2.2.2; cases this
  obtain ⟨rfl, hs⟩ := hp
  have hw := h.bel.size
  refine ⟨g.bel, g.h0, g.h2, fun e => ?_, fun e => ?_, g.h4, fun e => ⟨_, rfl, hw, by omega, fun _ => hz, fun e => (by rw [n7] at e; cases e)⟩, fun e4 _ => ?_, g.h32, fun e => (by rw [n6] at e; cases e), fun e => (by rw [n7] at e; cases e)⟩
  · obtain ⟨a, c, e1, l⟩ := h.h1 e
    exact ⟨a, c, e1, (l.bel b).mono (fun j hj => ⟨by have := hj.1; omega, hj.2.1, fun _ => ptr_ne (by have := hj.1; omega)⟩)⟩
  · obtain ⟨a, c, e1, l⟩ := h.h3 e
    exact ⟨a, c, e1, (l.bel b).mono (fun j hj => ⟨by have := hj.1; omega, hj.2.1, fun _ => ptr_ne (by have := hj.1; omega)⟩)⟩
  · obtain ⟨q, e1, _, h2, _⟩ := h.h4 e4
    rw [e1]
    exact ptr_ne (by omega)
theorem FF.store_p {W0 W W' : World} {x m : Nd} {X M : Value} {u11 u13 u14 u8 : Value} {b7 : Bool} {p : Nat} {a : Option Addr} {c : Nat} (h : FF W0 x m X M true true true true true true false b7 (.pointer (some ⟨p, 0, none⟩)) u8 u11 (.agg #[.int .i64 x.k, .string x.t, .int .i64 x.n, .slice a x.ks.length c]) u13 u14 W) (hs : W'.heap.size = W.heap.size ∧ p < W.heap.size) (hz : W'.heap[p]? = some (cellsN x a c)) (hb : ∀ n W0, Below n W0 W → n ≤ p → Below n W0 W') (ho : ∀ j, j ≠ p → W'.heap[j]? = W.heap[j]?) :
    FF W0 x m X M true true true true true true true b7 (.pointer (some ⟨p, 0, none⟩)) u8 u11 (.agg #[.int .i64 x.k, .string x.t, .int .i64 x.n, .slice a x.ks.length c]) u13 u14 W' := by
  obtain ⟨p', e1, k1, k2, k3, k4⟩ := h.h4 rfl
  obtain rfl : p = p' := by
    apply Classical.byContradiction
    intro hne
    exact ptr_ne hne e1
  have kl : ∀ {v : Value} {ks : List Nd}, LAt W (fun b => b < W.heap.size ∧ (true = true → (.pointer (some ⟨p, 0, none⟩) : Value) ≠ .pointer (some ⟨b, 0, none⟩)) ∧ (true = true → u8 ≠ .pointer (some ⟨b, 0, none⟩))) v ks → LAt W' (fun b => b < W'.heap.size ∧ (true = true → (.pointer (some ⟨p, 0, none⟩) : Value) ≠ .pointer (some ⟨b, 0, none⟩)) ∧ (true = true → u8 ≠ .pointer (some ⟨b, 0, none⟩))) v ks := fun l => (l.keep (by omega) (fun j hj hl => ho j (fun e => hj.2.1 rfl (by rw [e])))).mono (fun j hj => ⟨by have := hj.1; omega, hj.2⟩)
  refine ⟨hb _ _ h.bel k1, h.h0, h.h2, fun e => ?_, fun e => ?_, fun _ => ⟨p, rfl, k1, by omega, fun e => (by cases e), fun _ => ⟨a, c, rfl, ⟨hz⟩⟩⟩, fun e => ?_, h.h45, h.h32, fun _ => ⟨rfl, rfl, rfl, rfl, rfl, rfl⟩, h.h7⟩
  · obtain ⟨a, c, e1, l⟩ := h.h1 e
    exact ⟨a, c, e1, kl l⟩
  · obtain ⟨a, c, e1, l⟩ := h.h3 e
    exact ⟨a, c, e1, kl l⟩
  · obtain ⟨q, e2, g1, g2, g3, g4⟩ := h.h5 e
    have hqp : q ≠ p := fun e => h.h45 rfl rfl (by rw [e2, e])
    exact ⟨q, e2, g1, by omega, fun e => (ho q hqp).trans (g3 e), fun e => by obtain ⟨a, c, e3, hb⟩ := g4 e; exact ⟨a, c, e3, ⟨(ho q hqp).trans hb.h⟩⟩⟩
theorem FF.store_q {W0 W W' : World} {x m : Nd} {X M : Value} {u11 u13 u12 u7 : Value} {b6 : Bool} {p : Nat} {a : Option Addr} {c : Nat} (h : FF W0 x m X M true true true true true true b6 false u7 (.pointer (some ⟨p, 0, none⟩)) u11 u12 u13 (.agg #[.int .i64 m.k, .string m.t, .int .i64 m.n, .slice a m.ks.length c]) W) (hs : W'.heap.size = W.heap.size ∧ p < W.heap.size) (hz : W'.heap[p]? = some (cellsN m a c)) (hb : ∀ n W0, Below n W0 W → n ≤ p → Below n W0 W') (ho : ∀ j, j ≠ p → W'.heap[j]? = W.heap[j]?) :
    FF W0 x m X M true true true true true true b6 true u7 (.pointer (some ⟨p, 0, none⟩)) u11 u12 u13 (.agg #[.int .i64 m.k, .string m.t, .int .i64 m.n, .slice a m.ks.length c]) W' := by
  obtain ⟨p', e1, k1, k2, k3, k4⟩ := h.h5 rfl
  obtain rfl : p = p' := by
    apply Classical.byContradiction
    intro hne
    exact ptr_ne hne e1
  have kl : ∀ {v : Value} {ks : List Nd}, LAt W (fun b => b < W.heap.size ∧ (true = true → u7 ≠ .pointer (some ⟨b, 0, none⟩)) ∧ (true = true → (.pointer (some ⟨p, 0, none⟩) : Value) ≠ .pointer (some ⟨b, 0, none⟩))) v ks → LAt W' (fun b => b < W'.heap.size ∧ (true = true → u7 ≠ .pointer (some ⟨b, 0, none⟩)) ∧ (true = true → (.pointer (some ⟨p, 0, none⟩) : Value) ≠ .pointer (some ⟨b, 0, none⟩))) v ks := fun l => (l.keep (by omega) (fun j hj hl => ho j (fun e => hj.2.2 rfl (by rw [e])))).mono (fun j hj => ⟨by have := hj.1; omega, hj.2⟩)
  refine ⟨hb _ _ h.bel k1, h.h0, h.h2, fun e => ?_, fun e => ?_, fun e => ?_, fun _ => ⟨p, rfl, k1, by omega, fun e => (by cases e), fun _ => ⟨a, c, rfl, ⟨hz⟩⟩⟩, h.h45, h.h32, h.h6, fun _ => ⟨rfl, rfl, rfl, rfl, rfl, rfl⟩⟩
  · obtain ⟨a, c, e1, l⟩ := h.h1 e
    exact ⟨a, c, e1, kl l⟩
  · obtain ⟨a, c, e1, l⟩ := h.h3 e
    exact ⟨a, c, e1, kl l⟩
  · obtain ⟨q, e2, g1, g2, g3, g4⟩ := h.h4 e
    have hqp : q ≠ p := fun e => h.h45 rfl rfl (by rw [e2, e])
    exact ⟨q, e2, g1, by omega, fun e => (ho q hqp).trans (g3 e), fun e => by obtain ⟨a, c, e3, hb⟩ := g4 e; exact ⟨a, c, e3, ⟨(ho q hqp).trans hb.h⟩⟩⟩
theorem rdy0 : ∀ b0 b1 b2 b3 b4 b5 b6 b7 : Bool, 0 ∈ Region.ready .any ops1 #[b0, b1, b2, b3, b4, b5, b6, b7] → b0 = false := by decide +kernel
theorem rdy1 : ∀ b0 b1 b2 b3 b4 b5 b6 b7 : Bool, 1 ∈ Region.ready .any ops1 #[b0, b1, b2, b3, b4, b5, b6, b7] → b1 = false ∧ b0 = true := by decide +kernel
theorem rdy2 : ∀ b0 b1 b2 b3 b4 b5 b6 b7 : Bool, 2 ∈ Region.ready .any ops1 #[b0, b1, b2, b3, b4, b5, b6, b7] → b2 = false := by decide +kernel
theorem rdy3 : ∀ b0 b1 b2 b3 b4 b5 b6 b7 : Bool, 3 ∈ Region.ready .any ops1 #[b0, b1, b2, b3, b4, b5, b6, b7] → b3 = false ∧ b2 = true := by decide +kernel
theorem rdy4 : ∀ b0 b1 b2 b3 b4 b5 b6 b7 : Bool, 4 ∈ Region.ready .any ops1 #[b0, b1, b2, b3, b4, b5, b6, b7] → b4 = false := by decide +kernel
theorem rdy5 : ∀ b0 b1 b2 b3 b4 b5 b6 b7 : Bool, 5 ∈ Region.ready .any ops1 #[b0, b1, b2, b3, b4, b5, b6, b7] → b5 = false := by decide +kernel
theorem rdy6' : ∀ b0 b1 b2 b3 b4 b5 b6 b7 : Bool, 6 ∈ Region.ready .any ops1 #[b0, b1, b2, b3, b4, b5, b6, b7] → (!b6 && b0 && b1 && b3 && b4 && b5) = true := by decide +kernel
theorem rdy6 (b0 b1 b2 b3 b4 b5 b6 b7 : Bool) (h : 6 ∈ Region.ready .any ops1 #[b0, b1, b2, b3, b4, b5, b6, b7]) : b6 = false ∧ b0 = true ∧ b1 = true ∧ b3 = true ∧ b4 = true ∧ b5 = true := by simpa [and_assoc] using rdy6' b0 b1 b2 b3 b4 b5 b6 b7 h
theorem rdy7' : ∀ b0 b1 b2 b3 b4 b5 b6 b7 : Bool, 7 ∈ Region.ready .any ops1 #[b0, b1, b2, b3, b4, b5, b6, b7] → (!b7 && b0 && b1 && b2 && b3 && b4 && b5) = true := by decide +kernel
theorem rdy7 (b0 b1 b2 b3 b4 b5 b6 b7 : Bool) (h : 7 ∈ Region.ready .any ops1 #[b0, b1, b2, b3, b4, b5, b6, b7]) : b7 = false ∧ b0 = true ∧ b1 = true ∧ b2 = true ∧ b3 = true ∧ b4 = true ∧ b5 = true := by simpa [and_assoc] using rdy7' b0 b1 b2 b3 b4 b5 b6 b7 h
theorem rdyN' : ∀ b0 b1 b2 b3 b4 b5 b6 b7 : Bool, Region.ready .any ops1 #[b0, b1, b2, b3, b4, b5, b6, b7] = [] → (b0 && b1 && b2 && b3 && b4 && b5 && b6 && b7) = true := by decide +kernel
theorem rdyN (b0 b1 b2 b3 b4 b5 b6 b7 : Bool) (h : Region.ready .any ops1 #[b0, b1, b2, b3, b4, b5, b6, b7] = []) : b0 = true ∧ b1 = true ∧ b2 = true ∧ b3 = true ∧ b4 = true ∧ b5 = true ∧ b6 = true ∧ b7 = true := by simpa [and_assoc] using rdyN' b0 b1 b2 b3 b4 b5 b6 b7 h

set_option maxRecDepth 100000 in
set_option maxHeartbeats 4000000 in
theorem copies (x m : Nd) (ax am : Option Addr) (cx cm px pm : Nat) (v0 v1 v2 : Value) (W0 : World) (X0 : Bx W0 px x ax cx) (M0 : Bx W0 pm m am cm)
    (CX : ∀ W, Below W0.heap.size W0 W → Calls Tryd.prog 9 #[(.agg #[.int .i64 x.k, .string x.t, .int .i64 x.n, .slice ax x.ks.length cx])] W fun e w' => ∃ a c, e = .returned (.agg #[.int .i64 x.k, .string x.t, .int .i64 x.n, .slice a x.ks.length c]) ∧ LAt w' (fun b => W.heap.size ≤ b) (.slice a x.ks.length c) x.ks ∧ Below W.heap.size W w')
    (CM : ∀ W, Below W0.heap.size W0 W → Calls Tryd.prog 9 #[(.agg #[.int .i64 m.k, .string m.t, .int .i64 m.n, .slice am m.ks.length cm])] W fun e w' => ∃ a c, e = .returned (.agg #[.int .i64 m.k, .string m.t, .int .i64 m.n, .slice a m.ks.length c]) ∧ LAt w' (fun b => W.heap.size ≤ b) (.slice a m.ks.length c) m.ks ∧ Below W.heap.size W w')
    {Q : Exit → Act → World → Prop} (hQ : ∀ p q a c a' c' W, Two W0 W0.heap.size x m p q a c a' c' W → Q .normal (fr1 v0 v1 v2 (.pointer (some ⟨px, 0, none⟩)) (.pointer (some ⟨pm, 0, none⟩)) (.pointer (some ⟨p, 0, none⟩)) (.pointer (some ⟨q, 0, none⟩)) (.agg #[.int .i64 x.k, .string x.t, .int .i64 x.n, .slice ax x.ks.length cx]) (.agg #[.int .i64 x.k, .string x.t, .int .i64 x.n, .slice a x.ks.length c]) (.agg #[.int .i64 m.k, .string m.t, .int .i64 m.n, .slice am m.ks.length cm]) (.agg #[.int .i64 m.k, .string m.t, .int .i64 m.n, .slice a' m.ks.length c'])) W) :
    (Code.region 1 ops1 true).wp Tryd.prog Q (fr1 v0 v1 v2 (.pointer (some ⟨px, 0, none⟩)) (.pointer (some ⟨pm, 0, none⟩)) undef undef undef undef undef undef) W0 := by
  refine wp_region_any (by kernel_rfl) (wpAny_inv (fun listed a W => ∃ b0 b1 b2 b3 b4 b5 b6 b7 : Bool, ∃ u7 u8 u11 u12 u13 u14, listed = #[b0, b1, b2, b3, b4, b5, b6, b7] ∧ a = fr1 v0 v1 v2 (.pointer (some ⟨px, 0, none⟩)) (.pointer (some ⟨pm, 0, none⟩)) u7 u8 u11 u12 u13 u14 ∧ FF W0 x m (.agg #[.int .i64 x.k, .string x.t, .int .i64 x.n, .slice ax x.ks.length cx]) (.agg #[.int .i64 m.k, .string m.t, .int .i64 m.n, .slice am m.ks.length cm]) b0 b1 b2 b3 b4 b5 b6 b7 u7 u8 u11 u12 u13 u14 W) ?_ ?_ _ _ _ _ ?_ ?_)
  · rintro _ _ W i ⟨b0, b1, b2, b3, b4, b5, b6, b7, u7, u8, u11, u12, u13, u14, rfl, rfl, h⟩ hi K hK
    have hlt : i < 8 := (mem_ready hi).1
    obtain rfl | rfl | rfl | rfl | rfl | rfl | rfl | rfl : i = 0 ∨ i = 1 ∨ i = 2 ∨ i = 3 ∨ i = 4 ∨ i = 5 ∨ i = 6 ∨ i = 7 := by omega
    · refine wpOp_step rfl (fun K' hK' => step_load_nd rfl (.tmp 3) rfl px rfl x ax cx (X0.bel h.bel) (hK' _ _ (hK _ _ ⟨true, b1, b2, b3, b4, b5, b6, b7, u7, u8, _, u12, u13, u14, rfl, rfl, ⟨h.bel, fun _ => rfl, h.h2, h.h1, h.h3, h.h4, h.h5, h.h45, h.h32, fun e => ⟨rfl, (h.h6 e).2⟩, fun e => ⟨rfl, (h.h7 e).2⟩⟩⟩)))
    · obtain ⟨rfl, rfl⟩ := rdy1 _ _ _ _ _ _ _ _ hi
      obtain rfl := h.h0 rfl
      refine wpOp_step rfl (fun K' hK' => step_call1 rfl 9 (.tmp 11) _ rfl (.agg #[.int .i64 x.k, .string x.t, .int .i64 x.n, .slice ax x.ks.length cx]) rfl (enters_of Tryd.func9 (by kernel_rfl) rfl) (CX W h.bel) ?_)
      rintro e W' ⟨a, c, rfl, l, b⟩
      exact ⟨_, rfl, hK' _ _ (hK _ _ ⟨true, true, b2, b3, b4, b5, b6, b7, u7, u8, _, _, u13, u14, rfl, rfl, h.call_x b l⟩)⟩
    · refine wpOp_step rfl (fun K' hK' => step_load_nd rfl (.tmp 5) rfl pm rfl m am cm (M0.bel h.bel) (hK' _ _ (hK _ _ ⟨b0, b1, true, b3, b4, b5, b6, b7, u7, u8, u11, u12, _, u14, rfl, rfl, ⟨h.bel, h.h0, fun _ => rfl, h.h1, h.h3, h.h4, h.h5, h.h45, fun _ => rfl, fun e => ⟨(h.h6 e).1, (h.h6 e).2.1, rfl, (h.h6 e).2.2.2⟩, fun e => ⟨(h.h7 e).1, (h.h7 e).2.1, rfl, (h.h7 e).2.2.2⟩⟩⟩)))
    · obtain ⟨rfl, rfl⟩ := rdy3 _ _ _ _ _ _ _ _ hi
      obtain rfl := h.h2 rfl
      refine wpOp_step rfl (fun K' hK' => step_call1 rfl 9 (.tmp 13) _ rfl (.agg #[.int .i64 m.k, .string m.t, .int .i64 m.n, .slice am m.ks.length cm]) rfl (enters_of Tryd.func9 (by kernel_rfl) rfl) (CM W h.bel) ?_)
      rintro e W' ⟨a, c, rfl, l, b⟩
      exact ⟨_, rfl, hK' _ _ (hK _ _ ⟨b0, b1, true, true, b4, b5, b6, b7, u7, u8, u11, u12, _, _, rfl, rfl, FF.call_m (fun _ => rfl) h b l⟩)⟩
    · obtain rfl := rdy4 _ _ _ _ _ _ _ _ hi
      exact wpOp_step rfl (fun K' hK' => step_alloc_nd rfl 7 rfl rfl (fun p W' hp hz b => hK' _ _ (hK _ _ ⟨b0, b1, b2, b3, true, b5, b6, b7, _, u8, u11, u12, u13, u14, rfl, rfl, h.alloc_p hp.out hz b⟩)))
    · obtain rfl := rdy5 _ _ _ _ _ _ _ _ hi
      exact wpOp_step rfl (fun K' hK' => step_alloc_nd rfl 8 rfl rfl (fun p W' hp hz b => hK' _ _ (hK _ _ ⟨b0, b1, b2, b3, b4, true, b6, b7, u7, _, u11, u12, u13, u14, rfl, rfl, h.alloc_q hp.out hz b⟩)))
    · obtain ⟨rfl, rfl, rfl, rfl, rfl, rfl⟩ := rdy6 _ _ _ _ _ _ _ _ hi
      obtain rfl := h.h32 rfl
      obtain ⟨p, rfl, _, _, hz, _⟩ := h.h4 rfl
      obtain ⟨a, c, rfl, _⟩ := h.h1 rfl
      exact wpOp_step rfl (fun K' hK' => step_store_nd rfl (.tmp 7) (.tmp 12) rfl p rfl x a c rfl (hz rfl) (fun W' hs hz' hb ho => hK' _ _ (hK _ _ ⟨true, true, true, true, true, true, true, b7, _, u8, u11, _, u13, u14, rfl, rfl, h.store_p hs.out hz' hb ho⟩)))
    · obtain ⟨rfl, rfl, rfl, rfl, rfl, rfl, rfl⟩ := rdy7 _ _ _ _ _ _ _ _ hi
      obtain ⟨p, rfl, _, _, hz, _⟩ := h.h5 rfl
      obtain ⟨a, c, rfl, _⟩ := h.h3 rfl
      exact wpOp_step rfl (fun K' hK' => step_store_nd rfl (.tmp 8) (.tmp 14) rfl p rfl m a c rfl (hz rfl) (fun W' hs hz' hb ho => hK' _ _ (hK _ _ ⟨true, true, true, true, true, true, b6, true, u7, _, u11, u12, u13, _, rfl, rfl, h.store_q hs.out hz' hb ho⟩)))
  · rintro _ _ W ⟨b0, b1, b2, b3, b4, b5, b6, b7, u7, u8, u11, u12, u13, u14, rfl, rfl, h⟩ hr
    obtain ⟨rfl, rfl, rfl, rfl, rfl, rfl, rfl, rfl⟩ := rdyN _ _ _ _ _ _ _ _ hr
    obtain rfl := h.h0 rfl
    obtain rfl := h.h2 rfl
    obtain ⟨a, c, rfl, l⟩ := h.h1 rfl
    obtain ⟨a', c', rfl, l'⟩ := h.h3 rfl
    obtain ⟨p, rfl, _, _, _, k4⟩ := h.h4 rfl
    obtain ⟨q, rfl, _, _, _, k5⟩ := h.h5 rfl
    obtain ⟨a1, c1, e1, hp⟩ := k4 rfl
    obtain ⟨a2, c2, e2, hq⟩ := k5 rfl
    obtain ⟨rfl, rfl⟩ := ag_inj e1
    obtain ⟨rfl, rfl⟩ := ag_inj e2
    exact hQ p q a c a' c' W ⟨hp, hq, l.mono (fun _ _ => trivial), l'.mono (fun _ _ => trivial), h.bel⟩
  · decide
  · exact ⟨false, false, false, false, false, false, false, false, undef, undef, undef, undef, undef, undef, rfl, rfl, ⟨(Below.refl _ _).drew, fun e => (by cases e), fun e => (by cases e), fun e => (by cases e), fun e => (by cases e), fun e => (by cases e), fun e => (by cases e), fun e => (by cases e), fun e => (by cases e), fun e => (by cases e), fun e => (by cases e)⟩⟩
end Go.Proofs.YtggahoefbcnaiaaDoor.Replaces
