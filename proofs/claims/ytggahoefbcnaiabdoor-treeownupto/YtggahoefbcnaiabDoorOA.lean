/- Own text. What spoils a tree turns nothing but its own lists. A tree copied twice into two variables, in whatever order. A tree put into a place and laid into a variable, in whatever order: what holds between. -/
import Derived.Test.YtggahoefbcnaiabDoorF14
import Derived.Test.YtggahoefbcnaiabDoorNBx
import Derived.Deep.DeepCutAuto
import Derived.Deep.LoopGhost
import Derived.Test.YtggahoefbcnaiabDoorRInv
namespace Go.Proofs.YtggahoefbcnaiabDoor
open Go.RowKit
set_option linter.unusedVariables false
set_option linter.unusedSimpArgs false

/-- but for these blocks nothing has turned. -/
structure But (S : Nat → Prop) (w w' : World) : Prop where
  os : w'.os = w.os
  tape : w'.tape = w.tape
  output : w'.output = w.output
  size : w.heap.size ≤ w'.heap.size
  block : ∀ b, b < w.heap.size → ¬ S b → w'.heap[b]? = w.heap[b]?
theorem But.refl (S : Nat → Prop) (w : World) : But S w w := ⟨rfl, rfl, rfl, Nat.le_refl _, fun _ _ _ => rfl⟩
theorem But.trans {S T : Nat → Prop} {a b c : World} (h : But S a b) (k : But T b c) (hT : ∀ j, j < a.heap.size → T j → S j) : But S a c :=
  ⟨k.os.trans h.os, k.tape.trans h.tape, k.output.trans h.output, Nat.le_trans h.size k.size, fun j hj hn => (k.block j (Nat.lt_of_lt_of_le hj h.size) (fun e => hn (hT j hj e))).trans (h.block j hj hn)⟩
theorem But.of_bel {S : Nat → Prop} {w w' : World} (b : Below w.heap.size w w') : But S w w' := ⟨b.os, b.tape, b.output, b.size, fun j hj _ => b.block j hj⟩
theorem But.then {S : Nat → Prop} {a b c : World} (h : But S a b) (k : Below b.heap.size b c) : But S a c := h.trans (T := fun _ => False) (But.of_bel k) (fun _ _ e => e.elim)
theorem But.grown {S : Nat → Prop} {a b c : World} {r : Option Nat} (h : But S a b) (g : b.grownBy c r) (hr : ∀ j, r = some j → j < a.heap.size → S j) : But S a c :=
  ⟨g.os.trans h.os, g.tape.trans h.tape, g.output.trans h.output, Nat.le_trans h.size g.size, fun j hj hn => (g.block j (Nat.lt_of_lt_of_le hj h.size) (fun e => hn (hr j e.symm hj))).trans (h.block j hj hn)⟩
theorem But.set4 {S : Nat → Prop} {a b : World} {bl o : Nat} (h : But S a b) (hb : bl < a.heap.size → S bl) (p q r s : Value) : But S a ((((b.setCell ⟨bl, o, none⟩ p).setCell ⟨bl, o + 1, none⟩ q).setCell ⟨bl, o + 2, none⟩ r).setCell ⟨bl, o + 3, none⟩ s) :=
  ⟨h.os, h.tape, h.output, by rw [set4_size]; exact h.size, fun j hj hn => (set4_other p q r s (fun e => hn (by subst e; exact hb hj))).trans (h.block j hj hn)⟩
theorem But.bel {S : Nat → Prop} {w w' : World} {n : Nat} (h : But S w w') (hS : ∀ b, S b → n ≤ b) (hn : n ≤ w.heap.size) : Below n w w' := ⟨h.os, h.tape, h.output, h.size, fun j hj => h.block j (by omega) (fun e => by have := hS j e; omega)⟩

/-- a list in memory of its own, opened. -/
theorem Sep.opS {w : World} {S : Nat → Prop} {v : Value} {ks : List Nd} (h : Sep w S v ks) : ∃ (a : Option Addr) (bl : Nat) (f : Nat → Value) (T : Nat → Nat → Prop), v = .slice a ks.length ks.length ∧ (0 < ks.length → a = some ⟨bl, 0, none⟩ ∧ S bl ∧ ∃ cur, w.heap[bl]? = some (.cells cur 24 (0, 0)) ∧ cur.size = ks.length * 4) ∧ (ks.length = 0 → a = none) ∧
    (∀ i b, T i b → S b) ∧ (∀ i, ¬ T i bl) ∧ (∀ i j b, i ≠ j → T i b → ¬ T j b) ∧ (∀ i (h : i < ks.length), Four w bl (i * 4) ks[i] (f i)) ∧ (∀ i (h : i < ks.length), Sep w (T i) (f i) ks[i].ks) := by
  cases h with
  | nil => exact ⟨none, 0, fun _ => default, fun _ _ => False, rfl, fun h => absurd h (Nat.lt_irrefl _), fun _ => rfl, fun _ _ h => h.elim, fun _ h => h, fun _ _ _ _ h => h.elim, fun i h => absurd h (Nat.not_lt_zero _), fun i h => absurd h (Nat.not_lt_zero _)⟩
  | row _ bl ks f T cur hn hS hT hTb hd hg hcs h4 hk => exact ⟨_, bl, f, T, rfl, fun _ => ⟨rfl, hS, cur, hg, hcs⟩, fun h => by omega, hT, hTb, hd, h4, hk⟩
theorem num_b (n : Int) (W : World) : Calls Tryd.prog 8 #[.int .i64 n] W fun e w' => e = .returned (.agg #[.int .i64 1, .string ⟨#[]⟩, .int .i64 n, .slice none 0 0]) ∧ Below W.heap.size W w' := (num_any n W).mono (by rintro e w' ⟨rfl, rfl⟩; exact ⟨rfl, bel_a _ _⟩)
/-- k kids of a list have been spoilt. -/
structure Sp (w wr : World) (S : Nat → Prop) (bl : Nat) (ks : List Nd) (f : Nat → Value) (T : Nat → Nat → Prop) (k : Nat) : Prop where
  but : But S w wr
  row : 0 < ks.length → ∃ cur, wr.heap[bl]? = some (.cells cur 24 (0, 0)) ∧ cur.size = ks.length * 4
  four : ∀ i (h : i < ks.length), k ≤ i → Four wr bl (i * 4) ks[i] (f i)
  kid : ∀ i (h : i < ks.length), k ≤ i → Sep wr (T i) (f i) ks[i].ks
theorem Sp.bel {w wr W : World} {S : Nat → Prop} {bl : Nat} {ks : List Nd} {f : Nat → Value} {T : Nat → Nat → Prop} {k : Nat} (h : Sp w wr S bl ks f T k) (b : Below wr.heap.size wr W) : Sp w W S bl ks f T k := by
  refine ⟨h.but.then b, fun hn => ?_, fun i hi hk => ?_, fun i hi hk => (h.kid i hi hk).keep (fun j _ hj => b.block j hj)⟩
  · obtain ⟨cur, hc, hs⟩ := h.row hn
    exact ⟨cur, (b.block bl (Array.getElem?_eq_some_iff.1 hc).1).trans hc, hs⟩
  · obtain ⟨cur, hc, hs⟩ := h.row (by omega)
    exact (h.four i hi hk).of_block (b.block bl (Array.getElem?_eq_some_iff.1 hc).1)
/-- a kid spoilt: the others are as they were. -/
theorem Sp.kid' {w wr W : World} {S : Nat → Prop} {bl : Nat} {ks : List Nd} {f : Nat → Value} {T : Nat → Nat → Prop} {k : Nat} (h : Sp w wr S bl ks f T k) (hT : ∀ i b, T i b → S b) (hTb : ∀ i, ¬ T i bl) (hd : ∀ i j b, i ≠ j → T i b → ¬ T j b) (b : But (T k) wr W) : Sp w W S bl ks f T (k + 1) := by
  refine ⟨h.but.trans b (fun j _ e => hT k j e), fun hn => ?_, fun i hi hk => ?_, fun i hi hk => (h.kid i hi (by omega)).keep (fun j e hj => b.block j hj (hd i k j (by omega) e))⟩
  · obtain ⟨cur, hc, hs⟩ := h.row hn
    exact ⟨cur, (b.block bl (Array.getElem?_eq_some_iff.1 hc).1 (hTb k)).trans hc, hs⟩
  · obtain ⟨cur, hc, hs⟩ := h.row (by omega)
    exact (h.four i hi (by omega)).of_block (b.block bl (Array.getElem?_eq_some_iff.1 hc).1 (hTb k))
theorem Sp.set {w wr : World} {S : Nat → Prop} {bl : Nat} {ks : List Nd} {f : Nat → Value} {T : Nat → Nat → Prop} {k : Nat} (h : Sp w wr S bl ks f T (k + 1)) (hk : k < ks.length) (hTb : ∀ i, ¬ T i bl) (hS : S bl) (p q r s : Value) : Sp w ((((wr.setCell ⟨bl, k * 4, none⟩ p).setCell ⟨bl, k * 4 + 1, none⟩ q).setCell ⟨bl, k * 4 + 2, none⟩ r).setCell ⟨bl, k * 4 + 3, none⟩ s) S bl ks f T (k + 1) := by
  obtain ⟨cur, hc, hs⟩ := h.row (by omega)
  refine ⟨h.but.set4 (fun _ => hS) p q r s, fun _ => ⟨_, set4_block p q r s hc, by simpa using hs⟩, fun i hi hki => ?_, fun i hi hki => (h.kid i hi hki).keep (fun j e hj => set4_other p q r s (fun e2 => hTb i (e2 ▸ e)))⟩
  obtain ⟨c0, c1, c2, c3⟩ := h.four i hi hki
  exact ⟨(cell_set4 hc p q r s _ (by omega)).trans c0, (cell_set4 hc p q r s _ (by omega)).trans c1, (cell_set4 hc p q r s _ (by omega)).trans c2, (cell_set4 hc p q r s _ (by omega)).trans c3⟩

set_option maxRecDepth 100000 in
set_option maxHeartbeats 16000000 in
theorem spoil_any (x : Nd) : ∀ (w : World) (S : Nat → Prop) (v : Value), Sep w S v x.ks → (∀ b, S b → b < w.heap.size) → x.size ≤ 4194304 →
    Calls Tryd.prog 5 #[x.v v] w fun e w' => e = .returned (.tuple #[]) ∧ But S w w' := by
  induction x using Nd.ind with
  | h x ih =>
    intro w S v hx hS zx
    obtain ⟨ax, bl, f, T, rfl, px, px0, hT, hTb, hd, h4, hk4⟩ := hx.opS
    have zs := x.size_eq
    have lx := sizes_len x.ks
    have lx2 : x.ks.length ≤ 4194304 := by omega
    obtain ⟨i0, hi0, hz0, hz1, hz2⟩ := info_parts info_nd
    have sp0 : Sp w w S bl x.ks f T 0 := ⟨But.refl _ _, fun hn => (px hn).2.2, fun i hi _ => h4 i hi, fun i hi _ => hk4 i hi⟩
    unfold Nd.v
    go_enter Tryd.func5, Tryd.ntmps5
    go_wp2
    obtain ⟨W0, hW0⟩ : ∃ W, w.alloc (Obj.cells #[Value.int IntKind.i64 x.k, Value.string x.t, Value.int IntKind.i64 x.n, Value.slice ax x.ks.length x.ks.length] 24) = W := ⟨_, rfl⟩
    have b0 : Below w.heap.size w W0 := by rw [← hW0]; exact bel_a _ _
    have X0 : Bx W0 w.heap.size x ax x.ks.length := by rw [← hW0]; exact Bx.new _ _ _ _
    have sp1 := sp0.bel b0
    rw [hW0]
    clear hW0 sp0 b0 h4 hk4
    go_loopg [2] x.ks.length (fun gk k0 wr => ∃ k : Nat, k0 = .int .i64 (k : Nat) ∧ Hid (gk + k = x.ks.length) ∧ Sp w wr S bl x.ks f T k ∧ Bx wr w.heap.size x ax x.ks.length)
    case atStart => exact ⟨0, rfl, by simp [Hid], sp1, X0⟩
    case round =>
      clear sp1 X0
      obtain ⟨k, rfl, hk, sp, X⟩ := hrel
      have hkk : k ≤ x.ks.length := by have := hk.out; omega
      obtain ⟨_, _, _, e0⟩ := X.cs
      by_cases hkl : k < x.ks.length
      · obtain ⟨rfl, hSb, _⟩ := px (by omega)
        have iha := ih x.ks[k] (List.getElem_mem hkl)
        have zk := x.kid_size hkl
        obtain ⟨u1, u2, u3, u4⟩ := sp.four k hkl (Nat.le_refl _)
        have gx := sp.kid k hkl (Nat.le_refl _)
        have hbl : bl < w.heap.size := hS bl hSb
        have nxt := fun W (b : But (T k) wr W) => sp.kid' hT hTb hd b
        have SS := fun {W : World} (h : Sp w W S bl x.ks f T (k + 1)) => h.set hkl hTb hSb
        have hTw : ∀ b, T k b → b < wr.heap.size := fun b hb => Nat.lt_of_lt_of_le (hS b (hT k b hb)) sp.but.size
        have hTn : ¬ T k w.heap.size := fun h => by have := hS _ (hT k _ h); omega
        generalize x.ks[k] = xk at *
        generalize f k = fk at *
        obtain ⟨ak, ck, rfl⟩ := gx.sl
        have C1 := iha wr (T k) _ gx hTw (by omega)
        clear ih iha px px0
        go_upto_region 5 with (go_at_call 5; refine C1.mono ?_; rintro e W1 ⟨rfl, b1⟩)
        have sp1 := nxt W1 b1
        have X1 : Bx W1 w.heap.size x (some ⟨bl, 0, none⟩) x.ks.length := ⟨(b1.block _ X.lt hTn).trans X.h⟩
        clear u1 u2 u3 u4 e0 gx C1 nxt sp X b1
        have aft : Hid (∀ W2, Below W1.drew.heap.size W1.drew W2 → Sp w W2 S bl x.ks f T (k + 1) ∧ Bx W2 w.heap.size x (some ⟨bl, 0, none⟩) x.ks.length ∧ (∃ q0 q1 q2 q3, W2.cell? ⟨bl, k * 4, none⟩ = some q0 ∧ W2.cell? ⟨bl, k * 4 + 1, none⟩ = some q1 ∧ W2.cell? ⟨bl, k * 4 + 2, none⟩ = some q2 ∧ W2.cell? ⟨bl, k * 4 + 3, none⟩ = some q3) ∧ W2.frozen? ⟨bl, k * 4, none⟩ = false ∧ W2.frozen? ⟨bl, k * 4 + 1, none⟩ = false ∧ W2.frozen? ⟨bl, k * 4 + 2, none⟩ = false ∧ W2.frozen? ⟨bl, k * 4 + 3, none⟩ = false) := fun W2 b => by
          have b' : Below W1.heap.size W1 W2 := (Below.refl _ _).drew.trans b
          have sp2 := sp1.bel b'
          obtain ⟨cur, hc, hs⟩ := sp2.row (by omega)
          obtain ⟨⟨q0, r0⟩, z0⟩ := row_cells hc hs (j := k * 4) (by omega)
          obtain ⟨⟨q1, r1⟩, z1⟩ := row_cells hc hs (j := k * 4 + 1) (by omega)
          obtain ⟨⟨q2, r2⟩, z2⟩ := row_cells hc hs (j := k * 4 + 2) (by omega)
          obtain ⟨⟨q3, r3⟩, z3⟩ := row_cells hc hs (j := k * 4 + 3) (by omega)
          exact ⟨sp2, X1.bel b', ⟨q0, q1, q2, q3, r0, r1, r2, r3⟩, z0, z1, z2, z3⟩
        have XD : Bx W1.drew w.heap.size x (some ⟨bl, 0, none⟩) x.ks.length := ⟨X1.h⟩
        obtain ⟨_, _, _, e0⟩ := XD.cs
        obtain ⟨_, _, _, e1⟩ := X1.cs
        clear sp1
        go_region_law (refine step_call1 (by rfl) 8 _ _ (by rfl) (.int .i64 78) (by rfl) (enters_of Tryd.func8 (by kernel_rfl) rfl) (num_b 78 _) ?_
                       rintro e W2 ⟨rfl, b2⟩
                       refine ⟨_, rfl, ?_⟩
                       obtain ⟨sp2, X2, ⟨q0, q1, q2, q3, r0, r1, r2, r3⟩, z0, z1, z2, z3⟩ := aft.out _ b2
                       obtain ⟨_, _, _, e2⟩ := X2.cs)
        all_goals
          have sp3 := SS sp2 (.int .i64 1) (.string ⟨#[]⟩) (.int .i64 78) (.slice none 0 0)
          have X3 : Bx ((((W2.setCell ⟨bl, k * 4, none⟩ (.int .i64 1)).setCell ⟨bl, k * 4 + 1, none⟩ (.string ⟨#[]⟩)).setCell ⟨bl, k * 4 + 2, none⟩ (.int .i64 78)).setCell ⟨bl, k * 4 + 3, none⟩ (.slice none 0 0)) w.heap.size x (some ⟨bl, 0, none⟩) x.ks.length := ⟨(set4_other _ _ _ _ (by omega)).trans X2.h⟩
          clear r0 r1 r2 r3 z0 z1 z2 z3 e0 e1 e2 sp2 X2 X1 XD aft b2 SS
          go_wp2
          go_roundg (gk - 1)
          case rel => exact ⟨k + 1, by simp, by have := hk.out; show _ = _; omega, sp3, X3⟩
          case measure => have := hk.out; omega
      · have hkl' : k = x.ks.length := by omega
        subst hkl'
        have own0 : ∃ xs, wr.ownsRow 0 24 4 (.slice ax x.ks.length x.ks.length) x.ks.length xs := by
          by_cases hn : 0 < x.ks.length
          · obtain ⟨rfl, _, _⟩ := px hn
            obtain ⟨cur, hc, hs⟩ := sp.row hn
            exact ⟨cur.toList.take (x.ks.length * 4), by simp [hs], Or.inr ⟨bl, _, cur, rfl, Nat.zero_le _, hc, Nat.le_refl _, by unfold maxLen; omega, hs, rfl⟩⟩
          · have h0 : x.ks.length = 0 := by omega
            obtain rfl := px0 h0
            rw [h0]
            exact ⟨[], World.ownsRow_nil ..⟩
        obtain ⟨xs, own⟩ := own0
        have hg0 : ∀ g, (Value.slice ax x.ks.length x.ks.length).ownBlock = some g → g < w.heap.size → S g := fun g e hl => by
          by_cases hn : 0 < x.ks.length
          · obtain ⟨rfl, hSb, _⟩ := px hn
            obtain rfl : bl = g := by simpa [Value.ownBlock] using e
            exact hSb
          · obtain rfl := px0 (by omega)
            cases e
        have but := sp.but
        clear px px0 sp hkl hkk ih
        go_wp2
        go_loopg [3, 4] 5 (fun gj v3 v4 wj => ∃ (j : Nat) (xs : List Value), v4 = .int .i64 (j : Nat) ∧ Hid (gj + j = 5) ∧ wj.ownsRow 0 24 4 v3 (x.ks.length + j) xs ∧ But S w wj ∧ Hid (∀ g, v3.ownBlock = some g → g < w.heap.size → S g))
        case atStart => exact ⟨0, xs, rfl, by simp [Hid], own, but, hg0⟩
        case round =>
          clear own but hg0
          obtain ⟨j, ys, rfl, hj, own, but, hg⟩ := hrel
          have hj5 : j ≤ 5 := by have := hj.out; omega
          by_cases hjl : j < 5
          · have lb := but.size
            go_wp2_with (first
              | (go_at_call 8; refine (num_b 79 _).mono ?_; rintro e W1 ⟨rfl, b1⟩; have own1 := row_bel own b1; have lb1 := b1.size)
              | (at_builtin; refine wpList_append_lies _ (by rfl) _ _ _ (by rfl) 0 24 i0 _ 4 56 Tryd.underlying22 hi0 hz0 hz1 hz2 rfl (by omega) _ (x.ks.length + j) ys (by rfl) (own1.alloc _) ⟨W1.heap.size, 0, none⟩ 1 1 [.int .i64 1, .string ⟨#[]⟩, .int .i64 79, .slice none 0 0] (by rfl) (by rfl) (World.news_of_block (cs := #[.int .i64 1, .string ⟨#[]⟩, .int .i64 79, .slice none 0 0]) (t := 24) (fr := (0, 0)) (hnew _ rfl)) (by simp [Value.oneCell']) (by omega) (by unfold maxLen; omega) (by omega) (by omega) (W1.heap.size + 1) (by simp) ?_; intro gg cap W3 hown3 hgrow hat hlt3))
            have but3 := ((but.then b1).then (bel_a _ _)).grown hgrow (fun g e hl => hg.out g e hl)
            have hg3 : Hid (∀ g, (Value.slice (some ⟨gg, 0, none⟩) (x.ks.length + j + 1) cap).ownBlock = some g → g < w.heap.size → S g) := fun g e hl => by
              obtain rfl : gg = g := by simpa [Value.ownBlock] using e
              rcases hat with e | e
              · exact hg.out _ e hl
              · omega
            clear hgrow own1 b1 hat hlt3
            go_roundg (gk - 1)
            case rel => exact ⟨j + 1, _, by simp, by have := hj.out; show _ = _; omega, hown3, but3, hg3⟩
            case measure => have := hj.out; omega
          · have hj5' : j = 5 := by omega
            subst hj5'
            go_wp2
            go_end0
            exact ⟨rfl, but⟩
end Go.Proofs.YtggahoefbcnaiabDoor
namespace Go.Proofs.YtggahoefbcnaiabDoor.Own
open Go.RowKit
set_option linter.unusedVariables false
set_option linter.unusedSimpArgs false

/-- an operation that only yields. -/
theorem step_val {ops : Array Oper} {o : Oper} {a : Act} {w : World} {K : Act → World → Prop} {Q : Exit → Act → World → Prop} {E : Prop} (hg : o.guard = none) (v : Value) (hr : (execOp a.eval o).run Tryd.prog w = .ok (.value v) w) (h : K (a.put o.dst v) w) :
    if Region.wanted o (yielded ops a.tmps) = true then Oper.wp Tryd.prog o a w K Q else E := by
  have hw : Region.wanted o (yielded ops a.tmps) = true := by simp [Region.wanted, hg]
  rw [if_pos hw]
  unfold Oper.wp
  rw [hr, Oper.upon_value]
  exact h
def ops1 : Array Oper := #[{ dst := some 17, op := .load 24 (.tmp 2), type := 24, pos := "law.go:124", after := #[], guard := none },
  { dst := some 18, op := .call { callee := .value (.func 4), args := #[.tmp 17], argTypes := #[24] }, type := 24, pos := "law.go:124", after := #[{ on := 0, ground := .data }], guard := none },
  { dst := some 19, op := .load 24 (.tmp 2), type := 24, pos := "law.go:124", after := #[], guard := none },
  { dst := some 20, op := .call { callee := .value (.func 4), args := #[.tmp 19], argTypes := #[24] }, type := 24, pos := "law.go:124", after := #[{ on := 2, ground := .data }, { on := 1, ground := .chain }], guard := none },
  { dst := some 5, op := .alloc 24, type := 0, pos := "law.go:124", after := #[], guard := none },
  { dst := some 6, op := .alloc 24, type := 0, pos := "law.go:124", after := #[], guard := none },
  { dst := none, op := .store 24 (.tmp 5) (.tmp 18), type := 0, pos := "law.go:124", after := #[{ on := 4, ground := .data }, { on := 1, ground := .data }, { on := 3, ground := .chain }, { on := 0, ground := .phase }, { on := 1, ground := .phase }, { on := 2, ground := .textOnly .lateStores }, { on := 3, ground := .textOnly .lateStoresUnsure }, { on := 4, ground := .phase }, { on := 5, ground := .phase }], guard := none },
  { dst := none, op := .store 24 (.tmp 6) (.tmp 20), type := 0, pos := "law.go:124", after := #[{ on := 5, ground := .data }, { on := 3, ground := .data }, { on := 6, ground := .chain }, { on := 0, ground := .phase }, { on := 1, ground := .phase }, { on := 2, ground := .phase }, { on := 3, ground := .phase }, { on := 4, ground := .phase }, { on := 5, ground := .phase }, { on := 6, ground := .phase }], guard := none }]
def fr1 (v0 v1 v2 u5 u6 u17 u18 u19 u20 : Value) : Act := { tmps := #[v0, v1, v2, undef, .bool false, u5, u6, undef, undef, undef, undef, undef, undef, undef, undef, undef, undef, u17, u18, u19, u20, undef, undef, undef, undef, undef, undef, undef, undef, undef, undef, undef, undef, undef, undef, undef, undef, undef, undef, undef, undef, undef, undef, undef, undef, undef, undef, undef, undef, undef, undef, undef, undef, undef, undef, undef, undef, undef, undef, undef, undef, undef, undef, undef, undef, undef, undef, undef, undef, undef, undef, undef, undef, undef, undef, undef, undef, undef, undef, undef, undef, undef, undef, undef, undef, undef, undef, undef], defers := [] }
/-- what holds when these operations are done. -/
structure FF (W0 : World) (x : Nd) (X : Value) (b0 b1 b2 b3 b4 b5 b6 b7 : Bool) (u5 u6 u17 u18 u19 u20 : Value) (a a' : Option Addr) (c c' p q : Nat) (Sa Sb : Nat → Prop) (W : World) : Prop where
  bel : Below W0.heap.size W0 W
  h0 : b0 = true → u17 = X
  h2 : b2 = true → u19 = X
  h1 : b1 = true → u18 = (.agg #[.int .i64 x.k, .string x.t, .int .i64 x.n, .slice a x.ks.length c]) ∧ Sep W Sa (.slice a x.ks.length c) x.ks ∧ (∀ j, Sa j → W0.heap.size ≤ j ∧ j < W.heap.size ∧ (b4 = true → j ≠ p) ∧ (b5 = true → j ≠ q))
  h3 : b3 = true → u20 = (.agg #[.int .i64 x.k, .string x.t, .int .i64 x.n, .slice a' x.ks.length c']) ∧ Sep W Sb (.slice a' x.ks.length c') x.ks ∧ (∀ j, Sb j → W0.heap.size ≤ j ∧ j < W.heap.size ∧ (b4 = true → j ≠ p) ∧ (b5 = true → j ≠ q))
  h4 : b4 = true → u5 = .pointer (some ⟨p, 0, none⟩) ∧ W0.heap.size ≤ p ∧ p < W.heap.size ∧ (b6 = false → W.heap[p]? = some cellsZ) ∧ (b6 = true → Bx W p x a c)
  h5 : b5 = true → u6 = .pointer (some ⟨q, 0, none⟩) ∧ W0.heap.size ≤ q ∧ q < W.heap.size ∧ (b7 = false → W.heap[q]? = some cellsZ) ∧ (b7 = true → Bx W q x a' c')
  h45 : b4 = true → b5 = true → p ≠ q
  h13 : b3 = true → b1 = true ∧ b2 = true ∧ ∀ j, Sa j → ¬ Sb j
  h6 : b6 = true → b0 = true ∧ b1 = true ∧ b2 = true ∧ b3 = true ∧ b4 = true ∧ b5 = true
  h7 : b7 = true → b0 = true ∧ b1 = true ∧ b2 = true ∧ b3 = true ∧ b4 = true ∧ b5 = true
theorem FF.grow {W0 W W' : World} {x : Nd} {X : Value} {b0 b1 b2 b3 b4 b5 b6 b7 : Bool} {u5 u6 u17 u18 u19 u20 : Value} {a a' : Option Addr} {c c' p q : Nat} {Sa Sb : Nat → Prop} (h : FF W0 x X b0 b1 b2 b3 b4 b5 b6 b7 u5 u6 u17 u18 u19 u20 a a' c c' p q Sa Sb W) (b : Below W.heap.size W W') : FF W0 x X b0 b1 b2 b3 b4 b5 b6 b7 u5 u6 u17 u18 u19 u20 a a' c c' p q Sa Sb W' := by
  have bs := b.size
  refine ⟨h.bel.trans (b.mono h.bel.size), h.h0, h.h2, fun e => ?_, fun e => ?_, fun e => ?_, fun e => ?_, h.h45, h.h13, h.h6, h.h7⟩
  · obtain ⟨e1, l, i⟩ := h.h1 e
    exact ⟨e1, l.keep (fun j _ hj => b.block j hj), fun j hj => ⟨(i j hj).1, by have := (i j hj).2.1; omega, (i j hj).2.2⟩⟩
  · obtain ⟨e1, l, i⟩ := h.h3 e
    exact ⟨e1, l.keep (fun j _ hj => b.block j hj), fun j hj => ⟨(i j hj).1, by have := (i j hj).2.1; omega, (i j hj).2.2⟩⟩
  · obtain ⟨e1, h1, h2, h3, h4⟩ := h.h4 e
    exact ⟨e1, h1, by omega, fun e => (b.block p h2).trans (h3 e), fun e => (h4 e).bel b⟩
  · obtain ⟨e1, h1, h2, h3, h4⟩ := h.h5 e
    exact ⟨e1, h1, by omega, fun e => (b.block q h2).trans (h3 e), fun e => (h4 e).bel b⟩
theorem FF.call_x {W0 W W' : World} {x : Nd} {X : Value} {b0 b2 b3 b4 b5 b6 b7 : Bool} {u5 u6 u17 u18 u19 u20 : Value} {a a' : Option Addr} {c c' p q : Nat} {Sa Sb : Nat → Prop} (h : FF W0 x X b0 false b2 b3 b4 b5 b6 b7 u5 u6 u17 u18 u19 u20 a a' c c' p q Sa Sb W) (b : Below W.heap.size W W') {a1 : Option Addr} {c1 : Nat} (l : Sep W' (fun b => W.heap.size ≤ b ∧ b < W'.heap.size) (.slice a1 x.ks.length c1) x.ks) :
    FF W0 x X b0 true b2 b3 b4 b5 b6 b7 u5 u6 u17 (.agg #[.int .i64 x.k, .string x.t, .int .i64 x.n, .slice a1 x.ks.length c1]) u19 u20 a1 a' c1 c' p q (fun b => W.heap.size ≤ b ∧ b < W'.heap.size) Sb W' := by
  have g := h.grow b
  have bs := h.bel.size
  have n3 : b3 = false := by
    cases h3 : b3 with
    | false => rfl
    | true => have := (h.h13 h3).1; cases this
  subst n3
  have n6 : b6 = false := by
    cases h6 : b6 with
    | false => rfl
    | true => have := (h.h6 h6).2.1; cases this
  have n7 : b7 = false := by
    cases h7 : b7 with
    | false => rfl
    | true => have := (h.h7 h7).2.1; cases this
  subst n6
  subst n7
  refine ⟨g.bel, g.h0, g.h2, fun _ => ⟨rfl, l, fun j hj => ⟨by omega, hj.2, fun e => ?_, fun e => ?_⟩⟩, g.h3, fun e => ?_, g.h5, g.h45, fun e => (by cases e), fun e => (by cases e), fun e => (by cases e)⟩
  · have := (h.h4 e).2.2.1; have := hj.1; omega
  · have := (h.h5 e).2.2.1; have := hj.1; omega
  · obtain ⟨e1, h1, h2, h3, h4⟩ := g.h4 e
    exact ⟨e1, h1, h2, h3, fun e => (by cases e)⟩
theorem FF.call_m {W0 W W' : World} {x : Nd} {X : Value} {b0 b4 b5 b6 b7 : Bool} {u5 u6 u17 u18 u19 u20 : Value} {a a' : Option Addr} {c c' p q : Nat} {Sa Sb : Nat → Prop} (h : FF W0 x X b0 true true false b4 b5 b6 b7 u5 u6 u17 u18 u19 u20 a a' c c' p q Sa Sb W) (b : Below W.heap.size W W') {a1 : Option Addr} {c1 : Nat} (l : Sep W' (fun b => W.heap.size ≤ b ∧ b < W'.heap.size) (.slice a1 x.ks.length c1) x.ks) :
    FF W0 x X b0 true true true b4 b5 b6 b7 u5 u6 u17 u18 u19 (.agg #[.int .i64 x.k, .string x.t, .int .i64 x.n, .slice a1 x.ks.length c1]) a a1 c c1 p q Sa (fun b => W.heap.size ≤ b ∧ b < W'.heap.size) W' := by
  have g := h.grow b
  have bs := h.bel.size
  have n6 : b6 = false := by
    cases h6 : b6 with
    | false => rfl
    | true => have := (h.h6 h6).2.2.2.1; cases this
  have n7 : b7 = false := by
    cases h7 : b7 with
    | false => rfl
    | true => have := (h.h7 h7).2.2.2.1; cases this
  subst n6
  subst n7
  refine ⟨g.bel, g.h0, g.h2, g.h1, fun _ => ⟨rfl, l, fun j hj => ⟨by omega, hj.2, fun e => ?_, fun e => ?_⟩⟩, g.h4, fun e => ?_, g.h45, fun e => ⟨rfl, rfl, fun j hj hn => ?_⟩, fun e => (by cases e), fun e => (by cases e)⟩
  · have := (h.h4 e).2.2.1; have := hj.1; omega
  · have := (h.h5 e).2.2.1; have := hj.1; omega
  · obtain ⟨e1, h1, h2, h3, h4⟩ := g.h5 e
    exact ⟨e1, h1, h2, h3, fun e => (by cases e)⟩
  · have := ((h.h1 rfl).2.2 j hj).2.1; have := hn.1; omega
theorem FF.alloc_p {W0 W W' : World} {x : Nd} {X : Value} {b0 b1 b2 b3 b5 b6 b7 : Bool} {u5 u6 u17 u18 u19 u20 : Value} {a a' : Option Addr} {c c' p q : Nat} {Sa Sb : Nat → Prop} (h : FF W0 x X b0 b1 b2 b3 false b5 b6 b7 u5 u6 u17 u18 u19 u20 a a' c c' p q Sa Sb W) {p1 : Nat} (hp : p1 = W.heap.size ∧ W'.heap.size = W.heap.size + 1) (hz : W'.heap[p1]? = some cellsZ) (b : Below W.heap.size W W') :
    FF W0 x X b0 b1 b2 b3 true b5 b6 b7 (.pointer (some ⟨p1, 0, none⟩)) u6 u17 u18 u19 u20 a a' c c' p1 q Sa Sb W' := by
  have g := h.grow b
  have n6 : b6 = false := by
    cases h6 : b6 with
    | false => rfl
    | true => have := (h.h6 h6).2.2.2.2.1; cases this
  have n7 : b7 = false := by
    cases h7 : b7 with
    | false => rfl
    | true => have := (h.h7 h7).2.2.2.2.1; cases this
  subst n6
  subst n7
  obtain ⟨rfl, hs⟩ := hp
  have hw := h.bel.size
  refine ⟨g.bel, g.h0, g.h2, fun e => ?_, fun e => ?_, fun e => ⟨rfl, hw, by omega, fun _ => hz, fun e => (by cases e)⟩, g.h5, fun _ e5 => ?_, g.h13, fun e => (by cases e), fun e => (by cases e)⟩
  · obtain ⟨e1, l, i⟩ := g.h1 e
    exact ⟨e1, l, fun j hj => ⟨(i j hj).1, (i j hj).2.1, fun _ => by have := ((h.h1 e).2.2 j hj).2.1; omega, (i j hj).2.2.2⟩⟩
  · obtain ⟨e1, l, i⟩ := g.h3 e
    exact ⟨e1, l, fun j hj => ⟨(i j hj).1, (i j hj).2.1, fun _ => by have := ((h.h3 e).2.2 j hj).2.1; omega, (i j hj).2.2.2⟩⟩
  · have := (h.h5 e5).2.2.1; omega
theorem FF.alloc_q {W0 W W' : World} {x : Nd} {X : Value} {b0 b1 b2 b3 b4 b6 b7 : Bool} {u5 u6 u17 u18 u19 u20 : Value} {a a' : Option Addr} {c c' p q : Nat} {Sa Sb : Nat → Prop} (h : FF W0 x X b0 b1 b2 b3 b4 false b6 b7 u5 u6 u17 u18 u19 u20 a a' c c' p q Sa Sb W) {p1 : Nat} (hp : p1 = W.heap.size ∧ W'.heap.size = W.heap.size + 1) (hz : W'.heap[p1]? = some cellsZ) (b : Below W.heap.size W W') :
    FF W0 x X b0 b1 b2 b3 b4 true b6 b7 u5 (.pointer (some ⟨p1, 0, none⟩)) u17 u18 u19 u20 a a' c c' p p1 Sa Sb W' := by
  have g := h.grow b
  have n6 : b6 = false := by
    cases h6 : b6 with
    | false => rfl
    | true => have := (h.h6 h6).2.2.2.2.2; cases this
  have n7 : b7 = false := by
    cases h7 : b7 with
    | false => rfl
    | true => have := (h.h7 h7).2.2.2.2.2; cases this
  subst n6
  subst n7
  obtain ⟨rfl, hs⟩ := hp
  have hw := h.bel.size
  refine ⟨g.bel, g.h0, g.h2, fun e => ?_, fun e => ?_, g.h4, fun e => ⟨rfl, hw, by omega, fun _ => hz, fun e => (by cases e)⟩, fun e4 _ => ?_, g.h13, fun e => (by cases e), fun e => (by cases e)⟩
  · obtain ⟨e1, l, i⟩ := g.h1 e
    exact ⟨e1, l, fun j hj => ⟨(i j hj).1, (i j hj).2.1, (i j hj).2.2.1, fun _ => by have := ((h.h1 e).2.2 j hj).2.1; omega⟩⟩
  · obtain ⟨e1, l, i⟩ := g.h3 e
    exact ⟨e1, l, fun j hj => ⟨(i j hj).1, (i j hj).2.1, (i j hj).2.2.1, fun _ => by have := ((h.h3 e).2.2 j hj).2.1; omega⟩⟩
  · have := (h.h4 e4).2.2.1; omega
theorem FF.store_p {W0 W W' : World} {x : Nd} {X : Value} {b7 : Bool} {u5 u6 u17 u18 u19 u20 : Value} {a a' : Option Addr} {c c' p q : Nat} {Sa Sb : Nat → Prop} (h : FF W0 x X true true true true true true false b7 u5 u6 u17 u18 u19 u20 a a' c c' p q Sa Sb W) (hs : W'.heap.size = W.heap.size ∧ p < W.heap.size) (hz : W'.heap[p]? = some (cellsN x a c)) (hb : ∀ n W0, Below n W0 W → n ≤ p → Below n W0 W') (ho : ∀ j, j ≠ p → W'.heap[j]? = W.heap[j]?) :
    FF W0 x X true true true true true true true b7 u5 u6 u17 u18 u19 u20 a a' c c' p q Sa Sb W' := by
  obtain ⟨e1, k1, k2, k3, k4⟩ := h.h4 rfl
  refine ⟨hb _ _ h.bel k1, h.h0, h.h2, fun e => ?_, fun e => ?_, fun _ => ⟨e1, k1, by omega, fun e => (by cases e), fun _ => ⟨hz⟩⟩, fun e => ?_, h.h45, h.h13, fun _ => ⟨rfl, rfl, rfl, rfl, rfl, rfl⟩, h.h7⟩
  · obtain ⟨e1, l, i⟩ := h.h1 e
    exact ⟨e1, l.keep (fun j hj hl => ho j ((i j hj).2.2.1 rfl)), fun j hj => ⟨(i j hj).1, by have := (i j hj).2.1; omega, (i j hj).2.2⟩⟩
  · obtain ⟨e1, l, i⟩ := h.h3 e
    exact ⟨e1, l.keep (fun j hj hl => ho j ((i j hj).2.2.1 rfl)), fun j hj => ⟨(i j hj).1, by have := (i j hj).2.1; omega, (i j hj).2.2⟩⟩
  · obtain ⟨e2, g1, g2, g3, g4⟩ := h.h5 e
    have hqp : q ≠ p := fun e => h.h45 rfl rfl e.symm
    exact ⟨e2, g1, by omega, fun e => (ho _ hqp).trans (g3 e), fun e => ⟨(ho _ hqp).trans (g4 e).h⟩⟩
theorem FF.store_q {W0 W W' : World} {x : Nd} {X : Value} {b6 : Bool} {u5 u6 u17 u18 u19 u20 : Value} {a a' : Option Addr} {c c' p q : Nat} {Sa Sb : Nat → Prop} (h : FF W0 x X true true true true true true b6 false u5 u6 u17 u18 u19 u20 a a' c c' p q Sa Sb W) (hs : W'.heap.size = W.heap.size ∧ q < W.heap.size) (hz : W'.heap[q]? = some (cellsN x a' c')) (hb : ∀ n W0, Below n W0 W → n ≤ q → Below n W0 W') (ho : ∀ j, j ≠ q → W'.heap[j]? = W.heap[j]?) :
    FF W0 x X true true true true true true b6 true u5 u6 u17 u18 u19 u20 a a' c c' p q Sa Sb W' := by
  obtain ⟨e1, k1, k2, k3, k4⟩ := h.h5 rfl
  refine ⟨hb _ _ h.bel k1, h.h0, h.h2, fun e => ?_, fun e => ?_, fun e => ?_, fun _ => ⟨e1, k1, by omega, fun e => (by cases e), fun _ => ⟨hz⟩⟩, h.h45, h.h13, h.h6, fun _ => ⟨rfl, rfl, rfl, rfl, rfl, rfl⟩⟩
  · obtain ⟨e1, l, i⟩ := h.h1 e
    exact ⟨e1, l.keep (fun j hj hl => ho j ((i j hj).2.2.2 rfl)), fun j hj => ⟨(i j hj).1, by have := (i j hj).2.1; omega, (i j hj).2.2⟩⟩
  · obtain ⟨e1, l, i⟩ := h.h3 e
    exact ⟨e1, l.keep (fun j hj hl => ho j ((i j hj).2.2.2 rfl)), fun j hj => ⟨(i j hj).1, by have := (i j hj).2.1; omega, (i j hj).2.2⟩⟩
  · obtain ⟨e2, g1, g2, g3, g4⟩ := h.h4 e
    have hqp : p ≠ q := fun e => h.h45 rfl rfl e
    exact ⟨e2, g1, by omega, fun e => (ho _ hqp).trans (g3 e), fun e => ⟨(ho _ hqp).trans (g4 e).h⟩⟩
theorem rdy1 : ∀ b0 b1 b2 b3 b4 b5 b6 b7 : Bool, 1 ∈ Region.ready .any ops1 #[b0, b1, b2, b3, b4, b5, b6, b7] → b1 = false ∧ b0 = true := by decide +kernel
theorem rdy3 : ∀ b0 b1 b2 b3 b4 b5 b6 b7 : Bool, 3 ∈ Region.ready .any ops1 #[b0, b1, b2, b3, b4, b5, b6, b7] → b3 = false ∧ b2 = true ∧ b1 = true := by decide +kernel
theorem rdy4 : ∀ b0 b1 b2 b3 b4 b5 b6 b7 : Bool, 4 ∈ Region.ready .any ops1 #[b0, b1, b2, b3, b4, b5, b6, b7] → b4 = false := by decide +kernel
theorem rdy5 : ∀ b0 b1 b2 b3 b4 b5 b6 b7 : Bool, 5 ∈ Region.ready .any ops1 #[b0, b1, b2, b3, b4, b5, b6, b7] → b5 = false := by decide +kernel
theorem rdy6' : ∀ b0 b1 b2 b3 b4 b5 b6 b7 : Bool, 6 ∈ Region.ready .any ops1 #[b0, b1, b2, b3, b4, b5, b6, b7] → (!b6 && b0 && b1 && b3 && b4 && b5) = true := by decide +kernel
theorem rdy6 (b0 b1 b2 b3 b4 b5 b6 b7 : Bool) (h : 6 ∈ Region.ready .any ops1 #[b0, b1, b2, b3, b4, b5, b6, b7]) : b6 = false ∧ b0 = true ∧ b1 = true ∧ b3 = true ∧ b4 = true ∧ b5 = true := by simpa [and_assoc] using rdy6' b0 b1 b2 b3 b4 b5 b6 b7 h
theorem rdy7' : ∀ b0 b1 b2 b3 b4 b5 b6 b7 : Bool, 7 ∈ Region.ready .any ops1 #[b0, b1, b2, b3, b4, b5, b6, b7] → (!b7 && b0 && b1 && b2 && b3 && b4 && b5) = true := by decide +kernel
theorem rdy7 (b0 b1 b2 b3 b4 b5 b6 b7 : Bool) (h : 7 ∈ Region.ready .any ops1 #[b0, b1, b2, b3, b4, b5, b6, b7]) : b7 = false ∧ b0 = true ∧ b1 = true ∧ b2 = true ∧ b3 = true ∧ b4 = true ∧ b5 = true := by simpa [and_assoc] using rdy7' b0 b1 b2 b3 b4 b5 b6 b7 h
theorem rdyN' : ∀ b0 b1 b2 b3 b4 b5 b6 b7 : Bool, Region.ready .any ops1 #[b0, b1, b2, b3, b4, b5, b6, b7] = [] → (b0 && b1 && b2 && b3 && b4 && b5 && b6 && b7) = true := by decide +kernel
theorem rdyN (b0 b1 b2 b3 b4 b5 b6 b7 : Bool) (h : Region.ready .any ops1 #[b0, b1, b2, b3, b4, b5, b6, b7] = []) : b0 = true ∧ b1 = true ∧ b2 = true ∧ b3 = true ∧ b4 = true ∧ b5 = true ∧ b6 = true ∧ b7 = true := by simpa [and_assoc] using rdyN' b0 b1 b2 b3 b4 b5 b6 b7 h
/-- what the two copies leave. -/
structure TwoS (W0 : World) (x : Nd) (p q : Nat) (a : Option Addr) (c : Nat) (a' : Option Addr) (c' : Nat) (Sa Sb : Nat → Prop) (W : World) : Prop where
  hp : Bx W p x a c
  hq : Bx W q x a' c'
  la : Sep W Sa (.slice a x.ks.length c) x.ks
  lb : Sep W Sb (.slice a' x.ks.length c') x.ks
  bel : Below W0.heap.size W0 W
  sa : ∀ j, Sa j → W0.heap.size ≤ j ∧ j < W.heap.size ∧ j ≠ p ∧ j ≠ q
  sab : ∀ j, Sa j → ¬ Sb j

set_option maxRecDepth 100000 in
set_option maxHeartbeats 4000000 in
theorem copies (x : Nd) (ax : Option Addr) (cx px : Nat) (v0 v1 : Value) (W0 : World) (X0 : Bx W0 px x ax cx)
    (CX : ∀ W, Below W0.heap.size W0 W → Calls Tryd.prog 4 #[(.agg #[.int .i64 x.k, .string x.t, .int .i64 x.n, .slice ax x.ks.length cx])] W fun e w' => ∃ a c, e = .returned (.agg #[.int .i64 x.k, .string x.t, .int .i64 x.n, .slice a x.ks.length c]) ∧ Sep w' (fun b => W.heap.size ≤ b ∧ b < w'.heap.size) (.slice a x.ks.length c) x.ks ∧ Below W.heap.size W w')
    {Q : Exit → Act → World → Prop} (hQ : ∀ p q a c a' c' Sa Sb W, TwoS W0 x p q a c a' c' Sa Sb W → Q .normal (fr1 v0 v1 (.pointer (some ⟨px, 0, none⟩)) (.pointer (some ⟨p, 0, none⟩)) (.pointer (some ⟨q, 0, none⟩)) (.agg #[.int .i64 x.k, .string x.t, .int .i64 x.n, .slice ax x.ks.length cx]) (.agg #[.int .i64 x.k, .string x.t, .int .i64 x.n, .slice a x.ks.length c]) (.agg #[.int .i64 x.k, .string x.t, .int .i64 x.n, .slice ax x.ks.length cx]) (.agg #[.int .i64 x.k, .string x.t, .int .i64 x.n, .slice a' x.ks.length c'])) W) :
    (Code.region 1 ops1 true).wp Tryd.prog Q (fr1 v0 v1 (.pointer (some ⟨px, 0, none⟩)) undef undef undef undef undef undef) W0 := by
  refine wp_region_any (by kernel_rfl) (wpAny_inv (fun listed A W => ∃ b0 b1 b2 b3 b4 b5 b6 b7 : Bool, ∃ u5 u6 u17 u18 u19 u20 a a' c c' p q Sa Sb, listed = #[b0, b1, b2, b3, b4, b5, b6, b7] ∧ A = fr1 v0 v1 (.pointer (some ⟨px, 0, none⟩)) u5 u6 u17 u18 u19 u20 ∧ FF W0 x (.agg #[.int .i64 x.k, .string x.t, .int .i64 x.n, .slice ax x.ks.length cx]) b0 b1 b2 b3 b4 b5 b6 b7 u5 u6 u17 u18 u19 u20 a a' c c' p q Sa Sb W) ?_ ?_ _ _ _ _ ?_ ?_)
  · rintro _ _ W i ⟨b0, b1, b2, b3, b4, b5, b6, b7, u5, u6, u17, u18, u19, u20, a, a', c, c', p, q, Sa, Sb, rfl, rfl, h⟩ hi K hK
    have hlt : i < 8 := (mem_ready hi).1
    obtain rfl | rfl | rfl | rfl | rfl | rfl | rfl | rfl : i = 0 ∨ i = 1 ∨ i = 2 ∨ i = 3 ∨ i = 4 ∨ i = 5 ∨ i = 6 ∨ i = 7 := by omega
    · refine wpOp_step rfl (fun K' hK' => step_load_nd rfl (.tmp 2) rfl px rfl x ax cx (X0.bel h.bel) (hK' _ _ (hK _ _ ⟨true, b1, b2, b3, b4, b5, b6, b7, u5, u6, _, u18, u19, u20, a, a', c, c', p, q, Sa, Sb, rfl, rfl, ⟨h.bel, fun _ => rfl, h.h2, h.h1, h.h3, h.h4, h.h5, h.h45, h.h13, fun e => ⟨rfl, (h.h6 e).2⟩, fun e => ⟨rfl, (h.h7 e).2⟩⟩⟩)))
    · obtain ⟨rfl, rfl⟩ := rdy1 _ _ _ _ _ _ _ _ hi
      obtain rfl := h.h0 rfl
      refine wpOp_step rfl (fun K' hK' => step_call1 rfl 4 (.tmp 17) _ rfl (.agg #[.int .i64 x.k, .string x.t, .int .i64 x.n, .slice ax x.ks.length cx]) rfl (enters_of Tryd.func4 (by kernel_rfl) rfl) (CX W h.bel) ?_)
      rintro e W' ⟨a1, c1, rfl, l, b⟩
      exact ⟨_, rfl, hK' _ _ (hK _ _ ⟨true, true, b2, b3, b4, b5, b6, b7, u5, u6, _, _, u19, u20, _, a', _, c', p, q, _, Sb, rfl, rfl, h.call_x b l⟩)⟩
    · refine wpOp_step rfl (fun K' hK' => step_load_nd rfl (.tmp 2) rfl px rfl x ax cx (X0.bel h.bel) (hK' _ _ (hK _ _ ⟨b0, b1, true, b3, b4, b5, b6, b7, u5, u6, u17, u18, _, u20, a, a', c, c', p, q, Sa, Sb, rfl, rfl, ⟨h.bel, h.h0, fun _ => rfl, h.h1, h.h3, h.h4, h.h5, h.h45, fun e => ⟨(h.h13 e).1, rfl, (h.h13 e).2.2⟩, fun e => ⟨(h.h6 e).1, (h.h6 e).2.1, rfl, (h.h6 e).2.2.2⟩, fun e => ⟨(h.h7 e).1, (h.h7 e).2.1, rfl, (h.h7 e).2.2.2⟩⟩⟩)))
    · obtain ⟨rfl, rfl, rfl⟩ := rdy3 _ _ _ _ _ _ _ _ hi
      obtain rfl := h.h2 rfl
      refine wpOp_step rfl (fun K' hK' => step_call1 rfl 4 (.tmp 19) _ rfl (.agg #[.int .i64 x.k, .string x.t, .int .i64 x.n, .slice ax x.ks.length cx]) rfl (enters_of Tryd.func4 (by kernel_rfl) rfl) (CX W h.bel) ?_)
      rintro e W' ⟨a1, c1, rfl, l, b⟩
      exact ⟨_, rfl, hK' _ _ (hK _ _ ⟨b0, true, true, true, b4, b5, b6, b7, u5, u6, u17, u18, _, _, a, _, c, _, p, q, Sa, _, rfl, rfl, h.call_m b l⟩)⟩
    · obtain rfl := rdy4 _ _ _ _ _ _ _ _ hi
      exact wpOp_step rfl (fun K' hK' => step_alloc_nd rfl 5 rfl rfl (fun p1 W' hp hz b => hK' _ _ (hK _ _ ⟨b0, b1, b2, b3, true, b5, b6, b7, _, u6, u17, u18, u19, u20, a, a', c, c', _, q, Sa, Sb, rfl, rfl, h.alloc_p hp.out hz b⟩)))
    · obtain rfl := rdy5 _ _ _ _ _ _ _ _ hi
      exact wpOp_step rfl (fun K' hK' => step_alloc_nd rfl 6 rfl rfl (fun p1 W' hp hz b => hK' _ _ (hK _ _ ⟨b0, b1, b2, b3, b4, true, b6, b7, u5, _, u17, u18, u19, u20, a, a', c, c', p, _, Sa, Sb, rfl, rfl, h.alloc_q hp.out hz b⟩)))
    · obtain ⟨rfl, rfl, rfl, rfl, rfl, rfl⟩ := rdy6 _ _ _ _ _ _ _ _ hi
      obtain rfl := (h.h13 rfl).2.1
      obtain ⟨rfl, _, _, hz, _⟩ := h.h4 rfl
      obtain ⟨rfl, _⟩ := h.h1 rfl
      exact wpOp_step rfl (fun K' hK' => step_store_nd rfl (.tmp 5) (.tmp 18) rfl p rfl x a c rfl (hz rfl) (fun W' hs hz' hb ho => hK' _ _ (hK _ _ ⟨true, true, true, true, true, true, true, b7, _, u6, u17, _, u19, u20, a, a', c, c', p, q, Sa, Sb, rfl, rfl, h.store_p hs.out hz' hb ho⟩)))
    · obtain ⟨rfl, rfl, rfl, rfl, rfl, rfl, rfl⟩ := rdy7 _ _ _ _ _ _ _ _ hi
      obtain ⟨rfl, _, _, hz, _⟩ := h.h5 rfl
      obtain ⟨rfl, _⟩ := h.h3 rfl
      exact wpOp_step rfl (fun K' hK' => step_store_nd rfl (.tmp 6) (.tmp 20) rfl q rfl x a' c' rfl (hz rfl) (fun W' hs hz' hb ho => hK' _ _ (hK _ _ ⟨true, true, true, true, true, true, b6, true, u5, _, u17, u18, u19, _, a, a', c, c', p, q, Sa, Sb, rfl, rfl, h.store_q hs.out hz' hb ho⟩)))
  · rintro _ _ W ⟨b0, b1, b2, b3, b4, b5, b6, b7, u5, u6, u17, u18, u19, u20, a, a', c, c', p, q, Sa, Sb, rfl, rfl, h⟩ hr
    obtain ⟨rfl, rfl, rfl, rfl, rfl, rfl, rfl, rfl⟩ := rdyN _ _ _ _ _ _ _ _ hr
    obtain rfl := h.h0 rfl
    obtain rfl := h.h2 rfl
    obtain ⟨rfl, l, i⟩ := h.h1 rfl
    obtain ⟨rfl, l', i'⟩ := h.h3 rfl
    obtain ⟨rfl, _, _, _, k4⟩ := h.h4 rfl
    obtain ⟨rfl, _, _, _, k5⟩ := h.h5 rfl
    exact hQ p q a c a' c' Sa Sb W ⟨k4 rfl, k5 rfl, l, l', h.bel, fun j hj => ⟨(i j hj).1, (i j hj).2.1, (i j hj).2.2.1 rfl, (i j hj).2.2.2 rfl⟩, (h.h13 rfl).2.2⟩
  · decide
  · exact ⟨false, false, false, false, false, false, false, false, undef, undef, undef, undef, undef, undef, none, none, 0, 0, 0, 0, fun _ => False, fun _ => False, rfl, rfl, ⟨(Below.refl _ _).drew, fun e => (by cases e), fun e => (by cases e), fun e => (by cases e), fun e => (by cases e), fun e => (by cases e), fun e => (by cases e), fun e => (by cases e), fun e => (by cases e), fun e => (by cases e), fun e => (by cases e)⟩⟩
end Go.Proofs.YtggahoefbcnaiabDoor.Own
namespace Go.Proofs.YtggahoefbcnaiabDoor.Own
open Go.RowKit
set_option linter.unusedVariables false
set_option linter.unusedSimpArgs false

/-- what holds when these operations are done. -/
structure RF (W0 : World) (z : Nd) (ok : Bool) (X I N5 : Value) (b0 b1 b2 b3 b4 b5 b6 b7 b8 b9 : Bool) (uL uI uN uR uM uE uF uP uK : Value) (a : Option Addr) (c p : Nat) (S : Nat → Prop) (W : World) : Prop where
  bel : Below W0.heap.size W0 W
  h0 : b0 = true → uL = X
  h1 : b1 = true → uI = I
  h2 : b2 = true → uN = N5
  h3 : b3 = true → uR = .tuple #[(.agg #[.int .i64 z.k, .string z.t, .int .i64 z.n, .slice a z.ks.length c]), .bool ok] ∧ Sep W S (.slice a z.ks.length c) z.ks ∧ (∀ j, S j → W0.heap.size ≤ j ∧ j < W.heap.size ∧ (b7 = true → j ≠ p))
  h4 : b4 = true → uM = .tuple #[(.agg #[.int .i64 z.k, .string z.t, .int .i64 z.n, .slice a z.ks.length c]), .bool ok]
  h5 : b5 = true → uE = (.agg #[.int .i64 z.k, .string z.t, .int .i64 z.n, .slice a z.ks.length c])
  h6 : b6 = true → uF = .bool ok
  h7 : b7 = true → uP = .pointer (some ⟨p, 0, none⟩) ∧ W0.heap.size ≤ p ∧ p < W.heap.size ∧ (b8 = false → W.heap[p]? = some cellsZ) ∧ (b8 = true → Bx W p z a c)
  h9 : b9 = true → uK = .bool ok
  o4 : b4 = true → b3 = true
  o5 : b5 = true → b4 = true
  o6 : b6 = true → b4 = true
  o8 : b8 = true → b7 = true ∧ b5 = true
theorem RF.grow {W0 W W' : World} {z : Nd} {ok : Bool} {X I N5 : Value} {b0 b1 b2 b3 b4 b5 b6 b7 b8 b9 : Bool} {uL uI uN uR uM uE uF uP uK : Value} {a : Option Addr} {c p : Nat} {S : Nat → Prop} (h : RF W0 z ok X I N5 b0 b1 b2 b3 b4 b5 b6 b7 b8 b9 uL uI uN uR uM uE uF uP uK a c p S W) (b : Below W.heap.size W W') : RF W0 z ok X I N5 b0 b1 b2 b3 b4 b5 b6 b7 b8 b9 uL uI uN uR uM uE uF uP uK a c p S W' := by
  have bs := b.size
  refine ⟨h.bel.trans (b.mono h.bel.size), h.h0, h.h1, h.h2, fun e => ?_, h.h4, h.h5, h.h6, fun e => ?_, h.h9, h.o4, h.o5, h.o6, h.o8⟩
  · obtain ⟨e1, l, i⟩ := h.h3 e
    exact ⟨e1, l.keep (fun j _ hj => b.block j hj), fun j hj => ⟨(i j hj).1, by have := (i j hj).2.1; omega, (i j hj).2.2⟩⟩
  · obtain ⟨e1, h1, h2, h3, h4⟩ := h.h7 e
    exact ⟨e1, h1, by omega, fun e => (b.block p h2).trans (h3 e), fun e => (h4 e).bel b⟩
theorem RF.call {W0 W W' : World} {z : Nd} {ok : Bool} {X I N5 : Value} {b0 b1 b2 b4 b5 b6 b7 b8 b9 : Bool} {uL uI uN uR uM uE uF uP uK : Value} {a : Option Addr} {c p : Nat} {S : Nat → Prop} (h : RF W0 z ok X I N5 b0 b1 b2 false b4 b5 b6 b7 b8 b9 uL uI uN uR uM uE uF uP uK a c p S W) (b : Below W.heap.size W W') {a1 : Option Addr} {c1 : Nat} (l : Sep W' (fun b => W.heap.size ≤ b ∧ b < W'.heap.size) (.slice a1 z.ks.length c1) z.ks) :
    RF W0 z ok X I N5 b0 b1 b2 true b4 b5 b6 b7 b8 b9 uL uI uN (.tuple #[(.agg #[.int .i64 z.k, .string z.t, .int .i64 z.n, .slice a1 z.ks.length c1]), .bool ok]) uM uE uF uP uK a1 c1 p (fun b => W.heap.size ≤ b ∧ b < W'.heap.size) W' := by
  have g := h.grow b
  have bs := h.bel.size
  have n4 : b4 = false := by
    cases h4 : b4 with
    | false => rfl
    | true => have := h.o4 h4; cases this
  subst n4
  have n5 : b5 = false := by
    cases h5 : b5 with
    | false => rfl
    | true => have := h.o5 h5; cases this
  subst n5
  have n8 : b8 = false := by
    cases h8 : b8 with
    | false => rfl
    | true => have := (h.o8 h8).2; cases this
  subst n8
  refine ⟨g.bel, g.h0, g.h1, g.h2, fun _ => ⟨rfl, l, fun j hj => ⟨by omega, hj.2, fun e => ?_⟩⟩, fun e => (by cases e), fun e => (by cases e), g.h6, fun e => ?_, g.h9, fun _ => rfl, g.o5, g.o6, g.o8⟩
  · have := (h.h7 e).2.2.1; have := hj.1; omega
  · obtain ⟨e1, h1, h2, h3, h4⟩ := g.h7 e
    exact ⟨e1, h1, h2, h3, fun e => (by cases e)⟩
theorem RF.alloc {W0 W W' : World} {z : Nd} {ok : Bool} {X I N5 : Value} {b0 b1 b2 b3 b4 b5 b6 b8 b9 : Bool} {uL uI uN uR uM uE uF uP uK : Value} {a : Option Addr} {c p : Nat} {S : Nat → Prop} (h : RF W0 z ok X I N5 b0 b1 b2 b3 b4 b5 b6 false b8 b9 uL uI uN uR uM uE uF uP uK a c p S W) {p1 : Nat} (hp : p1 = W.heap.size ∧ W'.heap.size = W.heap.size + 1) (hz : W'.heap[p1]? = some cellsZ) (b : Below W.heap.size W W') :
    RF W0 z ok X I N5 b0 b1 b2 b3 b4 b5 b6 true b8 b9 uL uI uN uR uM uE uF (.pointer (some ⟨p1, 0, none⟩)) uK a c p1 S W' := by
  have g := h.grow b
  have n8 : b8 = false := by
    cases h8 : b8 with
    | false => rfl
    | true => have := (h.o8 h8).1; cases this
  subst n8
  obtain ⟨rfl, hs⟩ := hp
  have hw := h.bel.size
  refine ⟨g.bel, g.h0, g.h1, g.h2, fun e => ?_, g.h4, g.h5, g.h6, fun e => ⟨rfl, hw, by omega, fun _ => hz, fun e => (by cases e)⟩, g.h9, g.o4, g.o5, g.o6, fun e => (by cases e)⟩
  obtain ⟨e1, l, i⟩ := g.h3 e
  exact ⟨e1, l, fun j hj => ⟨(i j hj).1, (i j hj).2.1, fun _ => by have := ((h.h3 e).2.2 j hj).2.1; omega⟩⟩
theorem RF.store {W0 W W' : World} {z : Nd} {ok : Bool} {X I N5 : Value} {b0 b1 b2 b3 b4 b6 b9 : Bool} {uL uI uN uR uM uE uF uP uK : Value} {a : Option Addr} {c p : Nat} {S : Nat → Prop} (h : RF W0 z ok X I N5 b0 b1 b2 b3 b4 true b6 true false b9 uL uI uN uR uM uE uF uP uK a c p S W) (hs : W'.heap.size = W.heap.size ∧ p < W.heap.size) (hz : W'.heap[p]? = some (cellsN z a c)) (hb : ∀ n W0, Below n W0 W → n ≤ p → Below n W0 W') (ho : ∀ j, j ≠ p → W'.heap[j]? = W.heap[j]?) :
    RF W0 z ok X I N5 b0 b1 b2 b3 b4 true b6 true true b9 uL uI uN uR uM uE uF uP uK a c p S W' := by
  obtain ⟨e1, k1, k2, k3, k4⟩ := h.h7 rfl
  refine ⟨hb _ _ h.bel k1, h.h0, h.h1, h.h2, fun e => ?_, h.h4, h.h5, h.h6, fun _ => ⟨e1, k1, by omega, fun e => (by cases e), fun _ => ⟨hz⟩⟩, h.h9, h.o4, h.o5, h.o6, fun _ => ⟨rfl, rfl⟩⟩
  obtain ⟨e1, l, i⟩ := h.h3 e
  exact ⟨e1, l.keep (fun j hj hl => ho j ((i j hj).2.2 rfl)), fun j hj => ⟨(i j hj).1, by have := (i j hj).2.1; omega, (i j hj).2.2⟩⟩
/-- what is left of it. -/
structure OneS (W0 : World) (z : Nd) (p : Nat) (a : Option Addr) (c : Nat) (S : Nat → Prop) (W : World) : Prop where
  hp : Bx W p z a c
  l : Sep W S (.slice a z.ks.length c) z.ks
  bel : Below W0.heap.size W0 W
  lo : W0.heap.size ≤ p
  s : ∀ j, S j → W0.heap.size ≤ j ∧ j < W.heap.size ∧ j ≠ p
end Go.Proofs.YtggahoefbcnaiabDoor.Own
