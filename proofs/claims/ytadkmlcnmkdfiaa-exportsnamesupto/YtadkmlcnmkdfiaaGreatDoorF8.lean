/- Own text. Whether the members of a class stand in order: package tree. -/
import Derived.Test.YtadkmlcnmkdfiaaGreatDoorF7
namespace Go.Proofs.YtadkmlcnmkdfiaaGreatDoor
open Go.RowKit
set_option linter.unusedVariables false
set_option linter.unusedSimpArgs false

set_option maxHeartbeats 4000000 in
theorem inOrder1_any (x y : Nd) (W : World) (S : Nat → Prop) (v u : Value) (hx : LAt W S v x.ks) (hy : LAt W S u y.ks) (h1 : 43 ≤ x.k ∧ x.k ≤ 45) (h2 : 43 ≤ y.k ∧ y.k ≤ 45) :
    Calls Tryz.prog 163 #[x.v v, y.v u] W fun e W' => e = .returned (.int .i64 (x.k - y.k)) ∧ Below W.heap.size W W' := by
  obtain ⟨ax, cx, rfl⟩ := hx.sl
  obtain ⟨ay, cy, rfl⟩ := hy.sl
  obtain ⟨l1, l2⟩ := h1
  obtain ⟨l3, l4⟩ := h2
  unfold Nd.v
  go_enter Tryz.func163, Tryz.ntmps163
  go_wp2
  go_ret
  exact ⟨by first | rfl | (congr 2; simp [wrap64]; omega), (bel_a _ _).alloc (by simp) _⟩

theorem idx_nd (W : World) (bl o n c k : Nat) (h : k < n) : (Instr.indexAt 23 (.slice (some ⟨bl, o, none⟩) n c) (.int .i64 (k : Int))).run Tryz.prog W = .ok (.pointer (some ⟨bl, o + k * 4, none⟩)) W := by
  have h1 : ¬ (k : Int) < 0 := by omega
  have h2 : ¬ (n : Int) ≤ k := by omega
  have h3 : (k : Int) < n := by omega
  simp [Instr.indexAt, go_sem, run_underlying Tryz.underlying23, h, h1, h2, h3]
/-- the kinds rise from place j on. -/
def ordFrom (l : List Nd) (j : Int) : Prop := ∀ p (h : p + 1 < l.length), j ≤ (p : Int) → l[p].k ≤ l[p + 1].k
set_option maxRecDepth 100000 in
set_option maxHeartbeats 4000000 in
theorem isSorted_any (w : World) (S : Nat → Prop) (l : List Nd) (v : Value) (hx : LAt w S v l) (hl : l.length ≤ 4194304) (hb : ∀ y ∈ l, 43 ≤ y.k ∧ y.k ≤ 45) :
    Calls Tryz.prog 162 #[v, .func (.func 163) #[] #[]] w fun e w' => ∃ b : Bool, e = .returned (.bool b) ∧ (b = true ↔ ordFrom l 0) ∧ Below w.heap.size w w' := by
  obtain ⟨ax, cx, bx, ox, fx, rfl, px, qx, rx⟩ := hx.op
  go_enter Tryz.func162, Tryz.ntmps162
  go_wp2
  go_loopw [5] (fun i wr => ∃ j : Int, i = .int .i64 j ∧ -1 ≤ j ∧ j < l.length ∧ Below w.heap.size w wr ∧ Hid (ordFrom l j)) (fun i _ => (intOf i + 1).toNat)
  case atStart => exact ⟨(l.length : Int) - 1, rfl, by omega, by omega, Below.refl _ _, fun p hp h => by omega⟩
  case round =>
    obtain ⟨j, rfl, hj1, hj2, bel, HT⟩ := hrel
    by_cases hj : 0 < j
    · obtain ⟨q, rfl⟩ : ∃ q : Nat, j = (q : Int) + 1 := ⟨(j - 1).toNat, by omega⟩
      have hq1 : q + 1 < l.length := by omega
      have hq0 : q < l.length := by omega
      obtain ⟨rfl, hSx, hbx⟩ := px (by omega)
      have cell : ∀ W', Below wr.heap.size wr W' → (W'.cell? ⟨bx, ox + (q + 1) * 4, none⟩ = some (.int .i64 l[q + 1].k) ∧ W'.cell? ⟨bx, ox + (q + 1) * 4 + 1, none⟩ = some (.string l[q + 1].t) ∧ W'.cell? ⟨bx, ox + (q + 1) * 4 + 2, none⟩ = some (.int .i64 l[q + 1].n) ∧ W'.cell? ⟨bx, ox + (q + 1) * 4 + 3, none⟩ = some (fx (q + 1))) ∧
          (W'.cell? ⟨bx, ox + q * 4, none⟩ = some (.int .i64 l[q].k) ∧ W'.cell? ⟨bx, ox + q * 4 + 1, none⟩ = some (.string l[q].t) ∧ W'.cell? ⟨bx, ox + q * 4 + 2, none⟩ = some (.int .i64 l[q].n) ∧ W'.cell? ⟨bx, ox + q * 4 + 3, none⟩ = some (fx q)) := fun W' b => by
        have b2 := bel.trans (b.mono bel.size)
        exact ⟨(kid_at (qx (q + 1) hq1) (rx (q + 1) hq1) hbx b2).1, (kid_at (qx q hq0) (rx q hq0) hbx b2).1⟩
      have g1 := (kid_at (qx (q + 1) hq1) (rx (q + 1) hq1) hbx bel.drew).2
      have g0 := (kid_at (qx q hq0) (rx q hq0) hbx bel.drew).2
      have hst := cell wr.drew (Below.refl _ _).drew
      have cmp := inOrder1_any l[q + 1] l[q] wr.drew S _ _ g1 g0 (hb _ (List.getElem_mem hq1)) (hb _ (List.getElem_mem hq0))
      have HY : Hid (l[q].k ≤ l[q + 1].k → ordFrom l q) := fun h p hp hpj => by
        by_cases e : p = q
        · subst e; exact h
        · exact HT.out p hp (by omega)
      have HN : Hid (¬ l[q].k ≤ l[q + 1].k → ¬ ordFrom l 0) := fun h h0 => h (h0 q hq1 (by omega))
      obtain ⟨b1a, b1b⟩ := hb _ (List.getElem_mem hq1)
      obtain ⟨b0a, b0b⟩ := hb _ (List.getElem_mem hq0)
      obtain ⟨a1, c1, e1⟩ := g1.sl
      obtain ⟨a0, c0, e0⟩ := g0.sl
      have i1 := fun W => idx_nd W bx ox l.length cx (q + 1) hq1
      have e11 : ((q + 1 : Nat) : Int) = (q : Int) + 1 := by omega
      rw [e11] at i1
      have i0 := fun W => idx_nd W bx ox l.length cx q hq0
      have hw1 : IntKind.i64.wrap (q : Int) = q := by rw [IntKind.wrap_i64]; omega
      have hw2 : IntKind.i64.wrap ((q : Int) + 1 - 1) = q := by rw [IntKind.wrap_i64]; omega
      clear HT hb qx rx px e11
      generalize l[q + 1] = y1 at *
      generalize l[q] = y0 at *
      generalize fx (q + 1) = f1 at *
      generalize fx q = f0 at *
      subst e1 e0
      go_wp2_with fail
      go_region_held3 (fun W' => (W'.cell? ⟨bx, ox + (q + 1) * 4, none⟩ = some (.int .i64 y1.k) ∧ W'.cell? ⟨bx, ox + (q + 1) * 4 + 1, none⟩ = some (.string y1.t) ∧ W'.cell? ⟨bx, ox + (q + 1) * 4 + 2, none⟩ = some (.int .i64 y1.n) ∧ W'.cell? ⟨bx, ox + (q + 1) * 4 + 3, none⟩ = some (.slice a1 y1.ks.length c1)) ∧
          (W'.cell? ⟨bx, ox + q * 4, none⟩ = some (.int .i64 y0.k) ∧ W'.cell? ⟨bx, ox + q * 4 + 1, none⟩ = some (.string y0.t) ∧ W'.cell? ⟨bx, ox + q * 4 + 2, none⟩ = some (.int .i64 y0.n) ∧ W'.cell? ⟨bx, ox + q * 4 + 3, none⟩ = some (.slice a0 y0.ks.length c0)))
        (first | assumption | exact hst | exact hst2)
        (first
          | (go_at_call 163; refine cmp.mono ?_; rintro e W1 ⟨rfl, b1⟩; have hst2 := cell W1 ((Below.refl _ _).drew.trans b1)))
      have bel1 : Below w.heap.size w W1 := bel.drew.trans (b1.mono bel.size)
      clear hst hst2 cell cmp g1 g0
      by_cases hle : y0.k ≤ y1.k
      · have HT' : Hid (ordFrom l q) := HY.out hle
        have hlt : ¬ y1.k - y0.k < 0 := by omega
        clear HY HN
        go_wp2
        go_roundw
        case rel => exact ⟨q, by simp, by omega, by omega, bel1, HT'⟩
        case measure => simp [intOf]; omega
      · have HF : Hid (¬ ordFrom l 0) := HN.out (by omega)
        have hlt : y1.k - y0.k < 0 := by omega
        clear HY HN
        go_wp2
        go_ret
        first | exact ⟨false, rfl, by simp [HF.out], bel1⟩ | exact .inl ⟨rfl, HF.out, bel1⟩
    · have HE : Hid (ordFrom l 0) := fun p hp _ => HT.out p hp (by omega)
      clear HT hb
      have hj' : ¬ 0 < j := hj
      go_wp2
      go_ret
      first | exact .inr ⟨rfl, HE.out, bel⟩ | exact ⟨true, rfl, by simp [HE.out], bel⟩
theorem inOrder_any (w : World) (S : Nat → Prop) (l : List Nd) (v : Value) (hx : LAt w S v l) (hl : l.length ≤ 4194304) (hb : ∀ y ∈ l, 43 ≤ y.k ∧ y.k ≤ 45) :
    Calls Tryz.prog 127 #[v] w fun e w' => ∃ b : Bool, e = .returned (.bool b) ∧ (b = true ↔ ordFrom l 0) ∧ Below w.heap.size w w' := by
  have hi := isSorted_any w S l v hx hl hb
  clear hb
  go_enter Tryz.func127, Tryz.ntmps127
  go_wp2_with (go_at_call 162; refine hi.mono ?_; rintro e w' ⟨b, rfl, hb, b1⟩)
  go_ret
  exact ⟨b, rfl, hb, b1⟩
end Go.Proofs.YtadkmlcnmkdfiaaGreatDoor
