/- Own text. Whether two trees are the same: the document's answer. -/
import Derived.Test.YtadkmlcnmkdfiaaGreatDoorT0
namespace Go.Proofs.YtadkmlcnmkdfiaaGreatDoor
open Go.RowKit
set_option linter.unusedVariables false

set_option maxHeartbeats 4000000 in
theorem rsame_any (x : Nd) : ∀ (y : Nd) (w : World) (S T : Nat → Prop) (vx vy : Value), LAt w S vx x.ks → LAt w T vy y.ks → x.size ≤ 4194304 → y.size ≤ 4194304 →
    Calls Tryz.prog 15 #[x.v vx, y.v vy] w fun e w' => ∃ b : Bool, e = .returned (.bool b) ∧ (b = true ↔ x = y) ∧ Below w.heap.size w w' := by
  induction x using Nd.ind with
  | h x ih =>
    intro y w S T vx vy hx hy zx zy
    obtain ⟨ax, cx, bx, ox, fx, rfl, px, qx, rx⟩ := hx.op
    obtain ⟨ay, cy, b', oy, fy, rfl, py, qy, ry⟩ := hy.op
    have lx : x.ks.length ≤ 4194304 := by have := sizes_len x.ks; rw [x.size_eq] at zx; omega
    have ly : y.ks.length ≤ 4194304 := by have := sizes_len y.ks; rw [y.size_eq] at zy; omega
    have no : ∀ w', Below w.heap.size w w' → ¬ x = y → ∃ b : Bool, (Ending.returned (.bool false)) = .returned (.bool b) ∧ (b = true ↔ x = y) ∧ Below w.heap.size w w' := fun w' hb hn => ⟨false, rfl, by simp [hn], hb⟩
    unfold Nd.v
    by_cases h1 : x.k = y.k
    case neg =>
      go_enter Tryz.func15, Tryz.ntmps15
      go_wp2
      go_ret
      exact no _ (((Below.refl _ w).alloc (Nat.le_refl _) _).alloc (by simp) _) (fun e => h1 (by rw [e]))
    by_cases h2 : x.t.toList = y.t.toList
    case neg =>
      go_enter Tryz.func15, Tryz.ntmps15
      go_wp2
      go_ret
      exact no _ (((Below.refl _ w).alloc (Nat.le_refl _) _).alloc (by simp) _) (fun e => h2 (by rw [e]))
    by_cases h3 : x.n = y.n
    case neg =>
      go_enter Tryz.func15, Tryz.ntmps15
      go_wp2
      go_ret
      exact no _ (((Below.refl _ w).alloc (Nat.le_refl _) _).alloc (by simp) _) (fun e => h3 (by rw [e]))
    by_cases h4 : x.ks.length = y.ks.length
    case neg =>
      go_enter Tryz.func15, Tryz.ntmps15
      go_wp2
      go_ret
      exact no _ (((Below.refl _ w).alloc (Nat.le_refl _) _).alloc (by simp) _) (fun e => h4 (by rw [e]))
    rw [h1, h3, h4]
    have H1 : Hid (x.k = y.k) := h1
    have H3 : Hid (x.n = y.n) := h3
    clear h1 h3
    go_enter Tryz.func15, Tryz.ntmps15
    go_wp2
    have hb2 : Below w.heap.size w ((w.alloc (Obj.cells #[Value.int IntKind.i64 y.k, Value.string x.t, Value.int IntKind.i64 y.n, Value.slice ax y.ks.length cx] 25)).alloc (Obj.cells #[Value.int IntKind.i64 y.k, Value.string y.t, Value.int IntKind.i64 y.n, Value.slice ay y.ks.length cy] 25)) :=
      ((Below.refl _ w).alloc (Nat.le_refl _) _).alloc (by simp) _
    go_loopw [5] (fun i wr => ∃ k : Nat, i = .int .i64 (k : Nat) ∧ k ≤ y.ks.length ∧ Below w.heap.size w wr ∧ w.heap.size + 2 ≤ wr.heap.size ∧ wr.cell? ⟨w.heap.size, 3, none⟩ = some (.slice ax y.ks.length cx) ∧ wr.cell? ⟨w.heap.size + 1, 3, none⟩ = some (.slice ay y.ks.length cy) ∧ Hid (x.ks.take k = y.ks.take k)) (fun i _ => y.ks.length - (intOf i).toNat)
    case atStart => exact ⟨0, rfl, by omega, hb2, by simp, by simp, by simp, by simp [Hid]⟩
    case round =>
      obtain ⟨k, rfl, hk, bel, sz, c1, c2, HT⟩ := hrel
      by_cases hky : k < y.ks.length
      · have hkl : k < x.ks.length := by omega
        obtain ⟨rfl, hSx, hbx⟩ := px (by omega)
        obtain ⟨rfl, hTy, hby⟩ := py (by omega)
        have iha := ih x.ks[k] (List.getElem_mem hkl) y.ks[k]
        have zk := x.kid_size hkl
        have zk' := y.kid_size hky
        have HS : Hid (x.ks[k] = y.ks[k] → x.ks.take (k + 1) = y.ks.take (k + 1)) := fun e => by
          rw [List.take_succ_eq_append_getElem hkl, List.take_succ_eq_append_getElem hky, HT.out, e]
        have HN : Hid (¬ x.ks[k] = y.ks[k] → ¬ x = y) := fun hn e => hn (by subst e; rfl)
        have gx := rx k hkl
        have gy := ry k hky
        obtain ⟨u1, u2, u3, u4⟩ := (qx k hkl).of_block (bel.block bx hbx)
        obtain ⟨v1, v2, v3, v4⟩ := (qy k hky).of_block (bel.block b' hby)
        have four : ∀ W', Below wr.heap.size wr W' → (W'.cell? ⟨w.heap.size, 3, none⟩ = some (.slice (some ⟨bx, ox, none⟩) y.ks.length cx) ∧ W'.cell? ⟨w.heap.size + 1, 3, none⟩ = some (.slice (some ⟨b', oy, none⟩) y.ks.length cy) ∧
            W'.cell? ⟨bx, ox + k * 4, none⟩ = some (.int .i64 x.ks[k].k) ∧ W'.cell? ⟨bx, ox + k * 4 + 1, none⟩ = some (.string x.ks[k].t) ∧ W'.cell? ⟨bx, ox + k * 4 + 2, none⟩ = some (.int .i64 x.ks[k].n) ∧ W'.cell? ⟨bx, ox + k * 4 + 3, none⟩ = some (fx k) ∧
            W'.cell? ⟨b', oy + k * 4, none⟩ = some (.int .i64 y.ks[k].k) ∧ W'.cell? ⟨b', oy + k * 4 + 1, none⟩ = some (.string y.ks[k].t) ∧ W'.cell? ⟨b', oy + k * 4 + 2, none⟩ = some (.int .i64 y.ks[k].n) ∧ W'.cell? ⟨b', oy + k * 4 + 3, none⟩ = some (fy k)) := fun W' b => by
          have e1 := b.block w.heap.size (by omega)
          have e2 := b.block (w.heap.size + 1) (by omega)
          have e3 := b.block bx (by omega)
          have e4 := b.block b' (by omega)
          exact ⟨(World.cell?_of_block (a := ⟨_, _, none⟩) e1).trans c1, (World.cell?_of_block (a := ⟨_, _, none⟩) e2).trans c2, (World.cell?_of_block (a := ⟨_, _, none⟩) e3).trans u1, (World.cell?_of_block (a := ⟨_, _, none⟩) e3).trans u2, (World.cell?_of_block (a := ⟨_, _, none⟩) e3).trans u3, (World.cell?_of_block (a := ⟨_, _, none⟩) e3).trans u4,
            (World.cell?_of_block (a := ⟨_, _, none⟩) e4).trans v1, (World.cell?_of_block (a := ⟨_, _, none⟩) e4).trans v2, (World.cell?_of_block (a := ⟨_, _, none⟩) e4).trans v3, (World.cell?_of_block (a := ⟨_, _, none⟩) e4).trans v4⟩
        have hst := four wr.drew (Below.refl _ _).drew
        have gx' : LAt wr.drew S (fx k) x.ks[k].ks := gx.bel bel.drew
        have gy' : LAt wr.drew T (fy k) y.ks[k].ks := gy.bel bel.drew
        generalize x.ks[k] = xk at *
        generalize y.ks[k] = yk at *
        generalize fx k = fxk at *
        generalize fy k = fyk at *
        clear u1 u2 u3 u4 v1 v2 v3 v4
        go_wp2_with fail
        go_region_held3 (fun W' => W'.cell? ⟨w.heap.size, 3, none⟩ = some (.slice (some ⟨bx, ox, none⟩) y.ks.length cx) ∧ W'.cell? ⟨w.heap.size + 1, 3, none⟩ = some (.slice (some ⟨b', oy, none⟩) y.ks.length cy) ∧
            W'.cell? ⟨bx, ox + k * 4, none⟩ = some (.int .i64 xk.k) ∧ W'.cell? ⟨bx, ox + k * 4 + 1, none⟩ = some (.string xk.t) ∧ W'.cell? ⟨bx, ox + k * 4 + 2, none⟩ = some (.int .i64 xk.n) ∧ W'.cell? ⟨bx, ox + k * 4 + 3, none⟩ = some fxk ∧
            W'.cell? ⟨b', oy + k * 4, none⟩ = some (.int .i64 yk.k) ∧ W'.cell? ⟨b', oy + k * 4 + 1, none⟩ = some (.string yk.t) ∧ W'.cell? ⟨b', oy + k * 4 + 2, none⟩ = some (.int .i64 yk.n) ∧ W'.cell? ⟨b', oy + k * 4 + 3, none⟩ = some fyk)
          (first | assumption | exact hst | exact hst2)
          (first
            | (go_at_call 15; refine (iha _ S T fxk fyk gx' gy' (by omega) (by omega)).mono ?_; rintro e W1 ⟨b, rfl, hb, b1⟩; have hst2 := four W1 ((Below.refl _ _).drew.trans b1)))
        have bel1 : Below w.heap.size w W1 := bel.drew.trans (b1.mono bel.size)
        have sz1 : w.heap.size + 2 ≤ W1.heap.size := Nat.le_trans sz b1.size
        have d1 := hst2.1
        have d2 := hst2.2.1
        clear hst hst2 four c1 c2 gx gy gx' gy' iha
        cases b with
        | true =>
          have HT' : Hid (x.ks.take (k + 1) = y.ks.take (k + 1)) := HS.out (hb.1 rfl)
          clear HS HN hb
          go_wp2
          go_roundw
          case rel => exact ⟨k + 1, by simp, by omega, bel1, sz1, d1, d2, HT'⟩
          case measure => simp [intOf]; omega
        | false =>
          have HF : Hid (¬ x = y) := HN.out (fun e => by simpa using hb.2 e)
          clear HS HN hb
          go_wp2
          go_ret
          exact no _ bel1 HF.out
      · have HE : Hid (x = y) := by
          have e1 : x.ks.take k = x.ks := List.take_of_length_le (by omega)
          have e2 : y.ks.take k = y.ks := List.take_of_length_le (by omega)
          have e3 := HT.out
          rw [e1, e2] at e3
          exact Nd.ext' H1.out (bytes_eq.2 h2) H3.out e3
        clear HT
        go_wp2
        go_ret
        exact ⟨true, rfl, by simp [HE.out], bel⟩
end Go.Proofs.YtadkmlcnmkdfiaaGreatDoor
