/- Own text. How many trees one is, and how deep: the document's answers, and Depth of package tree. -/
import Derived.Test.YtadkmlcnmkdfiaaGreatDoorT1
namespace Go.Proofs.YtadkmlcnmkdfiaaGreatDoor
open Go.RowKit
set_option linter.unusedVariables false

theorem bel_a (w : World) (o : Obj) : Below w.heap.size w (w.alloc o) := (Below.refl _ w).alloc (Nat.le_refl _) o
/-- a kid's cells and its own kids, in a later world. -/
theorem kid_at {w W : World} {S : Nat → Prop} {bl o k : Nat} {x : Nd} {v : Value} (h4 : Four w bl (o + k * 4) x v) (hk : LAt w S v x.ks) (hb : bl < w.heap.size) (bel : Below w.heap.size w W) :
    (W.cell? ⟨bl, o + k * 4, none⟩ = some (.int .i64 x.k) ∧ W.cell? ⟨bl, o + k * 4 + 1, none⟩ = some (.string x.t) ∧ W.cell? ⟨bl, o + k * 4 + 2, none⟩ = some (.int .i64 x.n) ∧ W.cell? ⟨bl, o + k * 4 + 3, none⟩ = some v) ∧ LAt W S v x.ks :=
  ⟨h4.of_block (bel.block bl hb), hk.bel bel⟩

set_option maxHeartbeats 4000000 in
theorem rdepth_any (x : Nd) : ∀ (w : World) (S : Nat → Prop) (v : Value), LAt w S v x.ks → x.size ≤ 4194304 →
    Calls Tryz.prog 46 #[x.v v] w fun e w' => e = .returned (.int .i64 (x.depth : Nat)) ∧ Below w.heap.size w w' := by
  induction x using Nd.ind with
  | h x ih =>
    intro w S v hx zx
    obtain ⟨ax, cx, bx, ox, fx, rfl, px, qx, rx⟩ := hx.op
    have zs := x.size_eq
    have lx := sizes_len x.ks
    have lx2 : x.ks.length ≤ 4194304 := by omega
    have hd := x.depth_le
    unfold Nd.v
    go_enter Tryz.func46, Tryz.ntmps46
    go_wp2
    go_loopw [3, 4] (fun s i wr => ∃ k : Nat, i = .int .i64 (k : Nat) ∧ s = .int .i64 (depths (x.ks.take k) : Nat) ∧ k ≤ x.ks.length ∧ Below w.heap.size w wr ∧ w.heap.size < wr.heap.size ∧ wr.cell? ⟨w.heap.size, 3, none⟩ = some (.slice ax x.ks.length cx)) (fun _ i _ => x.ks.length - (intOf i).toNat)
    case atStart => exact ⟨0, rfl, by simp [depths_nil], by omega, (Below.refl _ w).alloc (Nat.le_refl _) _, by simp, by simp⟩
    case round =>
      obtain ⟨k, rfl, rfl, hk, bel, sz, c1⟩ := hrel
      by_cases hkl : k < x.ks.length
      · obtain ⟨rfl, hSx, hbx⟩ := px (by omega)
        have iha := ih x.ks[k] (List.getElem_mem hkl)
        have zk := x.kid_size hkl
        have HS : Hid (depths (x.ks.take (k + 1)) = max (depths (x.ks.take k)) x.ks[k].depth) := take_depths x.ks hkl
        obtain ⟨⟨u1, u2, u3, u4⟩, gx⟩ := kid_at (qx k hkl) (rx k hkl) hbx bel
        generalize x.ks[k] = xk at *
        generalize fx k = fxk at *
        generalize hs : depths (x.ks.take k) = sk at *
        go_wp2_with (go_at_call 46; refine (iha _ S fxk gx (by omega)).mono ?_; rintro e W1 ⟨rfl, b1⟩)
        all_goals
          clear u1 u2 u3 u4 iha gx
          go_roundw
          case rel => exact ⟨k + 1, by simp, by rw [HS.out]; first | (congr 1; omega) | (simp; omega), by omega, bel.trans (b1.mono bel.size), Nat.lt_of_lt_of_le sz b1.size, (b1.cell (p := ⟨w.heap.size, 3, none⟩) sz).trans c1⟩
          case measure => simp [intOf]; omega
      · have e : x.ks.take k = x.ks := List.take_of_length_le (by omega)
        rw [e]
        have HD : Hid (x.depth = 1 + depths x.ks) := x.depth_eq
        have hd2 : depths x.ks ≤ 4194304 := by have := HD.out; omega
        clear e hd
        go_wp2
        go_ret
        exact ⟨by first | (rw [HD.out]; rfl) | (rw [HD.out]; simp; done) | (rw [HD.out]; congr 2; omega) | (rw [HD.out]; simp; omega) | rw [HD.out], bel⟩

end Go.Proofs.YtadkmlcnmkdfiaaGreatDoor
