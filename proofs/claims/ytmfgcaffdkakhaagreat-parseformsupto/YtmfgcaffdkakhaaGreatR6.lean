/- Own text. Package parse: the rules, one by one: expressions opened, assigned, closed. -/
import Derived.Test.YtmfgcaffdkakhaaGreatR5
namespace Go.Proofs.YtmfgcaffdkakhaaGreat
open Go.RowKit
set_option linter.unusedVariables false
set_option linter.unusedSimpArgs false

set_option maxRecDepth 100000 in
set_option maxHeartbeats 8000000 in
theorem expr_step (L : List Tok) (hs : Small L) (f : Nat) (MN : Mono L f) (hC : CN 29 L f 12 (condF L f)) (hA : CA L f) : CN 12 L (f + 1) 20 (exprF L (f + 1)) := by
  intro w P a o h ho hM
  have hRw := h.lt
  have hle := h.le
  obtain ⟨h0, a0, z0, M0⟩ := begin_cell h
  obtain ⟨res, hres⟩ : ∃ r, exprF L (f + 1) a o = r := ⟨_, rfl⟩
  have HR : Hid (exprF L (f + 1) a o = res) := hres
  rw [hres]
  clear hres
  have HC' : Hid (CN 29 L f 12 (condF L f)) := hC
  have HA' : Hid (CA L f) := hA
  clear hC
  clear hA
  go_enter Tryz.func12, Tryz.ntmps12
  go_wp2_with fail
  go_at_call 28
  refine (begin_any h0 (by omega)).mono ?_
  rintro e W1 A1
  cases h1 : beginR L a o with
  | bad p er =>
    rw [h1] at A1
    obtain ⟨rfl, b1⟩ := A1
    obtain rfl : Rs.bad p er = res := by rw [← HR.out, exprF]; simp [Rs.bind, mtT, h1]
    exact ⟨rfl, rfl, a0.trans ((KeptR.refl P.R (w.alloc zN)).trans b1)⟩
  | ok x1 a1 =>
    rw [h1] at A1
    obtain ⟨rfl, r1, b1⟩ := A1
    have y1 := r1.le
    have k1 := (KeptR.refl P.R (w.alloc zN)).trans b1
    have z1 := k1.size
    obtain ⟨rfl, e1, e2⟩ := beginR_ok h1
    go_wp2_with fail
    go_at_call 29
    refine (HC'.out _ _ _ _ r1 (by omega) (by unfold Ms at *; omega)).mono ?_
    rintro e W2 A2
    cases h2 : condF L f a (o + 1) with
    | bad p er =>
      rw [h2] at A2
      obtain ⟨rfl, b2⟩ := A2
      obtain rfl : Rs.bad p er = res := by rw [← HR.out, exprF]; simp [Rs.bind, mtT, h1, h2]
      exact ⟨rfl, rfl, a0.trans (k1.trans b2)⟩
    | ok x2 a2 =>
      rw [h2] at A2
      obtain ⟨ad2, c2, rfl, l2', r2, b2⟩ := A2
      have g2 := (MN.cond' a (o + 1)) _ _ h2
      have y2 := r2.le
      have k2 := k1.trans b2
      have z2 := k2.size
      have l2 := l2'.mono (T := fun b => w.heap.size + 1 ≤ b) (fun b hb => by have := k1.size; omega)
      cases q4 : isS L a2 sAs with
      | true =>
        have T4 := stands_any (r2.bel ((Below.refl _ _).alloc (Nat.le_refl _) (Obj.cells #[Value.int IntKind.i64 x2.k, Value.string x2.t, Value.int IntKind.i64 x2.n, Value.slice ad2 x2.ks.length c2] 27))) sAs
        rw [q4] at T4
        have u4 := isS_lt q4
        go_wp2_with fail
        go_at_call 30
        refine T4.mono ?_
        rintro e W4 ⟨rfl, b4'⟩
        have r4 := (r2.bel ((Below.refl _ _).alloc (Nat.le_refl _) (Obj.cells #[Value.int IntKind.i64 x2.k, Value.string x2.t, Value.int IntKind.i64 x2.n, Value.slice ad2 x2.ks.length c2] 27))).bel b4'
        have b4 := KeptR.of (b := P.R) b4'
        have k4 := (k2.alloc (Obj.cells #[Value.int IntKind.i64 x2.k, Value.string x2.t, Value.int IntKind.i64 x2.n, Value.slice ad2 x2.ks.length c2] 27)).trans b4
        have z4 := k4.size
        have y4 := r4.le
        have v3 : W4.heap[W2.heap.size]? = some (.cells #[Value.int IntKind.i64 x2.k, Value.string x2.t, Value.int IntKind.i64 x2.n, Value.slice ad2 x2.ks.length c2] 27 (0, 0)) := (((KeptR.refl P.R (W2.alloc (Obj.cells #[Value.int IntKind.i64 x2.k, Value.string x2.t, Value.int IntKind.i64 x2.n, Value.slice ad2 x2.ks.length c2] 27))).trans b4).block (W2.heap.size) (by simp) (by have := k2.size; omega)).trans (heap_alloc_new W2 _)
        obtain ⟨⟨_, _, _, _⟩, _, _, _, _⟩ := t4 v3
        have lS : LAt W4 (fun b => w.heap.size + 1 ≤ b ∧ b < W2.heap.size) (Value.slice ad2 x2.ks.length c2) x2.ks := (l2.mono' (T := fun b => w.heap.size + 1 ≤ b ∧ b < W2.heap.size) (fun b hb hS => ⟨hS, hb⟩)).keep (((KeptR.refl P.R W2).alloc (Obj.cells #[Value.int IntKind.i64 x2.k, Value.string x2.t, Value.int IntKind.i64 x2.n, Value.slice ad2 x2.ks.length c2] 27)).trans b4).size (fun b hS hl => (((KeptR.refl P.R W2).alloc (Obj.cells #[Value.int IntKind.i64 x2.k, Value.string x2.t, Value.int IntKind.i64 x2.n, Value.slice ad2 x2.ks.length c2] 27)).trans b4).block b hl (by omega))
        have hv0 := (Array.getElem?_eq_some_iff.1 v3).1
        go_wp2_with fail
        go_at_call 31
        refine (HA'.out _ _ _ _ x2 _ _ _ r4 (by omega) (by unfold Ms at *; omega) (by omega) lS (fun b hb => ⟨by omega, by omega⟩)).mono ?_
        rintro e W5 A5
        cases h5 : assignF L f x2 a2 (o + 1) with
        | bad p er =>
          rw [h5] at A5
          obtain ⟨rfl, b5⟩ := A5
          obtain rfl : Rs.bad p er = res := by rw [← HR.out, exprF]; simp [Rs.bind, mtT, h1, h2, q4, h5]
          exact ⟨rfl, rfl, a0.trans (k4.trans b5)⟩
        | ok x5 a5 =>
          rw [h5] at A5
          obtain ⟨ad5, c5, rfl, l5, r5, b5⟩ := A5
          have k5 := k4.trans b5
          have z5 := k5.size
          clear v3
          have v3 : W5.heap[W2.heap.size]? = some (.cells #[Value.int IntKind.i64 x2.k, Value.string x2.t, Value.int IntKind.i64 x2.n, Value.slice ad2 x2.ks.length c2] 27 (0, 0)) := ((((KeptR.refl P.R (W2.alloc (Obj.cells #[Value.int IntKind.i64 x2.k, Value.string x2.t, Value.int IntKind.i64 x2.n, Value.slice ad2 x2.ks.length c2] 27))).trans b4).trans b5).block (W2.heap.size) (by simp) (by have := k2.size; omega)).trans (heap_alloc_new W2 _)
          obtain ⟨⟨_, _, _, _⟩, _, _, _, _⟩ := t4 v3
          have gS : w.heap.size + 1 ≤ W2.heap.size := by have := k2.size; omega
          have lT : LAt ((((W5.setCell ⟨W2.heap.size, 0, none⟩ (.int .i64 x5.k)).setCell ⟨W2.heap.size, 1, none⟩ (.string x5.t)).setCell ⟨W2.heap.size, 2, none⟩ (.int .i64 x5.n)).setCell ⟨W2.heap.size, 3, none⟩ (.slice ad5 x5.ks.length c5)) (fun b => w.heap.size + 1 ≤ b) (Value.slice ad5 x5.ks.length c5) x5.ks := (l5.mono (T := fun b => w.heap.size + 1 ≤ b ∧ b ≠ W2.heap.size) (fun b hb => by rcases hb with hb | hb <;> constructor <;> omega)).keep (by simp [World.setCell]) (fun b hb hl => blk_set4 hb.2 _ _ _ _) |>.mono (fun b hb => hb.1)
          have jS := t4_set (.int .i64 x5.k) (.string x5.t) (.int .i64 x5.n) (.slice ad5 x5.ks.length c5) v3
          have kS := (((k5.new (n := W2.heap.size) (by omega) 0 (.int .i64 x5.k)).new (n := W2.heap.size) (by omega) 1 (.string x5.t)).new (n := W2.heap.size) (by omega) 2 (.int .i64 x5.n)).new (n := W2.heap.size) (by omega) 3 (.slice ad5 x5.ks.length c5)
          have rS := r5.set4 (n := W2.heap.size) (by omega) (fun q => by have := h.x.lt q; omega) (.int .i64 x5.k) (.string x5.t) (.int .i64 x5.n) (.slice ad5 x5.ks.length c5)
          have zS := kS.size
          go_wp2_with fail
          go_at_call 32
          refine (end_any rS (by omega)).mono ?_
          rintro e W6 ⟨rfl, r6, b6⟩
          have k6 := kS.trans b6
          have z6 := k6.size
          have vF := (b6.block _ (by have := (Array.getElem?_eq_some_iff.1 jS).1; exact this) (by omega)).trans jS
          obtain ⟨⟨_, _, _, _⟩, _, _, _, _⟩ := t4 vF
          obtain rfl : Rs.ok x5 a5 = res := by rw [← HR.out, exprF]; simp [Rs.bind, mtT, h1, h2, q4, h5]
          have m0 := M0.out _ k6
          obtain ⟨⟨_, _, _, _⟩, _, _, _, _⟩ := t4 m0
          go_wp2
          refine bodyPost_ret (res_n4 Tryz.results12 (t4_set _ _ _ _ m0) rfl) rfl ?_
          exact close_ok (x := x5) h (a0.trans k6) (lT.keepR ((KeptR.refl P.R _).trans b6) (by omega)) (by omega) r6
      | false =>
        have T4 := stands_any (r2.bel ((Below.refl _ _).alloc (Nat.le_refl _) (Obj.cells #[Value.int IntKind.i64 x2.k, Value.string x2.t, Value.int IntKind.i64 x2.n, Value.slice ad2 x2.ks.length c2] 27))) sAs
        rw [q4] at T4
        go_wp2_with fail
        go_at_call 30
        refine T4.mono ?_
        rintro e W4 ⟨rfl, b4'⟩
        have r4 := (r2.bel ((Below.refl _ _).alloc (Nat.le_refl _) (Obj.cells #[Value.int IntKind.i64 x2.k, Value.string x2.t, Value.int IntKind.i64 x2.n, Value.slice ad2 x2.ks.length c2] 27))).bel b4'
        have b4 := KeptR.of (b := P.R) b4'
        have k4 := (k2.alloc (Obj.cells #[Value.int IntKind.i64 x2.k, Value.string x2.t, Value.int IntKind.i64 x2.n, Value.slice ad2 x2.ks.length c2] 27)).trans b4
        have z4 := k4.size
        have y4 := r4.le
        go_wp2_with fail
        go_at_call 32
        refine (end_any r4 (by omega)).mono ?_
        rintro e W7 ⟨rfl, r7, b7⟩
        have k7 := k4.trans b7
        have z7 := k7.size
        have v3 : W7.heap[W2.heap.size]? = some (.cells #[Value.int IntKind.i64 x2.k, Value.string x2.t, Value.int IntKind.i64 x2.n, Value.slice ad2 x2.ks.length c2] 27 (0, 0)) := ((((KeptR.refl P.R (W2.alloc (Obj.cells #[Value.int IntKind.i64 x2.k, Value.string x2.t, Value.int IntKind.i64 x2.n, Value.slice ad2 x2.ks.length c2] 27))).trans b4).trans b7).block (W2.heap.size) (by simp) (by have := k2.size; omega)).trans (heap_alloc_new W2 _)
        obtain ⟨⟨_, _, _, _⟩, _, _, _, _⟩ := t4 v3
        obtain rfl : Rs.ok x2 a2 = res := by rw [← HR.out, exprF]; simp [Rs.bind, mtT, h1, h2, q4]
        have m0 := M0.out _ k7
        obtain ⟨⟨_, _, _, _⟩, _, _, _, _⟩ := t4 m0
        go_wp2
        refine bodyPost_ret (res_n4 Tryz.results12 (t4_set _ _ _ _ m0) rfl) rfl ?_
        exact close_ok (x := x2) h (a0.trans k7) (l2.keepR ((((KeptR.refl P.R W2).alloc (Obj.cells #[Value.int IntKind.i64 x2.k, Value.string x2.t, Value.int IntKind.i64 x2.n, Value.slice ad2 x2.ks.length c2] 27)).trans b4).trans b7) (by omega)) (by omega) r7
end Go.Proofs.YtmfgcaffdkakhaaGreat
