/- Own text. Package parse: the rules, one by one: lists of a type. -/
import Derived.Test.YtmfgcaffdkakhaaGreatR2
namespace Go.Proofs.YtmfgcaffdkakhaaGreat
open Go.RowKit
set_option linter.unusedVariables false
set_option linter.unusedSimpArgs false

set_option maxRecDepth 100000 in
set_option maxHeartbeats 8000000 in
theorem ptype_step (L : List Tok) (hs : Small L) (f : Nat) (MN : Mono L f) (hRt : CN 65 L f 11 (rtypeF L f)) : CN 34 L (f + 1) 12 (ptypeF L (f + 1)) := by
  intro w P a o h ho hM
  have hRw := h.lt
  have hle := h.le
  obtain ⟨h0, a0, z0, M0⟩ := begin_cell h
  obtain ⟨res, hres⟩ : ∃ r, ptypeF L (f + 1) a o = r := ⟨_, rfl⟩
  have HR : Hid (ptypeF L (f + 1) a o = res) := hres
  rw [hres]
  clear hres
  have HRT' : Hid (CN 65 L f 11 (rtypeF L f)) := hRt
  clear hRt
  go_enter Tryz.func34, Tryz.ntmps34
  go_wp2_with fail
  go_at_call 65
  refine (HRT'.out _ _ _ _ h0 (by omega) (by unfold Ms at *; omega)).mono ?_
  rintro e W1 A1
  cases h1 : rtypeF L f a o with
  | bad p er =>
    rw [h1] at A1
    obtain ⟨rfl, b1⟩ := A1
    obtain rfl : Rs.bad p er = res := by rw [← HR.out, ptypeF]; simp [Rs.bind, mtT, h1]
    exact ⟨rfl, rfl, a0.trans ((KeptR.refl P.R (w.alloc zN)).trans b1)⟩
  | ok x1 a1 =>
    rw [h1] at A1
    obtain ⟨ad1, c1, rfl, l1', r1, b1⟩ := A1
    have g1 := (MN.rtype' a o) _ _ h1
    have y1 := r1.le
    have k1 := (KeptR.refl P.R (w.alloc zN)).trans b1
    have z1 := k1.size
    have l1 := l1'.mono (T := fun b => w.heap.size + 1 ≤ b) (fun b hb => by have := (KeptR.refl P.R (w.alloc zN)).size; omega)
    go_wp2
    have HR2 : Hid (arrayG L (L.length + 1 - a1) x1 a1 = res) := by show _ = _; rw [← HR.out, ptypeF, h1]; rfl
    clear HR
    have HR := HR2
    clear HR2
    have gV : w.heap.size + 1 ≤ W1.heap.size := by have := k1.size; omega
    have k0 := (k1.alloc (Obj.cells #[Value.int IntKind.i64 x1.k, Value.string x1.t, Value.int IntKind.i64 x1.n, Value.slice ad1 x1.ks.length c1] 27))
    have r0 := (r1.bel ((Below.refl _ _).alloc (Nat.le_refl _) (Obj.cells #[Value.int IntKind.i64 x1.k, Value.string x1.t, Value.int IntKind.i64 x1.n, Value.slice ad1 x1.ks.length c1] 27)))
    have v0 := heap_alloc_new W1 (Obj.cells #[Value.int IntKind.i64 x1.k, Value.string x1.t, Value.int IntKind.i64 x1.n, Value.slice ad1 x1.ks.length c1] 27)
    have l0 := (l1'.mono' (T := fun b => w.heap.size + 1 ≤ b ∧ b ≠ W1.heap.size) (fun b hl hb => by have := a0.size; exact ⟨by omega, by omega⟩)).bel ((Below.refl _ _).alloc (Nat.le_refl _) (Obj.cells #[Value.int IntKind.i64 x1.k, Value.string x1.t, Value.int IntKind.i64 x1.n, Value.slice ad1 x1.ks.length c1] 27))
    go_loopg [6] (L.length + 1 - a1) (fun gk v6 wr => ∃ (nd : Nd) (b : Nat) (ad : Option Addr) (c : Nat), Hid (arrayG L gk nd b = res) ∧ Hid (L.length + 1 ≤ gk + b) ∧ Rd wr P L b (opE o) ∧ wr.heap[W1.heap.size]? = some (.cells #[Value.int IntKind.i64 nd.k, Value.string nd.t, Value.int IntKind.i64 nd.n, Value.slice ad nd.ks.length c] 27 (0, 0)) ∧ LAt wr (fun b => w.heap.size + 1 ≤ b ∧ b ≠ W1.heap.size) (Value.slice ad nd.ks.length c) nd.ks ∧ KeptR P.R (w.alloc zN) wr ∧ W1.heap.size < wr.heap.size)
    case atStart => exact ⟨x1, a1, ad1, c1, HR.out, by show _ ≤ _; omega, r0, v0, l0, k0, by simp⟩
    case round =>
      clear k0 r0 v0 l0 HR
      obtain ⟨nd, b, ad, c, HR, HG, r0, v0, lN, k0, hV0⟩ := hrel
      have hgk := HG.out
      have hbl := r0.le
      obtain ⟨g, rfl⟩ : ∃ g, gk = g + 1 := ⟨gk - 1, by omega⟩
      have z0k := k0.size
      cases q3 : isS L b sBo with
      | true =>
        have T3 := take_any r0 sBo
        rw [q3] at T3
        have u3 := isS_lt q3
        go_wp2_with fail
        go_at_call 33
        refine T3.mono ?_
        rintro e W3 ⟨rfl, r3', b3⟩
        have r3 : Rd W3 P L (b + 1) (opE o) := r3'
        clear r3'
        have k3 := k0.trans b3
        have z3 := k3.size
        have y3 := r3.le
        go_wp2_with fail
        go_at_call 60
        refine (want_any r3 sBc).mono ?_
        rintro e W4 A4
        cases h4 : wantR L sBc (b + 1) with
        | bad p er =>
          rw [h4] at A4
          obtain ⟨rfl, b4⟩ := A4
          obtain rfl : Rs.bad p er = res := by rw [← HR.out, arrayG]; simp [Rs.bind, mtT, q3, h4]
          exact ⟨rfl, rfl, a0.trans (k3.trans b4)⟩
        | ok x4 a4 =>
          rw [h4] at A4
          obtain ⟨rfl, r4, b4⟩ := A4
          have g4 := (want_ge L sBc (b + 1)) _ _ h4
          have y4 := r4.le
          have k4 := k3.trans b4
          have z4 := k4.size
          have vv : W4.heap[W1.heap.size]? = _ := ((((KeptR.refl P.R wr).trans b3).trans b4).block W1.heap.size hV0 (by omega)).trans v0
          obtain ⟨⟨_, _, _, _⟩, _, _, _, _⟩ := t4 vv
          go_wp2_with fail
          go_at_call 35
          refine (node_any 31 ⟨#[]⟩ (some ⟨W4.heap.size, 0, none⟩) 1 1 _).mono ?_
          rintro e W5 ⟨rfl, b5'⟩
          have j5 : W5.heap[W4.heap.size]? = some (.cells #[Value.int IntKind.i64 nd.k, Value.string nd.t, Value.int IntKind.i64 nd.n, Value.slice ad nd.ks.length c] 27 (0, 0)) := (b5'.block _ (by simp)).trans (heap_alloc_new W4 _)
          have r5 := (r4.bel ((Below.refl _ _).alloc (Nat.le_refl _) (Obj.cells #[Value.int IntKind.i64 nd.k, Value.string nd.t, Value.int IntKind.i64 nd.n, Value.slice ad nd.ks.length c] 27))).bel b5'
          have b5 : KeptR P.R W4 W5 := (KeptR.of ((Below.refl _ _).alloc (Nat.le_refl _) _)).trans (.of b5')
          have k5 := k4.trans b5
          have z5 := k5.size
          have l5 : LAt W5 (fun b => w.heap.size + 1 ≤ b ∧ b ≠ W1.heap.size) (.slice (some ⟨W4.heap.size, 0, none⟩) 1 1) [nd] := LAt.n1 j5 (by have := k4.size; have := (((KeptR.refl P.R wr).trans b3).trans b4).size; exact ⟨by omega, by omega⟩) (lN.keep ((((KeptR.refl P.R wr).trans b3).trans b4).trans b5).size (fun b hb hl => ((((KeptR.refl P.R wr).trans b3).trans b4).trans b5).block b hl (by have := hb.1; omega)))
          clear vv
          have vv : W5.heap[W1.heap.size]? = _ := (((((KeptR.refl P.R wr).trans b3).trans b4).trans b5).block W1.heap.size hV0 (by omega)).trans v0
          obtain ⟨⟨_, _, _, _⟩, _, _, _, _⟩ := t4 vv
          go_wp2
          go_roundg g
          case rel => exact ⟨(mk0 31 ⟨#[]⟩ [nd]), a4, some _, 1, by show _ = _; rw [← HR.out, arrayG]; simp [Rs.bind, mtT, q3, h4], by show _ ≤ _; omega, r5.set4 (by omega) (fun q => by have := h.x.lt q; omega) _ _ _ _, t4_set _ _ _ _ vv, ((l5.keep (KeptR.refl P.R W5).size (fun b hb hl => (KeptR.refl P.R W5).block b hl (by have := hb.1; omega)))).keep (by simp [World.setCell]) (fun b hb hl => blk_set4 hb.2 _ _ _ _), (((k5.new (by omega) _ _).new (by omega) _ _).new (by omega) _ _).new (by omega) _ _, by simp [World.setCell]; have := ((((KeptR.refl P.R wr).trans b3).trans b4).trans b5).size; omega⟩
          case measure => omega
      | false =>
        have T3 := take_any r0 sBo
        rw [q3] at T3
        go_wp2_with fail
        go_at_call 33
        refine T3.mono ?_
        rintro e W3 ⟨rfl, r3', b3⟩
        have r3 : Rd W3 P L b (opE o) := r3'
        clear r3'
        have k3 := k0.trans b3
        have z3 := k3.size
        have y3 := r3.le
        have vv : W3.heap[W1.heap.size]? = _ := (((KeptR.refl P.R wr).trans b3).block W1.heap.size hV0 (by omega)).trans v0
        obtain ⟨⟨_, _, _, _⟩, _, _, _, _⟩ := t4 vv
        obtain rfl : Rs.ok nd b = res := by rw [← HR.out, arrayG]; simp [Rs.bind, mtT, q3]
        have m0 := M0.out _ k3
        obtain ⟨⟨_, _, _, _⟩, _, _, _, _⟩ := t4 m0
        go_wp2
        refine bodyPost_ret (res_n4 Tryz.results34 (t4_set _ _ _ _ m0) rfl) rfl ?_
        exact close_ok (x := nd) h (a0.trans k3) ((lN.keep ((KeptR.refl P.R wr).trans b3).size (fun b hb hl => ((KeptR.refl P.R wr).trans b3).block b hl (by have := hb.1; omega))).mono (fun b hb => hb.1)) (by omega) r3
end Go.Proofs.YtmfgcaffdkakhaaGreat
