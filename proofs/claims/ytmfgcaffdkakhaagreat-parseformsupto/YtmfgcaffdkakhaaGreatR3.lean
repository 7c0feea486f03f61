/- Own text. Package parse: the rules, one by one: else, bodies of arrows, blocks, properties. -/
import Derived.Test.YtmfgcaffdkakhaaGreatR2
namespace Go.Proofs.YtmfgcaffdkakhaaGreat
open Go.RowKit
set_option linter.unusedVariables false
set_option linter.unusedSimpArgs false

set_option maxRecDepth 100000 in
set_option maxHeartbeats 8000000 in
theorem else_step (L : List Tok) (hs : Small L) (f : Nat) (MN : Mono L f) (hS : CN 14 L f 20 (stmtF L f)) (hB : CN 71 L f 19 (blkF L f)) : CN 73 L (f + 1) 19 (elseF L (f + 1)) := by
  intro w P a o h ho hM
  have hRw := h.lt
  have hle := h.le
  obtain ⟨h0, a0, z0, M0⟩ := begin_cell h
  obtain ⟨res, hres⟩ : ∃ r, elseF L (f + 1) a o = r := ⟨_, rfl⟩
  have HR : Hid (elseF L (f + 1) a o = res) := hres
  rw [hres]
  clear hres
  have HS' : Hid (CN 14 L f 20 (stmtF L f)) := hS
  have HB' : Hid (CN 71 L f 19 (blkF L f)) := hB
  clear hS
  clear hB
  go_enter Tryz.func73, Tryz.ntmps73
  cases q1 : isWd L a wElse with
  | true =>
    have T1 := takeWord_any h0 wElse
    rw [q1] at T1
    have u1 := isWd_lt q1
    go_wp2_with fail
    go_at_call 66
    refine T1.mono ?_
    rintro e W1 ⟨rfl, r1', b1⟩
    have r1 : Rd W1 P L (a + 1) (opE o) := r1'
    clear r1'
    have k1 := (KeptR.refl P.R (w.alloc zN)).trans b1
    have z1 := k1.size
    have y1 := r1.le
    cases q2 : isWd L (a + 1) wIf with
    | true =>
      have T2 := standsWord_any r1 wIf
      rw [q2] at T2
      have u2 := isWd_lt q2
      go_wp2_with fail
      go_at_call 88
      refine T2.mono ?_
      rintro e W2 ⟨rfl, b2'⟩
      have r2 := r1.bel b2'
      have b2 := KeptR.of (b := P.R) b2'
      have k2 := k1.trans b2
      have z2 := k2.size
      have y2 := r2.le
      go_wp2_with fail
      go_at_call 14
      refine (HS'.out _ _ _ _ r2 (by omega) (by unfold Ms at *; omega)).mono ?_
      rintro e W3 A3
      cases h3 : stmtF L f (a + 1) o with
      | bad p er =>
        rw [h3] at A3
        obtain ⟨rfl, b3⟩ := A3
        obtain rfl : Rs.bad p er = res := by rw [← HR.out, elseF]; simp [Rs.bind, mtT, q1, q2, h3]
        exact ⟨rfl, rfl, a0.trans (k2.trans b3)⟩
      | ok x3 a3 =>
        rw [h3] at A3
        obtain ⟨ad3, c3, rfl, l3', r3, b3⟩ := A3
        have g3 := (MN.stmt' (a + 1) o) _ _ h3
        have y3 := r3.le
        have k3 := k2.trans b3
        have z3 := k3.size
        have l3 := l3'.mono (T := fun b => w.heap.size + 1 ≤ b) (fun b hb => by have := k2.size; omega)
        go_wp2_with fail
        go_at_call 35
        refine (node_any 52 ⟨#[]⟩ (some ⟨W3.heap.size, 0, none⟩) 1 1 _).mono ?_
        rintro e W4 ⟨rfl, b4'⟩
        have j4 : W4.heap[W3.heap.size]? = some (.cells #[Value.int IntKind.i64 x3.k, Value.string x3.t, Value.int IntKind.i64 x3.n, Value.slice ad3 x3.ks.length c3] 27 (0, 0)) := (b4'.block _ (by simp)).trans (heap_alloc_new W3 _)
        have r4 := (r3.bel ((Below.refl _ _).alloc (Nat.le_refl _) (Obj.cells #[Value.int IntKind.i64 x3.k, Value.string x3.t, Value.int IntKind.i64 x3.n, Value.slice ad3 x3.ks.length c3] 27))).bel b4'
        have b4 : KeptR P.R W3 W4 := (KeptR.of ((Below.refl _ _).alloc (Nat.le_refl _) _)).trans (.of b4')
        have k4 := k3.trans b4
        have z4 := k4.size
        have l4 : LAt W4 (fun b => w.heap.size + 1 ≤ b) (.slice (some ⟨W3.heap.size, 0, none⟩) 1 1) [x3] := LAt.n1 j4 (by have := k3.size; show _ ≤ _; omega) (l3.keepR ((KeptR.refl P.R W3).trans b4) (by omega))
        obtain rfl : Rs.ok (mk0 52 ⟨#[]⟩ [x3]) a3 = res := by rw [← HR.out, elseF]; simp [Rs.bind, mtT, q1, q2, h3]
        have m0 := M0.out _ k4
        obtain ⟨⟨_, _, _, _⟩, _, _, _, _⟩ := t4 m0
        go_wp2
        refine bodyPost_ret (res_n4 Tryz.results73 (t4_set _ _ _ _ m0) rfl) rfl ?_
        exact close_ok (x := (mk0 52 ⟨#[]⟩ [x3])) h (a0.trans k4) (l4.keepR (KeptR.refl P.R W4) (by omega)) (by omega) r4
    | false =>
      have T2 := standsWord_any r1 wIf
      rw [q2] at T2
      go_wp2_with fail
      go_at_call 88
      refine T2.mono ?_
      rintro e W2 ⟨rfl, b2'⟩
      have r2 := r1.bel b2'
      have b2 := KeptR.of (b := P.R) b2'
      have k2 := k1.trans b2
      have z2 := k2.size
      have y2 := r2.le
      go_wp2_with fail
      go_at_call 71
      refine (HB'.out _ _ _ _ r2 (by omega) (by unfold Ms at *; omega)).mono ?_
      rintro e W5 A5
      cases h5 : blkF L f (a + 1) o with
      | bad p er =>
        rw [h5] at A5
        obtain ⟨rfl, b5⟩ := A5
        obtain rfl : Rs.bad p er = res := by rw [← HR.out, elseF]; simp [Rs.bind, mtT, q1, q2, h5]
        exact ⟨rfl, rfl, a0.trans (k2.trans b5)⟩
      | ok x5 a5 =>
        rw [h5] at A5
        obtain ⟨ad5, c5, rfl, l5', r5, b5⟩ := A5
        have g5 := (MN.blk' (a + 1) o) _ _ h5
        have y5 := r5.le
        have k5 := k2.trans b5
        have z5 := k5.size
        have l5 := l5'.mono (T := fun b => w.heap.size + 1 ≤ b) (fun b hb => by have := k2.size; omega)
        obtain rfl : Rs.ok x5 a5 = res := by rw [← HR.out, elseF]; simp [Rs.bind, mtT, q1, q2, h5]
        have m0 := M0.out _ k5
        obtain ⟨⟨_, _, _, _⟩, _, _, _, _⟩ := t4 m0
        go_wp2
        refine bodyPost_ret (res_n4 Tryz.results73 (t4_set _ _ _ _ m0) rfl) rfl ?_
        exact close_ok (x := x5) h (a0.trans k5) (l5.keepR (KeptR.refl P.R W5) (by omega)) (by omega) r5
  | false =>
    have T1 := takeWord_any h0 wElse
    rw [q1] at T1
    go_wp2_with fail
    go_at_call 66
    refine T1.mono ?_
    rintro e W1 ⟨rfl, r1', b1⟩
    have r1 : Rd W1 P L a (opE o) := r1'
    clear r1'
    have k1 := (KeptR.refl P.R (w.alloc zN)).trans b1
    have z1 := k1.size
    have y1 := r1.le
    go_wp2_with fail
    go_at_call 35
    refine (node_any 14 ⟨#[]⟩ none 0 0 _).mono ?_
    rintro e W7 ⟨rfl, b7'⟩
    have r7 := r1.bel b7'
    have b7 := KeptR.of (b := P.R) b7'
    have k7 := k1.trans b7
    have z7 := k7.size
    obtain rfl : Rs.ok noneN a = res := by rw [← HR.out, elseF]; simp [Rs.bind, mtT, q1]
    have m0 := M0.out _ k7
    obtain ⟨⟨_, _, _, _⟩, _, _, _, _⟩ := t4 m0
    go_wp2
    refine bodyPost_ret (res_n4 Tryz.results73 (t4_set _ _ _ _ m0) rfl) rfl ?_
    exact close_ok (x := noneN) h (a0.trans k7) (LAt.nil (S := fun b => w.heap.size + 1 ≤ b) none 0) (by omega) r7
set_option maxRecDepth 100000 in
set_option maxHeartbeats 8000000 in
theorem abody_step (L : List Tok) (hs : Small L) (f : Nat) (MN : Mono L f) (hB : CN 71 L f 19 (blkF L f)) (hE : CN 12 L f 20 (exprF L f)) : CN 111 L (f + 1) 21 (abodyF L (f + 1)) := by
  intro w P a o h ho hM
  have hRw := h.lt
  have hle := h.le
  obtain ⟨h0, a0, z0, M0⟩ := begin_cell h
  obtain ⟨res, hres⟩ : ∃ r, abodyF L (f + 1) a o = r := ⟨_, rfl⟩
  have HR : Hid (abodyF L (f + 1) a o = res) := hres
  rw [hres]
  clear hres
  have HB' : Hid (CN 71 L f 19 (blkF L f)) := hB
  have HE' : Hid (CN 12 L f 20 (exprF L f)) := hE
  clear hB
  clear hE
  go_enter Tryz.func111, Tryz.ntmps111
  cases q8 : isS L a sCb with
  | true =>
    have T8 := stands_any h0 sCb
    rw [q8] at T8
    have u8 := isS_lt q8
    go_wp2_with fail
    go_at_call 30
    refine T8.mono ?_
    rintro e W8 ⟨rfl, b8'⟩
    have r8 := h0.bel b8'
    have b8 := KeptR.of (b := P.R) b8'
    have k8 := (KeptR.refl P.R (w.alloc zN)).trans b8
    have z8 := k8.size
    have y8 := r8.le
    go_wp2_with fail
    go_at_call 71
    refine (HB'.out _ _ _ _ r8 (by omega) (by unfold Ms at *; omega)).mono ?_
    rintro e W9 A9
    cases h9 : blkF L f a o with
    | bad p er =>
      rw [h9] at A9
      obtain ⟨rfl, b9⟩ := A9
      obtain rfl : Rs.bad p er = res := by rw [← HR.out, abodyF]; simp [Rs.bind, mtT, q8, h9]
      exact ⟨rfl, rfl, a0.trans (k8.trans b9)⟩
    | ok x9 a9 =>
      rw [h9] at A9
      obtain ⟨ad9, c9, rfl, l9', r9, b9⟩ := A9
      have g9 := (MN.blk' a o) _ _ h9
      have y9 := r9.le
      have k9 := k8.trans b9
      have z9 := k9.size
      have l9 := l9'.mono (T := fun b => w.heap.size + 1 ≤ b) (fun b hb => by have := k8.size; omega)
      obtain rfl : Rs.ok x9 a9 = res := by rw [← HR.out, abodyF]; simp [Rs.bind, mtT, q8, h9]
      have m0 := M0.out _ k9
      obtain ⟨⟨_, _, _, _⟩, _, _, _, _⟩ := t4 m0
      go_wp2
      refine bodyPost_ret (res_n4 Tryz.results111 (t4_set _ _ _ _ m0) rfl) rfl ?_
      exact close_ok (x := x9) h (a0.trans k9) (l9.keepR (KeptR.refl P.R W9) (by omega)) (by omega) r9
  | false =>
    have T8 := stands_any h0 sCb
    rw [q8] at T8
    go_wp2_with fail
    go_at_call 30
    refine T8.mono ?_
    rintro e W8 ⟨rfl, b8'⟩
    have r8 := h0.bel b8'
    have b8 := KeptR.of (b := P.R) b8'
    have k8 := (KeptR.refl P.R (w.alloc zN)).trans b8
    have z8 := k8.size
    have y8 := r8.le
    go_wp2_with fail
    go_at_call 12
    refine (HE'.out _ _ _ _ r8 (by omega) (by unfold Ms at *; omega)).mono ?_
    rintro e W10 A10
    cases h10 : exprF L f a o with
    | bad p er =>
      rw [h10] at A10
      obtain ⟨rfl, b10⟩ := A10
      obtain rfl : Rs.bad p er = res := by rw [← HR.out, abodyF]; simp [Rs.bind, mtT, q8, h10]
      exact ⟨rfl, rfl, a0.trans (k8.trans b10)⟩
    | ok x10 a10 =>
      rw [h10] at A10
      obtain ⟨ad10, c10, rfl, l10', r10, b10⟩ := A10
      have g10 := (MN.expr' a o) _ _ h10
      have y10 := r10.le
      have k10 := k8.trans b10
      have z10 := k10.size
      have l10 := l10'.mono (T := fun b => w.heap.size + 1 ≤ b) (fun b hb => by have := k8.size; omega)
      go_wp2_with fail
      go_at_call 35
      refine (node_any 50 ⟨#[]⟩ (some ⟨W10.heap.size, 0, none⟩) 1 1 _).mono ?_
      rintro e W11 ⟨rfl, b11'⟩
      have j11 : W11.heap[W10.heap.size]? = some (.cells #[Value.int IntKind.i64 x10.k, Value.string x10.t, Value.int IntKind.i64 x10.n, Value.slice ad10 x10.ks.length c10] 27 (0, 0)) := (b11'.block _ (by simp)).trans (heap_alloc_new W10 _)
      have r11 := (r10.bel ((Below.refl _ _).alloc (Nat.le_refl _) (Obj.cells #[Value.int IntKind.i64 x10.k, Value.string x10.t, Value.int IntKind.i64 x10.n, Value.slice ad10 x10.ks.length c10] 27))).bel b11'
      have b11 : KeptR P.R W10 W11 := (KeptR.of ((Below.refl _ _).alloc (Nat.le_refl _) _)).trans (.of b11')
      have k11 := k10.trans b11
      have z11 := k11.size
      have l11 : LAt W11 (fun b => w.heap.size + 1 ≤ b) (.slice (some ⟨W10.heap.size, 0, none⟩) 1 1) [x10] := LAt.n1 j11 (by have := k10.size; show _ ≤ _; omega) (l10.keepR ((KeptR.refl P.R W10).trans b11) (by omega))
      go_wp2_with fail
      go_at_call 35
      refine (node_any 52 ⟨#[]⟩ (some ⟨W11.heap.size, 0, none⟩) 1 1 _).mono ?_
      rintro e W12 ⟨rfl, b12'⟩
      have j12 : W12.heap[W11.heap.size]? = some (.cells #[Value.int IntKind.i64 50, Value.string ⟨#[]⟩, Value.int IntKind.i64 0, Value.slice (some ⟨W10.heap.size, 0, none⟩) 1 1] 27 (0, 0)) := (b12'.block _ (by simp)).trans (heap_alloc_new W11 _)
      have r12 := (r11.bel ((Below.refl _ _).alloc (Nat.le_refl _) (Obj.cells #[Value.int IntKind.i64 50, Value.string ⟨#[]⟩, Value.int IntKind.i64 0, Value.slice (some ⟨W10.heap.size, 0, none⟩) 1 1] 27))).bel b12'
      have b12 : KeptR P.R W11 W12 := (KeptR.of ((Below.refl _ _).alloc (Nat.le_refl _) _)).trans (.of b12')
      have k12 := k11.trans b12
      have z12 := k12.size
      have l12 : LAt W12 (fun b => w.heap.size + 1 ≤ b) (.slice (some ⟨W11.heap.size, 0, none⟩) 1 1) [(mk0 50 ⟨#[]⟩ [x10])] := LAt.n1 j12 (by have := k11.size; show _ ≤ _; omega) (l11.keepR ((KeptR.refl P.R W11).trans b12) (by omega))
      obtain rfl : Rs.ok (mk0 52 ⟨#[]⟩ [(mk0 50 ⟨#[]⟩ [x10])]) a10 = res := by rw [← HR.out, abodyF]; simp [Rs.bind, mtT, q8, h10]
      have m0 := M0.out _ k12
      obtain ⟨⟨_, _, _, _⟩, _, _, _, _⟩ := t4 m0
      go_wp2
      refine bodyPost_ret (res_n4 Tryz.results111 (t4_set _ _ _ _ m0) rfl) rfl ?_
      exact close_ok (x := (mk0 52 ⟨#[]⟩ [(mk0 50 ⟨#[]⟩ [x10])])) h (a0.trans k12) (l12.keepR (KeptR.refl P.R W12) (by omega)) (by omega) r12
set_option maxRecDepth 100000 in
set_option maxHeartbeats 8000000 in
theorem block_step (L : List Tok) (hs : Small L) (f : Nat) (MN : Mono L f) (hS : CN 14 L f 20 (stmtF L f)) : CN 71 L (f + 1) 19 (blkF L (f + 1)) := by
  intro w P a o h ho hM
  have hRw := h.lt
  have hle := h.le
  obtain ⟨h0, a0, z0, M0⟩ := begin_cell h
  obtain ⟨res, hres⟩ : ∃ r, blkF L (f + 1) a o = r := ⟨_, rfl⟩
  have HR : Hid (blkF L (f + 1) a o = res) := hres
  rw [hres]
  clear hres
  have HS' : Hid (CN 14 L f 20 (stmtF L f)) := hS
  clear hS
  go_enter Tryz.func71, Tryz.ntmps71
  go_wp2_with fail
  go_at_call 96
  refine (block_any (k := 14) (rs := #[.pointer (some ⟨P.R, 0, none⟩)]) (caps := #[]) eg_aStmt (fun b => stmtF L f b o) _ _ h0 (fun b x c hx => MN.stmt' b o _ _ hx) (fun W b hb r => HS'.out _ _ _ _ r (by omega) (by have := r.le; unfold Ms at *; omega))).mono ?_
  rintro e W13 A13
  cases h13 : blockG L (fun b => stmtF L f b o) a with
  | bad p er =>
    rw [h13] at A13
    obtain ⟨rfl, b13⟩ := A13
    obtain rfl : Rs.bad p er = res := by rw [← HR.out, blkF]; simp [Rs.bind, mtT, h13]
    exact ⟨rfl, rfl, a0.trans ((KeptR.refl P.R (w.alloc zN)).trans b13)⟩
  | ok x13 a13 =>
    rw [h13] at A13
    obtain ⟨ad13, c13, rfl, l13', r13, b13⟩ := A13
    have y13 := r13.le
    have k13 := (KeptR.refl P.R (w.alloc zN)).trans b13
    have z13 := k13.size
    have l13 := l13'.mono (T := fun b => w.heap.size + 1 ≤ b) (fun b hb => by have := (KeptR.refl P.R (w.alloc zN)).size; omega)
    obtain rfl : Rs.ok x13 a13 = res := by rw [← HR.out, blkF]; simp [Rs.bind, mtT, h13]
    have m0 := M0.out _ k13
    obtain ⟨⟨_, _, _, _⟩, _, _, _, _⟩ := t4 m0
    go_wp2
    refine bodyPost_ret (res_n4 Tryz.results71 (t4_set _ _ _ _ m0) rfl) rfl ?_
    exact close_ok (x := x13) h (a0.trans k13) (l13.keepR (KeptR.refl P.R W13) (by omega)) (by omega) r13
theorem propR_t {L : List Tok} {a b : Nat} {t : ByteArray} (h : propR' L a = .ok t b) : t = (tokA L a).t := by
  unfold propR' at h
  split at h
  · cases h; rfl
  · cases h
set_option maxRecDepth 100000 in
set_option maxHeartbeats 8000000 in
theorem prop_step (L : List Tok) (hs : Small L) (f : Nat) (MN : Mono L f) (hE : CN 12 L f 20 (exprF L f)) : CN 109 L (f + 1) 5 (propF L (f + 1)) := by
  intro w P a o h ho hM
  have hRw := h.lt
  have hle := h.le
  obtain ⟨h0, a0, z0, M0⟩ := begin_cell h
  obtain ⟨res, hres⟩ : ∃ r, propF L (f + 1) a o = r := ⟨_, rfl⟩
  have HR : Hid (propF L (f + 1) a o = res) := hres
  rw [hres]
  clear hres
  have HE' : Hid (CN 12 L f 20 (exprF L f)) := hE
  clear hE
  go_enter Tryz.func109, Tryz.ntmps109
  cases q14 : isN L a with
  | true =>
    have T14 := standsId_any h0
    rw [q14] at T14
    have u14 := isN_lt q14
    go_wp2_with fail
    go_at_call 87
    refine T14.mono ?_
    rintro e W14 ⟨rfl, b14'⟩
    have r14 := h0.bel b14'
    have b14 := KeptR.of (b := P.R) b14'
    have k14 := (KeptR.refl P.R (w.alloc zN)).trans b14
    have z14 := k14.size
    have y14 := r14.le
    go_wp2_with fail
    go_at_call 102
    refine (prop_any r14 hs).mono ?_
    rintro e W15 A15
    cases h15 : propR' L a with
    | bad p er =>
      rw [h15] at A15
      obtain ⟨rfl, b15⟩ := A15
      obtain rfl : Rs.bad p er = res := by rw [← HR.out, propF]; simp [Rs.bind, mtT, q14, h15]
      exact ⟨rfl, rfl, a0.trans (k14.trans b15)⟩
    | ok x15 a15 =>
      rw [h15] at A15
      obtain ⟨rfl, r15, b15⟩ := A15
      have g15 := (prop_ge L a) _ _ h15
      have y15 := r15.le
      have k15 := k14.trans b15
      have z15 := k15.size
      cases q16 : isS L a15 sCo with
      | true =>
        have T16 := take_any r15 sCo
        rw [q16] at T16
        have u16 := isS_lt q16
        go_wp2_with fail
        go_at_call 33
        refine T16.mono ?_
        rintro e W16 ⟨rfl, r16', b16⟩
        have r16 : Rd W16 P L (a15 + 1) (opE o) := r16'
        clear r16'
        have k16 := k15.trans b16
        have z16 := k16.size
        have y16 := r16.le
        go_wp2_with fail
        go_at_call 12
        refine (HE'.out _ _ _ _ r16 (by omega) (by unfold Ms at *; omega)).mono ?_
        rintro e W17 A17
        cases h17 : exprF L f (a15 + 1) o with
        | bad p er =>
          rw [h17] at A17
          obtain ⟨rfl, b17⟩ := A17
          obtain rfl : Rs.bad p er = res := by rw [← HR.out, propF]; simp [Rs.bind, mtT, q14, h15, q16, h17]
          exact ⟨rfl, rfl, a0.trans (k16.trans b17)⟩
        | ok x17 a17 =>
          rw [h17] at A17
          obtain ⟨ad17, c17, rfl, l17', r17, b17⟩ := A17
          have g17 := (MN.expr' (a15 + 1) o) _ _ h17
          have y17 := r17.le
          have k17 := k16.trans b17
          have z17 := k17.size
          have l17 := l17'.mono (T := fun b => w.heap.size + 1 ≤ b) (fun b hb => by have := k16.size; omega)
          go_wp2_with fail
          go_at_call 35
          refine (node_any 10 x15 (some ⟨W17.heap.size, 0, none⟩) 1 1 _).mono ?_
          rintro e W18 ⟨rfl, b18'⟩
          have j18 : W18.heap[W17.heap.size]? = some (.cells #[Value.int IntKind.i64 x17.k, Value.string x17.t, Value.int IntKind.i64 x17.n, Value.slice ad17 x17.ks.length c17] 27 (0, 0)) := (b18'.block _ (by simp)).trans (heap_alloc_new W17 _)
          have r18 := (r17.bel ((Below.refl _ _).alloc (Nat.le_refl _) (Obj.cells #[Value.int IntKind.i64 x17.k, Value.string x17.t, Value.int IntKind.i64 x17.n, Value.slice ad17 x17.ks.length c17] 27))).bel b18'
          have b18 : KeptR P.R W17 W18 := (KeptR.of ((Below.refl _ _).alloc (Nat.le_refl _) _)).trans (.of b18')
          have k18 := k17.trans b18
          have z18 := k18.size
          have l18 : LAt W18 (fun b => w.heap.size + 1 ≤ b) (.slice (some ⟨W17.heap.size, 0, none⟩) 1 1) [x17] := LAt.n1 j18 (by have := k17.size; show _ ≤ _; omega) (l17.keepR ((KeptR.refl P.R W17).trans b18) (by omega))
          obtain rfl : Rs.ok (mk0 10 x15 [x17]) a17 = res := by rw [← HR.out, propF]; simp [Rs.bind, mtT, q14, h15, q16, h17]
          have m0 := M0.out _ k18
          obtain ⟨⟨_, _, _, _⟩, _, _, _, _⟩ := t4 m0
          go_wp2
          refine bodyPost_ret (res_n4 Tryz.results109 (t4_set _ _ _ _ m0) rfl) rfl ?_
          exact close_ok (x := (mk0 10 x15 [x17])) h (a0.trans k18) (l18.keepR (KeptR.refl P.R W18) (by omega)) (by omega) r18
      | false =>
        have T16 := take_any r15 sCo
        rw [q16] at T16
        go_wp2_with fail
        go_at_call 33
        refine T16.mono ?_
        rintro e W16 ⟨rfl, r16', b16⟩
        have r16 : Rd W16 P L a15 (opE o) := r16'
        clear r16'
        have k16 := k15.trans b16
        have z16 := k16.size
        have y16 := r16.le
        go_wp2_with fail
        go_at_call 86
        refine (clone_any x15 _ (by have := hs.at a; rw [← propR_t h15] at this; omega)).mono ?_
        rintro e W19 ⟨rfl, b19'⟩
        have r19 := r16.bel b19'
        have b19 := KeptR.of (b := P.R) b19'
        have k19 := k16.trans b19
        have z19 := k19.size
        go_wp2_with fail
        go_at_call 35
        refine (node_any 6 x15 none 0 0 _).mono ?_
        rintro e W21 ⟨rfl, b21'⟩
        have r21 := r19.bel b21'
        have b21 := KeptR.of (b := P.R) b21'
        have k21 := k19.trans b21
        have z21 := k21.size
        go_wp2_with fail
        go_at_call 35
        refine (node_any 10 x15 (some ⟨W21.heap.size, 0, none⟩) 1 1 _).mono ?_
        rintro e W22 ⟨rfl, b22'⟩
        have j22 : W22.heap[W21.heap.size]? = some (.cells #[Value.int IntKind.i64 6, Value.string x15, Value.int IntKind.i64 0, Value.slice none 0 0] 27 (0, 0)) := (b22'.block _ (by simp)).trans (heap_alloc_new W21 _)
        have r22 := (r21.bel ((Below.refl _ _).alloc (Nat.le_refl _) (Obj.cells #[Value.int IntKind.i64 6, Value.string x15, Value.int IntKind.i64 0, Value.slice none 0 0] 27))).bel b22'
        have b22 : KeptR P.R W21 W22 := (KeptR.of ((Below.refl _ _).alloc (Nat.le_refl _) _)).trans (.of b22')
        have k22 := k21.trans b22
        have z22 := k22.size
        have l22 : LAt W22 (fun b => w.heap.size + 1 ≤ b) (.slice (some ⟨W21.heap.size, 0, none⟩) 1 1) [(mk0 6 x15 [])] := LAt.n1 j22 (by have := k21.size; show _ ≤ _; omega) (LAt.nil (S := fun b => w.heap.size + 1 ≤ b) none 0)
        obtain rfl : Rs.ok (mk0 10 x15 [(mk0 6 x15 [])]) a15 = res := by rw [← HR.out, propF]; simp [Rs.bind, mtT, q14, h15, q16]
        have m0 := M0.out _ k22
        obtain ⟨⟨_, _, _, _⟩, _, _, _, _⟩ := t4 m0
        go_wp2
        refine bodyPost_ret (res_n4 Tryz.results109 (t4_set _ _ _ _ m0) rfl) rfl ?_
        exact close_ok (x := (mk0 10 x15 [(mk0 6 x15 [])])) h (a0.trans k22) (l22.keepR (KeptR.refl P.R W22) (by omega)) (by omega) r22
  | false =>
    have T14 := standsId_any h0
    rw [q14] at T14
    go_wp2_with fail
    go_at_call 87
    refine T14.mono ?_
    rintro e W14 ⟨rfl, b14'⟩
    have r14 := h0.bel b14'
    have b14 := KeptR.of (b := P.R) b14'
    have k14 := (KeptR.refl P.R (w.alloc zN)).trans b14
    have z14 := k14.size
    have y14 := r14.le
    go_wp2_with fail
    go_at_call 102
    refine (prop_any r14 hs).mono ?_
    rintro e W23 A23
    cases h23 : propR' L a with
    | bad p er =>
      rw [h23] at A23
      obtain ⟨rfl, b23⟩ := A23
      obtain rfl : Rs.bad p er = res := by rw [← HR.out, propF]; simp [Rs.bind, mtT, q14, h23]
      exact ⟨rfl, rfl, a0.trans (k14.trans b23)⟩
    | ok x23 a23 =>
      rw [h23] at A23
      obtain ⟨rfl, r23, b23⟩ := A23
      have g23 := (prop_ge L a) _ _ h23
      have y23 := r23.le
      have k23 := k14.trans b23
      have z23 := k23.size
      cases q24 : isS L a23 sCo with
      | true =>
        have T24 := take_any r23 sCo
        rw [q24] at T24
        have u24 := isS_lt q24
        go_wp2_with fail
        go_at_call 33
        refine T24.mono ?_
        rintro e W24 ⟨rfl, r24', b24⟩
        have r24 : Rd W24 P L (a23 + 1) (opE o) := r24'
        clear r24'
        have k24 := k23.trans b24
        have z24 := k24.size
        have y24 := r24.le
        go_wp2_with fail
        go_at_call 12
        refine (HE'.out _ _ _ _ r24 (by omega) (by unfold Ms at *; omega)).mono ?_
        rintro e W25 A25
        cases h25 : exprF L f (a23 + 1) o with
        | bad p er =>
          rw [h25] at A25
          obtain ⟨rfl, b25⟩ := A25
          obtain rfl : Rs.bad p er = res := by rw [← HR.out, propF]; simp [Rs.bind, mtT, q14, h23, q24, h25]
          exact ⟨rfl, rfl, a0.trans (k24.trans b25)⟩
        | ok x25 a25 =>
          rw [h25] at A25
          obtain ⟨ad25, c25, rfl, l25', r25, b25⟩ := A25
          have g25 := (MN.expr' (a23 + 1) o) _ _ h25
          have y25 := r25.le
          have k25 := k24.trans b25
          have z25 := k25.size
          have l25 := l25'.mono (T := fun b => w.heap.size + 1 ≤ b) (fun b hb => by have := k24.size; omega)
          go_wp2_with fail
          go_at_call 35
          refine (node_any 10 x23 (some ⟨W25.heap.size, 0, none⟩) 1 1 _).mono ?_
          rintro e W26 ⟨rfl, b26'⟩
          have j26 : W26.heap[W25.heap.size]? = some (.cells #[Value.int IntKind.i64 x25.k, Value.string x25.t, Value.int IntKind.i64 x25.n, Value.slice ad25 x25.ks.length c25] 27 (0, 0)) := (b26'.block _ (by simp)).trans (heap_alloc_new W25 _)
          have r26 := (r25.bel ((Below.refl _ _).alloc (Nat.le_refl _) (Obj.cells #[Value.int IntKind.i64 x25.k, Value.string x25.t, Value.int IntKind.i64 x25.n, Value.slice ad25 x25.ks.length c25] 27))).bel b26'
          have b26 : KeptR P.R W25 W26 := (KeptR.of ((Below.refl _ _).alloc (Nat.le_refl _) _)).trans (.of b26')
          have k26 := k25.trans b26
          have z26 := k26.size
          have l26 : LAt W26 (fun b => w.heap.size + 1 ≤ b) (.slice (some ⟨W25.heap.size, 0, none⟩) 1 1) [x25] := LAt.n1 j26 (by have := k25.size; show _ ≤ _; omega) (l25.keepR ((KeptR.refl P.R W25).trans b26) (by omega))
          obtain rfl : Rs.ok (mk0 10 x23 [x25]) a25 = res := by rw [← HR.out, propF]; simp [Rs.bind, mtT, q14, h23, q24, h25]
          have m0 := M0.out _ k26
          obtain ⟨⟨_, _, _, _⟩, _, _, _, _⟩ := t4 m0
          go_wp2
          refine bodyPost_ret (res_n4 Tryz.results109 (t4_set _ _ _ _ m0) rfl) rfl ?_
          exact close_ok (x := (mk0 10 x23 [x25])) h (a0.trans k26) (l26.keepR (KeptR.refl P.R W26) (by omega)) (by omega) r26
      | false =>
        have T24 := take_any r23 sCo
        rw [q24] at T24
        go_wp2_with fail
        go_at_call 33
        refine T24.mono ?_
        rintro e W24 ⟨rfl, r24', b24⟩
        have r24 : Rd W24 P L a23 (opE o) := r24'
        clear r24'
        have k24 := k23.trans b24
        have z24 := k24.size
        have y24 := r24.le
        go_wp2_with fail
        go_at_call 58
        refine (wrong_any r24).mono ?_
        rintro e W27 ⟨rfl, b27'⟩
        obtain rfl : Rs.bad a23 60 = res := by rw [← HR.out, propF]; simp [Rs.bind, mtT, q14, h23, q24]
        go_wp2
        exact ⟨rfl, rfl, a0.trans (k24.trans (.of b27'))⟩
end Go.Proofs.YtmfgcaffdkakhaaGreat
