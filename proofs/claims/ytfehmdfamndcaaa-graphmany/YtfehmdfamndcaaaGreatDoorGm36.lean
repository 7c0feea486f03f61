/- Own text. Package parse: the rules, one by one: conditions, statements opened and closed, types or nothing. -/
import Derived.Test.YtfehmdfamndcaaaGreatDoorGm23
namespace Go.Proofs.YtfehmdfamndcaaaGreatDoor
open Go.RowKit
set_option linter.unusedVariables false
set_option linter.unusedSimpArgs false

theorem beginR_ok {L : List Tok} {a o b : Nat} {u : Unit} (h : beginR L a o = .ok u b) : a = b ∧ a < L.length ∧ o < 400 := by
  unfold beginR at h
  split at h
  · cases h
  · split at h
    · cases h
    · cases h; omega
set_option maxRecDepth 100000 in
set_option maxHeartbeats 8000000 in
theorem condi_step (L : List Tok) (hs : Small L) (f : Nat) (MN : Mono L f) (hE : CN 138 L f 20 (exprF L f)) : CN 143 L (f + 1) 21 (condiF L (f + 1)) := by
  intro w P a o h ho hM
  have hRw := h.lt
  have hle := h.le
  obtain ⟨h0, a0, z0, M0⟩ := begin_cell h
  obtain ⟨res, hres⟩ : ∃ r, condiF L (f + 1) a o = r := ⟨_, rfl⟩
  have HR : Hid (condiF L (f + 1) a o = res) := hres
  rw [hres]
  clear hres
  have HE' : Hid (CN 138 L f 20 (exprF L f)) := hE
  clear hE
  go_enter Tryz.func143, Tryz.ntmps143
  go_wp2_with fail
  go_at_call 61
  refine (want_any h0 sPo).mono ?_
  rintro e W1 A1
  cases h1 : wantR L sPo a with
  | bad p er =>
    rw [h1] at A1
    obtain ⟨rfl, b1⟩ := A1
    obtain rfl : Rs.bad p er = res := by rw [← HR.out, condiF]; simp [Rs.bind, mtT, h1]
    exact ⟨rfl, rfl, a0.trans ((KeptR.refl P.R (w.alloc zN)).trans b1)⟩
  | ok x1 a1 =>
    rw [h1] at A1
    obtain ⟨rfl, r1, b1⟩ := A1
    have g1 := (want_ge L sPo a) _ _ h1
    have y1 := r1.le
    have k1 := (KeptR.refl P.R (w.alloc zN)).trans b1
    have z1 := k1.size
    go_wp2_with fail
    go_at_call 138
    refine (HE'.out _ _ _ _ r1 (by omega) (by unfold Ms at *; omega)).mono ?_
    rintro e W2 A2
    cases h2 : exprF L f a1 o with
    | bad p er =>
      rw [h2] at A2
      obtain ⟨rfl, b2⟩ := A2
      obtain rfl : Rs.bad p er = res := by rw [← HR.out, condiF]; simp [Rs.bind, mtT, h1, h2]
      exact ⟨rfl, rfl, a0.trans (k1.trans b2)⟩
    | ok x2 a2 =>
      rw [h2] at A2
      obtain ⟨ad2, c2, rfl, l2', r2, b2⟩ := A2
      have g2 := (MN.expr' a1 o) _ _ h2
      have y2 := r2.le
      have k2 := k1.trans b2
      have z2 := k2.size
      have l2 := l2'.mono (T := fun b => w.heap.size + 1 ≤ b) (fun b hb => by have := k1.size; omega)
      go_wp2_with fail
      go_at_call 61
      refine (want_any (r2.bel ((Below.refl _ _).alloc (Nat.le_refl _) (Obj.cells #[Value.int IntKind.i64 x2.k, Value.string x2.t, Value.int IntKind.i64 x2.n, Value.slice ad2 x2.ks.length c2] 62))) sPc).mono ?_
      rintro e W4 A4
      cases h4 : wantR L sPc a2 with
      | bad p er =>
        rw [h4] at A4
        obtain ⟨rfl, b4⟩ := A4
        obtain rfl : Rs.bad p er = res := by rw [← HR.out, condiF]; simp [Rs.bind, mtT, h1, h2, h4]
        exact ⟨rfl, rfl, a0.trans ((k2.alloc (Obj.cells #[Value.int IntKind.i64 x2.k, Value.string x2.t, Value.int IntKind.i64 x2.n, Value.slice ad2 x2.ks.length c2] 62)).trans b4)⟩
      | ok x4 a4 =>
        rw [h4] at A4
        obtain ⟨rfl, r4, b4⟩ := A4
        have g4 := (want_ge L sPc a2) _ _ h4
        have y4 := r4.le
        have k4 := (k2.alloc (Obj.cells #[Value.int IntKind.i64 x2.k, Value.string x2.t, Value.int IntKind.i64 x2.n, Value.slice ad2 x2.ks.length c2] 62)).trans b4
        have z4 := k4.size
        have v3 : W4.heap[W2.heap.size]? = some (.cells #[Value.int IntKind.i64 x2.k, Value.string x2.t, Value.int IntKind.i64 x2.n, Value.slice ad2 x2.ks.length c2] 62 (0, 0)) := (((KeptR.refl P.R (W2.alloc (Obj.cells #[Value.int IntKind.i64 x2.k, Value.string x2.t, Value.int IntKind.i64 x2.n, Value.slice ad2 x2.ks.length c2] 62))).trans b4).block (W2.heap.size) (by simp) (by have := k2.size; omega)).trans (heap_alloc_new W2 _)
        obtain ⟨⟨_, _, _, _⟩, _, _, _, _⟩ := t4 v3
        obtain rfl : Rs.ok x2 a4 = res := by rw [← HR.out, condiF]; simp [Rs.bind, mtT, h1, h2, h4]
        have m0 := M0.out _ k4
        obtain ⟨⟨_, _, _, _⟩, _, _, _, _⟩ := t4 m0
        go_wp2
        refine bodyPost_ret (res_n4 Tryz.results143 (t4_set _ _ _ _ m0) rfl) rfl ?_
        exact close_ok (x := x2) h (a0.trans k4) (l2.keepR (((KeptR.refl P.R W2).alloc (Obj.cells #[Value.int IntKind.i64 x2.k, Value.string x2.t, Value.int IntKind.i64 x2.n, Value.slice ad2 x2.ks.length c2] 62)).trans b4) (by omega)) (by omega) r4
set_option maxRecDepth 100000 in
set_option maxHeartbeats 8000000 in
theorem stmt_step (L : List Tok) (hs : Small L) (f : Nat) (MN : Mono L f) (hAny : CN 131 L f 22 (anyF L f)) : CN 114 L (f + 1) 20 (stmtF L (f + 1)) := by
  intro w P a o h ho hM
  have hRw := h.lt
  have hle := h.le
  obtain ⟨h0, a0, z0, M0⟩ := begin_cell h
  obtain ⟨res, hres⟩ : ∃ r, stmtF L (f + 1) a o = r := ⟨_, rfl⟩
  have HR : Hid (stmtF L (f + 1) a o = res) := hres
  rw [hres]
  clear hres
  have HANY' : Hid (CN 131 L f 22 (anyF L f)) := hAny
  clear hAny
  go_enter Tryz.func114, Tryz.ntmps114
  go_wp2_with fail
  go_at_call 128
  refine (begin_any h0 (by omega)).mono ?_
  rintro e W5 A5
  cases h5 : beginR L a o with
  | bad p er =>
    rw [h5] at A5
    obtain ⟨rfl, b5⟩ := A5
    obtain rfl : Rs.bad p er = res := by rw [← HR.out, stmtF]; simp [Rs.bind, mtT, h5]
    exact ⟨rfl, rfl, a0.trans ((KeptR.refl P.R (w.alloc zN)).trans b5)⟩
  | ok x5 a5 =>
    rw [h5] at A5
    obtain ⟨rfl, r5, b5⟩ := A5
    have y5 := r5.le
    have k5 := (KeptR.refl P.R (w.alloc zN)).trans b5
    have z5 := k5.size
    obtain ⟨rfl, e1, e2⟩ := beginR_ok h5
    go_wp2_with fail
    go_at_call 131
    refine (HANY'.out _ _ _ _ r5 (by omega) (by unfold Ms at *; omega)).mono ?_
    rintro e W6 A6
    cases h6 : anyF L f a (o + 1) with
    | bad p er =>
      rw [h6] at A6
      obtain ⟨rfl, b6⟩ := A6
      obtain rfl : Rs.bad p er = res := by rw [← HR.out, stmtF]; simp [Rs.bind, mtT, h5, h6]
      exact ⟨rfl, rfl, a0.trans (k5.trans b6)⟩
    | ok x6 a6 =>
      rw [h6] at A6
      obtain ⟨ad6, c6, rfl, l6', r6, b6⟩ := A6
      have g6 := (MN.any' a (o + 1)) _ _ h6
      have y6 := r6.le
      have k6 := k5.trans b6
      have z6 := k6.size
      have l6 := l6'.mono (T := fun b => w.heap.size + 1 ≤ b) (fun b hb => by have := k5.size; omega)
      go_wp2_with fail
      go_at_call 130
      refine (end_any (r6.bel ((Below.refl _ _).alloc (Nat.le_refl _) (Obj.cells #[Value.int IntKind.i64 x6.k, Value.string x6.t, Value.int IntKind.i64 x6.n, Value.slice ad6 x6.ks.length c6] 62))) (by omega)).mono ?_
      rintro e W8 ⟨rfl, r8, b8⟩
      have k8 := (k6.alloc (Obj.cells #[Value.int IntKind.i64 x6.k, Value.string x6.t, Value.int IntKind.i64 x6.n, Value.slice ad6 x6.ks.length c6] 62)).trans b8
      have z8 := k8.size
      have v7 : W8.heap[W6.heap.size]? = some (.cells #[Value.int IntKind.i64 x6.k, Value.string x6.t, Value.int IntKind.i64 x6.n, Value.slice ad6 x6.ks.length c6] 62 (0, 0)) := (((KeptR.refl P.R (W6.alloc (Obj.cells #[Value.int IntKind.i64 x6.k, Value.string x6.t, Value.int IntKind.i64 x6.n, Value.slice ad6 x6.ks.length c6] 62))).trans b8).block (W6.heap.size) (by simp) (by have := k6.size; omega)).trans (heap_alloc_new W6 _)
      obtain ⟨⟨_, _, _, _⟩, _, _, _, _⟩ := t4 v7
      obtain rfl : Rs.ok x6 a6 = res := by rw [← HR.out, stmtF]; simp [Rs.bind, mtT, h5, h6]
      have m0 := M0.out _ k8
      obtain ⟨⟨_, _, _, _⟩, _, _, _, _⟩ := t4 m0
      go_wp2
      refine bodyPost_ret (res_n4 Tryz.results114 (t4_set _ _ _ _ m0) rfl) rfl ?_
      exact close_ok (x := x6) h (a0.trans k8) (l6.keepR (((KeptR.refl P.R W6).alloc (Obj.cells #[Value.int IntKind.i64 x6.k, Value.string x6.t, Value.int IntKind.i64 x6.n, Value.slice ad6 x6.ks.length c6] 62)).trans b8) (by omega)) (by omega) r8
set_option maxRecDepth 100000 in
set_option maxHeartbeats 8000000 in
theorem typing_step (L : List Tok) (hs : Small L) (f : Nat) (MN : Mono L f) (hT : CN 113 L f 20 (typeF L f)) : CN 155 L (f + 1) 18 (typingF L (f + 1)) := by
  intro w P a o h ho hM
  have hRw := h.lt
  have hle := h.le
  obtain ⟨h0, a0, z0, M0⟩ := begin_cell h
  obtain ⟨res, hres⟩ : ∃ r, typingF L (f + 1) a o = r := ⟨_, rfl⟩
  have HR : Hid (typingF L (f + 1) a o = res) := hres
  rw [hres]
  clear hres
  have HT' : Hid (CN 113 L f 20 (typeF L f)) := hT
  clear hT
  go_enter Tryz.func155, Tryz.ntmps155
  go_wp2_with fail
  go_at_call 61
  refine (want_any h0 sCo).mono ?_
  rintro e W9 A9
  cases h9 : wantR L sCo a with
  | bad p er =>
    rw [h9] at A9
    obtain ⟨rfl, b9⟩ := A9
    obtain rfl : Rs.bad p er = res := by rw [← HR.out, typingF]; simp [Rs.bind, mtT, h9]
    exact ⟨rfl, rfl, a0.trans ((KeptR.refl P.R (w.alloc zN)).trans b9)⟩
  | ok x9 a9 =>
    rw [h9] at A9
    obtain ⟨rfl, r9, b9⟩ := A9
    have g9 := (want_ge L sCo a) _ _ h9
    have y9 := r9.le
    have k9 := (KeptR.refl P.R (w.alloc zN)).trans b9
    have z9 := k9.size
    go_wp2_with fail
    go_at_call 113
    refine (HT'.out _ _ _ _ r9 (by omega) (by unfold Ms at *; omega)).mono ?_
    rintro e W10 A10
    cases h10 : typeF L f a9 o with
    | bad p er =>
      rw [h10] at A10
      obtain ⟨rfl, b10⟩ := A10
      obtain rfl : Rs.bad p er = res := by rw [← HR.out, typingF]; simp [Rs.bind, mtT, h9, h10]
      exact ⟨rfl, rfl, a0.trans (k9.trans b10)⟩
    | ok x10 a10 =>
      rw [h10] at A10
      obtain ⟨ad10, c10, rfl, l10', r10, b10⟩ := A10
      have g10 := (MN.type' a9 o) _ _ h10
      have y10 := r10.le
      have k10 := k9.trans b10
      have z10 := k10.size
      have l10 := l10'.mono (T := fun b => w.heap.size + 1 ≤ b) (fun b hb => by have := k9.size; omega)
      obtain rfl : Rs.ok x10 a10 = res := by rw [← HR.out, typingF]; simp [Rs.bind, mtT, h9, h10]
      have m0 := M0.out _ k10
      obtain ⟨⟨_, _, _, _⟩, _, _, _, _⟩ := t4 m0
      go_wp2
      refine bodyPost_ret (res_n4 Tryz.results155 (t4_set _ _ _ _ m0) rfl) rfl ?_
      exact close_ok (x := x10) h (a0.trans k10) (l10.keepR (KeptR.refl P.R W10) (by omega)) (by omega) r10
set_option maxRecDepth 100000 in
set_option maxHeartbeats 8000000 in
theorem typeOr_step (L : List Tok) (hs : Small L) (f : Nat) (MN : Mono L f) (hTy : CN 155 L f 18 (typingF L f)) : CN 141 L (f + 1) 19 (typeOrF L (f + 1)) := by
  intro w P a o h ho hM
  have hRw := h.lt
  have hle := h.le
  obtain ⟨h0, a0, z0, M0⟩ := begin_cell h
  obtain ⟨res, hres⟩ : ∃ r, typeOrF L (f + 1) a o = r := ⟨_, rfl⟩
  have HR : Hid (typeOrF L (f + 1) a o = res) := hres
  rw [hres]
  clear hres
  have HTY' : Hid (CN 155 L f 18 (typingF L f)) := hTy
  clear hTy
  go_enter Tryz.func141, Tryz.ntmps141
  cases q11 : isS L a sCo with
  | true =>
    have T11 := stands_any h0 sCo
    rw [q11] at T11
    have u11 := isS_lt q11
    go_wp2_with fail
    go_at_call 73
    refine T11.mono ?_
    rintro e W11 ⟨rfl, b11'⟩
    have r11 := h0.bel b11'
    have b11 := KeptR.of (b := P.R) b11'
    have k11 := (KeptR.refl P.R (w.alloc zN)).trans b11
    have z11 := k11.size
    have y11 := r11.le
    go_wp2_with fail
    go_at_call 155
    refine (HTY'.out _ _ _ _ r11 (by omega) (by unfold Ms at *; omega)).mono ?_
    rintro e W12 A12
    cases h12 : typingF L f a o with
    | bad p er =>
      rw [h12] at A12
      obtain ⟨rfl, b12⟩ := A12
      obtain rfl : Rs.bad p er = res := by rw [← HR.out, typeOrF]; simp [Rs.bind, mtT, q11, h12]
      exact ⟨rfl, rfl, a0.trans (k11.trans b12)⟩
    | ok x12 a12 =>
      rw [h12] at A12
      obtain ⟨ad12, c12, rfl, l12', r12, b12⟩ := A12
      have g12 := (MN.typing' a o) _ _ h12
      have y12 := r12.le
      have k12 := k11.trans b12
      have z12 := k12.size
      have l12 := l12'.mono (T := fun b => w.heap.size + 1 ≤ b) (fun b hb => by have := k11.size; omega)
      obtain rfl : Rs.ok x12 a12 = res := by rw [← HR.out, typeOrF]; simp [Rs.bind, mtT, q11, h12]
      have m0 := M0.out _ k12
      obtain ⟨⟨_, _, _, _⟩, _, _, _, _⟩ := t4 m0
      go_wp2
      refine bodyPost_ret (res_n4 Tryz.results141 (t4_set _ _ _ _ m0) rfl) rfl ?_
      exact close_ok (x := x12) h (a0.trans k12) (l12.keepR (KeptR.refl P.R W12) (by omega)) (by omega) r12
  | false =>
    have T11 := stands_any h0 sCo
    rw [q11] at T11
    go_wp2_with fail
    go_at_call 73
    refine T11.mono ?_
    rintro e W11 ⟨rfl, b11'⟩
    have r11 := h0.bel b11'
    have b11 := KeptR.of (b := P.R) b11'
    have k11 := (KeptR.refl P.R (w.alloc zN)).trans b11
    have z11 := k11.size
    have y11 := r11.le
    go_wp2_with fail
    go_at_call 64
    refine (node_any 14 ⟨#[]⟩ none 0 0 _).mono ?_
    rintro e W14 ⟨rfl, b14'⟩
    have r14 := r11.bel b14'
    have b14 := KeptR.of (b := P.R) b14'
    have k14 := k11.trans b14
    have z14 := k14.size
    obtain rfl : Rs.ok noneN a = res := by rw [← HR.out, typeOrF]; simp [Rs.bind, mtT, q11]
    have m0 := M0.out _ k14
    obtain ⟨⟨_, _, _, _⟩, _, _, _, _⟩ := t4 m0
    go_wp2
    refine bodyPost_ret (res_n4 Tryz.results141 (t4_set _ _ _ _ m0) rfl) rfl ?_
    exact close_ok (x := noneN) h (a0.trans k14) (LAt.nil (S := fun b => w.heap.size + 1 ≤ b) none 0) (by omega) r14
set_option maxRecDepth 100000 in
set_option maxHeartbeats 8000000 in
theorem exprOr_step (L : List Tok) (hs : Small L) (f : Nat) (MN : Mono L f) (hE : CN 138 L f 20 (exprF L f)) : CN 146 L (f + 1) 21 (exprOrF L (f + 1)) := by
  intro w P a o h ho hM
  have hRw := h.lt
  have hle := h.le
  obtain ⟨h0, a0, z0, M0⟩ := begin_cell h
  obtain ⟨res, hres⟩ : ∃ r, exprOrF L (f + 1) a o = r := ⟨_, rfl⟩
  have HR : Hid (exprOrF L (f + 1) a o = res) := hres
  rw [hres]
  clear hres
  have HE' : Hid (CN 138 L f 20 (exprF L f)) := hE
  clear hE
  go_enter Tryz.func146, Tryz.ntmps146
  cases q15 : isS L a sSe with
  | true =>
    have T15 := stands_any h0 sSe
    rw [q15] at T15
    have u15 := isS_lt q15
    go_wp2_with fail
    go_at_call 73
    refine T15.mono ?_
    rintro e W15 ⟨rfl, b15'⟩
    have r15 := h0.bel b15'
    have b15 := KeptR.of (b := P.R) b15'
    have k15 := (KeptR.refl P.R (w.alloc zN)).trans b15
    have z15 := k15.size
    have y15 := r15.le
    go_wp2_with fail
    go_at_call 64
    refine (node_any 14 ⟨#[]⟩ none 0 0 _).mono ?_
    rintro e W17 ⟨rfl, b17'⟩
    have r17 := r15.bel b17'
    have b17 := KeptR.of (b := P.R) b17'
    have k17 := k15.trans b17
    have z17 := k17.size
    obtain rfl : Rs.ok noneN a = res := by rw [← HR.out, exprOrF]; simp [Rs.bind, mtT, q15]
    have m0 := M0.out _ k17
    obtain ⟨⟨_, _, _, _⟩, _, _, _, _⟩ := t4 m0
    go_wp2
    refine bodyPost_ret (res_n4 Tryz.results146 (t4_set _ _ _ _ m0) rfl) rfl ?_
    exact close_ok (x := noneN) h (a0.trans k17) (LAt.nil (S := fun b => w.heap.size + 1 ≤ b) none 0) (by omega) r17
  | false =>
    have T15 := stands_any h0 sSe
    rw [q15] at T15
    go_wp2_with fail
    go_at_call 73
    refine T15.mono ?_
    rintro e W15 ⟨rfl, b15'⟩
    have r15 := h0.bel b15'
    have b15 := KeptR.of (b := P.R) b15'
    have k15 := (KeptR.refl P.R (w.alloc zN)).trans b15
    have z15 := k15.size
    have y15 := r15.le
    go_wp2_with fail
    go_at_call 138
    refine (HE'.out _ _ _ _ r15 (by omega) (by unfold Ms at *; omega)).mono ?_
    rintro e W18 A18
    cases h18 : exprF L f a o with
    | bad p er =>
      rw [h18] at A18
      obtain ⟨rfl, b18⟩ := A18
      obtain rfl : Rs.bad p er = res := by rw [← HR.out, exprOrF]; simp [Rs.bind, mtT, q15, h18]
      exact ⟨rfl, rfl, a0.trans (k15.trans b18)⟩
    | ok x18 a18 =>
      rw [h18] at A18
      obtain ⟨ad18, c18, rfl, l18', r18, b18⟩ := A18
      have g18 := (MN.expr' a o) _ _ h18
      have y18 := r18.le
      have k18 := k15.trans b18
      have z18 := k18.size
      have l18 := l18'.mono (T := fun b => w.heap.size + 1 ≤ b) (fun b hb => by have := k15.size; omega)
      obtain rfl : Rs.ok x18 a18 = res := by rw [← HR.out, exprOrF]; simp [Rs.bind, mtT, q15, h18]
      have m0 := M0.out _ k18
      obtain ⟨⟨_, _, _, _⟩, _, _, _, _⟩ := t4 m0
      go_wp2
      refine bodyPost_ret (res_n4 Tryz.results146 (t4_set _ _ _ _ m0) rfl) rfl ?_
      exact close_ok (x := x18) h (a0.trans k18) (l18.keepR (KeptR.refl P.R W18) (by omega)) (by omega) r18
end Go.Proofs.YtfehmdfamndcaaaGreatDoor
