/- Own text. Package module: the rules, one by one: what is imported, what is exported. -/
import Derived.Test.YtfehmdfamndcaaaGreatDoorGm33
namespace Go.Proofs.YtfehmdfamndcaaaGreatDoor
open Go.RowKit
set_option linter.unusedVariables false
set_option linter.unusedSimpArgs false

set_option maxRecDepth 100000 in
set_option maxHeartbeats 4000000 in
theorem importAs_any (t u : ByteArray) (w : World) : Calls Tryz.prog 101 #[.string t, .string u] w fun e w' => ∃ ad c, e = .returned (.agg #[.int .i64 61, .string t, .int .i64 0, .slice ad 1 c]) ∧ LAt w' (fun b => w.heap.size ≤ b) (.slice ad 1 c) [mk0 6 u []] ∧ Below w.heap.size w w' := by
  have bel_n : ∀ o, Below w.heap.size w (w.alloc o) := fun o => (Below.refl _ _).alloc (Nat.le_refl _) o
  have M0 : Hid (∀ W, Below (w.alloc zN).heap.size (w.alloc zN) W → W.heap[w.heap.size]? = some (.cells #[Value.int IntKind.i64 0, Value.string ⟨#[]⟩, Value.int IntKind.i64 0, Value.slice none 0 0] 62 (0, 0))) := fun W b => (b.block _ (by simp)).trans (heap_alloc_new w _)
  go_enter Tryz.func101, Tryz.ntmps101
  go_wp2_with fail
  go_at_call 64
  refine (node_any 6 u none 0 0 _).mono ?_
  rintro e W1 ⟨rfl, b1⟩
  go_wp2_with fail
  go_at_call 64
  refine (node_any 61 t (some ⟨W1.heap.size, 0, none⟩) 1 1 _).mono ?_
  rintro e W2 ⟨rfl, b2⟩
  have j2 : W2.heap[W1.heap.size]? = some (.cells #[Value.int IntKind.i64 6, Value.string u, Value.int IntKind.i64 0, Value.slice none 0 0] 62 (0, 0)) := (b2.block _ (by simp)).trans (heap_alloc_new W1 _)
  have s1 := b1.size
  simp at s1
  have bb : Below (w.alloc zN).heap.size (w.alloc zN) W2 := (b1.trans ((((Below.refl W1.heap.size W1).alloc (Nat.le_refl _) (Obj.cells #[Value.int IntKind.i64 6, Value.string u, Value.int IntKind.i64 0, Value.slice none 0 0] 62)).trans (b2.mono (by simp))).mono b1.size))
  have m0 := M0.out _ bb
  obtain ⟨⟨_, _, _, _⟩, _, _, _, _⟩ := t4 m0
  go_wp2
  refine bodyPost_ret (res_n4 Tryz.results101 (t4_set _ _ _ _ m0) rfl) rfl ⟨_, _, rfl, ?_, ?_⟩
  · refine (LAt.set4 (B := w.heap.size + 1) (C := w.heap.size) (LAt.n1 (x := mk0 6 u []) j2 (by show _ ≤ _; omega) (LAt.nil none 0)) (by omega) (by omega) _ _ _ _)
  · have b0 : Below w.heap.size w W2 := (bel_n _).trans (bb.mono (by simp))
    exact (((b0.setCell (Nat.le_refl _) _).setCell (Nat.le_refl _) _).setCell (Nat.le_refl _) _).setCell (Nat.le_refl _) _
set_option maxRecDepth 100000 in
set_option maxHeartbeats 8000000 in
theorem star_m {L : List Tok} (hs : Small L) {w : World} {P : Pl} {a : Nat} (h : Rd w P L a mE) (hlt : a < L.length) : Calls Tryz.prog 102 #[.pointer (some ⟨P.R, 0, none⟩)] w (AnsN P L mE w (starM L a)) := by
  have hRw := h.lt
  have hle := h.le
  obtain ⟨h0, a0, z0, M0⟩ := begin_cell h
  obtain ⟨res, hres⟩ : ∃ r, starM L a = r := ⟨_, rfl⟩
  have HR : Hid (starM L a = res) := hres
  rw [hres]
  clear hres
  go_enter Tryz.func102, Tryz.ntmps102
  go_wp2_with fail
  go_at_call 59
  refine (pass_any h0 hlt (hs.at _)).mono ?_
  rintro e W1 ⟨rfl, r1, b1⟩
  have k1 := (KeptR.refl P.R (w.alloc zN)).trans b1
  have z1 := k1.size
  have y1 := r1.le
  cases q2 : isNm L (a + 1) nAs with
  | true =>
    have T2 := takeName_any r1 nAs
    rw [q2] at T2
    have u2 := isNm_lt q2
    go_wp2_with fail
    go_at_call 105
    refine T2.mono ?_
    rintro e W2 ⟨rfl, r2', b2⟩
    have r2 : Rd W2 P L (a + 1 + 1) mE := r2'
    clear r2'
    have k2 := k1.trans b2
    have z2 := k2.size
    have y2 := r2.le
    go_wp2_with fail
    go_at_call 60
    refine (id_any r2 hs).mono ?_
    rintro e W3 A3
    cases h3 : idR L (a + 1 + 1) with
    | bad p er =>
      rw [h3] at A3
      obtain ⟨rfl, b3⟩ := A3
      obtain rfl : Rs.bad p er = res := by rw [← HR.out, starM]; simp [Rs.bind, mtT, endM, nameM, q2, h3]
      exact ⟨rfl, rfl, a0.trans (k2.trans b3)⟩
    | ok x3 a3 =>
      rw [h3] at A3
      obtain ⟨rfl, r3, b3⟩ := A3
      have g3 := (id_ge L (a + 1 + 1)) _ _ h3
      have y3 := r3.le
      have k3 := k2.trans b3
      have z3 := k3.size
      go_wp2_with fail
      go_at_call 101
      refine (importAs_any (tokA L a).t x3 _).mono ?_
      rintro e W4 ⟨ad4, c4, rfl, l4', b4'⟩
      have r4 := r3.bel b4'
      have b4 := KeptR.of (b := P.R) b4'
      have k4 := k3.trans b4
      have z4 := k4.size
      have l4 := l4'.mono (T := fun b => w.heap.size + 1 ≤ b) (fun b hb => by have := k3.size; omega)
      obtain rfl : Rs.ok (impAs ((tokA L a).t) x3) a3 = res := by rw [← HR.out, starM]; simp [Rs.bind, mtT, endM, nameM, q2, h3]
      have m0 := M0.out _ k4
      obtain ⟨⟨_, _, _, _⟩, _, _, _, _⟩ := t4 m0
      go_wp2
      refine bodyPost_ret (res_n4 Tryz.results102 (t4_set _ _ _ _ m0) rfl) rfl ?_
      exact close_ok (x := (impAs ((tokA L a).t) x3)) h (a0.trans k4) (l4.keepR (KeptR.refl P.R W4) (by omega)) (by omega) r4
  | false =>
    have T2 := takeName_any r1 nAs
    rw [q2] at T2
    go_wp2_with fail
    go_at_call 105
    refine T2.mono ?_
    rintro e W2 ⟨rfl, r2', b2⟩
    have r2 : Rd W2 P L (a + 1) mE := r2'
    clear r2'
    have k2 := k1.trans b2
    have z2 := k2.size
    have y2 := r2.le
    go_wp2_with fail
    go_at_call 91
    refine (wrong_any r2).mono ?_
    rintro e W5 ⟨rfl, b5'⟩
    obtain rfl : Rs.bad (a + 1) 60 = res := by rw [← HR.out, starM]; simp [Rs.bind, mtT, endM, nameM, q2]
    go_wp2
    exact ⟨rfl, rfl, a0.trans (k2.trans (.of b5'))⟩
set_option maxRecDepth 100000 in
set_option maxHeartbeats 8000000 in
theorem importOne_m {L : List Tok} (hs : Small L) {w : World} {P : Pl} {a : Nat} (h : Rd w P L a mE) : Calls Tryz.prog 104 #[.pointer (some ⟨P.R, 0, none⟩)] w (AnsN P L mE w (importOneM L a)) := by
  have hRw := h.lt
  have hle := h.le
  obtain ⟨h0, a0, z0, M0⟩ := begin_cell h
  obtain ⟨res, hres⟩ : ∃ r, importOneM L a = r := ⟨_, rfl⟩
  have HR : Hid (importOneM L a = res) := hres
  rw [hres]
  clear hres
  go_enter Tryz.func104, Tryz.ntmps104
  cases q6 : isN L a with
  | true =>
    have T6 := standsId_any h0
    rw [q6] at T6
    have u6 := isN_lt q6
    go_wp2_with fail
    go_at_call 90
    refine T6.mono ?_
    rintro e W6 ⟨rfl, b6'⟩
    have r6 := h0.bel b6'
    have b6 := KeptR.of (b := P.R) b6'
    have k6 := (KeptR.refl P.R (w.alloc zN)).trans b6
    have z6 := k6.size
    have y6 := r6.le
    go_wp2_with fail
    go_at_call 95
    refine (prop_any r6 hs).mono ?_
    rintro e W7 A7
    cases h7 : propR' L a with
    | bad p er =>
      rw [h7] at A7
      obtain ⟨rfl, b7⟩ := A7
      obtain rfl : Rs.bad p er = res := by rw [← HR.out, importOneM]; simp [Rs.bind, mtT, endM, nameM, q6, h7]
      exact ⟨rfl, rfl, a0.trans (k6.trans b7)⟩
    | ok x7 a7 =>
      rw [h7] at A7
      obtain ⟨rfl, r7, b7⟩ := A7
      have g7 := (prop_ge L a) _ _ h7
      have y7 := r7.le
      have k7 := k6.trans b7
      have z7 := k7.size
      cases q8 : isNm L a7 nAs with
      | true =>
        have T8 := takeName_any r7 nAs
        rw [q8] at T8
        have u8 := isNm_lt q8
        go_wp2_with fail
        go_at_call 105
        refine T8.mono ?_
        rintro e W8 ⟨rfl, r8', b8⟩
        have r8 : Rd W8 P L (a7 + 1) mE := r8'
        clear r8'
        have k8 := k7.trans b8
        have z8 := k8.size
        have y8 := r8.le
        go_wp2_with fail
        go_at_call 60
        refine (id_any r8 hs).mono ?_
        rintro e W9 A9
        cases h9 : idR L (a7 + 1) with
        | bad p er =>
          rw [h9] at A9
          obtain ⟨rfl, b9⟩ := A9
          obtain rfl : Rs.bad p er = res := by rw [← HR.out, importOneM]; simp [Rs.bind, mtT, endM, nameM, q6, h7, q8, h9]
          exact ⟨rfl, rfl, a0.trans (k8.trans b9)⟩
        | ok x9 a9 =>
          rw [h9] at A9
          obtain ⟨rfl, r9, b9⟩ := A9
          have g9 := (id_ge L (a7 + 1)) _ _ h9
          have y9 := r9.le
          have k9 := k8.trans b9
          have z9 := k9.size
          go_wp2_with fail
          go_at_call 101
          refine (importAs_any x7 x9 _).mono ?_
          rintro e W10 ⟨ad10, c10, rfl, l10', b10'⟩
          have r10 := r9.bel b10'
          have b10 := KeptR.of (b := P.R) b10'
          have k10 := k9.trans b10
          have z10 := k10.size
          have l10 := l10'.mono (T := fun b => w.heap.size + 1 ≤ b) (fun b hb => by have := k9.size; omega)
          obtain rfl : Rs.ok (impAs x7 x9) a9 = res := by rw [← HR.out, importOneM]; simp [Rs.bind, mtT, endM, nameM, q6, h7, q8, h9]
          have m0 := M0.out _ k10
          obtain ⟨⟨_, _, _, _⟩, _, _, _, _⟩ := t4 m0
          go_wp2
          refine bodyPost_ret (res_n4 Tryz.results104 (t4_set _ _ _ _ m0) rfl) rfl ?_
          exact close_ok (x := (impAs x7 x9)) h (a0.trans k10) (l10.keepR (KeptR.refl P.R W10) (by omega)) (by omega) r10
      | false =>
        have T8 := takeName_any r7 nAs
        rw [q8] at T8
        go_wp2_with fail
        go_at_call 105
        refine T8.mono ?_
        rintro e W8 ⟨rfl, r8', b8⟩
        have r8 : Rd W8 P L a7 mE := r8'
        clear r8'
        have k8 := k7.trans b8
        have z8 := k8.size
        have y8 := r8.le
        go_wp2_with fail
        go_at_call 13
        refine (clone_any x7 _ (by have := hs.at a; rw [← propR_t h7] at this; omega)).mono ?_
        rintro e W11 ⟨rfl, b11'⟩
        have r11 := r8.bel b11'
        have b11 := KeptR.of (b := P.R) b11'
        have k11 := k8.trans b11
        have z11 := k11.size
        go_wp2_with fail
        go_at_call 101
        refine (importAs_any x7 x7 _).mono ?_
        rintro e W12 ⟨ad12, c12, rfl, l12', b12'⟩
        have r12 := r11.bel b12'
        have b12 := KeptR.of (b := P.R) b12'
        have k12 := k11.trans b12
        have z12 := k12.size
        have l12 := l12'.mono (T := fun b => w.heap.size + 1 ≤ b) (fun b hb => by have := k11.size; omega)
        obtain rfl : Rs.ok (impAs x7 x7) a7 = res := by rw [← HR.out, importOneM]; simp [Rs.bind, mtT, endM, nameM, q6, h7, q8]
        have m0 := M0.out _ k12
        obtain ⟨⟨_, _, _, _⟩, _, _, _, _⟩ := t4 m0
        go_wp2
        refine bodyPost_ret (res_n4 Tryz.results104 (t4_set _ _ _ _ m0) rfl) rfl ?_
        exact close_ok (x := (impAs x7 x7)) h (a0.trans k12) (l12.keepR (KeptR.refl P.R W12) (by omega)) (by omega) r12
  | false =>
    have T6 := standsId_any h0
    rw [q6] at T6
    go_wp2_with fail
    go_at_call 90
    refine T6.mono ?_
    rintro e W6 ⟨rfl, b6'⟩
    have r6 := h0.bel b6'
    have b6 := KeptR.of (b := P.R) b6'
    have k6 := (KeptR.refl P.R (w.alloc zN)).trans b6
    have z6 := k6.size
    have y6 := r6.le
    go_wp2_with fail
    go_at_call 95
    refine (prop_any r6 hs).mono ?_
    rintro e W13 A13
    cases h13 : propR' L a with
    | bad p er =>
      rw [h13] at A13
      obtain ⟨rfl, b13⟩ := A13
      obtain rfl : Rs.bad p er = res := by rw [← HR.out, importOneM]; simp [Rs.bind, mtT, endM, nameM, q6, h13]
      exact ⟨rfl, rfl, a0.trans (k6.trans b13)⟩
    | ok x13 a13 =>
      rw [h13] at A13
      obtain ⟨rfl, r13, b13⟩ := A13
      have g13 := (prop_ge L a) _ _ h13
      have y13 := r13.le
      have k13 := k6.trans b13
      have z13 := k13.size
      cases q14 : isNm L a13 nAs with
      | true =>
        have T14 := takeName_any r13 nAs
        rw [q14] at T14
        have u14 := isNm_lt q14
        go_wp2_with fail
        go_at_call 105
        refine T14.mono ?_
        rintro e W14 ⟨rfl, r14', b14⟩
        have r14 : Rd W14 P L (a13 + 1) mE := r14'
        clear r14'
        have k14 := k13.trans b14
        have z14 := k14.size
        have y14 := r14.le
        go_wp2_with fail
        go_at_call 60
        refine (id_any r14 hs).mono ?_
        rintro e W15 A15
        cases h15 : idR L (a13 + 1) with
        | bad p er =>
          rw [h15] at A15
          obtain ⟨rfl, b15⟩ := A15
          obtain rfl : Rs.bad p er = res := by rw [← HR.out, importOneM]; simp [Rs.bind, mtT, endM, nameM, q6, h13, q14, h15]
          exact ⟨rfl, rfl, a0.trans (k14.trans b15)⟩
        | ok x15 a15 =>
          rw [h15] at A15
          obtain ⟨rfl, r15, b15⟩ := A15
          have g15 := (id_ge L (a13 + 1)) _ _ h15
          have y15 := r15.le
          have k15 := k14.trans b15
          have z15 := k15.size
          go_wp2_with fail
          go_at_call 101
          refine (importAs_any x13 x15 _).mono ?_
          rintro e W16 ⟨ad16, c16, rfl, l16', b16'⟩
          have r16 := r15.bel b16'
          have b16 := KeptR.of (b := P.R) b16'
          have k16 := k15.trans b16
          have z16 := k16.size
          have l16 := l16'.mono (T := fun b => w.heap.size + 1 ≤ b) (fun b hb => by have := k15.size; omega)
          obtain rfl : Rs.ok (impAs x13 x15) a15 = res := by rw [← HR.out, importOneM]; simp [Rs.bind, mtT, endM, nameM, q6, h13, q14, h15]
          have m0 := M0.out _ k16
          obtain ⟨⟨_, _, _, _⟩, _, _, _, _⟩ := t4 m0
          go_wp2
          refine bodyPost_ret (res_n4 Tryz.results104 (t4_set _ _ _ _ m0) rfl) rfl ?_
          exact close_ok (x := (impAs x13 x15)) h (a0.trans k16) (l16.keepR (KeptR.refl P.R W16) (by omega)) (by omega) r16
      | false =>
        have T14 := takeName_any r13 nAs
        rw [q14] at T14
        go_wp2_with fail
        go_at_call 105
        refine T14.mono ?_
        rintro e W14 ⟨rfl, r14', b14⟩
        have r14 : Rd W14 P L a13 mE := r14'
        clear r14'
        have k14 := k13.trans b14
        have z14 := k14.size
        have y14 := r14.le
        go_wp2_with fail
        go_at_call 91
        refine (wrong_any r14).mono ?_
        rintro e W17 ⟨rfl, b17'⟩
        obtain rfl : Rs.bad a13 60 = res := by rw [← HR.out, importOneM]; simp [Rs.bind, mtT, endM, nameM, q6, h13, q14]
        go_wp2
        exact ⟨rfl, rfl, a0.trans (k14.trans (.of b17'))⟩
set_option maxRecDepth 100000 in
set_option maxHeartbeats 8000000 in
theorem exportOne_m {L : List Tok} (hs : Small L) {w : World} {P : Pl} {a : Nat} (h : Rd w P L a mE) : Calls Tryz.prog 109 #[.pointer (some ⟨P.R, 0, none⟩)] w (AnsN P L mE w (exportOneM L a)) := by
  have hRw := h.lt
  have hle := h.le
  obtain ⟨h0, a0, z0, M0⟩ := begin_cell h
  obtain ⟨res, hres⟩ : ∃ r, exportOneM L a = r := ⟨_, rfl⟩
  have HR : Hid (exportOneM L a = res) := hres
  rw [hres]
  clear hres
  go_enter Tryz.func109, Tryz.ntmps109
  go_wp2_with fail
  go_at_call 95
  refine (prop_any h0 hs).mono ?_
  rintro e W18 A18
  cases h18 : propR' L a with
  | bad p er =>
    rw [h18] at A18
    obtain ⟨rfl, b18⟩ := A18
    obtain rfl : Rs.bad p er = res := by rw [← HR.out, exportOneM]; simp [Rs.bind, mtT, endM, nameM, h18]
    exact ⟨rfl, rfl, a0.trans ((KeptR.refl P.R (w.alloc zN)).trans b18)⟩
  | ok x18 a18 =>
    rw [h18] at A18
    obtain ⟨rfl, r18, b18⟩ := A18
    have g18 := (prop_ge L a) _ _ h18
    have y18 := r18.le
    have k18 := (KeptR.refl P.R (w.alloc zN)).trans b18
    have z18 := k18.size
    cases q19 : isNm L a18 nAs with
    | true =>
      have T19 := takeName_any r18 nAs
      rw [q19] at T19
      have u19 := isNm_lt q19
      go_wp2_with fail
      go_at_call 105
      refine T19.mono ?_
      rintro e W19 ⟨rfl, r19', b19⟩
      have r19 : Rd W19 P L (a18 + 1) mE := r19'
      clear r19'
      have k19 := k18.trans b19
      have z19 := k19.size
      have y19 := r19.le
      go_wp2_with fail
      go_at_call 95
      refine (prop_any r19 hs).mono ?_
      rintro e W20 A20
      cases h20 : propR' L (a18 + 1) with
      | bad p er =>
        rw [h20] at A20
        obtain ⟨rfl, b20⟩ := A20
        obtain rfl : Rs.bad p er = res := by rw [← HR.out, exportOneM]; simp [Rs.bind, mtT, endM, nameM, h18, q19, h20]
        exact ⟨rfl, rfl, a0.trans (k19.trans b20)⟩
      | ok x20 a20 =>
        rw [h20] at A20
        obtain ⟨rfl, r20, b20⟩ := A20
        have g20 := (prop_ge L (a18 + 1)) _ _ h20
        have y20 := r20.le
        have k20 := k19.trans b20
        have z20 := k20.size
        by_cases e21 : x20.toList = x18.toList
        · have f21 : (x20.toList == x18.toList) = true := by simp [e21]
          have E21 : Hid (x20.toList = x18.toList) := e21
          clear e21
          go_wp2_with fail
          go_at_call 64
          refine (node_any 14 ⟨#[]⟩ none 0 0 _).mono ?_
          rintro e W22 ⟨rfl, b22'⟩
          have r22 := r20.bel b22'
          have b22 := KeptR.of (b := P.R) b22'
          have k22 := k20.trans b22
          have z22 := k22.size
          go_wp2_with fail
          go_at_call 64
          refine (node_any 65 x18 (some ⟨W22.heap.size, 0, none⟩) 1 1 _).mono ?_
          rintro e W23 ⟨rfl, b23'⟩
          have j23 : W23.heap[W22.heap.size]? = some (.cells #[Value.int IntKind.i64 14, Value.string ⟨#[]⟩, Value.int IntKind.i64 0, Value.slice none 0 0] 62 (0, 0)) := (b23'.block _ (by simp)).trans (heap_alloc_new W22 _)
          have r23 := (r22.bel ((Below.refl _ _).alloc (Nat.le_refl _) (Obj.cells #[Value.int IntKind.i64 14, Value.string ⟨#[]⟩, Value.int IntKind.i64 0, Value.slice none 0 0] 62))).bel b23'
          have b23 : KeptR P.R W22 W23 := (KeptR.of ((Below.refl _ _).alloc (Nat.le_refl _) _)).trans (.of b23')
          have k23 := k22.trans b23
          have z23 := k23.size
          have l23 : LAt W23 (fun b => w.heap.size + 1 ≤ b) (.slice (some ⟨W22.heap.size, 0, none⟩) 1 1) [noneN] := LAt.n1 j23 (by have := k22.size; show _ ≤ _; omega) (LAt.nil (S := fun b => w.heap.size + 1 ≤ b) none 0)
          obtain rfl : Rs.ok (mk0 65 x18 [noneN]) a20 = res := by rw [← HR.out, exportOneM]; simp [Rs.bind, mtT, endM, nameM, h18, q19, h20, E21.out]
          have m0 := M0.out _ k23
          obtain ⟨⟨_, _, _, _⟩, _, _, _, _⟩ := t4 m0
          go_wp2
          refine bodyPost_ret (res_n4 Tryz.results109 (t4_set _ _ _ _ m0) rfl) rfl ?_
          exact close_ok (x := (mk0 65 x18 [noneN])) h (a0.trans k23) (l23.keepR (KeptR.refl P.R W23) (by omega)) (by omega) r23
        · have f21 : (x20.toList == x18.toList) = false := by simpa using e21
          have E21 : Hid (¬ x20.toList = x18.toList) := e21
          clear e21
          go_wp2_with fail
          go_at_call 64
          refine (node_any 6 x20 none 0 0 _).mono ?_
          rintro e W25 ⟨rfl, b25'⟩
          have r25 := r20.bel b25'
          have b25 := KeptR.of (b := P.R) b25'
          have k25 := k20.trans b25
          have z25 := k25.size
          go_wp2_with fail
          go_at_call 64
          refine (node_any 65 x18 (some ⟨W25.heap.size, 0, none⟩) 1 1 _).mono ?_
          rintro e W26 ⟨rfl, b26'⟩
          have j26 : W26.heap[W25.heap.size]? = some (.cells #[Value.int IntKind.i64 6, Value.string x20, Value.int IntKind.i64 0, Value.slice none 0 0] 62 (0, 0)) := (b26'.block _ (by simp)).trans (heap_alloc_new W25 _)
          have r26 := (r25.bel ((Below.refl _ _).alloc (Nat.le_refl _) (Obj.cells #[Value.int IntKind.i64 6, Value.string x20, Value.int IntKind.i64 0, Value.slice none 0 0] 62))).bel b26'
          have b26 : KeptR P.R W25 W26 := (KeptR.of ((Below.refl _ _).alloc (Nat.le_refl _) _)).trans (.of b26')
          have k26 := k25.trans b26
          have z26 := k26.size
          have l26 : LAt W26 (fun b => w.heap.size + 1 ≤ b) (.slice (some ⟨W25.heap.size, 0, none⟩) 1 1) [(mk0 6 x20 [])] := LAt.n1 j26 (by have := k25.size; show _ ≤ _; omega) (LAt.nil (S := fun b => w.heap.size + 1 ≤ b) none 0)
          obtain rfl : Rs.ok (mk0 65 x18 [(mk0 6 x20 [])]) a20 = res := by rw [← HR.out, exportOneM]; simp [Rs.bind, mtT, endM, nameM, h18, q19, h20, E21.out]
          have m0 := M0.out _ k26
          obtain ⟨⟨_, _, _, _⟩, _, _, _, _⟩ := t4 m0
          go_wp2
          refine bodyPost_ret (res_n4 Tryz.results109 (t4_set _ _ _ _ m0) rfl) rfl ?_
          exact close_ok (x := (mk0 65 x18 [(mk0 6 x20 [])])) h (a0.trans k26) (l26.keepR (KeptR.refl P.R W26) (by omega)) (by omega) r26
    | false =>
      have T19 := takeName_any r18 nAs
      rw [q19] at T19
      go_wp2_with fail
      go_at_call 105
      refine T19.mono ?_
      rintro e W19 ⟨rfl, r19', b19⟩
      have r19 : Rd W19 P L a18 mE := r19'
      clear r19'
      have k19 := k18.trans b19
      have z19 := k19.size
      have y19 := r19.le
      go_wp2_with fail
      go_at_call 64
      refine (node_any 14 ⟨#[]⟩ none 0 0 _).mono ?_
      rintro e W27 ⟨rfl, b27'⟩
      have r27 := r19.bel b27'
      have b27 := KeptR.of (b := P.R) b27'
      have k27 := k19.trans b27
      have z27 := k27.size
      go_wp2_with fail
      go_at_call 64
      refine (node_any 65 x18 (some ⟨W27.heap.size, 0, none⟩) 1 1 _).mono ?_
      rintro e W28 ⟨rfl, b28'⟩
      have j28 : W28.heap[W27.heap.size]? = some (.cells #[Value.int IntKind.i64 14, Value.string ⟨#[]⟩, Value.int IntKind.i64 0, Value.slice none 0 0] 62 (0, 0)) := (b28'.block _ (by simp)).trans (heap_alloc_new W27 _)
      have r28 := (r27.bel ((Below.refl _ _).alloc (Nat.le_refl _) (Obj.cells #[Value.int IntKind.i64 14, Value.string ⟨#[]⟩, Value.int IntKind.i64 0, Value.slice none 0 0] 62))).bel b28'
      have b28 : KeptR P.R W27 W28 := (KeptR.of ((Below.refl _ _).alloc (Nat.le_refl _) _)).trans (.of b28')
      have k28 := k27.trans b28
      have z28 := k28.size
      have l28 : LAt W28 (fun b => w.heap.size + 1 ≤ b) (.slice (some ⟨W27.heap.size, 0, none⟩) 1 1) [noneN] := LAt.n1 j28 (by have := k27.size; show _ ≤ _; omega) (LAt.nil (S := fun b => w.heap.size + 1 ≤ b) none 0)
      obtain rfl : Rs.ok (mk0 65 x18 [noneN]) a18 = res := by rw [← HR.out, exportOneM]; simp [Rs.bind, mtT, endM, nameM, h18, q19]
      have m0 := M0.out _ k28
      obtain ⟨⟨_, _, _, _⟩, _, _, _, _⟩ := t4 m0
      go_wp2
      refine bodyPost_ret (res_n4 Tryz.results109 (t4_set _ _ _ _ m0) rfl) rfl ?_
      exact close_ok (x := (mk0 65 x18 [noneN])) h (a0.trans k28) (l28.keepR (KeptR.refl P.R W28) (by omega)) (by omega) r28
end Go.Proofs.YtfehmdfamndcaaaGreatDoor
