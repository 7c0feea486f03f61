/- Own text. Package parse: the rules, one by one: what begins with a sign. -/
import Derived.Test.YtmfgcaffdkakhaaGreatR2
namespace Go.Proofs.YtmfgcaffdkakhaaGreat
open Go.RowKit
set_option linter.unusedVariables false
set_option linter.unusedSimpArgs false

set_option maxRecDepth 100000 in
set_option maxHeartbeats 8000000 in
theorem sprim_step (L : List Tok) (hs : Small L) (f : Nat) (MN : Mono L f) (hE : CN 12 L f 20 (exprF L f)) (hOp : CN 109 L f 5 (propF L f)) (hAr : CN 110 L f 6 (arrowF L f)) : CN 108 L (f + 1) 7 (sprimF L (f + 1)) := by
  intro w P a o h ho hM
  have hRw := h.lt
  have hle := h.le
  obtain ⟨h0, a0, z0, M0⟩ := begin_cell h
  obtain ⟨res, hres⟩ : ∃ r, sprimF L (f + 1) a o = r := ⟨_, rfl⟩
  have HR : Hid (sprimF L (f + 1) a o = res) := hres
  rw [hres]
  clear hres
  have HE' : Hid (CN 12 L f 20 (exprF L f)) := hE
  have HOP' : Hid (CN 109 L f 5 (propF L f)) := hOp
  have HAR' : Hid (CN 110 L f 6 (arrowF L f)) := hAr
  clear hE
  clear hOp
  clear hAr
  go_enter Tryz.func108, Tryz.ntmps108
  cases q25 : isS L a sBo with
  | true =>
    have T25 := take_any h0 sBo
    rw [q25] at T25
    have u25 := isS_lt q25
    go_wp2_with fail
    go_at_call 33
    refine T25.mono ?_
    rintro e W25 ⟨rfl, r25', b25⟩
    have r25 : Rd W25 P L (a + 1) (opE o) := r25'
    clear r25'
    have k25 := (KeptR.refl P.R (w.alloc zN)).trans b25
    have z25 := k25.size
    have y25 := r25.le
    go_wp2_with fail
    go_at_call 92
    refine (listE_any (k := 12) (rs := #[.pointer (some ⟨P.R, 0, none⟩)]) (caps := #[]) eg_anExpr hs r25 (fun b => exprF L f b o) (fun b => MN.expr' b o) (fun W b hb r => HE'.out _ _ _ _ r (by omega) (by have := r.le; unfold Ms at *; omega)) (s := sBc)).mono ?_
    rintro e W26 A26
    cases h26 : listE L (fun b => exprF L f b o) sBc (a + 1) with
    | bad p er =>
      rw [h26] at A26
      obtain ⟨rfl, b26⟩ := A26
      obtain rfl : Rs.bad p er = res := by rw [← HR.out, sprimF]; simp [Rs.bind, mtT, q25, h26]
      exact ⟨rfl, rfl, a0.trans (k25.trans b26.one)⟩
    | ok x26 a26 =>
      rw [h26] at A26
      obtain ⟨ad26, c26, rfl, l26', r26, b26'⟩ := A26
      have b26 := b26'.one
      have g26 := (listE_ge (fun b => MN.expr' b o) (a + 1)) _ _ h26
      have y26 := r26.le
      have k26 := k25.trans b26
      have z26 := k26.size
      have l26 := l26'.mono (T := fun b => w.heap.size + 1 ≤ b) (fun b hb => by have := k25.size; omega)
      go_wp2_with fail
      go_at_call 35
      refine (node_any 8 ⟨#[]⟩ ad26 x26.length c26 _).mono ?_
      rintro e W27 ⟨rfl, b27'⟩
      have r27 := r26.bel b27'
      have b27 := KeptR.of (b := P.R) b27'
      have k27 := k26.trans b27
      have z27 := k27.size
      obtain rfl : Rs.ok (mk0 8 ⟨#[]⟩ x26) a26 = res := by rw [← HR.out, sprimF]; simp [Rs.bind, mtT, q25, h26]
      have m0 := M0.out _ k27
      obtain ⟨⟨_, _, _, _⟩, _, _, _, _⟩ := t4 m0
      go_wp2
      refine bodyPost_ret (res_n4 Tryz.results108 (t4_set _ _ _ _ m0) rfl) rfl ?_
      exact close_ok (x := (mk0 8 ⟨#[]⟩ x26)) h (a0.trans k27) (l26.keepR ((KeptR.refl P.R W26).trans b27) (by omega)) (by omega) r27
  | false =>
    have T25 := take_any h0 sBo
    rw [q25] at T25
    go_wp2_with fail
    go_at_call 33
    refine T25.mono ?_
    rintro e W25 ⟨rfl, r25', b25⟩
    have r25 : Rd W25 P L a (opE o) := r25'
    clear r25'
    have k25 := (KeptR.refl P.R (w.alloc zN)).trans b25
    have z25 := k25.size
    have y25 := r25.le
    cases q28 : isS L a sCb with
    | true =>
      have T28 := take_any r25 sCb
      rw [q28] at T28
      have u28 := isS_lt q28
      go_wp2_with fail
      go_at_call 33
      refine T28.mono ?_
      rintro e W28 ⟨rfl, r28', b28⟩
      have r28 : Rd W28 P L (a + 1) (opE o) := r28'
      clear r28'
      have k28 := k25.trans b28
      have z28 := k28.size
      have y28 := r28.le
      go_wp2_with fail
      go_at_call 92
      refine (listE_any (k := 109) (rs := #[.pointer (some ⟨P.R, 0, none⟩)]) (caps := #[]) eg_objectProp hs r28 (fun b => propF L f b o) (fun b => MN.prop' b o) (fun W b hb r => HOP'.out _ _ _ _ r (by omega) (by have := r.le; unfold Ms at *; omega)) (s := sCc)).mono ?_
      rintro e W29 A29
      cases h29 : listE L (fun b => propF L f b o) sCc (a + 1) with
      | bad p er =>
        rw [h29] at A29
        obtain ⟨rfl, b29⟩ := A29
        obtain rfl : Rs.bad p er = res := by rw [← HR.out, sprimF]; simp [Rs.bind, mtT, q25, q28, h29]
        exact ⟨rfl, rfl, a0.trans (k28.trans b29.one)⟩
      | ok x29 a29 =>
        rw [h29] at A29
        obtain ⟨ad29, c29, rfl, l29', r29, b29'⟩ := A29
        have b29 := b29'.one
        have g29 := (listE_ge (fun b => MN.prop' b o) (a + 1)) _ _ h29
        have y29 := r29.le
        have k29 := k28.trans b29
        have z29 := k29.size
        have l29 := l29'.mono (T := fun b => w.heap.size + 1 ≤ b) (fun b hb => by have := k28.size; omega)
        go_wp2_with fail
        go_at_call 35
        refine (node_any 9 ⟨#[]⟩ ad29 x29.length c29 _).mono ?_
        rintro e W30 ⟨rfl, b30'⟩
        have r30 := r29.bel b30'
        have b30 := KeptR.of (b := P.R) b30'
        have k30 := k29.trans b30
        have z30 := k30.size
        obtain rfl : Rs.ok (mk0 9 ⟨#[]⟩ x29) a29 = res := by rw [← HR.out, sprimF]; simp [Rs.bind, mtT, q25, q28, h29]
        have m0 := M0.out _ k30
        obtain ⟨⟨_, _, _, _⟩, _, _, _, _⟩ := t4 m0
        go_wp2
        refine bodyPost_ret (res_n4 Tryz.results108 (t4_set _ _ _ _ m0) rfl) rfl ?_
        exact close_ok (x := (mk0 9 ⟨#[]⟩ x29)) h (a0.trans k30) (l29.keepR ((KeptR.refl P.R W29).trans b30) (by omega)) (by omega) r30
    | false =>
      have T28 := take_any r25 sCb
      rw [q28] at T28
      go_wp2_with fail
      go_at_call 33
      refine T28.mono ?_
      rintro e W28 ⟨rfl, r28', b28⟩
      have r28 : Rd W28 P L a (opE o) := r28'
      clear r28'
      have k28 := k25.trans b28
      have z28 := k28.size
      have y28 := r28.le
      cases q31 : isS L a sPo with
      | true =>
        have T31 := stands_any r28 sPo
        rw [q31] at T31
        have u31 := isS_lt q31
        go_wp2_with fail
        go_at_call 30
        refine T31.mono ?_
        rintro e W31 ⟨rfl, b31'⟩
        have r31 := r28.bel b31'
        have b31 := KeptR.of (b := P.R) b31'
        have k31 := k28.trans b31
        have z31 := k31.size
        have y31 := r31.le
        cases q32 : arrow L a with
        | true =>
          have T32 := beforeArrow_any r31 (by omega)
          rw [q32] at T32
          go_wp2_with fail
          go_at_call 90
          refine T32.mono ?_
          rintro e W32 ⟨rfl, b32'⟩
          have r32 := r31.bel b32'
          have b32 := KeptR.of (b := P.R) b32'
          have k32 := k31.trans b32
          have z32 := k32.size
          have y32 := r32.le
          go_wp2_with fail
          go_at_call 110
          refine (HAR'.out _ _ _ _ r32 (by omega) (by unfold Ms at *; omega)).mono ?_
          rintro e W33 A33
          cases h33 : arrowF L f a o with
          | bad p er =>
            rw [h33] at A33
            obtain ⟨rfl, b33⟩ := A33
            obtain rfl : Rs.bad p er = res := by rw [← HR.out, sprimF]; simp [Rs.bind, mtT, q25, q28, q31, q32, h33]
            exact ⟨rfl, rfl, a0.trans (k32.trans b33)⟩
          | ok x33 a33 =>
            rw [h33] at A33
            obtain ⟨ad33, c33, rfl, l33', r33, b33⟩ := A33
            have g33 := (MN.arrow' a o) _ _ h33
            have y33 := r33.le
            have k33 := k32.trans b33
            have z33 := k33.size
            have l33 := l33'.mono (T := fun b => w.heap.size + 1 ≤ b) (fun b hb => by have := k32.size; omega)
            obtain rfl : Rs.ok x33 a33 = res := by rw [← HR.out, sprimF]; simp [Rs.bind, mtT, q25, q28, q31, q32, h33]
            have m0 := M0.out _ k33
            obtain ⟨⟨_, _, _, _⟩, _, _, _, _⟩ := t4 m0
            go_wp2
            refine bodyPost_ret (res_n4 Tryz.results108 (t4_set _ _ _ _ m0) rfl) rfl ?_
            exact close_ok (x := x33) h (a0.trans k33) (l33.keepR (KeptR.refl P.R W33) (by omega)) (by omega) r33
        | false =>
          have T32 := beforeArrow_any r31 (by omega)
          rw [q32] at T32
          go_wp2_with fail
          go_at_call 90
          refine T32.mono ?_
          rintro e W32 ⟨rfl, b32'⟩
          have r32 := r31.bel b32'
          have b32 := KeptR.of (b := P.R) b32'
          have k32 := k31.trans b32
          have z32 := k32.size
          have y32 := r32.le
          have T34 := take_any r32 sPo
          rw [q31] at T34
          go_wp2_with fail
          go_at_call 33
          refine T34.mono ?_
          rintro e W34 ⟨rfl, r34', b34⟩
          have r34 : Rd W34 P L (a + 1) (opE o) := r34'
          clear r34'
          have k34 := k32.trans b34
          have z34 := k34.size
          have y34 := r34.le
          go_wp2_with fail
          go_at_call 12
          refine (HE'.out _ _ _ _ r34 (by omega) (by unfold Ms at *; omega)).mono ?_
          rintro e W35 A35
          cases h35 : exprF L f (a + 1) o with
          | bad p er =>
            rw [h35] at A35
            obtain ⟨rfl, b35⟩ := A35
            obtain rfl : Rs.bad p er = res := by rw [← HR.out, sprimF]; simp [Rs.bind, mtT, q25, q28, q31, q32, h35]
            exact ⟨rfl, rfl, a0.trans (k34.trans b35)⟩
          | ok x35 a35 =>
            rw [h35] at A35
            obtain ⟨ad35, c35, rfl, l35', r35, b35⟩ := A35
            have g35 := (MN.expr' (a + 1) o) _ _ h35
            have y35 := r35.le
            have k35 := k34.trans b35
            have z35 := k35.size
            have l35 := l35'.mono (T := fun b => w.heap.size + 1 ≤ b) (fun b hb => by have := k34.size; omega)
            go_wp2_with fail
            go_at_call 60
            refine (want_any (r35.bel ((Below.refl _ _).alloc (Nat.le_refl _) (Obj.cells #[Value.int IntKind.i64 x35.k, Value.string x35.t, Value.int IntKind.i64 x35.n, Value.slice ad35 x35.ks.length c35] 27))) sPc).mono ?_
            rintro e W37 A37
            cases h37 : wantR L sPc a35 with
            | bad p er =>
              rw [h37] at A37
              obtain ⟨rfl, b37⟩ := A37
              obtain rfl : Rs.bad p er = res := by rw [← HR.out, sprimF]; simp [Rs.bind, mtT, q25, q28, q31, q32, h35, h37]
              exact ⟨rfl, rfl, a0.trans ((k35.alloc (Obj.cells #[Value.int IntKind.i64 x35.k, Value.string x35.t, Value.int IntKind.i64 x35.n, Value.slice ad35 x35.ks.length c35] 27)).trans b37)⟩
            | ok x37 a37 =>
              rw [h37] at A37
              obtain ⟨rfl, r37, b37⟩ := A37
              have g37 := (want_ge L sPc a35) _ _ h37
              have y37 := r37.le
              have k37 := (k35.alloc (Obj.cells #[Value.int IntKind.i64 x35.k, Value.string x35.t, Value.int IntKind.i64 x35.n, Value.slice ad35 x35.ks.length c35] 27)).trans b37
              have z37 := k37.size
              have v36 : W37.heap[W35.heap.size]? = some (.cells #[Value.int IntKind.i64 x35.k, Value.string x35.t, Value.int IntKind.i64 x35.n, Value.slice ad35 x35.ks.length c35] 27 (0, 0)) := (((KeptR.refl P.R (W35.alloc (Obj.cells #[Value.int IntKind.i64 x35.k, Value.string x35.t, Value.int IntKind.i64 x35.n, Value.slice ad35 x35.ks.length c35] 27))).trans b37).block (W35.heap.size) (by simp) (by have := k35.size; omega)).trans (heap_alloc_new W35 _)
              obtain ⟨⟨_, _, _, _⟩, _, _, _, _⟩ := t4 v36
              obtain rfl : Rs.ok x35 a37 = res := by rw [← HR.out, sprimF]; simp [Rs.bind, mtT, q25, q28, q31, q32, h35, h37]
              have m0 := M0.out _ k37
              obtain ⟨⟨_, _, _, _⟩, _, _, _, _⟩ := t4 m0
              go_wp2
              refine bodyPost_ret (res_n4 Tryz.results108 (t4_set _ _ _ _ m0) rfl) rfl ?_
              exact close_ok (x := x35) h (a0.trans k37) (l35.keepR (((KeptR.refl P.R W35).alloc (Obj.cells #[Value.int IntKind.i64 x35.k, Value.string x35.t, Value.int IntKind.i64 x35.n, Value.slice ad35 x35.ks.length c35] 27)).trans b37) (by omega)) (by omega) r37
      | false =>
        have T31 := stands_any r28 sPo
        rw [q31] at T31
        go_wp2_with fail
        go_at_call 30
        refine T31.mono ?_
        rintro e W31 ⟨rfl, b31'⟩
        have r31 := r28.bel b31'
        have b31 := KeptR.of (b := P.R) b31'
        have k31 := k28.trans b31
        have z31 := k31.size
        have y31 := r31.le
        have T38 := take_any r31 sPo
        rw [q31] at T38
        go_wp2_with fail
        go_at_call 33
        refine T38.mono ?_
        rintro e W38 ⟨rfl, r38', b38⟩
        have r38 : Rd W38 P L a (opE o) := r38'
        clear r38'
        have k38 := k31.trans b38
        have z38 := k38.size
        have y38 := r38.le
        go_wp2_with fail
        go_at_call 58
        refine (wrong_any r38).mono ?_
        rintro e W39 ⟨rfl, b39'⟩
        obtain rfl : Rs.bad a 60 = res := by rw [← HR.out, sprimF]; simp [Rs.bind, mtT, q25, q28, q31]
        go_wp2
        exact ⟨rfl, rfl, a0.trans (k38.trans (.of b39'))⟩
end Go.Proofs.YtmfgcaffdkakhaaGreat
