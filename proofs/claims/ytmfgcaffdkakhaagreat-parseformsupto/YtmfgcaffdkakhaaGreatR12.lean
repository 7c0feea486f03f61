/- Own text. Package parse: the rules, one by one: conditions. -/
import Derived.Test.YtmfgcaffdkakhaaGreatR2
namespace Go.Proofs.YtmfgcaffdkakhaaGreat
open Go.RowKit
set_option linter.unusedVariables false
set_option linter.unusedSimpArgs false

/-- operands with operators of a line and of those that bind more. -/
def CBn (L : List Tok) (f : Nat) : Prop := ∀ (w : World) (P : Pl) (a o m : Nat), Rd w P L a (opE o) → o ≤ 400 → 1 ≤ m → m ≤ 7 → Ms L a o 11 ≤ f →
    Calls Tryz.prog 59 #[.pointer (some ⟨P.R, 0, none⟩), .int .i64 (m : Int)] w (AnsN P L (opE o) w (binF L f m a o))
set_option maxRecDepth 100000 in
set_option maxHeartbeats 8000000 in
theorem cond_step (L : List Tok) (hs : Small L) (f : Nat) (MN : Mono L f) (hBn : CBn L f) (hE : CN 12 L f 20 (exprF L f)) : CN 29 L (f + 1) 12 (condF L (f + 1)) := by
  intro w P a o h ho hM
  have hRw := h.lt
  have hle := h.le
  obtain ⟨h0, a0, z0, M0⟩ := begin_cell h
  obtain ⟨res, hres⟩ : ∃ r, condF L (f + 1) a o = r := ⟨_, rfl⟩
  have HR : Hid (condF L (f + 1) a o = res) := hres
  rw [hres]
  clear hres
  have HBN' : Hid (CBn L f) := hBn
  have HE' : Hid (CN 12 L f 20 (exprF L f)) := hE
  clear hBn
  clear hE
  go_enter Tryz.func29, Tryz.ntmps29
  go_wp2_with fail
  go_at_call 59
  refine (HBN'.out _ _ _ _ 1 h0 (by omega) (by omega) (by omega) (by unfold Ms at *; omega)).mono ?_
  rintro e W1 A1
  cases h1 : binF L f 1 a o with
  | bad p er =>
    rw [h1] at A1
    obtain ⟨rfl, b1⟩ := A1
    obtain rfl : Rs.bad p er = res := by rw [← HR.out, condF]; simp [Rs.bind, mtT, h1]
    exact ⟨rfl, rfl, a0.trans ((KeptR.refl P.R (w.alloc zN)).trans b1)⟩
  | ok x1 a1 =>
    rw [h1] at A1
    obtain ⟨ad1, c1, rfl, l1', r1, b1⟩ := A1
    have g1 := (MN.bin' 1 a o) _ _ h1
    have y1 := r1.le
    have k1 := (KeptR.refl P.R (w.alloc zN)).trans b1
    have z1 := k1.size
    have l1 := l1'.mono (T := fun b => w.heap.size + 1 ≤ b) (fun b hb => by have := (KeptR.refl P.R (w.alloc zN)).size; omega)
    cases q3 : isS L a1 sQu with
    | true =>
      have T3 := take_any (r1.bel ((Below.refl _ _).alloc (Nat.le_refl _) (Obj.cells #[Value.int IntKind.i64 x1.k, Value.string x1.t, Value.int IntKind.i64 x1.n, Value.slice ad1 x1.ks.length c1] 27))) sQu
      rw [q3] at T3
      have u3 := isS_lt q3
      go_wp2_with fail
      go_at_call 33
      refine T3.mono ?_
      rintro e W3 ⟨rfl, r3', b3⟩
      have r3 : Rd W3 P L (a1 + 1) (opE o) := r3'
      clear r3'
      have k3 := (k1.alloc (Obj.cells #[Value.int IntKind.i64 x1.k, Value.string x1.t, Value.int IntKind.i64 x1.n, Value.slice ad1 x1.ks.length c1] 27)).trans b3
      have z3 := k3.size
      have y3 := r3.le
      go_wp2_with fail
      go_at_call 12
      refine (HE'.out _ _ _ _ r3 (by omega) (by unfold Ms at *; omega)).mono ?_
      rintro e W4 A4
      cases h4 : exprF L f (a1 + 1) o with
      | bad p er =>
        rw [h4] at A4
        obtain ⟨rfl, b4⟩ := A4
        obtain rfl : Rs.bad p er = res := by rw [← HR.out, condF]; simp [Rs.bind, mtT, h1, q3, h4]
        exact ⟨rfl, rfl, a0.trans (k3.trans b4)⟩
      | ok x4 a4 =>
        rw [h4] at A4
        obtain ⟨ad4, c4, rfl, l4', r4, b4⟩ := A4
        have g4 := (MN.expr' (a1 + 1) o) _ _ h4
        have y4 := r4.le
        have k4 := k3.trans b4
        have z4 := k4.size
        have l4 := l4'.mono (T := fun b => w.heap.size + 1 ≤ b) (fun b hb => by have := k3.size; omega)
        go_wp2_with fail
        go_at_call 60
        refine (want_any (r4.bel ((Below.refl _ _).alloc (Nat.le_refl _) (Obj.cells #[Value.int IntKind.i64 x4.k, Value.string x4.t, Value.int IntKind.i64 x4.n, Value.slice ad4 x4.ks.length c4] 27))) sCo).mono ?_
        rintro e W6 A6
        cases h6 : wantR L sCo a4 with
        | bad p er =>
          rw [h6] at A6
          obtain ⟨rfl, b6⟩ := A6
          obtain rfl : Rs.bad p er = res := by rw [← HR.out, condF]; simp [Rs.bind, mtT, h1, q3, h4, h6]
          exact ⟨rfl, rfl, a0.trans ((k4.alloc (Obj.cells #[Value.int IntKind.i64 x4.k, Value.string x4.t, Value.int IntKind.i64 x4.n, Value.slice ad4 x4.ks.length c4] 27)).trans b6)⟩
        | ok x6 a6 =>
          rw [h6] at A6
          obtain ⟨rfl, r6, b6⟩ := A6
          have g6 := (want_ge L sCo a4) _ _ h6
          have y6 := r6.le
          have k6 := (k4.alloc (Obj.cells #[Value.int IntKind.i64 x4.k, Value.string x4.t, Value.int IntKind.i64 x4.n, Value.slice ad4 x4.ks.length c4] 27)).trans b6
          have z6 := k6.size
          go_wp2_with fail
          refine wp_region_any (by kernel_rfl) ?_
          change wpAny _ _ _ _ _ _ _ (World.drew _)
          refine wpAny_take (i := 2) (v := (.pointer (some ⟨P.R, 0, none⟩))) rfl (by kernel_rfl) (by kernel_rfl) (by kernel_rfl) (fun _ _ _ h => h) (Or.inl ⟨by rfl, fun w => by go_simp⟩) ?_
          have v2 : W6.drew.heap[W1.heap.size]? = some (.cells #[Value.int IntKind.i64 x1.k, Value.string x1.t, Value.int IntKind.i64 x1.n, Value.slice ad1 x1.ks.length c1] 27 (0, 0)) := (((((((KeptR.refl P.R (W1.alloc (Obj.cells #[Value.int IntKind.i64 x1.k, Value.string x1.t, Value.int IntKind.i64 x1.n, Value.slice ad1 x1.ks.length c1] 27))).trans b3).trans b4).alloc (Obj.cells #[Value.int IntKind.i64 x4.k, Value.string x4.t, Value.int IntKind.i64 x4.n, Value.slice ad4 x4.ks.length c4] 27)).trans b6).trans (.of ((Below.refl _ _).drew))).block (W1.heap.size) (by simp) (by have := k1.size; omega)).trans (heap_alloc_new W1 _)
          obtain ⟨⟨_, _, _, _⟩, _, _, _, _⟩ := t4 v2
          have v5 : W6.drew.heap[W4.heap.size]? = some (.cells #[Value.int IntKind.i64 x4.k, Value.string x4.t, Value.int IntKind.i64 x4.n, Value.slice ad4 x4.ks.length c4] 27 (0, 0)) := ((((KeptR.refl P.R (W4.alloc (Obj.cells #[Value.int IntKind.i64 x4.k, Value.string x4.t, Value.int IntKind.i64 x4.n, Value.slice ad4 x4.ks.length c4] 27))).trans b6).trans (.of ((Below.refl _ _).drew))).block (W4.heap.size) (by simp) (by have := k4.size; omega)).trans (heap_alloc_new W4 _)
          obtain ⟨⟨_, _, _, _⟩, _, _, _, _⟩ := t4 v5
          refine wpAny_ready (rs := [0, 1, 3]) (by kernel_rfl) (by simp) ?_
          refine AllReady.cons rfl (fun K hK => ?_) (AllReady.cons rfl (fun K hK => ?_) (AllReady.cons rfl (fun K hK => ?_) AllReady.nil))
          · go_simp
            refine hK _ _ ?_
            clear hK K
            refine wpAny_two (i := 1) (j := 3) (is := [3, 4, 5, 6]) (js := [1, 4, 5, 6]) (os := [_, _, _, _]) (us := [_, _, _, _]) (by kernel_rfl) rfl rfl (by kernel_rfl) (by kernel_rfl) rfl rfl (by decide) (by decide) ?_ ?_
            · go_wp2_with fail
              go_at_call 12
              refine (HE'.out _ _ _ _ (r6.bel ((Below.refl _ _).drew)) (by omega) (by unfold Ms at *; omega)).mono ?_
              rintro e W7 A7
              cases h7 : exprF L f a6 o with
              | bad p er =>
                rw [h7] at A7
                obtain ⟨rfl, b7⟩ := A7
                obtain rfl : Rs.bad p er = res := by rw [← HR.out, condF]; simp [Rs.bind, mtT, h1, q3, h4, h6, h7]
                exact ⟨rfl, rfl, a0.trans ((k6.trans (.of ((Below.refl _ _).drew))).trans b7)⟩
              | ok x7 a7 =>
                rw [h7] at A7
                obtain ⟨ad7, c7, rfl, l7', r7, b7⟩ := A7
                have g7 := (MN.expr' a6 o) _ _ h7
                have y7 := r7.le
                have k7 := (k6.trans (.of ((Below.refl _ _).drew))).trans b7
                have z7 := k7.size
                have l7 := l7'.mono (T := fun b => w.heap.size + 1 ≤ b) (fun b hb => by have := (k6.trans (.of ((Below.refl _ _).drew))).size; omega)
                have v2 : W7.heap[W1.heap.size]? = some (.cells #[Value.int IntKind.i64 x1.k, Value.string x1.t, Value.int IntKind.i64 x1.n, Value.slice ad1 x1.ks.length c1] 27 (0, 0)) := ((((((((KeptR.refl P.R (W1.alloc (Obj.cells #[Value.int IntKind.i64 x1.k, Value.string x1.t, Value.int IntKind.i64 x1.n, Value.slice ad1 x1.ks.length c1] 27))).trans b3).trans b4).alloc (Obj.cells #[Value.int IntKind.i64 x4.k, Value.string x4.t, Value.int IntKind.i64 x4.n, Value.slice ad4 x4.ks.length c4] 27)).trans b6).trans (.of ((Below.refl _ _).drew))).trans b7).block (W1.heap.size) (by simp) (by have := k1.size; omega)).trans (heap_alloc_new W1 _)
                obtain ⟨⟨_, _, _, _⟩, _, _, _, _⟩ := t4 v2
                have v5 : W7.heap[W4.heap.size]? = some (.cells #[Value.int IntKind.i64 x4.k, Value.string x4.t, Value.int IntKind.i64 x4.n, Value.slice ad4 x4.ks.length c4] 27 (0, 0)) := (((((KeptR.refl P.R (W4.alloc (Obj.cells #[Value.int IntKind.i64 x4.k, Value.string x4.t, Value.int IntKind.i64 x4.n, Value.slice ad4 x4.ks.length c4] 27))).trans b6).trans (.of ((Below.refl _ _).drew))).trans b7).block (W4.heap.size) (by simp) (by have := k4.size; omega)).trans (heap_alloc_new W4 _)
                obtain ⟨⟨_, _, _, _⟩, _, _, _, _⟩ := t4 v5
                go_wp2_with fail
                go_at_call 35
                refine (node_any 17 ⟨#[]⟩ (some ⟨W7.heap.size, 0, none⟩) 3 3 _).mono ?_
                rintro e W8 ⟨rfl, b8'⟩
                have j8 : W8.heap[W7.heap.size]? = some (.cells #[Value.int IntKind.i64 x1.k, Value.string x1.t, Value.int IntKind.i64 x1.n, Value.slice ad1 x1.ks.length c1, Value.int IntKind.i64 x4.k, Value.string x4.t, Value.int IntKind.i64 x4.n, Value.slice ad4 x4.ks.length c4, Value.int IntKind.i64 x7.k, Value.string x7.t, Value.int IntKind.i64 x7.n, Value.slice ad7 x7.ks.length c7] 27 (0, 0)) := (b8'.block _ (by simp)).trans (heap_alloc_new W7 _)
                have r8 := (r7.bel ((Below.refl _ _).alloc (Nat.le_refl _) (Obj.cells #[Value.int IntKind.i64 x1.k, Value.string x1.t, Value.int IntKind.i64 x1.n, Value.slice ad1 x1.ks.length c1, Value.int IntKind.i64 x4.k, Value.string x4.t, Value.int IntKind.i64 x4.n, Value.slice ad4 x4.ks.length c4, Value.int IntKind.i64 x7.k, Value.string x7.t, Value.int IntKind.i64 x7.n, Value.slice ad7 x7.ks.length c7] 27))).bel b8'
                have b8 : KeptR P.R W7 W8 := (KeptR.of ((Below.refl _ _).alloc (Nat.le_refl _) _)).trans (.of b8')
                have k8 := k7.trans b8
                have z8 := k8.size
                have l8 : LAt W8 (fun b => w.heap.size + 1 ≤ b) (.slice (some ⟨W7.heap.size, 0, none⟩) 3 3) [x1, x4, x7] := LAt.n3 j8 (by have := k7.size; show _ ≤ _; omega) (l1.keepR (((((((((KeptR.refl P.R W1).alloc (Obj.cells #[Value.int IntKind.i64 x1.k, Value.string x1.t, Value.int IntKind.i64 x1.n, Value.slice ad1 x1.ks.length c1] 27)).trans b3).trans b4).alloc (Obj.cells #[Value.int IntKind.i64 x4.k, Value.string x4.t, Value.int IntKind.i64 x4.n, Value.slice ad4 x4.ks.length c4] 27)).trans b6).trans (.of ((Below.refl _ _).drew))).trans b7).trans b8) (by omega)) (l4.keepR ((((((KeptR.refl P.R W4).alloc (Obj.cells #[Value.int IntKind.i64 x4.k, Value.string x4.t, Value.int IntKind.i64 x4.n, Value.slice ad4 x4.ks.length c4] 27)).trans b6).trans (.of ((Below.refl _ _).drew))).trans b7).trans b8) (by omega)) (l7.keepR ((KeptR.refl P.R W7).trans b8) (by omega))
                obtain rfl : Rs.ok (mk0 17 ⟨#[]⟩ [x1, x4, x7]) a7 = res := by rw [← HR.out, condF]; simp [Rs.bind, mtT, h1, q3, h4, h6, h7]
                have m0 := M0.out _ k8
                obtain ⟨⟨_, _, _, _⟩, _, _, _, _⟩ := t4 m0
                go_wp2
                refine bodyPost_ret (res_n4 Tryz.results29 (t4_set _ _ _ _ m0) rfl) rfl ?_
                exact close_ok (x := (mk0 17 ⟨#[]⟩ [x1, x4, x7])) h (a0.trans k8) (l8.keepR (KeptR.refl P.R W8) (by omega)) (by omega) r8
            · go_wp2_with fail
              go_at_call 12
              refine (HE'.out _ _ _ _ (r6.bel ((Below.refl _ _).drew)) (by omega) (by unfold Ms at *; omega)).mono ?_
              rintro e W9 A9
              cases h9 : exprF L f a6 o with
              | bad p er =>
                rw [h9] at A9
                obtain ⟨rfl, b9⟩ := A9
                obtain rfl : Rs.bad p er = res := by rw [← HR.out, condF]; simp [Rs.bind, mtT, h1, q3, h4, h6, h9]
                exact ⟨rfl, rfl, a0.trans ((k6.trans (.of ((Below.refl _ _).drew))).trans b9)⟩
              | ok x9 a9 =>
                rw [h9] at A9
                obtain ⟨ad9, c9, rfl, l9', r9, b9⟩ := A9
                have g9 := (MN.expr' a6 o) _ _ h9
                have y9 := r9.le
                have k9 := (k6.trans (.of ((Below.refl _ _).drew))).trans b9
                have z9 := k9.size
                have l9 := l9'.mono (T := fun b => w.heap.size + 1 ≤ b) (fun b hb => by have := (k6.trans (.of ((Below.refl _ _).drew))).size; omega)
                have v2 : W9.heap[W1.heap.size]? = some (.cells #[Value.int IntKind.i64 x1.k, Value.string x1.t, Value.int IntKind.i64 x1.n, Value.slice ad1 x1.ks.length c1] 27 (0, 0)) := ((((((((KeptR.refl P.R (W1.alloc (Obj.cells #[Value.int IntKind.i64 x1.k, Value.string x1.t, Value.int IntKind.i64 x1.n, Value.slice ad1 x1.ks.length c1] 27))).trans b3).trans b4).alloc (Obj.cells #[Value.int IntKind.i64 x4.k, Value.string x4.t, Value.int IntKind.i64 x4.n, Value.slice ad4 x4.ks.length c4] 27)).trans b6).trans (.of ((Below.refl _ _).drew))).trans b9).block (W1.heap.size) (by simp) (by have := k1.size; omega)).trans (heap_alloc_new W1 _)
                obtain ⟨⟨_, _, _, _⟩, _, _, _, _⟩ := t4 v2
                have v5 : W9.heap[W4.heap.size]? = some (.cells #[Value.int IntKind.i64 x4.k, Value.string x4.t, Value.int IntKind.i64 x4.n, Value.slice ad4 x4.ks.length c4] 27 (0, 0)) := (((((KeptR.refl P.R (W4.alloc (Obj.cells #[Value.int IntKind.i64 x4.k, Value.string x4.t, Value.int IntKind.i64 x4.n, Value.slice ad4 x4.ks.length c4] 27))).trans b6).trans (.of ((Below.refl _ _).drew))).trans b9).block (W4.heap.size) (by simp) (by have := k4.size; omega)).trans (heap_alloc_new W4 _)
                obtain ⟨⟨_, _, _, _⟩, _, _, _, _⟩ := t4 v5
                go_wp2_with fail
                go_at_call 35
                refine (node_any 17 ⟨#[]⟩ (some ⟨W9.heap.size, 0, none⟩) 3 3 _).mono ?_
                rintro e W10 ⟨rfl, b10'⟩
                have j10 : W10.heap[W9.heap.size]? = some (.cells #[Value.int IntKind.i64 x1.k, Value.string x1.t, Value.int IntKind.i64 x1.n, Value.slice ad1 x1.ks.length c1, Value.int IntKind.i64 x4.k, Value.string x4.t, Value.int IntKind.i64 x4.n, Value.slice ad4 x4.ks.length c4, Value.int IntKind.i64 x9.k, Value.string x9.t, Value.int IntKind.i64 x9.n, Value.slice ad9 x9.ks.length c9] 27 (0, 0)) := (b10'.block _ (by simp)).trans (heap_alloc_new W9 _)
                have r10 := (r9.bel ((Below.refl _ _).alloc (Nat.le_refl _) (Obj.cells #[Value.int IntKind.i64 x1.k, Value.string x1.t, Value.int IntKind.i64 x1.n, Value.slice ad1 x1.ks.length c1, Value.int IntKind.i64 x4.k, Value.string x4.t, Value.int IntKind.i64 x4.n, Value.slice ad4 x4.ks.length c4, Value.int IntKind.i64 x9.k, Value.string x9.t, Value.int IntKind.i64 x9.n, Value.slice ad9 x9.ks.length c9] 27))).bel b10'
                have b10 : KeptR P.R W9 W10 := (KeptR.of ((Below.refl _ _).alloc (Nat.le_refl _) _)).trans (.of b10')
                have k10 := k9.trans b10
                have z10 := k10.size
                have l10 : LAt W10 (fun b => w.heap.size + 1 ≤ b) (.slice (some ⟨W9.heap.size, 0, none⟩) 3 3) [x1, x4, x9] := LAt.n3 j10 (by have := k9.size; show _ ≤ _; omega) (l1.keepR (((((((((KeptR.refl P.R W1).alloc (Obj.cells #[Value.int IntKind.i64 x1.k, Value.string x1.t, Value.int IntKind.i64 x1.n, Value.slice ad1 x1.ks.length c1] 27)).trans b3).trans b4).alloc (Obj.cells #[Value.int IntKind.i64 x4.k, Value.string x4.t, Value.int IntKind.i64 x4.n, Value.slice ad4 x4.ks.length c4] 27)).trans b6).trans (.of ((Below.refl _ _).drew))).trans b9).trans b10) (by omega)) (l4.keepR ((((((KeptR.refl P.R W4).alloc (Obj.cells #[Value.int IntKind.i64 x4.k, Value.string x4.t, Value.int IntKind.i64 x4.n, Value.slice ad4 x4.ks.length c4] 27)).trans b6).trans (.of ((Below.refl _ _).drew))).trans b9).trans b10) (by omega)) (l9.keepR ((KeptR.refl P.R W9).trans b10) (by omega))
                obtain rfl : Rs.ok (mk0 17 ⟨#[]⟩ [x1, x4, x9]) a9 = res := by rw [← HR.out, condF]; simp [Rs.bind, mtT, h1, q3, h4, h6, h9]
                have m0 := M0.out _ k10
                obtain ⟨⟨_, _, _, _⟩, _, _, _, _⟩ := t4 m0
                go_wp2
                refine bodyPost_ret (res_n4 Tryz.results29 (t4_set _ _ _ _ m0) rfl) rfl ?_
                exact close_ok (x := (mk0 17 ⟨#[]⟩ [x1, x4, x9])) h (a0.trans k10) (l10.keepR (KeptR.refl P.R W10) (by omega)) (by omega) r10
          · go_simp
            refine hK _ _ ?_
            clear hK K
            refine wpAny_two (i := 0) (j := 3) (is := [3, 4, 5, 6]) (js := [0, 4, 5, 6]) (os := [_, _, _, _]) (us := [_, _, _, _]) (by kernel_rfl) rfl rfl (by kernel_rfl) (by kernel_rfl) rfl rfl (by decide) (by decide) ?_ ?_
            · go_wp2_with fail
              go_at_call 12
              refine (HE'.out _ _ _ _ (r6.bel ((Below.refl _ _).drew)) (by omega) (by unfold Ms at *; omega)).mono ?_
              rintro e W11 A11
              cases h11 : exprF L f a6 o with
              | bad p er =>
                rw [h11] at A11
                obtain ⟨rfl, b11⟩ := A11
                obtain rfl : Rs.bad p er = res := by rw [← HR.out, condF]; simp [Rs.bind, mtT, h1, q3, h4, h6, h11]
                exact ⟨rfl, rfl, a0.trans ((k6.trans (.of ((Below.refl _ _).drew))).trans b11)⟩
              | ok x11 a11 =>
                rw [h11] at A11
                obtain ⟨ad11, c11, rfl, l11', r11, b11⟩ := A11
                have g11 := (MN.expr' a6 o) _ _ h11
                have y11 := r11.le
                have k11 := (k6.trans (.of ((Below.refl _ _).drew))).trans b11
                have z11 := k11.size
                have l11 := l11'.mono (T := fun b => w.heap.size + 1 ≤ b) (fun b hb => by have := (k6.trans (.of ((Below.refl _ _).drew))).size; omega)
                have v2 : W11.heap[W1.heap.size]? = some (.cells #[Value.int IntKind.i64 x1.k, Value.string x1.t, Value.int IntKind.i64 x1.n, Value.slice ad1 x1.ks.length c1] 27 (0, 0)) := ((((((((KeptR.refl P.R (W1.alloc (Obj.cells #[Value.int IntKind.i64 x1.k, Value.string x1.t, Value.int IntKind.i64 x1.n, Value.slice ad1 x1.ks.length c1] 27))).trans b3).trans b4).alloc (Obj.cells #[Value.int IntKind.i64 x4.k, Value.string x4.t, Value.int IntKind.i64 x4.n, Value.slice ad4 x4.ks.length c4] 27)).trans b6).trans (.of ((Below.refl _ _).drew))).trans b11).block (W1.heap.size) (by simp) (by have := k1.size; omega)).trans (heap_alloc_new W1 _)
                obtain ⟨⟨_, _, _, _⟩, _, _, _, _⟩ := t4 v2
                have v5 : W11.heap[W4.heap.size]? = some (.cells #[Value.int IntKind.i64 x4.k, Value.string x4.t, Value.int IntKind.i64 x4.n, Value.slice ad4 x4.ks.length c4] 27 (0, 0)) := (((((KeptR.refl P.R (W4.alloc (Obj.cells #[Value.int IntKind.i64 x4.k, Value.string x4.t, Value.int IntKind.i64 x4.n, Value.slice ad4 x4.ks.length c4] 27))).trans b6).trans (.of ((Below.refl _ _).drew))).trans b11).block (W4.heap.size) (by simp) (by have := k4.size; omega)).trans (heap_alloc_new W4 _)
                obtain ⟨⟨_, _, _, _⟩, _, _, _, _⟩ := t4 v5
                go_wp2_with fail
                go_at_call 35
                refine (node_any 17 ⟨#[]⟩ (some ⟨W11.heap.size, 0, none⟩) 3 3 _).mono ?_
                rintro e W12 ⟨rfl, b12'⟩
                have j12 : W12.heap[W11.heap.size]? = some (.cells #[Value.int IntKind.i64 x1.k, Value.string x1.t, Value.int IntKind.i64 x1.n, Value.slice ad1 x1.ks.length c1, Value.int IntKind.i64 x4.k, Value.string x4.t, Value.int IntKind.i64 x4.n, Value.slice ad4 x4.ks.length c4, Value.int IntKind.i64 x11.k, Value.string x11.t, Value.int IntKind.i64 x11.n, Value.slice ad11 x11.ks.length c11] 27 (0, 0)) := (b12'.block _ (by simp)).trans (heap_alloc_new W11 _)
                have r12 := (r11.bel ((Below.refl _ _).alloc (Nat.le_refl _) (Obj.cells #[Value.int IntKind.i64 x1.k, Value.string x1.t, Value.int IntKind.i64 x1.n, Value.slice ad1 x1.ks.length c1, Value.int IntKind.i64 x4.k, Value.string x4.t, Value.int IntKind.i64 x4.n, Value.slice ad4 x4.ks.length c4, Value.int IntKind.i64 x11.k, Value.string x11.t, Value.int IntKind.i64 x11.n, Value.slice ad11 x11.ks.length c11] 27))).bel b12'
                have b12 : KeptR P.R W11 W12 := (KeptR.of ((Below.refl _ _).alloc (Nat.le_refl _) _)).trans (.of b12')
                have k12 := k11.trans b12
                have z12 := k12.size
                have l12 : LAt W12 (fun b => w.heap.size + 1 ≤ b) (.slice (some ⟨W11.heap.size, 0, none⟩) 3 3) [x1, x4, x11] := LAt.n3 j12 (by have := k11.size; show _ ≤ _; omega) (l1.keepR (((((((((KeptR.refl P.R W1).alloc (Obj.cells #[Value.int IntKind.i64 x1.k, Value.string x1.t, Value.int IntKind.i64 x1.n, Value.slice ad1 x1.ks.length c1] 27)).trans b3).trans b4).alloc (Obj.cells #[Value.int IntKind.i64 x4.k, Value.string x4.t, Value.int IntKind.i64 x4.n, Value.slice ad4 x4.ks.length c4] 27)).trans b6).trans (.of ((Below.refl _ _).drew))).trans b11).trans b12) (by omega)) (l4.keepR ((((((KeptR.refl P.R W4).alloc (Obj.cells #[Value.int IntKind.i64 x4.k, Value.string x4.t, Value.int IntKind.i64 x4.n, Value.slice ad4 x4.ks.length c4] 27)).trans b6).trans (.of ((Below.refl _ _).drew))).trans b11).trans b12) (by omega)) (l11.keepR ((KeptR.refl P.R W11).trans b12) (by omega))
                obtain rfl : Rs.ok (mk0 17 ⟨#[]⟩ [x1, x4, x11]) a11 = res := by rw [← HR.out, condF]; simp [Rs.bind, mtT, h1, q3, h4, h6, h11]
                have m0 := M0.out _ k12
                obtain ⟨⟨_, _, _, _⟩, _, _, _, _⟩ := t4 m0
                go_wp2
                refine bodyPost_ret (res_n4 Tryz.results29 (t4_set _ _ _ _ m0) rfl) rfl ?_
                exact close_ok (x := (mk0 17 ⟨#[]⟩ [x1, x4, x11])) h (a0.trans k12) (l12.keepR (KeptR.refl P.R W12) (by omega)) (by omega) r12
            · go_wp2_with fail
              go_at_call 12
              refine (HE'.out _ _ _ _ (r6.bel ((Below.refl _ _).drew)) (by omega) (by unfold Ms at *; omega)).mono ?_
              rintro e W13 A13
              cases h13 : exprF L f a6 o with
              | bad p er =>
                rw [h13] at A13
                obtain ⟨rfl, b13⟩ := A13
                obtain rfl : Rs.bad p er = res := by rw [← HR.out, condF]; simp [Rs.bind, mtT, h1, q3, h4, h6, h13]
                exact ⟨rfl, rfl, a0.trans ((k6.trans (.of ((Below.refl _ _).drew))).trans b13)⟩
              | ok x13 a13 =>
                rw [h13] at A13
                obtain ⟨ad13, c13, rfl, l13', r13, b13⟩ := A13
                have g13 := (MN.expr' a6 o) _ _ h13
                have y13 := r13.le
                have k13 := (k6.trans (.of ((Below.refl _ _).drew))).trans b13
                have z13 := k13.size
                have l13 := l13'.mono (T := fun b => w.heap.size + 1 ≤ b) (fun b hb => by have := (k6.trans (.of ((Below.refl _ _).drew))).size; omega)
                have v2 : W13.heap[W1.heap.size]? = some (.cells #[Value.int IntKind.i64 x1.k, Value.string x1.t, Value.int IntKind.i64 x1.n, Value.slice ad1 x1.ks.length c1] 27 (0, 0)) := ((((((((KeptR.refl P.R (W1.alloc (Obj.cells #[Value.int IntKind.i64 x1.k, Value.string x1.t, Value.int IntKind.i64 x1.n, Value.slice ad1 x1.ks.length c1] 27))).trans b3).trans b4).alloc (Obj.cells #[Value.int IntKind.i64 x4.k, Value.string x4.t, Value.int IntKind.i64 x4.n, Value.slice ad4 x4.ks.length c4] 27)).trans b6).trans (.of ((Below.refl _ _).drew))).trans b13).block (W1.heap.size) (by simp) (by have := k1.size; omega)).trans (heap_alloc_new W1 _)
                obtain ⟨⟨_, _, _, _⟩, _, _, _, _⟩ := t4 v2
                have v5 : W13.heap[W4.heap.size]? = some (.cells #[Value.int IntKind.i64 x4.k, Value.string x4.t, Value.int IntKind.i64 x4.n, Value.slice ad4 x4.ks.length c4] 27 (0, 0)) := (((((KeptR.refl P.R (W4.alloc (Obj.cells #[Value.int IntKind.i64 x4.k, Value.string x4.t, Value.int IntKind.i64 x4.n, Value.slice ad4 x4.ks.length c4] 27))).trans b6).trans (.of ((Below.refl _ _).drew))).trans b13).block (W4.heap.size) (by simp) (by have := k4.size; omega)).trans (heap_alloc_new W4 _)
                obtain ⟨⟨_, _, _, _⟩, _, _, _, _⟩ := t4 v5
                go_wp2_with fail
                go_at_call 35
                refine (node_any 17 ⟨#[]⟩ (some ⟨W13.heap.size, 0, none⟩) 3 3 _).mono ?_
                rintro e W14 ⟨rfl, b14'⟩
                have j14 : W14.heap[W13.heap.size]? = some (.cells #[Value.int IntKind.i64 x1.k, Value.string x1.t, Value.int IntKind.i64 x1.n, Value.slice ad1 x1.ks.length c1, Value.int IntKind.i64 x4.k, Value.string x4.t, Value.int IntKind.i64 x4.n, Value.slice ad4 x4.ks.length c4, Value.int IntKind.i64 x13.k, Value.string x13.t, Value.int IntKind.i64 x13.n, Value.slice ad13 x13.ks.length c13] 27 (0, 0)) := (b14'.block _ (by simp)).trans (heap_alloc_new W13 _)
                have r14 := (r13.bel ((Below.refl _ _).alloc (Nat.le_refl _) (Obj.cells #[Value.int IntKind.i64 x1.k, Value.string x1.t, Value.int IntKind.i64 x1.n, Value.slice ad1 x1.ks.length c1, Value.int IntKind.i64 x4.k, Value.string x4.t, Value.int IntKind.i64 x4.n, Value.slice ad4 x4.ks.length c4, Value.int IntKind.i64 x13.k, Value.string x13.t, Value.int IntKind.i64 x13.n, Value.slice ad13 x13.ks.length c13] 27))).bel b14'
                have b14 : KeptR P.R W13 W14 := (KeptR.of ((Below.refl _ _).alloc (Nat.le_refl _) _)).trans (.of b14')
                have k14 := k13.trans b14
                have z14 := k14.size
                have l14 : LAt W14 (fun b => w.heap.size + 1 ≤ b) (.slice (some ⟨W13.heap.size, 0, none⟩) 3 3) [x1, x4, x13] := LAt.n3 j14 (by have := k13.size; show _ ≤ _; omega) (l1.keepR (((((((((KeptR.refl P.R W1).alloc (Obj.cells #[Value.int IntKind.i64 x1.k, Value.string x1.t, Value.int IntKind.i64 x1.n, Value.slice ad1 x1.ks.length c1] 27)).trans b3).trans b4).alloc (Obj.cells #[Value.int IntKind.i64 x4.k, Value.string x4.t, Value.int IntKind.i64 x4.n, Value.slice ad4 x4.ks.length c4] 27)).trans b6).trans (.of ((Below.refl _ _).drew))).trans b13).trans b14) (by omega)) (l4.keepR ((((((KeptR.refl P.R W4).alloc (Obj.cells #[Value.int IntKind.i64 x4.k, Value.string x4.t, Value.int IntKind.i64 x4.n, Value.slice ad4 x4.ks.length c4] 27)).trans b6).trans (.of ((Below.refl _ _).drew))).trans b13).trans b14) (by omega)) (l13.keepR ((KeptR.refl P.R W13).trans b14) (by omega))
                obtain rfl : Rs.ok (mk0 17 ⟨#[]⟩ [x1, x4, x13]) a13 = res := by rw [← HR.out, condF]; simp [Rs.bind, mtT, h1, q3, h4, h6, h13]
                have m0 := M0.out _ k14
                obtain ⟨⟨_, _, _, _⟩, _, _, _, _⟩ := t4 m0
                go_wp2
                refine bodyPost_ret (res_n4 Tryz.results29 (t4_set _ _ _ _ m0) rfl) rfl ?_
                exact close_ok (x := (mk0 17 ⟨#[]⟩ [x1, x4, x13])) h (a0.trans k14) (l14.keepR (KeptR.refl P.R W14) (by omega)) (by omega) r14
          · go_simp
            go_at_call 12
            refine (HE'.out _ _ _ _ (r6.bel ((Below.refl _ _).drew)) (by omega) (by unfold Ms at *; omega)).mono ?_
            rintro e W15 A15
            cases h15 : exprF L f a6 o with
            | bad p er =>
              rw [h15] at A15
              obtain ⟨rfl, b15⟩ := A15
              obtain rfl : Rs.bad p er = res := by rw [← HR.out, condF]; simp [Rs.bind, mtT, h1, q3, h4, h6, h15]
              exact ⟨rfl, rfl, a0.trans ((k6.trans (.of ((Below.refl _ _).drew))).trans b15)⟩
            | ok x15 a15 =>
              rw [h15] at A15
              obtain ⟨ad15, c15, rfl, l15', r15, b15⟩ := A15
              have g15 := (MN.expr' a6 o) _ _ h15
              have y15 := r15.le
              have k15 := (k6.trans (.of ((Below.refl _ _).drew))).trans b15
              have z15 := k15.size
              have l15 := l15'.mono (T := fun b => w.heap.size + 1 ≤ b) (fun b hb => by have := (k6.trans (.of ((Below.refl _ _).drew))).size; omega)
              refine hK _ _ ?_
              clear hK K
              have v2 : W15.heap[W1.heap.size]? = some (.cells #[Value.int IntKind.i64 x1.k, Value.string x1.t, Value.int IntKind.i64 x1.n, Value.slice ad1 x1.ks.length c1] 27 (0, 0)) := ((((((((KeptR.refl P.R (W1.alloc (Obj.cells #[Value.int IntKind.i64 x1.k, Value.string x1.t, Value.int IntKind.i64 x1.n, Value.slice ad1 x1.ks.length c1] 27))).trans b3).trans b4).alloc (Obj.cells #[Value.int IntKind.i64 x4.k, Value.string x4.t, Value.int IntKind.i64 x4.n, Value.slice ad4 x4.ks.length c4] 27)).trans b6).trans (.of ((Below.refl _ _).drew))).trans b15).block (W1.heap.size) (by simp) (by have := k1.size; omega)).trans (heap_alloc_new W1 _)
              obtain ⟨⟨_, _, _, _⟩, _, _, _, _⟩ := t4 v2
              have v5 : W15.heap[W4.heap.size]? = some (.cells #[Value.int IntKind.i64 x4.k, Value.string x4.t, Value.int IntKind.i64 x4.n, Value.slice ad4 x4.ks.length c4] 27 (0, 0)) := (((((KeptR.refl P.R (W4.alloc (Obj.cells #[Value.int IntKind.i64 x4.k, Value.string x4.t, Value.int IntKind.i64 x4.n, Value.slice ad4 x4.ks.length c4] 27))).trans b6).trans (.of ((Below.refl _ _).drew))).trans b15).block (W4.heap.size) (by simp) (by have := k4.size; omega)).trans (heap_alloc_new W4 _)
              obtain ⟨⟨_, _, _, _⟩, _, _, _, _⟩ := t4 v5
              refine wpAny_two (i := 0) (j := 1) (is := [1, 4, 5, 6]) (js := [0, 4, 5, 6]) (os := [_, _, _, _]) (us := [_, _, _, _]) (by kernel_rfl) rfl rfl (by kernel_rfl) (by kernel_rfl) rfl rfl (by decide) (by decide) ?_ ?_
              · go_wp2_with fail
                go_at_call 35
                refine (node_any 17 ⟨#[]⟩ (some ⟨W15.heap.size, 0, none⟩) 3 3 _).mono ?_
                rintro e W16 ⟨rfl, b16'⟩
                have j16 : W16.heap[W15.heap.size]? = some (.cells #[Value.int IntKind.i64 x1.k, Value.string x1.t, Value.int IntKind.i64 x1.n, Value.slice ad1 x1.ks.length c1, Value.int IntKind.i64 x4.k, Value.string x4.t, Value.int IntKind.i64 x4.n, Value.slice ad4 x4.ks.length c4, Value.int IntKind.i64 x15.k, Value.string x15.t, Value.int IntKind.i64 x15.n, Value.slice ad15 x15.ks.length c15] 27 (0, 0)) := (b16'.block _ (by simp)).trans (heap_alloc_new W15 _)
                have r16 := (r15.bel ((Below.refl _ _).alloc (Nat.le_refl _) (Obj.cells #[Value.int IntKind.i64 x1.k, Value.string x1.t, Value.int IntKind.i64 x1.n, Value.slice ad1 x1.ks.length c1, Value.int IntKind.i64 x4.k, Value.string x4.t, Value.int IntKind.i64 x4.n, Value.slice ad4 x4.ks.length c4, Value.int IntKind.i64 x15.k, Value.string x15.t, Value.int IntKind.i64 x15.n, Value.slice ad15 x15.ks.length c15] 27))).bel b16'
                have b16 : KeptR P.R W15 W16 := (KeptR.of ((Below.refl _ _).alloc (Nat.le_refl _) _)).trans (.of b16')
                have k16 := k15.trans b16
                have z16 := k16.size
                have l16 : LAt W16 (fun b => w.heap.size + 1 ≤ b) (.slice (some ⟨W15.heap.size, 0, none⟩) 3 3) [x1, x4, x15] := LAt.n3 j16 (by have := k15.size; show _ ≤ _; omega) (l1.keepR (((((((((KeptR.refl P.R W1).alloc (Obj.cells #[Value.int IntKind.i64 x1.k, Value.string x1.t, Value.int IntKind.i64 x1.n, Value.slice ad1 x1.ks.length c1] 27)).trans b3).trans b4).alloc (Obj.cells #[Value.int IntKind.i64 x4.k, Value.string x4.t, Value.int IntKind.i64 x4.n, Value.slice ad4 x4.ks.length c4] 27)).trans b6).trans (.of ((Below.refl _ _).drew))).trans b15).trans b16) (by omega)) (l4.keepR ((((((KeptR.refl P.R W4).alloc (Obj.cells #[Value.int IntKind.i64 x4.k, Value.string x4.t, Value.int IntKind.i64 x4.n, Value.slice ad4 x4.ks.length c4] 27)).trans b6).trans (.of ((Below.refl _ _).drew))).trans b15).trans b16) (by omega)) (l15.keepR ((KeptR.refl P.R W15).trans b16) (by omega))
                obtain rfl : Rs.ok (mk0 17 ⟨#[]⟩ [x1, x4, x15]) a15 = res := by rw [← HR.out, condF]; simp [Rs.bind, mtT, h1, q3, h4, h6, h15]
                have m0 := M0.out _ k16
                obtain ⟨⟨_, _, _, _⟩, _, _, _, _⟩ := t4 m0
                go_wp2
                refine bodyPost_ret (res_n4 Tryz.results29 (t4_set _ _ _ _ m0) rfl) rfl ?_
                exact close_ok (x := (mk0 17 ⟨#[]⟩ [x1, x4, x15])) h (a0.trans k16) (l16.keepR (KeptR.refl P.R W16) (by omega)) (by omega) r16
              · go_wp2_with fail
                go_at_call 35
                refine (node_any 17 ⟨#[]⟩ (some ⟨W15.heap.size, 0, none⟩) 3 3 _).mono ?_
                rintro e W17 ⟨rfl, b17'⟩
                have j17 : W17.heap[W15.heap.size]? = some (.cells #[Value.int IntKind.i64 x1.k, Value.string x1.t, Value.int IntKind.i64 x1.n, Value.slice ad1 x1.ks.length c1, Value.int IntKind.i64 x4.k, Value.string x4.t, Value.int IntKind.i64 x4.n, Value.slice ad4 x4.ks.length c4, Value.int IntKind.i64 x15.k, Value.string x15.t, Value.int IntKind.i64 x15.n, Value.slice ad15 x15.ks.length c15] 27 (0, 0)) := (b17'.block _ (by simp)).trans (heap_alloc_new W15 _)
                have r17 := (r15.bel ((Below.refl _ _).alloc (Nat.le_refl _) (Obj.cells #[Value.int IntKind.i64 x1.k, Value.string x1.t, Value.int IntKind.i64 x1.n, Value.slice ad1 x1.ks.length c1, Value.int IntKind.i64 x4.k, Value.string x4.t, Value.int IntKind.i64 x4.n, Value.slice ad4 x4.ks.length c4, Value.int IntKind.i64 x15.k, Value.string x15.t, Value.int IntKind.i64 x15.n, Value.slice ad15 x15.ks.length c15] 27))).bel b17'
                have b17 : KeptR P.R W15 W17 := (KeptR.of ((Below.refl _ _).alloc (Nat.le_refl _) _)).trans (.of b17')
                have k17 := k15.trans b17
                have z17 := k17.size
                have l17 : LAt W17 (fun b => w.heap.size + 1 ≤ b) (.slice (some ⟨W15.heap.size, 0, none⟩) 3 3) [x1, x4, x15] := LAt.n3 j17 (by have := k15.size; show _ ≤ _; omega) (l1.keepR (((((((((KeptR.refl P.R W1).alloc (Obj.cells #[Value.int IntKind.i64 x1.k, Value.string x1.t, Value.int IntKind.i64 x1.n, Value.slice ad1 x1.ks.length c1] 27)).trans b3).trans b4).alloc (Obj.cells #[Value.int IntKind.i64 x4.k, Value.string x4.t, Value.int IntKind.i64 x4.n, Value.slice ad4 x4.ks.length c4] 27)).trans b6).trans (.of ((Below.refl _ _).drew))).trans b15).trans b17) (by omega)) (l4.keepR ((((((KeptR.refl P.R W4).alloc (Obj.cells #[Value.int IntKind.i64 x4.k, Value.string x4.t, Value.int IntKind.i64 x4.n, Value.slice ad4 x4.ks.length c4] 27)).trans b6).trans (.of ((Below.refl _ _).drew))).trans b15).trans b17) (by omega)) (l15.keepR ((KeptR.refl P.R W15).trans b17) (by omega))
                obtain rfl : Rs.ok (mk0 17 ⟨#[]⟩ [x1, x4, x15]) a15 = res := by rw [← HR.out, condF]; simp [Rs.bind, mtT, h1, q3, h4, h6, h15]
                have m0 := M0.out _ k17
                obtain ⟨⟨_, _, _, _⟩, _, _, _, _⟩ := t4 m0
                go_wp2
                refine bodyPost_ret (res_n4 Tryz.results29 (t4_set _ _ _ _ m0) rfl) rfl ?_
                exact close_ok (x := (mk0 17 ⟨#[]⟩ [x1, x4, x15])) h (a0.trans k17) (l17.keepR (KeptR.refl P.R W17) (by omega)) (by omega) r17
    | false =>
      have T3 := take_any (r1.bel ((Below.refl _ _).alloc (Nat.le_refl _) (Obj.cells #[Value.int IntKind.i64 x1.k, Value.string x1.t, Value.int IntKind.i64 x1.n, Value.slice ad1 x1.ks.length c1] 27))) sQu
      rw [q3] at T3
      go_wp2_with fail
      go_at_call 33
      refine T3.mono ?_
      rintro e W3 ⟨rfl, r3', b3⟩
      have r3 : Rd W3 P L a1 (opE o) := r3'
      clear r3'
      have k3 := (k1.alloc (Obj.cells #[Value.int IntKind.i64 x1.k, Value.string x1.t, Value.int IntKind.i64 x1.n, Value.slice ad1 x1.ks.length c1] 27)).trans b3
      have z3 := k3.size
      have y3 := r3.le
      have v2 : W3.heap[W1.heap.size]? = some (.cells #[Value.int IntKind.i64 x1.k, Value.string x1.t, Value.int IntKind.i64 x1.n, Value.slice ad1 x1.ks.length c1] 27 (0, 0)) := (((KeptR.refl P.R (W1.alloc (Obj.cells #[Value.int IntKind.i64 x1.k, Value.string x1.t, Value.int IntKind.i64 x1.n, Value.slice ad1 x1.ks.length c1] 27))).trans b3).block (W1.heap.size) (by simp) (by have := k1.size; omega)).trans (heap_alloc_new W1 _)
      obtain ⟨⟨_, _, _, _⟩, _, _, _, _⟩ := t4 v2
      obtain rfl : Rs.ok x1 a1 = res := by rw [← HR.out, condF]; simp [Rs.bind, mtT, h1, q3]
      have m0 := M0.out _ k3
      obtain ⟨⟨_, _, _, _⟩, _, _, _, _⟩ := t4 m0
      go_wp2
      refine bodyPost_ret (res_n4 Tryz.results29 (t4_set _ _ _ _ m0) rfl) rfl ?_
      exact close_ok (x := x1) h (a0.trans k3) (l1.keepR (((KeptR.refl P.R W1).alloc (Obj.cells #[Value.int IntKind.i64 x1.k, Value.string x1.t, Value.int IntKind.i64 x1.n, Value.slice ad1 x1.ks.length c1] 27)).trans b3) (by omega)) (by omega) r3
end Go.Proofs.YtmfgcaffdkakhaaGreat
