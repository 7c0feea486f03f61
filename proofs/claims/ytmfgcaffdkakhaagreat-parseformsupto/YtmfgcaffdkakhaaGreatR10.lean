/- Own text. Package parse: the rules, one by one: let and const. -/
import Derived.Test.YtmfgcaffdkakhaaGreatR5
namespace Go.Proofs.YtmfgcaffdkakhaaGreat
open Go.RowKit
set_option linter.unusedVariables false
set_option linter.unusedSimpArgs false

/-- what stands behind a let or a const. -/
def CL (L : List Tok) (f : Nat) : Prop := ∀ (w : World) (P : Pl) (a o : Nat) (n : Int), Rd w P L a (opE o) → o ≤ 400 → Ms L a o 30 ≤ f →
    Calls Tryz.prog 67 #[.pointer (some ⟨P.R, 0, none⟩), .int .i64 n] w (AnsN P L (opE o) w (letF L f n a o))
set_option maxRecDepth 100000 in
set_option maxHeartbeats 8000000 in
theorem let_step (L : List Tok) (hs : Small L) (f : Nat) (MN : Mono L f) (hTo : CN 70 L f 19 (typeOrF L f)) (hE : CN 12 L f 20 (exprF L f)) : CL L (f + 1) := by
  intro w P a o n h ho hM
  have hRw := h.lt
  have hle := h.le
  obtain ⟨h0, a0, z0, M0⟩ := begin_cell h
  obtain ⟨res, hres⟩ : ∃ r, letF L (f + 1) n a o = r := ⟨_, rfl⟩
  have HR : Hid (letF L (f + 1) n a o = res) := hres
  rw [hres]
  clear hres
  have HTO' : Hid (CN 70 L f 19 (typeOrF L f)) := hTo
  have HE' : Hid (CN 12 L f 20 (exprF L f)) := hE
  clear hTo
  clear hE
  go_enter Tryz.func67, Tryz.ntmps67
  go_wp2_with fail
  go_at_call 68
  refine (id_any h0 hs).mono ?_
  rintro e W1 A1
  cases h1 : idR L a with
  | bad p er =>
    rw [h1] at A1
    obtain ⟨rfl, b1⟩ := A1
    obtain rfl : Rs.bad p er = res := by rw [← HR.out, letF]; simp [Rs.bind, mtT, h1]
    exact ⟨rfl, rfl, a0.trans ((KeptR.refl P.R (w.alloc zN)).trans b1)⟩
  | ok x1 a1 =>
    rw [h1] at A1
    obtain ⟨rfl, r1, b1⟩ := A1
    have g1 := (id_ge L a) _ _ h1
    have y1 := r1.le
    have k1 := (KeptR.refl P.R (w.alloc zN)).trans b1
    have z1 := k1.size
    go_wp2_with fail
    go_at_call 70
    refine (HTO'.out _ _ _ _ (r1.bel ((Below.refl _ _).alloc (Nat.le_refl _) (Obj.cells #[Value.int IntKind.i64 40, Value.string x1, Value.int IntKind.i64 n, Value.slice none 0 0] 27))) (by omega) (by unfold Ms at *; omega)).mono ?_
    rintro e W3 A3
    cases h3 : typeOrF L f a1 o with
    | bad p er =>
      rw [h3] at A3
      obtain ⟨rfl, b3⟩ := A3
      obtain rfl : Rs.bad p er = res := by rw [← HR.out, letF]; simp [Rs.bind, mtT, h1, h3]
      exact ⟨rfl, rfl, a0.trans ((k1.alloc (Obj.cells #[Value.int IntKind.i64 40, Value.string x1, Value.int IntKind.i64 n, Value.slice none 0 0] 27)).trans b3)⟩
    | ok x3 a3 =>
      rw [h3] at A3
      obtain ⟨ad3, c3, rfl, l3', r3, b3⟩ := A3
      have g3 := (MN.typeOr' a1 o) _ _ h3
      have y3 := r3.le
      have k3 := (k1.alloc (Obj.cells #[Value.int IntKind.i64 40, Value.string x1, Value.int IntKind.i64 n, Value.slice none 0 0] 27)).trans b3
      have z3 := k3.size
      have l3 := l3'.mono (T := fun b => w.heap.size + 1 ≤ b) (fun b hb => by have := (k1.alloc (Obj.cells #[Value.int IntKind.i64 40, Value.string x1, Value.int IntKind.i64 n, Value.slice none 0 0] 27)).size; omega)
      have LY : Hid (∀ W, KeptR P.R W3 W → LAt W (fun b => W1.heap.size < b) (Value.slice ad3 x3.ks.length c3) x3.ks) := fun W kk => (l3'.mono (T := fun b => W1.heap.size < b) (fun b hb => by simp at hb; omega)).keep kk.size (fun b hb hl => kk.block b hl (by have := k1.size; omega))
      go_wp2_with fail
      go_at_call 60
      refine (want_any (r3.bel ((Below.refl _ _).alloc (Nat.le_refl _) (Obj.cells #[Value.int IntKind.i64 x3.k, Value.string x3.t, Value.int IntKind.i64 x3.n, Value.slice ad3 x3.ks.length c3] 27))) sAs).mono ?_
      rintro e W5 A5
      cases h5 : wantR L sAs a3 with
      | bad p er =>
        rw [h5] at A5
        obtain ⟨rfl, b5⟩ := A5
        obtain rfl : Rs.bad p er = res := by rw [← HR.out, letF]; simp [Rs.bind, mtT, h1, h3, h5]
        exact ⟨rfl, rfl, a0.trans ((k3.alloc (Obj.cells #[Value.int IntKind.i64 x3.k, Value.string x3.t, Value.int IntKind.i64 x3.n, Value.slice ad3 x3.ks.length c3] 27)).trans b5)⟩
      | ok x5 a5 =>
        rw [h5] at A5
        obtain ⟨rfl, r5, b5⟩ := A5
        have g5 := (want_ge L sAs a3) _ _ h5
        have y5 := r5.le
        have k5 := (k3.alloc (Obj.cells #[Value.int IntKind.i64 x3.k, Value.string x3.t, Value.int IntKind.i64 x3.n, Value.slice ad3 x3.ks.length c3] 27)).trans b5
        have z5 := k5.size
        go_wp2_with fail
        refine wp_region_any (by kernel_rfl) ?_
        change wpAny _ _ _ _ _ _ _ (World.drew _)
        refine wpAny_take (i := 1) (v := (.pointer (some ⟨P.R, 0, none⟩))) rfl (by kernel_rfl) (by kernel_rfl) (by kernel_rfl) (fun _ _ _ h => h) (Or.inl ⟨by rfl, fun w => by go_simp⟩) ?_
        have v4 : W5.drew.heap[W3.heap.size]? = some (.cells #[Value.int IntKind.i64 x3.k, Value.string x3.t, Value.int IntKind.i64 x3.n, Value.slice ad3 x3.ks.length c3] 27 (0, 0)) := ((((KeptR.refl P.R (W3.alloc (Obj.cells #[Value.int IntKind.i64 x3.k, Value.string x3.t, Value.int IntKind.i64 x3.n, Value.slice ad3 x3.ks.length c3] 27))).trans b5).trans (.of ((Below.refl _ _).drew))).block (W3.heap.size) (by simp) (by have := k3.size; omega)).trans (heap_alloc_new W3 _)
        obtain ⟨⟨_, _, _, _⟩, _, _, _, _⟩ := t4 v4
        have YB : Hid (W1.heap.size < W5.drew.heap.size) := by show W1.heap.size < W5.heap.size; have := (((((KeptR.refl P.R (W1.alloc (Obj.cells #[Value.int IntKind.i64 40, Value.string x1, Value.int IntKind.i64 n, Value.slice none 0 0] 27))).trans b3).alloc (Obj.cells #[Value.int IntKind.i64 x3.k, Value.string x3.t, Value.int IntKind.i64 x3.n, Value.slice ad3 x3.ks.length c3] 27)).trans b5)).size; simp at this; omega
        refine wpAny_two (i := 0) (j := 2) (is := [2, 3, 4, 5]) (js := [0, 3, 4, 5]) (os := [_, _, _, _]) (us := [_, _, _, _]) (by kernel_rfl) rfl rfl (by kernel_rfl) (by kernel_rfl) rfl rfl (by decide) (by decide) ?_ ?_
        · go_wp2_with fail
          go_at_call 12
          refine (HE'.out _ _ _ _ (r5.bel ((Below.refl _ _).drew)) (by omega) (by unfold Ms at *; omega)).mono ?_
          rintro e W6 A6
          cases h6 : exprF L f a5 o with
          | bad p er =>
            rw [h6] at A6
            obtain ⟨rfl, b6⟩ := A6
            obtain rfl : Rs.bad p er = res := by rw [← HR.out, letF]; simp [Rs.bind, mtT, h1, h3, h5, h6]
            exact ⟨rfl, rfl, a0.trans ((k5.trans (.of ((Below.refl _ _).drew))).trans b6)⟩
          | ok x6 a6 =>
            rw [h6] at A6
            obtain ⟨ad6, c6, rfl, l6', r6, b6⟩ := A6
            have g6 := (MN.expr' a5 o) _ _ h6
            have y6 := r6.le
            have k6 := (k5.trans (.of ((Below.refl _ _).drew))).trans b6
            have z6 := k6.size
            have l6 := l6'.mono (T := fun b => w.heap.size + 1 ≤ b) (fun b hb => by have := (k5.trans (.of ((Below.refl _ _).drew))).size; omega)
            have v4 : W6.heap[W3.heap.size]? = some (.cells #[Value.int IntKind.i64 x3.k, Value.string x3.t, Value.int IntKind.i64 x3.n, Value.slice ad3 x3.ks.length c3] 27 (0, 0)) := (((((KeptR.refl P.R (W3.alloc (Obj.cells #[Value.int IntKind.i64 x3.k, Value.string x3.t, Value.int IntKind.i64 x3.n, Value.slice ad3 x3.ks.length c3] 27))).trans b5).trans (.of ((Below.refl _ _).drew))).trans b6).block (W3.heap.size) (by simp) (by have := k3.size; omega)).trans (heap_alloc_new W3 _)
            obtain ⟨⟨_, _, _, _⟩, _, _, _, _⟩ := t4 v4
            have v2 : W6.heap[W1.heap.size]? = some (.cells #[Value.int IntKind.i64 40, Value.string x1, Value.int IntKind.i64 n, Value.slice none 0 0] 27 (0, 0)) := (((((((KeptR.refl P.R (W1.alloc (Obj.cells #[Value.int IntKind.i64 40, Value.string x1, Value.int IntKind.i64 n, Value.slice none 0 0] 27))).trans b3).alloc (Obj.cells #[Value.int IntKind.i64 x3.k, Value.string x3.t, Value.int IntKind.i64 x3.n, Value.slice ad3 x3.ks.length c3] 27)).trans b5).trans (.of ((Below.refl _ _).drew))).trans b6).block (W1.heap.size) (by simp) (by have := k1.size; omega)).trans (heap_alloc_new W1 _)
            obtain ⟨⟨_, _, _, _⟩, _, _, _, _⟩ := t4 v2
            have sS : (W6.setCell ⟨W1.heap.size, 3, none⟩ (.slice (some ⟨W6.heap.size, 0, none⟩) 2 2)).heap.size = W6.heap.size := by simp [World.setCell]
            have j7 : ((W6.setCell ⟨W1.heap.size, 3, none⟩ (.slice (some ⟨W6.heap.size, 0, none⟩) 2 2)).alloc (Obj.cells #[Value.int IntKind.i64 x3.k, Value.string x3.t, Value.int IntKind.i64 x3.n, Value.slice ad3 x3.ks.length c3, Value.int IntKind.i64 x6.k, Value.string x6.t, Value.int IntKind.i64 x6.n, Value.slice ad6 x6.ks.length c6] 27)).heap[W6.heap.size]? = some (.cells #[Value.int IntKind.i64 x3.k, Value.string x3.t, Value.int IntKind.i64 x3.n, Value.slice ad3 x3.ks.length c3, Value.int IntKind.i64 x6.k, Value.string x6.t, Value.int IntKind.i64 x6.n, Value.slice ad6 x6.ks.length c6] 27 (0, 0)) := hnew _ sS.symm
            have gv : w.heap.size + 1 ≤ W1.heap.size := by have := k1.size; omega
            have gw : W1.heap.size < W6.heap.size := (Array.getElem?_eq_some_iff.1 v2).1
            have p7 := (Below.heap_alloc (W6.setCell ⟨W1.heap.size, 3, none⟩ (.slice (some ⟨W6.heap.size, 0, none⟩) 2 2)) (Obj.cells #[Value.int IntKind.i64 x3.k, Value.string x3.t, Value.int IntKind.i64 x3.n, Value.slice ad3 x3.ks.length c3, Value.int IntKind.i64 x6.k, Value.string x6.t, Value.int IntKind.i64 x6.n, Value.slice ad6 x6.ks.length c6] 27) _ (by omega)).trans (box4_set3 (.slice (some ⟨W6.heap.size, 0, none⟩) 2 2) v2)
            obtain ⟨⟨_, _, _, _⟩, _, _, _, _⟩ := t4 p7
            have k7 : KeptR P.R (w.alloc zN) ((W6.setCell ⟨W1.heap.size, 3, none⟩ (.slice (some ⟨W6.heap.size, 0, none⟩) 2 2)).alloc (Obj.cells #[Value.int IntKind.i64 x3.k, Value.string x3.t, Value.int IntKind.i64 x3.n, Value.slice ad3 x3.ks.length c3, Value.int IntKind.i64 x6.k, Value.string x6.t, Value.int IntKind.i64 x6.n, Value.slice ad6 x6.ks.length c6] 27)) := (k6.new (by omega) _ _).alloc (Obj.cells #[Value.int IntKind.i64 x3.k, Value.string x3.t, Value.int IntKind.i64 x3.n, Value.slice ad3 x3.ks.length c3, Value.int IntKind.i64 x6.k, Value.string x6.t, Value.int IntKind.i64 x6.n, Value.slice ad6 x6.ks.length c6] 27)
            have z7 := k7.size
            have r7 : Rd ((W6.setCell ⟨W1.heap.size, 3, none⟩ (.slice (some ⟨W6.heap.size, 0, none⟩) 2 2)).alloc (Obj.cells #[Value.int IntKind.i64 x3.k, Value.string x3.t, Value.int IntKind.i64 x3.n, Value.slice ad3 x3.ks.length c3, Value.int IntKind.i64 x6.k, Value.string x6.t, Value.int IntKind.i64 x6.n, Value.slice ad6 x6.ks.length c6] 27)) P L a6 (opE o) := (r6.other (by omega) (fun q => by have := h.x.lt q; omega) _ _).bel ((Below.refl _ _).alloc (Nat.le_refl _) (Obj.cells #[Value.int IntKind.i64 x3.k, Value.string x3.t, Value.int IntKind.i64 x3.n, Value.slice ad3 x3.ks.length c3, Value.int IntKind.i64 x6.k, Value.string x6.t, Value.int IntKind.i64 x6.n, Value.slice ad6 x6.ks.length c6] 27))
            have ly := (l3.keepR (((((KeptR.refl P.R W3).alloc (Obj.cells #[Value.int IntKind.i64 x3.k, Value.string x3.t, Value.int IntKind.i64 x3.n, Value.slice ad3 x3.ks.length c3] 27)).trans b5).trans (.of ((Below.refl _ _).drew))).trans b6) (by omega))
            have lx := (l6.keepR (KeptR.refl P.R W6) (by omega))
            have ly2 : LAt ((W6.setCell ⟨W1.heap.size, 3, none⟩ (.slice (some ⟨W6.heap.size, 0, none⟩) 2 2)).alloc (Obj.cells #[Value.int IntKind.i64 x3.k, Value.string x3.t, Value.int IntKind.i64 x3.n, Value.slice ad3 x3.ks.length c3, Value.int IntKind.i64 x6.k, Value.string x6.t, Value.int IntKind.i64 x6.n, Value.slice ad6 x6.ks.length c6] 27)) (fun b => w.heap.size + 1 ≤ b) (Value.slice ad3 x3.ks.length c3) x3.ks := (LY.out _ (((((KeptR.refl P.R W3).alloc (Obj.cells #[Value.int IntKind.i64 x3.k, Value.string x3.t, Value.int IntKind.i64 x3.n, Value.slice ad3 x3.ks.length c3] 27)).trans b5).trans (.of ((Below.refl _ _).drew))).trans b6)).keep (by simp [World.setCell]) (fun b hb hl => (Below.heap_alloc _ _ _ (by omega)).trans (Below.heap_setCell _ _ _ _ (by show b ≠ W1.heap.size; omega))) |>.mono (fun b hb => by omega)
            have lx2 : LAt ((W6.setCell ⟨W1.heap.size, 3, none⟩ (.slice (some ⟨W6.heap.size, 0, none⟩) 2 2)).alloc (Obj.cells #[Value.int IntKind.i64 x3.k, Value.string x3.t, Value.int IntKind.i64 x3.n, Value.slice ad3 x3.ks.length c3, Value.int IntKind.i64 x6.k, Value.string x6.t, Value.int IntKind.i64 x6.n, Value.slice ad6 x6.ks.length c6] 27)) (fun b => w.heap.size + 1 ≤ b) (Value.slice ad6 x6.ks.length c6) x6.ks := (l6'.mono (T := fun b => W1.heap.size < b) (fun b hb => by have := YB.out; omega)).keep (by simp [World.setCell]) (fun b hb hl => (Below.heap_alloc _ _ _ (by omega)).trans (Below.heap_setCell _ _ _ _ (by show b ≠ W1.heap.size; omega))) |>.mono (fun b hb => by omega)
            have lf : LAt ((W6.setCell ⟨W1.heap.size, 3, none⟩ (.slice (some ⟨W6.heap.size, 0, none⟩) 2 2)).alloc (Obj.cells #[Value.int IntKind.i64 x3.k, Value.string x3.t, Value.int IntKind.i64 x3.n, Value.slice ad3 x3.ks.length c3, Value.int IntKind.i64 x6.k, Value.string x6.t, Value.int IntKind.i64 x6.n, Value.slice ad6 x6.ks.length c6] 27)) (fun b => w.heap.size + 1 ≤ b) (.slice (some ⟨W6.heap.size, 0, none⟩) 2 2) [x3, x6] := LAt.n2 (x := x3) (y := x6) (t := 27) (fr := (0, 0)) j7 (by show _ ≤ _; omega) ly2 lx2
            go_wp2_with fail
            go_at_call 74
            refine (ended_any r7 _ _ _ _ _ _).mono ?_
            rintro e W8 A8
            cases h8 : wantR L sSe a6 with
            | bad p er =>
              rw [h8] at A8
              obtain ⟨rfl, b8⟩ := A8
              obtain rfl : Rs.bad p er = res := by rw [← HR.out, letF]; simp [Rs.bind, mtT, h1, h3, h5, h6, h8]
              exact ⟨rfl, rfl, a0.trans (k7.trans b8)⟩
            | ok x8 a8 =>
              rw [h8] at A8
              obtain ⟨rfl, r8, b8⟩ := A8
              have g8 := (want_ge L sSe a6) _ _ h8
              have y8 := r8.le
              have k8 := k7.trans b8
              have z8 := k8.size
              obtain rfl : Rs.ok (Nd.mk 40 x1 n [x3, x6]) a8 = res := by rw [← HR.out, letF]; simp [Rs.bind, mtT, h1, h3, h5, h6, h8]
              have m0 := M0.out _ k8
              obtain ⟨⟨_, _, _, _⟩, _, _, _, _⟩ := t4 m0
              go_wp2
              refine bodyPost_ret (res_n4 Tryz.results67 (t4_set _ _ _ _ m0) rfl) rfl ?_
              exact close_ok (x := (Nd.mk 40 x1 n [x3, x6])) h (a0.trans k8) (lf.keepR ((KeptR.refl P.R _).trans b8) (by omega)) (by omega) r8
        · go_wp2_with fail
          go_at_call 12
          refine (HE'.out _ _ _ _ (r5.bel ((Below.refl _ _).drew)) (by omega) (by unfold Ms at *; omega)).mono ?_
          rintro e W9 A9
          cases h9 : exprF L f a5 o with
          | bad p er =>
            rw [h9] at A9
            obtain ⟨rfl, b9⟩ := A9
            obtain rfl : Rs.bad p er = res := by rw [← HR.out, letF]; simp [Rs.bind, mtT, h1, h3, h5, h9]
            exact ⟨rfl, rfl, a0.trans ((k5.trans (.of ((Below.refl _ _).drew))).trans b9)⟩
          | ok x9 a9 =>
            rw [h9] at A9
            obtain ⟨ad9, c9, rfl, l9', r9, b9⟩ := A9
            have g9 := (MN.expr' a5 o) _ _ h9
            have y9 := r9.le
            have k9 := (k5.trans (.of ((Below.refl _ _).drew))).trans b9
            have z9 := k9.size
            have l9 := l9'.mono (T := fun b => w.heap.size + 1 ≤ b) (fun b hb => by have := (k5.trans (.of ((Below.refl _ _).drew))).size; omega)
            have v4 : W9.heap[W3.heap.size]? = some (.cells #[Value.int IntKind.i64 x3.k, Value.string x3.t, Value.int IntKind.i64 x3.n, Value.slice ad3 x3.ks.length c3] 27 (0, 0)) := (((((KeptR.refl P.R (W3.alloc (Obj.cells #[Value.int IntKind.i64 x3.k, Value.string x3.t, Value.int IntKind.i64 x3.n, Value.slice ad3 x3.ks.length c3] 27))).trans b5).trans (.of ((Below.refl _ _).drew))).trans b9).block (W3.heap.size) (by simp) (by have := k3.size; omega)).trans (heap_alloc_new W3 _)
            obtain ⟨⟨_, _, _, _⟩, _, _, _, _⟩ := t4 v4
            have v2 : W9.heap[W1.heap.size]? = some (.cells #[Value.int IntKind.i64 40, Value.string x1, Value.int IntKind.i64 n, Value.slice none 0 0] 27 (0, 0)) := (((((((KeptR.refl P.R (W1.alloc (Obj.cells #[Value.int IntKind.i64 40, Value.string x1, Value.int IntKind.i64 n, Value.slice none 0 0] 27))).trans b3).alloc (Obj.cells #[Value.int IntKind.i64 x3.k, Value.string x3.t, Value.int IntKind.i64 x3.n, Value.slice ad3 x3.ks.length c3] 27)).trans b5).trans (.of ((Below.refl _ _).drew))).trans b9).block (W1.heap.size) (by simp) (by have := k1.size; omega)).trans (heap_alloc_new W1 _)
            obtain ⟨⟨_, _, _, _⟩, _, _, _, _⟩ := t4 v2
            have sS : (W9.setCell ⟨W1.heap.size, 3, none⟩ (.slice (some ⟨W9.heap.size, 0, none⟩) 2 2)).heap.size = W9.heap.size := by simp [World.setCell]
            have j10 : ((W9.setCell ⟨W1.heap.size, 3, none⟩ (.slice (some ⟨W9.heap.size, 0, none⟩) 2 2)).alloc (Obj.cells #[Value.int IntKind.i64 x3.k, Value.string x3.t, Value.int IntKind.i64 x3.n, Value.slice ad3 x3.ks.length c3, Value.int IntKind.i64 x9.k, Value.string x9.t, Value.int IntKind.i64 x9.n, Value.slice ad9 x9.ks.length c9] 27)).heap[W9.heap.size]? = some (.cells #[Value.int IntKind.i64 x3.k, Value.string x3.t, Value.int IntKind.i64 x3.n, Value.slice ad3 x3.ks.length c3, Value.int IntKind.i64 x9.k, Value.string x9.t, Value.int IntKind.i64 x9.n, Value.slice ad9 x9.ks.length c9] 27 (0, 0)) := hnew _ sS.symm
            have gv : w.heap.size + 1 ≤ W1.heap.size := by have := k1.size; omega
            have gw : W1.heap.size < W9.heap.size := (Array.getElem?_eq_some_iff.1 v2).1
            have p10 := (Below.heap_alloc (W9.setCell ⟨W1.heap.size, 3, none⟩ (.slice (some ⟨W9.heap.size, 0, none⟩) 2 2)) (Obj.cells #[Value.int IntKind.i64 x3.k, Value.string x3.t, Value.int IntKind.i64 x3.n, Value.slice ad3 x3.ks.length c3, Value.int IntKind.i64 x9.k, Value.string x9.t, Value.int IntKind.i64 x9.n, Value.slice ad9 x9.ks.length c9] 27) _ (by omega)).trans (box4_set3 (.slice (some ⟨W9.heap.size, 0, none⟩) 2 2) v2)
            obtain ⟨⟨_, _, _, _⟩, _, _, _, _⟩ := t4 p10
            have k10 : KeptR P.R (w.alloc zN) ((W9.setCell ⟨W1.heap.size, 3, none⟩ (.slice (some ⟨W9.heap.size, 0, none⟩) 2 2)).alloc (Obj.cells #[Value.int IntKind.i64 x3.k, Value.string x3.t, Value.int IntKind.i64 x3.n, Value.slice ad3 x3.ks.length c3, Value.int IntKind.i64 x9.k, Value.string x9.t, Value.int IntKind.i64 x9.n, Value.slice ad9 x9.ks.length c9] 27)) := (k9.new (by omega) _ _).alloc (Obj.cells #[Value.int IntKind.i64 x3.k, Value.string x3.t, Value.int IntKind.i64 x3.n, Value.slice ad3 x3.ks.length c3, Value.int IntKind.i64 x9.k, Value.string x9.t, Value.int IntKind.i64 x9.n, Value.slice ad9 x9.ks.length c9] 27)
            have z10 := k10.size
            have r10 : Rd ((W9.setCell ⟨W1.heap.size, 3, none⟩ (.slice (some ⟨W9.heap.size, 0, none⟩) 2 2)).alloc (Obj.cells #[Value.int IntKind.i64 x3.k, Value.string x3.t, Value.int IntKind.i64 x3.n, Value.slice ad3 x3.ks.length c3, Value.int IntKind.i64 x9.k, Value.string x9.t, Value.int IntKind.i64 x9.n, Value.slice ad9 x9.ks.length c9] 27)) P L a9 (opE o) := (r9.other (by omega) (fun q => by have := h.x.lt q; omega) _ _).bel ((Below.refl _ _).alloc (Nat.le_refl _) (Obj.cells #[Value.int IntKind.i64 x3.k, Value.string x3.t, Value.int IntKind.i64 x3.n, Value.slice ad3 x3.ks.length c3, Value.int IntKind.i64 x9.k, Value.string x9.t, Value.int IntKind.i64 x9.n, Value.slice ad9 x9.ks.length c9] 27))
            have ly := (l3.keepR (((((KeptR.refl P.R W3).alloc (Obj.cells #[Value.int IntKind.i64 x3.k, Value.string x3.t, Value.int IntKind.i64 x3.n, Value.slice ad3 x3.ks.length c3] 27)).trans b5).trans (.of ((Below.refl _ _).drew))).trans b9) (by omega))
            have lx := (l9.keepR (KeptR.refl P.R W9) (by omega))
            have ly2 : LAt ((W9.setCell ⟨W1.heap.size, 3, none⟩ (.slice (some ⟨W9.heap.size, 0, none⟩) 2 2)).alloc (Obj.cells #[Value.int IntKind.i64 x3.k, Value.string x3.t, Value.int IntKind.i64 x3.n, Value.slice ad3 x3.ks.length c3, Value.int IntKind.i64 x9.k, Value.string x9.t, Value.int IntKind.i64 x9.n, Value.slice ad9 x9.ks.length c9] 27)) (fun b => w.heap.size + 1 ≤ b) (Value.slice ad3 x3.ks.length c3) x3.ks := (LY.out _ (((((KeptR.refl P.R W3).alloc (Obj.cells #[Value.int IntKind.i64 x3.k, Value.string x3.t, Value.int IntKind.i64 x3.n, Value.slice ad3 x3.ks.length c3] 27)).trans b5).trans (.of ((Below.refl _ _).drew))).trans b9)).keep (by simp [World.setCell]) (fun b hb hl => (Below.heap_alloc _ _ _ (by omega)).trans (Below.heap_setCell _ _ _ _ (by show b ≠ W1.heap.size; omega))) |>.mono (fun b hb => by omega)
            have lx2 : LAt ((W9.setCell ⟨W1.heap.size, 3, none⟩ (.slice (some ⟨W9.heap.size, 0, none⟩) 2 2)).alloc (Obj.cells #[Value.int IntKind.i64 x3.k, Value.string x3.t, Value.int IntKind.i64 x3.n, Value.slice ad3 x3.ks.length c3, Value.int IntKind.i64 x9.k, Value.string x9.t, Value.int IntKind.i64 x9.n, Value.slice ad9 x9.ks.length c9] 27)) (fun b => w.heap.size + 1 ≤ b) (Value.slice ad9 x9.ks.length c9) x9.ks := (l9'.mono (T := fun b => W1.heap.size < b) (fun b hb => by have := YB.out; omega)).keep (by simp [World.setCell]) (fun b hb hl => (Below.heap_alloc _ _ _ (by omega)).trans (Below.heap_setCell _ _ _ _ (by show b ≠ W1.heap.size; omega))) |>.mono (fun b hb => by omega)
            have lf : LAt ((W9.setCell ⟨W1.heap.size, 3, none⟩ (.slice (some ⟨W9.heap.size, 0, none⟩) 2 2)).alloc (Obj.cells #[Value.int IntKind.i64 x3.k, Value.string x3.t, Value.int IntKind.i64 x3.n, Value.slice ad3 x3.ks.length c3, Value.int IntKind.i64 x9.k, Value.string x9.t, Value.int IntKind.i64 x9.n, Value.slice ad9 x9.ks.length c9] 27)) (fun b => w.heap.size + 1 ≤ b) (.slice (some ⟨W9.heap.size, 0, none⟩) 2 2) [x3, x9] := LAt.n2 (x := x3) (y := x9) (t := 27) (fr := (0, 0)) j10 (by show _ ≤ _; omega) ly2 lx2
            go_wp2_with fail
            go_at_call 74
            refine (ended_any r10 _ _ _ _ _ _).mono ?_
            rintro e W11 A11
            cases h11 : wantR L sSe a9 with
            | bad p er =>
              rw [h11] at A11
              obtain ⟨rfl, b11⟩ := A11
              obtain rfl : Rs.bad p er = res := by rw [← HR.out, letF]; simp [Rs.bind, mtT, h1, h3, h5, h9, h11]
              exact ⟨rfl, rfl, a0.trans (k10.trans b11)⟩
            | ok x11 a11 =>
              rw [h11] at A11
              obtain ⟨rfl, r11, b11⟩ := A11
              have g11 := (want_ge L sSe a9) _ _ h11
              have y11 := r11.le
              have k11 := k10.trans b11
              have z11 := k11.size
              obtain rfl : Rs.ok (Nd.mk 40 x1 n [x3, x9]) a11 = res := by rw [← HR.out, letF]; simp [Rs.bind, mtT, h1, h3, h5, h9, h11]
              have m0 := M0.out _ k11
              obtain ⟨⟨_, _, _, _⟩, _, _, _, _⟩ := t4 m0
              go_wp2
              refine bodyPost_ret (res_n4 Tryz.results67 (t4_set _ _ _ _ m0) rfl) rfl ?_
              exact close_ok (x := (Nd.mk 40 x1 n [x3, x9])) h (a0.trans k11) (lf.keepR ((KeptR.refl P.R _).trans b11) (by omega)) (by omega) r11
end Go.Proofs.YtmfgcaffdkakhaaGreat
