/- Own text. Package parse: the rules, one by one: arrows and types of functions. -/
import Derived.Test.YtfehmdfamndcaaaGreatDoorGm36
namespace Go.Proofs.YtfehmdfamndcaaaGreatDoor
open Go.RowKit
set_option linter.unusedVariables false
set_option linter.unusedSimpArgs false

set_option maxRecDepth 100000 in
set_option maxHeartbeats 8000000 in
theorem arrow_step (L : List Tok) (hs : Small L) (f : Nat) (MN : Mono L f) (hTo : CN 141 L f 19 (typeOrF L f)) (hAb : CN 175 L f 21 (abodyF L f)) : CN 174 L (f + 1) 6 (arrowF L (f + 1)) := by
  intro w P a o h ho hM
  have hRw := h.lt
  have hle := h.le
  obtain ⟨h0, a0, z0, M0⟩ := begin_cell h
  obtain ⟨res, hres⟩ : ∃ r, arrowF L (f + 1) a o = r := ⟨_, rfl⟩
  have HR : Hid (arrowF L (f + 1) a o = res) := hres
  rw [hres]
  clear hres
  have HTO' : Hid (CN 141 L f 19 (typeOrF L f)) := hTo
  have HAB' : Hid (CN 175 L f 21 (abodyF L f)) := hAb
  clear hTo
  clear hAb
  go_enter Tryz.func174, Tryz.ntmps174
  go_wp2_with fail
  go_at_call 96
  refine (params_any (k := 141) (rs := #[.pointer (some ⟨P.R, 0, none⟩)]) (caps := #[]) eg_typeOrNone (fun b => typeOrF L f b o) _ _ h0 hs (fun b x c hx => (MN.typeOr' b o) _ _ hx) (fun W b hb r => HTO'.out _ _ _ _ r (by omega) (by have := r.le; unfold Ms at *; omega))).mono ?_
  rintro e W18 A18
  cases h18 : paramsG L (fun b => typeOrF L f b o) a with
  | bad p er =>
    rw [h18] at A18
    obtain ⟨rfl, b18⟩ := A18
    obtain rfl : Rs.bad p er = res := by rw [← HR.out, arrowF]; simp [Rs.bind, mtT, h18]
    exact ⟨rfl, rfl, a0.trans ((KeptR.refl P.R (w.alloc zN)).trans b18)⟩
  | ok x18 a18 =>
    rw [h18] at A18
    obtain ⟨ad18, c18, rfl, l18', r18, b18⟩ := A18
    have g18 := (paramsG_ge (fun b => MN.typeOr' b o) a) _ _ h18
    have y18 := r18.le
    have k18 := (KeptR.refl P.R (w.alloc zN)).trans b18
    have z18 := k18.size
    have l18 := l18'.mono (T := fun b => w.heap.size + 1 ≤ b) (fun b hb => by have := (KeptR.refl P.R (w.alloc zN)).size; omega)
    go_wp2_with fail
    go_at_call 61
    refine (want_any (r18.bel ((Below.refl _ _).alloc (Nat.le_refl _) (Obj.cells #[Value.int IntKind.i64 x18.k, Value.string x18.t, Value.int IntKind.i64 x18.n, Value.slice ad18 x18.ks.length c18] 62))) sAr).mono ?_
    rintro e W20 A20
    cases h20 : wantR L sAr a18 with
    | bad p er =>
      rw [h20] at A20
      obtain ⟨rfl, b20⟩ := A20
      obtain rfl : Rs.bad p er = res := by rw [← HR.out, arrowF]; simp [Rs.bind, mtT, h18, h20]
      exact ⟨rfl, rfl, a0.trans ((k18.alloc (Obj.cells #[Value.int IntKind.i64 x18.k, Value.string x18.t, Value.int IntKind.i64 x18.n, Value.slice ad18 x18.ks.length c18] 62)).trans b20)⟩
    | ok x20 a20 =>
      rw [h20] at A20
      obtain ⟨rfl, r20, b20⟩ := A20
      have g20 := (want_ge L sAr a18) _ _ h20
      have y20 := r20.le
      have k20 := (k18.alloc (Obj.cells #[Value.int IntKind.i64 x18.k, Value.string x18.t, Value.int IntKind.i64 x18.n, Value.slice ad18 x18.ks.length c18] 62)).trans b20
      have z20 := k20.size
      go_wp2_with fail
      refine wp_region_any (by kernel_rfl) ?_
      change wpAny _ _ _ _ _ _ _ (World.drew _)
      refine wpAny_take (i := 2) (v := (.pointer (some ⟨P.R, 0, none⟩))) rfl (by kernel_rfl) (by kernel_rfl) (by kernel_rfl) (fun _ _ _ h => h) (Or.inl ⟨by rfl, fun w => by go_simp⟩) ?_
      have v19 : W20.drew.heap[W18.heap.size]? = some (.cells #[Value.int IntKind.i64 x18.k, Value.string x18.t, Value.int IntKind.i64 x18.n, Value.slice ad18 x18.ks.length c18] 62 (0, 0)) := ((((KeptR.refl P.R (W18.alloc (Obj.cells #[Value.int IntKind.i64 x18.k, Value.string x18.t, Value.int IntKind.i64 x18.n, Value.slice ad18 x18.ks.length c18] 62))).trans b20).trans (.of ((Below.refl _ _).drew))).block (W18.heap.size) (by simp) (by have := k18.size; omega)).trans (heap_alloc_new W18 _)
      obtain ⟨⟨_, _, _, _⟩, _, _, _, _⟩ := t4 v19
      refine wpAny_ready (rs := [0, 1]) (by kernel_rfl) (by simp) ?_
      refine AllReady.cons rfl (fun K hK => ?_) (AllReady.cons rfl (fun K hK => ?_) AllReady.nil)
      · go_simp
        refine hK _ _ ?_
        clear hK K
        refine wpAny_chain [_, _, _, _, _] [1, 3, 4, 5, 6] _ _ _ _ (by kernel_rfl) rfl (by decide) ?_
        go_wp2_with fail
        go_at_call 64
        refine (node_any 14 ⟨#[]⟩ none 0 0 _).mono ?_
        rintro e W21 ⟨rfl, b21'⟩
        have r21 := (r20.bel ((Below.refl _ _).drew)).bel b21'
        have b21 := KeptR.of (b := P.R) b21'
        have k21 := (k20.trans (.of ((Below.refl _ _).drew))).trans b21
        have z21 := k21.size
        go_wp2_with fail
        go_at_call 175
        refine (HAB'.out _ _ _ _ r21 (by omega) (by unfold Ms at *; omega)).mono ?_
        rintro e W22 A22
        cases h22 : abodyF L f a20 o with
        | bad p er =>
          rw [h22] at A22
          obtain ⟨rfl, b22⟩ := A22
          obtain rfl : Rs.bad p er = res := by rw [← HR.out, arrowF]; simp [Rs.bind, mtT, h18, h20, h22]
          exact ⟨rfl, rfl, a0.trans (k21.trans b22)⟩
        | ok x22 a22 =>
          rw [h22] at A22
          obtain ⟨ad22, c22, rfl, l22', r22, b22⟩ := A22
          have g22 := (MN.abody' a20 o) _ _ h22
          have y22 := r22.le
          have k22 := k21.trans b22
          have z22 := k22.size
          have l22 := l22'.mono (T := fun b => w.heap.size + 1 ≤ b) (fun b hb => by have := k21.size; omega)
          have v19 : W22.heap[W18.heap.size]? = some (.cells #[Value.int IntKind.i64 x18.k, Value.string x18.t, Value.int IntKind.i64 x18.n, Value.slice ad18 x18.ks.length c18] 62 (0, 0)) := ((((((KeptR.refl P.R (W18.alloc (Obj.cells #[Value.int IntKind.i64 x18.k, Value.string x18.t, Value.int IntKind.i64 x18.n, Value.slice ad18 x18.ks.length c18] 62))).trans b20).trans (.of ((Below.refl _ _).drew))).trans b21).trans b22).block (W18.heap.size) (by simp) (by have := k18.size; omega)).trans (heap_alloc_new W18 _)
          obtain ⟨⟨_, _, _, _⟩, _, _, _, _⟩ := t4 v19
          go_wp2_with fail
          go_at_call 64
          refine (node_any 11 ⟨#[]⟩ (some ⟨W22.heap.size, 0, none⟩) 3 3 _).mono ?_
          rintro e W23 ⟨rfl, b23'⟩
          have j23 : W23.heap[W22.heap.size]? = some (.cells #[Value.int IntKind.i64 x18.k, Value.string x18.t, Value.int IntKind.i64 x18.n, Value.slice ad18 x18.ks.length c18, Value.int IntKind.i64 14, Value.string ⟨#[]⟩, Value.int IntKind.i64 0, Value.slice none 0 0, Value.int IntKind.i64 x22.k, Value.string x22.t, Value.int IntKind.i64 x22.n, Value.slice ad22 x22.ks.length c22] 62 (0, 0)) := (b23'.block _ (by simp)).trans (heap_alloc_new W22 _)
          have r23 := (r22.bel ((Below.refl _ _).alloc (Nat.le_refl _) (Obj.cells #[Value.int IntKind.i64 x18.k, Value.string x18.t, Value.int IntKind.i64 x18.n, Value.slice ad18 x18.ks.length c18, Value.int IntKind.i64 14, Value.string ⟨#[]⟩, Value.int IntKind.i64 0, Value.slice none 0 0, Value.int IntKind.i64 x22.k, Value.string x22.t, Value.int IntKind.i64 x22.n, Value.slice ad22 x22.ks.length c22] 62))).bel b23'
          have b23 : KeptR P.R W22 W23 := (KeptR.of ((Below.refl _ _).alloc (Nat.le_refl _) _)).trans (.of b23')
          have k23 := k22.trans b23
          have z23 := k23.size
          have l23 : LAt W23 (fun b => w.heap.size + 1 ≤ b) (.slice (some ⟨W22.heap.size, 0, none⟩) 3 3) [x18, noneN, x22] := LAt.n3 j23 (by have := k22.size; show _ ≤ _; omega) (l18.keepR (((((((KeptR.refl P.R W18).alloc (Obj.cells #[Value.int IntKind.i64 x18.k, Value.string x18.t, Value.int IntKind.i64 x18.n, Value.slice ad18 x18.ks.length c18] 62)).trans b20).trans (.of ((Below.refl _ _).drew))).trans b21).trans b22).trans b23) (by omega)) (LAt.nil (S := fun b => w.heap.size + 1 ≤ b) none 0) (l22.keepR ((KeptR.refl P.R W22).trans b23) (by omega))
          obtain rfl : Rs.ok (mk0 11 ⟨#[]⟩ [x18, noneN, x22]) a22 = res := by rw [← HR.out, arrowF]; simp [Rs.bind, mtT, h18, h20, h22]
          have m0 := M0.out _ k23
          obtain ⟨⟨_, _, _, _⟩, _, _, _, _⟩ := t4 m0
          go_wp2
          refine bodyPost_ret (res_n4 Tryz.results174 (t4_set _ _ _ _ m0) rfl) rfl ?_
          exact close_ok (x := (mk0 11 ⟨#[]⟩ [x18, noneN, x22])) h (a0.trans k23) (l23.keepR (KeptR.refl P.R W23) (by omega)) (by omega) r23
      · go_simp
        go_at_call 64
        refine (node_any 14 ⟨#[]⟩ none 0 0 _).mono ?_
        rintro e W24 ⟨rfl, b24'⟩
        have r24 := (r20.bel ((Below.refl _ _).drew)).bel b24'
        have b24 := KeptR.of (b := P.R) b24'
        have k24 := (k20.trans (.of ((Below.refl _ _).drew))).trans b24
        have z24 := k24.size
        refine hK _ _ ?_
        clear hK K
        have v19 : W24.heap[W18.heap.size]? = some (.cells #[Value.int IntKind.i64 x18.k, Value.string x18.t, Value.int IntKind.i64 x18.n, Value.slice ad18 x18.ks.length c18] 62 (0, 0)) := (((((KeptR.refl P.R (W18.alloc (Obj.cells #[Value.int IntKind.i64 x18.k, Value.string x18.t, Value.int IntKind.i64 x18.n, Value.slice ad18 x18.ks.length c18] 62))).trans b20).trans (.of ((Below.refl _ _).drew))).trans b24).block (W18.heap.size) (by simp) (by have := k18.size; omega)).trans (heap_alloc_new W18 _)
        obtain ⟨⟨_, _, _, _⟩, _, _, _, _⟩ := t4 v19
        refine wpAny_two (i := 0) (j := 3) (is := [3, 4, 5, 6]) (js := [0, 4, 5, 6]) (os := [_, _, _, _]) (us := [_, _, _, _]) (by kernel_rfl) rfl rfl (by kernel_rfl) (by kernel_rfl) rfl rfl (by decide) (by decide) ?_ ?_
        · go_wp2_with fail
          go_at_call 175
          refine (HAB'.out _ _ _ _ r24 (by omega) (by unfold Ms at *; omega)).mono ?_
          rintro e W25 A25
          cases h25 : abodyF L f a20 o with
          | bad p er =>
            rw [h25] at A25
            obtain ⟨rfl, b25⟩ := A25
            obtain rfl : Rs.bad p er = res := by rw [← HR.out, arrowF]; simp [Rs.bind, mtT, h18, h20, h25]
            exact ⟨rfl, rfl, a0.trans (k24.trans b25)⟩
          | ok x25 a25 =>
            rw [h25] at A25
            obtain ⟨ad25, c25, rfl, l25', r25, b25⟩ := A25
            have g25 := (MN.abody' a20 o) _ _ h25
            have y25 := r25.le
            have k25 := k24.trans b25
            have z25 := k25.size
            have l25 := l25'.mono (T := fun b => w.heap.size + 1 ≤ b) (fun b hb => by have := k24.size; omega)
            have v19 : W25.heap[W18.heap.size]? = some (.cells #[Value.int IntKind.i64 x18.k, Value.string x18.t, Value.int IntKind.i64 x18.n, Value.slice ad18 x18.ks.length c18] 62 (0, 0)) := ((((((KeptR.refl P.R (W18.alloc (Obj.cells #[Value.int IntKind.i64 x18.k, Value.string x18.t, Value.int IntKind.i64 x18.n, Value.slice ad18 x18.ks.length c18] 62))).trans b20).trans (.of ((Below.refl _ _).drew))).trans b24).trans b25).block (W18.heap.size) (by simp) (by have := k18.size; omega)).trans (heap_alloc_new W18 _)
            obtain ⟨⟨_, _, _, _⟩, _, _, _, _⟩ := t4 v19
            go_wp2_with fail
            go_at_call 64
            refine (node_any 11 ⟨#[]⟩ (some ⟨W25.heap.size, 0, none⟩) 3 3 _).mono ?_
            rintro e W26 ⟨rfl, b26'⟩
            have j26 : W26.heap[W25.heap.size]? = some (.cells #[Value.int IntKind.i64 x18.k, Value.string x18.t, Value.int IntKind.i64 x18.n, Value.slice ad18 x18.ks.length c18, Value.int IntKind.i64 14, Value.string ⟨#[]⟩, Value.int IntKind.i64 0, Value.slice none 0 0, Value.int IntKind.i64 x25.k, Value.string x25.t, Value.int IntKind.i64 x25.n, Value.slice ad25 x25.ks.length c25] 62 (0, 0)) := (b26'.block _ (by simp)).trans (heap_alloc_new W25 _)
            have r26 := (r25.bel ((Below.refl _ _).alloc (Nat.le_refl _) (Obj.cells #[Value.int IntKind.i64 x18.k, Value.string x18.t, Value.int IntKind.i64 x18.n, Value.slice ad18 x18.ks.length c18, Value.int IntKind.i64 14, Value.string ⟨#[]⟩, Value.int IntKind.i64 0, Value.slice none 0 0, Value.int IntKind.i64 x25.k, Value.string x25.t, Value.int IntKind.i64 x25.n, Value.slice ad25 x25.ks.length c25] 62))).bel b26'
            have b26 : KeptR P.R W25 W26 := (KeptR.of ((Below.refl _ _).alloc (Nat.le_refl _) _)).trans (.of b26')
            have k26 := k25.trans b26
            have z26 := k26.size
            have l26 : LAt W26 (fun b => w.heap.size + 1 ≤ b) (.slice (some ⟨W25.heap.size, 0, none⟩) 3 3) [x18, noneN, x25] := LAt.n3 j26 (by have := k25.size; show _ ≤ _; omega) (l18.keepR (((((((KeptR.refl P.R W18).alloc (Obj.cells #[Value.int IntKind.i64 x18.k, Value.string x18.t, Value.int IntKind.i64 x18.n, Value.slice ad18 x18.ks.length c18] 62)).trans b20).trans (.of ((Below.refl _ _).drew))).trans b24).trans b25).trans b26) (by omega)) (LAt.nil (S := fun b => w.heap.size + 1 ≤ b) none 0) (l25.keepR ((KeptR.refl P.R W25).trans b26) (by omega))
            obtain rfl : Rs.ok (mk0 11 ⟨#[]⟩ [x18, noneN, x25]) a25 = res := by rw [← HR.out, arrowF]; simp [Rs.bind, mtT, h18, h20, h25]
            have m0 := M0.out _ k26
            obtain ⟨⟨_, _, _, _⟩, _, _, _, _⟩ := t4 m0
            go_wp2
            refine bodyPost_ret (res_n4 Tryz.results174 (t4_set _ _ _ _ m0) rfl) rfl ?_
            exact close_ok (x := (mk0 11 ⟨#[]⟩ [x18, noneN, x25])) h (a0.trans k26) (l26.keepR (KeptR.refl P.R W26) (by omega)) (by omega) r26
        · go_wp2_with fail
          go_at_call 175
          refine (HAB'.out _ _ _ _ r24 (by omega) (by unfold Ms at *; omega)).mono ?_
          rintro e W27 A27
          cases h27 : abodyF L f a20 o with
          | bad p er =>
            rw [h27] at A27
            obtain ⟨rfl, b27⟩ := A27
            obtain rfl : Rs.bad p er = res := by rw [← HR.out, arrowF]; simp [Rs.bind, mtT, h18, h20, h27]
            exact ⟨rfl, rfl, a0.trans (k24.trans b27)⟩
          | ok x27 a27 =>
            rw [h27] at A27
            obtain ⟨ad27, c27, rfl, l27', r27, b27⟩ := A27
            have g27 := (MN.abody' a20 o) _ _ h27
            have y27 := r27.le
            have k27 := k24.trans b27
            have z27 := k27.size
            have l27 := l27'.mono (T := fun b => w.heap.size + 1 ≤ b) (fun b hb => by have := k24.size; omega)
            have v19 : W27.heap[W18.heap.size]? = some (.cells #[Value.int IntKind.i64 x18.k, Value.string x18.t, Value.int IntKind.i64 x18.n, Value.slice ad18 x18.ks.length c18] 62 (0, 0)) := ((((((KeptR.refl P.R (W18.alloc (Obj.cells #[Value.int IntKind.i64 x18.k, Value.string x18.t, Value.int IntKind.i64 x18.n, Value.slice ad18 x18.ks.length c18] 62))).trans b20).trans (.of ((Below.refl _ _).drew))).trans b24).trans b27).block (W18.heap.size) (by simp) (by have := k18.size; omega)).trans (heap_alloc_new W18 _)
            obtain ⟨⟨_, _, _, _⟩, _, _, _, _⟩ := t4 v19
            go_wp2_with fail
            go_at_call 64
            refine (node_any 11 ⟨#[]⟩ (some ⟨W27.heap.size, 0, none⟩) 3 3 _).mono ?_
            rintro e W28 ⟨rfl, b28'⟩
            have j28 : W28.heap[W27.heap.size]? = some (.cells #[Value.int IntKind.i64 x18.k, Value.string x18.t, Value.int IntKind.i64 x18.n, Value.slice ad18 x18.ks.length c18, Value.int IntKind.i64 14, Value.string ⟨#[]⟩, Value.int IntKind.i64 0, Value.slice none 0 0, Value.int IntKind.i64 x27.k, Value.string x27.t, Value.int IntKind.i64 x27.n, Value.slice ad27 x27.ks.length c27] 62 (0, 0)) := (b28'.block _ (by simp)).trans (heap_alloc_new W27 _)
            have r28 := (r27.bel ((Below.refl _ _).alloc (Nat.le_refl _) (Obj.cells #[Value.int IntKind.i64 x18.k, Value.string x18.t, Value.int IntKind.i64 x18.n, Value.slice ad18 x18.ks.length c18, Value.int IntKind.i64 14, Value.string ⟨#[]⟩, Value.int IntKind.i64 0, Value.slice none 0 0, Value.int IntKind.i64 x27.k, Value.string x27.t, Value.int IntKind.i64 x27.n, Value.slice ad27 x27.ks.length c27] 62))).bel b28'
            have b28 : KeptR P.R W27 W28 := (KeptR.of ((Below.refl _ _).alloc (Nat.le_refl _) _)).trans (.of b28')
            have k28 := k27.trans b28
            have z28 := k28.size
            have l28 : LAt W28 (fun b => w.heap.size + 1 ≤ b) (.slice (some ⟨W27.heap.size, 0, none⟩) 3 3) [x18, noneN, x27] := LAt.n3 j28 (by have := k27.size; show _ ≤ _; omega) (l18.keepR (((((((KeptR.refl P.R W18).alloc (Obj.cells #[Value.int IntKind.i64 x18.k, Value.string x18.t, Value.int IntKind.i64 x18.n, Value.slice ad18 x18.ks.length c18] 62)).trans b20).trans (.of ((Below.refl _ _).drew))).trans b24).trans b27).trans b28) (by omega)) (LAt.nil (S := fun b => w.heap.size + 1 ≤ b) none 0) (l27.keepR ((KeptR.refl P.R W27).trans b28) (by omega))
            obtain rfl : Rs.ok (mk0 11 ⟨#[]⟩ [x18, noneN, x27]) a27 = res := by rw [← HR.out, arrowF]; simp [Rs.bind, mtT, h18, h20, h27]
            have m0 := M0.out _ k28
            obtain ⟨⟨_, _, _, _⟩, _, _, _, _⟩ := t4 m0
            go_wp2
            refine bodyPost_ret (res_n4 Tryz.results174 (t4_set _ _ _ _ m0) rfl) rfl ?_
            exact close_ok (x := (mk0 11 ⟨#[]⟩ [x18, noneN, x27])) h (a0.trans k28) (l28.keepR (KeptR.refl P.R W28) (by omega)) (by omega) r28
set_option maxRecDepth 100000 in
set_option maxHeartbeats 8000000 in
theorem ftype_step (L : List Tok) (hs : Small L) (f : Nat) (MN : Mono L f) (hTy : CN 155 L f 18 (typingF L f)) (hT : CN 113 L f 20 (typeF L f)) : CN 154 L (f + 1) 10 (ftypeF L (f + 1)) := by
  intro w P a o h ho hM
  have hRw := h.lt
  have hle := h.le
  obtain ⟨h0, a0, z0, M0⟩ := begin_cell h
  obtain ⟨res, hres⟩ : ∃ r, ftypeF L (f + 1) a o = r := ⟨_, rfl⟩
  have HR : Hid (ftypeF L (f + 1) a o = res) := hres
  rw [hres]
  clear hres
  have HTY' : Hid (CN 155 L f 18 (typingF L f)) := hTy
  have HT' : Hid (CN 113 L f 20 (typeF L f)) := hT
  clear hTy
  clear hT
  go_enter Tryz.func154, Tryz.ntmps154
  go_wp2_with fail
  go_at_call 96
  refine (params_any (k := 155) (rs := #[.pointer (some ⟨P.R, 0, none⟩)]) (caps := #[]) eg_typing (fun b => typingF L f b o) _ _ h0 hs (fun b x c hx => ((MN.typing' b o).mono (by omega)) _ _ hx) (fun W b hb r => HTY'.out _ _ _ _ r (by omega) (by have := r.le; unfold Ms at *; omega))).mono ?_
  rintro e W29 A29
  cases h29 : paramsG L (fun b => typingF L f b o) a with
  | bad p er =>
    rw [h29] at A29
    obtain ⟨rfl, b29⟩ := A29
    obtain rfl : Rs.bad p er = res := by rw [← HR.out, ftypeF]; simp [Rs.bind, mtT, h29]
    exact ⟨rfl, rfl, a0.trans ((KeptR.refl P.R (w.alloc zN)).trans b29)⟩
  | ok x29 a29 =>
    rw [h29] at A29
    obtain ⟨ad29, c29, rfl, l29', r29, b29⟩ := A29
    have g29 := (paramsG_ge (fun b => (MN.typing' b o).mono (by omega)) a) _ _ h29
    have y29 := r29.le
    have k29 := (KeptR.refl P.R (w.alloc zN)).trans b29
    have z29 := k29.size
    have l29 := l29'.mono (T := fun b => w.heap.size + 1 ≤ b) (fun b hb => by have := (KeptR.refl P.R (w.alloc zN)).size; omega)
    go_wp2_with fail
    go_at_call 61
    refine (want_any (r29.bel ((Below.refl _ _).alloc (Nat.le_refl _) (Obj.cells #[Value.int IntKind.i64 x29.k, Value.string x29.t, Value.int IntKind.i64 x29.n, Value.slice ad29 x29.ks.length c29] 62))) sAr).mono ?_
    rintro e W31 A31
    cases h31 : wantR L sAr a29 with
    | bad p er =>
      rw [h31] at A31
      obtain ⟨rfl, b31⟩ := A31
      obtain rfl : Rs.bad p er = res := by rw [← HR.out, ftypeF]; simp [Rs.bind, mtT, h29, h31]
      exact ⟨rfl, rfl, a0.trans ((k29.alloc (Obj.cells #[Value.int IntKind.i64 x29.k, Value.string x29.t, Value.int IntKind.i64 x29.n, Value.slice ad29 x29.ks.length c29] 62)).trans b31)⟩
    | ok x31 a31 =>
      rw [h31] at A31
      obtain ⟨rfl, r31, b31⟩ := A31
      have g31 := (want_ge L sAr a29) _ _ h31
      have y31 := r31.le
      have k31 := (k29.alloc (Obj.cells #[Value.int IntKind.i64 x29.k, Value.string x29.t, Value.int IntKind.i64 x29.n, Value.slice ad29 x29.ks.length c29] 62)).trans b31
      have z31 := k31.size
      go_wp2_with fail
      refine wp_region_any (by kernel_rfl) ?_
      change wpAny _ _ _ _ _ _ _ (World.drew _)
      refine wpAny_take (i := 1) (v := (.pointer (some ⟨P.R, 0, none⟩))) rfl (by kernel_rfl) (by kernel_rfl) (by kernel_rfl) (fun _ _ _ h => h) (Or.inl ⟨by rfl, fun w => by go_simp⟩) ?_
      have v30 : W31.drew.heap[W29.heap.size]? = some (.cells #[Value.int IntKind.i64 x29.k, Value.string x29.t, Value.int IntKind.i64 x29.n, Value.slice ad29 x29.ks.length c29] 62 (0, 0)) := ((((KeptR.refl P.R (W29.alloc (Obj.cells #[Value.int IntKind.i64 x29.k, Value.string x29.t, Value.int IntKind.i64 x29.n, Value.slice ad29 x29.ks.length c29] 62))).trans b31).trans (.of ((Below.refl _ _).drew))).block (W29.heap.size) (by simp) (by have := k29.size; omega)).trans (heap_alloc_new W29 _)
      obtain ⟨⟨_, _, _, _⟩, _, _, _, _⟩ := t4 v30
      refine wpAny_two (i := 0) (j := 2) (is := [2, 3, 4, 5]) (js := [0, 3, 4, 5]) (os := [_, _, _, _]) (us := [_, _, _, _]) (by kernel_rfl) rfl rfl (by kernel_rfl) (by kernel_rfl) rfl rfl (by decide) (by decide) ?_ ?_
      · go_wp2_with fail
        go_at_call 113
        refine (HT'.out _ _ _ _ (r31.bel ((Below.refl _ _).drew)) (by omega) (by unfold Ms at *; omega)).mono ?_
        rintro e W32 A32
        cases h32 : typeF L f a31 o with
        | bad p er =>
          rw [h32] at A32
          obtain ⟨rfl, b32⟩ := A32
          obtain rfl : Rs.bad p er = res := by rw [← HR.out, ftypeF]; simp [Rs.bind, mtT, h29, h31, h32]
          exact ⟨rfl, rfl, a0.trans ((k31.trans (.of ((Below.refl _ _).drew))).trans b32)⟩
        | ok x32 a32 =>
          rw [h32] at A32
          obtain ⟨ad32, c32, rfl, l32', r32, b32⟩ := A32
          have g32 := (MN.type' a31 o) _ _ h32
          have y32 := r32.le
          have k32 := (k31.trans (.of ((Below.refl _ _).drew))).trans b32
          have z32 := k32.size
          have l32 := l32'.mono (T := fun b => w.heap.size + 1 ≤ b) (fun b hb => by have := (k31.trans (.of ((Below.refl _ _).drew))).size; omega)
          have v30 : W32.heap[W29.heap.size]? = some (.cells #[Value.int IntKind.i64 x29.k, Value.string x29.t, Value.int IntKind.i64 x29.n, Value.slice ad29 x29.ks.length c29] 62 (0, 0)) := (((((KeptR.refl P.R (W29.alloc (Obj.cells #[Value.int IntKind.i64 x29.k, Value.string x29.t, Value.int IntKind.i64 x29.n, Value.slice ad29 x29.ks.length c29] 62))).trans b31).trans (.of ((Below.refl _ _).drew))).trans b32).block (W29.heap.size) (by simp) (by have := k29.size; omega)).trans (heap_alloc_new W29 _)
          obtain ⟨⟨_, _, _, _⟩, _, _, _, _⟩ := t4 v30
          go_wp2_with fail
          go_at_call 64
          refine (node_any 35 ⟨#[]⟩ (some ⟨W32.heap.size, 0, none⟩) 2 2 _).mono ?_
          rintro e W33 ⟨rfl, b33'⟩
          have j33 : W33.heap[W32.heap.size]? = some (.cells #[Value.int IntKind.i64 x29.k, Value.string x29.t, Value.int IntKind.i64 x29.n, Value.slice ad29 x29.ks.length c29, Value.int IntKind.i64 x32.k, Value.string x32.t, Value.int IntKind.i64 x32.n, Value.slice ad32 x32.ks.length c32] 62 (0, 0)) := (b33'.block _ (by simp)).trans (heap_alloc_new W32 _)
          have r33 := (r32.bel ((Below.refl _ _).alloc (Nat.le_refl _) (Obj.cells #[Value.int IntKind.i64 x29.k, Value.string x29.t, Value.int IntKind.i64 x29.n, Value.slice ad29 x29.ks.length c29, Value.int IntKind.i64 x32.k, Value.string x32.t, Value.int IntKind.i64 x32.n, Value.slice ad32 x32.ks.length c32] 62))).bel b33'
          have b33 : KeptR P.R W32 W33 := (KeptR.of ((Below.refl _ _).alloc (Nat.le_refl _) _)).trans (.of b33')
          have k33 := k32.trans b33
          have z33 := k33.size
          have l33 : LAt W33 (fun b => w.heap.size + 1 ≤ b) (.slice (some ⟨W32.heap.size, 0, none⟩) 2 2) [x29, x32] := LAt.n2 j33 (by have := k32.size; show _ ≤ _; omega) (l29.keepR ((((((KeptR.refl P.R W29).alloc (Obj.cells #[Value.int IntKind.i64 x29.k, Value.string x29.t, Value.int IntKind.i64 x29.n, Value.slice ad29 x29.ks.length c29] 62)).trans b31).trans (.of ((Below.refl _ _).drew))).trans b32).trans b33) (by omega)) (l32.keepR ((KeptR.refl P.R W32).trans b33) (by omega))
          obtain rfl : Rs.ok (mk0 35 ⟨#[]⟩ [x29, x32]) a32 = res := by rw [← HR.out, ftypeF]; simp [Rs.bind, mtT, h29, h31, h32]
          have m0 := M0.out _ k33
          obtain ⟨⟨_, _, _, _⟩, _, _, _, _⟩ := t4 m0
          go_wp2
          refine bodyPost_ret (res_n4 Tryz.results154 (t4_set _ _ _ _ m0) rfl) rfl ?_
          exact close_ok (x := (mk0 35 ⟨#[]⟩ [x29, x32])) h (a0.trans k33) (l33.keepR (KeptR.refl P.R W33) (by omega)) (by omega) r33
      · go_wp2_with fail
        go_at_call 113
        refine (HT'.out _ _ _ _ (r31.bel ((Below.refl _ _).drew)) (by omega) (by unfold Ms at *; omega)).mono ?_
        rintro e W34 A34
        cases h34 : typeF L f a31 o with
        | bad p er =>
          rw [h34] at A34
          obtain ⟨rfl, b34⟩ := A34
          obtain rfl : Rs.bad p er = res := by rw [← HR.out, ftypeF]; simp [Rs.bind, mtT, h29, h31, h34]
          exact ⟨rfl, rfl, a0.trans ((k31.trans (.of ((Below.refl _ _).drew))).trans b34)⟩
        | ok x34 a34 =>
          rw [h34] at A34
          obtain ⟨ad34, c34, rfl, l34', r34, b34⟩ := A34
          have g34 := (MN.type' a31 o) _ _ h34
          have y34 := r34.le
          have k34 := (k31.trans (.of ((Below.refl _ _).drew))).trans b34
          have z34 := k34.size
          have l34 := l34'.mono (T := fun b => w.heap.size + 1 ≤ b) (fun b hb => by have := (k31.trans (.of ((Below.refl _ _).drew))).size; omega)
          have v30 : W34.heap[W29.heap.size]? = some (.cells #[Value.int IntKind.i64 x29.k, Value.string x29.t, Value.int IntKind.i64 x29.n, Value.slice ad29 x29.ks.length c29] 62 (0, 0)) := (((((KeptR.refl P.R (W29.alloc (Obj.cells #[Value.int IntKind.i64 x29.k, Value.string x29.t, Value.int IntKind.i64 x29.n, Value.slice ad29 x29.ks.length c29] 62))).trans b31).trans (.of ((Below.refl _ _).drew))).trans b34).block (W29.heap.size) (by simp) (by have := k29.size; omega)).trans (heap_alloc_new W29 _)
          obtain ⟨⟨_, _, _, _⟩, _, _, _, _⟩ := t4 v30
          go_wp2_with fail
          go_at_call 64
          refine (node_any 35 ⟨#[]⟩ (some ⟨W34.heap.size, 0, none⟩) 2 2 _).mono ?_
          rintro e W35 ⟨rfl, b35'⟩
          have j35 : W35.heap[W34.heap.size]? = some (.cells #[Value.int IntKind.i64 x29.k, Value.string x29.t, Value.int IntKind.i64 x29.n, Value.slice ad29 x29.ks.length c29, Value.int IntKind.i64 x34.k, Value.string x34.t, Value.int IntKind.i64 x34.n, Value.slice ad34 x34.ks.length c34] 62 (0, 0)) := (b35'.block _ (by simp)).trans (heap_alloc_new W34 _)
          have r35 := (r34.bel ((Below.refl _ _).alloc (Nat.le_refl _) (Obj.cells #[Value.int IntKind.i64 x29.k, Value.string x29.t, Value.int IntKind.i64 x29.n, Value.slice ad29 x29.ks.length c29, Value.int IntKind.i64 x34.k, Value.string x34.t, Value.int IntKind.i64 x34.n, Value.slice ad34 x34.ks.length c34] 62))).bel b35'
          have b35 : KeptR P.R W34 W35 := (KeptR.of ((Below.refl _ _).alloc (Nat.le_refl _) _)).trans (.of b35')
          have k35 := k34.trans b35
          have z35 := k35.size
          have l35 : LAt W35 (fun b => w.heap.size + 1 ≤ b) (.slice (some ⟨W34.heap.size, 0, none⟩) 2 2) [x29, x34] := LAt.n2 j35 (by have := k34.size; show _ ≤ _; omega) (l29.keepR ((((((KeptR.refl P.R W29).alloc (Obj.cells #[Value.int IntKind.i64 x29.k, Value.string x29.t, Value.int IntKind.i64 x29.n, Value.slice ad29 x29.ks.length c29] 62)).trans b31).trans (.of ((Below.refl _ _).drew))).trans b34).trans b35) (by omega)) (l34.keepR ((KeptR.refl P.R W34).trans b35) (by omega))
          obtain rfl : Rs.ok (mk0 35 ⟨#[]⟩ [x29, x34]) a34 = res := by rw [← HR.out, ftypeF]; simp [Rs.bind, mtT, h29, h31, h34]
          have m0 := M0.out _ k35
          obtain ⟨⟨_, _, _, _⟩, _, _, _, _⟩ := t4 m0
          go_wp2
          refine bodyPost_ret (res_n4 Tryz.results154 (t4_set _ _ _ _ m0) rfl) rfl ?_
          exact close_ok (x := (mk0 35 ⟨#[]⟩ [x29, x34])) h (a0.trans k35) (l35.keepR (KeptR.refl P.R W35) (by omega)) (by omega) r35
end Go.Proofs.YtfehmdfamndcaaaGreatDoor
