/- Own text. Package module: the rules, one by one: an import. Package module: Module at the sources of the statements of stage 10. Package module: Module at the three sources that every statement of stage 10 begins with. -/
import Derived.Test.YtfehmdfamndcaaaGreatDoorGm42
import Derived.Test.YtfehmdfamndcaaaGreatDoorGm33
import Derived.Test.YtfehmdfamndcaaaGreatDoorGm35
import Derived.Test.YtfehmdfamndcaaaGreatDoorGm40
namespace Go.Proofs.YtfehmdfamndcaaaGreatDoor
open Go.RowKit
set_option linter.unusedVariables false
set_option linter.unusedSimpArgs false

set_option maxRecDepth 100000 in
set_option maxHeartbeats 8000000 in
theorem imports_m {L : List Tok} (hs : Small L) {w : World} {P : Pl} {a : Nat} (h : Rd w P L a mE) (hlt : a < L.length) : Calls Tryz.prog 43 #[.pointer (some ⟨P.R, 0, none⟩)] w (AnsN P L mE w (importM L a)) := by
  have hRw := h.lt
  have hle := h.le
  obtain ⟨h0, a0, z0, M0⟩ := begin_cell h
  obtain ⟨res, hres⟩ : ∃ r, importM L a = r := ⟨_, rfl⟩
  have HR : Hid (importM L a = res) := hres
  rw [hres]
  clear hres
  go_enter Tryz.func43, Tryz.ntmps43
  go_wp2_with fail
  go_at_call 59
  refine (pass_any h0 hlt (hs.at _)).mono ?_
  rintro e W1 ⟨rfl, r1, b1⟩
  have k1 := (KeptR.refl P.R (w.alloc zN)).trans b1
  have z1 := k1.size
  have y1 := r1.le
  have gV : w.heap.size + 1 ≤ W1.heap.size := by have := k1.size; omega
  have v2 : (W1.alloc (Obj.cells #[Value.int IntKind.i64 60, Value.string ⟨#[]⟩, Value.int IntKind.i64 0, Value.slice none 0 0] 62)).heap[W1.heap.size]? = some (.cells #[Value.int IntKind.i64 60, Value.string ⟨#[]⟩, Value.int IntKind.i64 0, Value.slice none 0 0] 62 (0, 0)) := heap_alloc_new W1 _
  obtain ⟨⟨_, _, _, _⟩, _, _, _, _⟩ := t4 v2
  have TK := token_any (r1.bel ((Below.refl _ _).alloc (Nat.le_refl _) (Obj.cells #[Value.int IntKind.i64 60, Value.string ⟨#[]⟩, Value.int IntKind.i64 0, Value.slice none 0 0] 62)))
  unfold Tok.v at TK
  have hf := fld0 (.int .i64 (tokA L (a + 1)).k) (.string (tokA L (a + 1)).t) (.int .i64 (tokA L (a + 1)).n) (.int .i64 (tokA L (a + 1)).p)
  by_cases e3 : (tokA L (a + 1)).k = 4
  · have f3 : ((tokA L (a + 1)).k == 4) = true := by simp [e3]
    have E3 : Hid ((tokA L (a + 1)).k = 4) := e3
    clear e3
    go_wp2_with fail
    go_at_call 58
    refine TK.mono ?_
    rintro e W4 ⟨rfl, b4'⟩
    have r4 := (r1.bel ((Below.refl _ _).alloc (Nat.le_refl _) (Obj.cells #[Value.int IntKind.i64 60, Value.string ⟨#[]⟩, Value.int IntKind.i64 0, Value.slice none 0 0] 62))).bel b4'
    have b4 := KeptR.of (b := P.R) b4'
    have k4 := (k1.alloc (Obj.cells #[Value.int IntKind.i64 60, Value.string ⟨#[]⟩, Value.int IntKind.i64 0, Value.slice none 0 0] 62)).trans b4
    have z4 := k4.size
    have v5 : W4.heap[W1.heap.size]? = some (.cells #[Value.int IntKind.i64 60, Value.string ⟨#[]⟩, Value.int IntKind.i64 0, Value.slice none 0 0] 62 (0, 0)) := (((KeptR.refl P.R (W1.alloc (Obj.cells #[Value.int IntKind.i64 60, Value.string ⟨#[]⟩, Value.int IntKind.i64 0, Value.slice none 0 0] 62))).trans b4).block _ (Array.getElem?_eq_some_iff.1 v2).1 (by omega)).trans v2
    obtain ⟨⟨_, _, _, _⟩, _, _, _, _⟩ := t4 v5
    go_wp2_with fail
    go_at_call 69
    refine (request_any r4 hs).mono ?_
    rintro e W6 A6
    cases h6 : requestM L (a + 1) with
    | bad p er =>
      rw [h6] at A6
      obtain ⟨rfl, b6⟩ := A6
      obtain rfl : Rs.bad p er = res := by rw [← HR.out, importM]; simp [Rs.bind, mtT, endM, mk0, E3.out, h6]
      exact ⟨rfl, rfl, a0.trans (k4.trans b6)⟩
    | ok x6 a6 =>
      rw [h6] at A6
      obtain ⟨rfl, r6, b6⟩ := A6
      have y6 := r6.le
      have k6 := k4.trans b6
      have z6 := k6.size
      have v7 : W6.heap[W1.heap.size]? = some (.cells #[Value.int IntKind.i64 60, Value.string ⟨#[]⟩, Value.int IntKind.i64 0, Value.slice none 0 0] 62 (0, 0)) := (((KeptR.refl P.R W4).trans b6).block _ (Array.getElem?_eq_some_iff.1 v5).1 (by omega)).trans v5
      obtain ⟨⟨_, _, _, _⟩, _, _, _, _⟩ := t4 v7
      have v8 : (W6.setCell ⟨W1.heap.size, 1, none⟩ (Value.string x6)).heap[W1.heap.size]? = some (.cells #[Value.int IntKind.i64 60, Value.string x6, Value.int IntKind.i64 0, Value.slice none 0 0] 62 (0, 0)) := by simp [World.setCell, Array.getElem?_modify, v7]
      obtain ⟨⟨_, _, _, _⟩, _, _, _, _⟩ := t4 v8
      have r8 := r6.other (n := W1.heap.size) (by omega) (fun q => by have := h.x.lt q; omega) 1 (Value.string x6)
      have k8 := k6.new (n := W1.heap.size) (by omega) 1 (Value.string x6)
      go_wp2_with fail
      go_at_call 70
      refine (endedm_any r8 _ _ _ _ _ _).mono ?_
      rintro e W9 A9
      cases h9 : wantR L sSe a6 with
      | bad p er =>
        rw [h9] at A9
        obtain ⟨rfl, b9⟩ := A9
        obtain rfl : Rs.bad p er = res := by rw [← HR.out, importM]; simp [Rs.bind, mtT, endM, mk0, E3.out, h6, h9]
        exact ⟨rfl, rfl, a0.trans (k8.trans b9)⟩
      | ok x9 a9 =>
        rw [h9] at A9
        obtain ⟨rfl, r9, b9⟩ := A9
        have y9 := r9.le
        have k9 := k8.trans b9
        have z9 := k9.size
        obtain rfl : Rs.ok (Nd.mk 60 x6 0 []) a9 = res := by rw [← HR.out, importM]; simp [Rs.bind, mtT, endM, mk0, E3.out, h6, h9]
        have m0 := M0.out _ k9
        obtain ⟨⟨_, _, _, _⟩, _, _, _, _⟩ := t4 m0
        go_wp2
        refine bodyPost_ret (res_n4 Tryz.results43 (t4_set _ _ _ _ m0) rfl) rfl ?_
        exact close_ok (x := (Nd.mk 60 x6 0 [])) h (a0.trans k9) (LAt.nil (S := fun b => w.heap.size + 1 ≤ b) none 0) (by omega) r9
  · have f3 : ((tokA L (a + 1)).k == 4) = false := by simp [e3]
    have E3 : Hid (¬ (tokA L (a + 1)).k = 4) := e3
    clear e3
    go_wp2_with fail
    go_at_call 58
    refine TK.mono ?_
    rintro e W10 ⟨rfl, b10'⟩
    have r10 := (r1.bel ((Below.refl _ _).alloc (Nat.le_refl _) (Obj.cells #[Value.int IntKind.i64 60, Value.string ⟨#[]⟩, Value.int IntKind.i64 0, Value.slice none 0 0] 62))).bel b10'
    have b10 := KeptR.of (b := P.R) b10'
    have k10 := (k1.alloc (Obj.cells #[Value.int IntKind.i64 60, Value.string ⟨#[]⟩, Value.int IntKind.i64 0, Value.slice none 0 0] 62)).trans b10
    have z10 := k10.size
    have v11 : W10.heap[W1.heap.size]? = some (.cells #[Value.int IntKind.i64 60, Value.string ⟨#[]⟩, Value.int IntKind.i64 0, Value.slice none 0 0] 62 (0, 0)) := (((KeptR.refl P.R (W1.alloc (Obj.cells #[Value.int IntKind.i64 60, Value.string ⟨#[]⟩, Value.int IntKind.i64 0, Value.slice none 0 0] 62))).trans b10).block _ (Array.getElem?_eq_some_iff.1 v2).1 (by omega)).trans v2
    obtain ⟨⟨_, _, _, _⟩, _, _, _, _⟩ := t4 v11
    have TA := typesAlone_any r10
    cases q12 : typesAloneM L (a + 1) with
    | true =>
      rw [q12] at TA
      go_wp2_with fail
      go_at_call 66
      refine TA.mono ?_
      rintro e W13 ⟨rfl, b13'⟩
      have r13 := r10.bel b13'
      have b13 := KeptR.of (b := P.R) b13'
      have k13 := k10.trans b13
      have z13 := k13.size
      have v14 : W13.heap[W1.heap.size]? = some (.cells #[Value.int IntKind.i64 60, Value.string ⟨#[]⟩, Value.int IntKind.i64 0, Value.slice none 0 0] 62 (0, 0)) := (((KeptR.refl P.R W10).trans b13).block _ (Array.getElem?_eq_some_iff.1 v11).1 (by omega)).trans v11
      obtain ⟨⟨_, _, _, _⟩, _, _, _, _⟩ := t4 v14
      have ut : a + 1 < L.length := isNm_lt (s := nType) (by unfold typesAloneM at q12; rw [Bool.and_eq_true] at q12; exact q12.1)
      go_wp2_with fail
      go_at_call 59
      refine (pass_any r13 ut (hs.at _)).mono ?_
      rintro e W15 ⟨rfl, r15, b15⟩
      have k15 := k13.trans b15
      have z15 := k15.size
      have y15 := r15.le
      have v16 : W15.heap[W1.heap.size]? = some (.cells #[Value.int IntKind.i64 60, Value.string ⟨#[]⟩, Value.int IntKind.i64 0, Value.slice none 0 0] 62 (0, 0)) := (((KeptR.refl P.R W13).trans b15).block _ (Array.getElem?_eq_some_iff.1 v14).1 (by omega)).trans v14
      obtain ⟨⟨_, _, _, _⟩, _, _, _, _⟩ := t4 v16
      have v17 : (W15.setCell ⟨W1.heap.size, 2, none⟩ (Value.int IntKind.i64 1)).heap[W1.heap.size]? = some (.cells #[Value.int IntKind.i64 60, Value.string ⟨#[]⟩, Value.int IntKind.i64 1, Value.slice none 0 0] 62 (0, 0)) := by simp [World.setCell, Array.getElem?_modify, v16]
      obtain ⟨⟨_, _, _, _⟩, _, _, _, _⟩ := t4 v17
      have r17 := r15.other (n := W1.heap.size) (by omega) (fun q => by have := h.x.lt q; omega) 2 (Value.int IntKind.i64 1)
      have k17 := k15.new (n := W1.heap.size) (by omega) 2 (Value.int IntKind.i64 1)
      have hVs : W1.heap.size < (W15.setCell ⟨W1.heap.size, 2, none⟩ (Value.int IntKind.i64 1)).heap.size := (Array.getElem?_eq_some_iff.1 v17).1
      go_wp2_with fail
      go_at_call 67
      refine (clause_any hs r17 true).mono ?_
      rintro e W18 A18
      cases h18 : clauseM L true (a + 1 + 1) with
      | bad p er =>
        rw [h18] at A18
        obtain ⟨rfl, b18⟩ := A18
        obtain rfl : Rs.bad p er = res := by rw [← HR.out, importM]; simp [Rs.bind, mtT, endM, mk0, E3.out, q12, h18]
        exact ⟨rfl, rfl, a0.trans (k17.trans b18.one)⟩
      | ok x18 a18 =>
        rw [h18] at A18
        obtain ⟨ad18, c18, rfl, l18', r18, b18'⟩ := A18
        have b18 := b18'.one
        have y18 := r18.le
        have k18 := k17.trans b18
        have z18 := k18.size
        have l18 := l18'.mono (T := fun b => w.heap.size + 1 ≤ b) (fun b hb => by have := k17.size; omega)
        have v19 : W18.heap[W1.heap.size]? = some (.cells #[Value.int IntKind.i64 60, Value.string ⟨#[]⟩, Value.int IntKind.i64 1, Value.slice none 0 0] 62 (0, 0)) := (((KeptR.refl P.R (W15.setCell ⟨W1.heap.size, 2, none⟩ (Value.int IntKind.i64 1))).trans b18).block _ (Array.getElem?_eq_some_iff.1 v17).1 (by omega)).trans v17
        obtain ⟨⟨_, _, _, _⟩, _, _, _, _⟩ := t4 v19
        have v20 : (W18.setCell ⟨W1.heap.size, 3, none⟩ (Value.slice ad18 x18.length c18)).heap[W1.heap.size]? = some (.cells #[Value.int IntKind.i64 60, Value.string ⟨#[]⟩, Value.int IntKind.i64 1, Value.slice ad18 x18.length c18] 62 (0, 0)) := by simp [World.setCell, Array.getElem?_modify, v19]
        obtain ⟨⟨_, _, _, _⟩, _, _, _, _⟩ := t4 v20
        have r20 := r18.other (n := W1.heap.size) (by omega) (fun q => by have := h.x.lt q; omega) 3 (Value.slice ad18 x18.length c18)
        have k20 := k18.new (n := W1.heap.size) (by omega) 3 (Value.slice ad18 x18.length c18)
        have zz21 := 0
        have lV : LAt (W18.setCell ⟨W1.heap.size, 3, none⟩ (Value.slice ad18 x18.length c18)) (fun b => W1.heap.size + 1 ≤ b) (Value.slice ad18 x18.length c18) x18 := (l18'.mono (T := fun b => W1.heap.size + 1 ≤ b) (fun b hb => by have := hVs; omega)).keep (by simp [World.setCell]) (fun b hb hl => Below.heap_setCell _ _ _ _ (by show b ≠ W1.heap.size; omega))
        go_wp2_with fail
        go_at_call 68
        refine (from_any r20).mono ?_
        rintro e W22 A22
        cases h22 : nameM L nFrom a18 with
        | bad p er =>
          rw [h22] at A22
          obtain ⟨rfl, b22⟩ := A22
          obtain rfl : Rs.bad p er = res := by rw [← HR.out, importM]; simp [Rs.bind, mtT, endM, mk0, E3.out, q12, h18, h22]
          exact ⟨rfl, rfl, a0.trans (k20.trans b22)⟩
        | ok x22 a22 =>
          rw [h22] at A22
          obtain ⟨rfl, r22, b22⟩ := A22
          have y22 := r22.le
          have k22 := k20.trans b22
          have z22 := k22.size
          go_wp2_with fail
          go_at_call 69
          refine (request_any r22 hs).mono ?_
          rintro e W23 A23
          cases h23 : requestM L a22 with
          | bad p er =>
            rw [h23] at A23
            obtain ⟨rfl, b23⟩ := A23
            obtain rfl : Rs.bad p er = res := by rw [← HR.out, importM]; simp [Rs.bind, mtT, endM, mk0, E3.out, q12, h18, h22, h23]
            exact ⟨rfl, rfl, a0.trans (k22.trans b23)⟩
          | ok x23 a23 =>
            rw [h23] at A23
            obtain ⟨rfl, r23, b23⟩ := A23
            have y23 := r23.le
            have k23 := k22.trans b23
            have z23 := k23.size
            have v24 : W23.heap[W1.heap.size]? = some (.cells #[Value.int IntKind.i64 60, Value.string ⟨#[]⟩, Value.int IntKind.i64 1, Value.slice ad18 x18.length c18] 62 (0, 0)) := ((((KeptR.refl P.R (W18.setCell ⟨W1.heap.size, 3, none⟩ (Value.slice ad18 x18.length c18))).trans b22).trans b23).block _ (Array.getElem?_eq_some_iff.1 v20).1 (by omega)).trans v20
            obtain ⟨⟨_, _, _, _⟩, _, _, _, _⟩ := t4 v24
            have v25 : (W23.setCell ⟨W1.heap.size, 1, none⟩ (Value.string x23)).heap[W1.heap.size]? = some (.cells #[Value.int IntKind.i64 60, Value.string x23, Value.int IntKind.i64 1, Value.slice ad18 x18.length c18] 62 (0, 0)) := by simp [World.setCell, Array.getElem?_modify, v24]
            obtain ⟨⟨_, _, _, _⟩, _, _, _, _⟩ := t4 v25
            have r25 := r23.other (n := W1.heap.size) (by omega) (fun q => by have := h.x.lt q; omega) 1 (Value.string x23)
            have k25 := k23.new (n := W1.heap.size) (by omega) 1 (Value.string x23)
            have zz26 := 0
            have zz27 := 0
            have lz : LAt (W23.setCell ⟨W1.heap.size, 1, none⟩ (Value.string x23)) (fun b => w.heap.size + 1 ≤ b) (Value.slice ad18 x18.length c18) x18 := ((lV.keep (((KeptR.refl P.R (W18.setCell ⟨W1.heap.size, 3, none⟩ (Value.slice ad18 x18.length c18))).trans b22).trans b23).size (fun b hb hl => (((KeptR.refl P.R (W18.setCell ⟨W1.heap.size, 3, none⟩ (Value.slice ad18 x18.length c18))).trans b22).trans b23).block b hl (by omega))).keep (by simp [World.setCell]) (fun b hb hl => Below.heap_setCell _ _ _ _ (by show b ≠ W1.heap.size; omega))).mono (fun b hb => by omega)
            go_wp2_with fail
            go_at_call 70
            refine (endedm_any r25 _ _ _ _ _ _).mono ?_
            rintro e W28 A28
            cases h28 : wantR L sSe a23 with
            | bad p er =>
              rw [h28] at A28
              obtain ⟨rfl, b28⟩ := A28
              obtain rfl : Rs.bad p er = res := by rw [← HR.out, importM]; simp [Rs.bind, mtT, endM, mk0, E3.out, q12, h18, h22, h23, h28]
              exact ⟨rfl, rfl, a0.trans (k25.trans b28)⟩
            | ok x28 a28 =>
              rw [h28] at A28
              obtain ⟨rfl, r28, b28⟩ := A28
              have y28 := r28.le
              have k28 := k25.trans b28
              have z28 := k28.size
              obtain rfl : Rs.ok (Nd.mk 60 x23 1 x18) a28 = res := by rw [← HR.out, importM]; simp [Rs.bind, mtT, endM, mk0, E3.out, q12, h18, h22, h23, h28]
              have m0 := M0.out _ k28
              obtain ⟨⟨_, _, _, _⟩, _, _, _, _⟩ := t4 m0
              go_wp2
              refine bodyPost_ret (res_n4 Tryz.results43 (t4_set _ _ _ _ m0) rfl) rfl ?_
              exact close_ok (x := (Nd.mk 60 x23 1 x18)) h (a0.trans k28) (lz.keepR ((KeptR.refl P.R (W23.setCell ⟨W1.heap.size, 1, none⟩ (Value.string x23))).trans b28) (by omega)) (by omega) r28
    | false =>
      rw [q12] at TA
      go_wp2_with fail
      go_at_call 66
      refine TA.mono ?_
      rintro e W29 ⟨rfl, b29'⟩
      have r29 := r10.bel b29'
      have b29 := KeptR.of (b := P.R) b29'
      have k29 := k10.trans b29
      have z29 := k29.size
      have v30 : W29.heap[W1.heap.size]? = some (.cells #[Value.int IntKind.i64 60, Value.string ⟨#[]⟩, Value.int IntKind.i64 0, Value.slice none 0 0] 62 (0, 0)) := (((KeptR.refl P.R W10).trans b29).block _ (Array.getElem?_eq_some_iff.1 v11).1 (by omega)).trans v11
      obtain ⟨⟨_, _, _, _⟩, _, _, _, _⟩ := t4 v30
      have hVs : W1.heap.size < W29.heap.size := (Array.getElem?_eq_some_iff.1 v30).1
      go_wp2_with fail
      go_at_call 67
      refine (clause_any hs r29 false).mono ?_
      rintro e W31 A31
      cases h31 : clauseM L false (a + 1) with
      | bad p er =>
        rw [h31] at A31
        obtain ⟨rfl, b31⟩ := A31
        obtain rfl : Rs.bad p er = res := by rw [← HR.out, importM]; simp [Rs.bind, mtT, endM, mk0, E3.out, q12, h31]
        exact ⟨rfl, rfl, a0.trans (k29.trans b31.one)⟩
      | ok x31 a31 =>
        rw [h31] at A31
        obtain ⟨ad31, c31, rfl, l31', r31, b31'⟩ := A31
        have b31 := b31'.one
        have y31 := r31.le
        have k31 := k29.trans b31
        have z31 := k31.size
        have l31 := l31'.mono (T := fun b => w.heap.size + 1 ≤ b) (fun b hb => by have := k29.size; omega)
        have v32 : W31.heap[W1.heap.size]? = some (.cells #[Value.int IntKind.i64 60, Value.string ⟨#[]⟩, Value.int IntKind.i64 0, Value.slice none 0 0] 62 (0, 0)) := (((KeptR.refl P.R W29).trans b31).block _ (Array.getElem?_eq_some_iff.1 v30).1 (by omega)).trans v30
        obtain ⟨⟨_, _, _, _⟩, _, _, _, _⟩ := t4 v32
        have v33 : (W31.setCell ⟨W1.heap.size, 3, none⟩ (Value.slice ad31 x31.length c31)).heap[W1.heap.size]? = some (.cells #[Value.int IntKind.i64 60, Value.string ⟨#[]⟩, Value.int IntKind.i64 0, Value.slice ad31 x31.length c31] 62 (0, 0)) := by simp [World.setCell, Array.getElem?_modify, v32]
        obtain ⟨⟨_, _, _, _⟩, _, _, _, _⟩ := t4 v33
        have r33 := r31.other (n := W1.heap.size) (by omega) (fun q => by have := h.x.lt q; omega) 3 (Value.slice ad31 x31.length c31)
        have k33 := k31.new (n := W1.heap.size) (by omega) 3 (Value.slice ad31 x31.length c31)
        have zz34 := 0
        have lV : LAt (W31.setCell ⟨W1.heap.size, 3, none⟩ (Value.slice ad31 x31.length c31)) (fun b => W1.heap.size + 1 ≤ b) (Value.slice ad31 x31.length c31) x31 := (l31'.mono (T := fun b => W1.heap.size + 1 ≤ b) (fun b hb => by have := hVs; omega)).keep (by simp [World.setCell]) (fun b hb hl => Below.heap_setCell _ _ _ _ (by show b ≠ W1.heap.size; omega))
        go_wp2_with fail
        go_at_call 68
        refine (from_any r33).mono ?_
        rintro e W35 A35
        cases h35 : nameM L nFrom a31 with
        | bad p er =>
          rw [h35] at A35
          obtain ⟨rfl, b35⟩ := A35
          obtain rfl : Rs.bad p er = res := by rw [← HR.out, importM]; simp [Rs.bind, mtT, endM, mk0, E3.out, q12, h31, h35]
          exact ⟨rfl, rfl, a0.trans (k33.trans b35)⟩
        | ok x35 a35 =>
          rw [h35] at A35
          obtain ⟨rfl, r35, b35⟩ := A35
          have y35 := r35.le
          have k35 := k33.trans b35
          have z35 := k35.size
          go_wp2_with fail
          go_at_call 69
          refine (request_any r35 hs).mono ?_
          rintro e W36 A36
          cases h36 : requestM L a35 with
          | bad p er =>
            rw [h36] at A36
            obtain ⟨rfl, b36⟩ := A36
            obtain rfl : Rs.bad p er = res := by rw [← HR.out, importM]; simp [Rs.bind, mtT, endM, mk0, E3.out, q12, h31, h35, h36]
            exact ⟨rfl, rfl, a0.trans (k35.trans b36)⟩
          | ok x36 a36 =>
            rw [h36] at A36
            obtain ⟨rfl, r36, b36⟩ := A36
            have y36 := r36.le
            have k36 := k35.trans b36
            have z36 := k36.size
            have v37 : W36.heap[W1.heap.size]? = some (.cells #[Value.int IntKind.i64 60, Value.string ⟨#[]⟩, Value.int IntKind.i64 0, Value.slice ad31 x31.length c31] 62 (0, 0)) := ((((KeptR.refl P.R (W31.setCell ⟨W1.heap.size, 3, none⟩ (Value.slice ad31 x31.length c31))).trans b35).trans b36).block _ (Array.getElem?_eq_some_iff.1 v33).1 (by omega)).trans v33
            obtain ⟨⟨_, _, _, _⟩, _, _, _, _⟩ := t4 v37
            have v38 : (W36.setCell ⟨W1.heap.size, 1, none⟩ (Value.string x36)).heap[W1.heap.size]? = some (.cells #[Value.int IntKind.i64 60, Value.string x36, Value.int IntKind.i64 0, Value.slice ad31 x31.length c31] 62 (0, 0)) := by simp [World.setCell, Array.getElem?_modify, v37]
            obtain ⟨⟨_, _, _, _⟩, _, _, _, _⟩ := t4 v38
            have r38 := r36.other (n := W1.heap.size) (by omega) (fun q => by have := h.x.lt q; omega) 1 (Value.string x36)
            have k38 := k36.new (n := W1.heap.size) (by omega) 1 (Value.string x36)
            have zz39 := 0
            have zz40 := 0
            have lz : LAt (W36.setCell ⟨W1.heap.size, 1, none⟩ (Value.string x36)) (fun b => w.heap.size + 1 ≤ b) (Value.slice ad31 x31.length c31) x31 := ((lV.keep (((KeptR.refl P.R (W31.setCell ⟨W1.heap.size, 3, none⟩ (Value.slice ad31 x31.length c31))).trans b35).trans b36).size (fun b hb hl => (((KeptR.refl P.R (W31.setCell ⟨W1.heap.size, 3, none⟩ (Value.slice ad31 x31.length c31))).trans b35).trans b36).block b hl (by omega))).keep (by simp [World.setCell]) (fun b hb hl => Below.heap_setCell _ _ _ _ (by show b ≠ W1.heap.size; omega))).mono (fun b hb => by omega)
            go_wp2_with fail
            go_at_call 70
            refine (endedm_any r38 _ _ _ _ _ _).mono ?_
            rintro e W41 A41
            cases h41 : wantR L sSe a36 with
            | bad p er =>
              rw [h41] at A41
              obtain ⟨rfl, b41⟩ := A41
              obtain rfl : Rs.bad p er = res := by rw [← HR.out, importM]; simp [Rs.bind, mtT, endM, mk0, E3.out, q12, h31, h35, h36, h41]
              exact ⟨rfl, rfl, a0.trans (k38.trans b41)⟩
            | ok x41 a41 =>
              rw [h41] at A41
              obtain ⟨rfl, r41, b41⟩ := A41
              have y41 := r41.le
              have k41 := k38.trans b41
              have z41 := k41.size
              obtain rfl : Rs.ok (Nd.mk 60 x36 0 x31) a41 = res := by rw [← HR.out, importM]; simp [Rs.bind, mtT, endM, mk0, E3.out, q12, h31, h35, h36, h41]
              have m0 := M0.out _ k41
              obtain ⟨⟨_, _, _, _⟩, _, _, _, _⟩ := t4 m0
              go_wp2
              refine bodyPost_ret (res_n4 Tryz.results43 (t4_set _ _ _ _ m0) rfl) rfl ?_
              exact close_ok (x := (Nd.mk 60 x36 0 x31)) h (a0.trans k41) (lz.keepR ((KeptR.refl P.R (W36.setCell ⟨W1.heap.size, 1, none⟩ (Value.string x36))).trans b41) (by omega)) (by omega) r41
end Go.Proofs.YtfehmdfamndcaaaGreatDoor
namespace Go.Proofs.YtfehmdfamndcaaaGreatDoor
open Go.RowKit
set_option linter.unusedVariables false
set_option linter.unusedSimpArgs false

theorem res_Module {W : World} {p : Nat} {a b c d vq vr : Value} {tmps : Array Value} (mp : W.heap[p]? = some (.cells #[a, b, c, d] 62 (0, 0))) (h4 : tmps[2]?.getD undef = .pointer (some ⟨p, 0, none⟩)) (h5 : tmps[3]?.getD undef = vq) (h6 : tmps[4]?.getD undef = vr) : (results Tryz.f27 tmps).run Tryz.prog W = .ok (.tuple #[.agg #[a, b, c, d], vq, vr]) W := by
  obtain ⟨⟨c0, c1, c2, c3⟩, _⟩ := t4 mp
  simp [results, Tryz.results27, go_sem, h4, h5, h6, c0, c1, c2, c3]
set_option maxRecDepth 100000 in
set_option maxHeartbeats 4000000 in
theorem module_of (s : ByteArray) (w : World) (r : Fc) (C : ∀ o, Calls Tryz.prog 32 #[.string s, .int .i64 68, .func (.func 33) #[] #[]] (w.alloc o) (AnsF (w.alloc o) r)) :
    Calls Tryz.prog 27 #[.string s] w (AnsF w r) := by
  have bel_n : ∀ o, Below w.heap.size w (w.alloc o) := fun o => (Below.refl _ _).alloc (Nat.le_refl _) o
  have M0 : Hid (∀ W, Below (w.alloc zN).heap.size (w.alloc zN) W → W.heap[w.heap.size]? = some (.cells #[Value.int IntKind.i64 0, Value.string ⟨#[]⟩, Value.int IntKind.i64 0, Value.slice none 0 0] 62 (0, 0))) := fun W b => (b.block _ (by simp)).trans (heap_alloc_new w _)
  go_enter Tryz.func27, Tryz.ntmps27
  go_wp2_with (go_at_call 32; refine (C _).mono ?_; rintro e W1 ⟨ad, c, rfl, l1, b1⟩; have m1 := M0.out _ b1; obtain ⟨⟨_, _, _, _⟩, _, _, _, _⟩ := t4 m1)
  have b2 : Below w.heap.size w W1 := (bel_n _).trans (b1.mono (by simp))
  have s1 := b1.size
  simp at s1
  refine bodyPost_ret (res_Module (t4_set _ _ _ _ m1) rfl rfl rfl) rfl ⟨ad, c, rfl, ?_, ?_⟩
  · exact (l1.mono (T := fun b => w.heap.size + 1 ≤ b) (fun b hb => by simp at hb; omega)).set4 (by omega) (by omega) _ _ _ _
  · exact (((b2.setCell (Nat.le_refl _) _).setCell (Nat.le_refl _) _).setCell (Nat.le_refl _) _).setCell (Nat.le_refl _) _
theorem eg_importsF : ∀ args w, (callFunc 43 args).run Tryz.prog w = .ok (.enter 43 args) w := Go.Proofs.enters_of Tryz.func43 (by kernel_rfl) rfl
theorem eg_exportsF : ∀ args w, (callFunc 44 args).run Tryz.prog w = .ok (.enter 44 args) w := Go.Proofs.enters_of Tryz.func44 (by kernel_rfl) rfl
theorem eg_ofModuleF : ∀ args w, (callFunc 33 args).run Tryz.prog w = .ok (.enter 33 args) w := Go.Proofs.enters_of Tryz.func33 (by kernel_rfl) rfl
/-- an import is read. -/
theorem read_import {L : List Tok} {a : Nat} (h1 : isWd L a wClass = false) (h2 : isWd L a wImport = true) {x : Nd} {b : Nat} (hx : importM L a = .ok x b) (W : World) (v : Value) (hv : TkV W v L) :
    Calls Tryz.prog 38 #[v, .int .i64 (a : Int), .func (.func 33) #[] #[]] W (AnsF W (faceR (.ok x b))) := by
  have hlt := isWd_lt h2
  have C := readM_any L _ eg_ofModuleF (fun _ => 43) (fun _ => eg_importsF) (fun a => importM L a) W v a hv (by omega) (fun W' P r => by
    have C := ofModule_any r
    rw [show mdK L a = 43 by unfold mdK; rw [if_neg (by rw [h1]; decide), if_pos h2]] at C
    exact C) (fun W' P r => imports_m hv.texts r hlt)
  rw [hx] at C
  exact C
/-- the export of an alias is read. -/
theorem read_export {L : List Tok} {a : Nat} (h1 : isWd L a wClass = false) (h2 : isWd L a wImport = false) (h3 : isWd L a wExport = true) (q2 : isWd L (a + 1) wDefault = false) (q17 : isS L (a + 1) sSt = false) (q19 : isS L (a + 1) sCb = false) (q23 : isNm L (a + 1) nType = true) (q26 : isS L (a + 1 + 1) sCb = false) (qd : dcK L (a + 1) = some 46)
    {y x : Nd} {n b : Nat} (ht : typeF (L.drop (a + 4)) (fuelL (L.drop (a + 4))) 0 0 = .ok y n) (hn : n ≤ (L.drop (a + 4)).length) (hx : aliasT L (fun _ => .ok y (n + (a + 4))) (a + 1) = .ok x b) (W : World) (v : Value) (hv : TkV W v L) :
    Calls Tryz.prog 38 #[v, .int .i64 (a : Int), .func (.func 33) #[] #[]] W (AnsF W (faceR (.ok (mk0 62 mtT [x]) b))) := by
  have hlt := isWd_lt h3
  have hlt2 := isNm_lt q23
  refine readM_any L _ eg_ofModuleF (fun _ => 44) (fun _ => eg_exportsF) (fun _ => .ok (mk0 62 mtT [x]) b) W v a hv (by omega) (fun W' P r => by
    have C := ofModule_any r
    rw [show mdK L a = 44 by unfold mdK; rw [if_neg (by rw [h1]; decide), if_neg (by rw [h2]; decide), if_pos h3]] at C
    exact C) (fun W' P r => exports_f hv.texts r hlt q2 q17 q19 q23 q26 qd (fun W2 r2 => ?_))
  have C := alias_f hv.texts r2 hlt2 (fun _ => .ok y (n + (a + 4))) (fun W3 b' r3 eb => by
    subst eb
    exact by_typeF hv.texts r3 ht hn)
  rw [hx] at C
  exact C
end Go.Proofs.YtfehmdfamndcaaaGreatDoor
namespace Go.Proofs.YtfehmdfamndcaaaGreatDoor
open Go.RowKit
set_option linter.unusedVariables false
set_option linter.unusedSimpArgs false

def srcA : ByteArray := ⟨#[105, 109, 112, 111, 114, 116, 32, 39, 46, 47, 98, 39, 59, 32, 105, 109, 112, 111, 114, 116, 32, 116, 121, 112, 101, 32, 123, 32, 84, 32, 125, 32, 102, 114, 111, 109, 32, 39, 46, 47, 99, 39, 59]⟩
def srcB : ByteArray := ⟨#[105, 109, 112, 111, 114, 116, 32, 39, 46, 47, 99, 39, 59]⟩
def srcC : ByteArray := ⟨#[101, 120, 112, 111, 114, 116, 32, 116, 121, 112, 101, 32, 84, 32, 61, 32, 110, 117, 109, 98, 101, 114, 59]⟩
def tkA : List (Tk × Nat) := [((2, [105, 109, 112, 111, 114, 116], 0), 0), ((4, [46, 47, 98], 0), 7), ((5, [59], 0), 12), ((2, [105, 109, 112, 111, 114, 116], 0), 14), ((1, [116, 121, 112, 101], 0), 21), ((5, [123], 0), 26), ((1, [84], 0), 28), ((5, [125], 0), 30), ((1, [102, 114, 111, 109], 0), 32), ((4, [46, 47, 99], 0), 37), ((5, [59], 0), 42)]
def tkB : List (Tk × Nat) := [((2, [105, 109, 112, 111, 114, 116], 0), 0), ((4, [46, 47, 99], 0), 7), ((5, [59], 0), 12)]
def tkC : List (Tk × Nat) := [((2, [101, 120, 112, 111, 114, 116], 0), 0), ((1, [116, 121, 112, 101], 0), 7), ((1, [84], 0), 12), ((5, [61], 0), 14), ((1, [110, 117, 109, 98, 101, 114], 0), 16), ((5, [59], 0), 22)]
theorem lexA : lexL 0 srcA.data.toList false = .ok tkA := by kernel_rfl
theorem lexB : lexL 0 srcB.data.toList false = .ok tkB := by kernel_rfl
theorem lexC : lexL 0 srcC.data.toList false = .ok tkC := by kernel_rfl
def nB : ByteArray := ⟨#[46, 47, 98]⟩
def nC : ByteArray := ⟨#[46, 47, 99]⟩
def nT : ByteArray := ⟨#[84]⟩
def nNum : ByteArray := ⟨#[110, 117, 109, 98, 101, 114]⟩
def impB : Nd := .mk 60 nB 0 []
def impC : Nd := .mk 60 nC 0 []
def impT : Nd := .mk 60 nC 1 [.mk 61 nT 0 [.mk 6 nT 0 []]]
def expT : Nd := .mk 62 mtT 0 [.mk 46 nT 0 [.mk 30 nNum 0 []]]
def modA : Nd := .mk 68 mtT 0 [impB, impT]
def modB : Nd := .mk 68 mtT 0 [impC]
def modC : Nd := .mk 68 mtT 0 [expT]
def fA (a : Nat) : Rs Nd := if a = 0 then .ok impB 3 else if a = 3 then .ok impT 11 else .bad 0 60
def fB (a : Nat) : Rs Nd := if a = 0 then .ok impC 3 else .bad 0 60
def fC (a : Nat) : Rs Nd := if a = 0 then .ok expT 6 else .bad 0 60
theorem module_A (w : World) (he : Env w) : Calls Tryz.prog 27 #[.string srcA] w (AnsF w ⟨modA, 0, 0⟩) := by
  refine module_of srcA w _ (fun o => whole_f srcA _ (env_below he (bel_a w o)) (by decide) lexA (by decide) (by decide) fA (.cons (by decide) (by decide) (show fA 0 = .ok impB 3 from rfl) (.cons (by decide) (by decide) (show fA 3 = .ok impT 11 from rfl) .nil)) ?_ (by decide) (by decide +kernel) (by decide +kernel))
  intro a x b hx ha W v hv
  by_cases h0 : a = 0
  · subst h0
    obtain ⟨rfl, rfl⟩ : impB = x ∧ 3 = b := by unfold fA at hx; rw [if_pos rfl] at hx; cases hx; exact ⟨rfl, rfl⟩
    exact read_import (by kernel_rfl) (by kernel_rfl) (by kernel_rfl) W v hv
  · by_cases h3 : a = 3
    · subst h3
      obtain ⟨rfl, rfl⟩ : impT = x ∧ 11 = b := by unfold fA at hx; rw [if_neg (by decide), if_pos rfl] at hx; cases hx; exact ⟨rfl, rfl⟩
      exact read_import (by kernel_rfl) (by kernel_rfl) (by kernel_rfl) W v hv
    · unfold fA at hx
      rw [if_neg h0, if_neg h3] at hx
      cases hx
theorem module_B (w : World) (he : Env w) : Calls Tryz.prog 27 #[.string srcB] w (AnsF w ⟨modB, 0, 0⟩) := by
  refine module_of srcB w _ (fun o => whole_f srcB _ (env_below he (bel_a w o)) (by decide) lexB (by decide) (by decide) fB (.cons (by decide) (by decide) (show fB 0 = .ok impC 3 from rfl) .nil) ?_ (by decide) (by decide +kernel) (by decide +kernel))
  intro a x b hx ha W v hv
  by_cases h0 : a = 0
  · subst h0
    obtain ⟨rfl, rfl⟩ : impC = x ∧ 3 = b := by unfold fB at hx; rw [if_pos rfl] at hx; cases hx; exact ⟨rfl, rfl⟩
    exact read_import (by kernel_rfl) (by kernel_rfl) (by kernel_rfl) W v hv
  · unfold fB at hx
    rw [if_neg h0] at hx
    cases hx
theorem module_C (w : World) (he : Env w) : Calls Tryz.prog 27 #[.string srcC] w (AnsF w ⟨modC, 0, 0⟩) := by
  refine module_of srcC w _ (fun o => whole_f srcC _ (env_below he (bel_a w o)) (by decide) lexC (by decide) (by decide) fC (.cons (by decide) (by decide) (show fC 0 = .ok expT 6 from rfl) .nil) ?_ (by decide) (by decide +kernel) (by decide +kernel))
  intro a x b hx ha W v hv
  by_cases h0 : a = 0
  · subst h0
    obtain ⟨rfl, rfl⟩ : expT = x ∧ 6 = b := by unfold fC at hx; rw [if_pos rfl] at hx; cases hx; exact ⟨rfl, rfl⟩
    exact read_export (y := .mk 30 nNum 0 []) (x := .mk 46 nT 0 [.mk 30 nNum 0 []]) (n := 1) (by kernel_rfl) (by kernel_rfl) (by kernel_rfl) (by kernel_rfl) (by kernel_rfl) (by kernel_rfl) (by kernel_rfl) (by kernel_rfl) (by kernel_rfl) (by kernel_rfl) (by decide) (by kernel_rfl) W v hv
  · unfold fC at hx
    rw [if_neg h0] at hx
    cases hx
end Go.Proofs.YtfehmdfamndcaaaGreatDoor
