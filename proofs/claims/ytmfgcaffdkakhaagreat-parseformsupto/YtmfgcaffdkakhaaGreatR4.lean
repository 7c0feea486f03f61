/- Own text. Package parse: the rules, one by one: unary operators. -/
import Derived.Test.YtmfgcaffdkakhaaGreatR2
namespace Go.Proofs.YtmfgcaffdkakhaaGreat
open Go.RowKit
set_option linter.unusedVariables false
set_option linter.unusedSimpArgs false

set_option maxRecDepth 100000 in
set_option maxHeartbeats 8000000 in
theorem unary_step (L : List Tok) (hs : Small L) (f : Nat) (MN : Mono L f) (hU : CN 83 L f 10 (unaryF L f)) (hPo : CN 99 L f 9 (postF L f)) : CN 83 L (f + 1) 10 (unaryF L (f + 1)) := by
  intro w P a o h ho hM
  have hRw := h.lt
  have hle := h.le
  obtain ⟨h0, a0, z0, M0⟩ := begin_cell h
  obtain ⟨res, hres⟩ : ∃ r, unaryF L (f + 1) a o = r := ⟨_, rfl⟩
  have HR : Hid (unaryF L (f + 1) a o = res) := hres
  rw [hres]
  clear hres
  have HU' : Hid (CN 83 L f 10 (unaryF L f)) := hU
  have HPO' : Hid (CN 99 L f 9 (postF L f)) := hPo
  clear hU
  clear hPo
  go_enter Tryz.func83, Tryz.ntmps83
  cases q28 : isS L a sMi with
  | true =>
    have T28 := stands_any h0 sMi
    rw [q28] at T28
    have u28 := isS_lt q28
    go_wp2_with fail
    go_at_call 30
    refine T28.mono ?_
    rintro e W28 ⟨rfl, b28'⟩
    have r28 := h0.bel b28'
    have b28 := KeptR.of (b := P.R) b28'
    have k28 := (KeptR.refl P.R (w.alloc zN)).trans b28
    have z28 := k28.size
    have y28 := r28.le
    go_wp2_with fail
    go_at_call 28
    refine (begin_any r28 (by omega)).mono ?_
    rintro e W29 A29
    cases h29 : beginR L a o with
    | bad p er =>
      rw [h29] at A29
      obtain ⟨rfl, b29⟩ := A29
      obtain rfl : Rs.bad p er = res := by rw [← HR.out, unaryF]; simp [Rs.bind, mtT, q28, h29]
      exact ⟨rfl, rfl, a0.trans (k28.trans b29)⟩
    | ok x29 a29 =>
      rw [h29] at A29
      obtain ⟨rfl, r29, b29⟩ := A29
      have y29 := r29.le
      have k29 := k28.trans b29
      have z29 := k29.size
      obtain ⟨rfl, e1, e2⟩ := beginR_ok h29
      go_wp2_with fail
      go_at_call 63
      refine (pass_any r29 (by omega) (hs.at _)).mono ?_
      rintro e W30 ⟨rfl, r30, b30⟩
      have k30 := k29.trans b30
      have z30 := k30.size
      have y30 := r30.le
      go_wp2_with fail
      go_at_call 83
      refine (HU'.out _ _ _ _ r30 (by omega) (by unfold Ms at *; omega)).mono ?_
      rintro e W31 A31
      cases h31 : unaryF L f (a + 1) (o + 1) with
      | bad p er =>
        rw [h31] at A31
        obtain ⟨rfl, b31⟩ := A31
        obtain rfl : Rs.bad p er = res := by rw [← HR.out, unaryF]; simp [Rs.bind, mtT, q28, h29, h31]
        exact ⟨rfl, rfl, a0.trans (k30.trans b31)⟩
      | ok x31 a31 =>
        rw [h31] at A31
        obtain ⟨ad31, c31, rfl, l31', r31, b31⟩ := A31
        have g31 := (MN.unary' (a + 1) (o + 1)) _ _ h31
        have y31 := r31.le
        have k31 := k30.trans b31
        have z31 := k31.size
        have l31 := l31'.mono (T := fun b => w.heap.size + 1 ≤ b) (fun b hb => by have := k30.size; omega)
        go_wp2_with fail
        go_at_call 35
        refine (node_any 15 (tokA L a).t (some ⟨W31.heap.size, 0, none⟩) 1 1 _).mono ?_
        rintro e W32 ⟨rfl, b32'⟩
        have j32 : W32.heap[W31.heap.size]? = some (.cells #[Value.int IntKind.i64 x31.k, Value.string x31.t, Value.int IntKind.i64 x31.n, Value.slice ad31 x31.ks.length c31] 27 (0, 0)) := (b32'.block _ (by simp)).trans (heap_alloc_new W31 _)
        have r32 := (r31.bel ((Below.refl _ _).alloc (Nat.le_refl _) (Obj.cells #[Value.int IntKind.i64 x31.k, Value.string x31.t, Value.int IntKind.i64 x31.n, Value.slice ad31 x31.ks.length c31] 27))).bel b32'
        have b32 : KeptR P.R W31 W32 := (KeptR.of ((Below.refl _ _).alloc (Nat.le_refl _) _)).trans (.of b32')
        have k32 := k31.trans b32
        have z32 := k32.size
        have l32 : LAt W32 (fun b => w.heap.size + 1 ≤ b) (.slice (some ⟨W31.heap.size, 0, none⟩) 1 1) [x31] := LAt.n1 j32 (by have := k31.size; show _ ≤ _; omega) (l31.keepR ((KeptR.refl P.R W31).trans b32) (by omega))
        go_wp2_with fail
        go_at_call 32
        refine (end_any (r32.bel ((Below.refl _ _).alloc (Nat.le_refl _) (Obj.cells #[Value.int IntKind.i64 15, Value.string (tokA L a).t, Value.int IntKind.i64 0, Value.slice (some ⟨W31.heap.size, 0, none⟩) 1 1] 27))) (by omega)).mono ?_
        rintro e W34 ⟨rfl, r34, b34⟩
        have k34 := (k32.alloc (Obj.cells #[Value.int IntKind.i64 15, Value.string (tokA L a).t, Value.int IntKind.i64 0, Value.slice (some ⟨W31.heap.size, 0, none⟩) 1 1] 27)).trans b34
        have z34 := k34.size
        have v33 : W34.heap[W32.heap.size]? = some (.cells #[Value.int IntKind.i64 15, Value.string (tokA L a).t, Value.int IntKind.i64 0, Value.slice (some ⟨W31.heap.size, 0, none⟩) 1 1] 27 (0, 0)) := (((KeptR.refl P.R (W32.alloc (Obj.cells #[Value.int IntKind.i64 15, Value.string (tokA L a).t, Value.int IntKind.i64 0, Value.slice (some ⟨W31.heap.size, 0, none⟩) 1 1] 27))).trans b34).block (W32.heap.size) (by simp) (by have := k32.size; omega)).trans (heap_alloc_new W32 _)
        obtain ⟨⟨_, _, _, _⟩, _, _, _, _⟩ := t4 v33
        obtain rfl : Rs.ok (mk0 15 (tokA L a).t [x31]) a31 = res := by rw [← HR.out, unaryF]; simp [Rs.bind, mtT, q28, h29, h31]
        have m0 := M0.out _ k34
        obtain ⟨⟨_, _, _, _⟩, _, _, _, _⟩ := t4 m0
        go_wp2
        refine bodyPost_ret (res_n4 Tryz.results83 (t4_set _ _ _ _ m0) rfl) rfl ?_
        exact close_ok (x := (mk0 15 (tokA L a).t [x31])) h (a0.trans k34) (l32.keepR (((KeptR.refl P.R W32).alloc (Obj.cells #[Value.int IntKind.i64 15, Value.string (tokA L a).t, Value.int IntKind.i64 0, Value.slice (some ⟨W31.heap.size, 0, none⟩) 1 1] 27)).trans b34) (by omega)) (by omega) r34
  | false =>
    have T28 := stands_any h0 sMi
    rw [q28] at T28
    go_wp2_with fail
    go_at_call 30
    refine T28.mono ?_
    rintro e W28 ⟨rfl, b28'⟩
    have r28 := h0.bel b28'
    have b28 := KeptR.of (b := P.R) b28'
    have k28 := (KeptR.refl P.R (w.alloc zN)).trans b28
    have z28 := k28.size
    have y28 := r28.le
    cases q35 : isS L a sNo with
    | true =>
      have T35 := stands_any r28 sNo
      rw [q35] at T35
      have u35 := isS_lt q35
      go_wp2_with fail
      go_at_call 30
      refine T35.mono ?_
      rintro e W35 ⟨rfl, b35'⟩
      have r35 := r28.bel b35'
      have b35 := KeptR.of (b := P.R) b35'
      have k35 := k28.trans b35
      have z35 := k35.size
      have y35 := r35.le
      go_wp2_with fail
      go_at_call 28
      refine (begin_any r35 (by omega)).mono ?_
      rintro e W36 A36
      cases h36 : beginR L a o with
      | bad p er =>
        rw [h36] at A36
        obtain ⟨rfl, b36⟩ := A36
        obtain rfl : Rs.bad p er = res := by rw [← HR.out, unaryF]; simp [Rs.bind, mtT, q28, q35, h36]
        exact ⟨rfl, rfl, a0.trans (k35.trans b36)⟩
      | ok x36 a36 =>
        rw [h36] at A36
        obtain ⟨rfl, r36, b36⟩ := A36
        have y36 := r36.le
        have k36 := k35.trans b36
        have z36 := k36.size
        obtain ⟨rfl, e1, e2⟩ := beginR_ok h36
        go_wp2_with fail
        go_at_call 63
        refine (pass_any r36 (by omega) (hs.at _)).mono ?_
        rintro e W37 ⟨rfl, r37, b37⟩
        have k37 := k36.trans b37
        have z37 := k37.size
        have y37 := r37.le
        go_wp2_with fail
        go_at_call 83
        refine (HU'.out _ _ _ _ r37 (by omega) (by unfold Ms at *; omega)).mono ?_
        rintro e W38 A38
        cases h38 : unaryF L f (a + 1) (o + 1) with
        | bad p er =>
          rw [h38] at A38
          obtain ⟨rfl, b38⟩ := A38
          obtain rfl : Rs.bad p er = res := by rw [← HR.out, unaryF]; simp [Rs.bind, mtT, q28, q35, h36, h38]
          exact ⟨rfl, rfl, a0.trans (k37.trans b38)⟩
        | ok x38 a38 =>
          rw [h38] at A38
          obtain ⟨ad38, c38, rfl, l38', r38, b38⟩ := A38
          have g38 := (MN.unary' (a + 1) (o + 1)) _ _ h38
          have y38 := r38.le
          have k38 := k37.trans b38
          have z38 := k38.size
          have l38 := l38'.mono (T := fun b => w.heap.size + 1 ≤ b) (fun b hb => by have := k37.size; omega)
          go_wp2_with fail
          go_at_call 35
          refine (node_any 15 (tokA L a).t (some ⟨W38.heap.size, 0, none⟩) 1 1 _).mono ?_
          rintro e W39 ⟨rfl, b39'⟩
          have j39 : W39.heap[W38.heap.size]? = some (.cells #[Value.int IntKind.i64 x38.k, Value.string x38.t, Value.int IntKind.i64 x38.n, Value.slice ad38 x38.ks.length c38] 27 (0, 0)) := (b39'.block _ (by simp)).trans (heap_alloc_new W38 _)
          have r39 := (r38.bel ((Below.refl _ _).alloc (Nat.le_refl _) (Obj.cells #[Value.int IntKind.i64 x38.k, Value.string x38.t, Value.int IntKind.i64 x38.n, Value.slice ad38 x38.ks.length c38] 27))).bel b39'
          have b39 : KeptR P.R W38 W39 := (KeptR.of ((Below.refl _ _).alloc (Nat.le_refl _) _)).trans (.of b39')
          have k39 := k38.trans b39
          have z39 := k39.size
          have l39 : LAt W39 (fun b => w.heap.size + 1 ≤ b) (.slice (some ⟨W38.heap.size, 0, none⟩) 1 1) [x38] := LAt.n1 j39 (by have := k38.size; show _ ≤ _; omega) (l38.keepR ((KeptR.refl P.R W38).trans b39) (by omega))
          go_wp2_with fail
          go_at_call 32
          refine (end_any (r39.bel ((Below.refl _ _).alloc (Nat.le_refl _) (Obj.cells #[Value.int IntKind.i64 15, Value.string (tokA L a).t, Value.int IntKind.i64 0, Value.slice (some ⟨W38.heap.size, 0, none⟩) 1 1] 27))) (by omega)).mono ?_
          rintro e W41 ⟨rfl, r41, b41⟩
          have k41 := (k39.alloc (Obj.cells #[Value.int IntKind.i64 15, Value.string (tokA L a).t, Value.int IntKind.i64 0, Value.slice (some ⟨W38.heap.size, 0, none⟩) 1 1] 27)).trans b41
          have z41 := k41.size
          have v40 : W41.heap[W39.heap.size]? = some (.cells #[Value.int IntKind.i64 15, Value.string (tokA L a).t, Value.int IntKind.i64 0, Value.slice (some ⟨W38.heap.size, 0, none⟩) 1 1] 27 (0, 0)) := (((KeptR.refl P.R (W39.alloc (Obj.cells #[Value.int IntKind.i64 15, Value.string (tokA L a).t, Value.int IntKind.i64 0, Value.slice (some ⟨W38.heap.size, 0, none⟩) 1 1] 27))).trans b41).block (W39.heap.size) (by simp) (by have := k39.size; omega)).trans (heap_alloc_new W39 _)
          obtain ⟨⟨_, _, _, _⟩, _, _, _, _⟩ := t4 v40
          obtain rfl : Rs.ok (mk0 15 (tokA L a).t [x38]) a38 = res := by rw [← HR.out, unaryF]; simp [Rs.bind, mtT, q28, q35, h36, h38]
          have m0 := M0.out _ k41
          obtain ⟨⟨_, _, _, _⟩, _, _, _, _⟩ := t4 m0
          go_wp2
          refine bodyPost_ret (res_n4 Tryz.results83 (t4_set _ _ _ _ m0) rfl) rfl ?_
          exact close_ok (x := (mk0 15 (tokA L a).t [x38])) h (a0.trans k41) (l39.keepR (((KeptR.refl P.R W39).alloc (Obj.cells #[Value.int IntKind.i64 15, Value.string (tokA L a).t, Value.int IntKind.i64 0, Value.slice (some ⟨W38.heap.size, 0, none⟩) 1 1] 27)).trans b41) (by omega)) (by omega) r41
    | false =>
      have T35 := stands_any r28 sNo
      rw [q35] at T35
      go_wp2_with fail
      go_at_call 30
      refine T35.mono ?_
      rintro e W35 ⟨rfl, b35'⟩
      have r35 := r28.bel b35'
      have b35 := KeptR.of (b := P.R) b35'
      have k35 := k28.trans b35
      have z35 := k35.size
      have y35 := r35.le
      cases q42 : isWd L a wTypeof with
      | true =>
        have T42 := standsWord_any r35 wTypeof
        rw [q42] at T42
        have u42 := isWd_lt q42
        go_wp2_with fail
        go_at_call 88
        refine T42.mono ?_
        rintro e W42 ⟨rfl, b42'⟩
        have r42 := r35.bel b42'
        have b42 := KeptR.of (b := P.R) b42'
        have k42 := k35.trans b42
        have z42 := k42.size
        have y42 := r42.le
        go_wp2_with fail
        go_at_call 28
        refine (begin_any r42 (by omega)).mono ?_
        rintro e W43 A43
        cases h43 : beginR L a o with
        | bad p er =>
          rw [h43] at A43
          obtain ⟨rfl, b43⟩ := A43
          obtain rfl : Rs.bad p er = res := by rw [← HR.out, unaryF]; simp [Rs.bind, mtT, q28, q35, q42, h43]
          exact ⟨rfl, rfl, a0.trans (k42.trans b43)⟩
        | ok x43 a43 =>
          rw [h43] at A43
          obtain ⟨rfl, r43, b43⟩ := A43
          have y43 := r43.le
          have k43 := k42.trans b43
          have z43 := k43.size
          obtain ⟨rfl, e1, e2⟩ := beginR_ok h43
          go_wp2_with fail
          go_at_call 63
          refine (pass_any r43 (by omega) (hs.at _)).mono ?_
          rintro e W44 ⟨rfl, r44, b44⟩
          have k44 := k43.trans b44
          have z44 := k44.size
          have y44 := r44.le
          go_wp2_with fail
          go_at_call 83
          refine (HU'.out _ _ _ _ r44 (by omega) (by unfold Ms at *; omega)).mono ?_
          rintro e W45 A45
          cases h45 : unaryF L f (a + 1) (o + 1) with
          | bad p er =>
            rw [h45] at A45
            obtain ⟨rfl, b45⟩ := A45
            obtain rfl : Rs.bad p er = res := by rw [← HR.out, unaryF]; simp [Rs.bind, mtT, q28, q35, q42, h43, h45]
            exact ⟨rfl, rfl, a0.trans (k44.trans b45)⟩
          | ok x45 a45 =>
            rw [h45] at A45
            obtain ⟨ad45, c45, rfl, l45', r45, b45⟩ := A45
            have g45 := (MN.unary' (a + 1) (o + 1)) _ _ h45
            have y45 := r45.le
            have k45 := k44.trans b45
            have z45 := k45.size
            have l45 := l45'.mono (T := fun b => w.heap.size + 1 ≤ b) (fun b hb => by have := k44.size; omega)
            go_wp2_with fail
            go_at_call 35
            refine (node_any 15 (tokA L a).t (some ⟨W45.heap.size, 0, none⟩) 1 1 _).mono ?_
            rintro e W46 ⟨rfl, b46'⟩
            have j46 : W46.heap[W45.heap.size]? = some (.cells #[Value.int IntKind.i64 x45.k, Value.string x45.t, Value.int IntKind.i64 x45.n, Value.slice ad45 x45.ks.length c45] 27 (0, 0)) := (b46'.block _ (by simp)).trans (heap_alloc_new W45 _)
            have r46 := (r45.bel ((Below.refl _ _).alloc (Nat.le_refl _) (Obj.cells #[Value.int IntKind.i64 x45.k, Value.string x45.t, Value.int IntKind.i64 x45.n, Value.slice ad45 x45.ks.length c45] 27))).bel b46'
            have b46 : KeptR P.R W45 W46 := (KeptR.of ((Below.refl _ _).alloc (Nat.le_refl _) _)).trans (.of b46')
            have k46 := k45.trans b46
            have z46 := k46.size
            have l46 : LAt W46 (fun b => w.heap.size + 1 ≤ b) (.slice (some ⟨W45.heap.size, 0, none⟩) 1 1) [x45] := LAt.n1 j46 (by have := k45.size; show _ ≤ _; omega) (l45.keepR ((KeptR.refl P.R W45).trans b46) (by omega))
            go_wp2_with fail
            go_at_call 32
            refine (end_any (r46.bel ((Below.refl _ _).alloc (Nat.le_refl _) (Obj.cells #[Value.int IntKind.i64 15, Value.string (tokA L a).t, Value.int IntKind.i64 0, Value.slice (some ⟨W45.heap.size, 0, none⟩) 1 1] 27))) (by omega)).mono ?_
            rintro e W48 ⟨rfl, r48, b48⟩
            have k48 := (k46.alloc (Obj.cells #[Value.int IntKind.i64 15, Value.string (tokA L a).t, Value.int IntKind.i64 0, Value.slice (some ⟨W45.heap.size, 0, none⟩) 1 1] 27)).trans b48
            have z48 := k48.size
            have v47 : W48.heap[W46.heap.size]? = some (.cells #[Value.int IntKind.i64 15, Value.string (tokA L a).t, Value.int IntKind.i64 0, Value.slice (some ⟨W45.heap.size, 0, none⟩) 1 1] 27 (0, 0)) := (((KeptR.refl P.R (W46.alloc (Obj.cells #[Value.int IntKind.i64 15, Value.string (tokA L a).t, Value.int IntKind.i64 0, Value.slice (some ⟨W45.heap.size, 0, none⟩) 1 1] 27))).trans b48).block (W46.heap.size) (by simp) (by have := k46.size; omega)).trans (heap_alloc_new W46 _)
            obtain ⟨⟨_, _, _, _⟩, _, _, _, _⟩ := t4 v47
            obtain rfl : Rs.ok (mk0 15 (tokA L a).t [x45]) a45 = res := by rw [← HR.out, unaryF]; simp [Rs.bind, mtT, q28, q35, q42, h43, h45]
            have m0 := M0.out _ k48
            obtain ⟨⟨_, _, _, _⟩, _, _, _, _⟩ := t4 m0
            go_wp2
            refine bodyPost_ret (res_n4 Tryz.results83 (t4_set _ _ _ _ m0) rfl) rfl ?_
            exact close_ok (x := (mk0 15 (tokA L a).t [x45])) h (a0.trans k48) (l46.keepR (((KeptR.refl P.R W46).alloc (Obj.cells #[Value.int IntKind.i64 15, Value.string (tokA L a).t, Value.int IntKind.i64 0, Value.slice (some ⟨W45.heap.size, 0, none⟩) 1 1] 27)).trans b48) (by omega)) (by omega) r48
      | false =>
        have T42 := standsWord_any r35 wTypeof
        rw [q42] at T42
        go_wp2_with fail
        go_at_call 88
        refine T42.mono ?_
        rintro e W42 ⟨rfl, b42'⟩
        have r42 := r35.bel b42'
        have b42 := KeptR.of (b := P.R) b42'
        have k42 := k35.trans b42
        have z42 := k42.size
        have y42 := r42.le
        go_wp2_with fail
        go_at_call 99
        refine (HPO'.out _ _ _ _ r42 (by omega) (by unfold Ms at *; omega)).mono ?_
        rintro e W49 A49
        cases h49 : postF L f a o with
        | bad p er =>
          rw [h49] at A49
          obtain ⟨rfl, b49⟩ := A49
          obtain rfl : Rs.bad p er = res := by rw [← HR.out, unaryF]; simp [Rs.bind, mtT, q28, q35, q42, h49]
          exact ⟨rfl, rfl, a0.trans (k42.trans b49)⟩
        | ok x49 a49 =>
          rw [h49] at A49
          obtain ⟨ad49, c49, rfl, l49', r49, b49⟩ := A49
          have g49 := (MN.post' a o) _ _ h49
          have y49 := r49.le
          have k49 := k42.trans b49
          have z49 := k49.size
          have l49 := l49'.mono (T := fun b => w.heap.size + 1 ≤ b) (fun b hb => by have := k42.size; omega)
          obtain rfl : Rs.ok x49 a49 = res := by rw [← HR.out, unaryF]; simp [Rs.bind, mtT, q28, q35, q42, h49]
          have m0 := M0.out _ k49
          obtain ⟨⟨_, _, _, _⟩, _, _, _, _⟩ := t4 m0
          go_wp2
          refine bodyPost_ret (res_n4 Tryz.results83 (t4_set _ _ _ _ m0) rfl) rfl ?_
          exact close_ok (x := x49) h (a0.trans k49) (l49.keepR (KeptR.refl P.R W49) (by omega)) (by omega) r49
end Go.Proofs.YtmfgcaffdkakhaaGreat
