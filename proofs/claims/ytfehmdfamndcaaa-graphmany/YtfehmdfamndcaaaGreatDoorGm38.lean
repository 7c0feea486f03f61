/- Own text. Package parse: the rules, one by one: what types begin with. Package parse: the rules, one by one: lists of a type. Append of a list of trees, empty or not, to a list that is owned. -/
import Derived.Test.YtfehmdfamndcaaaGreatDoorGm36
import Derived.Laws.OwnMore
namespace Go.Proofs.YtfehmdfamndcaaaGreatDoor
open Go.RowKit
set_option linter.unusedVariables false
set_option linter.unusedSimpArgs false

set_option maxRecDepth 100000 in
set_option maxHeartbeats 8000000 in
theorem rtype_step (L : List Tok) (hs : Small L) (f : Nat) (MN : Mono L f) (hOt : CN 152 L f 9 (objtF L f)) (hFt : CN 154 L f 10 (ftypeF L f)) (hT : CN 113 L f 20 (typeF L f)) : CN 139 L (f + 1) 11 (rtypeF L (f + 1)) := by
  intro w P a o h ho hM
  have hRw := h.lt
  have hle := h.le
  obtain ⟨h0, a0, z0, M0⟩ := begin_cell h
  obtain ⟨res, hres⟩ : ∃ r, rtypeF L (f + 1) a o = r := ⟨_, rfl⟩
  have HR : Hid (rtypeF L (f + 1) a o = res) := hres
  rw [hres]
  clear hres
  have HOT' : Hid (CN 152 L f 9 (objtF L f)) := hOt
  have HFT' : Hid (CN 154 L f 10 (ftypeF L f)) := hFt
  have HT' : Hid (CN 113 L f 20 (typeF L f)) := hT
  clear hOt
  clear hFt
  clear hT
  go_enter Tryz.func139, Tryz.ntmps139
  cases q36 : isN L a with
  | true =>
    have T36 := standsId_any h0
    rw [q36] at T36
    have u36 := isN_lt q36
    go_wp2_with fail
    go_at_call 90
    refine T36.mono ?_
    rintro e W36 ⟨rfl, b36'⟩
    have r36 := h0.bel b36'
    have b36 := KeptR.of (b := P.R) b36'
    have k36 := (KeptR.refl P.R (w.alloc zN)).trans b36
    have z36 := k36.size
    have y36 := r36.le
    go_wp2_with fail
    go_at_call 59
    refine (pass_any r36 (by omega) (hs.at _)).mono ?_
    rintro e W37 ⟨rfl, r37, b37⟩
    have k37 := k36.trans b37
    have z37 := k37.size
    have y37 := r37.le
    go_wp2_with fail
    go_at_call 64
    refine (node_any 30 (tokA L a).t none 0 0 _).mono ?_
    rintro e W39 ⟨rfl, b39'⟩
    have r39 := r37.bel b39'
    have b39 := KeptR.of (b := P.R) b39'
    have k39 := k37.trans b39
    have z39 := k39.size
    obtain rfl : Rs.ok (mk0 30 (tokA L a).t []) (a + 1) = res := by rw [← HR.out, rtypeF]; simp [Rs.bind, mtT, q36]
    have m0 := M0.out _ k39
    obtain ⟨⟨_, _, _, _⟩, _, _, _, _⟩ := t4 m0
    go_wp2
    refine bodyPost_ret (res_n4 Tryz.results139 (t4_set _ _ _ _ m0) rfl) rfl ?_
    exact close_ok (x := (mk0 30 (tokA L a).t [])) h (a0.trans k39) (LAt.nil (S := fun b => w.heap.size + 1 ≤ b) none 0) (by omega) r39
  | false =>
    have T36 := standsId_any h0
    rw [q36] at T36
    go_wp2_with fail
    go_at_call 90
    refine T36.mono ?_
    rintro e W36 ⟨rfl, b36'⟩
    have r36 := h0.bel b36'
    have b36 := KeptR.of (b := P.R) b36'
    have k36 := (KeptR.refl P.R (w.alloc zN)).trans b36
    have z36 := k36.size
    have y36 := r36.le
    cases q40 : isWd L a wNull with
    | true =>
      have T40 := standsWord_any r36 wNull
      rw [q40] at T40
      have u40 := isWd_lt q40
      go_wp2_with fail
      go_at_call 41
      refine T40.mono ?_
      rintro e W40 ⟨rfl, b40'⟩
      have r40 := r36.bel b40'
      have b40 := KeptR.of (b := P.R) b40'
      have k40 := k36.trans b40
      have z40 := k40.size
      have y40 := r40.le
      go_wp2_with fail
      go_at_call 59
      refine (pass_any r40 (by omega) (hs.at _)).mono ?_
      rintro e W41 ⟨rfl, r41, b41⟩
      have k41 := k40.trans b41
      have z41 := k41.size
      have y41 := r41.le
      go_wp2_with fail
      go_at_call 64
      refine (node_any 30 (tokA L a).t none 0 0 _).mono ?_
      rintro e W43 ⟨rfl, b43'⟩
      have r43 := r41.bel b43'
      have b43 := KeptR.of (b := P.R) b43'
      have k43 := k41.trans b43
      have z43 := k43.size
      obtain rfl : Rs.ok (mk0 30 (tokA L a).t []) (a + 1) = res := by rw [← HR.out, rtypeF]; simp [Rs.bind, mtT, q36, q40]
      have m0 := M0.out _ k43
      obtain ⟨⟨_, _, _, _⟩, _, _, _, _⟩ := t4 m0
      go_wp2
      refine bodyPost_ret (res_n4 Tryz.results139 (t4_set _ _ _ _ m0) rfl) rfl ?_
      exact close_ok (x := (mk0 30 (tokA L a).t [])) h (a0.trans k43) (LAt.nil (S := fun b => w.heap.size + 1 ≤ b) none 0) (by omega) r43
    | false =>
      have T40 := standsWord_any r36 wNull
      rw [q40] at T40
      go_wp2_with fail
      go_at_call 41
      refine T40.mono ?_
      rintro e W40 ⟨rfl, b40'⟩
      have r40 := r36.bel b40'
      have b40 := KeptR.of (b := P.R) b40'
      have k40 := k36.trans b40
      have z40 := k40.size
      have y40 := r40.le
      cases q44 : isWd L a wUndef with
      | true =>
        have T44 := standsWord_any r40 wUndef
        rw [q44] at T44
        have u44 := isWd_lt q44
        go_wp2_with fail
        go_at_call 41
        refine T44.mono ?_
        rintro e W44 ⟨rfl, b44'⟩
        have r44 := r40.bel b44'
        have b44 := KeptR.of (b := P.R) b44'
        have k44 := k40.trans b44
        have z44 := k44.size
        have y44 := r44.le
        go_wp2_with fail
        go_at_call 59
        refine (pass_any r44 (by omega) (hs.at _)).mono ?_
        rintro e W45 ⟨rfl, r45, b45⟩
        have k45 := k44.trans b45
        have z45 := k45.size
        have y45 := r45.le
        go_wp2_with fail
        go_at_call 64
        refine (node_any 30 (tokA L a).t none 0 0 _).mono ?_
        rintro e W47 ⟨rfl, b47'⟩
        have r47 := r45.bel b47'
        have b47 := KeptR.of (b := P.R) b47'
        have k47 := k45.trans b47
        have z47 := k47.size
        obtain rfl : Rs.ok (mk0 30 (tokA L a).t []) (a + 1) = res := by rw [← HR.out, rtypeF]; simp [Rs.bind, mtT, q36, q40, q44]
        have m0 := M0.out _ k47
        obtain ⟨⟨_, _, _, _⟩, _, _, _, _⟩ := t4 m0
        go_wp2
        refine bodyPost_ret (res_n4 Tryz.results139 (t4_set _ _ _ _ m0) rfl) rfl ?_
        exact close_ok (x := (mk0 30 (tokA L a).t [])) h (a0.trans k47) (LAt.nil (S := fun b => w.heap.size + 1 ≤ b) none 0) (by omega) r47
      | false =>
        have T44 := standsWord_any r40 wUndef
        rw [q44] at T44
        go_wp2_with fail
        go_at_call 41
        refine T44.mono ?_
        rintro e W44 ⟨rfl, b44'⟩
        have r44 := r40.bel b44'
        have b44 := KeptR.of (b := P.R) b44'
        have k44 := k40.trans b44
        have z44 := k44.size
        have y44 := r44.le
        cases q48 : isS L a sCb with
        | true =>
          have T48 := take_any r44 sCb
          rw [q48] at T48
          have u48 := isS_lt q48
          go_wp2_with fail
          go_at_call 62
          refine T48.mono ?_
          rintro e W48 ⟨rfl, r48', b48⟩
          have r48 : Rd W48 P L (a + 1) (opE o) := r48'
          clear r48'
          have k48 := k44.trans b48
          have z48 := k48.size
          have y48 := r48.le
          go_wp2_with fail
          go_at_call 152
          refine (HOT'.out _ _ _ _ r48 (by omega) (by unfold Ms at *; omega)).mono ?_
          rintro e W49 A49
          cases h49 : objtF L f (a + 1) o with
          | bad p er =>
            rw [h49] at A49
            obtain ⟨rfl, b49⟩ := A49
            obtain rfl : Rs.bad p er = res := by rw [← HR.out, rtypeF]; simp [Rs.bind, mtT, q36, q40, q44, q48, h49]
            exact ⟨rfl, rfl, a0.trans (k48.trans b49)⟩
          | ok x49 a49 =>
            rw [h49] at A49
            obtain ⟨ad49, c49, rfl, l49', r49, b49⟩ := A49
            have g49 := (MN.objt' (a + 1) o) _ _ h49
            have y49 := r49.le
            have k49 := k48.trans b49
            have z49 := k49.size
            have l49 := l49'.mono (T := fun b => w.heap.size + 1 ≤ b) (fun b hb => by have := k48.size; omega)
            obtain rfl : Rs.ok x49 a49 = res := by rw [← HR.out, rtypeF]; simp [Rs.bind, mtT, q36, q40, q44, q48, h49]
            have m0 := M0.out _ k49
            obtain ⟨⟨_, _, _, _⟩, _, _, _, _⟩ := t4 m0
            go_wp2
            refine bodyPost_ret (res_n4 Tryz.results139 (t4_set _ _ _ _ m0) rfl) rfl ?_
            exact close_ok (x := x49) h (a0.trans k49) (l49.keepR (KeptR.refl P.R W49) (by omega)) (by omega) r49
        | false =>
          have T48 := take_any r44 sCb
          rw [q48] at T48
          go_wp2_with fail
          go_at_call 62
          refine T48.mono ?_
          rintro e W48 ⟨rfl, r48', b48⟩
          have r48 : Rd W48 P L a (opE o) := r48'
          clear r48'
          have k48 := k44.trans b48
          have z48 := k48.size
          have y48 := r48.le
          cases q50 : isS L a sPo with
          | true =>
            have T50 := stands_any r48 sPo
            rw [q50] at T50
            have u50 := isS_lt q50
            go_wp2_with fail
            go_at_call 73
            refine T50.mono ?_
            rintro e W50 ⟨rfl, b50'⟩
            have r50 := r48.bel b50'
            have b50 := KeptR.of (b := P.R) b50'
            have k50 := k48.trans b50
            have z50 := k50.size
            have y50 := r50.le
            cases q51 : arrow L a with
            | true =>
              have T51 := beforeArrow_any r50 (by omega)
              rw [q51] at T51
              go_wp2_with fail
              go_at_call 153
              refine T51.mono ?_
              rintro e W51 ⟨rfl, b51'⟩
              have r51 := r50.bel b51'
              have b51 := KeptR.of (b := P.R) b51'
              have k51 := k50.trans b51
              have z51 := k51.size
              have y51 := r51.le
              go_wp2_with fail
              go_at_call 154
              refine (HFT'.out _ _ _ _ r51 (by omega) (by unfold Ms at *; omega)).mono ?_
              rintro e W52 A52
              cases h52 : ftypeF L f a o with
              | bad p er =>
                rw [h52] at A52
                obtain ⟨rfl, b52⟩ := A52
                obtain rfl : Rs.bad p er = res := by rw [← HR.out, rtypeF]; simp [Rs.bind, mtT, q36, q40, q44, q48, q50, q51, h52]
                exact ⟨rfl, rfl, a0.trans (k51.trans b52)⟩
              | ok x52 a52 =>
                rw [h52] at A52
                obtain ⟨ad52, c52, rfl, l52', r52, b52⟩ := A52
                have g52 := (MN.ftype' a o) _ _ h52
                have y52 := r52.le
                have k52 := k51.trans b52
                have z52 := k52.size
                have l52 := l52'.mono (T := fun b => w.heap.size + 1 ≤ b) (fun b hb => by have := k51.size; omega)
                obtain rfl : Rs.ok x52 a52 = res := by rw [← HR.out, rtypeF]; simp [Rs.bind, mtT, q36, q40, q44, q48, q50, q51, h52]
                have m0 := M0.out _ k52
                obtain ⟨⟨_, _, _, _⟩, _, _, _, _⟩ := t4 m0
                go_wp2
                refine bodyPost_ret (res_n4 Tryz.results139 (t4_set _ _ _ _ m0) rfl) rfl ?_
                exact close_ok (x := x52) h (a0.trans k52) (l52.keepR (KeptR.refl P.R W52) (by omega)) (by omega) r52
            | false =>
              have T51 := beforeArrow_any r50 (by omega)
              rw [q51] at T51
              go_wp2_with fail
              go_at_call 153
              refine T51.mono ?_
              rintro e W51 ⟨rfl, b51'⟩
              have r51 := r50.bel b51'
              have b51 := KeptR.of (b := P.R) b51'
              have k51 := k50.trans b51
              have z51 := k51.size
              have y51 := r51.le
              have T53 := take_any r51 sPo
              rw [q50] at T53
              go_wp2_with fail
              go_at_call 62
              refine T53.mono ?_
              rintro e W53 ⟨rfl, r53', b53⟩
              have r53 : Rd W53 P L (a + 1) (opE o) := r53'
              clear r53'
              have k53 := k51.trans b53
              have z53 := k53.size
              have y53 := r53.le
              go_wp2_with fail
              go_at_call 113
              refine (HT'.out _ _ _ _ r53 (by omega) (by unfold Ms at *; omega)).mono ?_
              rintro e W54 A54
              cases h54 : typeF L f (a + 1) o with
              | bad p er =>
                rw [h54] at A54
                obtain ⟨rfl, b54⟩ := A54
                obtain rfl : Rs.bad p er = res := by rw [← HR.out, rtypeF]; simp [Rs.bind, mtT, q36, q40, q44, q48, q50, q51, h54]
                exact ⟨rfl, rfl, a0.trans (k53.trans b54)⟩
              | ok x54 a54 =>
                rw [h54] at A54
                obtain ⟨ad54, c54, rfl, l54', r54, b54⟩ := A54
                have g54 := (MN.type' (a + 1) o) _ _ h54
                have y54 := r54.le
                have k54 := k53.trans b54
                have z54 := k54.size
                have l54 := l54'.mono (T := fun b => w.heap.size + 1 ≤ b) (fun b hb => by have := k53.size; omega)
                go_wp2_with fail
                go_at_call 61
                refine (want_any (r54.bel ((Below.refl _ _).alloc (Nat.le_refl _) (Obj.cells #[Value.int IntKind.i64 x54.k, Value.string x54.t, Value.int IntKind.i64 x54.n, Value.slice ad54 x54.ks.length c54] 62))) sPc).mono ?_
                rintro e W56 A56
                cases h56 : wantR L sPc a54 with
                | bad p er =>
                  rw [h56] at A56
                  obtain ⟨rfl, b56⟩ := A56
                  obtain rfl : Rs.bad p er = res := by rw [← HR.out, rtypeF]; simp [Rs.bind, mtT, q36, q40, q44, q48, q50, q51, h54, h56]
                  exact ⟨rfl, rfl, a0.trans ((k54.alloc (Obj.cells #[Value.int IntKind.i64 x54.k, Value.string x54.t, Value.int IntKind.i64 x54.n, Value.slice ad54 x54.ks.length c54] 62)).trans b56)⟩
                | ok x56 a56 =>
                  rw [h56] at A56
                  obtain ⟨rfl, r56, b56⟩ := A56
                  have g56 := (want_ge L sPc a54) _ _ h56
                  have y56 := r56.le
                  have k56 := (k54.alloc (Obj.cells #[Value.int IntKind.i64 x54.k, Value.string x54.t, Value.int IntKind.i64 x54.n, Value.slice ad54 x54.ks.length c54] 62)).trans b56
                  have z56 := k56.size
                  have v55 : W56.heap[W54.heap.size]? = some (.cells #[Value.int IntKind.i64 x54.k, Value.string x54.t, Value.int IntKind.i64 x54.n, Value.slice ad54 x54.ks.length c54] 62 (0, 0)) := (((KeptR.refl P.R (W54.alloc (Obj.cells #[Value.int IntKind.i64 x54.k, Value.string x54.t, Value.int IntKind.i64 x54.n, Value.slice ad54 x54.ks.length c54] 62))).trans b56).block (W54.heap.size) (by simp) (by have := k54.size; omega)).trans (heap_alloc_new W54 _)
                  obtain ⟨⟨_, _, _, _⟩, _, _, _, _⟩ := t4 v55
                  obtain rfl : Rs.ok x54 a56 = res := by rw [← HR.out, rtypeF]; simp [Rs.bind, mtT, q36, q40, q44, q48, q50, q51, h54, h56]
                  have m0 := M0.out _ k56
                  obtain ⟨⟨_, _, _, _⟩, _, _, _, _⟩ := t4 m0
                  go_wp2
                  refine bodyPost_ret (res_n4 Tryz.results139 (t4_set _ _ _ _ m0) rfl) rfl ?_
                  exact close_ok (x := x54) h (a0.trans k56) (l54.keepR (((KeptR.refl P.R W54).alloc (Obj.cells #[Value.int IntKind.i64 x54.k, Value.string x54.t, Value.int IntKind.i64 x54.n, Value.slice ad54 x54.ks.length c54] 62)).trans b56) (by omega)) (by omega) r56
          | false =>
            have T50 := stands_any r48 sPo
            rw [q50] at T50
            go_wp2_with fail
            go_at_call 73
            refine T50.mono ?_
            rintro e W50 ⟨rfl, b50'⟩
            have r50 := r48.bel b50'
            have b50 := KeptR.of (b := P.R) b50'
            have k50 := k48.trans b50
            have z50 := k50.size
            have y50 := r50.le
            have T57 := take_any r50 sPo
            rw [q50] at T57
            go_wp2_with fail
            go_at_call 62
            refine T57.mono ?_
            rintro e W57 ⟨rfl, r57', b57⟩
            have r57 : Rd W57 P L a (opE o) := r57'
            clear r57'
            have k57 := k50.trans b57
            have z57 := k57.size
            have y57 := r57.le
            go_wp2_with fail
            go_at_call 91
            refine (wrong_any r57).mono ?_
            rintro e W58 ⟨rfl, b58'⟩
            obtain rfl : Rs.bad a 60 = res := by rw [← HR.out, rtypeF]; simp [Rs.bind, mtT, q36, q40, q44, q48, q50]
            go_wp2
            exact ⟨rfl, rfl, a0.trans (k57.trans (.of b58'))⟩
end Go.Proofs.YtfehmdfamndcaaaGreatDoor
namespace Go.Proofs.YtfehmdfamndcaaaGreatDoor
open Go.RowKit
set_option linter.unusedVariables false
set_option linter.unusedSimpArgs false

set_option maxRecDepth 100000 in
set_option maxHeartbeats 8000000 in
theorem ptype_step (L : List Tok) (hs : Small L) (f : Nat) (MN : Mono L f) (hRt : CN 139 L f 11 (rtypeF L f)) : CN 129 L (f + 1) 12 (ptypeF L (f + 1)) := by
  intro w P a o h ho hM
  have hRw := h.lt
  have hle := h.le
  obtain ⟨h0, a0, z0, M0⟩ := begin_cell h
  obtain ⟨res, hres⟩ : ∃ r, ptypeF L (f + 1) a o = r := ⟨_, rfl⟩
  have HR : Hid (ptypeF L (f + 1) a o = res) := hres
  rw [hres]
  clear hres
  have HRT' : Hid (CN 139 L f 11 (rtypeF L f)) := hRt
  clear hRt
  go_enter Tryz.func129, Tryz.ntmps129
  go_wp2_with fail
  go_at_call 139
  refine (HRT'.out _ _ _ _ h0 (by omega) (by unfold Ms at *; omega)).mono ?_
  rintro e W1 A1
  cases h1 : rtypeF L f a o with
  | bad p er =>
    rw [h1] at A1
    obtain ⟨rfl, b1⟩ := A1
    obtain rfl : Rs.bad p er = res := by rw [← HR.out, ptypeF]; simp [Rs.bind, mtT, h1]
    exact ⟨rfl, rfl, a0.trans ((KeptR.refl P.R (w.alloc zN)).trans b1)⟩
  | ok x1 a1 =>
    rw [h1] at A1
    obtain ⟨ad1, c1, rfl, l1', r1, b1⟩ := A1
    have g1 := (MN.rtype' a o) _ _ h1
    have y1 := r1.le
    have k1 := (KeptR.refl P.R (w.alloc zN)).trans b1
    have z1 := k1.size
    have l1 := l1'.mono (T := fun b => w.heap.size + 1 ≤ b) (fun b hb => by have := (KeptR.refl P.R (w.alloc zN)).size; omega)
    go_wp2
    have HR2 : Hid (arrayG L (L.length + 1 - a1) x1 a1 = res) := by show _ = _; rw [← HR.out, ptypeF, h1]; rfl
    clear HR
    have HR := HR2
    clear HR2
    have gV : w.heap.size + 1 ≤ W1.heap.size := by have := k1.size; omega
    have k0 := (k1.alloc (Obj.cells #[Value.int IntKind.i64 x1.k, Value.string x1.t, Value.int IntKind.i64 x1.n, Value.slice ad1 x1.ks.length c1] 62))
    have r0 := (r1.bel ((Below.refl _ _).alloc (Nat.le_refl _) (Obj.cells #[Value.int IntKind.i64 x1.k, Value.string x1.t, Value.int IntKind.i64 x1.n, Value.slice ad1 x1.ks.length c1] 62)))
    have v0 := heap_alloc_new W1 (Obj.cells #[Value.int IntKind.i64 x1.k, Value.string x1.t, Value.int IntKind.i64 x1.n, Value.slice ad1 x1.ks.length c1] 62)
    have l0 := (l1'.mono' (T := fun b => w.heap.size + 1 ≤ b ∧ b ≠ W1.heap.size) (fun b hl hb => by have := a0.size; exact ⟨by omega, by omega⟩)).bel ((Below.refl _ _).alloc (Nat.le_refl _) (Obj.cells #[Value.int IntKind.i64 x1.k, Value.string x1.t, Value.int IntKind.i64 x1.n, Value.slice ad1 x1.ks.length c1] 62))
    go_loopg [6] (L.length + 1 - a1) (fun gk v6 wr => ∃ (nd : Nd) (b : Nat) (ad : Option Addr) (c : Nat), Hid (arrayG L gk nd b = res) ∧ Hid (L.length + 1 ≤ gk + b) ∧ Rd wr P L b (opE o) ∧ wr.heap[W1.heap.size]? = some (.cells #[Value.int IntKind.i64 nd.k, Value.string nd.t, Value.int IntKind.i64 nd.n, Value.slice ad nd.ks.length c] 62 (0, 0)) ∧ LAt wr (fun b => w.heap.size + 1 ≤ b ∧ b ≠ W1.heap.size) (Value.slice ad nd.ks.length c) nd.ks ∧ KeptR P.R (w.alloc zN) wr ∧ W1.heap.size < wr.heap.size)
    case atStart => exact ⟨x1, a1, ad1, c1, HR.out, by show _ ≤ _; omega, r0, v0, l0, k0, by simp⟩
    case round =>
      clear k0 r0 v0 l0 HR
      obtain ⟨nd, b, ad, c, HR, HG, r0, v0, lN, k0, hV0⟩ := hrel
      have hgk := HG.out
      have hbl := r0.le
      obtain ⟨g, rfl⟩ : ∃ g, gk = g + 1 := ⟨gk - 1, by omega⟩
      have z0k := k0.size
      cases q3 : isS L b sBo with
      | true =>
        have T3 := take_any r0 sBo
        rw [q3] at T3
        have u3 := isS_lt q3
        go_wp2_with fail
        go_at_call 62
        refine T3.mono ?_
        rintro e W3 ⟨rfl, r3', b3⟩
        have r3 : Rd W3 P L (b + 1) (opE o) := r3'
        clear r3'
        have k3 := k0.trans b3
        have z3 := k3.size
        have y3 := r3.le
        go_wp2_with fail
        go_at_call 61
        refine (want_any r3 sBc).mono ?_
        rintro e W4 A4
        cases h4 : wantR L sBc (b + 1) with
        | bad p er =>
          rw [h4] at A4
          obtain ⟨rfl, b4⟩ := A4
          obtain rfl : Rs.bad p er = res := by rw [← HR.out, arrayG]; simp [Rs.bind, mtT, q3, h4]
          exact ⟨rfl, rfl, a0.trans (k3.trans b4)⟩
        | ok x4 a4 =>
          rw [h4] at A4
          obtain ⟨rfl, r4, b4⟩ := A4
          have g4 := (want_ge L sBc (b + 1)) _ _ h4
          have y4 := r4.le
          have k4 := k3.trans b4
          have z4 := k4.size
          have vv : W4.heap[W1.heap.size]? = _ := ((((KeptR.refl P.R wr).trans b3).trans b4).block W1.heap.size hV0 (by omega)).trans v0
          obtain ⟨⟨_, _, _, _⟩, _, _, _, _⟩ := t4 vv
          go_wp2_with fail
          go_at_call 64
          refine (node_any 31 ⟨#[]⟩ (some ⟨W4.heap.size, 0, none⟩) 1 1 _).mono ?_
          rintro e W5 ⟨rfl, b5'⟩
          have j5 : W5.heap[W4.heap.size]? = some (.cells #[Value.int IntKind.i64 nd.k, Value.string nd.t, Value.int IntKind.i64 nd.n, Value.slice ad nd.ks.length c] 62 (0, 0)) := (b5'.block _ (by simp)).trans (heap_alloc_new W4 _)
          have r5 := (r4.bel ((Below.refl _ _).alloc (Nat.le_refl _) (Obj.cells #[Value.int IntKind.i64 nd.k, Value.string nd.t, Value.int IntKind.i64 nd.n, Value.slice ad nd.ks.length c] 62))).bel b5'
          have b5 : KeptR P.R W4 W5 := (KeptR.of ((Below.refl _ _).alloc (Nat.le_refl _) _)).trans (.of b5')
          have k5 := k4.trans b5
          have z5 := k5.size
          have l5 : LAt W5 (fun b => w.heap.size + 1 ≤ b ∧ b ≠ W1.heap.size) (.slice (some ⟨W4.heap.size, 0, none⟩) 1 1) [nd] := LAt.n1 j5 (by have := k4.size; have := (((KeptR.refl P.R wr).trans b3).trans b4).size; exact ⟨by omega, by omega⟩) (lN.keep ((((KeptR.refl P.R wr).trans b3).trans b4).trans b5).size (fun b hb hl => ((((KeptR.refl P.R wr).trans b3).trans b4).trans b5).block b hl (by have := hb.1; omega)))
          clear vv
          have vv : W5.heap[W1.heap.size]? = _ := (((((KeptR.refl P.R wr).trans b3).trans b4).trans b5).block W1.heap.size hV0 (by omega)).trans v0
          obtain ⟨⟨_, _, _, _⟩, _, _, _, _⟩ := t4 vv
          go_wp2
          go_roundg g
          case rel => exact ⟨(mk0 31 ⟨#[]⟩ [nd]), a4, some _, 1, by show _ = _; rw [← HR.out, arrayG]; simp [Rs.bind, mtT, q3, h4], by show _ ≤ _; omega, r5.set4 (by omega) (fun q => by have := h.x.lt q; omega) _ _ _ _, t4_set _ _ _ _ vv, ((l5.keep (KeptR.refl P.R W5).size (fun b hb hl => (KeptR.refl P.R W5).block b hl (by have := hb.1; omega)))).keep (by simp [World.setCell]) (fun b hb hl => blk_set4 hb.2 _ _ _ _), (((k5.new (by omega) _ _).new (by omega) _ _).new (by omega) _ _).new (by omega) _ _, by simp [World.setCell]; have := ((((KeptR.refl P.R wr).trans b3).trans b4).trans b5).size; omega⟩
          case measure => omega
      | false =>
        have T3 := take_any r0 sBo
        rw [q3] at T3
        go_wp2_with fail
        go_at_call 62
        refine T3.mono ?_
        rintro e W3 ⟨rfl, r3', b3⟩
        have r3 : Rd W3 P L b (opE o) := r3'
        clear r3'
        have k3 := k0.trans b3
        have z3 := k3.size
        have y3 := r3.le
        have vv : W3.heap[W1.heap.size]? = _ := (((KeptR.refl P.R wr).trans b3).block W1.heap.size hV0 (by omega)).trans v0
        obtain ⟨⟨_, _, _, _⟩, _, _, _, _⟩ := t4 vv
        obtain rfl : Rs.ok nd b = res := by rw [← HR.out, arrayG]; simp [Rs.bind, mtT, q3]
        have m0 := M0.out _ k3
        obtain ⟨⟨_, _, _, _⟩, _, _, _, _⟩ := t4 m0
        go_wp2
        refine bodyPost_ret (res_n4 Tryz.results129 (t4_set _ _ _ _ m0) rfl) rfl ?_
        exact close_ok (x := nd) h (a0.trans k3) ((lN.keep ((KeptR.refl P.R wr).trans b3).size (fun b hb hl => ((KeptR.refl P.R wr).trans b3).block b hl (by have := hb.1; omega))).mono (fun b hb => hb.1)) (by omega) r3
end Go.Proofs.YtfehmdfamndcaaaGreatDoor
namespace Go.Proofs.YtfehmdfamndcaaaGreatDoor
open Go.RowKit
set_option linter.unusedVariables false
set_option linter.unusedSimpArgs false

/-- the cells of a list of trees in memory. -/
theorem LAt.news {w : World} {S : Nat → Prop} {ad : Option Addr} {c : Nat} {ks : List Nd} (h : LAt w S (.slice ad ks.length c) ks) (h0 : 0 < ks.length) : ∃ (F : List (Nd × Value)) (a0 : Addr), ad = some a0 ∧ F.map (·.1) = ks ∧ (∀ j u, (rowN F)[j]? = some u → w.cell? (a0.add j) = some u) ∧ (∀ u ∈ rowN F, u.oneCell' = true) ∧ (∀ p ∈ F, LAt w S p.2 p.1.ks) := by
  obtain ⟨a', c', bl, o, f, e, hp, h4, hk⟩ := h.op
  obtain ⟨rfl, hS, hb⟩ := hp h0
  cases e
  have hl : (List.range ks.length).length = ks.length := by simp
  obtain ⟨F, hF⟩ : ∃ F : List (Nd × Value), F = ks.zip ((List.range ks.length).map f) := ⟨_, rfl⟩
  have hlen : F.length = ks.length := by rw [hF]; simp
  have hget : ∀ i (hi : i < F.length), F[i] = (ks[i]'(by omega), f i) := fun i hi => by subst hF; simp
  refine ⟨F, ⟨bl, o, none⟩, rfl, ?_, ?_, ?_, ?_⟩
  · rw [hF]; exact List.map_fst_zip (by simp)
  · intro j u hj
    have hjl : j < F.length * 4 := by
      have := (List.getElem?_eq_some_iff.1 hj).1
      rw [rowN_length] at this
      exact this
    have hi : j / 4 < F.length := by omega
    have hr := rowN_get F (j / 4) hi
    have h4' := h4 (j / 4) (by omega)
    rw [hget _ hi] at hr
    have ej : j = j / 4 * 4 + j % 4 := by omega
    have hm : j % 4 = 0 ∨ j % 4 = 1 ∨ j % 4 = 2 ∨ j % 4 = 3 := by omega
    obtain ⟨f0, f1, f2, f3⟩ := h4'
    rw [Addr.add_lit]
    rcases hm with e | e | e | e
    · rw [show j = j / 4 * 4 by omega, hr.1] at hj
      cases hj
      rw [show o + j = o + j / 4 * 4 by omega]
      exact f0
    · rw [show j = j / 4 * 4 + 1 by omega, hr.2.1] at hj
      cases hj
      rw [show o + j = o + j / 4 * 4 + 1 by omega]
      exact f1
    · rw [show j = j / 4 * 4 + 2 by omega, hr.2.2.1] at hj
      cases hj
      rw [show o + j = o + j / 4 * 4 + 2 by omega]
      exact f2
    · rw [show j = j / 4 * 4 + 3 by omega, hr.2.2.2] at hj
      cases hj
      rw [show o + j = o + j / 4 * 4 + 3 by omega]
      exact f3
  · intro u hu
    obtain ⟨p, hp, hu⟩ := List.mem_flatMap.1 hu
    obtain ⟨i, hi, rfl⟩ := List.mem_iff_getElem.1 hp
    rw [hget i hi] at hu
    obtain ⟨a2, c2, e2⟩ := (hk i (by omega)).sl
    rw [e2] at hu
    rcases List.mem_cons.1 hu with rfl | hu
    · rfl
    rcases List.mem_cons.1 hu with rfl | hu
    · rfl
    rcases List.mem_cons.1 hu with rfl | hu
    · rfl
    rcases List.mem_cons.1 hu with rfl | hu
    · rfl
    · cases hu
  · intro p hp
    obtain ⟨i, hi, rfl⟩ := List.mem_iff_getElem.1 hp
    rw [hget i hi]
    exact hk i (by omega)
theorem run_append_empty (w : World) (ty : TypeId) {base n : Nat} {xs : List Value} (v : Value) (hown : w.ownsRow base 62 4 v n xs) (ad : Option Addr) (c : Nat) : (Builtin.append_ #[60, 60] ty #[v, .slice ad 0 c]).run Tryz.prog w = .ok v w := by
  obtain ⟨i0, hi0, hz0, hz1, hz2⟩ := info_parts info_nd
  rcases hown.2 with ⟨rfl, rfl⟩ | ⟨g, cap, cur, rfl, _, _, hnc, _⟩
  · cases ad <;> simp [Builtin.append_, run_underlying Tryz.underlying60, sizeOf, typeInfo, hi0, hz1, Builtin.lenOf, Builtin.firstCells, loadCells, loadCellsFrom]
  · cases ad <;> simp [Builtin.append_, run_underlying Tryz.underlying60, sizeOf, typeInfo, hi0, hz1, Builtin.lenOf, Builtin.firstCells, hnc, storeCells, loadCells, loadCellsFrom]
theorem wpList_append_lat (w : World) {ops : Array Oper} {rest : List Oper} {o : Oper} {a : Act} {Q : Exit → Act → World → Prop} (hgd : o.guard = none) (s x : Operand)
    (ho : o.op = .call { callee := .builtin .append, args := #[s, x], argTypes := #[60, 60] })
    (base : Nat) (v : Value) (n : Nat) (xs : List Value) (hs : a.eval s = v) (hown : w.ownsRow base 62 4 v n xs) (S : Nat → Prop) (ad : Option Addr) (c : Nat) (ks : List Nd) (hx : a.eval x = .slice ad ks.length c) (hl : LAt w S (.slice ad ks.length c) ks)
    (hn : n + ks.length ≤ 4194304) (hbase : base ≤ w.heap.size)
    (h : ∀ (v' : Value) (w' : World) (F : List (Nd × Value)), F.map (·.1) = ks → w'.ownsRow base 62 4 v' (n + ks.length) (xs ++ rowN F) → w.grownBy w' v.ownBlock → (∀ g, v'.ownBlock = some g → v.ownBlock = some g ∨ g = w.heap.size) → (∀ p ∈ F, LAt w S p.2 p.1.ks) → wpList Tryz.prog ops Q rest (a.put o.dst v') w') : wpList Tryz.prog ops Q (o :: rest) a w := by
  obtain ⟨i0, hi0, hz0, hz1, hz2⟩ := info_parts info_nd
  by_cases h0 : 0 < ks.length
  · obtain ⟨F, a0, rfl, hF, hc, h1, hk⟩ := hl.news h0
    have hFl : F.length = ks.length := by rw [← hF]; simp
    refine wpList_append_lies w hgd s x _ ho base 62 i0 _ 4 56 Tryz.underlying60 hi0 hz0 hz1 hz2 rfl (by omega) v n xs hs hown a0 ks.length c (rowN F) hx (by rw [rowN_length, hFl]) hc h1 h0 (by unfold maxLen; omega) (by omega) hbase w.heap.size rfl ?_
    intro g cap w' h2 h3 h4 h5
    exact h _ _ F hF h2 h3 (fun g' e => by cases e; exact h4) hk
  · obtain rfl : ks = [] := List.length_eq_zero_iff.1 (by omega)
    refine wpList_plain hgd fun K hK => ?_
    have hr := fun ty => run_append_empty w ty v hown ad c
    unfold Oper.wp
    have e : (execOp a.eval o).run Tryz.prog w = .ok (.value v) w := by
      simp only [List.length_nil] at hx
      obtain ⟨dst, op, ty, pos, after, guard⟩ := o
      simp only at ho
      subst ho
      rw [BigFrame.execOp_builtin, BigFrame.builtin_append]
      have e2 : (#[s, x] : Array Operand).map a.eval = #[v, .slice ad 0 c] := by simp [hs, hx]
      rw [e2]
      simp only [Sem.run_bind, hr, Result.andThen]
      rfl
    rw [e]
    exact hK _ _ (h v w [] rfl (by simpa [rowN] using hown) ⟨rfl, rfl, rfl, Nat.le_refl _, fun _ _ _ => rfl⟩ (fun g e => .inl e) (by simp))
/-- how long a list that was read may be. -/
theorem listG_len {σ : Type} {L : List Tok} {s : ByteArray} {F : σ → Nat → Rs (Nd × σ)} (hF : ∀ st a, Ge (a + 1) (F st a)) : ∀ (n : Nat) (acc : List Nd) (st : σ) (a : Nat) (l : List Nd) (b : Nat), listG L s F n acc st a = .ok l b → l.length + a + 1 ≤ acc.length + b
  | 0, _, _, _, _, _, h => by rw [listG] at h; cases h
  | n + 1, acc, st, a, l, b, h => by
    rw [listG] at h
    split at h
    · cases h; omega
    · have hf := hF st a
      split at h
      · cases h
      · rename_i x a1 e
        have h1 := hf _ _ e
        split at h
        · have := listG_len hF n _ _ _ _ _ h; simp at this; omega
        · split at h
          · have := listG_len hF n _ _ _ _ _ h; simp at this; omega
          · cases h
theorem listE_len {L : List Tok} {s : ByteArray} {E : Nat → Rs Nd} (hE : ∀ a, Ge (a + 1) (E a)) {a : Nat} {l : List Nd} {b : Nat} (h : listE L E s a = .ok l b) : l.length + a + 1 ≤ b := by
  have := listG_len (fun (_ : Unit) a => (hE a).bind (c := a + 1) (fun u b hb => Ge.ok hb)) _ _ _ _ _ _ h
  simpa using this
end Go.Proofs.YtfehmdfamndcaaaGreatDoor
