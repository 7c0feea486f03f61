/- Own text. Package parse: the rules, one by one: what types begin with. -/
import Derived.Test.YtmfgcaffdkakhaaGreatR2
namespace Go.Proofs.YtmfgcaffdkakhaaGreat
open Go.RowKit
set_option linter.unusedVariables false
set_option linter.unusedSimpArgs false

set_option maxRecDepth 100000 in
set_option maxHeartbeats 8000000 in
theorem rtype_step (L : List Tok) (hs : Small L) (f : Nat) (MN : Mono L f) (hOt : CN 89 L f 9 (objtF L f)) (hFt : CN 91 L f 10 (ftypeF L f)) (hT : CN 13 L f 20 (typeF L f)) : CN 65 L (f + 1) 11 (rtypeF L (f + 1)) := by
  intro w P a o h ho hM
  have hRw := h.lt
  have hle := h.le
  obtain ⟨h0, a0, z0, M0⟩ := begin_cell h
  obtain ⟨res, hres⟩ : ∃ r, rtypeF L (f + 1) a o = r := ⟨_, rfl⟩
  have HR : Hid (rtypeF L (f + 1) a o = res) := hres
  rw [hres]
  clear hres
  have HOT' : Hid (CN 89 L f 9 (objtF L f)) := hOt
  have HFT' : Hid (CN 91 L f 10 (ftypeF L f)) := hFt
  have HT' : Hid (CN 13 L f 20 (typeF L f)) := hT
  clear hOt
  clear hFt
  clear hT
  go_enter Tryz.func65, Tryz.ntmps65
  cases q36 : isN L a with
  | true =>
    have T36 := standsId_any h0
    rw [q36] at T36
    have u36 := isN_lt q36
    go_wp2_with fail
    go_at_call 87
    refine T36.mono ?_
    rintro e W36 ⟨rfl, b36'⟩
    have r36 := h0.bel b36'
    have b36 := KeptR.of (b := P.R) b36'
    have k36 := (KeptR.refl P.R (w.alloc zN)).trans b36
    have z36 := k36.size
    have y36 := r36.le
    go_wp2_with fail
    go_at_call 63
    refine (pass_any r36 (by omega) (hs.at _)).mono ?_
    rintro e W37 ⟨rfl, r37, b37⟩
    have k37 := k36.trans b37
    have z37 := k37.size
    have y37 := r37.le
    go_wp2_with fail
    go_at_call 35
    refine (node_any 30 (tokA L a).t none 0 0 _).mono ?_
    rintro e W39 ⟨rfl, b39'⟩
    have r39 := r37.bel b39'
    have b39 := KeptR.of (b := P.R) b39'
    have k39 := k37.trans b39
    have z39 := k39.size
    obtain rfl : Rs.ok (mk0 30 (tokA L a).t []) (a + 1) = res := by rw [← HR.out, rtypeF]; simp [Rs.bind, mtT, q36]
    have m0 := M0.out _ k39
    obtain ⟨⟨_, _, _, _⟩, _, _, _, _⟩ := t4 m0
    go_wp2
    refine bodyPost_ret (res_n4 Tryz.results65 (t4_set _ _ _ _ m0) rfl) rfl ?_
    exact close_ok (x := (mk0 30 (tokA L a).t [])) h (a0.trans k39) (LAt.nil (S := fun b => w.heap.size + 1 ≤ b) none 0) (by omega) r39
  | false =>
    have T36 := standsId_any h0
    rw [q36] at T36
    go_wp2_with fail
    go_at_call 87
    refine T36.mono ?_
    rintro e W36 ⟨rfl, b36'⟩
    have r36 := h0.bel b36'
    have b36 := KeptR.of (b := P.R) b36'
    have k36 := (KeptR.refl P.R (w.alloc zN)).trans b36
    have z36 := k36.size
    have y36 := r36.le
    cases q40 : isWd L a wNull with
    | true =>
      have T40 := standsWord_any r36 wNull
      rw [q40] at T40
      have u40 := isWd_lt q40
      go_wp2_with fail
      go_at_call 88
      refine T40.mono ?_
      rintro e W40 ⟨rfl, b40'⟩
      have r40 := r36.bel b40'
      have b40 := KeptR.of (b := P.R) b40'
      have k40 := k36.trans b40
      have z40 := k40.size
      have y40 := r40.le
      go_wp2_with fail
      go_at_call 63
      refine (pass_any r40 (by omega) (hs.at _)).mono ?_
      rintro e W41 ⟨rfl, r41, b41⟩
      have k41 := k40.trans b41
      have z41 := k41.size
      have y41 := r41.le
      go_wp2_with fail
      go_at_call 35
      refine (node_any 30 (tokA L a).t none 0 0 _).mono ?_
      rintro e W43 ⟨rfl, b43'⟩
      have r43 := r41.bel b43'
      have b43 := KeptR.of (b := P.R) b43'
      have k43 := k41.trans b43
      have z43 := k43.size
      obtain rfl : Rs.ok (mk0 30 (tokA L a).t []) (a + 1) = res := by rw [← HR.out, rtypeF]; simp [Rs.bind, mtT, q36, q40]
      have m0 := M0.out _ k43
      obtain ⟨⟨_, _, _, _⟩, _, _, _, _⟩ := t4 m0
      go_wp2
      refine bodyPost_ret (res_n4 Tryz.results65 (t4_set _ _ _ _ m0) rfl) rfl ?_
      exact close_ok (x := (mk0 30 (tokA L a).t [])) h (a0.trans k43) (LAt.nil (S := fun b => w.heap.size + 1 ≤ b) none 0) (by omega) r43
    | false =>
      have T40 := standsWord_any r36 wNull
      rw [q40] at T40
      go_wp2_with fail
      go_at_call 88
      refine T40.mono ?_
      rintro e W40 ⟨rfl, b40'⟩
      have r40 := r36.bel b40'
      have b40 := KeptR.of (b := P.R) b40'
      have k40 := k36.trans b40
      have z40 := k40.size
      have y40 := r40.le
      cases q44 : isWd L a wUndef with
      | true =>
        have T44 := standsWord_any r40 wUndef
        rw [q44] at T44
        have u44 := isWd_lt q44
        go_wp2_with fail
        go_at_call 88
        refine T44.mono ?_
        rintro e W44 ⟨rfl, b44'⟩
        have r44 := r40.bel b44'
        have b44 := KeptR.of (b := P.R) b44'
        have k44 := k40.trans b44
        have z44 := k44.size
        have y44 := r44.le
        go_wp2_with fail
        go_at_call 63
        refine (pass_any r44 (by omega) (hs.at _)).mono ?_
        rintro e W45 ⟨rfl, r45, b45⟩
        have k45 := k44.trans b45
        have z45 := k45.size
        have y45 := r45.le
        go_wp2_with fail
        go_at_call 35
        refine (node_any 30 (tokA L a).t none 0 0 _).mono ?_
        rintro e W47 ⟨rfl, b47'⟩
        have r47 := r45.bel b47'
        have b47 := KeptR.of (b := P.R) b47'
        have k47 := k45.trans b47
        have z47 := k47.size
        obtain rfl : Rs.ok (mk0 30 (tokA L a).t []) (a + 1) = res := by rw [← HR.out, rtypeF]; simp [Rs.bind, mtT, q36, q40, q44]
        have m0 := M0.out _ k47
        obtain ⟨⟨_, _, _, _⟩, _, _, _, _⟩ := t4 m0
        go_wp2
        refine bodyPost_ret (res_n4 Tryz.results65 (t4_set _ _ _ _ m0) rfl) rfl ?_
        exact close_ok (x := (mk0 30 (tokA L a).t [])) h (a0.trans k47) (LAt.nil (S := fun b => w.heap.size + 1 ≤ b) none 0) (by omega) r47
      | false =>
        have T44 := standsWord_any r40 wUndef
        rw [q44] at T44
        go_wp2_with fail
        go_at_call 88
        refine T44.mono ?_
        rintro e W44 ⟨rfl, b44'⟩
        have r44 := r40.bel b44'
        have b44 := KeptR.of (b := P.R) b44'
        have k44 := k40.trans b44
        have z44 := k44.size
        have y44 := r44.le
        cases q48 : isS L a sCb with
        | true =>
          have T48 := take_any r44 sCb
          rw [q48] at T48
          have u48 := isS_lt q48
          go_wp2_with fail
          go_at_call 33
          refine T48.mono ?_
          rintro e W48 ⟨rfl, r48', b48⟩
          have r48 : Rd W48 P L (a + 1) (opE o) := r48'
          clear r48'
          have k48 := k44.trans b48
          have z48 := k48.size
          have y48 := r48.le
          go_wp2_with fail
          go_at_call 89
          refine (HOT'.out _ _ _ _ r48 (by omega) (by unfold Ms at *; omega)).mono ?_
          rintro e W49 A49
          cases h49 : objtF L f (a + 1) o with
          | bad p er =>
            rw [h49] at A49
            obtain ⟨rfl, b49⟩ := A49
            obtain rfl : Rs.bad p er = res := by rw [← HR.out, rtypeF]; simp [Rs.bind, mtT, q36, q40, q44, q48, h49]
            exact ⟨rfl, rfl, a0.trans (k48.trans b49)⟩
          | ok x49 a49 =>
            rw [h49] at A49
            obtain ⟨ad49, c49, rfl, l49', r49, b49⟩ := A49
            have g49 := (MN.objt' (a + 1) o) _ _ h49
            have y49 := r49.le
            have k49 := k48.trans b49
            have z49 := k49.size
            have l49 := l49'.mono (T := fun b => w.heap.size + 1 ≤ b) (fun b hb => by have := k48.size; omega)
            obtain rfl : Rs.ok x49 a49 = res := by rw [← HR.out, rtypeF]; simp [Rs.bind, mtT, q36, q40, q44, q48, h49]
            have m0 := M0.out _ k49
            obtain ⟨⟨_, _, _, _⟩, _, _, _, _⟩ := t4 m0
            go_wp2
            refine bodyPost_ret (res_n4 Tryz.results65 (t4_set _ _ _ _ m0) rfl) rfl ?_
            exact close_ok (x := x49) h (a0.trans k49) (l49.keepR (KeptR.refl P.R W49) (by omega)) (by omega) r49
        | false =>
          have T48 := take_any r44 sCb
          rw [q48] at T48
          go_wp2_with fail
          go_at_call 33
          refine T48.mono ?_
          rintro e W48 ⟨rfl, r48', b48⟩
          have r48 : Rd W48 P L a (opE o) := r48'
          clear r48'
          have k48 := k44.trans b48
          have z48 := k48.size
          have y48 := r48.le
          cases q50 : isS L a sPo with
          | true =>
            have T50 := stands_any r48 sPo
            rw [q50] at T50
            have u50 := isS_lt q50
            go_wp2_with fail
            go_at_call 30
            refine T50.mono ?_
            rintro e W50 ⟨rfl, b50'⟩
            have r50 := r48.bel b50'
            have b50 := KeptR.of (b := P.R) b50'
            have k50 := k48.trans b50
            have z50 := k50.size
            have y50 := r50.le
            cases q51 : arrow L a with
            | true =>
              have T51 := beforeArrow_any r50 (by omega)
              rw [q51] at T51
              go_wp2_with fail
              go_at_call 90
              refine T51.mono ?_
              rintro e W51 ⟨rfl, b51'⟩
              have r51 := r50.bel b51'
              have b51 := KeptR.of (b := P.R) b51'
              have k51 := k50.trans b51
              have z51 := k51.size
              have y51 := r51.le
              go_wp2_with fail
              go_at_call 91
              refine (HFT'.out _ _ _ _ r51 (by omega) (by unfold Ms at *; omega)).mono ?_
              rintro e W52 A52
              cases h52 : ftypeF L f a o with
              | bad p er =>
                rw [h52] at A52
                obtain ⟨rfl, b52⟩ := A52
                obtain rfl : Rs.bad p er = res := by rw [← HR.out, rtypeF]; simp [Rs.bind, mtT, q36, q40, q44, q48, q50, q51, h52]
                exact ⟨rfl, rfl, a0.trans (k51.trans b52)⟩
              | ok x52 a52 =>
                rw [h52] at A52
                obtain ⟨ad52, c52, rfl, l52', r52, b52⟩ := A52
                have g52 := (MN.ftype' a o) _ _ h52
                have y52 := r52.le
                have k52 := k51.trans b52
                have z52 := k52.size
                have l52 := l52'.mono (T := fun b => w.heap.size + 1 ≤ b) (fun b hb => by have := k51.size; omega)
                obtain rfl : Rs.ok x52 a52 = res := by rw [← HR.out, rtypeF]; simp [Rs.bind, mtT, q36, q40, q44, q48, q50, q51, h52]
                have m0 := M0.out _ k52
                obtain ⟨⟨_, _, _, _⟩, _, _, _, _⟩ := t4 m0
                go_wp2
                refine bodyPost_ret (res_n4 Tryz.results65 (t4_set _ _ _ _ m0) rfl) rfl ?_
                exact close_ok (x := x52) h (a0.trans k52) (l52.keepR (KeptR.refl P.R W52) (by omega)) (by omega) r52
            | false =>
              have T51 := beforeArrow_any r50 (by omega)
              rw [q51] at T51
              go_wp2_with fail
              go_at_call 90
              refine T51.mono ?_
              rintro e W51 ⟨rfl, b51'⟩
              have r51 := r50.bel b51'
              have b51 := KeptR.of (b := P.R) b51'
              have k51 := k50.trans b51
              have z51 := k51.size
              have y51 := r51.le
              have T53 := take_any r51 sPo
              rw [q50] at T53
              go_wp2_with fail
              go_at_call 33
              refine T53.mono ?_
              rintro e W53 ⟨rfl, r53', b53⟩
              have r53 : Rd W53 P L (a + 1) (opE o) := r53'
              clear r53'
              have k53 := k51.trans b53
              have z53 := k53.size
              have y53 := r53.le
              go_wp2_with fail
              go_at_call 13
              refine (HT'.out _ _ _ _ r53 (by omega) (by unfold Ms at *; omega)).mono ?_
              rintro e W54 A54
              cases h54 : typeF L f (a + 1) o with
              | bad p er =>
                rw [h54] at A54
                obtain ⟨rfl, b54⟩ := A54
                obtain rfl : Rs.bad p er = res := by rw [← HR.out, rtypeF]; simp [Rs.bind, mtT, q36, q40, q44, q48, q50, q51, h54]
                exact ⟨rfl, rfl, a0.trans (k53.trans b54)⟩
              | ok x54 a54 =>
                rw [h54] at A54
                obtain ⟨ad54, c54, rfl, l54', r54, b54⟩ := A54
                have g54 := (MN.type' (a + 1) o) _ _ h54
                have y54 := r54.le
                have k54 := k53.trans b54
                have z54 := k54.size
                have l54 := l54'.mono (T := fun b => w.heap.size + 1 ≤ b) (fun b hb => by have := k53.size; omega)
                go_wp2_with fail
                go_at_call 60
                refine (want_any (r54.bel ((Below.refl _ _).alloc (Nat.le_refl _) (Obj.cells #[Value.int IntKind.i64 x54.k, Value.string x54.t, Value.int IntKind.i64 x54.n, Value.slice ad54 x54.ks.length c54] 27))) sPc).mono ?_
                rintro e W56 A56
                cases h56 : wantR L sPc a54 with
                | bad p er =>
                  rw [h56] at A56
                  obtain ⟨rfl, b56⟩ := A56
                  obtain rfl : Rs.bad p er = res := by rw [← HR.out, rtypeF]; simp [Rs.bind, mtT, q36, q40, q44, q48, q50, q51, h54, h56]
                  exact ⟨rfl, rfl, a0.trans ((k54.alloc (Obj.cells #[Value.int IntKind.i64 x54.k, Value.string x54.t, Value.int IntKind.i64 x54.n, Value.slice ad54 x54.ks.length c54] 27)).trans b56)⟩
                | ok x56 a56 =>
                  rw [h56] at A56
                  obtain ⟨rfl, r56, b56⟩ := A56
                  have g56 := (want_ge L sPc a54) _ _ h56
                  have y56 := r56.le
                  have k56 := (k54.alloc (Obj.cells #[Value.int IntKind.i64 x54.k, Value.string x54.t, Value.int IntKind.i64 x54.n, Value.slice ad54 x54.ks.length c54] 27)).trans b56
                  have z56 := k56.size
                  have v55 : W56.heap[W54.heap.size]? = some (.cells #[Value.int IntKind.i64 x54.k, Value.string x54.t, Value.int IntKind.i64 x54.n, Value.slice ad54 x54.ks.length c54] 27 (0, 0)) := (((KeptR.refl P.R (W54.alloc (Obj.cells #[Value.int IntKind.i64 x54.k, Value.string x54.t, Value.int IntKind.i64 x54.n, Value.slice ad54 x54.ks.length c54] 27))).trans b56).block (W54.heap.size) (by simp) (by have := k54.size; omega)).trans (heap_alloc_new W54 _)
                  obtain ⟨⟨_, _, _, _⟩, _, _, _, _⟩ := t4 v55
                  obtain rfl : Rs.ok x54 a56 = res := by rw [← HR.out, rtypeF]; simp [Rs.bind, mtT, q36, q40, q44, q48, q50, q51, h54, h56]
                  have m0 := M0.out _ k56
                  obtain ⟨⟨_, _, _, _⟩, _, _, _, _⟩ := t4 m0
                  go_wp2
                  refine bodyPost_ret (res_n4 Tryz.results65 (t4_set _ _ _ _ m0) rfl) rfl ?_
                  exact close_ok (x := x54) h (a0.trans k56) (l54.keepR (((KeptR.refl P.R W54).alloc (Obj.cells #[Value.int IntKind.i64 x54.k, Value.string x54.t, Value.int IntKind.i64 x54.n, Value.slice ad54 x54.ks.length c54] 27)).trans b56) (by omega)) (by omega) r56
          | false =>
            have T50 := stands_any r48 sPo
            rw [q50] at T50
            go_wp2_with fail
            go_at_call 30
            refine T50.mono ?_
            rintro e W50 ⟨rfl, b50'⟩
            have r50 := r48.bel b50'
            have b50 := KeptR.of (b := P.R) b50'
            have k50 := k48.trans b50
            have z50 := k50.size
            have y50 := r50.le
            have T57 := take_any r50 sPo
            rw [q50] at T57
            go_wp2_with fail
            go_at_call 33
            refine T57.mono ?_
            rintro e W57 ⟨rfl, r57', b57⟩
            have r57 : Rd W57 P L a (opE o) := r57'
            clear r57'
            have k57 := k50.trans b57
            have z57 := k57.size
            have y57 := r57.le
            go_wp2_with fail
            go_at_call 58
            refine (wrong_any r57).mono ?_
            rintro e W58 ⟨rfl, b58'⟩
            obtain rfl : Rs.bad a 60 = res := by rw [← HR.out, rtypeF]; simp [Rs.bind, mtT, q36, q40, q44, q48, q50]
            go_wp2
            exact ⟨rfl, rfl, a0.trans (k57.trans (.of b58'))⟩
end Go.Proofs.YtmfgcaffdkakhaaGreat
