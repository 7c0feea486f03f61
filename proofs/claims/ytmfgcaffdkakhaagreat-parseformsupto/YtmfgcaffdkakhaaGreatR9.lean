/- Own text. Package parse: the rules, one by one: a primary. -/
import Derived.Test.YtmfgcaffdkakhaaGreatR2
namespace Go.Proofs.YtmfgcaffdkakhaaGreat
open Go.RowKit
set_option linter.unusedVariables false
set_option linter.unusedSimpArgs false

set_option maxRecDepth 100000 in
set_option maxHeartbeats 8000000 in
theorem prim_step (L : List Tok) (hs : Small L) (f : Nat) (MN : Mono L f) (hWp : CN 107 L f 7 (wprimF L f)) (hSp : CN 108 L f 7 (sprimF L f)) : CN 106 L (f + 1) 8 (primF L (f + 1)) := by
  intro w P a o h ho hM
  have hRw := h.lt
  have hle := h.le
  obtain ⟨h0, a0, z0, M0⟩ := begin_cell h
  obtain ⟨res, hres⟩ : ∃ r, primF L (f + 1) a o = r := ⟨_, rfl⟩
  have HR : Hid (primF L (f + 1) a o = res) := hres
  rw [hres]
  clear hres
  have HWP' : Hid (CN 107 L f 7 (wprimF L f)) := hWp
  have HSP' : Hid (CN 108 L f 7 (sprimF L f)) := hSp
  clear hWp
  clear hSp
  go_enter Tryz.func106, Tryz.ntmps106
  have TK := token_any h0
  unfold Tok.v at TK
  have hlt : (tokA L a).k ≠ 0 → a < L.length := kind_lt
  go_wp2_with fail
  go_at_call 62
  refine TK.mono ?_
  rintro e W40 ⟨rfl, b40'⟩
  have r40 := h0.bel b40'
  have b40 := KeptR.of (b := P.R) b40'
  have k40 := (KeptR.refl P.R (w.alloc zN)).trans b40
  have z40 := k40.size
  obtain ⟨WT, hWT⟩ : ∃ W, W40.alloc (Obj.cells #[Value.int IntKind.i64 (tokA L a).k, Value.string (tokA L a).t, Value.int IntKind.i64 (tokA L a).n, Value.int IntKind.i64 (tokA L a).p] 43) = W := ⟨_, rfl⟩
  have bT : Below W40.heap.size W40 WT := by rw [← hWT]; exact (Below.refl _ _).alloc (Nat.le_refl _) _
  have mT : WT.heap[W40.heap.size]? = some (.cells #[Value.int IntKind.i64 (tokA L a).k, Value.string (tokA L a).t, Value.int IntKind.i64 (tokA L a).n, Value.int IntKind.i64 (tokA L a).p] 43 (0, 0)) := by rw [← hWT]; exact hnew _ rfl
  have rT := r40.bel bT
  have kT := k40.trans (.of bT)
  have zT := kT.size
  obtain ⟨⟨_, _, _, _⟩, _, _, _, _⟩ := t4 mT
  have sT : W40.heap.size < WT.heap.size := (Array.getElem?_eq_some_iff.1 mT).1
  by_cases e41 : (tokA L a).k = 3
  · have hla := hlt (by rw [e41]; decide)
    have f41 : ((tokA L a).k == 3) = true := by simp [e41]
    have E41 : Hid ((tokA L a).k = 3) := e41
    clear e41
    go_wp2_with fail
    go_at_call 63
    refine (pass_any rT hla (hs.at _)).mono ?_
    rintro e W42 ⟨rfl, r42, b42⟩
    have k42 := kT.trans b42
    have z42 := k42.size
    have y42 := r42.le
    have mN := (((KeptR.refl P.R WT).trans b42).block W40.heap.size (by omega) (by omega)).trans mT
    obtain ⟨⟨_, _, _, _⟩, _, _, _, _⟩ := t4 mN
    obtain rfl : Rs.ok (Nd.mk 1 mtT (tokA L a).n []) (a + 1) = res := by rw [← HR.out, primF]; simp [Rs.bind, mtT, E41.out]
    have m0 := M0.out _ k42
    obtain ⟨⟨_, _, _, _⟩, _, _, _, _⟩ := t4 m0
    go_wp2
    refine bodyPost_ret (res_n4 Tryz.results106 (t4_set _ _ _ _ m0) rfl) rfl ?_
    exact close_ok (x := (Nd.mk 1 mtT (tokA L a).n [])) h (a0.trans k42) (LAt.nil (S := fun b => w.heap.size + 1 ≤ b) none 0) (by omega) r42
  · have f41 : ((tokA L a).k == 3) = false := by simpa using e41
    have E41 : Hid (¬ (tokA L a).k = 3) := e41
    clear e41
    by_cases e43 : (tokA L a).k = 4
    · have hla := hlt (by rw [e43]; decide)
      have f43 : ((tokA L a).k == 4) = true := by simp [e43]
      have E43 : Hid ((tokA L a).k = 4) := e43
      clear e43
      go_wp2_with fail
      go_at_call 63
      refine (pass_any rT hla (hs.at _)).mono ?_
      rintro e W44 ⟨rfl, r44, b44⟩
      have k44 := kT.trans b44
      have z44 := k44.size
      have y44 := r44.le
      go_wp2_with fail
      go_at_call 35
      refine (node_any 2 (tokA L a).t none 0 0 _).mono ?_
      rintro e W46 ⟨rfl, b46'⟩
      have r46 := r44.bel b46'
      have b46 := KeptR.of (b := P.R) b46'
      have k46 := k44.trans b46
      have z46 := k46.size
      obtain rfl : Rs.ok (mk0 2 (tokA L a).t []) (a + 1) = res := by rw [← HR.out, primF]; simp [Rs.bind, mtT, E41.out, E43.out]
      have m0 := M0.out _ k46
      obtain ⟨⟨_, _, _, _⟩, _, _, _, _⟩ := t4 m0
      go_wp2
      refine bodyPost_ret (res_n4 Tryz.results106 (t4_set _ _ _ _ m0) rfl) rfl ?_
      exact close_ok (x := (mk0 2 (tokA L a).t [])) h (a0.trans k46) (LAt.nil (S := fun b => w.heap.size + 1 ≤ b) none 0) (by omega) r46
    · have f43 : ((tokA L a).k == 4) = false := by simpa using e43
      have E43 : Hid (¬ (tokA L a).k = 4) := e43
      clear e43
      by_cases e47 : (tokA L a).k = 1
      · have hla := hlt (by rw [e47]; decide)
        have f47 : ((tokA L a).k == 1) = true := by simp [e47]
        have E47 : Hid ((tokA L a).k = 1) := e47
        clear e47
        go_wp2_with fail
        go_at_call 63
        refine (pass_any rT hla (hs.at _)).mono ?_
        rintro e W48 ⟨rfl, r48, b48⟩
        have k48 := kT.trans b48
        have z48 := k48.size
        have y48 := r48.le
        go_wp2_with fail
        go_at_call 35
        refine (node_any 6 (tokA L a).t none 0 0 _).mono ?_
        rintro e W50 ⟨rfl, b50'⟩
        have r50 := r48.bel b50'
        have b50 := KeptR.of (b := P.R) b50'
        have k50 := k48.trans b50
        have z50 := k50.size
        obtain rfl : Rs.ok (mk0 6 (tokA L a).t []) (a + 1) = res := by rw [← HR.out, primF]; simp [Rs.bind, mtT, E41.out, E43.out, E47.out]
        have m0 := M0.out _ k50
        obtain ⟨⟨_, _, _, _⟩, _, _, _, _⟩ := t4 m0
        go_wp2
        refine bodyPost_ret (res_n4 Tryz.results106 (t4_set _ _ _ _ m0) rfl) rfl ?_
        exact close_ok (x := (mk0 6 (tokA L a).t [])) h (a0.trans k50) (LAt.nil (S := fun b => w.heap.size + 1 ≤ b) none 0) (by omega) r50
      · have f47 : ((tokA L a).k == 1) = false := by simpa using e47
        have E47 : Hid (¬ (tokA L a).k = 1) := e47
        clear e47
        by_cases e51 : (tokA L a).k = 2
        · have hla := hlt (by rw [e51]; decide)
          have f51 : ((tokA L a).k == 2) = true := by simp [e51]
          have E51 : Hid ((tokA L a).k = 2) := e51
          clear e51
          go_wp2_with fail
          go_at_call 107
          refine (HWP'.out _ _ _ _ rT (by omega) (by unfold Ms at *; omega)).mono ?_
          rintro e W52 A52
          cases h52 : wprimF L f a o with
          | bad p er =>
            rw [h52] at A52
            obtain ⟨rfl, b52⟩ := A52
            obtain rfl : Rs.bad p er = res := by rw [← HR.out, primF]; simp [Rs.bind, mtT, E41.out, E43.out, E47.out, E51.out, h52]
            exact ⟨rfl, rfl, a0.trans (kT.trans b52)⟩
          | ok x52 a52 =>
            rw [h52] at A52
            obtain ⟨ad52, c52, rfl, l52', r52, b52⟩ := A52
            have g52 := (MN.wprim' a o) _ _ h52
            have y52 := r52.le
            have k52 := kT.trans b52
            have z52 := k52.size
            have l52 := l52'.mono (T := fun b => w.heap.size + 1 ≤ b) (fun b hb => by have := kT.size; omega)
            obtain rfl : Rs.ok x52 a52 = res := by rw [← HR.out, primF]; simp [Rs.bind, mtT, E41.out, E43.out, E47.out, E51.out, h52]
            have m0 := M0.out _ k52
            obtain ⟨⟨_, _, _, _⟩, _, _, _, _⟩ := t4 m0
            go_wp2
            refine bodyPost_ret (res_n4 Tryz.results106 (t4_set _ _ _ _ m0) rfl) rfl ?_
            exact close_ok (x := x52) h (a0.trans k52) (l52.keepR (KeptR.refl P.R W52) (by omega)) (by omega) r52
        · have f51 : ((tokA L a).k == 2) = false := by simpa using e51
          have E51 : Hid (¬ (tokA L a).k = 2) := e51
          clear e51
          go_wp2_with fail
          go_at_call 108
          refine (HSP'.out _ _ _ _ rT (by omega) (by unfold Ms at *; omega)).mono ?_
          rintro e W53 A53
          cases h53 : sprimF L f a o with
          | bad p er =>
            rw [h53] at A53
            obtain ⟨rfl, b53⟩ := A53
            obtain rfl : Rs.bad p er = res := by rw [← HR.out, primF]; simp [Rs.bind, mtT, E41.out, E43.out, E47.out, E51.out, h53]
            exact ⟨rfl, rfl, a0.trans (kT.trans b53)⟩
          | ok x53 a53 =>
            rw [h53] at A53
            obtain ⟨ad53, c53, rfl, l53', r53, b53⟩ := A53
            have g53 := (MN.sprim' a o) _ _ h53
            have y53 := r53.le
            have k53 := kT.trans b53
            have z53 := k53.size
            have l53 := l53'.mono (T := fun b => w.heap.size + 1 ≤ b) (fun b hb => by have := kT.size; omega)
            obtain rfl : Rs.ok x53 a53 = res := by rw [← HR.out, primF]; simp [Rs.bind, mtT, E41.out, E43.out, E47.out, E51.out, h53]
            have m0 := M0.out _ k53
            obtain ⟨⟨_, _, _, _⟩, _, _, _, _⟩ := t4 m0
            go_wp2
            refine bodyPost_ret (res_n4 Tryz.results106 (t4_set _ _ _ _ m0) rfl) rfl ?_
            exact close_ok (x := x53) h (a0.trans k53) (l53.keepR (KeptR.refl P.R W53) (by omega)) (by omega) r53
end Go.Proofs.YtmfgcaffdkakhaaGreat
