/- Own text. Package parse: the rules, one by one: operators of two. -/
import Derived.Test.YtmfgcaffdkakhaaGreatR12
namespace Go.Proofs.YtmfgcaffdkakhaaGreat
open Go.RowKit
set_option linter.unusedVariables false
set_option linter.unusedSimpArgs false

theorem lineI_le (x : Tok) : lineI x ≤ 6 := by
  unfold lineI
  repeat' split
  all_goals omega
set_option maxRecDepth 100000 in
set_option maxHeartbeats 8000000 in
theorem bin_step (L : List Tok) (hs : Small L) (f : Nat) (MN : Mono L f) (hU : CN 83 L f 10 (unaryF L f)) (hBn : CBn L f) : CBn L (f + 1) := by
  intro w P a o m h ho hm1 hm7 hM
  have hRw := h.lt
  have hle := h.le
  obtain ⟨h0, a0, z0, M0⟩ := begin_cell h
  obtain ⟨res, hres⟩ : ∃ r, binF L (f + 1) m a o = r := ⟨_, rfl⟩
  have HR : Hid (binF L (f + 1) m a o = res) := hres
  rw [hres]
  clear hres
  have HU' : Hid (CN 83 L f 10 (unaryF L f)) := hU
  have HBN' : Hid (CBn L f) := hBn
  clear hU
  clear hBn
  go_enter Tryz.func59, Tryz.ntmps59
  go_wp2_with fail
  go_at_call 83
  refine (HU'.out _ _ _ _ h0 (by omega) (by unfold Ms at *; omega)).mono ?_
  rintro e W1 A1
  cases h1 : unaryF L f a o with
  | bad p er =>
    rw [h1] at A1
    obtain ⟨rfl, b1⟩ := A1
    obtain rfl : Rs.bad p er = res := by rw [← HR.out, binF]; simp [Rs.bind, mtT, h1]
    exact ⟨rfl, rfl, a0.trans ((KeptR.refl P.R (w.alloc zN)).trans b1)⟩
  | ok x1 a1 =>
    rw [h1] at A1
    obtain ⟨ad1, c1, rfl, l1', r1, b1⟩ := A1
    have g1 := (MN.unary' a o) _ _ h1
    have y1 := r1.le
    have k1 := (KeptR.refl P.R (w.alloc zN)).trans b1
    have z1 := k1.size
    have l1 := l1'.mono (T := fun b => w.heap.size + 1 ≤ b) (fun b hb => by have := (KeptR.refl P.R (w.alloc zN)).size; omega)
    go_wp2
    have HR2 : Hid (binG L (fun m' a' => binF L f m' a' o) m (L.length + 1 - a1) x1 a1 = res) := by show _ = _; rw [← HR.out, binF, h1]; rfl
    clear HR
    have HR := HR2
    clear HR2
    have gV : w.heap.size + 1 ≤ W1.heap.size := by have := k1.size; omega
    have k0 := (k1.alloc (Obj.cells #[Value.int IntKind.i64 x1.k, Value.string x1.t, Value.int IntKind.i64 x1.n, Value.slice ad1 x1.ks.length c1] 27))
    have r0 := (r1.bel ((Below.refl _ _).alloc (Nat.le_refl _) (Obj.cells #[Value.int IntKind.i64 x1.k, Value.string x1.t, Value.int IntKind.i64 x1.n, Value.slice ad1 x1.ks.length c1] 27)))
    have v0 := heap_alloc_new W1 (Obj.cells #[Value.int IntKind.i64 x1.k, Value.string x1.t, Value.int IntKind.i64 x1.n, Value.slice ad1 x1.ks.length c1] 27)
    have l0 := (l1'.mono' (T := fun b => w.heap.size + 1 ≤ b ∧ b ≠ W1.heap.size) (fun b hl hb => by have := a0.size; exact ⟨by omega, by omega⟩)).bel ((Below.refl _ _).alloc (Nat.le_refl _) (Obj.cells #[Value.int IntKind.i64 x1.k, Value.string x1.t, Value.int IntKind.i64 x1.n, Value.slice ad1 x1.ks.length c1] 27))
    go_loopg [6] (L.length + 1 - a1) (fun gk v6 wr => ∃ (nd : Nd) (b : Nat) (ad : Option Addr) (c : Nat), Hid (binG L (fun m' a' => binF L f m' a' o) m gk nd b = res) ∧ Hid (L.length + 1 ≤ gk + b) ∧ Rd wr P L b (opE o) ∧ wr.heap[W1.heap.size]? = some (.cells #[Value.int IntKind.i64 nd.k, Value.string nd.t, Value.int IntKind.i64 nd.n, Value.slice ad nd.ks.length c] 27 (0, 0)) ∧ LAt wr (fun b => w.heap.size + 1 ≤ b ∧ b ≠ W1.heap.size) (Value.slice ad nd.ks.length c) nd.ks ∧ KeptR P.R (w.alloc zN) wr ∧ W1.heap.size < wr.heap.size ∧ a1 ≤ b)
    case atStart => exact ⟨x1, a1, ad1, c1, HR.out, by show _ ≤ _; omega, r0, v0, l0, k0, by simp, Nat.le_refl _⟩
    case round =>
      clear k0 r0 v0 l0 HR
      obtain ⟨nd, b, ad, c, HR, HG, r0, v0, lN, k0, hV0, hab⟩ := hrel
      have hgk := HG.out
      have hbl := r0.le
      obtain ⟨g, rfl⟩ : ∃ g, gk = g + 1 := ⟨gk - 1, by omega⟩
      have z0k := k0.size
      have TK := token_any r0
      have CLn := fun W => lineOf_any (tokA L b) W
      have hLn : lineI (tokA L b) ≤ 6 := lineI_le _
      have hLz : lineI (tokA L b) ≠ 0 → b < L.length := fun q => kind_lt (fun e => q (by unfold lineI; rw [if_neg (by omega)]))
      have HLn : Hid (lineI (tokA L b) = lineI (tokA L b)) := rfl
      go_wp2_with fail
      go_at_call 62
      refine TK.mono ?_
      rintro e W3 ⟨rfl, b3'⟩
      have r3 := r0.bel b3'
      have b3 := KeptR.of (b := P.R) b3'
      have k3 := k0.trans b3
      have z3 := k3.size
      go_wp2_with fail
      go_at_call 84
      refine (CLn _).mono ?_
      rintro e W4 ⟨rfl, b4'⟩
      have r4 := r3.bel b4'
      have b4 := KeptR.of (b := P.R) b4'
      have k4 := k3.trans b4
      have z4 := k4.size
      by_cases hl : lineI (tokA L b) < m
      · have hl2 : (lineI (tokA L b) : Int) < (m : Int) := by omega
        have vv : W4.heap[W1.heap.size]? = _ := ((((KeptR.refl P.R wr).trans b3).trans b4).block W1.heap.size hV0 (by omega)).trans v0
        obtain ⟨⟨_, _, _, _⟩, _, _, _, _⟩ := t4 vv
        obtain rfl : Rs.ok nd b = res := by rw [← HR.out, binG]; simp [Rs.bind, mtT, hl]
        have m0 := M0.out _ k4
        obtain ⟨⟨_, _, _, _⟩, _, _, _, _⟩ := t4 m0
        go_wp2
        refine bodyPost_ret (res_n4 Tryz.results59 (t4_set _ _ _ _ m0) rfl) rfl ?_
        exact close_ok (x := nd) h (a0.trans k4) ((lN.keep (((KeptR.refl P.R wr).trans b3).trans b4).size (fun b hb hl => (((KeptR.refl P.R wr).trans b3).trans b4).block b hl (by have := hb.1; omega))).mono (fun b hb => hb.1)) (by omega) r4
      · have hl2 : ¬ (lineI (tokA L b) : Int) < (m : Int) := by omega
        have hlb := hLz (by omega)
        have hw : IntKind.i64.wrap ((lineI (tokA L b) : Int) + 1) = ((lineI (tokA L b) + 1 : Nat) : Int) := by rw [IntKind.wrap_i64]; omega
        clear TK CLn
        go_wp2_with fail
        go_at_call 63
        refine (pass_any r4 hlb (hs.at _)).mono ?_
        rintro e W5 ⟨rfl, r5, b5⟩
        have k5 := k4.trans b5
        have z5 := k5.size
        have y5 := r5.le
        go_wp2_with fail
        refine wp_region_any (by kernel_rfl) ?_
        change wpAny _ _ _ _ _ _ _ (World.drew _)
        refine wpAny_take (i := 0) (v := (.string (tokA L b).t)) rfl (by kernel_rfl) (by kernel_rfl) (by kernel_rfl) (fun _ _ _ h => h) (Or.inl ⟨by rfl, fun w => by go_simp⟩) ?_
        refine wpAny_take (i := 2) (v := (.pointer (some ⟨P.R, 0, none⟩))) rfl (by kernel_rfl) (by kernel_rfl) (by kernel_rfl) (fun _ _ _ h => h) (Or.inl ⟨by rfl, fun w => by go_simp⟩) ?_
        refine wpAny_take (i := 3) (v := (.int .i64 (lineI (tokA L b) : Int))) rfl (by kernel_rfl) (by kernel_rfl) (by kernel_rfl) (fun _ _ _ h => h) (Or.inl ⟨by rfl, fun w => by go_simp⟩) ?_
        have vv : W5.drew.heap[W1.heap.size]? = _ := ((((((KeptR.refl P.R wr).trans b3).trans b4).trans b5).trans (.of ((Below.refl _ _).drew))).block W1.heap.size hV0 (by omega)).trans v0
        obtain ⟨⟨_, _, _, _⟩, _, _, _, _⟩ := t4 vv
        refine wpAny_ready (rs := [1, 4]) (by kernel_rfl) (by simp) ?_
        refine AllReady.cons rfl (fun K hK => ?_) (AllReady.cons rfl (fun K hK => ?_) AllReady.nil)
        · go_simp
          refine hK _ _ ?_
          clear hK K
          refine wpAny_chain [_, _, _, _, _] [4, 5, 6, 7, 8] _ _ _ _ (by kernel_rfl) rfl (by decide) ?_
          go_wp2_with fail
          go_at_call 59
          refine (HBN'.out _ _ _ _ (lineI (tokA L b) + 1) (r5.bel ((Below.refl _ _).drew)) (by omega) (by omega) (by omega) (by unfold Ms at *; omega)).mono ?_
          rintro e W6 A6
          cases h6 : binF L f (lineI (tokA L b) + 1) (b + 1) o with
          | bad p er =>
            rw [h6] at A6
            obtain ⟨rfl, b6⟩ := A6
            obtain rfl : Rs.bad p er = res := by rw [← HR.out, binG]; simp [Rs.bind, mtT, hl, h6]
            exact ⟨rfl, rfl, a0.trans ((k5.trans (.of ((Below.refl _ _).drew))).trans b6)⟩
          | ok x6 a6 =>
            rw [h6] at A6
            obtain ⟨ad6, c6, rfl, l6', r6, b6⟩ := A6
            have g6 := (MN.bin' (lineI (tokA L b) + 1) (b + 1) o) _ _ h6
            have y6 := r6.le
            have k6 := (k5.trans (.of ((Below.refl _ _).drew))).trans b6
            have z6 := k6.size
            have l6 := l6'.mono (T := fun b => w.heap.size + 1 ≤ b ∧ b ≠ W1.heap.size) (fun b hb => by have := (k5.trans (.of ((Below.refl _ _).drew))).size; have := (((((KeptR.refl P.R wr).trans b3).trans b4).trans b5).trans (.of ((Below.refl _ _).drew))).size; exact ⟨by omega, by omega⟩)
            clear vv
            have vv : W6.heap[W1.heap.size]? = _ := (((((((KeptR.refl P.R wr).trans b3).trans b4).trans b5).trans (.of ((Below.refl _ _).drew))).trans b6).block W1.heap.size hV0 (by omega)).trans v0
            obtain ⟨⟨_, _, _, _⟩, _, _, _, _⟩ := t4 vv
            go_wp2_with fail
            go_at_call 35
            refine (node_any 16 (tokA L b).t (some ⟨W6.heap.size, 0, none⟩) 2 2 _).mono ?_
            rintro e W7 ⟨rfl, b7'⟩
            have j7 : W7.heap[W6.heap.size]? = some (.cells #[Value.int IntKind.i64 nd.k, Value.string nd.t, Value.int IntKind.i64 nd.n, Value.slice ad nd.ks.length c, Value.int IntKind.i64 x6.k, Value.string x6.t, Value.int IntKind.i64 x6.n, Value.slice ad6 x6.ks.length c6] 27 (0, 0)) := (b7'.block _ (by simp)).trans (heap_alloc_new W6 _)
            have r7 := (r6.bel ((Below.refl _ _).alloc (Nat.le_refl _) (Obj.cells #[Value.int IntKind.i64 nd.k, Value.string nd.t, Value.int IntKind.i64 nd.n, Value.slice ad nd.ks.length c, Value.int IntKind.i64 x6.k, Value.string x6.t, Value.int IntKind.i64 x6.n, Value.slice ad6 x6.ks.length c6] 27))).bel b7'
            have b7 : KeptR P.R W6 W7 := (KeptR.of ((Below.refl _ _).alloc (Nat.le_refl _) _)).trans (.of b7')
            have k7 := k6.trans b7
            have z7 := k7.size
            have l7 : LAt W7 (fun b => w.heap.size + 1 ≤ b ∧ b ≠ W1.heap.size) (.slice (some ⟨W6.heap.size, 0, none⟩) 2 2) [nd, x6] := LAt.n2 j7 (by have := k6.size; have := ((((((KeptR.refl P.R wr).trans b3).trans b4).trans b5).trans (.of ((Below.refl _ _).drew))).trans b6).size; exact ⟨by omega, by omega⟩) (lN.keep (((((((KeptR.refl P.R wr).trans b3).trans b4).trans b5).trans (.of ((Below.refl _ _).drew))).trans b6).trans b7).size (fun b hb hl => (((((((KeptR.refl P.R wr).trans b3).trans b4).trans b5).trans (.of ((Below.refl _ _).drew))).trans b6).trans b7).block b hl (by have := hb.1; omega))) (l6.keep ((KeptR.refl P.R W6).trans b7).size (fun b hb hl => ((KeptR.refl P.R W6).trans b7).block b hl (by have := hb.1; omega)))
            clear vv
            have vv : W7.heap[W1.heap.size]? = _ := ((((((((KeptR.refl P.R wr).trans b3).trans b4).trans b5).trans (.of ((Below.refl _ _).drew))).trans b6).trans b7).block W1.heap.size hV0 (by omega)).trans v0
            obtain ⟨⟨_, _, _, _⟩, _, _, _, _⟩ := t4 vv
            go_wp2
            go_roundg g
            case rel => exact ⟨(mk0 16 (tokA L b).t [nd, x6]), a6, some _, 2, by show _ = _; rw [← HR.out, binG]; simp [Rs.bind, mtT, hl, h6], by show _ ≤ _; omega, r7.set4 (by omega) (fun q => by have := h.x.lt q; omega) _ _ _ _, t4_set _ _ _ _ vv, ((l7.keep (KeptR.refl P.R W7).size (fun b hb hl => (KeptR.refl P.R W7).block b hl (by have := hb.1; omega)))).keep (by simp [World.setCell]) (fun b hb hl => blk_set4 hb.2 _ _ _ _), (((k7.new (by omega) _ _).new (by omega) _ _).new (by omega) _ _).new (by omega) _ _, by simp [World.setCell]; have := (((((((KeptR.refl P.R wr).trans b3).trans b4).trans b5).trans (.of ((Below.refl _ _).drew))).trans b6).trans b7).size; omega, by omega⟩
            case measure => omega
        · go_simp
          refine hK _ _ ?_
          clear hK K
          refine wpAny_two (i := 1) (j := 5) (is := [5, 6, 7, 8]) (js := [1, 6, 7, 8]) (os := [_, _, _, _]) (us := [_, _, _, _]) (by kernel_rfl) rfl rfl (by kernel_rfl) (by kernel_rfl) rfl rfl (by decide) (by decide) ?_ ?_
          · go_wp2_with fail
            go_at_call 59
            refine (HBN'.out _ _ _ _ (lineI (tokA L b) + 1) (r5.bel ((Below.refl _ _).drew)) (by omega) (by omega) (by omega) (by unfold Ms at *; omega)).mono ?_
            rintro e W8 A8
            cases h8 : binF L f (lineI (tokA L b) + 1) (b + 1) o with
            | bad p er =>
              rw [h8] at A8
              obtain ⟨rfl, b8⟩ := A8
              obtain rfl : Rs.bad p er = res := by rw [← HR.out, binG]; simp [Rs.bind, mtT, hl, h8]
              exact ⟨rfl, rfl, a0.trans ((k5.trans (.of ((Below.refl _ _).drew))).trans b8)⟩
            | ok x8 a8 =>
              rw [h8] at A8
              obtain ⟨ad8, c8, rfl, l8', r8, b8⟩ := A8
              have g8 := (MN.bin' (lineI (tokA L b) + 1) (b + 1) o) _ _ h8
              have y8 := r8.le
              have k8 := (k5.trans (.of ((Below.refl _ _).drew))).trans b8
              have z8 := k8.size
              have l8 := l8'.mono (T := fun b => w.heap.size + 1 ≤ b ∧ b ≠ W1.heap.size) (fun b hb => by have := (k5.trans (.of ((Below.refl _ _).drew))).size; have := (((((KeptR.refl P.R wr).trans b3).trans b4).trans b5).trans (.of ((Below.refl _ _).drew))).size; exact ⟨by omega, by omega⟩)
              clear vv
              have vv : W8.heap[W1.heap.size]? = _ := (((((((KeptR.refl P.R wr).trans b3).trans b4).trans b5).trans (.of ((Below.refl _ _).drew))).trans b8).block W1.heap.size hV0 (by omega)).trans v0
              obtain ⟨⟨_, _, _, _⟩, _, _, _, _⟩ := t4 vv
              go_wp2_with fail
              go_at_call 35
              refine (node_any 16 (tokA L b).t (some ⟨W8.heap.size, 0, none⟩) 2 2 _).mono ?_
              rintro e W9 ⟨rfl, b9'⟩
              have j9 : W9.heap[W8.heap.size]? = some (.cells #[Value.int IntKind.i64 nd.k, Value.string nd.t, Value.int IntKind.i64 nd.n, Value.slice ad nd.ks.length c, Value.int IntKind.i64 x8.k, Value.string x8.t, Value.int IntKind.i64 x8.n, Value.slice ad8 x8.ks.length c8] 27 (0, 0)) := (b9'.block _ (by simp)).trans (heap_alloc_new W8 _)
              have r9 := (r8.bel ((Below.refl _ _).alloc (Nat.le_refl _) (Obj.cells #[Value.int IntKind.i64 nd.k, Value.string nd.t, Value.int IntKind.i64 nd.n, Value.slice ad nd.ks.length c, Value.int IntKind.i64 x8.k, Value.string x8.t, Value.int IntKind.i64 x8.n, Value.slice ad8 x8.ks.length c8] 27))).bel b9'
              have b9 : KeptR P.R W8 W9 := (KeptR.of ((Below.refl _ _).alloc (Nat.le_refl _) _)).trans (.of b9')
              have k9 := k8.trans b9
              have z9 := k9.size
              have l9 : LAt W9 (fun b => w.heap.size + 1 ≤ b ∧ b ≠ W1.heap.size) (.slice (some ⟨W8.heap.size, 0, none⟩) 2 2) [nd, x8] := LAt.n2 j9 (by have := k8.size; have := ((((((KeptR.refl P.R wr).trans b3).trans b4).trans b5).trans (.of ((Below.refl _ _).drew))).trans b8).size; exact ⟨by omega, by omega⟩) (lN.keep (((((((KeptR.refl P.R wr).trans b3).trans b4).trans b5).trans (.of ((Below.refl _ _).drew))).trans b8).trans b9).size (fun b hb hl => (((((((KeptR.refl P.R wr).trans b3).trans b4).trans b5).trans (.of ((Below.refl _ _).drew))).trans b8).trans b9).block b hl (by have := hb.1; omega))) (l8.keep ((KeptR.refl P.R W8).trans b9).size (fun b hb hl => ((KeptR.refl P.R W8).trans b9).block b hl (by have := hb.1; omega)))
              clear vv
              have vv : W9.heap[W1.heap.size]? = _ := ((((((((KeptR.refl P.R wr).trans b3).trans b4).trans b5).trans (.of ((Below.refl _ _).drew))).trans b8).trans b9).block W1.heap.size hV0 (by omega)).trans v0
              obtain ⟨⟨_, _, _, _⟩, _, _, _, _⟩ := t4 vv
              go_wp2
              go_roundg g
              case rel => exact ⟨(mk0 16 (tokA L b).t [nd, x8]), a8, some _, 2, by show _ = _; rw [← HR.out, binG]; simp [Rs.bind, mtT, hl, h8], by show _ ≤ _; omega, r9.set4 (by omega) (fun q => by have := h.x.lt q; omega) _ _ _ _, t4_set _ _ _ _ vv, ((l9.keep (KeptR.refl P.R W9).size (fun b hb hl => (KeptR.refl P.R W9).block b hl (by have := hb.1; omega)))).keep (by simp [World.setCell]) (fun b hb hl => blk_set4 hb.2 _ _ _ _), (((k9.new (by omega) _ _).new (by omega) _ _).new (by omega) _ _).new (by omega) _ _, by simp [World.setCell]; have := (((((((KeptR.refl P.R wr).trans b3).trans b4).trans b5).trans (.of ((Below.refl _ _).drew))).trans b8).trans b9).size; omega, by omega⟩
              case measure => omega
          · go_wp2_with fail
            go_at_call 59
            refine (HBN'.out _ _ _ _ (lineI (tokA L b) + 1) (r5.bel ((Below.refl _ _).drew)) (by omega) (by omega) (by omega) (by unfold Ms at *; omega)).mono ?_
            rintro e W10 A10
            cases h10 : binF L f (lineI (tokA L b) + 1) (b + 1) o with
            | bad p er =>
              rw [h10] at A10
              obtain ⟨rfl, b10⟩ := A10
              obtain rfl : Rs.bad p er = res := by rw [← HR.out, binG]; simp [Rs.bind, mtT, hl, h10]
              exact ⟨rfl, rfl, a0.trans ((k5.trans (.of ((Below.refl _ _).drew))).trans b10)⟩
            | ok x10 a10 =>
              rw [h10] at A10
              obtain ⟨ad10, c10, rfl, l10', r10, b10⟩ := A10
              have g10 := (MN.bin' (lineI (tokA L b) + 1) (b + 1) o) _ _ h10
              have y10 := r10.le
              have k10 := (k5.trans (.of ((Below.refl _ _).drew))).trans b10
              have z10 := k10.size
              have l10 := l10'.mono (T := fun b => w.heap.size + 1 ≤ b ∧ b ≠ W1.heap.size) (fun b hb => by have := (k5.trans (.of ((Below.refl _ _).drew))).size; have := (((((KeptR.refl P.R wr).trans b3).trans b4).trans b5).trans (.of ((Below.refl _ _).drew))).size; exact ⟨by omega, by omega⟩)
              clear vv
              have vv : W10.heap[W1.heap.size]? = _ := (((((((KeptR.refl P.R wr).trans b3).trans b4).trans b5).trans (.of ((Below.refl _ _).drew))).trans b10).block W1.heap.size hV0 (by omega)).trans v0
              obtain ⟨⟨_, _, _, _⟩, _, _, _, _⟩ := t4 vv
              go_wp2_with fail
              go_at_call 35
              refine (node_any 16 (tokA L b).t (some ⟨W10.heap.size, 0, none⟩) 2 2 _).mono ?_
              rintro e W11 ⟨rfl, b11'⟩
              have j11 : W11.heap[W10.heap.size]? = some (.cells #[Value.int IntKind.i64 nd.k, Value.string nd.t, Value.int IntKind.i64 nd.n, Value.slice ad nd.ks.length c, Value.int IntKind.i64 x10.k, Value.string x10.t, Value.int IntKind.i64 x10.n, Value.slice ad10 x10.ks.length c10] 27 (0, 0)) := (b11'.block _ (by simp)).trans (heap_alloc_new W10 _)
              have r11 := (r10.bel ((Below.refl _ _).alloc (Nat.le_refl _) (Obj.cells #[Value.int IntKind.i64 nd.k, Value.string nd.t, Value.int IntKind.i64 nd.n, Value.slice ad nd.ks.length c, Value.int IntKind.i64 x10.k, Value.string x10.t, Value.int IntKind.i64 x10.n, Value.slice ad10 x10.ks.length c10] 27))).bel b11'
              have b11 : KeptR P.R W10 W11 := (KeptR.of ((Below.refl _ _).alloc (Nat.le_refl _) _)).trans (.of b11')
              have k11 := k10.trans b11
              have z11 := k11.size
              have l11 : LAt W11 (fun b => w.heap.size + 1 ≤ b ∧ b ≠ W1.heap.size) (.slice (some ⟨W10.heap.size, 0, none⟩) 2 2) [nd, x10] := LAt.n2 j11 (by have := k10.size; have := ((((((KeptR.refl P.R wr).trans b3).trans b4).trans b5).trans (.of ((Below.refl _ _).drew))).trans b10).size; exact ⟨by omega, by omega⟩) (lN.keep (((((((KeptR.refl P.R wr).trans b3).trans b4).trans b5).trans (.of ((Below.refl _ _).drew))).trans b10).trans b11).size (fun b hb hl => (((((((KeptR.refl P.R wr).trans b3).trans b4).trans b5).trans (.of ((Below.refl _ _).drew))).trans b10).trans b11).block b hl (by have := hb.1; omega))) (l10.keep ((KeptR.refl P.R W10).trans b11).size (fun b hb hl => ((KeptR.refl P.R W10).trans b11).block b hl (by have := hb.1; omega)))
              clear vv
              have vv : W11.heap[W1.heap.size]? = _ := ((((((((KeptR.refl P.R wr).trans b3).trans b4).trans b5).trans (.of ((Below.refl _ _).drew))).trans b10).trans b11).block W1.heap.size hV0 (by omega)).trans v0
              obtain ⟨⟨_, _, _, _⟩, _, _, _, _⟩ := t4 vv
              go_wp2
              go_roundg g
              case rel => exact ⟨(mk0 16 (tokA L b).t [nd, x10]), a10, some _, 2, by show _ = _; rw [← HR.out, binG]; simp [Rs.bind, mtT, hl, h10], by show _ ≤ _; omega, r11.set4 (by omega) (fun q => by have := h.x.lt q; omega) _ _ _ _, t4_set _ _ _ _ vv, ((l11.keep (KeptR.refl P.R W11).size (fun b hb hl => (KeptR.refl P.R W11).block b hl (by have := hb.1; omega)))).keep (by simp [World.setCell]) (fun b hb hl => blk_set4 hb.2 _ _ _ _), (((k11.new (by omega) _ _).new (by omega) _ _).new (by omega) _ _).new (by omega) _ _, by simp [World.setCell]; have := (((((((KeptR.refl P.R wr).trans b3).trans b4).trans b5).trans (.of ((Below.refl _ _).drew))).trans b10).trans b11).size; omega, by omega⟩
              case measure => omega
end Go.Proofs.YtmfgcaffdkakhaaGreat
