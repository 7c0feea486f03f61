/- Own text. Package parse: the rules, one by one: what assigns. -/
import Derived.Test.YtmfgcaffdkakhaaGreatR2
namespace Go.Proofs.YtmfgcaffdkakhaaGreat
open Go.RowKit
set_option linter.unusedVariables false
set_option linter.unusedSimpArgs false

/-- what was handed over is answered. -/
def AnsW (P : Pl) (L : List Tok) (o : Ex) (v : Value) (w : World) (r : Rs Unit) (e : Ending) (w' : World) : Prop := match r with
  | .ok _ a => e = .returned v ∧ Rd w' P L a o ∧ KeptR P.R w w'
  | .bad p er => Gave p er e ∧ KeptR P.R w w'
set_option maxRecDepth 100000 in
set_option maxHeartbeats 8000000 in
theorem ended_any {w : World} {P : Pl} {L : List Tok} {a : Nat} {o : Ex} (h : Rd w P L a o) (k : Int) (t : ByteArray) (n : Int) (ad : Option Addr) (ln cp : Nat) :
    Calls Tryz.prog 74 #[.pointer (some ⟨P.R, 0, none⟩), .agg #[.int .i64 k, .string t, .int .i64 n, .slice ad ln cp]] w (AnsW P L o (.agg #[.int .i64 k, .string t, .int .i64 n, .slice ad ln cp]) w (wantR L sSe a)) := by
  have hRw := h.lt
  have hbl0 := h.x.lt
  obtain ⟨wA, hwA⟩ : ∃ W, w.alloc (.cells #[.int .i64 k, .string t, .int .i64 n, .slice ad ln cp] 27) = W := ⟨_, rfl⟩
  have bA : Below w.heap.size w wA := by rw [← hwA]; exact (Below.refl _ _).alloc (Nat.le_refl _) _
  have sA : wA.heap.size = w.heap.size + 1 := by rw [← hwA]; simp
  have mA : wA.heap[w.heap.size]? = some (.cells #[.int .i64 k, .string t, .int .i64 n, .slice ad ln cp] 27 (0, 0)) := by rw [← hwA]; exact hnew _ rfl
  obtain ⟨h0, a0, z0, M0⟩ := begin_cell (h.bel bA)
  have C1 := want_any h0 sSe
  generalize wantR L sSe a = rr at *
  go_enter Tryz.func74, Tryz.ntmps74
  go_wp2_with fail
  go_at_call 60
  refine C1.mono ?_
  rintro e W1 A1
  cases rr with
  | bad p er =>
    obtain ⟨rfl, b1⟩ := A1
    exact ⟨rfl, rfl, ((KeptR.of bA).trans a0).trans b1⟩
  | ok u a1 =>
    obtain ⟨rfl, r1, b1⟩ := A1
    have m0 := M0.out _ b1
    rw [sA] at m0
    have v0 : W1.heap[w.heap.size]? = some (.cells #[.int .i64 k, .string t, .int .i64 n, .slice ad ln cp] 27 (0, 0)) := (b1.block _ (by omega) (by omega)).trans ((a0.block _ (by omega) (by omega)).trans mA)
    obtain ⟨⟨_, _, _, _⟩, _, _, _, _⟩ := t4 m0
    obtain ⟨⟨_, _, _, _⟩, _, _, _, _⟩ := t4 v0
    have kf : KeptR P.R w W1 := ((KeptR.of bA).trans a0).trans b1
    have hbl : 0 < L.length → P.bl ≠ w.heap.size + 1 := fun q => by have := hbl0 q; omega
    go_wp2
    refine bodyPost_ret (res_n4 Tryz.results74 (t4_set _ _ _ _ m0) rfl) rfl ?_
    exact ⟨rfl, r1.set4 (by omega) hbl _ _ _ _, (((kf.new (by omega) _ _).new (by omega) _ _).new (by omega) _ _).new (by omega) _ _⟩
/-- what assigns: where the tree that was handed over lies. -/
def CA (L : List Tok) (f : Nat) : Prop := ∀ (w : World) (P : Pl) (a o : Nat) (x : Nd) (ad0 : Option Addr) (c0 : Nat) (S : Nat → Prop), Rd w P L a (opE o) → o ≤ 400 → Ms L a o 19 ≤ f → a < L.length → LAt w S (.slice ad0 x.ks.length c0) x.ks → (∀ b, S b → b ≠ P.R ∧ b < w.heap.size) →
    Calls Tryz.prog 31 #[.pointer (some ⟨P.R, 0, none⟩), .agg #[.int .i64 x.k, .string x.t, .int .i64 x.n, .slice ad0 x.ks.length c0]] w (fun e w' => match assignF L f x a o with
      | .ok y b => ∃ ad c, e = .returned (.agg #[.int .i64 y.k, .string y.t, .int .i64 y.n, .slice ad y.ks.length c]) ∧ LAt w' (fun b => S b ∨ w.heap.size ≤ b) (.slice ad y.ks.length c) y.ks ∧ Rd w' P L b (opE o) ∧ KeptR P.R w w'
      | .bad p er => Gave p er e ∧ KeptR P.R w w')
set_option maxRecDepth 100000 in
set_option maxHeartbeats 8000000 in
theorem assign_step (L : List Tok) (hs : Small L) (f : Nat) (MN : Mono L f) (hE : CN 12 L f 20 (exprF L f)) : CA L (f + 1) := by
  intro w P a o x ad0 c0 S h ho hM hla hx hS
  have hRw := h.lt
  have hbl0 := h.x.lt
  have HE' : Hid (CN 12 L f 20 (exprF L f)) := hE
  clear hE
  obtain ⟨wA, hwA⟩ : ∃ W, w.alloc (.cells #[.int .i64 x.k, .string x.t, .int .i64 x.n, .slice ad0 x.ks.length c0] 27) = W := ⟨_, rfl⟩
  have bA : Below w.heap.size w wA := by rw [← hwA]; exact (Below.refl _ _).alloc (Nat.le_refl _) _
  have sA : wA.heap.size = w.heap.size + 1 := by rw [← hwA]; simp
  have mA : wA.heap[w.heap.size]? = some (.cells #[.int .i64 x.k, .string x.t, .int .i64 x.n, .slice ad0 x.ks.length c0] 27 (0, 0)) := by rw [← hwA]; exact hnew _ rfl
  obtain ⟨h0, a0, z0, M0⟩ := begin_cell (h.bel bA)
  have kw : KeptR P.R w (wA.alloc zN) := (KeptR.of bA).trans a0
  have HV : Hid (∀ W, KeptR P.R (wA.alloc zN) W → W.heap[w.heap.size]? = some (.cells #[.int .i64 x.k, .string x.t, .int .i64 x.n, .slice ad0 x.ks.length c0] 27 (0, 0))) := fun W b => (b.block _ (by omega) (by omega)).trans ((a0.block _ (by omega) (by omega)).trans mA)
  obtain ⟨⟨_, _, _, _⟩, _, _, _, _⟩ := t4 (HV.out _ (KeptR.refl _ _))
  obtain ⟨res, hres⟩ : ∃ r, assignF L (f + 1) x a o = r := ⟨_, rfl⟩
  have HR : Hid (assignF L (f + 1) x a o = res) := hres
  rw [hres]
  clear hres
  by_cases hK : x.k = 6 ∨ x.k = 21 ∨ x.k = 22
  · have CP := pass_any h0 hla (hs.at _)
    have hm : assignF L (f + 1) x a o = (exprF L f (a + 1) o).bind fun v a2 => .ok (mk0 18 mtT [x, v]) a2 := by rw [assignF, if_pos hK]
    rw [hm] at HR
    clear hm
    rcases (by rcases hK with e | e | e; exact .inl (by simp [e]); exact .inr (.inl ⟨by simp [e], by simp [e]⟩); exact .inr (.inr ⟨by simp [e], by simp [e], by simp [e]⟩) : (x.k == 6) = true ∨ ((x.k == 6) = false ∧ (x.k == 21) = true) ∨ ((x.k == 6) = false ∧ (x.k == 21) = false ∧ (x.k == 22) = true)) with q6 | ⟨q6, q7⟩ | ⟨q6, q7, q8⟩
    · clear hK
      go_enter Tryz.func31, Tryz.ntmps31
      go_wp2_with fail
      go_at_call 63
      refine CP.mono ?_
      rintro e W1 ⟨rfl, r1', b1'⟩
      go_wp2_with fail
      refine wp_region_any (by kernel_rfl) ?_
      change wpAny _ _ _ _ _ _ _ (World.drew _)
      have b1 : KeptR P.R (wA.alloc zN) W1.drew := b1'.trans (.of ((Below.refl _ _).drew))
      have r1 := r1'.bel ((Below.refl _ _).drew)
      have y1 := r1.le
      obtain ⟨⟨_, _, _, _⟩, _, _, _, _⟩ := t4 (HV.out _ b1)
      have C2 := HE'.out _ _ _ _ r1 ho (by unfold Ms at *; omega)
      refine wpAny_take (i := 1) (v := .pointer (some ⟨P.R, 0, none⟩)) rfl (by kernel_rfl) (by kernel_rfl) (by kernel_rfl) (fun _ _ _ h => h) (Or.inl ⟨by rfl, fun w => by go_simp⟩) ?_
      cases h2 : exprF L f (a + 1) o with
      | bad p er =>
        rw [h2] at C2
        obtain rfl : Rs.bad p er = res := by rw [← HR.out, h2]; rfl
        refine wpAny_two (i := 0) (j := 2) (is := [2, 3, 4, 5]) (js := [0, 3, 4, 5]) (os := [_, _, _, _]) (us := [_, _, _, _]) (by kernel_rfl) rfl rfl (by kernel_rfl) (by kernel_rfl) rfl rfl (by decide) (by decide) ?_ ?_
        all_goals
          go_wp2_with fail
          go_at_call 12
          refine C2.mono ?_
          rintro e W2 ⟨rfl, b2⟩
          exact ⟨rfl, rfl, kw.trans (b1.trans b2)⟩
      | ok y a2 =>
        rw [h2] at C2
        obtain rfl : Rs.ok (mk0 18 mtT [x, y]) a2 = res := by rw [← HR.out, h2]; rfl
        refine wpAny_two (i := 0) (j := 2) (is := [2, 3, 4, 5]) (js := [0, 3, 4, 5]) (os := [_, _, _, _]) (us := [_, _, _, _]) (by kernel_rfl) rfl rfl (by kernel_rfl) (by kernel_rfl) rfl rfl (by decide) (by decide) ?_ ?_
        all_goals
          go_wp2_with fail
          go_at_call 12
          refine C2.mono ?_
          rintro e W2 ⟨ad2, c2, rfl, l2, r2, b2⟩
          have k2 := b1.trans b2
          have z2 := k2.size
          obtain ⟨⟨_, _, _, _⟩, _, _, _, _⟩ := t4 (HV.out _ k2)
          go_wp2_with fail
          go_at_call 35
          refine (node_any 18 ⟨#[]⟩ (some ⟨W2.heap.size, 0, none⟩) 2 2 _).mono ?_
          rintro e W4 ⟨rfl, b4⟩
          have j4 : W4.heap[W2.heap.size]? = some (.cells #[.int .i64 x.k, .string x.t, .int .i64 x.n, .slice ad0 x.ks.length c0, .int .i64 y.k, .string y.t, .int .i64 y.n, .slice ad2 y.ks.length c2] 27 (0, 0)) := (b4.block _ (by simp)).trans (heap_alloc_new W2 _)
          have k4 : KeptR P.R W2 W4 := (KeptR.of ((Below.refl _ _).alloc (Nat.le_refl _) _)).trans (.of b4)
          have r4 := (r2.bel ((Below.refl _ _).alloc (Nat.le_refl _) _)).bel b4
          have m0 := M0.out _ (k2.trans k4)
          rw [sA] at m0
          obtain ⟨⟨_, _, _, _⟩, _, _, _, _⟩ := t4 m0
          go_wp2
          have kf := kw.trans (k2.trans k4)
          have hbl : 0 < L.length → P.bl ≠ w.heap.size + 1 := fun q => by have := hbl0 q; omega
          have z4 := k4.size
          refine bodyPost_ret (res_n4 Tryz.results31 (t4_set _ _ _ _ m0) rfl) rfl ?_
          refine ⟨some ⟨W2.heap.size, 0, none⟩, 2, rfl, ?_, r4.set4 (by omega) hbl _ _ _ _, (((kf.new (by omega) _ _).new (by omega) _ _).new (by omega) _ _).new (by omega) _ _⟩
          have kx := (((kf.new (n := w.heap.size + 1) (by omega) 0 (.int .i64 18)).new (n := w.heap.size + 1) (by omega) 1 (.string ⟨#[]⟩)).new (n := w.heap.size + 1) (by omega) 2 (.int .i64 0)).new (n := w.heap.size + 1) (by omega) 3 (.slice (some ⟨W2.heap.size, 0, none⟩) 2 2)
          have zd : W1.drew.heap.size = W1.heap.size := rfl
          have z1 := b1.size
          refine LAt.n2 (x := x) (y := y) (t := 27) (fr := (0, 0)) ((blk_set4 (by omega) _ _ _ _).trans j4) (Or.inr (by omega)) ((hx.keep kx.size (fun b hb hl => kx.block b hl (hS b hb).1)).mono (fun b hb => Or.inl hb)) ?_
          exact ((l2.keepR k4 (by omega)).set4 (C := w.heap.size) (by omega) (by omega) _ _ _ _).mono (fun b hb => Or.inr hb)
    · clear hK
      go_enter Tryz.func31, Tryz.ntmps31
      go_wp2_with fail
      go_at_call 63
      refine CP.mono ?_
      rintro e W1 ⟨rfl, r1', b1'⟩
      go_wp2_with fail
      refine wp_region_any (by kernel_rfl) ?_
      change wpAny _ _ _ _ _ _ _ (World.drew _)
      have b1 : KeptR P.R (wA.alloc zN) W1.drew := b1'.trans (.of ((Below.refl _ _).drew))
      have r1 := r1'.bel ((Below.refl _ _).drew)
      have y1 := r1.le
      obtain ⟨⟨_, _, _, _⟩, _, _, _, _⟩ := t4 (HV.out _ b1)
      have C2 := HE'.out _ _ _ _ r1 ho (by unfold Ms at *; omega)
      refine wpAny_take (i := 1) (v := .pointer (some ⟨P.R, 0, none⟩)) rfl (by kernel_rfl) (by kernel_rfl) (by kernel_rfl) (fun _ _ _ h => h) (Or.inl ⟨by rfl, fun w => by go_simp⟩) ?_
      cases h2 : exprF L f (a + 1) o with
      | bad p er =>
        rw [h2] at C2
        obtain rfl : Rs.bad p er = res := by rw [← HR.out, h2]; rfl
        refine wpAny_two (i := 0) (j := 2) (is := [2, 3, 4, 5]) (js := [0, 3, 4, 5]) (os := [_, _, _, _]) (us := [_, _, _, _]) (by kernel_rfl) rfl rfl (by kernel_rfl) (by kernel_rfl) rfl rfl (by decide) (by decide) ?_ ?_
        all_goals
          go_wp2_with fail
          go_at_call 12
          refine C2.mono ?_
          rintro e W2 ⟨rfl, b2⟩
          exact ⟨rfl, rfl, kw.trans (b1.trans b2)⟩
      | ok y a2 =>
        rw [h2] at C2
        obtain rfl : Rs.ok (mk0 18 mtT [x, y]) a2 = res := by rw [← HR.out, h2]; rfl
        refine wpAny_two (i := 0) (j := 2) (is := [2, 3, 4, 5]) (js := [0, 3, 4, 5]) (os := [_, _, _, _]) (us := [_, _, _, _]) (by kernel_rfl) rfl rfl (by kernel_rfl) (by kernel_rfl) rfl rfl (by decide) (by decide) ?_ ?_
        all_goals
          go_wp2_with fail
          go_at_call 12
          refine C2.mono ?_
          rintro e W2 ⟨ad2, c2, rfl, l2, r2, b2⟩
          have k2 := b1.trans b2
          have z2 := k2.size
          obtain ⟨⟨_, _, _, _⟩, _, _, _, _⟩ := t4 (HV.out _ k2)
          go_wp2_with fail
          go_at_call 35
          refine (node_any 18 ⟨#[]⟩ (some ⟨W2.heap.size, 0, none⟩) 2 2 _).mono ?_
          rintro e W4 ⟨rfl, b4⟩
          have j4 : W4.heap[W2.heap.size]? = some (.cells #[.int .i64 x.k, .string x.t, .int .i64 x.n, .slice ad0 x.ks.length c0, .int .i64 y.k, .string y.t, .int .i64 y.n, .slice ad2 y.ks.length c2] 27 (0, 0)) := (b4.block _ (by simp)).trans (heap_alloc_new W2 _)
          have k4 : KeptR P.R W2 W4 := (KeptR.of ((Below.refl _ _).alloc (Nat.le_refl _) _)).trans (.of b4)
          have r4 := (r2.bel ((Below.refl _ _).alloc (Nat.le_refl _) _)).bel b4
          have m0 := M0.out _ (k2.trans k4)
          rw [sA] at m0
          obtain ⟨⟨_, _, _, _⟩, _, _, _, _⟩ := t4 m0
          go_wp2
          have kf := kw.trans (k2.trans k4)
          have hbl : 0 < L.length → P.bl ≠ w.heap.size + 1 := fun q => by have := hbl0 q; omega
          have z4 := k4.size
          refine bodyPost_ret (res_n4 Tryz.results31 (t4_set _ _ _ _ m0) rfl) rfl ?_
          refine ⟨some ⟨W2.heap.size, 0, none⟩, 2, rfl, ?_, r4.set4 (by omega) hbl _ _ _ _, (((kf.new (by omega) _ _).new (by omega) _ _).new (by omega) _ _).new (by omega) _ _⟩
          have kx := (((kf.new (n := w.heap.size + 1) (by omega) 0 (.int .i64 18)).new (n := w.heap.size + 1) (by omega) 1 (.string ⟨#[]⟩)).new (n := w.heap.size + 1) (by omega) 2 (.int .i64 0)).new (n := w.heap.size + 1) (by omega) 3 (.slice (some ⟨W2.heap.size, 0, none⟩) 2 2)
          have zd : W1.drew.heap.size = W1.heap.size := rfl
          have z1 := b1.size
          refine LAt.n2 (x := x) (y := y) (t := 27) (fr := (0, 0)) ((blk_set4 (by omega) _ _ _ _).trans j4) (Or.inr (by omega)) ((hx.keep kx.size (fun b hb hl => kx.block b hl (hS b hb).1)).mono (fun b hb => Or.inl hb)) ?_
          exact ((l2.keepR k4 (by omega)).set4 (C := w.heap.size) (by omega) (by omega) _ _ _ _).mono (fun b hb => Or.inr hb)
    · clear hK
      go_enter Tryz.func31, Tryz.ntmps31
      go_wp2_with fail
      go_at_call 63
      refine CP.mono ?_
      rintro e W1 ⟨rfl, r1', b1'⟩
      go_wp2_with fail
      refine wp_region_any (by kernel_rfl) ?_
      change wpAny _ _ _ _ _ _ _ (World.drew _)
      have b1 : KeptR P.R (wA.alloc zN) W1.drew := b1'.trans (.of ((Below.refl _ _).drew))
      have r1 := r1'.bel ((Below.refl _ _).drew)
      have y1 := r1.le
      obtain ⟨⟨_, _, _, _⟩, _, _, _, _⟩ := t4 (HV.out _ b1)
      have C2 := HE'.out _ _ _ _ r1 ho (by unfold Ms at *; omega)
      refine wpAny_take (i := 1) (v := .pointer (some ⟨P.R, 0, none⟩)) rfl (by kernel_rfl) (by kernel_rfl) (by kernel_rfl) (fun _ _ _ h => h) (Or.inl ⟨by rfl, fun w => by go_simp⟩) ?_
      cases h2 : exprF L f (a + 1) o with
      | bad p er =>
        rw [h2] at C2
        obtain rfl : Rs.bad p er = res := by rw [← HR.out, h2]; rfl
        refine wpAny_two (i := 0) (j := 2) (is := [2, 3, 4, 5]) (js := [0, 3, 4, 5]) (os := [_, _, _, _]) (us := [_, _, _, _]) (by kernel_rfl) rfl rfl (by kernel_rfl) (by kernel_rfl) rfl rfl (by decide) (by decide) ?_ ?_
        all_goals
          go_wp2_with fail
          go_at_call 12
          refine C2.mono ?_
          rintro e W2 ⟨rfl, b2⟩
          exact ⟨rfl, rfl, kw.trans (b1.trans b2)⟩
      | ok y a2 =>
        rw [h2] at C2
        obtain rfl : Rs.ok (mk0 18 mtT [x, y]) a2 = res := by rw [← HR.out, h2]; rfl
        refine wpAny_two (i := 0) (j := 2) (is := [2, 3, 4, 5]) (js := [0, 3, 4, 5]) (os := [_, _, _, _]) (us := [_, _, _, _]) (by kernel_rfl) rfl rfl (by kernel_rfl) (by kernel_rfl) rfl rfl (by decide) (by decide) ?_ ?_
        all_goals
          go_wp2_with fail
          go_at_call 12
          refine C2.mono ?_
          rintro e W2 ⟨ad2, c2, rfl, l2, r2, b2⟩
          have k2 := b1.trans b2
          have z2 := k2.size
          obtain ⟨⟨_, _, _, _⟩, _, _, _, _⟩ := t4 (HV.out _ k2)
          go_wp2_with fail
          go_at_call 35
          refine (node_any 18 ⟨#[]⟩ (some ⟨W2.heap.size, 0, none⟩) 2 2 _).mono ?_
          rintro e W4 ⟨rfl, b4⟩
          have j4 : W4.heap[W2.heap.size]? = some (.cells #[.int .i64 x.k, .string x.t, .int .i64 x.n, .slice ad0 x.ks.length c0, .int .i64 y.k, .string y.t, .int .i64 y.n, .slice ad2 y.ks.length c2] 27 (0, 0)) := (b4.block _ (by simp)).trans (heap_alloc_new W2 _)
          have k4 : KeptR P.R W2 W4 := (KeptR.of ((Below.refl _ _).alloc (Nat.le_refl _) _)).trans (.of b4)
          have r4 := (r2.bel ((Below.refl _ _).alloc (Nat.le_refl _) _)).bel b4
          have m0 := M0.out _ (k2.trans k4)
          rw [sA] at m0
          obtain ⟨⟨_, _, _, _⟩, _, _, _, _⟩ := t4 m0
          go_wp2
          have kf := kw.trans (k2.trans k4)
          have hbl : 0 < L.length → P.bl ≠ w.heap.size + 1 := fun q => by have := hbl0 q; omega
          have z4 := k4.size
          refine bodyPost_ret (res_n4 Tryz.results31 (t4_set _ _ _ _ m0) rfl) rfl ?_
          refine ⟨some ⟨W2.heap.size, 0, none⟩, 2, rfl, ?_, r4.set4 (by omega) hbl _ _ _ _, (((kf.new (by omega) _ _).new (by omega) _ _).new (by omega) _ _).new (by omega) _ _⟩
          have kx := (((kf.new (n := w.heap.size + 1) (by omega) 0 (.int .i64 18)).new (n := w.heap.size + 1) (by omega) 1 (.string ⟨#[]⟩)).new (n := w.heap.size + 1) (by omega) 2 (.int .i64 0)).new (n := w.heap.size + 1) (by omega) 3 (.slice (some ⟨W2.heap.size, 0, none⟩) 2 2)
          have zd : W1.drew.heap.size = W1.heap.size := rfl
          have z1 := b1.size
          refine LAt.n2 (x := x) (y := y) (t := 27) (fr := (0, 0)) ((blk_set4 (by omega) _ _ _ _).trans j4) (Or.inr (by omega)) ((hx.keep kx.size (fun b hb hl => kx.block b hl (hS b hb).1)).mono (fun b hb => Or.inl hb)) ?_
          exact ((l2.keepR k4 (by omega)).set4 (C := w.heap.size) (by omega) (by omega) _ _ _ _).mono (fun b hb => Or.inr hb)
  · have hm : assignF L (f + 1) x a o = .bad a 60 := by rw [assignF, if_neg hK]
    obtain rfl : Rs.bad a 60 = res := by rw [← HR.out, hm]
    have q6 : (x.k == 6) = false := by simp; intro e; exact hK (.inl e)
    have q7 : (x.k == 21) = false := by simp; intro e; exact hK (.inr (.inl e))
    have q8 : (x.k == 22) = false := by simp; intro e; exact hK (.inr (.inr e))
    go_enter Tryz.func31, Tryz.ntmps31
    go_wp2_with fail
    go_at_call 58
    refine (wrong_any h0).mono ?_
    rintro e W1 ⟨rfl, b1⟩
    go_wp2
    exact ⟨rfl, rfl, kw.trans (.of b1)⟩
end Go.Proofs.YtmfgcaffdkakhaaGreat
