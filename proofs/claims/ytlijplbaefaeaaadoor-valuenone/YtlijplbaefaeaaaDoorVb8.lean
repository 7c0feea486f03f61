/- Own text. The document's heap: Put. -/
import Derived.Test.YtlijplbaefaeaaaDoorVb7
namespace Go.Proofs.YtlijplbaefaeaaaDoor
open Go.RowKit
set_option linter.unusedVariables false
set_option linter.unusedSimpArgs false

theorem csl_set : ∀ (l : List Vl) (j : Nat) (y : Vl), j < l.length → (l.set j y).flatMap Vl.cs = (((l.flatMap Vl.cs).set (j * 3) (.int .i64 y.kd)).set (j * 3 + 1) (.int .i64 y.n)).set (j * 3 + 2) (.string y.tx)
  | x :: l, 0, y, _ => by simp [Vl.cs]
  | x :: l, j + 1, y, h => by
    rw [List.set_cons_succ, List.flatMap_cons, List.flatMap_cons, csl_set l j y (by simpa using h), show (j + 1) * 3 = j * 3 + 3 by omega]
    simp [Vl.cs]
theorem thV_obs : ∀ (H : Hp) (V : List Pv) (m : Nat) (t : Th) (hm : m < H.length), t.ob = H[m].ob → thV (H.set m t) V = thV H V
  | u :: H, [], 0, t, _, _ => by simp [thV]
  | u :: H, p :: V, 0, t, _, e => by
    have e' : t.ob = u.ob := e
    simp [thV, thC, e']
  | u :: H, [], m + 1, t, _, _ => by simp [thV]
  | u :: H, p :: V, m + 1, t, hm, e => by
    rw [List.set_cons_succ, thV, thV, thV_obs H V m t (by simpa using hm) e]
theorem row_setL {w : World} {g cap : Nat} {l : List Vl} {j : Nat} (h : w.ownsRow 0 23 3 (.slice (some ⟨g, 0, none⟩) l.length cap) l.length (l.flatMap Vl.cs)) (hj : j < l.length) (y : Vl) :
    (((w.setCell ⟨g, j * 3, none⟩ (.int .i64 y.kd)).setCell ⟨g, j * 3 + 1, none⟩ (.int .i64 y.n)).setCell ⟨g, j * 3 + 2, none⟩ (.string y.tx)).ownsRow 0 23 3 (.slice (some ⟨g, 0, none⟩) l.length cap) l.length ((l.set j y).flatMap Vl.cs) := by
  rw [csl_set l j y hj]
  exact (((h.stored _ _).1.stored _ _).1.stored _ _).1
theorem HpAt.put {hb : Nat} {H : Hp} {vt : Value} {V : List Pv} {W : World} (h : HpAt hb H vt V W) {m : Nat} (hm : m < H.length) (h2 : m < V.length) {g2 c2 : Nat} (e2 : V[m].2 = .slice (some ⟨g2, 0, none⟩) H[m].ls.length c2) {j : Nat} (hj : j < H[m].ls.length) (y : Vl) :
    HpAt hb (H.set m ⟨H[m].ob, H[m].nm, H[m].ls.set j y⟩) vt V (((W.setCell ⟨g2, j * 3, none⟩ (.int .i64 y.kd)).setCell ⟨g2, j * 3 + 1, none⟩ (.int .i64 y.n)).setCell ⟨g2, j * 3 + 2, none⟩ (.string y.tx)) := by
  have hlen := h.len
  have eb : V[m].2.ownBlock = some g2 := by rw [e2]; rfl
  have far : ∀ k, k ≠ g2 → (((W.setCell ⟨g2, j * 3, none⟩ (.int .i64 y.kd)).setCell ⟨g2, j * 3 + 1, none⟩ (.int .i64 y.n)).setCell ⟨g2, j * 3 + 2, none⟩ (.string y.tx)).heap[k]? = W.heap[k]? := fun k ne => set3_far _ _ _ ne
  have q := h.upd (W' := ((W.setCell ⟨g2, j * 3, none⟩ (.int .i64 y.kd)).setCell ⟨g2, j * 3 + 1, none⟩ (.int .i64 y.n)).setCell ⟨g2, j * 3 + 2, none⟩ (.string y.tx)) hm h2 ⟨H[m].ob, H[m].nm, H[m].ls.set j y⟩ V[m] (far hb (fun r => row_block (h.l m hm h2) h.h (by decide) (r ▸ eb))) ?_ ?_ ?_ ?_ (fun b e => .inl e) (fun b e => .inl e) (fun w => by simpa using h.ok _ (List.getElem_mem hm) w)
  · rwa [set_self] at q
  · rw [set_self, thV_obs H V m ⟨H[m].ob, H[m].nm, H[m].ls.set j y⟩ hm rfl]
    exact row_same h.t (fun b e => far b (fun r => row_apart (h.l m hm h2) h.t (by decide) eb (r ▸ e)))
  · intro i hi ne b e
    refine far b (fun r => ?_)
    subst r
    rcases e with e | e
    · exact row_apart (h.n i (by omega) hi) (h.l m hm h2) (by decide) e eb
    · exact h.al i m hi h2 ne b e eb
  · exact row_same (h.n m hm h2) (fun b e => far b (fun r => row_apart (h.n m hm h2) (h.l m hm h2) (by decide) e (r ▸ eb)))
  · have := h.l m hm h2
    rw [e2] at this
    have r := row_setL this hj y
    rw [e2]
    simpa using r
theorem putB_no {H : Hp} {x : Vl} {i : Int} (h : isH H x false = false) : putB H x i = false := by unfold putB; rw [h]; rfl
theorem putB_neg {H : Hp} {x : Vl} {i : Int} (h : i < 0) : putB H x i = false := by
  unfold putB
  have : decide (0 ≤ i) = false := decide_eq_false (by omega)
  rw [this]
  simp
theorem putB_far {H : Hp} {x : Vl} {i : Int} (h : (lenH H x : Int) < i) : putB H x i = false := by
  unfold putB
  have : decide (i ≤ (lenH H x : Nat)) = false := decide_eq_false (by omega)
  rw [this]
  simp
theorem putB_yes {H : Hp} {x : Vl} {i : Int} (h : isH H x false = true) (h0 : 0 ≤ i) (h1 : i ≤ (lenH H x : Nat)) : putB H x i = true := by
  unfold putB
  rw [h, decide_eq_true h0, decide_eq_true h1]
  rfl
theorem putH_no {H : Hp} {x y : Vl} {i : Int} (h : putB H x i = false) : putH H x i y = H := by unfold putH; rw [h]; rfl
theorem putH_end {H : Hp} {x y : Vl} {i : Int} (h : putB H x i = true) (e : i = (lenH H x : Nat)) : putH H x i y = pshH H x y := by unfold putH; rw [if_pos h, if_pos e]
theorem putH_at {H : Hp} {x y : Vl} {j m : Nat} (h : putB H x (j : Nat) = true) (e : j ≠ lenH H x) (hm : x.n = (m : Nat)) (hml : m < H.length) : putH H x (j : Nat) y = H.set m ⟨H[m].ob, H[m].nm, H[m].ls.set j y⟩ := by
  unfold putH
  rw [if_pos h, if_neg (by omega), show x.n.toNat = m by omega]
  exact modH_set _ hml
set_option maxRecDepth 100000 in
set_option maxHeartbeats 8000000 in
theorem dput_any {hb : Nat} {H : Hp} {vt : Value} {V : List Pv} {W : World} (h : HpAt hb H vt V W) (x : Vl) (i : Int) (y : Vl) (hl : H.length ≤ 2097152) (hls : ∀ t ∈ H, t.ls.length ≤ 2097152) : Calls Tryd.prog 35 #[.pointer (some ⟨hb, 0, none⟩), x.v, .int .i64 i, y.v] W (Chg dAt hb (Hs hb vt V) W (.bool (putB H x i)) (putH H x i y)) := by
  obtain ⟨W0, hW0⟩ : ∃ X, (W.alloc (.cells #[.int .i64 x.kd, .int .i64 x.n, .string x.tx] 23)).alloc (.cells #[.int .i64 y.kd, .int .i64 y.n, .string y.tx] 23) = X := ⟨_, rfl⟩
  have b0 : Below W.heap.size W W0 := by rw [← hW0]; exact belAA _ _ _
  have m0 : W0.heap[W.heap.size]? = some (.cells #[.int .i64 x.kd, .int .i64 x.n, .string x.tx] 23 (0, 0)) := by rw [← hW0]; exact hol _ (hnw _ rfl)
  have r0 : W0.heap[W.heap.size + 1]? = some (.cells #[.int .i64 y.kd, .int .i64 y.n, .string y.tx] 23 (0, 0)) := by rw [← hW0]; exact hnw _ (by simp)
  have h0 := h.keep (W' := W0) (fun b hb' => b0.block b (h.lt b hb'))
  have CL := dis_any h0 x false (by omega)
  have CN : Hid (∀ X, HpAt hb H vt V X → Calls Tryd.prog 39 #[.pointer (some ⟨hb, 0, none⟩), x.v] X fun e W' => e = .returned (.int .i64 (lenH H x : Nat)) ∧ Below X.heap.size X W') := fun X hX => dlen_any hX x (by omega)
  have CP : Hid (∀ X, HpAt hb H vt V X → Calls Tryd.prog 36 #[.pointer (some ⟨hb, 0, none⟩), x.v, y.v] X (Chg dAt hb (Hs hb vt V) X (.bool (isH H x false)) (pshH H x y))) := fun X hX => dpsh_any hX x y hl hls
  obtain ⟨n0, n1, n2⟩ := box3 m0
  have hbl := h.lt
  have HBL : Hid (∀ b, Hs hb vt V b → b < W.heap.size) := hbl
  unfold Vl.v at CL CN CP ⊢
  have B0 : Hid (Below W.heap.size W W0) := b0
  have M0 : Hid (W0.heap[W.heap.size]? = some (.cells #[.int .i64 x.kd, .int .i64 x.n, .string x.tx] 23 (0, 0))) := m0
  have R0 : Hid (W0.heap[W.heap.size + 1]? = some (.cells #[.int .i64 y.kd, .int .i64 y.n, .string y.tx] 23 (0, 0))) := r0
  have H0 : Hid (HpAt hb H vt V W0) := h0
  have HL : Hid (∀ t ∈ H, t.ls.length ≤ 2097152) := hls
  clear b0 m0 r0 h h0 hbl hls
  go_enter Tryd.func35, Tryd.ntmps35
  go_wp2_with fail
  go_at_call 51
  refine CL.mono ?_
  rintro e W1 ⟨rfl, b1⟩
  clear CL hW0 n0 n1 n2
  have B1 : Hid (Below W.heap.size W W1) := B0.out.trans (b1.mono B0.out.size)
  have H1 : Hid (HpAt hb H vt V W1) := H0.out.keep (W' := W1) (fun b hb' => b1.block b (H0.out.lt b hb'))
  have M1 : Hid (W1.heap[W.heap.size]? = some (.cells #[.int .i64 x.kd, .int .i64 x.n, .string x.tx] 23 (0, 0))) := (b1.block _ (glt M0.out)).trans M0.out
  have R1 : Hid (W1.heap[W.heap.size + 1]? = some (.cells #[.int .i64 y.kd, .int .i64 y.n, .string y.tx] 23 (0, 0))) := (b1.block _ (glt R0.out)).trans R0.out
  clear b1 H0 M0 R0
  cases hi : isH H x false with
  | false =>
    have HB : Hid (putB H x i = false) := putB_no hi
    go_wp2
    go_ret
    exact ⟨by rw [HB.out]; rfl, _, ⟨vt, V, by rw [putH_no HB.out]; exact H1.out, fun b => Iff.rfl⟩, Kv.of B1.out, fun b q => .inl q⟩
  | true =>
    have HI : Hid (isH H x false = true) := hi
    clear hi
    by_cases hi0 : i < 0
    · have HB : Hid (putB H x i = false) := putB_neg hi0
      go_wp2
      go_ret
      exact ⟨by rw [HB.out]; rfl, _, ⟨vt, V, by rw [putH_no HB.out]; exact H1.out, fun b => Iff.rfl⟩, Kv.of B1.out, fun b q => .inl q⟩
    obtain ⟨n0, n1, n2⟩ := box3 M1.out
    have CN1 := CN.out W1 H1.out
    go_wp2_with fail
    go_at_call 39
    refine CN1.mono ?_
    rintro e W2 ⟨rfl, b2⟩
    clear CN1 n0 n1 n2
    have B2 : Hid (Below W.heap.size W W2) := B1.out.trans (b2.mono B1.out.size)
    have H2 : Hid (HpAt hb H vt V W2) := H1.out.keep (W' := W2) (fun b hb' => b2.block b (H1.out.lt b hb'))
    have M2 : Hid (W2.heap[W.heap.size]? = some (.cells #[.int .i64 x.kd, .int .i64 x.n, .string x.tx] 23 (0, 0))) := (b2.block _ (glt M1.out)).trans M1.out
    have R2 : Hid (W2.heap[W.heap.size + 1]? = some (.cells #[.int .i64 y.kd, .int .i64 y.n, .string y.tx] 23 (0, 0))) := (b2.block _ (glt R1.out)).trans R1.out
    clear b2 H1 M1 R1 B1
    by_cases hf : ((lenH H x : Nat) : Int) < i
    · have HB : Hid (putB H x i = false) := putB_far hf
      go_wp2
      go_ret
      exact ⟨by rw [HB.out]; rfl, _, ⟨vt, V, by rw [putH_no HB.out]; exact H2.out, fun b => Iff.rfl⟩, Kv.of B2.out, fun b q => .inl q⟩
    have HB : Hid (putB H x i = true) := putB_yes HI.out (by omega) (by omega)
    obtain ⟨n0, n1, n2⟩ := box3 M2.out
    have CN2 := CN.out W2 H2.out
    go_wp2_with fail
    go_at_call 39
    refine CN2.mono ?_
    rintro e W3 ⟨rfl, b3⟩
    clear CN2 n0 n1 n2
    have B3 : Hid (Below W.heap.size W W3) := B2.out.trans (b3.mono B2.out.size)
    have H3 : Hid (HpAt hb H vt V W3) := H2.out.keep (W' := W3) (fun b hb' => b3.block b (H2.out.lt b hb'))
    have M3 : Hid (W3.heap[W.heap.size]? = some (.cells #[.int .i64 x.kd, .int .i64 x.n, .string x.tx] 23 (0, 0))) := (b3.block _ (glt M2.out)).trans M2.out
    have R3 : Hid (W3.heap[W.heap.size + 1]? = some (.cells #[.int .i64 y.kd, .int .i64 y.n, .string y.tx] 23 (0, 0))) := (b3.block _ (glt R2.out)).trans R2.out
    clear b3 H2 M2 R2 B2
    obtain ⟨n0, n1, n2⟩ := box3 M3.out
    obtain ⟨u0, u1, u2⟩ := box3 R3.out
    by_cases he : i = ((lenH H x : Nat) : Int)
    · have HE : Hid (putH H x i y = pshH H x y) := putH_end HB.out he
      have CP1 := CP.out W3 H3.out
      go_wp2_with fail
      go_at_call 36
      refine CP1.mono ?_
      rintro e W4 ⟨rfl, S', a4, v4, f4⟩
      have A4 : Hid (_) := a4
      have V4 : Hid (_) := v4
      have F4 : Hid (_) := f4
      clear CP1 a4 v4 f4
      go_wp2
      go_ret
      exact ⟨by rw [HB.out, HI.out]; rfl, S', by rw [HE.out]; exact A4.out, (Kv.of B3.out).trans V4.out (fun _ _ q => q), fun b q => (F4.out b q).imp id (fun q => Nat.le_trans B3.out.size q)⟩
    · obtain ⟨_, m, hm, hml, hob⟩ := isH_true HI.out
      obtain ⟨j, rfl⟩ : ∃ j : Nat, i = (j : Nat) := ⟨i.toNat, by omega⟩
      have LE : Hid (lenH H x = H[m].ls.length) := lenH_at HI.out hm hml
      have hj : j < H[m].ls.length := by rw [← LE.out]; omega
      have HE : Hid (putH H x (j : Nat) y = H.set m ⟨H[m].ob, H[m].nm, H[m].ls.set j y⟩) := putH_at HB.out (by omega) hm hml
      have h3 := H3.out
      rw [hm] at n1
      obtain ⟨g, c, h2, e, ⟨t0, t1, t2⟩, _, hg⟩ := h3.thing hml
      obtain ⟨g2, c2, e2, ⟨v0, v1, v2⟩, fz, hg2⟩ := ls_at (h3.l m hml h2) hj
      rw [e2] at t2
      have k1 : g < W.heap.size := HBL.out g (.inr (.inl (by rw [e]; rfl)))
      have s2 : Hs hb vt V g2 := .inr (.inr ⟨V[m], List.getElem_mem h2, .inr (by rw [e2]; rfl)⟩)
      have k2 : g2 < W.heap.size := HBL.out g2 s2
      have k3 : hb < W.heap.size := HBL.out hb (.inl rfl)
      have d1 : hb ≠ g2 := fun r => row_block (h3.l m hml h2) h3.h (by decide) (by rw [e2, r]; rfl)
      have d2 : g ≠ g2 := fun r => row_apart (h3.l m hml h2) h3.t (by decide) (b := g) (by rw [e2, r]; rfl) (by rw [e]; rfl)
      have PP : Hid (_) := h3.put hml h2 e2 hj y
      have S2 : Hid (Hs hb vt V g2) := s2
      subst e
      have c0 := h3.cell.1
      have hlt : (m : Int) < (H.length : Int) := by omega
      have hjl : (j : Int) < (H[m].ls.length : Int) := by omega
      have y0 := fz (j * 3)
      have y1 := fz (j * 3 + 1)
      have y2 := fz (j * 3 + 2)
      clear h3 fz e2 s2
      generalize H[m].ls[j] = zz at *
      generalize H[m].ls.length = ln at *
      go_wp2_with fail
      refine region_held (fun X => ((X.cell? ⟨W.heap.size, 1, none⟩ = some (.int .i64 (m : Nat)) ∧ X.cell? ⟨hb, 0, none⟩ = some (.slice (some ⟨g, 0, none⟩) H.length c)) ∧ X.cell? ⟨g, m * 3 + 2, none⟩ = some (.slice (some ⟨g2, 0, none⟩) ln c2)) ∧ (X.cell? ⟨W.heap.size + 1, 0, none⟩ = some (.int .i64 y.kd) ∧ X.cell? ⟨W.heap.size + 1, 1, none⟩ = some (.int .i64 y.n) ∧ X.cell? ⟨W.heap.size + 1, 2, none⟩ = some (.string y.tx))) (by kernel_rfl) ⟨⟨⟨n1, c0⟩, t2⟩, u0, u1, u2⟩ (fun hS => ?_)
      refine tH 0 ?_
      simp only [List.set]
      refine tH 1 ?_
      simp only [List.set]
      refine tH 2 ?_
      simp only [List.set]
      refine tH 3 ?_
      simp only [List.set]
      refine tH 4 ?_
      simp only [List.set]
      refine tH 5 ?_
      simp only [List.set]
      refine tH 6 ?_
      simp only [List.set]
      refine tH 7 ?_
      simp only [List.set]
      refine tH 8 ?_
      simp only [List.set]
      refine tH 9 ?_
      simp only [List.set]
      refine tH 10 ?_
      simp only [List.set]
      refine tH 11 ?_
      simp only [List.set]
      refine wpAnyH_ready (rs := [12]) (by kernel_rfl) (by simp) ?_
      refine AllReadyH.cons rfl (fun K hK => ?_) AllReadyH.nil
      go_simp
      refine hK.out _ _ ⟨⟨⟨set3_cell _ _ _ (by omega) n1, set3_cell _ _ _ d1 c0⟩, set3_cell _ _ _ d2 t2⟩, set3_cell _ _ _ (by omega) u0, set3_cell _ _ _ (by omega) u1, set3_cell _ _ _ (by omega) u2⟩ (fun hS => ?_)
      clear hK K
      refine wpAnyH_done (by kernel_rfl) ?_ _
      clear n0 n1 n2 t0 t1 t2 v0 v1 v2 c0 hS u0 u1 u2 y0 y1 y2
      go_wp2
      go_ret
      refine ⟨by rw [HB.out]; rfl, _, ⟨_, _, by rw [HE.out]; exact PP.out.keep (fun _ _ => rfl), fun b => Iff.rfl⟩, ?_, fun b q => .inl q⟩
      have b3 := B3.out
      refine ⟨b3.os, b3.tape, b3.output, by have := b3.size; simpa [World.setCell] using this, fun k hk ns => ?_⟩
      have nk : k ≠ g2 := fun r => ns (by rw [r]; exact S2.out)
      exact (set3_far _ _ _ nk).trans (b3.block k hk)
end Go.Proofs.YtlijplbaefaeaaaDoor
