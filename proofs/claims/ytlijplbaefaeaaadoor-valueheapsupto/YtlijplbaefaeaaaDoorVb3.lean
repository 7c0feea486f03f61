/- Own text. The document's heap: At. -/
import Derived.Test.YtlijplbaefaeaaaDoorVb2
namespace Go.Proofs.YtlijplbaefaeaaaDoor
open Go.RowKit
set_option linter.unusedVariables false
set_option linter.unusedSimpArgs false

theorem res_vb {fn : Func} {p q : Nat} (h : fn.results = #[.cell p 23, .tmp q]) {W : World} {n : Nat} {a b c u : Value} {t : TypeId} {tmps : Array Value} (hb : W.heap[n]? = some (.cells #[a, b, c] t (0, 0))) (ht : tmps[p]?.getD undef = .pointer (some ⟨n, 0, none⟩)) (hq : tmps[q]?.getD undef = u) :
    (results fn tmps).run Tryd.prog W = .ok (.tuple #[.agg #[a, b, c], u]) W := by
  have c0 : W.cell? ⟨n, 0, none⟩ = some a := by simp [World.cell?, hb]
  have c1 : W.cell? ⟨n, 1, none⟩ = some b := by simp [World.cell?, hb]
  have c2 : W.cell? ⟨n, 2, none⟩ = some c := by simp [World.cell?, hb]
  simp [results, h, go_sem, ht, hq, c0, c1, c2]
theorem set3_same {X : World} {b : Nat} {p q r : Value} {t : TypeId} (p' q' r' : Value) (h : X.heap[b]? = some (.cells #[p, q, r] t (0, 0))) : (((X.setCell ⟨b, 0, none⟩ p').setCell ⟨b, 1, none⟩ q').setCell ⟨b, 2, none⟩ r').heap[b]? = some (.cells #[p', q', r'] t (0, 0)) := by
  simp [World.setCell, Array.getElem?_modify, h]
theorem set3_far {X : World} {b k o0 o1 o2 : Nat} (p q r : Value) (h : k ≠ b) : (((X.setCell ⟨b, o0, none⟩ p).setCell ⟨b, o1, none⟩ q).setCell ⟨b, o2, none⟩ r).heap[k]? = X.heap[k]? := by
  rw [Below.heap_setCell _ _ _ _ h, Below.heap_setCell _ _ _ _ h, Below.heap_setCell _ _ _ _ h]
theorem set3_cell {X : World} {b k o0 o1 o2 i : Nat} {v : Value} (p q r : Value) (h : k ≠ b) (c : X.cell? ⟨k, i, none⟩ = some v) : (((X.setCell ⟨b, o0, none⟩ p).setCell ⟨b, o1, none⟩ q).setCell ⟨b, o2, none⟩ r).cell? ⟨k, i, none⟩ = some v :=
  (World.cell?_of_block (a := ⟨k, i, none⟩) (set3_far p q r h)).trans c
theorem set3_bel {B : Nat} {W X : World} {b o0 o1 o2 : Nat} (p q r : Value) (h : Below B W X) (hb : B ≤ b) : Below B W (((X.setCell ⟨b, o0, none⟩ p).setCell ⟨b, o1, none⟩ q).setCell ⟨b, o2, none⟩ r) :=
  ⟨h.os, h.tape, h.output, by simpa [World.setCell] using h.size, fun k hk => (set3_far p q r (by omega)).trans (h.block k hk)⟩
theorem free3 {w : World} {b : Nat} {p q r : Value} {t : TypeId} (h : w.heap[b]? = some (.cells #[p, q, r] t (0, 0))) : (w.cell? ⟨b, 0, none⟩ = some p ∧ w.cell? ⟨b, 1, none⟩ = some q ∧ w.cell? ⟨b, 2, none⟩ = some r) ∧ (w.frozen? ⟨b, 0, none⟩ = false ∧ w.frozen? ⟨b, 1, none⟩ = false ∧ w.frozen? ⟨b, 2, none⟩ = false) := by
  simp [World.cell?, World.frozen?, h]
theorem atH_neg {H : Hp} {x : Vl} {i : Int} (h : i < 0) : atH H x i = none := by unfold atH; rw [if_neg (fun w => by omega)]
theorem atH_far {H : Hp} {x : Vl} {i : Int} (h : (lenH H x : Int) ≤ i) : atH H x i = none := by
  unfold atH
  by_cases hi : isH H x false = true
  · obtain ⟨_, m, hm, hml, _⟩ := isH_true hi
    rw [lenH_at hi hm hml] at h
    rw [if_pos ⟨hi, by omega⟩, show x.n.toNat = m by omega, List.getElem?_eq_getElem hml]
    show H[m].ls[i.toNat]? = none
    exact List.getElem?_eq_none (by omega)
  · rw [if_neg (fun w => hi w.1)]
theorem atH_at {H : Hp} {x : Vl} (hi : isH H x false = true) {m j : Nat} (hm : x.n = (m : Nat)) (hml : m < H.length) (hj : j < H[m].ls.length) : atH H x (j : Nat) = some H[m].ls[j] := by
  unfold atH
  rw [if_pos ⟨hi, by omega⟩, show x.n.toNat = m by omega, List.getElem?_eq_getElem hml]
  show H[m].ls[((j : Nat) : Int).toNat]? = _
  rw [Int.toNat_natCast, List.getElem?_eq_getElem hj]
theorem ls_at {W : World} {v : Value} {l : List Vl} (h : W.ownsRow 0 23 3 v l.length (l.flatMap Vl.cs)) {j : Nat} (hj : j < l.length) : ∃ g c, v = .slice (some ⟨g, 0, none⟩) l.length c ∧ (W.cell? ⟨g, j * 3, none⟩ = some (.int .i64 l[j].kd) ∧ W.cell? ⟨g, j * 3 + 1, none⟩ = some (.int .i64 l[j].n) ∧ W.cell? ⟨g, j * 3 + 2, none⟩ = some (.string l[j].tx)) ∧ (∀ i, W.frozen? ⟨g, i, none⟩ = false) ∧ g < W.heap.size := by
  obtain ⟨g, c, e, _, hg⟩ := h.form (by omega)
  rw [e] at h
  have cc := fun i (hi : i < 3) => (h.cellAt (j * 3 + i) (by omega)).trans (row_get l j hj i hi)
  exact ⟨g, c, e, ⟨cc 0 (by omega), cc 1 (by omega), cc 2 (by omega)⟩, fun i => h.frozenAt i, hg⟩
set_option maxRecDepth 100000 in
set_option maxHeartbeats 8000000 in
theorem dat_any {hb : Nat} {H : Hp} {vt : Value} {V : List Pv} {W : World} (h : HpAt hb H vt V W) (x : Vl) (i : Int) (hl : H.length ≤ 4194304) (hls : ∀ t ∈ H, t.ls.length ≤ 4194304) : Calls Tryd.prog 38 #[.pointer (some ⟨hb, 0, none⟩), x.v, .int .i64 i] W fun e W' => e = .returned (optV (atH H x i)) ∧ Below W.heap.size W W' := by
  obtain ⟨W0, hW0⟩ : ∃ X, (W.alloc (.cells #[.int .i64 x.kd, .int .i64 x.n, .string x.tx] 23)).alloc (.cells #[.int .i64 0, .int .i64 0, .string ⟨#[]⟩] 23) = X := ⟨_, rfl⟩
  have b0 : Below W.heap.size W W0 := by rw [← hW0]; exact belAA _ _ _
  have m0 : W0.heap[W.heap.size]? = some (.cells #[.int .i64 x.kd, .int .i64 x.n, .string x.tx] 23 (0, 0)) := by rw [← hW0]; exact hol _ (hnw _ rfl)
  have r0 : W0.heap[W.heap.size + 1]? = some (.cells #[.int .i64 0, .int .i64 0, .string ⟨#[]⟩] 23 (0, 0)) := by rw [← hW0]; exact hnw _ (by simp)
  have h0 := h.keep (W' := W0) (fun b hb' => b0.block b (h.lt b hb'))
  have CL := dlen_any h0 x hl
  obtain ⟨n0, n1, n2⟩ := box3 m0
  obtain ⟨⟨q0, q1, q2⟩, z0, z1, z2⟩ := free3 r0
  have hbl := h.lt
  have HBL : Hid (∀ b, Hs hb vt V b → b < W.heap.size) := hbl
  unfold Vl.v at CL ⊢
  have B0 : Hid (Below W.heap.size W W0) := b0
  have M0 : Hid (W0.heap[W.heap.size]? = some (.cells #[.int .i64 x.kd, .int .i64 x.n, .string x.tx] 23 (0, 0))) := m0
  have R0 : Hid (W0.heap[W.heap.size + 1]? = some (.cells #[.int .i64 0, .int .i64 0, .string ⟨#[]⟩] 23 (0, 0))) := r0
  have H0 : Hid (HpAt hb H vt V W0) := h0
  clear b0 m0 r0 h h0 hbl
  go_enter Tryd.func38, Tryd.ntmps38
  by_cases hi0 : i < 0
  · have HR : Hid (atH H x i = none) := atH_neg hi0
    go_wp2
    refine bodyPost_ret (res_vb Tryd.results38 (set3_same _ _ _ R0.out) rfl rfl) rfl ⟨?_, set3_bel _ _ _ B0.out (by omega)⟩
    rw [HR.out]
    rfl
  · go_wp2_with fail
    go_at_call 39
    refine CL.mono ?_
    rintro e W1 ⟨rfl, b1⟩
    clear CL hW0 n0 n1 n2 q0 q1 q2 z0 z1 z2
    have B1 : Hid (Below W.heap.size W W1) := B0.out.trans (b1.mono B0.out.size)
    have r1 := (b1.block _ (glt R0.out)).trans R0.out
    have R1 : Hid (W1.heap[W.heap.size + 1]? = some (.cells #[.int .i64 0, .int .i64 0, .string ⟨#[]⟩] 23 (0, 0))) := r1
    obtain ⟨⟨q0, q1, q2⟩, z0, z1, z2⟩ := free3 r1
    by_cases hf : (lenH H x : Int) ≤ i
    · have HR : Hid (atH H x i = none) := atH_far hf
      clear b1 r1
      go_wp2
      refine bodyPost_ret (res_vb Tryd.results38 (set3_same _ _ _ R1.out) rfl rfl) rfl ⟨?_, set3_bel _ _ _ B1.out (by omega)⟩
      rw [HR.out]
      rfl
    · have hi : isH H x false = true := by
        cases q : isH H x false with
        | true => rfl
        | false => rw [lenH_no q] at hf; omega
      obtain ⟨_, m, hm, hml, _⟩ := isH_true hi
      obtain ⟨j, rfl⟩ : ∃ j : Nat, i = (j : Nat) := ⟨i.toNat, by omega⟩
      have hj : j < H[m].ls.length := by rw [lenH_at hi hm hml] at hf; omega
      have HR : Hid (atH H x (j : Nat) = some H[m].ls[j]) := atH_at hi hm hml hj
      have h1 := H0.out.keep (W' := W1) (fun b hb' => b1.block b (H0.out.lt b hb'))
      have m1 := (b1.block _ (glt M0.out)).trans M0.out
      obtain ⟨n0, n1, n2⟩ := box3 m1
      rw [hm] at n1
      obtain ⟨g, c, h2, e, ⟨t0, t1, t2⟩, _, hg⟩ := h1.thing hml
      obtain ⟨g2, c2, e2, ⟨v0, v1, v2⟩, _, hg2⟩ := ls_at (h1.l m hml h2) hj
      rw [e2] at t2
      have k1 : g < W.heap.size := HBL.out g (.inr (.inl (by rw [e]; rfl)))
      have k2 : g2 < W.heap.size := HBL.out g2 (.inr (.inr ⟨V[m], List.getElem_mem h2, .inr (by rw [e2]; rfl)⟩))
      have k3 : hb < W.heap.size := HBL.out hb (.inl rfl)
      subst e
      have c0 := h1.cell.1
      have hlt : (m : Int) < (H.length : Int) := by omega
      have hjl : (j : Int) < (H[m].ls.length : Int) := by omega
      have hf' : ¬ ((lenH H x : Nat) : Int) ≤ ((j : Nat) : Int) := hf
      generalize lenH H x = lh at *
      generalize H[m].ls[j] = y at *
      generalize H[m].ls.length = ln at *
      clear b1 m1 h1 M0 H0 hi r1 hf
      go_wp2_with fail
      refine region_held (fun X => ((X.cell? ⟨W.heap.size, 1, none⟩ = some (.int .i64 (m : Nat)) ∧ X.cell? ⟨hb, 0, none⟩ = some (.slice (some ⟨g, 0, none⟩) H.length c)) ∧ X.cell? ⟨g, m * 3 + 2, none⟩ = some (.slice (some ⟨g2, 0, none⟩) ln c2)) ∧ (X.cell? ⟨g2, j * 3, none⟩ = some (.int .i64 y.kd) ∧ X.cell? ⟨g2, j * 3 + 1, none⟩ = some (.int .i64 y.n) ∧ X.cell? ⟨g2, j * 3 + 2, none⟩ = some (.string y.tx))) (by kernel_rfl) ⟨⟨⟨n1, c0⟩, t2⟩, v0, v1, v2⟩ (fun hS => ?_)
      refine tH 0 ?_
      simp only [List.set]
      refine tH 1 ?_
      simp only [List.set]
      refine tH 2 ?_
      simp only [List.set]
      refine tH 3 ?_
      simp only [List.set]
      refine tH 4 ?_
      simp only [List.set]
      refine tH 5 ?_
      simp only [List.set]
      refine tH 6 ?_
      simp only [List.set]
      refine tH 7 ?_
      simp only [List.set]
      refine tH 8 ?_
      simp only [List.set]
      refine tH 9 ?_
      simp only [List.set]
      refine tH 10 ?_
      simp only [List.set]
      refine tH 11 ?_
      simp only [List.set]
      refine wpAnyH_ready (rs := [12]) (by kernel_rfl) (by simp) ?_
      refine AllReadyH.cons rfl (fun K hK => ?_) AllReadyH.nil
      go_simp
      refine hK.out _ _ ⟨⟨⟨set3_cell _ _ _ (by omega) n1, set3_cell _ _ _ (by omega) c0⟩, set3_cell _ _ _ (by omega) t2⟩, set3_cell _ _ _ (by omega) v0, set3_cell _ _ _ (by omega) v1, set3_cell _ _ _ (by omega) v2⟩ (fun hS => ?_)
      clear hK K
      refine tH 13 ?_
      simp only [List.set]
      refine wpAnyH_done (by kernel_rfl) ?_ _
      clear q0 q1 q2 z0 z1 z2 n0 n1 n2 t0 t1 t2 v0 v1 v2 c0 hS
      go_wp2
      refine bodyPost_ret (res_vb Tryd.results38 (set3_same _ _ _ R1.out) rfl rfl) rfl ⟨?_, (set3_bel _ _ _ B1.out (by omega)).drew⟩
      rw [HR.out]
      rfl
end Go.Proofs.YtlijplbaefaeaaaDoor
