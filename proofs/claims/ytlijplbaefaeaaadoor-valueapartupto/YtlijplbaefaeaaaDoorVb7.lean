/- Own text. The document's heap: Get. -/
import Derived.Test.YtlijplbaefaeaaaDoorVb6
namespace Go.Proofs.YtlijplbaefaeaaaDoor
open Go.RowKit
set_option linter.unusedVariables false
set_option linter.unusedSimpArgs false

theorem getH_no {H : Hp} {x : Vl} {s : ByteArray} (h : isH H x true = false) : getH H x s = none := by unfold getH; rw [h]; rfl
theorem getH_at {H : Hp} {x : Vl} {s : ByteArray} (h : isH H x true = true) {m : Nat} (hm : x.n = (m : Nat)) (hml : m < H.length) : getH H x s = H[m].ls[posN H[m].nm s]? := by
  unfold getH
  rw [if_pos h, show x.n.toNat = m by omega, List.getElem?_eq_getElem hml]
  rfl
theorem posN_at {l : List ByteArray} {s : ByteArray} {k : Nat} (hk : k < l.length) (h : ∀ j (hj : j < l.length), j < k → eqB l[j] s = false) (e : eqB l[k] s = true) : posN l s = k := by
  unfold posN
  exact (List.findIdx_eq hk).2 ⟨e, fun j hj => h j (by omega) hj⟩
theorem posN_no {l : List ByteArray} {s : ByteArray} (h : ∀ j (hj : j < l.length), j < l.length → eqB l[j] s = false) : posN l s = l.length := by
  unfold posN
  rw [List.findIdx_eq_length]
  intro x hx
  obtain ⟨j, hj, rfl⟩ := List.mem_iff_getElem.1 hx
  exact h j hj hj
theorem nm_at {W : World} {v : Value} {l : List ByteArray} (h : W.ownsRow 0 9 1 v l.length (l.map .string)) {j : Nat} (hj : j < l.length) : ∃ g c, v = .slice (some ⟨g, 0, none⟩) l.length c ∧ W.cell? ⟨g, j, none⟩ = some (.string l[j]) := by
  obtain ⟨g, c, e, _, hg⟩ := h.form (by omega)
  rw [e] at h
  exact ⟨g, c, e, by rw [h.cellAt j (by omega)]; simp [hj]⟩
set_option maxRecDepth 100000 in
set_option maxHeartbeats 8000000 in
theorem dget_any {hb : Nat} {H : Hp} {vt : Value} {V : List Pv} {W : World} (h : HpAt hb H vt V W) (x : Vl) (s : ByteArray) (hl : H.length ≤ 2097152) (hls : ∀ t ∈ H, t.nm.length ≤ 2097152) : Calls Tryd.prog 37 #[.pointer (some ⟨hb, 0, none⟩), x.v, .string s] W fun e W' => e = .returned (optV (getH H x s)) ∧ Below W.heap.size W W' := by
  obtain ⟨W0, hW0⟩ : ∃ X, (W.alloc (.cells #[.int .i64 x.kd, .int .i64 x.n, .string x.tx] 23)).alloc (.cells #[.int .i64 0, .int .i64 0, .string ⟨#[]⟩] 23) = X := ⟨_, rfl⟩
  have b0 : Below W.heap.size W W0 := by rw [← hW0]; exact belAA _ _ _
  have m0 : W0.heap[W.heap.size]? = some (.cells #[.int .i64 x.kd, .int .i64 x.n, .string x.tx] 23 (0, 0)) := by rw [← hW0]; exact hol _ (hnw _ rfl)
  have r0 : W0.heap[W.heap.size + 1]? = some (.cells #[.int .i64 0, .int .i64 0, .string ⟨#[]⟩] 23 (0, 0)) := by rw [← hW0]; exact hnw _ (by simp)
  have h0 := h.keep (W' := W0) (fun b hb' => b0.block b (h.lt b hb'))
  have CL := dis_any h0 x true (by omega)
  obtain ⟨n0, n1, n2⟩ := box3 m0
  have hbl := h.lt
  have HBL : Hid (∀ b, Hs hb vt V b → b < W.heap.size) := hbl
  unfold Vl.v at CL ⊢
  have B0 : Hid (Below W.heap.size W W0) := b0
  have M0 : Hid (W0.heap[W.heap.size]? = some (.cells #[.int .i64 x.kd, .int .i64 x.n, .string x.tx] 23 (0, 0))) := m0
  have R0 : Hid (W0.heap[W.heap.size + 1]? = some (.cells #[.int .i64 0, .int .i64 0, .string ⟨#[]⟩] 23 (0, 0))) := r0
  have H0 : Hid (HpAt hb H vt V W0) := h0
  have HL : Hid (∀ t ∈ H, t.nm.length ≤ 2097152) := hls
  clear b0 m0 r0 h h0 hbl hls
  go_enter Tryd.func37, Tryd.ntmps37
  go_wp2_with fail
  go_at_call 51
  refine CL.mono ?_
  rintro e W1 ⟨rfl, b1⟩
  clear CL hW0 n0 n1 n2
  have B1 : Hid (Below W.heap.size W W1) := B0.out.trans (b1.mono B0.out.size)
  have h1 := H0.out.keep (W' := W1) (fun b hb' => b1.block b (H0.out.lt b hb'))
  have r1 := (b1.block _ (glt R0.out)).trans R0.out
  have R1 : Hid (W1.heap[W.heap.size + 1]? = some (.cells #[.int .i64 0, .int .i64 0, .string ⟨#[]⟩] 23 (0, 0))) := r1
  cases hi : isH H x true with
  | false =>
    have HR : Hid (getH H x s = none) := getH_no hi
    obtain ⟨⟨q0, q1, q2⟩, z0, z1, z2⟩ := free3 r1
    clear h1 b1 r1
    go_wp2
    refine bodyPost_ret (res_vb Tryd.results37 (set3_same _ _ _ R1.out) rfl rfl) rfl ⟨?_, set3_bel _ _ _ B1.out (by omega)⟩
    rw [HR.out]
    rfl
  | true =>
    obtain ⟨_, m, hm, hml, hob⟩ := isH_true hi
    have HR : Hid (getH H x s = H[m].ls[posN H[m].nm s]?) := getH_at hi hm hml
    have m1 := (b1.block _ (glt M0.out)).trans M0.out
    obtain ⟨n0, n1, n2⟩ := box3 m1
    rw [hm] at n1
    obtain ⟨g, c, h2, e, ⟨t0, t1, t2⟩, zz, hg⟩ := h1.thing hml
    obtain ⟨A1, d1, e1⟩ := vform (h1.n m hml h2)
    obtain ⟨A2, d2, e2⟩ := vform (h1.l m hml h2)
    rw [e1] at t1
    rw [e2] at t2
    rw [hob] at t0
    have HI : Hid (isH H x true = true) := hi
    have E1 : Hid (V[m].1 = .slice A1 H[m].nm.length d1) := e1
    have E2 : Hid (V[m].2 = .slice A2 H[m].ls.length d2) := e2
    have NL : H[m].nm.length = H[m].ls.length := h1.ok _ (List.getElem_mem hml) hob
    have LS : H[m].nm.length ≤ 2097152 := HL.out _ (List.getElem_mem hml)
    have k1 : g < W.heap.size := HBL.out g (.inr (.inl (by rw [e]; rfl)))
    have k3 : hb < W.heap.size := HBL.out hb (.inl rfl)
    subst e
    have H1 : Hid (HpAt hb H (.slice (some ⟨g, 0, none⟩) H.length c) V W1) := h1
    have c0 := h1.cell.1
    have hlt : (m : Int) < (H.length : Int) := by omega
    clear b1 m1 h1 M0 H0 hi zz hob e1 e2 r1
    generalize hln : H[m].ls.length = ln at *
    generalize hmn : H[m].nm.length = mn at *
    have LN : Hid (H[m].ls.length = ln) := hln
    have MN : Hid (H[m].nm.length = mn) := hmn
    have NM : Hid (mn = ln) := NL
    clear hln hmn NL
    go_wp2_with fail
    refine region_held (fun X => (X.cell? ⟨W.heap.size, 1, none⟩ = some (.int .i64 (m : Nat)) ∧ X.cell? ⟨hb, 0, none⟩ = some (.slice (some ⟨g, 0, none⟩) H.length c)) ∧ (X.cell? ⟨g, m * 3, none⟩ = some (.bool true) ∧ X.cell? ⟨g, m * 3 + 1, none⟩ = some (.slice A1 mn d1) ∧ X.cell? ⟨g, m * 3 + 2, none⟩ = some (.slice A2 ln d2))) (by kernel_rfl) ⟨⟨n1, c0⟩, t0, t1, t2⟩ (fun hS => ?_)
    refine tH 0 ?_
    simp only [List.set]
    refine tH 1 ?_
    simp only [List.set]
    refine tH 2 ?_
    simp only [List.set]
    refine tH 3 ?_
    simp only [List.set]
    refine tH 4 ?_
    simp only [List.set]
    refine tH 5 ?_
    simp only [List.set]
    refine tH 6 ?_
    simp only [List.set]
    refine tH 7 ?_
    simp only [List.set]
    refine wpAnyH_ready (rs := [8]) (by kernel_rfl) (by simp) ?_
    refine AllReadyH.cons rfl (fun K hK => ?_) AllReadyH.nil
    go_simp
    refine hK.out _ _ ⟨⟨al_cell _ n1, al_cell _ c0⟩, al_cell _ t0, al_cell _ t1, al_cell _ t2⟩ (fun hS => ?_)
    clear hK K
    refine wpAnyH_ready (rs := [9]) (by kernel_rfl) (by simp) ?_
    refine AllReadyH.cons rfl (fun K hK => ?_) AllReadyH.nil
    go_simp
    refine hK.out _ _ ⟨⟨al_cell _ n1, al_cell _ c0⟩, al_cell _ t0, al_cell _ t1, al_cell _ t2⟩ (fun hS => ?_)
    clear hK K
    refine wpAnyH_done (by kernel_rfl) ?_ _
    clear hS
    obtain ⟨W2, hW2⟩ : ∃ X, (W1.alloc (.cells #[.bool true, .slice A1 mn d1, .slice A2 ln d2] 77)).drew = X := ⟨_, rfl⟩
    simp only [hW2]
    have b2 : Below W1.heap.size W1 W2 := by rw [← hW2]; exact (belA _ _).drew
    have th : W2.heap[W1.heap.size]? = some (.cells #[.bool true, .slice A1 mn d1, .slice A2 ln d2] 77 (0, 0)) := by rw [← hW2]; exact hnw _ rfl
    have h2w := H1.out.keep (W' := W2) (fun b hb' => b2.block b (H1.out.lt b hb'))
    have r2 := (b2.block _ (glt R1.out)).trans R1.out
    clear hW2 n0 n1 n2 t0 t1 t2 c0
    obtain ⟨⟨p0, p1, p2⟩, -, -, -⟩ := free3 th
    obtain ⟨⟨q0, q1, q2⟩, z0, z1, z2⟩ := free3 r2
    have B2 : Hid (Below W.heap.size W W2) := B1.out.trans (b2.mono B1.out.size)
    have R2 : Hid (W2.heap[W.heap.size + 1]? = some (.cells #[.int .i64 0, .int .i64 0, .string ⟨#[]⟩] 23 (0, 0))) := r2
    have rn : Hid (W2.ownsRow 0 9 1 (.slice A1 mn d1) H[m].nm.length (H[m].nm.map .string)) := by
      have := h2w.n m hml h2
      rw [E1.out] at this
      exact this
    have rl : Hid (W2.ownsRow 0 23 3 (.slice A2 ln d2) H[m].ls.length (H[m].ls.flatMap Vl.cs)) := by
      have := h2w.l m hml h2
      rw [E2.out] at this
      exact this
    have hsz : W.heap.size + 1 < W1.heap.size := glt R1.out
    clear b2 th h2w r2
    go_wp2_with fail
    go_loopw [9] (fun v9 wr => ∃ k : Nat, v9 = .int .i64 (k : Nat) ∧ k ≤ mn ∧ wr = W2 ∧ Hid (∀ j (hj : j < H[m].nm.length), j < k → eqB H[m].nm[j] s = false)) (fun v9 _ => mn - (intOf v9).toNat)
    case atStart => exact ⟨0, rfl, by omega, rfl, fun i hi h => by omega⟩
    case round =>
      obtain ⟨k, rfl, hk, hW, HK⟩ := hrel
      obtain rfl := hW.symm
      by_cases hkl : k < mn
      · have hkm : k < H[m].nm.length := by rw [MN.out]; exact hkl
        have hkn : k < H[m].ls.length := by rw [LN.out, ← NM.out]; exact hkl
        obtain ⟨g1, c1, ea, cn⟩ := nm_at rn.out hkm
        injection ea with ea _ _
        subst ea
        have HN : Hid (eqB H[m].nm[k] s = false → ∀ j (hj : j < H[m].nm.length), j < k + 1 → eqB H[m].nm[j] s = false) := fun h i hi hik => by
          by_cases e : i = k
          · subst e; exact h
          · exact HK.out i hi (by omega)
        have HT : Hid (eqB H[m].nm[k] s = true → getH H x s = some H[m].ls[k]) := fun h => by
          rw [HR.out, posN_at hkm HK.out h, List.getElem?_eq_getElem hkn]
        have hd : (k : Int) < (mn : Int) := by omega
        have hd2 : (k : Int) < (ln : Int) := by have := NM.out; omega
        generalize hz : H[m].nm[k] = z at *
        clear hz
        unfold eqB at HN HT
        cases q : (z.toList == s.toList) with
        | true =>
          obtain ⟨g2, c2, eb, ⟨v0, v1, v2⟩, _, hg2⟩ := ls_at rl.out hkn
          injection eb with eb _ _
          subst eb
          have HR1 : Hid (getH H x s = some H[m].ls[k]) := HT.out q
          clear HN HT HK
          generalize H[m].ls[k] = y at *
          go_wp2
          refine bodyPost_ret (res_vb Tryd.results37 (set3_same _ _ _ R2.out) rfl rfl) rfl ⟨?_, set3_bel _ _ _ B2.out (by omega)⟩
          rw [HR1.out]
          rfl
        | false =>
          have HR' : Hid (∀ j (hj : j < H[m].nm.length), j < k + 1 → eqB H[m].nm[j] s = false) := HN.out q
          clear HN HT HK
          go_wp2
          go_roundw
          case rel => exact ⟨k + 1, by simp, by omega, by trivial, HR'⟩
          case measure => simp [intOf]; omega
      · obtain rfl : k = mn := by omega
        have HR1 : Hid (getH H x s = none) := by
          show _ = _
          rw [HR.out, posN_no (fun j hj h => HK.out j hj (by have := MN.out; omega)), MN.out, NM.out, ← LN.out]
          exact List.getElem?_eq_none (by omega)
        clear HK
        go_wp2
        refine bodyPost_ret (res_vb Tryd.results37 (set3_same _ _ _ R2.out) rfl rfl) rfl ⟨?_, set3_bel _ _ _ B2.out (by omega)⟩
        rw [HR1.out]
        rfl
end Go.Proofs.YtlijplbaefaeaaaDoor
