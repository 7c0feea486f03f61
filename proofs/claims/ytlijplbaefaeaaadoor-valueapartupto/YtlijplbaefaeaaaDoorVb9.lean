/- Own text. The document's heap: Set. -/
import Derived.Test.YtlijplbaefaeaaaDoorVb8
namespace Go.Proofs.YtlijplbaefaeaaaDoor
open Go.RowKit
set_option linter.unusedVariables false
set_option linter.unusedSimpArgs false

theorem info_s : (Tryd.prog.info? 9).map (fun i => (i.zero, i.size, i.bytes)) = some (some (.string ⟨#[]⟩), 1, 16) := by kernel_rfl
theorem setH_no {H : Hp} {x y : Vl} {s : ByteArray} (h : isH H x true = false) : setH H x s y = H := by unfold setH; rw [h]; rfl
theorem setH_at {H : Hp} {x y : Vl} {s : ByteArray} (h : isH H x true = true) {m : Nat} (hm : x.n = (m : Nat)) (hml : m < H.length) : setH H x s y = H.set m (setT H[m] s y) := by
  unfold setH
  rw [if_pos h, show x.n.toNat = m by omega]
  exact modH_set _ hml
theorem setT_at {t : Th} {s : ByteArray} {y : Vl} {k : Nat} (hk : k < t.nm.length) (h : ∀ j (hj : j < t.nm.length), j < k → eqB t.nm[j] s = false) (e : eqB t.nm[k] s = true) : setT t s y = ⟨t.ob, t.nm, t.ls.set k y⟩ := by
  unfold setT
  rw [posN_at hk h e, if_pos hk]
theorem setT_no {t : Th} {s : ByteArray} {y : Vl} (h : ∀ j (hj : j < t.nm.length), j < t.nm.length → eqB t.nm[j] s = false) : setT t s y = ⟨t.ob, t.nm ++ [s], t.ls ++ [y]⟩ := by
  unfold setT
  rw [posN_no h, if_neg (by omega)]
theorem set_one {X : World} {b : Nat} {p q r : Value} {t : TypeId} (q' : Value) (h : X.heap[b]? = some (.cells #[p, q, r] t (0, 0))) : (X.setCell ⟨b, 1, none⟩ q').heap[b]? = some (.cells #[p, q', r] t (0, 0)) := by
  simp [World.setCell, Array.getElem?_modify, h]
theorem set_two {X : World} {b : Nat} {p q r : Value} {t : TypeId} (r' : Value) (h : X.heap[b]? = some (.cells #[p, q, r] t (0, 0))) : (X.setCell ⟨b, 2, none⟩ r').heap[b]? = some (.cells #[p, q, r'] t (0, 0)) := by
  simp [World.setCell, Array.getElem?_modify, h]
theorem HpAt.set2 {hb g c : Nat} {H : Hp} {V : List Pv} {W2 W4 : World} {m : Nat} {s : ByteArray} {y : Vl} (h : HpAt hb H (.slice (some ⟨g, 0, none⟩) H.length c) V W2) (hm : m < H.length) (h2 : m < V.length) {v1 v2 : Value} {tb : Nat}
    (kp : ∀ k, k < W2.heap.size → k ≠ tb → some k ≠ V[m].1.ownBlock → some k ≠ V[m].2.ownBlock → W4.heap[k]? = W2.heap[k]?)
    (o1 : W4.ownsRow 0 9 1 v1 (H[m].nm.length + 1) (H[m].nm.map .string ++ [.string s])) (o2 : W4.ownsRow 0 23 3 v2 (H[m].ls.length + 1) (H[m].ls.flatMap Vl.cs ++ y.cs))
    (f1 : ∀ b, v1.ownBlock = some b → V[m].1.ownBlock = some b ∨ W2.heap.size ≤ b) (f2 : ∀ b, v2.ownBlock = some b → V[m].2.ownBlock = some b ∨ W2.heap.size ≤ b)
    (htb : ¬ Hs hb (.slice (some ⟨g, 0, none⟩) H.length c) V tb) (hob : H[m].ob = true) :
    HpAt hb (H.set m ⟨H[m].ob, H[m].nm ++ [s], H[m].ls ++ [y]⟩) (.slice (some ⟨g, 0, none⟩) H.length c) (V.set m (v1, v2)) (((W4.setCell ⟨g, m * 3, none⟩ (.bool true)).setCell ⟨g, m * 3 + 1, none⟩ v1).setCell ⟨g, m * 3 + 2, none⟩ v2) ∧ (∀ b, Hs hb (.slice (some ⟨g, 0, none⟩) H.length c) (V.set m (v1, v2)) b → Hs hb (.slice (some ⟨g, 0, none⟩) H.length c) V b ∨ W2.heap.size ≤ b) ∧ ∀ k, k < W2.heap.size → k ≠ tb → ¬ Hs hb (.slice (some ⟨g, 0, none⟩) H.length c) V k → (((W4.setCell ⟨g, m * 3, none⟩ (.bool true)).setCell ⟨g, m * 3 + 1, none⟩ v1).setCell ⟨g, m * 3 + 2, none⟩ v2).heap[k]? = W2.heap[k]? := by
  have olt := h.lt
  have far : ∀ k, k ≠ g → (((W4.setCell ⟨g, m * 3, none⟩ (.bool true)).setCell ⟨g, m * 3 + 1, none⟩ v1).setCell ⟨g, m * 3 + 2, none⟩ v2).heap[k]? = W4.heap[k]? := fun k ne => set3_far _ _ _ ne
  have gS : Hs hb (.slice (some ⟨g, 0, none⟩) H.length c) V g := .inr (.inl rfl)
  have vS : ∀ i (hi : i < V.length) b, V[i].1.ownBlock = some b ∨ V[i].2.ownBlock = some b → Hs hb (.slice (some ⟨g, 0, none⟩) H.length c) V b := fun i hi b e => .inr (.inr ⟨_, List.getElem_mem hi, e⟩)
  have hlen := h.len
  have gv1 : ∀ i (hi : i < V.length) b, V[i].1.ownBlock = some b → b ≠ g := fun i hi b e q => row_apart (h.n i (by omega) hi) h.t (by decide) e (by rw [q]; rfl)
  have gv2 : ∀ i (hi : i < V.length) b, V[i].2.ownBlock = some b → b ≠ g := fun i hi b e q => row_apart (h.l i (by omega) hi) h.t (by decide) e (by rw [q]; rfl)
  have nt : ∀ b, Hs hb (.slice (some ⟨g, 0, none⟩) H.length c) V b → b ≠ tb := fun b hb' q => htb (q ▸ hb')
  have r4 := row_same h.t (W' := W4) (fun b e => by cases e; exact kp g (olt g gS) (nt g gS) (fun q => gv1 m h2 g q.symm rfl) (fun q => gv2 m h2 g q.symm rfl))
  refine ⟨h.upd hm h2 _ _ ?_ ?_ ?_ ?_ ?_ f1 f2 (fun q => by simpa using h.ok _ (List.getElem_mem hm) hob), Hs.upd h2 f1 f2, ?_⟩
  · have hg : hb ≠ g := fun q => row_block h.t h.h (by decide) (by rw [q]; rfl)
    rw [far hb hg]
    exact kp hb (olt hb (.inl rfl)) (nt hb (.inl rfl)) (row_block (h.n m hm h2) h.h (by decide)).symm (row_block (h.l m hm h2) h.h (by decide)).symm
  · have := row_set3 (m := m) r4 hm h2 ⟨H[m].ob, H[m].nm ++ [s], H[m].ls ++ [y]⟩ (v1, v2)
    rw [hob] at this ⊢
    exact this
  · intro i hi ne b e
    have hb' := vS i hi b e
    have n1 : some b ≠ V[m].1.ownBlock := fun q => by
      rcases e with e | e
      · exact h.an i m hi h2 ne b e q.symm
      · exact row_apart (h.l i (by omega) hi) (h.n m hm h2) (by decide) e q.symm
    have n2 : some b ≠ V[m].2.ownBlock := fun q => by
      rcases e with e | e
      · exact row_apart (h.n i (by omega) hi) (h.l m hm h2) (by decide) e q.symm
      · exact h.al i m hi h2 ne b e q.symm
    rw [far b (by rcases e with e | e; exact gv1 i hi b e; exact gv2 i hi b e)]
    exact kp b (olt b hb') (nt b hb') n1 n2
  · have := row_same o1 (W' := ((W4.setCell ⟨g, m * 3, none⟩ (.bool true)).setCell ⟨g, m * 3 + 1, none⟩ v1).setCell ⟨g, m * 3 + 2, none⟩ v2) (fun b e => far b (fun r => row_apart o1 r4 (by decide) e (by rw [r]; rfl)))
    simpa using this
  · have := row_same o2 (W' := ((W4.setCell ⟨g, m * 3, none⟩ (.bool true)).setCell ⟨g, m * 3 + 1, none⟩ v1).setCell ⟨g, m * 3 + 2, none⟩ v2) (fun b e => far b (fun r => row_apart o2 r4 (by decide) e (by rw [r]; rfl)))
    simpa using this
  · intro k hk ne ns
    rw [far k (fun q => ns (q ▸ gS))]
    exact kp k hk ne (fun q => ns (vS m h2 k (.inl q.symm))) (fun q => ns (vS m h2 k (.inr q.symm)))
set_option maxRecDepth 100000 in
set_option maxHeartbeats 8000000 in
theorem dset_any {hb : Nat} {H : Hp} {vt : Value} {V : List Pv} {W : World} (h : HpAt hb H vt V W) (x : Vl) (s : ByteArray) (y : Vl) (hl : H.length ≤ 4194304) (hls : ∀ t ∈ H, t.nm.length ≤ 2097152) : Calls Tryd.prog 34 #[.pointer (some ⟨hb, 0, none⟩), x.v, .string s, y.v] W (Chg dAt hb (Hs hb vt V) W (.bool (isH H x true)) (setH H x s y)) := by
  obtain ⟨i0, hi0, hz0, hz1, hz2⟩ := info_parts info_v
  obtain ⟨j0, hj0, hy0, hy1, hy2⟩ := info_parts info_s
  obtain ⟨W0, hW0⟩ : ∃ X, (W.alloc (.cells #[.int .i64 x.kd, .int .i64 x.n, .string x.tx] 23)).alloc (.cells #[.int .i64 y.kd, .int .i64 y.n, .string y.tx] 23) = X := ⟨_, rfl⟩
  have b0 : Below W.heap.size W W0 := by rw [← hW0]; exact belAA _ _ _
  have m0 : W0.heap[W.heap.size]? = some (.cells #[.int .i64 x.kd, .int .i64 x.n, .string x.tx] 23 (0, 0)) := by rw [← hW0]; exact hol _ (hnw _ rfl)
  have r0 : W0.heap[W.heap.size + 1]? = some (.cells #[.int .i64 y.kd, .int .i64 y.n, .string y.tx] 23 (0, 0)) := by rw [← hW0]; exact hnw _ (by simp)
  have h0 := h.keep (W' := W0) (fun b hb' => b0.block b (h.lt b hb'))
  have CL := dis_any h0 x true (by omega)
  obtain ⟨n0, n1, n2⟩ := box3 m0
  have hbl := h.lt
  have HBL : Hid (∀ b, Hs hb vt V b → b < W.heap.size) := hbl
  unfold Vl.v at CL ⊢
  have B0 : Hid (Below W.heap.size W W0) := b0
  have M0 : Hid (W0.heap[W.heap.size]? = some (.cells #[.int .i64 x.kd, .int .i64 x.n, .string x.tx] 23 (0, 0))) := m0
  have R0 : Hid (W0.heap[W.heap.size + 1]? = some (.cells #[.int .i64 y.kd, .int .i64 y.n, .string y.tx] 23 (0, 0))) := r0
  have H0 : Hid (HpAt hb H vt V W0) := h0
  have HL : Hid (∀ t ∈ H, t.nm.length ≤ 2097152) := hls
  have I0 : Hid (Tryd.prog.info? 23 = some i0) := hi0
  have J0 : Hid (Tryd.prog.info? 9 = some j0) := hj0
  clear b0 m0 r0 h h0 hbl hls hi0 hj0
  go_enter Tryd.func34, Tryd.ntmps34
  go_wp2_with fail
  go_at_call 51
  refine CL.mono ?_
  rintro e W1 ⟨rfl, b1⟩
  clear CL hW0 n0 n1 n2
  have B1 : Hid (Below W.heap.size W W1) := B0.out.trans (b1.mono B0.out.size)
  have h1 := H0.out.keep (W' := W1) (fun b hb' => b1.block b (H0.out.lt b hb'))
  cases hi : isH H x true with
  | false =>
    have H1 : Hid (HpAt hb H vt V W1) := h1
    clear h1 b1
    go_wp2
    go_ret
    exact ⟨by rw [hi]; rfl, _, ⟨vt, V, by rw [setH_no hi]; exact H1.out, fun b => Iff.rfl⟩, Kv.of B1.out, fun b q => .inl q⟩
  | true =>
    obtain ⟨_, m, hm, hml, hob⟩ := isH_true hi
    have HR : Hid (setH H x s y = H.set m (setT H[m] s y)) := setH_at hi hm hml
    have m1 := (b1.block _ (glt M0.out)).trans M0.out
    have R1 : Hid (W1.heap[W.heap.size + 1]? = some (.cells #[.int .i64 y.kd, .int .i64 y.n, .string y.tx] 23 (0, 0))) := (b1.block _ (glt R0.out)).trans R0.out
    obtain ⟨n0, n1, n2⟩ := box3 m1
    rw [hm] at n1
    obtain ⟨g, c, h2, e, ⟨t0, t1, t2⟩, zz, hg⟩ := h1.thing hml
    obtain ⟨A1, d1, e1⟩ := vform (h1.n m hml h2)
    obtain ⟨A2, d2, e2⟩ := vform (h1.l m hml h2)
    rw [e1] at t1
    rw [e2] at t2
    rw [hob] at t0
    have HI : Hid (isH H x true = true) := hi
    have HO : Hid (H[m].ob = true) := hob
    have E1 : Hid (V[m].1 = .slice A1 H[m].nm.length d1) := e1
    have E2 : Hid (V[m].2 = .slice A2 H[m].ls.length d2) := e2
    have NL : H[m].nm.length = H[m].ls.length := h1.ok _ (List.getElem_mem hml) hob
    have LS : H[m].nm.length ≤ 2097152 := HL.out _ (List.getElem_mem hml)
    have k1 : g < W.heap.size := HBL.out g (.inr (.inl (by rw [e]; rfl)))
    have k3 : hb < W.heap.size := HBL.out hb (.inl rfl)
    subst e
    have H1 : Hid (HpAt hb H (.slice (some ⟨g, 0, none⟩) H.length c) V W1) := h1
    have M1 : Hid (W1.heap[W.heap.size]? = some (.cells #[.int .i64 x.kd, .int .i64 x.n, .string x.tx] 23 (0, 0))) := m1
    have c0 := h1.cell.1
    have hlt : (m : Int) < (H.length : Int) := by omega
    clear b1 m1 h1 M0 H0 hi zz hob e1 e2
    generalize hln : H[m].ls.length = ln at *
    generalize hmn : H[m].nm.length = mn at *
    have LN : Hid (H[m].ls.length = ln) := hln
    have MN : Hid (H[m].nm.length = mn) := hmn
    have NM : Hid (mn = ln) := NL
    have LL : ln ≤ 2097152 := by omega
    clear hln hmn NL
    go_wp2_with fail
    refine region_held (fun X => (X.cell? ⟨W.heap.size, 1, none⟩ = some (.int .i64 (m : Nat)) ∧ X.cell? ⟨hb, 0, none⟩ = some (.slice (some ⟨g, 0, none⟩) H.length c)) ∧ (X.cell? ⟨g, m * 3, none⟩ = some (.bool true) ∧ X.cell? ⟨g, m * 3 + 1, none⟩ = some (.slice A1 mn d1) ∧ X.cell? ⟨g, m * 3 + 2, none⟩ = some (.slice A2 ln d2))) (by kernel_rfl) ⟨⟨n1, c0⟩, t0, t1, t2⟩ (fun hS => ?_)
    refine tH 0 ?_
    simp only [List.set]
    refine tH 1 ?_
    simp only [List.set]
    refine tH 2 ?_
    simp only [List.set]
    refine tH 3 ?_
    simp only [List.set]
    refine tH 4 ?_
    simp only [List.set]
    refine tH 5 ?_
    simp only [List.set]
    refine tH 6 ?_
    simp only [List.set]
    refine tH 7 ?_
    simp only [List.set]
    refine wpAnyH_ready (rs := [8]) (by kernel_rfl) (by simp) ?_
    refine AllReadyH.cons rfl (fun K hK => ?_) AllReadyH.nil
    go_simp
    refine hK.out _ _ ⟨⟨al_cell _ n1, al_cell _ c0⟩, al_cell _ t0, al_cell _ t1, al_cell _ t2⟩ (fun hS => ?_)
    clear hK K
    refine wpAnyH_ready (rs := [9]) (by kernel_rfl) (by simp) ?_
    refine AllReadyH.cons rfl (fun K hK => ?_) AllReadyH.nil
    go_simp
    refine hK.out _ _ ⟨⟨al_cell _ n1, al_cell _ c0⟩, al_cell _ t0, al_cell _ t1, al_cell _ t2⟩ (fun hS => ?_)
    clear hK K
    refine wpAnyH_done (by kernel_rfl) ?_ _
    clear hS
    obtain ⟨W2, hW2⟩ : ∃ X, (W1.alloc (.cells #[.bool true, .slice A1 mn d1, .slice A2 ln d2] 77)).drew = X := ⟨_, rfl⟩
    simp only [hW2]
    have b2 : Below W1.heap.size W1 W2 := by rw [← hW2]; exact (belA _ _).drew
    have s2 : W2.heap.size = W1.heap.size + 1 := by rw [← hW2]; simp
    have th : W2.heap[W1.heap.size]? = some (.cells #[.bool true, .slice A1 mn d1, .slice A2 ln d2] 77 (0, 0)) := by rw [← hW2]; exact hnw _ rfl
    have h2w := H1.out.keep (W' := W2) (fun b hb' => b2.block b (H1.out.lt b hb'))
    have r2 := (b2.block _ (glt R1.out)).trans R1.out
    have m2 := (b2.block _ (glt M1.out)).trans M1.out
    clear hW2 n0 n1 n2 t0 t1 t2 c0
    obtain ⟨⟨q0, q1, q2⟩, z0, z1, z2⟩ := free3 th
    obtain ⟨u0, u1, u2⟩ := box3 r2
    have B2 : Hid (Below W.heap.size W W2) := B1.out.trans (b2.mono B1.out.size)
    have S2 : Hid (W2.heap.size = W1.heap.size + 1) := s2
    have TH2 : Hid (W2.heap[W1.heap.size]? = some (.cells #[.bool true, .slice A1 mn d1, .slice A2 ln d2] 77 (0, 0))) := th
    have H2 : Hid (HpAt hb H (.slice (some ⟨g, 0, none⟩) H.length c) V W2) := h2w
    have M2 : Hid (W2.heap[W.heap.size]? = some (.cells #[.int .i64 x.kd, .int .i64 x.n, .string x.tx] 23 (0, 0))) := m2
    have R2 : Hid (W2.heap[W.heap.size + 1]? = some (.cells #[.int .i64 y.kd, .int .i64 y.n, .string y.tx] 23 (0, 0))) := r2
    have rn : Hid (W2.ownsRow 0 9 1 (.slice A1 mn d1) H[m].nm.length (H[m].nm.map .string)) := by
      have := h2w.n m hml h2
      rw [E1.out] at this
      exact this
    have rl : Hid (W2.ownsRow 0 23 3 (.slice A2 ln d2) H[m].ls.length (H[m].ls.flatMap Vl.cs)) := by
      have := h2w.l m hml h2
      rw [E2.out] at this
      exact this
    have hsz : W.heap.size + 1 < W1.heap.size := glt R1.out
    have HSZ : Hid (W.heap.size + 1 < W1.heap.size) := hsz
    clear b2 th h2w r2 m2 s2
    go_wp2_with fail
    go_loopw [10] (fun v10 wr => ∃ k : Nat, v10 = .int .i64 (k : Nat) ∧ k ≤ mn ∧ wr = W2 ∧ Hid (∀ j (hj : j < H[m].nm.length), j < k → eqB H[m].nm[j] s = false)) (fun v10 _ => mn - (intOf v10).toNat)
    case atStart => exact ⟨0, rfl, by omega, rfl, fun i hi h => by omega⟩
    case round =>
      obtain ⟨k, rfl, hk, hW, HK⟩ := hrel
      obtain rfl := hW.symm
      by_cases hkl : k < mn
      · have hkm : k < H[m].nm.length := by rw [MN.out]; exact hkl
        have hkn : k < H[m].ls.length := by rw [LN.out, ← NM.out]; exact hkl
        obtain ⟨g1, c1, ea, cn⟩ := nm_at rn.out hkm
        injection ea with ea _ _
        subst ea
        have HN : Hid (eqB H[m].nm[k] s = false → ∀ j (hj : j < H[m].nm.length), j < k + 1 → eqB H[m].nm[j] s = false) := fun h i hi hik => by
          by_cases e : i = k
          · subst e; exact h
          · exact HK.out i hi (by omega)
        have HT : Hid (eqB H[m].nm[k] s = true → setH H x s y = H.set m ⟨H[m].ob, H[m].nm, H[m].ls.set k y⟩) := fun h => by
          rw [HR.out, setT_at hkm HK.out h]
        have hd : (k : Int) < (mn : Int) := by omega
        have hd2 : (k : Int) < (ln : Int) := by have := NM.out; omega
        generalize hz : H[m].nm[k] = z at *
        clear hz
        unfold eqB at HN HT
        cases q : (z.toList == s.toList) with
        | true =>
          have h3 := H2.out
          obtain ⟨n0, n1, n2⟩ := box3 M2.out
          rw [hm] at n1
          have c0 := h3.cell.1
          obtain ⟨g0, c00, _, e0, ⟨t0, t1, t2⟩, _, hg0⟩ := h3.thing hml
          injection e0 with e0 _ _
          injection e0 with e0
          injection e0 with e0 _ _
          subst e0
          obtain ⟨g2, c2, e2, ⟨v0, v1, v2⟩, fz, hg2⟩ := ls_at (h3.l m hml h2) hkn
          rw [e2, LN.out] at t2
          have s2 : Hs hb (.slice (some ⟨g, 0, none⟩) H.length c) V g2 := .inr (.inr ⟨V[m], List.getElem_mem h2, .inr (by rw [e2]; rfl)⟩)
          have k2 : g2 < W.heap.size := HBL.out g2 s2
          have dd1 : hb ≠ g2 := fun r => row_block (h3.l m hml h2) h3.h (by decide) (by rw [e2, r]; rfl)
          have dd2 : g ≠ g2 := fun r => row_apart (h3.l m hml h2) h3.t (by decide) (b := g) (by rw [e2, r]; rfl) rfl
          have PP : Hid (_) := h3.put hml h2 e2 hkn y
          have SG : Hid (Hs hb (.slice (some ⟨g, 0, none⟩) H.length c) V g2) := s2
          have HR1 := HT.out q
          have HR2 : Hid (_) := HR1
          have y0 := fz (k * 3)
          have y1 := fz (k * 3 + 1)
          have y2 := fz (k * 3 + 2)
          clear HN HT HK HR1 h3 fz e2 s2
          generalize H[m].ls[k] = zz at *
          go_wp2_with fail
          refine region_held (fun X => ((X.cell? ⟨W.heap.size, 1, none⟩ = some (.int .i64 (m : Nat)) ∧ X.cell? ⟨hb, 0, none⟩ = some (.slice (some ⟨g, 0, none⟩) H.length c)) ∧ X.cell? ⟨g, m * 3 + 2, none⟩ = some (.slice (some ⟨g2, 0, none⟩) ln c2)) ∧ (X.cell? ⟨W.heap.size + 1, 0, none⟩ = some (.int .i64 y.kd) ∧ X.cell? ⟨W.heap.size + 1, 1, none⟩ = some (.int .i64 y.n) ∧ X.cell? ⟨W.heap.size + 1, 2, none⟩ = some (.string y.tx))) (by kernel_rfl) ⟨⟨⟨n1, c0⟩, t2⟩, u0, u1, u2⟩ (fun hS => ?_)
          refine tH 0 ?_
          simp only [List.set]
          refine tH 1 ?_
          simp only [List.set]
          refine tH 2 ?_
          simp only [List.set]
          refine tH 3 ?_
          simp only [List.set]
          refine tH 4 ?_
          simp only [List.set]
          refine tH 5 ?_
          simp only [List.set]
          refine tH 6 ?_
          simp only [List.set]
          refine tH 7 ?_
          simp only [List.set]
          refine tH 8 ?_
          simp only [List.set]
          refine tH 9 ?_
          simp only [List.set]
          refine tH 10 ?_
          simp only [List.set]
          refine tH 11 ?_
          simp only [List.set]
          refine wpAnyH_ready (rs := [12]) (by kernel_rfl) (by simp) ?_
          refine AllReadyH.cons rfl (fun K hK => ?_) AllReadyH.nil
          go_simp
          refine hK.out _ _ ⟨⟨⟨set3_cell _ _ _ (by omega) n1, set3_cell _ _ _ dd1 c0⟩, set3_cell _ _ _ dd2 t2⟩, set3_cell _ _ _ (by omega) u0, set3_cell _ _ _ (by omega) u1, set3_cell _ _ _ (by omega) u2⟩ (fun hS => ?_)
          clear hK K
          refine wpAnyH_done (by kernel_rfl) ?_ _
          clear n0 n1 n2 t0 t1 t2 v0 v1 v2 c0 hS u0 u1 u2 y0 y1 y2 q0 q1 q2 z0 z1 z2
          go_wp2
          go_ret
          refine ⟨by rw [HI.out]; rfl, _, ⟨_, _, by rw [HR2.out]; exact PP.out.keep (fun _ _ => rfl), fun b => Iff.rfl⟩, ?_, fun b q => .inl q⟩
          have b3 := B2.out
          refine ⟨b3.os, b3.tape, b3.output, by have := b3.size; simpa [World.setCell] using this, fun k hk ns => ?_⟩
          have nk : k ≠ g2 := fun r => ns (by rw [r]; exact SG.out)
          exact (set3_far _ _ _ nk).trans (b3.block k hk)
        | false =>
          have HR' : Hid (∀ j (hj : j < H[m].nm.length), j < k + 1 → eqB H[m].nm[j] s = false) := HN.out q
          clear HN HT HK
          go_wp2
          go_roundw
          case rel => exact ⟨k + 1, by simp, by omega, by trivial, HR'⟩
          case measure => simp [intOf]; omega
      · obtain rfl : k = mn := by omega
        have HR2 : Hid (setH H x s y = H.set m ⟨H[m].ob, H[m].nm ++ [s], H[m].ls ++ [y]⟩) := by
          show _ = _
          rw [HR.out, setT_no (fun j hj h => HK.out j hj (by have := MN.out; omega))]
        have NT1 : Hid (some W1.heap.size ≠ (Value.slice A1 k d1).ownBlock) := (row_block rn.out TH2.out (by decide)).symm
        have NT2 : Hid (some W1.heap.size ≠ (Value.slice A2 ln d2).ownBlock) := (row_block rl.out TH2.out (by decide)).symm
        have h1S : Hid (∀ b, (Value.slice A1 k d1).ownBlock = some b → b < W.heap.size) := fun b q => HBL.out b (.inr (.inr ⟨V[m], List.getElem_mem h2, .inl (by rw [E1.out]; exact q)⟩))
        have h2S : Hid (∀ b, (Value.slice A2 ln d2).ownBlock = some b → b < W.heap.size) := fun b q => HBL.out b (.inr (.inr ⟨V[m], List.getElem_mem h2, .inr (by rw [E2.out]; exact q)⟩))
        have NX1 : Hid (∀ j, W.heap.size ≤ j → some j ≠ (Value.slice A1 k d1).ownBlock) := fun j hj q => by
          have := h1S.out j q.symm
          omega
        have NX2 : Hid (∀ j, W.heap.size ≤ j → some j ≠ (Value.slice A2 ln d2).ownBlock) := fun j hj q => by
          have := h2S.out j q.symm
          omega
        have rn' : Hid (W2.ownsRow 0 9 1 (.slice A1 k d1) k (H[m].nm.map .string)) := by
          have := rn.out
          rw [MN.out] at this
          exact this
        have rl' : Hid (W2.ownsRow 0 23 3 (.slice A2 ln d2) ln (H[m].ls.flatMap Vl.cs)) := by
          have := rl.out
          rw [LN.out] at this
          exact this
        clear HK
        go_wp2_with (first | (at_builtin; refine wpList_append_gen _ (by rfl) _ _ _ (by rfl) 0 9 j0 _ 1 16 Tryd.underlying36 J0.out hy0 hy1 hy2 rfl (by omega) _ k (H[m].nm.map .string) (by rfl) (rn'.out.alloc _) (some ⟨W2.heap.size, 0, none⟩) 1 1 [.string s] (by rfl) (by rfl) (fun _ => ⟨_, rfl, World.news_of_block (cs := #[.string s]) (t := 9) (fr := (0, 0)) (hnw _ rfl)⟩) (by simp [Value.oneCell']) (by unfold maxLen; omega) (by omega) (by omega) ?_; rintro v' W3 o3 g3 f3; obtain ⟨gv, cv, rfl, -, -⟩ := World.ownsRow.form o3 (by omega); have th3 := grow_block g3 TH2.out NT1.out; have r3 := grow_block g3 R2.out (NX1.out _ (by omega)); have rl3 := row_same rl'.out (W' := W3) (fun b e => by (obtain ⟨oo, ho⟩ : ∃ oo, W2.heap[b]? = some oo := ⟨_, Array.getElem?_eq_getElem (rl'.out.lt b e).2⟩); exact (grow_block g3 ho (fun q => row_apart rn'.out rl'.out (by decide) q.symm e)).trans ho.symm); clear q0 q1 q2 z0 z1 z2 u0 u1 u2; obtain ⟨⟨q0, q1, q2⟩, z0, z1, z2⟩ := free3 th3; obtain ⟨u0, u1, u2⟩ := box3 r3; have O3 : Hid (_) := o3; have G3 : Hid (_) := g3; have F3 : Hid (_) := f3; have TH3 : Hid (_) := th3; have R3 : Hid (_) := r3; have RL3 : Hid (_) := rl3; clear o3 g3 f3 th3 r3 rl3) | (at_builtin; refine wpList_append_gen _ (by rfl) _ _ _ (by rfl) 0 23 i0 _ 3 32 Tryd.underlying37 I0.out hz0 hz1 hz2 rfl (by omega) _ ln (H[m].ls.flatMap Vl.cs) (by rfl) ((row_same RL3.out (W' := W3.setCell ⟨W1.heap.size, 1, none⟩ (.slice (some ⟨gv, 0, none⟩) (k + 1) cv)) (fun b e => Below.heap_setCell _ _ _ _ (fun r => NT2.out (by rw [e]; exact congrArg some (Eq.symm r))))).alloc _) (some ⟨W3.heap.size, 0, none⟩) 1 1 y.cs (by rfl) (by rfl) (fun _ => ⟨_, rfl, World.news_of_block (cs := #[.int .i64 y.kd, .int .i64 y.n, .string y.tx]) (t := 23) (fr := (0, 0)) (hnw _ (by simp [World.setCell]))⟩) (by simp [Value.oneCell', Vl.cs]) (by unfold maxLen; omega) (by omega) (by omega) ?_; rintro v' W4 o4 g4 f4; obtain ⟨gw, cw, rfl, -, -⟩ := World.ownsRow.form o4 (by omega); have th4 := grow_block g4 (set_one (.slice (some ⟨gv, 0, none⟩) (k + 1) cv) TH3.out) NT2.out; clear q0 q1 q2 z0 z1 z2 u0 u1 u2; obtain ⟨⟨q0, q1, q2⟩, z0, z1, z2⟩ := free3 th4; have O4 : Hid (_) := o4; have G4 : Hid (_) := g4; have F4 : Hid (_) := f4; have TH4 : Hid (_) := th4; clear o4 g4 f4 th4))
        obtain ⟨W5, hW5⟩ : ∃ X, W4.setCell ⟨W1.heap.size, 2, none⟩ (.slice (some ⟨gw, 0, none⟩) (ln + 1) cw) = X := ⟨_, rfl⟩
        simp only [hW5]
        have k5 : ∀ j, j ≠ W1.heap.size → W5.heap[j]? = W4.heap[j]? := fun j ne => by rw [← hW5]; exact Below.heap_setCell _ _ _ _ ne
        have l5 : W5.os = W4.os ∧ W5.tape = W4.tape ∧ W5.output = W4.output ∧ W5.heap.size = W4.heap.size := by
          rw [← hW5]
          exact ⟨rfl, rfl, rfl, by simp [World.setCell]⟩
        have th5 : W5.heap[W1.heap.size]? = some (.cells #[.bool true, .slice (some ⟨gv, 0, none⟩) (k + 1) cv, .slice (some ⟨gw, 0, none⟩) (ln + 1) cw] 77 (0, 0)) := by
          rw [← hW5]
          exact set_two _ TH4.out
        have s2 := S2.out
        have s3 : W2.heap.size + 1 ≤ W3.heap.size := by
          have := G3.out.size
          simpa using this
        have s4 : W3.heap.size + 1 ≤ W4.heap.size := by
          have := G4.out.size
          simpa [World.setCell] using this
        have k43 : ∀ j, j < W3.heap.size → j ≠ W1.heap.size → some j ≠ (Value.slice A2 ln d2).ownBlock → W4.heap[j]? = W3.heap[j]? := fun j hj ne n2 => (G4.out.block j (by simp [World.setCell]; omega) n2).trans ((Below.heap_alloc _ _ j (by simpa [World.setCell] using hj)).trans (Below.heap_setCell _ _ _ _ ne))
        have kp : ∀ j, j < W2.heap.size → j ≠ W1.heap.size → some j ≠ (Value.slice A1 k d1).ownBlock → some j ≠ (Value.slice A2 ln d2).ownBlock → W5.heap[j]? = W2.heap[j]? := fun j hj ne n1 n2 => (k5 j ne).trans ((k43 j (by omega) ne n2).trans ((G3.out.block j (by simp; omega) n1).trans (Below.heap_alloc W2 _ j hj)))
        have hgv : gv ≠ W1.heap.size ∧ some gv ≠ (Value.slice A2 ln d2).ownBlock ∧ gv < W3.heap.size := by
          have lt := (World.ownsRow.lt O3.out gv rfl).2
          rcases F3.out gv rfl with q | q
          · exact ⟨fun r => NT1.out (by rw [← r]; exact q.symm), fun r => row_apart rn'.out rl'.out (by decide) q r.symm, lt⟩
          · simp at q
            exact ⟨by omega, fun r => by have := h2S.out _ r.symm; omega, lt⟩
        have hgw : gw ≠ W1.heap.size := by
          rcases F4.out gw rfl with q | q
          · exact fun r => NT2.out (by rw [← r]; exact q.symm)
          · simp [World.setCell] at q
            omega
        have f1 : ∀ b, (Value.slice (some ⟨gv, 0, none⟩) (k + 1) cv).ownBlock = some b → (Value.slice A1 k d1).ownBlock = some b ∨ W2.heap.size ≤ b := fun b e => (F3.out b e).imp id (fun q => by rw [q]; simp)
        have f2 : ∀ b, (Value.slice (some ⟨gw, 0, none⟩) (ln + 1) cw).ownBlock = some b → (Value.slice A2 ln d2).ownBlock = some b ∨ W2.heap.size ≤ b := fun b e => (F4.out b e).imp id (fun q => by rw [q]; simp [World.setCell]; omega)
        have o1 := row_same O3.out (W' := W5) (fun b e => by cases e; exact (k5 _ hgv.1).trans (k43 _ hgv.2.2 hgv.1 hgv.2.1))
        have o2 := row_same O4.out (W' := W5) (fun b e => by cases e; exact k5 _ hgw)
        have h3 := H2.out
        have hob := HO.out
        have PP : Hid (_) := h3.set2 (s := s) (y := y) (W4 := W5) (tb := W1.heap.size) hml h2 (by rw [E1.out, E2.out]; exact kp) (by rw [MN.out]; exact o1) (by rw [LN.out]; exact o2) (by rw [E1.out]; exact f1) (by rw [E2.out]; exact f2) (fun q => by have := HBL.out _ q; omega) hob
        have L5 : Hid (W5.os = W.os ∧ W5.tape = W.tape ∧ W5.output = W.output ∧ W.heap.size ≤ W5.heap.size) := by
          have b2 := B2.out
          exact ⟨l5.1.trans (G4.out.os.trans (G3.out.os.trans b2.os)), l5.2.1.trans (G4.out.tape.trans (G3.out.tape.trans b2.tape)), l5.2.2.1.trans (G4.out.output.trans (G3.out.output.trans b2.output)), by have := b2.size; have := l5.2.2.2; omega⟩
        have m5 : W5.heap[W.heap.size]? = some (.cells #[.int .i64 x.kd, .int .i64 x.n, .string x.tx] 23 (0, 0)) := (kp _ (by omega) (by omega) (NX1.out _ (by omega)) (NX2.out _ (by omega))).trans M2.out
        have p5 : W5.heap[hb]? = some (.cells #[.slice (some ⟨g, 0, none⟩) H.length c] 34 (0, 0)) := (kp _ (by omega) (by omega) (row_block rn'.out h3.h (by decide)).symm (row_block rl'.out h3.h (by decide)).symm).trans h3.h
        have rr := row_same h3.t (W' := W5) (fun b e => by cases e; exact kp g (by omega) (by omega) (fun q => row_apart rn'.out h3.t (by decide) q.symm rfl) (fun q => row_apart rl'.out h3.t (by decide) q.symm rfl))
        have cc := fun j (hj : j < 3) => (rr.cellAt (m * 3 + j) (by omega)).trans (thV_get H V m hml h2 j hj)
        have x0 : W5.cell? ⟨g, m * 3, none⟩ = some (.bool H[m].ob) := cc 0 (by omega)
        have x1 : W5.cell? ⟨g, m * 3 + 1, none⟩ = some V[m].1 := cc 1 (by omega)
        have x2 : W5.cell? ⟨g, m * 3 + 2, none⟩ = some V[m].2 := cc 2 (by omega)
        have y0 := rr.frozenAt (m * 3)
        have y1 := rr.frozenAt (m * 3 + 1)
        have y2 := rr.frozenAt (m * 3 + 2)
        have hgb : hb ≠ g := fun q => row_block h3.t h3.h (by decide) (by rw [q]; rfl)
        obtain ⟨n0, n1, n2⟩ := box3 m5
        rw [hm] at n1
        have c0 : W5.cell? ⟨hb, 0, none⟩ = some (.slice (some ⟨g, 0, none⟩) H.length c) := by simp [World.cell?, p5]
        clear q0 q1 q2 z0 z1 z2
        obtain ⟨⟨q0, q1, q2⟩, -, -, -⟩ := free3 th5
        clear hW5 k5 l5 th5 s2 s3 s4 k43 kp hgv hgw f1 f2 o1 o2 h3 hob m5 p5 rr cc
        refine region_held (fun X => (X.cell? ⟨W.heap.size, 1, none⟩ = some (.int .i64 (m : Nat)) ∧ X.cell? ⟨hb, 0, none⟩ = some (.slice (some ⟨g, 0, none⟩) H.length c)) ∧ (X.cell? ⟨W1.heap.size, 0, none⟩ = some (.bool true) ∧ X.cell? ⟨W1.heap.size, 1, none⟩ = some (.slice (some ⟨gv, 0, none⟩) (k + 1) cv) ∧ X.cell? ⟨W1.heap.size, 2, none⟩ = some (.slice (some ⟨gw, 0, none⟩) (ln + 1) cw))) (by kernel_rfl) ⟨⟨n1, c0⟩, q0, q1, q2⟩ (fun hS => ?_)
        refine tH 0 ?_
        simp only [List.set]
        refine tH 1 ?_
        simp only [List.set]
        refine tH 2 ?_
        simp only [List.set]
        refine tH 3 ?_
        simp only [List.set]
        refine tH 4 ?_
        simp only [List.set]
        refine tH 5 ?_
        simp only [List.set]
        refine tH 6 ?_
        simp only [List.set]
        refine tH 7 ?_
        simp only [List.set]
        refine wpAnyH_ready (rs := [8]) (by kernel_rfl) (by simp) ?_
        refine AllReadyH.cons rfl (fun K hK => ?_) AllReadyH.nil
        go_simp
        refine hK.out _ _ ⟨⟨set3_cell _ _ _ (by omega) n1, set3_cell _ _ _ hgb c0⟩, set3_cell _ _ _ (by omega) q0, set3_cell _ _ _ (by omega) q1, set3_cell _ _ _ (by omega) q2⟩ (fun hS => ?_)
        clear hK K
        refine wpAnyH_done (by kernel_rfl) ?_ _
        clear hS n0 n1 n2 c0 q0 q1 q2 x0 x1 x2 y0 y1 y2
        go_wp2
        go_ret
        have s2 := S2.out
        have b2 := B2.out
        refine ⟨by rw [HI.out]; rfl, _, ⟨_, _, by rw [HR2.out]; exact PP.out.1.keep (fun _ _ => rfl), fun b => Iff.rfl⟩, ?_, fun b q => (PP.out.2.1 b q).imp id (fun q => by omega)⟩
        have l5 := L5.out
        refine ⟨l5.1, l5.2.1, l5.2.2.1, by have := l5.2.2.2; simpa [World.setCell] using this, fun j hj ns => ?_⟩
        exact (PP.out.2.2 j (by omega) (by omega) ns).trans (b2.block j hj)
end Go.Proofs.YtlijplbaefaeaaaDoor
