/- Own text. The document's heap: Push. -/
import Derived.Test.YtlijplbaefaeaaaDoorVb4
namespace Go.Proofs.YtlijplbaefaeaaaDoor
open Go.RowKit
set_option linter.unusedVariables false
set_option linter.unusedSimpArgs false

theorem info_v : (Tryd.prog.info? 23).map (fun i => (i.zero, i.size, i.bytes)) = some (some (.agg #[.int .i64 0, .int .i64 0, .string ⟨#[]⟩]), 3, 32) := by kernel_rfl
theorem modH_set {α : Type} {H : List α} {m : Nat} (f : α → α) (h : m < H.length) : H.modify m f = H.set m (f H[m]) := by
  apply List.ext_getElem?
  intro j
  rw [List.getElem?_modify, List.getElem?_set]
  by_cases e : m = j
  · subst e
    simp [h]
  · simp [e]
theorem pshH_no {H : Hp} {x y : Vl} (h : isH H x false = false) : pshH H x y = H := by unfold pshH; rw [h]; rfl
theorem pshH_at {H : Hp} {x y : Vl} (h : isH H x false = true) {m : Nat} (hm : x.n = (m : Nat)) (hml : m < H.length) : pshH H x y = H.set m ⟨H[m].ob, H[m].nm, H[m].ls ++ [y]⟩ := by
  unfold pshH
  rw [if_pos h, show x.n.toNat = m by omega]
  exact modH_set _ hml
theorem grow_block {W2 W3 : World} {o : Obj} {r : Option Nat} (g3 : (W2.alloc o).grownBy W3 r) {k : Nat} {ob : Obj} (m : W2.heap[k]? = some ob) (ne : some k ≠ r) : W3.heap[k]? = some ob := by
  have hk := glt m
  exact (g3.block k (by simp; omega) ne).trans ((Below.heap_alloc W2 o k hk).trans m)
theorem HpAt.psh {hb g c : Nat} {H : Hp} {V : List Pv} {W2 W3 W5 : World} {m : Nat} {y : Vl} (h : HpAt hb H (.slice (some ⟨g, 0, none⟩) H.length c) V W2) (hm : m < H.length) (h2 : m < V.length) {o : Obj} {v' : Value}
    (o3 : W3.ownsRow 0 23 3 v' (H[m].ls.length + 1) (H[m].ls.flatMap Vl.cs ++ y.cs)) (g3 : (W2.alloc o).grownBy W3 V[m].2.ownBlock) (f3 : ∀ b, v'.ownBlock = some b → V[m].2.ownBlock = some b ∨ b = (W2.alloc o).heap.size)
    {tb : Nat} (htb : ¬ Hs hb (.slice (some ⟨g, 0, none⟩) H.length c) V tb) (htl : tb < W2.heap.size) (hob : H[m].ob = false)
    (e5 : ∃ W4 : World, (∀ k, k ≠ tb → W4.heap[k]? = W3.heap[k]?) ∧ W5 = ((W4.setCell ⟨g, m * 3, none⟩ (.bool false)).setCell ⟨g, m * 3 + 1, none⟩ V[m].1).setCell ⟨g, m * 3 + 2, none⟩ v') :
    HpAt hb (H.set m ⟨H[m].ob, H[m].nm, H[m].ls ++ [y]⟩) (.slice (some ⟨g, 0, none⟩) H.length c) (V.set m (V[m].1, v')) W5 ∧ (∀ b, Hs hb (.slice (some ⟨g, 0, none⟩) H.length c) (V.set m (V[m].1, v')) b → Hs hb (.slice (some ⟨g, 0, none⟩) H.length c) V b ∨ W2.heap.size ≤ b) ∧ ∀ k, k < W2.heap.size → k ≠ tb → ¬ Hs hb (.slice (some ⟨g, 0, none⟩) H.length c) V k → W5.heap[k]? = W2.heap[k]? := by
  obtain ⟨W4, k4, rfl⟩ := e5
  have olt := h.lt
  have kp : ∀ k, k < W2.heap.size → k ≠ tb → some k ≠ V[m].2.ownBlock → W4.heap[k]? = W2.heap[k]? := fun k hk ne n2 => (k4 k ne).trans ((g3.block k (by simp; omega) n2).trans (Below.heap_alloc W2 o k hk))
  have far : ∀ k, k ≠ g → (((W4.setCell ⟨g, m * 3, none⟩ (.bool false)).setCell ⟨g, m * 3 + 1, none⟩ V[m].1).setCell ⟨g, m * 3 + 2, none⟩ v').heap[k]? = W4.heap[k]? := fun k ne => set3_far _ _ _ ne
  have gS : Hs hb (.slice (some ⟨g, 0, none⟩) H.length c) V g := .inr (.inl rfl)
  have vS : ∀ i (hi : i < V.length) b, V[i].1.ownBlock = some b ∨ V[i].2.ownBlock = some b → Hs hb (.slice (some ⟨g, 0, none⟩) H.length c) V b := fun i hi b e => .inr (.inr ⟨_, List.getElem_mem hi, e⟩)
  have hlen := h.len
  have gv1 : ∀ i (hi : i < V.length) b, V[i].1.ownBlock = some b → b ≠ g := fun i hi b e q => row_apart (h.n i (by omega) hi) h.t (by decide) e (by rw [q]; rfl)
  have gv2 : ∀ i (hi : i < V.length) b, V[i].2.ownBlock = some b → b ≠ g := fun i hi b e q => row_apart (h.l i (by omega) hi) h.t (by decide) e (by rw [q]; rfl)
  have ng : some g ≠ V[m].2.ownBlock := fun q => gv2 m h2 g q.symm rfl
  have nt : ∀ b, Hs hb (.slice (some ⟨g, 0, none⟩) H.length c) V b → b ≠ tb := fun b hb' q => htb (q ▸ hb')
  have f2 : ∀ b, v'.ownBlock = some b → V[m].2.ownBlock = some b ∨ W2.heap.size ≤ b := fun b e => (f3 b e).imp id (fun q => by rw [q]; simp)
  have f1 : ∀ b, V[m].1.ownBlock = some b → V[m].1.ownBlock = some b ∨ W2.heap.size ≤ b := fun b e => .inl e
  refine ⟨h.upd hm h2 _ _ ?_ ?_ ?_ ?_ ?_ f1 f2 (fun q => by rw [hob] at q; cases q), Hs.upd h2 f1 f2, ?_⟩
  · have hg : hb ≠ g := fun q => row_block h.t h.h (by decide) (by rw [q]; rfl)
    rw [far hb hg]
    exact kp hb (olt hb (.inl rfl)) (nt hb (.inl rfl)) (row_block (h.l m hm h2) h.h (by decide)).symm
  · have := row_set3 (m := m) (row_same h.t (W' := W4) (fun b e => by cases e; exact kp g (olt g gS) (nt g gS) ng)) hm h2 ⟨H[m].ob, H[m].nm, H[m].ls ++ [y]⟩ (V[m].1, v')
    rw [hob] at this ⊢
    exact this
  · intro i hi ne b e
    have hb' := vS i hi b e
    have n2 : some b ≠ V[m].2.ownBlock := fun q => by
      rcases e with e | e
      · exact row_apart (h.n i (by omega) hi) (h.l m hm h2) (by decide) e q.symm
      · exact h.al i m hi h2 ne b e q.symm
    rw [far b (by rcases e with e | e; exact gv1 i hi b e; exact gv2 i hi b e)]
    exact kp b (olt b hb') (nt b hb') n2
  · refine row_same (h.n m hm h2) (fun b e => ?_)
    have hb' := vS m h2 b (.inl e)
    rw [far b (gv1 m h2 b e)]
    exact kp b (olt b hb') (nt b hb') (fun q => row_apart (h.n m hm h2) (h.l m hm h2) (by decide) e q.symm)
  · have := row_same o3 (W' := ((W4.setCell ⟨g, m * 3, none⟩ (.bool false)).setCell ⟨g, m * 3 + 1, none⟩ V[m].1).setCell ⟨g, m * 3 + 2, none⟩ v') (fun b e => by
      have ok : b ≠ g ∧ b ≠ tb := by
        rcases f3 b e with q | q
        · exact ⟨gv2 m h2 b q, nt b (vS m h2 b (.inr q))⟩
        · have := olt g gS
          simp at q
          omega
      rw [far b ok.1, k4 b ok.2])
    simpa using this
  · intro k hk ne ns
    rw [far k (fun q => ns (q ▸ gS))]
    exact kp k hk ne (fun q => ns (vS m h2 k (.inr q.symm)))
set_option maxRecDepth 100000 in
set_option maxHeartbeats 8000000 in
theorem dpsh_any {hb : Nat} {H : Hp} {vt : Value} {V : List Pv} {W : World} (h : HpAt hb H vt V W) (x y : Vl) (hl : H.length ≤ 2097152) (hls : ∀ t ∈ H, t.ls.length ≤ 2097152) : Calls Tryd.prog 36 #[.pointer (some ⟨hb, 0, none⟩), x.v, y.v] W (Chg dAt hb (Hs hb vt V) W (.bool (isH H x false)) (pshH H x y)) := by
  obtain ⟨i0, hi0, hz0, hz1, hz2⟩ := info_parts info_v
  obtain ⟨W0, hW0⟩ : ∃ X, (W.alloc (.cells #[.int .i64 x.kd, .int .i64 x.n, .string x.tx] 23)).alloc (.cells #[.int .i64 y.kd, .int .i64 y.n, .string y.tx] 23) = X := ⟨_, rfl⟩
  have b0 : Below W.heap.size W W0 := by rw [← hW0]; exact belAA _ _ _
  have m0 : W0.heap[W.heap.size]? = some (.cells #[.int .i64 x.kd, .int .i64 x.n, .string x.tx] 23 (0, 0)) := by rw [← hW0]; exact hol _ (hnw _ rfl)
  have r0 : W0.heap[W.heap.size + 1]? = some (.cells #[.int .i64 y.kd, .int .i64 y.n, .string y.tx] 23 (0, 0)) := by rw [← hW0]; exact hnw _ (by simp)
  have h0 := h.keep (W' := W0) (fun b hb' => b0.block b (h.lt b hb'))
  have CL := dis_any h0 x false (by omega)
  obtain ⟨n0, n1, n2⟩ := box3 m0
  have hbl := h.lt
  have HBL : Hid (∀ b, Hs hb vt V b → b < W.heap.size) := hbl
  unfold Vl.v at CL ⊢
  have B0 : Hid (Below W.heap.size W W0) := b0
  have M0 : Hid (W0.heap[W.heap.size]? = some (.cells #[.int .i64 x.kd, .int .i64 x.n, .string x.tx] 23 (0, 0))) := m0
  have R0 : Hid (W0.heap[W.heap.size + 1]? = some (.cells #[.int .i64 y.kd, .int .i64 y.n, .string y.tx] 23 (0, 0))) := r0
  have H0 : Hid (HpAt hb H vt V W0) := h0
  have HL : Hid (∀ t ∈ H, t.ls.length ≤ 2097152) := hls
  have I0 : Hid (Tryd.prog.info? 23 = some i0) := hi0
  clear b0 m0 r0 h h0 hbl hls hi0
  go_enter Tryd.func36, Tryd.ntmps36
  go_wp2_with fail
  go_at_call 51
  refine CL.mono ?_
  rintro e W1 ⟨rfl, b1⟩
  clear CL hW0 n0 n1 n2
  have B1 : Hid (Below W.heap.size W W1) := B0.out.trans (b1.mono B0.out.size)
  have h1 := H0.out.keep (W' := W1) (fun b hb' => b1.block b (H0.out.lt b hb'))
  cases hi : isH H x false with
  | false =>
    have H1 : Hid (HpAt hb H vt V W1) := h1
    clear h1 b1
    go_wp2
    go_ret
    exact ⟨by rw [hi]; rfl, _, ⟨vt, V, by rw [pshH_no hi]; exact H1.out, fun b => Iff.rfl⟩, Kv.of B1.out, fun b q => .inl q⟩
  | true =>
    obtain ⟨_, m, hm, hml, hob⟩ := isH_true hi
    have HR : Hid (pshH H x y = H.set m ⟨H[m].ob, H[m].nm, H[m].ls ++ [y]⟩) := pshH_at hi hm hml
    have m1 := (b1.block _ (glt M0.out)).trans M0.out
    have R1 : Hid (W1.heap[W.heap.size + 1]? = some (.cells #[.int .i64 y.kd, .int .i64 y.n, .string y.tx] 23 (0, 0))) := (b1.block _ (glt R0.out)).trans R0.out
    obtain ⟨n0, n1, n2⟩ := box3 m1
    rw [hm] at n1
    obtain ⟨g, c, h2, e, ⟨t0, t1, t2⟩, zz, hg⟩ := h1.thing hml
    obtain ⟨A1, d1, e1⟩ := vform (h1.n m hml h2)
    obtain ⟨A2, d2, e2⟩ := vform (h1.l m hml h2)
    rw [e1] at t1
    rw [e2] at t2
    rw [hob] at t0
    have HI : Hid (isH H x false = true) := hi
    have HO : Hid (H[m].ob = false) := hob
    have E1 : Hid (V[m].1 = .slice A1 H[m].nm.length d1) := e1
    have E2 : Hid (V[m].2 = .slice A2 H[m].ls.length d2) := e2
    have LS : H[m].ls.length ≤ 2097152 := HL.out _ (List.getElem_mem hml)
    have k1 : g < W.heap.size := HBL.out g (.inr (.inl (by rw [e]; rfl)))
    have k3 : hb < W.heap.size := HBL.out hb (.inl rfl)
    subst e
    have H1 : Hid (HpAt hb H (.slice (some ⟨g, 0, none⟩) H.length c) V W1) := h1
    have M1 : Hid (W1.heap[W.heap.size]? = some (.cells #[.int .i64 x.kd, .int .i64 x.n, .string x.tx] 23 (0, 0))) := m1
    have c0 := h1.cell.1
    have hlt : (m : Int) < (H.length : Int) := by omega
    clear b1 m1 h1 M0 H0 hi zz hob e1 e2
    generalize hln : H[m].ls.length = ln at *
    generalize hmn : H[m].nm.length = mn at *
    have LN : Hid (H[m].ls.length = ln) := hln
    have MN : Hid (H[m].nm.length = mn) := hmn
    clear hln hmn
    go_wp2_with fail
    refine region_held (fun X => (X.cell? ⟨W.heap.size, 1, none⟩ = some (.int .i64 (m : Nat)) ∧ X.cell? ⟨hb, 0, none⟩ = some (.slice (some ⟨g, 0, none⟩) H.length c)) ∧ (X.cell? ⟨g, m * 3, none⟩ = some (.bool false) ∧ X.cell? ⟨g, m * 3 + 1, none⟩ = some (.slice A1 mn d1) ∧ X.cell? ⟨g, m * 3 + 2, none⟩ = some (.slice A2 ln d2))) (by kernel_rfl) ⟨⟨n1, c0⟩, t0, t1, t2⟩ (fun hS => ?_)
    refine tH 0 ?_
    simp only [List.set]
    refine tH 1 ?_
    simp only [List.set]
    refine tH 2 ?_
    simp only [List.set]
    refine tH 3 ?_
    simp only [List.set]
    refine tH 4 ?_
    simp only [List.set]
    refine tH 5 ?_
    simp only [List.set]
    refine tH 6 ?_
    simp only [List.set]
    refine tH 7 ?_
    simp only [List.set]
    refine wpAnyH_ready (rs := [8]) (by kernel_rfl) (by simp) ?_
    refine AllReadyH.cons rfl (fun K hK => ?_) AllReadyH.nil
    go_simp
    refine hK.out _ _ ⟨⟨al_cell _ n1, al_cell _ c0⟩, al_cell _ t0, al_cell _ t1, al_cell _ t2⟩ (fun hS => ?_)
    clear hK K
    refine wpAnyH_ready (rs := [9]) (by kernel_rfl) (by simp) ?_
    refine AllReadyH.cons rfl (fun K hK => ?_) AllReadyH.nil
    go_simp
    refine hK.out _ _ ⟨⟨al_cell _ n1, al_cell _ c0⟩, al_cell _ t0, al_cell _ t1, al_cell _ t2⟩ (fun hS => ?_)
    clear hK K
    refine wpAnyH_done (by kernel_rfl) ?_ _
    clear hS
    obtain ⟨W2, hW2⟩ : ∃ X, (W1.alloc (.cells #[.bool false, .slice A1 mn d1, .slice A2 ln d2] 77)).drew = X := ⟨_, rfl⟩
    simp only [hW2]
    have b2 : Below W1.heap.size W1 W2 := by rw [← hW2]; exact (belA _ _).drew
    have s2 : W2.heap.size = W1.heap.size + 1 := by rw [← hW2]; simp
    have th : W2.heap[W1.heap.size]? = some (.cells #[.bool false, .slice A1 mn d1, .slice A2 ln d2] 77 (0, 0)) := by rw [← hW2]; exact hnw _ rfl
    have h2w := H1.out.keep (W' := W2) (fun b hb' => b2.block b (H1.out.lt b hb'))
    have r2 := (b2.block _ (glt R1.out)).trans R1.out
    have m2 := (b2.block _ (glt M1.out)).trans M1.out
    clear hW2 n0 n1 n2 t0 t1 t2 c0
    obtain ⟨⟨q0, q1, q2⟩, z0, z1, z2⟩ := free3 th
    obtain ⟨u0, u1, u2⟩ := box3 r2
    have B2 : Hid (Below W1.heap.size W1 W2) := b2
    have S2 : Hid (W2.heap.size = W1.heap.size + 1) := s2
    have TH2 : Hid (W2.heap[W1.heap.size]? = some (.cells #[.bool false, .slice A1 mn d1, .slice A2 ln d2] 77 (0, 0))) := th
    have H2 : Hid (HpAt hb H (.slice (some ⟨g, 0, none⟩) H.length c) V W2) := h2w
    have own : Hid (W2.ownsRow 0 23 3 (.slice A2 ln d2) ln (H[m].ls.flatMap Vl.cs)) := by
      have := h2w.l m hml h2
      rw [E2.out, LN.out] at this
      exact this
    have M2 : Hid (W2.heap[W.heap.size]? = some (.cells #[.int .i64 x.kd, .int .i64 x.n, .string x.tx] 23 (0, 0))) := m2
    have R2 : Hid (W2.heap[W.heap.size + 1]? = some (.cells #[.int .i64 y.kd, .int .i64 y.n, .string y.tx] 23 (0, 0))) := r2
    clear b2 s2 th h2w r2 m2
    have NT : Hid (some W1.heap.size ≠ (Value.slice A2 ln d2).ownBlock) := (row_block own.out TH2.out (by decide)).symm
    have N0 : Hid (some hb ≠ (Value.slice A2 ln d2).ownBlock) := (row_block own.out H2.out.h (by decide)).symm
    have NX : Hid (some W.heap.size ≠ (Value.slice A2 ln d2).ownBlock) := fun q => by
      have := HBL.out W.heap.size (.inr (.inr ⟨V[m], List.getElem_mem h2, .inr (by rw [E2.out]; exact q.symm)⟩))
      omega
    go_wp2_with (at_builtin; refine wpList_append_gen _ (by rfl) _ _ _ (by rfl) 0 23 i0 _ 3 32 Tryd.underlying37 I0.out hz0 hz1 hz2 rfl (by omega) _ ln (H[m].ls.flatMap Vl.cs) (by rfl) (own.out.alloc _) (some ⟨W2.heap.size, 0, none⟩) 1 1 y.cs (by rfl) (by rfl) (fun _ => ⟨_, rfl, World.news_of_block (cs := #[.int .i64 y.kd, .int .i64 y.n, .string y.tx]) (t := 23) (fr := (0, 0)) (hnw _ rfl)⟩) (by simp [Value.oneCell', Vl.cs]) (by unfold maxLen; omega) (by omega) (by omega) ?_; rintro v' W3 o3 g3 f3; obtain ⟨gv, cv, rfl, -, -⟩ := o3.form (by omega); have th3 := grow_block g3 TH2.out NT.out; clear q0 q1 q2 z0 z1 z2 u0 u1 u2; obtain ⟨⟨q0, q1, q2⟩, z0, z1, z2⟩ := free3 th3; have O3 : Hid (_) := o3; have G3 : Hid (_) := g3; have F3 : Hid (_) := f3; have TH3 : Hid (_) := th3; clear o3 g3 f3 th3)
    obtain ⟨W4, hW4⟩ : ∃ X, W3.setCell ⟨W1.heap.size, 2, none⟩ (.slice (some ⟨gv, 0, none⟩) (ln + 1) cv) = X := ⟨_, rfl⟩
    simp only [hW4]
    have k4 : ∀ k, k ≠ W1.heap.size → W4.heap[k]? = W3.heap[k]? := fun k ne => by rw [← hW4]; exact Below.heap_setCell _ _ _ _ ne
    have K4 : Hid (∀ k, k ≠ W1.heap.size → W4.heap[k]? = W3.heap[k]?) := k4
    have th4 : W4.heap[W1.heap.size]? = some (.cells #[.bool false, .slice A1 mn d1, .slice (some ⟨gv, 0, none⟩) (ln + 1) cv] 77 (0, 0)) := by
      rw [← hW4]
      simp [World.setCell, Array.getElem?_modify, TH3.out]
    have L4 : Hid (W4.os = W3.os ∧ W4.tape = W3.tape ∧ W4.output = W3.output ∧ W4.heap.size = W3.heap.size) := by
      rw [← hW4]
      exact ⟨rfl, rfl, rfl, by simp [World.setCell]⟩
    have B01 := B1.out.size
    have m4 : W4.heap[W.heap.size]? = some (.cells #[.int .i64 x.kd, .int .i64 x.n, .string x.tx] 23 (0, 0)) := (k4 _ (by have := glt M1.out; omega)).trans (grow_block G3.out M2.out NX.out)
    have p4 : W4.heap[hb]? = some (.cells #[.slice (some ⟨g, 0, none⟩) H.length c] 34 (0, 0)) := (k4 _ (by omega)).trans (grow_block G3.out H2.out.h N0.out)
    have hk : g < W2.heap.size := by have := S2.out; omega
    have rr := row_same H2.out.t (W' := W4) (fun b e => by
      cases e
      obtain ⟨o, ho⟩ : ∃ o, W2.heap[g]? = some o := ⟨_, Array.getElem?_eq_getElem hk⟩
      refine (k4 g (by omega)).trans ((grow_block G3.out ho ?_).trans ho.symm)
      intro q
      exact row_apart own.out H2.out.t (by decide) q.symm rfl)
    have cc := fun j (hj : j < 3) => (rr.cellAt (m * 3 + j) (by omega)).trans (thV_get H V m hml h2 j hj)
    have x0 : W4.cell? ⟨g, m * 3, none⟩ = some (.bool H[m].ob) := cc 0 (by omega)
    have x1 : W4.cell? ⟨g, m * 3 + 1, none⟩ = some V[m].1 := cc 1 (by omega)
    have x2 : W4.cell? ⟨g, m * 3 + 2, none⟩ = some V[m].2 := cc 2 (by omega)
    have y0 := rr.frozenAt (m * 3)
    have y1 := rr.frozenAt (m * 3 + 1)
    have y2 := rr.frozenAt (m * 3 + 2)
    have hgb : hb ≠ g := fun q => row_block H2.out.t H2.out.h (by decide) (by rw [q]; rfl)
    clear rr cc
    obtain ⟨n0, n1, n2⟩ := box3 m4
    rw [hm] at n1
    have c0 : W4.cell? ⟨hb, 0, none⟩ = some (.slice (some ⟨g, 0, none⟩) H.length c) := by simp [World.cell?, p4]
    clear k4 hW4 m4 p4 q0 q1 q2 z0 z1 z2 hS
    obtain ⟨⟨q0, q1, q2⟩, -, -, -⟩ := free3 th4
    clear th4
    refine region_held (fun X => (X.cell? ⟨W.heap.size, 1, none⟩ = some (.int .i64 (m : Nat)) ∧ X.cell? ⟨hb, 0, none⟩ = some (.slice (some ⟨g, 0, none⟩) H.length c)) ∧ (X.cell? ⟨W1.heap.size, 0, none⟩ = some (.bool false) ∧ X.cell? ⟨W1.heap.size, 1, none⟩ = some (.slice A1 mn d1) ∧ X.cell? ⟨W1.heap.size, 2, none⟩ = some (.slice (some ⟨gv, 0, none⟩) (ln + 1) cv))) (by kernel_rfl) ⟨⟨n1, c0⟩, q0, q1, q2⟩ (fun hS => ?_)
    refine tH 0 ?_
    simp only [List.set]
    refine tH 1 ?_
    simp only [List.set]
    refine tH 2 ?_
    simp only [List.set]
    refine tH 3 ?_
    simp only [List.set]
    refine tH 4 ?_
    simp only [List.set]
    refine tH 5 ?_
    simp only [List.set]
    refine tH 6 ?_
    simp only [List.set]
    refine tH 7 ?_
    simp only [List.set]
    refine wpAnyH_ready (rs := [8]) (by kernel_rfl) (by simp) ?_
    refine AllReadyH.cons rfl (fun K hK => ?_) AllReadyH.nil
    go_simp
    refine hK.out _ _ ⟨⟨set3_cell _ _ _ (by omega) n1, set3_cell _ _ _ hgb c0⟩, set3_cell _ _ _ (by omega) q0, set3_cell _ _ _ (by omega) q1, set3_cell _ _ _ (by omega) q2⟩ (fun hS => ?_)
    clear hK K
    refine wpAnyH_done (by kernel_rfl) ?_ _
    clear hS n0 n1 n2 c0 q0 q1 q2 x0 x1 x2 y0 y1 y2
    obtain ⟨W5, hW5⟩ : ∃ X, ((W4.setCell ⟨g, m * 3, none⟩ (.bool false)).setCell ⟨g, m * 3 + 1, none⟩ (.slice A1 mn d1)).setCell ⟨g, m * 3 + 2, none⟩ (.slice (some ⟨gv, 0, none⟩) (ln + 1) cv) = X := ⟨_, rfl⟩
    simp only [hW5]
    have o3 := O3.out
    have g3 := G3.out
    have f3 := F3.out
    have HW5 : Hid (_) := hW5
    clear hW5
    have PP : Hid (_) := H2.out.psh (y := y) (W5 := W5) (tb := W1.heap.size) hml h2 (by rw [LN.out]; exact o3) (by rw [E2.out]; exact g3) (by rw [E2.out]; exact f3) (fun q => by have := HBL.out _ q; omega) (by have := S2.out; omega) HO.out ⟨W4, K4.out, by rw [E1.out]; exact HW5.out.symm⟩
    clear o3 g3 f3
    go_wp2
    go_ret
    refine ⟨by rw [HI.out]; rfl, _, ⟨_, _, by rw [HR.out]; exact PP.out.1.keep (fun _ _ => rfl), fun b => Iff.rfl⟩, ?_, fun b q => (PP.out.2.1 b q).imp id (fun q => by have := S2.out; omega)⟩
    have e5 : W5.os = W4.os ∧ W5.tape = W4.tape ∧ W5.output = W4.output ∧ W5.heap.size = W4.heap.size := by
      rw [← HW5.out]
      exact ⟨rfl, rfl, rfl, by simp [World.setCell]⟩
    have s3 := G3.out.size
    have l4 := L4.out
    have s2 := S2.out
    simp only [World.size_alloc] at s3
    refine ⟨e5.1.trans (l4.1.trans (G3.out.os.trans (B2.out.os.trans B1.out.os))), e5.2.1.trans (l4.2.1.trans (G3.out.tape.trans (B2.out.tape.trans B1.out.tape))), e5.2.2.1.trans (l4.2.2.1.trans (G3.out.output.trans (B2.out.output.trans B1.out.output))), ?_, fun k hk ns => ?_⟩
    · show W.heap.size ≤ W5.heap.size
      omega
    · exact (PP.out.2.2 k (by omega) (by omega) ns).trans ((B2.out.block k (by omega)).trans (B1.out.block k hk))
end Go.Proofs.YtlijplbaefaeaaaDoor
