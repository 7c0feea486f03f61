/- Own text. Package value's heap: Put. -/
import Derived.Test.YtlijplbaefaeaaaDoorPvI
namespace Go.Proofs.YtlijplbaefaeaaaDoor
open Go.RowKit Go.Maps
set_option linter.unusedVariables false
set_option linter.unusedSimpArgs false

theorem HvT.putL {hb n : Nat} {H : Hp} {T : List Wd} {pv : Value} {V : List Pb} {tv : Value} {S : Nat → Prop} {W : World} (h : HvT hb n H T pv V tv S W) {m : Nat} (h1 : m < H.length) (h2 : m < V.length) (ho : H[m].ob = false) {g2 c2 : Nat} (e2 : V[m].2 = .slice (some ⟨g2, 0, none⟩) H[m].ls.length c2) {j : Nat} (hj : j < H[m].ls.length) (y : Vl) (hy : y.tx.size ≤ 140737488355328) :
    HvT hb n (H.set m ⟨H[m].ob, H[m].nm, H[m].ls.set j y⟩) T pv V tv S (((W.setCell ⟨g2, j * 3, none⟩ (.int .i64 y.kd)).setCell ⟨g2, j * 3 + 1, none⟩ (.int .i64 y.n)).setCell ⟨g2, j * 3 + 2, none⟩ (.string y.tx)) := by
  obtain ⟨l1, l2⟩ := h.lst h1 h2 ho
  obtain ⟨C, h, hS⟩ := h
  have eb : V[m].2.ownBlock = some g2 := by rw [e2]; rfl
  have far : ∀ k, k ≠ g2 → (((W.setCell ⟨g2, j * 3, none⟩ (.int .i64 y.kd)).setCell ⟨g2, j * 3 + 1, none⟩ (.int .i64 y.n)).setCell ⟨g2, j * 3 + 2, none⟩ (.string y.tx)).heap[k]? = W.heap[k]? := fun k ne => set3_far _ _ _ ne
  have q := h.upd (W' := ((W.setCell ⟨g2, j * 3, none⟩ (.int .i64 y.kd)).setCell ⟨g2, j * 3 + 1, none⟩ (.int .i64 y.n)).setCell ⟨g2, j * 3 + 2, none⟩ (.string y.tx)) h1 h2 ⟨H[m].ob, H[m].nm, H[m].ls.set j y⟩ V[m] rfl rfl (fun b q ne nr => far b (fun e => nr (e ▸ eb))) ?_ (fun b e => .inl e) (fun w => by rw [show (⟨H[m].ob, H[m].nm, H[m].ls.set j y⟩ : Th).ob = H[m].ob from rfl, ho] at w; cases w) (fun x hx => ?_)
  · rw [set_self] at q
    exact ⟨C, q, hS⟩
  · unfold ThA
    rw [if_neg (by simp [ho])]
    refine ⟨(far _ (fun e => ?_)).trans l1, ?_⟩
    · exact (row_tg l2 eb).ne (show Tg W V[m].1 (some 61) from ⟨_, l1, rfl⟩) (by decide) e.symm
    · rw [e2] at l2 ⊢
      have r := row_setL l2 hj y
      simpa using r
  · rcases List.mem_or_eq_of_mem_set hx with hx | rfl
    · exact h.sz _ (List.getElem_mem h1) x hx
    · exact hy
theorem TOk.put {H : Hp} {T : List Wd} (h : TOk H T) {m : Nat} (hm : m < H.length) {j : Nat} (hj : j < H[m].ls.length) (y : Vl) : TOk (H.set m ⟨H[m].ob, H[m].nm, H[m].ls.set j y⟩) ((kpL y.tx T).erase (bl H[m].ls[j].tx)) := by
  have hc : ∀ k, (wdsT ⟨H[m].ob, H[m].nm, H[m].ls.set j y⟩).count k + (if bl H[m].ls[j].tx = k then 1 else 0) = (wdsT H[m]).count k + if bl y.tx = k then 1 else 0 := fun k => by
    unfold wdsT
    simp only [List.map_set, List.count_append]
    rw [List.count_set (by simpa using hj)]
    have hp : (bl H[m].ls[j].tx = k) → 0 < (H[m].ls.map fun x => bl x.tx).count k := fun e => List.count_pos_iff.2 (List.mem_map.2 ⟨_, List.getElem_mem hj, e⟩)
    simp only [List.getElem_map, beq_iff_eq]
    by_cases e1 : bl H[m].ls[j].tx = k
    · have := hp e1
      simp only [e1, if_true]
      omega
    · simp only [e1, if_false]
      omega
  have hin : ∀ k, k ≠ [] → bl H[m].ls[j].tx = k → 0 < T.count k := fun k q e => by
    rw [h k, if_neg q]
    refine List.count_pos_iff.2 (List.mem_flatMap.2 ⟨_, List.getElem_mem hm, ?_⟩)
    unfold wdsT
    exact List.mem_append_right _ (List.mem_map.2 ⟨_, List.getElem_mem hj, e⟩)
  refine h.set hm _ (fun k q => ?_) ?_
  · rw [count_dr, count_kp, if_neg q]
    have a := hc k
    have b := hin k q
    by_cases e1 : bl H[m].ls[j].tx = k
    · have := b e1
      simp only [e1, if_true] at a ⊢
      omega
    · simp only [e1, if_false] at a ⊢
      omega
  · rw [count_dr, count_kp, if_pos rfl]
    have := h []
    rw [if_pos rfl] at this
    omega
theorem kp_len (s : ByteArray) (T : List Wd) : (kpL s T).length ≤ T.length + 1 := by unfold kpL; split <;> simp
theorem Stp.set {S S' : Nat → Prop} {W X : World} (h : Stp S W S' X) {g i : Nat} {v : Value} (hg : S' g) : Stp S W S' (X.setCell ⟨g, i, none⟩ v) := ⟨kv_set h.k (fun l => (h.s g hg).elim id (fun q => by omega)), h.s⟩
set_option maxRecDepth 100000 in
set_option maxHeartbeats 8000000 in
theorem hput_any {hb : Nat} {H : Hp} {S : Nat → Prop} {W : World} (h : vAt W hb H S) (hs : smH H) (x : Vl) (i : Int) (y : Vl) (hy : y.tx.size ≤ 140737488355328) :
    Calls Tryd.prog 26 #[.pointer (some ⟨hb, 0, none⟩), x.v, .int .i64 i, y.v] W (Chg vAt hb S W (.bool (putB H x i)) (putH H x i y)) := by
  obtain ⟨T, pv, V, h, hT⟩ := h
  have sT := hT.small hs
  obtain ⟨W0, hW0⟩ : ∃ X, (W.alloc (.cells #[.int .i64 x.kd, .int .i64 x.n, .string x.tx] 23)).alloc (.cells #[.int .i64 y.kd, .int .i64 y.n, .string y.tx] 23) = X := ⟨_, rfl⟩
  have b0 : Below W.heap.size W W0 := by rw [← hW0]; exact belAA _ _ _
  have m0 : W0.heap[W.heap.size]? = some (.cells #[.int .i64 x.kd, .int .i64 x.n, .string x.tx] 23 (0, 0)) := by rw [← hW0]; exact hol _ (hnw _ rfl)
  have r0 : W0.heap[W.heap.size + 1]? = some (.cells #[.int .i64 y.kd, .int .i64 y.n, .string y.tx] 23 (0, 0)) := by rw [← hW0]; exact hnw _ (by simp)
  obtain ⟨⟨c0, c1, c2⟩, _⟩ := free3 m0
  have h0 := h.bel b0
  have HC := hlist_any h0 x (by have := hs.1; omega) rfl
  have hlt := h.lt
  have HLT : Hid (∀ b, S b → b < W.heap.size) := hlt
  have B0 : Hid (Below W.heap.size W W0) := b0
  have H0 : Hid (HvS hb H.length H T pv V S W0) := h0
  have R0 : Hid (W0.heap[W.heap.size + 1]? = some (.cells #[.int .i64 y.kd, .int .i64 y.n, .string y.tx] 23 (0, 0))) := r0
  have HT : Hid (TOk H T) := hT
  clear b0 m0 h h0 r0 hT hlt
  unfold Vl.v at HC ⊢
  go_enter Tryd.func26, Tryd.ntmps26
  go_wp2_with fail
  go_at_call 43
  refine HC.mono ?_
  rintro e W1 ⟨b1, q⟩
  have B1 : Hid (Below W.heap.size W W1) := B0.out.trans (b1.mono B0.out.size)
  have H1 : Hid (HvS hb H.length H T pv V S W1) := H0.out.bel b1
  have R1 : Hid (W1.heap[W.heap.size + 1]? = some (.cells #[.int .i64 y.kd, .int .i64 y.n, .string y.tx] 23 (0, 0))) := (b1.block _ (glt R0.out)).trans R0.out
  clear HC hW0 b1 c0 c1 c2
  rcases q with ⟨hi, rfl⟩ | ⟨m, h1, h2, hm, ho, hi, rfl⟩
  · have HB : Hid (putB H x i = false) := putB_no hi
    clear hi
    go_wp2
    go_ret
    exact ⟨by rw [HB.out]; rfl, S, by rw [putH_no HB.out]; exact ⟨T, pv, V, H1.out, HT.out⟩, Kv.of B1.out, fun b q => .inl q⟩
  have HI : Hid (isH H x false = true) := hi
  have HM : Hid (x.n = (m : Nat)) := hm
  have HO : Hid (H[m].ob = false) := ho
  have hls := (hs.2 _ (List.getElem_mem h1)).1
  have HLN : Hid (lenH H x = H[m].ls.length) := lenH_at hi hm h1
  clear hi hm ho
  simp only [Bool.false_eq_true, if_false]
  obtain ⟨tv, ht⟩ := H1.out
  obtain ⟨l1, l2⟩ := ht.lst h1 h2 HO.out
  obtain ⟨A, c, e⟩ := vform l2
  rw [e] at l1
  obtain ⟨d0, _⟩ := cell1 l1
  have HT1 : Hid (HvT hb H.length H T pv V tv S W1) := ht
  have E0 : Hid (V[m].2 = .slice A H[m].ls.length c) := e
  clear ht l1 l2 e
  by_cases hi0 : i < 0
  · have HB : Hid (putB H x i = false) := putB_neg hi0
    go_wp2
    go_ret
    exact ⟨by rw [HB.out]; rfl, S, by rw [putH_no HB.out]; exact ⟨T, pv, V, H1.out, HT.out⟩, Kv.of B1.out, fun b q => .inl q⟩
  by_cases hf : ((H[m].ls.length : Nat) : Int) < i
  · have HB : Hid (putB H x i = false) := putB_far (by rw [HLN.out]; exact hf)
    have g1 : (0 : Int) ≤ i := by omega
    go_wp2
    go_ret
    exact ⟨by rw [HB.out]; rfl, S, by rw [putH_no HB.out]; exact ⟨T, pv, V, H1.out, HT.out⟩, Kv.of B1.out, fun b q => .inl q⟩
  have HB : Hid (putB H x i = true) := putB_yes HI.out (by omega) (by rw [HLN.out]; omega)
  obtain ⟨j, rfl⟩ : ∃ j : Nat, i = (j : Nat) := ⟨i.toNat, by omega⟩
  obtain ⟨⟨d1, d2, d3⟩, _⟩ := free3 R1.out
  by_cases he : j = H[m].ls.length
  · have HR : Hid (putH H x (j : Nat) y = H.set m ⟨H[m].ob, H[m].nm, H[m].ls ++ [y]⟩) := by
      show _ = _
      rw [putH_end HB.out (by rw [HLN.out, he]), pshH_at HI.out HM.out h1]
    have HC2 := push_any H1.out h1 h2 HO.out y hy (by omega) (by omega)
    unfold Vl.v at HC2
    have g1 : ¬ ((j : Int) < 0) := by omega
    have g2 : ¬ (((H[m].ls.length : Nat) : Int) < (j : Nat)) := by omega
    have g3 : ((j : Int) == ((H[m].ls.length : Nat) : Int)) = true := by simp [he]
    have hln : H[m].ls.length ≤ 2097152 := hls
    generalize hlq : H[m].ls.length = ln at *
    clear he HLN
    go_wp2_with fail
    go_at_call 40
    refine HC2.mono ?_
    rintro e W2 ⟨rfl, v', S2, h2', s2⟩
    have H2 : Hid (HvS hb H.length (H.set m ⟨H[m].ob, H[m].nm, H[m].ls ++ [y]⟩) (kpL y.tx T) pv (V.set m (V[m].1, v')) S2 W2) := h2'
    have ST : Hid (Stp S W S2 W2) := (Stp.bel B1.out).trans s2
    clear h2' s2 HC2 d0 d1 d2
    go_wp2
    go_ret
    exact ⟨by rw [HB.out]; rfl, S2, by rw [HR.out]; exact ⟨_, pv, _, by simpa using H2.out, HT.out.psh h1 y⟩, ST.out.k, ST.out.s⟩
  · have hj : j < H[m].ls.length := by omega
    have HR : Hid (putH H x (j : Nat) y = H.set m ⟨H[m].ob, H[m].nm, H[m].ls.set j y⟩) := putH_at HB.out (by rw [HLN.out]; exact he) HM.out h1
    have own := (HT1.out.lst h1 h2 HO.out).2
    obtain ⟨g, c', e, ⟨t0, t1, t2⟩⟩ := ls_at own hj
    have e' := E0.out
    rw [e] at e'
    injection e' with e1 _ e3
    subst e1
    subst e3
    have hz := HT1.out.sz _ (List.getElem_mem h1) _ (List.getElem_mem hj)
    have PU : Hid (TOk (H.set m ⟨H[m].ob, H[m].nm, H[m].ls.set j y⟩) ((kpL y.tx T).erase (bl H[m].ls[j].tx))) := HT.out.put h1 hj y
    have E2 : Hid (V[m].2 = .slice (some ⟨g, 0, none⟩) H[m].ls.length c') := e
    have HJ : Hid (j < H[m].ls.length) := hj
    have g1 : ¬ ((j : Int) < 0) := by omega
    have g4 : (0 : Int) ≤ (j : Int) := by omega
    have g2 : ¬ (((H[m].ls.length : Nat) : Int) < (j : Nat)) := by omega
    have g3 : ((j : Int) == ((H[m].ls.length : Nat) : Int)) = false := by simp; omega
    have g5 : (j : Int) < ((H[m].ls.length : Nat) : Int) := by omega
    obtain ⟨ln, hln⟩ : ∃ ln, H[m].ls.length = ln := ⟨_, rfl⟩
    have LN : Hid (H[m].ls.length = ln) := hln
    have hll : ln ≤ 2097152 := by omega
    have hjl : j < ln := by omega
    generalize H[m].ls[j] = z at *
    obtain ⟨lb, hlb⟩ : ∃ lb, V[m].1 = lb := ⟨_, rfl⟩
    have LB : Hid (V[m].1 = lb) := hlb
    rw [hlb, hln] at d0
    rw [hlb]
    rw [hln] at g2 g3 g5
    obtain ⟨t0, t3, t4⟩ := t0
    obtain ⟨W2, hW2⟩ : ∃ X, W1.alloc (.cells #[.int .i64 z.kd, .int .i64 z.n, .string z.tx] 23) = X := ⟨_, rfl⟩
    have b2 : Below W1.heap.size W1 W2 := by rw [← hW2]; exact belA _ _
    have m2 : W2.heap[W1.heap.size]? = some (.cells #[.int .i64 z.kd, .int .i64 z.n, .string z.tx] 23 (0, 0)) := by rw [← hW2]; exact hnw _ rfl
    have HT2 : Hid (HvT hb H.length H T pv V tv S W2) := HT1.out.bel b2
    have B2 : Hid (Below W.heap.size W W2) := B1.out.trans (b2.mono B1.out.size)
    have M2 : Hid (W2.heap[W1.heap.size]? = some (.cells #[.int .i64 z.kd, .int .i64 z.n, .string z.tx] 23 (0, 0)) ∧ ¬ S W1.heap.size) := ⟨m2, fun q => by have := HT1.out.lt _ q; omega⟩
    have r2 := (b2.block _ (glt R1.out)).trans R1.out
    have sz1 : Hid (W.heap.size + 2 ≤ W1.heap.size) := glt R1.out
    have R2 : Hid (W2.heap[W.heap.size + 1]? = some (.cells #[.int .i64 y.kd, .int .i64 y.n, .string y.tx] 23 (0, 0)) ∧ ¬ S (W.heap.size + 1)) := ⟨r2, fun q => by have := HLT.out _ q; omega⟩
    clear own e b2 m2 r2 d1 d2 d3 hj hln hlb he hf hi0 HLN
    go_wp2_with fail
    obtain ⟨l1, l2⟩ := HT2.out.lst h1 h2 HO.out
    have c0' := (cell1 l1).1
    rw [E2.out, LB.out, LN.out] at c0'
    clear l1 l2 d0 t0 t3 t4
    obtain ⟨⟨q0, q1, q2⟩, _⟩ := free3 R2.out.1
    try simp only [hW2]
    have HC2 := kept_any (⟨tv, HT2.out.keep (fun _ _ => rfl)⟩ : HvS hb H.length H T pv V S W2.drew) y hy (by omega)
    unfold Vl.v at HC2
    refine region_held (fun X => X.cell? ⟨lb, 0, none⟩ = some (.slice (some ⟨g, 0, none⟩) ln c') ∧ (X.cell? ⟨W.heap.size + 1, 0, none⟩ = some (.int .i64 y.kd) ∧ X.cell? ⟨W.heap.size + 1, 1, none⟩ = some (.int .i64 y.n) ∧ X.cell? ⟨W.heap.size + 1, 2, none⟩ = some (.string y.tx))) (by kernel_rfl) ⟨c0', q0, q1, q2⟩ (fun hS => ?_)
    refine tH 0 ?_
    simp only [List.set]
    refine tH 1 ?_
    simp only [List.set]
    refine tH 2 ?_
    simp only [List.set]
    refine tH 3 ?_
    simp only [List.set]
    refine tH 4 ?_
    simp only [List.set]
    refine tH 5 ?_
    simp only [List.set]
    refine tH 6 ?_
    simp only [List.set]
    refine wpAnyH_ready (rs := [7]) (by kernel_rfl) (by simp) ?_
    refine AllReadyH.cons rfl (fun K hK => ?_) AllReadyH.nil
    refine step_callB (by rfl) 46 _ _ _ rfl (.pointer (some ⟨hb, 0, none⟩)) (.agg #[.int .i64 y.kd, .int .i64 y.n, .string y.tx]) (by rfl) (by rfl) (fun _ _ => rfl) HC2 ?_
    rintro e W3 ⟨rfl, S3, ⟨tv3, h3⟩, s3⟩
    refine ⟨_, rfl, ?_⟩
    have s3' : Stp S W2 S3 W3 := ⟨⟨s3.k.os, s3.k.tape, s3.k.output, s3.k.size, s3.k.block⟩, s3.s⟩
    obtain ⟨r3, n3⟩ := s3'.box R2.out.1 R2.out.2
    obtain ⟨m3, n3'⟩ := s3'.box M2.out.1 M2.out.2
    obtain ⟨l1, l2⟩ := h3.lst h1 h2 HO.out
    have c3 := (cell1 l1).1
    rw [E2.out, LB.out, LN.out] at c3
    have own3 := l2
    rw [E2.out] at own3
    obtain ⟨g', c'', e9, ⟨t0, t3, t4⟩, tz, -⟩ := ls_at own3 HJ.out
    injection e9 with e9
    injection e9 with e9
    injection e9 with e9
    subst e9
    have z0 := tz (j * 3)
    have z1 := tz (j * 3 + 1)
    have z2 := tz (j * 3 + 2)
    have N3 : Hid (¬ S3 W1.heap.size) := n3'
    have hgS : S3 g := h3.n2 h2 (by rw [E2.out]; rfl)
    have nel : lb ≠ g := fun q => (row_tg l2 (by rw [E2.out]; rfl)).ne (show Tg W3 V[m].1 (some 61) from ⟨_, l1, rfl⟩) (by decide) (by rw [LB.out, q])
    have neb : W.heap.size + 1 ≠ g := fun q => n3 (by rw [q]; exact hgS)
    have neo : W1.heap.size ≠ g := fun q => n3' (by rw [q]; exact hgS)
    obtain ⟨⟨u0, u1, u2⟩, _⟩ := free3 r3
    have PL : Hid (HvT hb H.length (H.set m ⟨H[m].ob, H[m].nm, H[m].ls.set j y⟩) (kpL y.tx T) pv V tv3 S3 (((W3.setCell ⟨g, j * 3, none⟩ (.int .i64 y.kd)).setCell ⟨g, j * 3 + 1, none⟩ (.int .i64 y.n)).setCell ⟨g, j * 3 + 2, none⟩ (.string y.tx))) := h3.putL h1 h2 HO.out E2.out HJ.out y hy
    have ST : Hid (Stp S W S3 (((W3.setCell ⟨g, j * 3, none⟩ (.int .i64 y.kd)).setCell ⟨g, j * 3 + 1, none⟩ (.int .i64 y.n)).setCell ⟨g, j * 3 + 2, none⟩ (.string y.tx))) := ((((Stp.bel B2.out).trans s3').set hgS).set hgS).set hgS
    have M4 : Hid ((((W3.setCell ⟨g, j * 3, none⟩ (.int .i64 y.kd)).setCell ⟨g, j * 3 + 1, none⟩ (.int .i64 y.n)).setCell ⟨g, j * 3 + 2, none⟩ (.string y.tx)).heap[W1.heap.size]? = some (.cells #[.int .i64 z.kd, .int .i64 z.n, .string z.tx] 23 (0, 0))) := (set3_far _ _ _ neo).trans m3
    refine hK.out _ _ ⟨c3, u0, u1, u2⟩ (fun hS => ?_)
    clear hK K HC2 h3 s3 s3' r3 n3 m3 n3' l1 l2 own3 tz hgS q0 q1 q2 c0'
    refine tH 8 ?_
    simp only [List.set]
    refine wpAnyH_ready (rs := [9]) (by kernel_rfl) (by simp) ?_
    refine AllReadyH.cons rfl (fun K hK => ?_) AllReadyH.nil
    go_simp
    refine hK.out _ _ ⟨set3_cell _ _ _ nel c3, set3_cell _ _ _ neb u0, set3_cell _ _ _ neb u1, set3_cell _ _ _ neb u2⟩ (fun hS => ?_)
    clear hK K
    refine wpAnyH_done (by kernel_rfl) ?_ _
    clear hS c3 u0 u1 u2 t0 t3 t4 z0 z1 z2 nel neb neo
    generalize ((W3.setCell ⟨g, j * 3, none⟩ (.int .i64 y.kd)).setCell ⟨g, j * 3 + 1, none⟩ (.int .i64 y.n)).setCell ⟨g, j * 3 + 2, none⟩ (.string y.tx) = W4 at *
    have a1 := (cellB PL.out.cell).1.2
    have a2 := (free3 M4.out).1.2.2
    have NO : Hid (¬ S3 W1.heap.size) := N3.out
    have HC3 := hdrop_any (W := W4.drew) (PL.out.keep (fun _ _ => rfl)) z.tx hz (by have := kp_len y.tx T; omega)
    have a1' : (World.drew W4).cell? ⟨hb, 1, none⟩ = some tv3 := a1
    have a2' : (World.drew W4).cell? ⟨W1.heap.size, 2, none⟩ = some (.string z.tx) := a2
    go_wp2_with fail
    go_region_held3 (fun X => X.cell? ⟨hb, 1, none⟩ = some tv3 ∧ X.cell? ⟨W1.heap.size, 2, none⟩ = some (.string z.tx))
      (first | exact ⟨a1', a2'⟩ | exact a5)
      (first | (go_at_call 47; refine HC3.mono ?_; rintro e W5 ⟨rfl, S5, h5, s5⟩; have a5 : W5.cell? ⟨hb, 1, none⟩ = some tv3 ∧ W5.cell? ⟨W1.heap.size, 2, none⟩ = some (.string z.tx) := ⟨(cellB h5.cell).1.2, (free3 (s5.box M4.out NO.out).1).1.2.2⟩))
    have H5 : Hid (HvT hb H.length (H.set m ⟨H[m].ob, H[m].nm, H[m].ls.set j y⟩) ((kpL y.tx T).erase (bl z.tx)) pv V tv3 S5 W5) := h5
    have ST5 : Hid (Stp S W S5 W5) := ST.out.trans ⟨⟨s5.k.os, s5.k.tape, s5.k.output, s5.k.size, s5.k.block⟩, s5.s⟩
    clear h5 s5 a5 HC3 a1 a2 a1' a2'
    go_wp2
    go_ret
    exact ⟨by rw [HB.out]; rfl, S5, by rw [HR.out]; exact ⟨_, pv, V, ⟨tv3, by simpa using H5.out⟩, PU.out⟩, ST5.out.k, ST5.out.s⟩
end Go.Proofs.YtlijplbaefaeaaaDoor
