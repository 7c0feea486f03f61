/- Own text. Package value's heap: Len, At, Get. -/
import Derived.Test.YtlijplbaefaeaaaDoorPvF
import Derived.Test.YtlijplbaefaeaaaDoorVc0
namespace Go.Proofs.YtlijplbaefaeaaaDoor
open Go.RowKit Go.Maps
set_option linter.unusedVariables false
set_option linter.unusedSimpArgs false

section
variable {hb n : Nat} {H : Hp} {T : List Wd} {pv : Value} {V : List Pb} {tv : Value} {S : Nat → Prop} {W : World}
theorem HvT.lst (h : HvT hb n H T pv V tv S W) {m : Nat} (h1 : m < H.length) (h2 : m < V.length) (ho : H[m].ob = false) : W.heap[V[m].1]? = some (.cells #[V[m].2] 61 (0, 0)) ∧ W.ownsRow 0 23 3 V[m].2 H[m].ls.length (H[m].ls.flatMap Vl.cs) := by
  obtain ⟨C, h, _⟩ := h
  have := h.th m h1 h2
  unfold ThA at this
  rw [ho] at this
  exact this
theorem HvT.obj (h : HvT hb n H T pv V tv S W) {m : Nat} (h1 : m < H.length) (h2 : m < V.length) (ho : H[m].ob = true) : MpF W valR V[m].1 (objF H[m]) := by
  obtain ⟨C, h, _⟩ := h
  have := h.th m h1 h2
  unfold ThA at this
  rw [ho] at this
  exact this.1
theorem HvT.sz (h : HvT hb n H T pv V tv S W) : ∀ t ∈ H, ∀ x ∈ t.ls, x.tx.size ≤ 140737488355328 := let ⟨_, h, _⟩ := h; h.sz
theorem HvT.ok (h : HvT hb n H T pv V tv S W) : ∀ t ∈ H, t.ob = true → t.nm.length = t.ls.length := let ⟨_, h, _⟩ := h; h.ok
end
theorem cell1 {W : World} {b : Nat} {v : Value} {t : TypeId} (h : W.heap[b]? = some (.cells #[v] t (0, 0))) : W.cell? ⟨b, 0, none⟩ = some v ∧ W.frozen? ⟨b, 0, none⟩ = false := by simp [World.cell?, World.frozen?, h]
set_option maxRecDepth 100000 in
set_option maxHeartbeats 4000000 in
theorem hlen_any {hb n : Nat} {H : Hp} {T : List Wd} {pv : Value} {V : List Pb} {S : Nat → Prop} {W : World} (h : HvS hb n H T pv V S W) (x : Vl) (hn : n ≤ 70368744177664) (hN : n = H.length) :
    Calls Tryd.prog 25 #[.pointer (some ⟨hb, 0, none⟩), x.v] W fun e W' => e = .returned (.int .i64 (lenH H x : Nat)) ∧ Below W.heap.size W W' := by
  obtain ⟨W0, hW0⟩ : ∃ X, W.alloc (.cells #[.int .i64 x.kd, .int .i64 x.n, .string x.tx] 23) = X := ⟨_, rfl⟩
  have b0 : Below W.heap.size W W0 := by rw [← hW0]; exact belA _ _
  have m0 : W0.heap[W.heap.size]? = some (.cells #[.int .i64 x.kd, .int .i64 x.n, .string x.tx] 23 (0, 0)) := by rw [← hW0]; exact hnw _ rfl
  obtain ⟨⟨c0, c1, c2⟩, _⟩ := free3 m0
  have h0 := h.bel b0
  have HC := hlist_any h0 x hn hN
  have B0 : Hid (Below W.heap.size W W0) := b0
  have H0 : Hid (HvS hb n H T pv V S W0) := h0
  clear b0 m0 h h0
  unfold Vl.v at HC ⊢
  go_enter Tryd.func25, Tryd.ntmps25
  go_wp2_with fail
  go_at_call 43
  refine HC.mono ?_
  rintro e W1 ⟨b1, q⟩
  have B1 : Hid (Below W.heap.size W W1) := B0.out.trans (b1.mono B0.out.size)
  have H1 : Hid (HvS hb n H T pv V S W1) := H0.out.bel b1
  clear HC hW0 b1 c0 c1 c2
  rcases q with ⟨hi, rfl⟩ | ⟨m, h1, h2, hm, ho, hi, rfl⟩
  · have HR : Hid (lenH H x = 0) := lenH_no hi
    clear hi
    go_wp2
    go_ret
    exact ⟨by rw [HR.out]; rfl, B1.out⟩
  · have HR : Hid (lenH H x = H[m].ls.length) := lenH_at hi hm h1
    obtain ⟨tv, ht⟩ := H1.out
    obtain ⟨l1, l2⟩ := ht.lst h1 h2 ho
    obtain ⟨A, c, e⟩ := vform l2
    rw [e] at l1
    obtain ⟨d0, _⟩ := cell1 l1
    clear hi hm ho ht l1 l2 e
    simp only [if_neg, Bool.false_eq_true, if_false]
    go_wp2
    go_ret
    exact ⟨by rw [HR.out]; rfl, B1.out⟩
theorem fin_val {W X : World} {p q r : Value} {t : TypeId} (h : X.heap[W.heap.size + 1]? = some (.cells #[p, q, r] t (0, 0))) (k : Below W.heap.size W X) (a b c : Value) : ((X.setCell ⟨W.heap.size + 1, 0, none⟩ a).setCell ⟨W.heap.size + 1, 1, none⟩ b |>.setCell ⟨W.heap.size + 1, 2, none⟩ c).heap[W.heap.size + 1]? = some (.cells #[a, b, c] t (0, 0)) ∧ Below W.heap.size W ((X.setCell ⟨W.heap.size + 1, 0, none⟩ a).setCell ⟨W.heap.size + 1, 1, none⟩ b |>.setCell ⟨W.heap.size + 1, 2, none⟩ c) := ⟨set3_same _ _ _ h, set3_bel _ _ _ k (by omega)⟩
set_option maxRecDepth 100000 in
set_option maxHeartbeats 4000000 in
theorem hAt_any {hb n : Nat} {H : Hp} {T : List Wd} {pv : Value} {V : List Pb} {S : Nat → Prop} {W : World} (h : HvS hb n H T pv V S W) (x : Vl) (i : Int) (hn : n ≤ 70368744177664) (hN : n = H.length) (hls : ∀ t ∈ H, t.ls.length ≤ 70368744177664) :
    Calls Tryd.prog 23 #[.pointer (some ⟨hb, 0, none⟩), x.v, .int .i64 i] W fun e W' => e = .returned (optV (atH H x i)) ∧ Below W.heap.size W W' := by
  obtain ⟨W0, hW0⟩ : ∃ X, (W.alloc (.cells #[.int .i64 x.kd, .int .i64 x.n, .string x.tx] 23)).alloc (.cells #[.int .i64 0, .int .i64 0, .string ⟨#[]⟩] 23) = X := ⟨_, rfl⟩
  have b0 : Below W.heap.size W W0 := by rw [← hW0]; exact belAA _ _ _
  have m0 : W0.heap[W.heap.size]? = some (.cells #[.int .i64 x.kd, .int .i64 x.n, .string x.tx] 23 (0, 0)) := by rw [← hW0]; exact hol _ (hnw _ rfl)
  have r0 : W0.heap[W.heap.size + 1]? = some (.cells #[.int .i64 0, .int .i64 0, .string ⟨#[]⟩] 23 (0, 0)) := by rw [← hW0]; exact hnw _ (by simp)
  obtain ⟨⟨c0, c1, c2⟩, _⟩ := free3 m0
  have h0 := h.bel b0
  have HC := hlist_any h0 x hn hN
  have B0 : Hid (Below W.heap.size W W0) := b0
  have H0 : Hid (HvS hb n H T pv V S W0) := h0
  have R0 : Hid (W0.heap[W.heap.size + 1]? = some (.cells #[.int .i64 0, .int .i64 0, .string ⟨#[]⟩] 23 (0, 0))) := r0
  clear b0 m0 h h0 r0
  unfold Vl.v at HC ⊢
  go_enter Tryd.func23, Tryd.ntmps23
  go_wp2_with fail
  go_at_call 43
  refine HC.mono ?_
  rintro e W1 ⟨b1, q⟩
  have B1 : Hid (Below W.heap.size W W1) := B0.out.trans (b1.mono B0.out.size)
  have H1 : Hid (HvS hb n H T pv V S W1) := H0.out.bel b1
  have r1 := (b1.block _ (glt R0.out)).trans R0.out
  have R1 : Hid (W1.heap[W.heap.size + 1]? = some (.cells #[.int .i64 0, .int .i64 0, .string ⟨#[]⟩] 23 (0, 0))) := r1
  obtain ⟨⟨d0, d1, d2⟩, y0, y1, y2⟩ := free3 r1
  clear HC hW0 b1 c0 c1 c2 r1
  rcases q with ⟨hi, rfl⟩ | ⟨m, h1, h2, hm, ho, hi, rfl⟩
  · have HR : Hid (atH H x i = none) := by unfold atH; rw [hi]; rfl
    clear hi
    go_wp2
    refine bodyPost_ret (res_vb Tryd.results23 (fin_val R1.out B1.out _ _ _).1 rfl rfl) rfl ⟨by rw [HR.out]; rfl, (fin_val R1.out B1.out _ _ _).2⟩
  · obtain ⟨tv, ht⟩ := H1.out
    obtain ⟨l1, l2⟩ := ht.lst h1 h2 ho
    have hll := hls _ (List.getElem_mem h1)
    simp only [Bool.false_eq_true, if_false]
    by_cases hj : 0 ≤ i ∧ i < (H[m].ls.length : Nat)
    · obtain ⟨j, rfl⟩ : ∃ j : Nat, i = (j : Nat) := ⟨i.toNat, by omega⟩
      have hjl : j < H[m].ls.length := by omega
      obtain ⟨g, c, e, ⟨t0, t1, t2⟩⟩ := ls_at l2 hjl
      have HR : Hid (atH H x (j : Nat) = some H[m].ls[j]) := atH_at hi hm h1 hjl
      have hz := ht.sz _ (List.getElem_mem h1) _ (List.getElem_mem hjl)
      rw [e] at l1
      obtain ⟨e0, _⟩ := cell1 l1
      have g1 : (0 : Int) ≤ (j : Int) := by omega
      have g2 : (j : Int) < (H[m].ls.length : Int) := by omega
      clear hi hm ho ht l1 l2 e hj
      generalize H[m].ls[j] = y at *
      generalize H[m].ls.length = ln at *
      have HC2 := fun X => handed_any y X hz
      unfold Vl.v at HC2
      go_wp2_with fail
      go_at_call 45
      refine (HC2 _).mono ?_
      rintro e W2 ⟨rfl, b2⟩
      have r2 := (b2.block _ (glt R1.out)).trans R1.out
      have R2 : Hid (W2.heap[W.heap.size + 1]? = some (.cells #[.int .i64 0, .int .i64 0, .string ⟨#[]⟩] 23 (0, 0))) := r2
      have B2 : Hid (Below W.heap.size W W2) := B1.out.trans (b2.mono B1.out.size)
      clear b2 d0 d1 d2 y0 y1 y2 t0 t1 t2 e0 HC2
      obtain ⟨⟨d0, d1, d2⟩, y0, y1, y2⟩ := free3 r2
      clear r2
      go_wp2
      refine bodyPost_ret (res_vb Tryd.results23 (fin_val R2.out B2.out _ _ _).1 rfl rfl) rfl ⟨by rw [HR.out]; rfl, (fin_val R2.out B2.out _ _ _).2⟩
    · have HR : Hid (atH H x i = none) := by
        by_cases q : i < 0
        · exact atH_neg q
        · exact atH_far (by rw [lenH_at hi hm h1]; omega)
      obtain ⟨A, c, e⟩ := vform l2
      rw [e] at l1
      obtain ⟨e0, _⟩ := cell1 l1
      clear hi hm ho ht l1 l2 e
      generalize H[m].ls.length = ln at *
      by_cases q : i < 0
      · go_wp2
        refine bodyPost_ret (res_vb Tryd.results23 (fin_val R1.out B1.out _ _ _).1 rfl rfl) rfl ⟨by rw [HR.out]; rfl, (fin_val R1.out B1.out _ _ _).2⟩
      · have g1 : (0 : Int) ≤ i := by omega
        have g2 : (ln : Int) ≤ i := by omega
        go_wp2
        refine bodyPost_ret (res_vb Tryd.results23 (fin_val R1.out B1.out _ _ _).1 rfl rfl) rfl ⟨by rw [HR.out]; rfl, (fin_val R1.out B1.out _ _ _).2⟩
theorem zeroV (w : World) : (zeroValue 23).run Tryd.prog w = .ok zV.v w := by kernel_rfl
theorem objF_at (t : Th) (s : ByteArray) : objF t (bl s) = (t.ls[posN t.nm s]?).map vD := by unfold objF getT; rw [bt_bl]
theorem obj_look {w : World} {b : Nat} {t : Th} (h : MpF w valR b (objF t)) {s : ByteArray} (hs : s.size ≤ 281474976710656) : (Instr.lookup 65 (.map (some b)) (.string s) true).run Tryd.prog w = .ok (.tuple #[((t.ls[posN t.nm s]?).getD zV).v, .bool (t.ls[posN t.nm s]?).isSome]) w := by
  obtain ⟨v, ps, hr, hv⟩ := h.look_ok Tryd.underlying65 (zeroV w) (valR_mk zV) hs
  rw [objF_at] at hr hv
  rw [hr]
  cases q : t.ls[posN t.nm s]? with
  | none => rw [q] at hv; rw [valR_inv (x := zV) hv]; rfl
  | some y => rw [q] at hv; rw [valR_inv (x := y) hv]; rfl
set_option maxRecDepth 100000 in
set_option maxHeartbeats 4000000 in
theorem hget_any {hb n : Nat} {H : Hp} {T : List Wd} {pv : Value} {V : List Pb} {S : Nat → Prop} {W : World} (h : HvS hb n H T pv V S W) (x : Vl) (s : ByteArray) (hs : s.size ≤ 281474976710656) (hn : n ≤ 70368744177664) (hN : n = H.length) :
    Calls Tryd.prog 24 #[.pointer (some ⟨hb, 0, none⟩), x.v, .string s] W fun e W' => e = .returned (optV (getH H x s)) ∧ Below W.heap.size W W' := by
  obtain ⟨W0, hW0⟩ : ∃ X, (W.alloc (.cells #[.int .i64 x.kd, .int .i64 x.n, .string x.tx] 23)).alloc (.cells #[.int .i64 0, .int .i64 0, .string ⟨#[]⟩] 23) = X := ⟨_, rfl⟩
  have b0 : Below W.heap.size W W0 := by rw [← hW0]; exact belAA _ _ _
  have m0 : W0.heap[W.heap.size]? = some (.cells #[.int .i64 x.kd, .int .i64 x.n, .string x.tx] 23 (0, 0)) := by rw [← hW0]; exact hol _ (hnw _ rfl)
  have r0 : W0.heap[W.heap.size + 1]? = some (.cells #[.int .i64 0, .int .i64 0, .string ⟨#[]⟩] 23 (0, 0)) := by rw [← hW0]; exact hnw _ (by simp)
  obtain ⟨⟨c0, c1, c2⟩, _⟩ := free3 m0
  have h0 := h.bel b0
  have HC := hobject_any h0 x hn hN
  have B0 : Hid (Below W.heap.size W W0) := b0
  have H0 : Hid (HvS hb n H T pv V S W0) := h0
  have R0 : Hid (W0.heap[W.heap.size + 1]? = some (.cells #[.int .i64 0, .int .i64 0, .string ⟨#[]⟩] 23 (0, 0))) := r0
  clear b0 m0 h h0 r0
  unfold Vl.v at HC ⊢
  go_enter Tryd.func24, Tryd.ntmps24
  go_wp2_with fail
  go_at_call 44
  refine HC.mono ?_
  rintro e W1 ⟨b1, q⟩
  have B1 : Hid (Below W.heap.size W W1) := B0.out.trans (b1.mono B0.out.size)
  have H1 : Hid (HvS hb n H T pv V S W1) := H0.out.bel b1
  have r1 := (b1.block _ (glt R0.out)).trans R0.out
  have R1 : Hid (W1.heap[W.heap.size + 1]? = some (.cells #[.int .i64 0, .int .i64 0, .string ⟨#[]⟩] 23 (0, 0))) := r1
  obtain ⟨⟨d0, d1, d2⟩, y0, y1, y2⟩ := free3 r1
  clear HC hW0 b1 c0 c1 c2 r1
  rcases q with ⟨hi, rfl⟩ | ⟨m, h1, h2, hm, ho, hi, rfl⟩
  · have HR : Hid (getH H x s = none) := getH_no hi
    clear hi
    simp only [if_true]
    go_wp2
    refine bodyPost_ret (res_vb Tryd.results24 (fin_val R1.out B1.out _ _ _).1 rfl rfl) rfl ⟨by rw [HR.out]; rfl, (fin_val R1.out B1.out _ _ _).2⟩
  · obtain ⟨tv, ht⟩ := H1.out
    have hlk := obj_look (ht.obj h1 h2 ho) hs
    have HR : Hid (getH H x s = H[m].ls[posN H[m].nm s]?) := getH_at hi hm h1
    have hz : ((H[m].ls[posN H[m].nm s]?).getD zV).tx.size ≤ 140737488355328 := by
      cases q : H[m].ls[posN H[m].nm s]? with
      | none => exact Nat.zero_le _
      | some y => exact ht.sz _ (List.getElem_mem h1) y (List.mem_of_getElem? q)
    simp only [if_true]
    clear hi hm ho ht
    generalize H[m].ls[posN H[m].nm s]? = o at *
    have HO : Hid (optV o = .tuple #[(o.getD zV).v, .bool o.isSome]) := rfl
    generalize o.isSome = ob at *
    generalize o.getD zV = y at *
    have HC2 := fun X => handed_any y X hz
    obtain ⟨W2, hW2⟩ : ∃ X, W1.alloc (.cells #[.int .i64 y.kd, .int .i64 y.n, .string y.tx] 23) = X := ⟨_, rfl⟩
    have b2 : Below W.heap.size W W2 := by rw [← hW2]; exact B1.out.alloc B1.out.size _
    have r2 : W2.heap[W.heap.size + 1]? = some (.cells #[.int .i64 0, .int .i64 0, .string ⟨#[]⟩] 23 (0, 0)) := by rw [← hW2]; exact hol _ R1.out
    have m2 : W2.heap[W1.heap.size]? = some (.cells #[.int .i64 y.kd, .int .i64 y.n, .string y.tx] 23 (0, 0)) := by rw [← hW2]; exact hnw _ rfl
    obtain ⟨⟨e0, e1, e2⟩, _⟩ := free3 m2
    have B2 : Hid (Below W.heap.size W W2) := b2
    have R2 : Hid (W2.heap[W.heap.size + 1]? = some (.cells #[.int .i64 0, .int .i64 0, .string ⟨#[]⟩] 23 (0, 0))) := r2
    clear b2 r2 m2
    unfold Vl.v at HC2 hlk
    go_wp2_with fail
    go_at_call 45
    refine (HC2 _).mono ?_
    rintro e W3 ⟨rfl, b3⟩
    have r3 := (b3.block _ (glt R2.out)).trans R2.out
    have R3 : Hid (W3.heap[W.heap.size + 1]? = some (.cells #[.int .i64 0, .int .i64 0, .string ⟨#[]⟩] 23 (0, 0))) := r3
    have B3 : Hid (Below W.heap.size W W3) := B2.out.trans (b3.mono B2.out.size)
    clear b3 d0 d1 d2 y0 y1 y2 e0 e1 e2 HC2 hW2 hlk
    obtain ⟨⟨d0, d1, d2⟩, y0, y1, y2⟩ := free3 r3
    clear r3
    go_wp2
    refine bodyPost_ret (res_vb Tryd.results24 (fin_val R3.out B3.out _ _ _).1 rfl rfl) rfl ⟨by rw [HR.out, HO.out]; rfl, (fin_val R3.out B3.out _ _ _).2⟩
end Go.Proofs.YtlijplbaefaeaaaDoor
