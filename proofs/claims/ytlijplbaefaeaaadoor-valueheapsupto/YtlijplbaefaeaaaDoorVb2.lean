/- Own text. The document's heap: Len, At. -/
import Derived.Test.YtlijplbaefaeaaaDoorVb1
namespace Go.Proofs.YtlijplbaefaeaaaDoor
open Go.RowKit
set_option linter.unusedVariables false
set_option linter.unusedSimpArgs false

theorem isH_true {H : Hp} {x : Vl} {o : Bool} (h : isH H x o = true) : x.kd = kO o ∧ ∃ m : Nat, x.n = (m : Nat) ∧ ∃ hm : m < H.length, H[m].ob = o := by
  by_cases hk : x.kd = kO o
  · by_cases hn : 0 ≤ x.n ∧ x.n < H.length
    · obtain ⟨m, hm⟩ : ∃ m : Nat, x.n = (m : Nat) := ⟨x.n.toNat, by omega⟩
      have hml : m < H.length := by omega
      rw [isH_at hk hm hml] at h
      exact ⟨hk, m, hm, hml, by simpa using h⟩
    · rw [isH_n hn] at h; cases h
  · rw [isH_kd hk] at h; cases h
theorem lenH_at {H : Hp} {x : Vl} (h : isH H x false = true) {m : Nat} (hm : x.n = (m : Nat)) (hl : m < H.length) : lenH H x = H[m].ls.length := by
  unfold lenH
  rw [if_pos h, show x.n.toNat = m by omega, List.getElem?_eq_getElem hl]
  rfl
theorem lenH_no {H : Hp} {x : Vl} (h : isH H x false = false) : lenH H x = 0 := by unfold lenH; rw [h]; rfl
set_option maxRecDepth 100000 in
set_option maxHeartbeats 8000000 in
theorem dlen_any {hb : Nat} {H : Hp} {vt : Value} {V : List Pv} {W : World} (h : HpAt hb H vt V W) (x : Vl) (hl : H.length ≤ 4194304) : Calls Tryd.prog 39 #[.pointer (some ⟨hb, 0, none⟩), x.v] W fun e W' => e = .returned (.int .i64 (lenH H x : Nat)) ∧ Below W.heap.size W W' := by
  obtain ⟨W0, hW0⟩ : ∃ X, W.alloc (.cells #[.int .i64 x.kd, .int .i64 x.n, .string x.tx] 23) = X := ⟨_, rfl⟩
  have b0 : Below W.heap.size W W0 := by rw [← hW0]; exact belA _ _
  have m0 : W0.heap[W.heap.size]? = some (.cells #[.int .i64 x.kd, .int .i64 x.n, .string x.tx] 23 (0, 0)) := by rw [← hW0]; exact hnw _ rfl
  have h0 := h.keep (W' := W0) (fun b hb' => b0.block b (h.lt b hb'))
  have CI := dis_any h0 x false hl
  obtain ⟨n0, n1, n2⟩ := box3 m0
  unfold Vl.v at CI ⊢
  have B0 : Hid (Below W.heap.size W W0) := b0
  have M0 : Hid (W0.heap[W.heap.size]? = some (.cells #[.int .i64 x.kd, .int .i64 x.n, .string x.tx] 23 (0, 0))) := m0
  have H0 : Hid (HpAt hb H vt V W0) := h0
  clear b0 m0 h h0
  go_enter Tryd.func39, Tryd.ntmps39
  go_wp2_with fail
  go_at_call 51
  refine CI.mono ?_
  rintro e W1 ⟨rfl, b1⟩
  clear CI hW0 n0 n1 n2
  have B1 : Hid (Below W.heap.size W W1) := B0.out.trans (b1.mono B0.out.size)
  cases hi : isH H x false with
  | false =>
    go_wp2
    go_ret
    exact ⟨by rw [lenH_no hi]; rfl, B1.out⟩
  | true =>
    obtain ⟨_, m, hm, hml, _⟩ := isH_true hi
    have HR : Hid (lenH H x = H[m].ls.length) := lenH_at hi hm hml
    have h1 := H0.out.keep (W' := W1) (fun b hb' => b1.block b (H0.out.lt b hb'))
    have m1 := (b1.block _ (glt M0.out)).trans M0.out
    obtain ⟨n0, n1, n2⟩ := box3 m1
    rw [hm] at n1
    obtain ⟨g, c, h2, e, ⟨t0, t1, t2⟩, _, hg⟩ := h1.thing hml
    obtain ⟨A, c2, e2⟩ := vform (h1.l m hml h2)
    rw [e2] at t2
    subst e
    have c0 := h1.cell.1
    have hlt : (m : Int) < (H.length : Int) := by omega
    generalize H[m].ls.length = ln at *
    clear b1 m1 h1 M0 H0 hi
    go_wp2_with fail
    refine region_held (fun X => (X.cell? ⟨W.heap.size, 1, none⟩ = some (.int .i64 (m : Nat)) ∧ X.cell? ⟨hb, 0, none⟩ = some (.slice (some ⟨g, 0, none⟩) H.length c)) ∧ X.cell? ⟨g, m * 3 + 2, none⟩ = some (.slice A ln c2)) (by kernel_rfl) ⟨⟨n1, c0⟩, t2⟩ (fun hS => ?_)
    refine tH 0 ?_
    simp only [List.set]
    refine tH 1 ?_
    simp only [List.set]
    refine tH 2 ?_
    simp only [List.set]
    refine tH 3 ?_
    simp only [List.set]
    refine tH 4 ?_
    simp only [List.set]
    refine tH 5 ?_
    simp only [List.set]
    refine tH 6 ?_
    simp only [List.set]
    refine tH 7 ?_
    simp only [List.set]
    refine tH 8 ?_
    simp only [List.set]
    refine tH 9 ?_
    simp only [List.set]
    refine tH 10 ?_
    simp only [List.set]
    refine wpAnyH_done (by kernel_rfl) ?_ _
    go_wp2
    go_ret
    exact ⟨by rw [HR.out]; rfl, B1.out.drew⟩
end Go.Proofs.YtlijplbaefaeaaaDoor
