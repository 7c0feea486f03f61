/- Own text. Package value's heap: Set. -/
import Derived.Test.YtlijplbaefaeaaaDoorPvL
namespace Go.Proofs.YtlijplbaefaeaaaDoor
open Go.RowKit Go.Maps
set_option linter.unusedVariables false
set_option linter.unusedSimpArgs false

set_option maxRecDepth 100000 in
set_option maxHeartbeats 4000000 in
theorem hset_any {hb : Nat} {H : Hp} {S : Nat → Prop} {W : World} (h : vAt W hb H S) (hs : smH H) (x : Vl) (s : ByteArray) (hss : s.size ≤ 140737488355328) (y : Vl) (hy : y.tx.size ≤ 140737488355328) :
    Calls Tryd.prog 22 #[.pointer (some ⟨hb, 0, none⟩), x.v, .string s, y.v] W (Chg vAt hb S W (.bool (isH H x true)) (setH H x s y)) := by
  obtain ⟨T, pv, V, h, hT⟩ := h
  have sT := hT.small hs
  obtain ⟨W0, hW0⟩ : ∃ X, (W.alloc (.cells #[.int .i64 x.kd, .int .i64 x.n, .string x.tx] 23)).alloc (.cells #[.int .i64 y.kd, .int .i64 y.n, .string y.tx] 23) = X := ⟨_, rfl⟩
  have b0 : Below W.heap.size W W0 := by rw [← hW0]; exact belAA _ _ _
  have m0 : W0.heap[W.heap.size]? = some (.cells #[.int .i64 x.kd, .int .i64 x.n, .string x.tx] 23 (0, 0)) := by rw [← hW0]; exact hol _ (hnw _ rfl)
  have r0 : W0.heap[W.heap.size + 1]? = some (.cells #[.int .i64 y.kd, .int .i64 y.n, .string y.tx] 23 (0, 0)) := by rw [← hW0]; exact hnw _ (by simp)
  obtain ⟨⟨c0, c1, c2⟩, _⟩ := free3 m0
  have h0 := h.bel b0
  have HC := hobject_any h0 x (by have := hs.1; omega) rfl
  have B0 : Hid (Below W.heap.size W W0) := b0
  have H0 : Hid (HvS hb H.length H T pv V S W0) := h0
  have R0 : Hid (W0.heap[W.heap.size + 1]? = some (.cells #[.int .i64 y.kd, .int .i64 y.n, .string y.tx] 23 (0, 0))) := r0
  have HT : Hid (TOk H T) := hT
  clear b0 m0 h h0 r0 hT
  unfold Vl.v at HC ⊢
  go_enter Tryd.func22, Tryd.ntmps22
  go_wp2_with fail
  go_at_call 44
  refine HC.mono ?_
  rintro e W1 ⟨b1, q⟩
  have B1 : Hid (Below W.heap.size W W1) := B0.out.trans (b1.mono B0.out.size)
  have H1 : Hid (HvS hb H.length H T pv V S W1) := H0.out.bel b1
  have r1 := (b1.block _ (glt R0.out)).trans R0.out
  clear HC hW0 b1 c0 c1 c2
  obtain ⟨⟨d0, d1, d2⟩, _⟩ := free3 r1
  clear r1
  rcases q with ⟨hi, rfl⟩ | ⟨m, h1, h2, hm, ho, hi, rfl⟩
  · have HR : Hid (isH H x true = false ∧ setH H x s y = H) := ⟨hi, setH_no hi⟩
    clear hi
    go_wp2
    go_ret
    exact ⟨by rw [HR.out.1]; rfl, S, by rw [HR.out.2]; exact ⟨T, pv, V, H1.out, HT.out⟩, Kv.of B1.out, fun b q => .inl q⟩
  · have HR : Hid (isH H x true = true ∧ setH H x s y = H.set m (setT H[m] s y)) := ⟨hi, setH_at hi hm h1⟩
    have HC2 := set_any H1.out h1 h2 ho s hss y hy (by omega) (by have := (hs.2 _ (List.getElem_mem h1)).2; omega) HT.out
    unfold Vl.v at HC2
    clear hi hm ho
    simp only [if_true]
    obtain ⟨q, hq⟩ : ∃ q, V[m].1 = q := ⟨_, rfl⟩
    rw [hq] at HC2 ⊢
    clear hq
    go_wp2_with fail
    go_at_call 42
    refine HC2.mono ?_
    rintro e W2 ⟨rfl, T', S2, h2', t2, s2⟩
    have H2 : Hid (HvS hb H.length (H.set m (setT H[m] s y)) T' pv V S2 W2) := h2'
    have HT2 : Hid (TOk (H.set m (setT H[m] s y)) T') := t2
    have ST : Hid (Stp S W S2 W2) := (Stp.bel B1.out).trans s2
    clear h2' s2 HC2 d0 d1 d2 t2
    go_wp2
    go_ret
    exact ⟨by rw [HR.out.1]; rfl, S2, by rw [HR.out.2]; exact ⟨T', pv, V, by simpa using H2.out, HT2.out⟩, ST.out.k, ST.out.s⟩
end Go.Proofs.YtlijplbaefaeaaaDoor
