/- Own text. The document's heap: Is, Len. -/
import Derived.Test.YtlijplbaefaeaaaDoorVb0
import Derived.Test.YtlijplbaefaeaaaDoorVq
import Derived.Deep.DeepCutAuto
namespace Go.Proofs.YtlijplbaefaeaaaDoor
open Go.RowKit
set_option linter.unusedVariables false
set_option linter.unusedSimpArgs false

def kO (o : Bool) : Int := if o = true then 6 else 5
theorem isH_kd {H : Hp} {x : Vl} {o : Bool} (h : x.kd ≠ kO o) : isH H x o = false := by
  unfold isH
  have : (x.kd == (if o = true then 6 else 5)) = false := by simpa [kO] using h
  rw [this]
  rfl
theorem isH_n {H : Hp} {x : Vl} {o : Bool} (h : ¬ (0 ≤ x.n ∧ x.n < H.length)) : isH H x o = false := by
  unfold isH
  by_cases h0 : 0 ≤ x.n
  · have : ¬ x.n < H.length := fun w => h ⟨h0, w⟩
    simp [this]
  · simp [h0]
theorem isH_at {H : Hp} {x : Vl} {o : Bool} (hk : x.kd = kO o) {m : Nat} (hm : x.n = (m : Nat)) (h : m < H.length) : isH H x o = (H[m].ob == o) := by
  unfold isH
  have e1 : (x.kd == (if o = true then 6 else 5)) = true := by simpa [kO] using hk
  have e2 : x.n.toNat = m := by omega
  rw [e1, e2, List.getElem?_eq_getElem h]
  have e3 : decide (0 ≤ x.n) = true := decide_eq_true (by omega)
  have e4 : decide (x.n < H.length) = true := decide_eq_true (by omega)
  rw [e3, e4]
  simp
set_option maxRecDepth 100000 in
set_option maxHeartbeats 8000000 in
theorem dis_any {hb : Nat} {H : Hp} {vt : Value} {V : List Pv} {W : World} (h : HpAt hb H vt V W) (x : Vl) (o : Bool) (hl : H.length ≤ 4194304) : Calls Tryd.prog 51 #[.pointer (some ⟨hb, 0, none⟩), x.v, .bool o] W fun e W' => e = .returned (.bool (isH H x o)) ∧ Below W.heap.size W W' := by
  obtain ⟨A, c, rfl⟩ := vform h.t
  obtain ⟨W0, hW0⟩ : ∃ X, W.alloc (.cells #[.int .i64 x.kd, .int .i64 x.n, .string x.tx] 23) = X := ⟨_, rfl⟩
  have b0 : Below W.heap.size W W0 := by rw [← hW0]; exact belA _ _
  have m0 : W0.heap[W.heap.size]? = some (.cells #[.int .i64 x.kd, .int .i64 x.n, .string x.tx] 23 (0, 0)) := by rw [← hW0]; exact hnw _ rfl
  have h0 := h.keep (W' := W0) (fun b hb' => b0.block b (h.lt b hb'))
  obtain ⟨n0, n1, n2⟩ := box3 m0
  have c0 := h0.cell.1
  have n0' : (World.drew W0).cell? ⟨W.heap.size, 0, none⟩ = some (.int .i64 x.kd) := n0
  have n1' : (World.drew W0).cell? ⟨W.heap.size, 1, none⟩ = some (.int .i64 x.n) := n1
  have c0' : (World.drew W0).cell? ⟨hb, 0, none⟩ = some (.slice A H.length c) := c0
  have B0 : Hid (Below W.heap.size W W0) := b0
  have H0 : Hid (HpAt hb H (.slice A H.length c) V W0) := h0
  have hk5 : ∃ kk : Int, kO o = kk := ⟨_, rfl⟩
  clear b0 m0 h h0 n0 n1 n2 c0
  unfold Vl.v
  by_cases hk : x.kd = kO o
  · by_cases hn : 0 ≤ x.n ∧ x.n < H.length
    · obtain ⟨m, hm⟩ : ∃ m : Nat, x.n = (m : Nat) := ⟨x.n.toNat, by omega⟩
      have hml : m < H.length := by omega
      have HR : Hid (isH H x o = (H[m].ob == o)) := isH_at hk hm hml
      obtain ⟨g, c', h2, e, ⟨t0, _, _⟩, _, hg⟩ := H0.out.thing hml
      injection e with e1 e2 e3
      subst e1
      have t0' : (World.drew W0).cell? ⟨g, m * 3, none⟩ = some (.bool H[m].ob) := t0
      have hlt : (m : Int) < (H.length : Int) := by omega
      have hge : (0 : Int) ≤ (m : Int) := by omega
      rw [hm] at n1' hW0 ⊢
      have HK : Hid (x.kd = kO o) := hk
      have ek : (x.kd == kO o) = true := by simpa using hk
      generalize isH H x o = r at *
      generalize H[m].ob = ob at *
      clear hn hm hk e3 e2 t0
      cases o
      all_goals
        unfold kO at ek
        simp only [if_true, if_false, Bool.false_eq_true] at ek
        go_enter Tryd.func51, Tryd.ntmps51
        go_wp2_with fail
        refine region_held (fun X => ((X.cell? ⟨W.heap.size, 0, none⟩ = some (.int .i64 x.kd) ∧ X.cell? ⟨W.heap.size, 1, none⟩ = some (.int .i64 (m : Nat))) ∧ X.cell? ⟨hb, 0, none⟩ = some (.slice (some ⟨g, 0, none⟩) H.length c)) ∧ X.cell? ⟨g, m * 3, none⟩ = some (.bool ob)) (by kernel_rfl) ⟨⟨⟨n0', n1'⟩, c0'⟩, t0'⟩ (fun hS => ?_)
        refine tH 0 ?_
        simp only [List.set]
        refine tH 1 ?_
        simp only [List.set]
        refine tH 2 ?_
        simp only [List.set]
        refine tH 3 (v := .bool true) ?_
        simp only [List.set]
        refine tH 4 ?_
        simp only [List.set]
        refine tH 5 ?_
        simp only [List.set]
        refine tH 6 ?_
        simp only [List.set]
        refine tH 7 (v := .bool true) ?_
        simp only [List.set]
        refine tH 8 ?_
        simp only [List.set]
        refine tH 9 ?_
        simp only [List.set]
        refine tH 10 ?_
        simp only [List.set]
        refine tH 11 ?_
        simp only [List.set]
        refine tH 12 ?_
        simp only [List.set]
        refine tH 13 ?_
        simp only [List.set]
        refine tH 14 ?_
        simp only [List.set]
        refine tH 15 ?_
        simp only [List.set]
        refine tH 16 ?_
        simp only [List.set]
        refine tH 17 (v := .bool true) ?_
        simp only [List.set]
        refine tH 18 ?_
        simp only [List.set]
        refine tH 19 ?_
        simp only [List.set]
        refine tH 20 ?_
        simp only [List.set]
        refine tH 21 ?_
        simp only [List.set]
        refine tH 22 ?_
        simp only [List.set]
        refine tH 23 ?_
        simp only [List.set]
        refine tH 24 ?_
        simp only [List.set]
        refine tH 25 ?_
        simp only [List.set]
        refine tH 26 ?_
        simp only [List.set]
        refine tH 27 ?_
        simp only [List.set]
        refine tH 28 ?_
        simp only [List.set]
        refine tH 29 ?_
        simp only [List.set]
        refine tH 30 ?_
        simp only [List.set]
        refine tH 31 ?_
        simp only [List.set]
        refine tH 32 ?_
        simp only [List.set]
        refine wpAnyH_done (by kernel_rfl) ?_ _
        go_wp2
        go_ret
        refine ⟨?_, B0.out.drew⟩
        rw [HR.out]
        cases ob <;> rfl
    · have HR : Hid (isH H x o = false) := isH_n hn
      have ek : (x.kd == kO o) = true := by simpa using hk
      by_cases hn0 : 0 ≤ x.n
      · have hn1 : ¬ x.n < (H.length : Int) := fun w => hn ⟨hn0, w⟩
        generalize isH H x o = r at *
        clear hk hn
        cases o
        all_goals
          unfold kO at ek
          simp only [if_true, if_false, Bool.false_eq_true] at ek
          go_enter Tryd.func51, Tryd.ntmps51
          go_wp2_with fail
          refine region_held (fun X => (X.cell? ⟨W.heap.size, 0, none⟩ = some (.int .i64 x.kd) ∧ X.cell? ⟨W.heap.size, 1, none⟩ = some (.int .i64 x.n)) ∧ X.cell? ⟨hb, 0, none⟩ = some (.slice A H.length c)) (by kernel_rfl) ⟨⟨n0', n1'⟩, c0'⟩ (fun hS => ?_)
          refine tH 0 ?_
          simp only [List.set]
          refine tH 1 ?_
          simp only [List.set]
          refine tH 2 ?_
          simp only [List.set]
          refine tH 3 (v := .bool true) ?_
          simp only [List.set]
          refine tH 4 ?_
          simp only [List.set]
          refine tH 5 ?_
          simp only [List.set]
          refine tH 6 ?_
          simp only [List.set]
          refine tH 7 (v := .bool true) ?_
          simp only [List.set]
          refine tH 8 ?_
          simp only [List.set]
          refine tH 9 ?_
          simp only [List.set]
          refine tH 10 ?_
          simp only [List.set]
          refine tH 11 ?_
          simp only [List.set]
          refine tH 12 ?_
          simp only [List.set]
          refine tH 13 ?_
          simp only [List.set]
          refine tH 14 ?_
          simp only [List.set]
          refine tH 15 ?_
          simp only [List.set]
          refine tH 16 ?_
          simp only [List.set]
          refine tH 17 (v := .bool false) ?_
          simp only [List.set]
          refine tH 18 ?_
          simp only [List.set]
          refine tH 19 ?_
          simp only [List.set]
          refine tS 20 ?_
          simp only [List.set]
          refine tS 21 ?_
          simp only [List.set]
          refine tS 22 ?_
          simp only [List.set]
          refine tS 23 ?_
          simp only [List.set]
          refine tS 24 ?_
          simp only [List.set]
          refine tS 25 ?_
          simp only [List.set]
          refine tS 26 ?_
          simp only [List.set]
          refine tS 27 ?_
          simp only [List.set]
          refine tS 28 ?_
          simp only [List.set]
          refine tS 29 ?_
          simp only [List.set]
          refine tS 30 ?_
          simp only [List.set]
          refine tH 31 ?_
          simp only [List.set]
          refine tH 32 ?_
          simp only [List.set]
          refine wpAnyH_done (by kernel_rfl) ?_ _
          go_wp2
          go_ret
          exact ⟨by rw [HR.out]; rfl, B0.out.drew⟩
      · generalize isH H x o = r at *
        clear hk hn
        cases o
        all_goals
          unfold kO at ek
          simp only [if_true, if_false, Bool.false_eq_true] at ek
          go_enter Tryd.func51, Tryd.ntmps51
          go_wp2_with fail
          refine region_held (fun X => (X.cell? ⟨W.heap.size, 0, none⟩ = some (.int .i64 x.kd) ∧ X.cell? ⟨W.heap.size, 1, none⟩ = some (.int .i64 x.n)) ∧ X.cell? ⟨hb, 0, none⟩ = some (.slice A H.length c)) (by kernel_rfl) ⟨⟨n0', n1'⟩, c0'⟩ (fun hS => ?_)
          refine tH 0 ?_
          simp only [List.set]
          refine tH 1 ?_
          simp only [List.set]
          refine tH 2 ?_
          simp only [List.set]
          refine tH 3 (v := .bool true) ?_
          simp only [List.set]
          refine tH 4 ?_
          simp only [List.set]
          refine tH 5 ?_
          simp only [List.set]
          refine tH 6 ?_
          simp only [List.set]
          refine tH 7 (v := .bool false) ?_
          simp only [List.set]
          refine tH 8 ?_
          simp only [List.set]
          refine tH 9 ?_
          simp only [List.set]
          refine tS 10 ?_
          simp only [List.set]
          refine tS 11 ?_
          simp only [List.set]
          refine tS 12 ?_
          simp only [List.set]
          refine tS 13 ?_
          simp only [List.set]
          refine tS 14 ?_
          simp only [List.set]
          refine tS 15 ?_
          simp only [List.set]
          refine tS 16 ?_
          simp only [List.set]
          refine tS 17 ?_
          simp only [List.set]
          refine tH 18 ?_
          simp only [List.set]
          refine tH 19 ?_
          simp only [List.set]
          refine tS 20 ?_
          simp only [List.set]
          refine tS 21 ?_
          simp only [List.set]
          refine tS 22 ?_
          simp only [List.set]
          refine tS 23 ?_
          simp only [List.set]
          refine tS 24 ?_
          simp only [List.set]
          refine tS 25 ?_
          simp only [List.set]
          refine tS 26 ?_
          simp only [List.set]
          refine tS 27 ?_
          simp only [List.set]
          refine tS 28 ?_
          simp only [List.set]
          refine tS 29 ?_
          simp only [List.set]
          refine tS 30 ?_
          simp only [List.set]
          refine tH 31 ?_
          simp only [List.set]
          refine tH 32 ?_
          simp only [List.set]
          refine wpAnyH_done (by kernel_rfl) ?_ _
          go_wp2
          go_ret
          exact ⟨by rw [HR.out]; rfl, B0.out.drew⟩
  · have HR : Hid (isH H x o = false) := isH_kd hk
    have ek : (x.kd == kO o) = false := by simpa using hk
    generalize isH H x o = r at *
    clear hk
    cases o
    all_goals
      unfold kO at ek
      simp only [if_true, if_false, Bool.false_eq_true] at ek
      go_enter Tryd.func51, Tryd.ntmps51
      go_wp2_with fail
      refine region_held (fun X => (X.cell? ⟨W.heap.size, 0, none⟩ = some (.int .i64 x.kd) ∧ X.cell? ⟨W.heap.size, 1, none⟩ = some (.int .i64 x.n)) ∧ X.cell? ⟨hb, 0, none⟩ = some (.slice A H.length c)) (by kernel_rfl) ⟨⟨n0', n1'⟩, c0'⟩ (fun hS => ?_)
      refine tH 0 ?_
      simp only [List.set]
      refine tH 1 ?_
      simp only [List.set]
      refine tH 2 ?_
      simp only [List.set]
      refine tH 3 (v := .bool false) ?_
      simp only [List.set]
      refine tH 4 ?_
      simp only [List.set]
      refine tS 5 ?_
      simp only [List.set]
      refine tS 6 ?_
      simp only [List.set]
      refine tS 7 ?_
      simp only [List.set]
      refine tH 8 ?_
      simp only [List.set]
      refine tH 9 ?_
      simp only [List.set]
      refine tS 10 ?_
      simp only [List.set]
      refine tS 11 ?_
      simp only [List.set]
      refine tS 12 ?_
      simp only [List.set]
      refine tS 13 ?_
      simp only [List.set]
      refine tS 14 ?_
      simp only [List.set]
      refine tS 15 ?_
      simp only [List.set]
      refine tS 16 ?_
      simp only [List.set]
      refine tS 17 ?_
      simp only [List.set]
      refine tH 18 ?_
      simp only [List.set]
      refine tH 19 ?_
      simp only [List.set]
      refine tS 20 ?_
      simp only [List.set]
      refine tS 21 ?_
      simp only [List.set]
      refine tS 22 ?_
      simp only [List.set]
      refine tS 23 ?_
      simp only [List.set]
      refine tS 24 ?_
      simp only [List.set]
      refine tS 25 ?_
      simp only [List.set]
      refine tS 26 ?_
      simp only [List.set]
      refine tS 27 ?_
      simp only [List.set]
      refine tS 28 ?_
      simp only [List.set]
      refine tS 29 ?_
      simp only [List.set]
      refine tS 30 ?_
      simp only [List.set]
      refine tH 31 ?_
      simp only [List.set]
      refine tH 32 ?_
      simp only [List.set]
      refine wpAnyH_done (by kernel_rfl) ?_ _
      go_wp2
      go_ret
      exact ⟨by rw [HR.out]; rfl, B0.out.drew⟩
end Go.Proofs.YtlijplbaefaeaaaDoor
