/- Own text. The program's Parts; what the program's functions answer. -/
import Derived.Test.YtbliaamckldncaaOdT
namespace Go.Proofs.Ytbliaamckldncaa
open Go.RowKit Gph
set_option linter.unusedVariables false
set_option linter.unusedSimpArgs false

set_option maxRecDepth 100000 in
set_option maxHeartbeats 4000000 in
theorem parts_any (w : World) (v : Value) (E : List (List Int)) (h : EAt w w.heap.size v E) (hl : E.length ≤ 1048576) (hk : ∀ l ∈ E, l.length ≤ 1048576) :
    Calls Try.prog 12 #[v] w fun e w' => ∃ vo P cs, e = .returned vo ∧ PPa w' w.heap.size vo P cs ∧ PartsOf E P ∧ Below w.heap.size w w' := by
  have CK := check_any h (Nat.le_refl _) hl hk
  obtain ⟨ad, c, rfl⟩ := h.op
  by_cases hc : chk E = true
  · have ec : chkN E = 0 := by unfold chkN; rw [if_pos hc]
    rw [ec] at CK
    clear ec
    obtain ⟨hG, hok⟩ := graph_of hc
    have hGl : (nE E).length = E.length := nE_len E
    have HCH : Hid (∀ W, Below w.heap.size w W → Calls Try.prog 22 #[.slice ad E.length c] W fun e w' => ∃ gh H, e = .returned (.slice (some ⟨gh, 0, none⟩) E.length E.length) ∧ Nl w' W.heap.size gh E.length H ∧ (∀ P, P = partsF (sameHd H) E.length → PartsOf E P) ∧ (∀ x, x < E.length → lk H x < E.length) ∧ Below W.heap.size W w') := fun W b => by
      have hE : EAt W W.heap.size (.slice ad E.length c) (toI (nE E)) := by rw [← hG]; exact (h.bel b).mono b.size
      have C := heads_any hok (by rw [hGl]; exact hl) (ed_len' hk) hE
      rw [hGl] at C
      refine C.mono ?_
      rintro e w' ⟨gh, H, rfl, k1, k2, k3, k4⟩
      exact ⟨gh, H, rfl, k1, fun P hP => ⟨fun _ => ⟨_, k2, hP⟩, fun q => absurd hc q⟩, k3, k4⟩
    clear hG hok hGl
    go_enter Try.func12, Try.ntmps12
    go_wp2_with (first
      | (go_at_call 9; refine CK.mono ?_; rintro e W1 ⟨rfl, b1⟩; have s1 := b1.size)
      | (go_at_call 22; refine (HCH.out W1 b1).mono ?_; rintro e W2 ⟨gh, H, rfl, k1, k2, k3, b2⟩; have s2 := b2.size)
      | (go_at_call 21; refine (gathered_any hl k1 k3).mono ?_; rintro e W3 ⟨vo, cs, rfl, p3, b3⟩; obtain ⟨av, cv, rfl⟩ := row_form p3.row))
    go_ret
    exact ⟨_, _, cs, rfl, p3.base (lo' := w.heap.size) (by omega), k2 _ rfl, (b1.trans (b2.mono s1)).trans (b3.mono (by omega))⟩
  · have ec : chkN E = 110 := by unfold chkN; rw [if_neg hc]
    rw [ec] at CK
    clear ec
    have HP : Hid (PartsOf E []) := ⟨fun q => absurd q hc, fun _ => rfl⟩
    clear hc
    go_enter Try.func12, Try.ntmps12
    go_wp2_with (first
      | (go_at_call 9; refine CK.mono ?_; rintro e W1 ⟨rfl, b1⟩))
    go_ret
    exact ⟨_, [], [], rfl, PPa.nil _ _, HP.out, b1⟩
theorem prg : Prg :=
  ⟨fun w v E h hl hk => check_any h (Nat.le_refl _) hl hk, fun w v E h hl hk => (parts_any w v E h hl hk).mono (by rintro e w' ⟨vo, P, cs, rfl, p, q, b⟩; exact ⟨vo, P, rfl, p.ppt, q, b⟩), fun w v E root h hl hk => order_any w v E root h hl hk⟩
end Go.Proofs.Ytbliaamckldncaa
