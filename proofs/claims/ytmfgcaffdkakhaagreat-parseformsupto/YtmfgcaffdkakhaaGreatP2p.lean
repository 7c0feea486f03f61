/- Own text. Package parse: whether an arrow stands behind brackets. -/
import Derived.Test.YtmfgcaffdkakhaaGreatP1p
namespace Go.Proofs.YtmfgcaffdkakhaaGreat
open Go.RowKit
set_option linter.unusedVariables false
set_option linter.unusedSimpArgs false

set_option maxRecDepth 100000 in
set_option maxHeartbeats 8000000 in
theorem beforeArrow_any {w : World} {P : Pl} {L : List Tok} {a : Nat} {o : Ex} (h : Rd w P L a o) (hlt : a < L.length) :
    Calls Tryz.prog 90 #[.pointer (some ⟨P.R, 0, none⟩)] w fun e w' => e = .returned (.bool (arrow L a)) ∧ Below w.heap.size w w' := by
  have hle := h.le
  have hsm := h.small
  have HA : Hid (arrow L a = arrL L (L.drop a) a 0) := rfl
  generalize arrow L a = z at *
  have C1 := rest_any h
  go_enter Tryz.func90, Tryz.ntmps90
  go_wp2_with (go_at_call 57; refine C1.mono ?_; rintro e W0 ⟨⟨v, rfl, ad, rfl, had⟩, b0⟩; obtain rfl := had (by omega))
  have hm : Hid (L.length = a + (L.length - a)) := by show _ = _; omega
  have hR := h
  clear h C1
  generalize L.length - a = m at *
  go_loopg [3, 11] m (fun gk v3 v11 wr => ∃ (i : Nat) (d : Int), v3 = .int .i64 d ∧ v11 = .int .i64 (i : Nat) ∧ Hid (gk + i = m) ∧ Below w.heap.size w wr ∧ -(i : Int) ≤ d ∧ d ≤ (i : Int) ∧ Hid (z = arrL L (L.drop (a + i)) (a + i) d))
  case atStart => exact ⟨0, 0, rfl, rfl, by simp [Hid], b0, by omega, by omega, HA.out⟩
  case round =>
    obtain ⟨i, d, rfl, rfl, hk, bel, hd1, hd2, HZ⟩ := hrel
    have him : i ≤ m := by have := hk.out; omega
    by_cases hi : i < m
    · have hj : a + i < L.length := by have := hm.out; omega
      have ho := openI_le L[a + i]
      obtain ⟨d0, d1, d2, d3⟩ := (hR.x.bel bel).c (a + i) hj
      have ea : P.of + (a + i) * 4 = P.of + a * 4 + i * 4 := by omega
      rw [ea] at d0 d1 d2 d3
      have HX : Hid (z = if d + openI L[a + i] = 0 then isS L (a + i + 1) sAr else arrL L (L.drop (a + i + 1)) (a + i + 1) (d + openI L[a + i])) := HZ.out.trans (arrL_cons L hj d)
      have CO := fun W => opened_any L[a + i] W
      clear HZ
      generalize L[a + i] = x at *
      unfold Tok.v at CO
      generalize openI x = y at *
      have hw1 : IntKind.i64.wrap (d + y) = d + y := by rw [IntKind.wrap_i64]; omega
      have hw2 : IntKind.i64.wrap ((i : Int) + 1) = ((i + 1 : Nat) : Int) := by rw [IntKind.wrap_i64]; omega
      have hi' : (i : Int) < (m : Int) := by omega
      by_cases h0 : d + y = 0
      · have HQ : Hid (z = isS L (a + (i + 1)) sAr) := by show _ = _; rw [HX.out, if_pos h0]; rfl
        clear HX
        have CA := fun {W : World} (r : Rd W P L a o) => ahead_any r (i + 1) (by omega)
        have CS := fun W => isSign_any (tokA L (a + (i + 1))) ⟨#[61, 62]⟩ W
        have HQ2 : Hid (z = (((tokA L (a + (i + 1))).k == 5) && ((tokA L (a + (i + 1))).t.toList == (⟨#[61, 62]⟩ : ByteArray).toList))) := HQ.out
        clear HQ
        generalize tokA L (a + (i + 1)) = x2 at *
        generalize ((x2.k == 5) && (x2.t.toList == (⟨#[61, 62]⟩ : ByteArray).toList)) = y2 at *
        go_wp2_with (first
          | (go_at_call 103; refine (CO _).mono ?_; rintro e W1 ⟨rfl, b1⟩; have bel1 := bel.trans ((((Below.refl wr.heap.size wr).alloc (Nat.le_refl _) _).trans (b1.mono (by simp))).mono bel.size); have r1 := hR.bel bel1)
          | (go_at_call 85; refine (CA r1).mono ?_; rintro e W2 ⟨rfl, b2⟩)
          | (go_at_call 61; refine (CS _).mono ?_; rintro e W3 ⟨rfl, b3⟩))
        go_ret
        exact ⟨rb HQ2.out.symm, (bel1.trans (b2.mono bel1.size)).trans (b3.mono (by have := b2.size; have := bel1.size; omega))⟩
      · have HQ : Hid (z = arrL L (L.drop (a + (i + 1))) (a + (i + 1)) (d + y)) := by show _ = _; rw [HX.out, if_neg h0]; rfl
        clear HX
        go_wp2_with (go_at_call 103; refine (CO _).mono ?_; rintro e W1 ⟨rfl, b1⟩)
        have bel1 := bel.trans ((((Below.refl wr.heap.size wr).alloc (Nat.le_refl _) _).trans (b1.mono (by simp))).mono bel.size)
        go_roundg (gk - 1)
        case rel => exact ⟨i + 1, d + y, by simp, by simp, by have := hk.out; show _ = _; omega, bel1, by omega, by omega, HQ⟩
        case measure => have := hk.out; omega
    · have HQ : Hid (z = false) := by
        show _ = _
        rw [HZ.out, List.drop_eq_nil_of_le (by have := hm.out; omega)]
        rfl
      have hi' : ¬ (i : Int) < (m : Int) := by omega
      clear HZ
      go_wp2
      go_ret
      exact ⟨rb HQ.out.symm, bel⟩
end Go.Proofs.YtmfgcaffdkakhaaGreat
