/- The contracts of the document's number and escape. -/
import Derived.Test.YtddacbobklmpfaaDoorRefUnq2
import Derived.Test.YtddacbobklmpfaaDoorRefRunes
namespace Go.Proofs.YtddacbobklmpfaaDoor
open Go.RowKit

def numRes : Option (List UInt8 × Nat) → Ending
  | none => .returned (.tuple #[.string ⟨#[]⟩, .int .i64 0])
  | some x => .returned (.tuple #[.string ⟨x.1.toArray⟩, .int .i64 (x.2 : Int)])

theorem numL_eq (l : List UInt8) (i v : Nat) (h0 : atL l 0 = 123) (hne : l ≠ []) (hi : 1 ≤ i) (hd : digs 6 (l.drop 1) (0, 0) = (i - 1, v)) :
    numL l = if i = 1 ∨ l.length ≤ i ∨ atL l i ≠ 125 ∨ Lib.validRune (v : Int) = false then none else some (Lib.encodeRune (v : Int), i + 1) := by
  cases l with
  | nil => exact absurd rfl hne
  | cons c r =>
    have hc : c.toNat = 123 := by simpa [atL] using h0
    rw [List.drop_succ_cons, List.drop_zero] at hd
    have e : atL r (i - 1) = atL (c :: r) i := by
      obtain ⟨j, rfl⟩ : ∃ j, i = j + 1 := ⟨i - 1, by omega⟩
      simp [atL]
    unfold numL
    simp only [hd, e]
    rw [if_neg (by omega)]
    by_cases hb : i = 1 ∨ (c :: r).length ≤ i ∨ atL (c :: r) i ≠ 125 ∨ Lib.validRune (v : Int) = false
    · rw [if_pos hb, if_pos]
      rw [List.length_cons] at hb
      rcases hb with h | h | h | h
      · left; omega
      · right; right; left; omega
      · right; left; exact h
      · right; right; right; exact h
    · rw [if_neg hb, if_neg]
      · have : i - 1 + 2 = i + 1 := by omega
        rw [this]
      · intro hh
        apply hb
        rw [List.length_cons]
        rcases hh with h | h | h | h
        · left; omega
        · right; right; left; exact h
        · right; left; omega
        · right; right; right; exact h

theorem numL_none (l : List UInt8) (i v : Nat) (h0 : atL l 0 = 123) (hne : l ≠ []) (hi : 1 ≤ i) (hd : digs 6 (l.drop 1) (0, 0) = (i - 1, v)) (hb : i = 1 ∨ l.length ≤ i ∨ atL l i ≠ 125 ∨ Lib.validRune (v : Int) = false) : numL l = none := by
  rw [numL_eq l i v h0 hne hi hd, if_pos hb]
theorem numL_some (l : List UInt8) (i v : Nat) (h0 : atL l 0 = 123) (hne : l ≠ []) (hi : 1 ≤ i) (hd : digs 6 (l.drop 1) (0, 0) = (i - 1, v)) (hb : ¬ (i = 1 ∨ l.length ≤ i ∨ atL l i ≠ 125 ∨ Lib.validRune (v : Int) = false)) : numL l = some (Lib.encodeRune (v : Int), i + 1) := by
  rw [numL_eq l i v h0 hne hi hd, if_neg hb]
theorem valid_iff (v : Nat) : Lib.validRune (v : Int) = false ↔ (1114111 < v ∨ (55296 ≤ v ∧ v < 57344)) := by
  unfold Lib.validRune
  simp
  omega

set_option maxHeartbeats 4000000 in
set_option maxRecDepth 100000 in
theorem number_any (s : ByteArray) (w : World) (hs : s.size ≤ 140737488351232) :
    Calls Tryd.prog 44 #[.string s] w fun e w' => e = numRes (numL s.data.toList) ∧ Below w.heap.size w w' := by
  by_cases hz : 0 < s.size
  · have hne := ne_nil_of_size s hz
    have hE : s.toList.isEmpty = false := by rw [Lib.toList_data]; simpa using hne
    have hb0 := byte_at s 0
    by_cases h0 : atL s.data.toList 0 = 123
    · obtain ⟨L, hL⟩ : ∃ L, L = s.data.toList := ⟨_, rfl⟩
      have hlen : L.length = s.size := by rw [hL, ← Lib.size_eq]
      have HN : Hid (∀ i v : Nat, 1 ≤ i → digs 6 (L.drop 1) (0, 0) = (i - 1, v) → (i = 1 ∨ s.size ≤ i ∨ atL L i ≠ 125 ∨ (1114111 < v ∨ (55296 ≤ v ∧ v < 57344))) → numL L = none) := by
        intro i v hi hd hb
        refine numL_none L i v (by rw [hL]; exact h0) (by rw [hL]; exact hne) hi hd ?_
        rw [valid_iff, hlen]
        exact hb
      have HY : Hid (∀ i v : Nat, 1 ≤ i → digs 6 (L.drop 1) (0, 0) = (i - 1, v) → ¬ (i = 1 ∨ s.size ≤ i ∨ atL L i ≠ 125 ∨ (1114111 < v ∨ (55296 ≤ v ∧ v < 57344))) → numL L = some (Lib.encodeRune (v : Int), i + 1)) := by
        intro i v hi hd hb
        refine numL_some L i v (by rw [hL]; exact h0) (by rw [hL]; exact hne) hi hd ?_
        rw [valid_iff, hlen]
        exact hb
      have HBY : Hid (∀ i (h : i < s.size), (s[i]'h).toNat = atL L i) := by rw [hL]; exact byte_at s
      rw [h0] at hb0
      rw [← hL]
      have HL : Hid (L.length = s.size) := hlen
      clear hL hlen h0 hne
      go_enter Tryd.func44, Tryd.ntmps44
      go_wp2
      go_loop [4, 5] (fun v i => ∃ (k val : Nat), i = .int .i64 (k : Nat) ∧ v = .int .i64 (val : Nat) ∧ 1 ≤ k ∧ k ≤ 7 ∧ k ≤ s.size ∧ val < 16 ^ (k - 1) ∧ digs (7 - k) (L.drop k) (k - 1, val) = digs 6 (L.drop 1) (0, 0)) (fun _ i => 8 - (intOf i).toNat)
      case atStart => exact ⟨1, 0, rfl, rfl, by omega, by omega, by omega, by simp, rfl⟩
      case round =>
        obtain ⟨i, val, rfl, rfl, h1, h7, hsz, hval, hdg⟩ := hrel
        have hp6 := pow_dig6 (i - 1) (by omega)
        have hby := HBY.out i
        have ha := atL_lt L i
        have hdc := fun w1 => refDigit_any (atL L i) w1 (by omega) (by omega)
        have hnone := HN.out i val h1
        have hsome := HY.out i val h1
        obtain ⟨bi, hbi⟩ : ∃ bi, bi = atL L i := ⟨_, rfl⟩
        rw [← hbi] at hby ha hdc hnone hsome
        by_cases hgo : i < s.size ∧ i ≤ 6 ∧ 0 ≤ hexv (bi : Int)
        · obtain ⟨g1, g2, g3⟩ := hgo
          have hrg := hexv_range (bi : Int)
          obtain ⟨d, hd⟩ : ∃ d : Nat, hexv (bi : Int) = (d : Int) := ⟨(hexv (bi : Int)).toNat, by omega⟩
          have hp5 := pow_dig (i - 1) (by omega)
          have hstep : digs (7 - (i + 1)) (L.drop (i + 1)) (i + 1 - 1, val * 16 + d) = digs 6 (L.drop 1) (0, 0) := by
            rw [← hdg]
            have hdr := List.drop_eq_getElem_cons (show i < L.length by rw [HL.out]; exact g1)
            have hat : ((L[i]'(by rw [HL.out]; exact g1)).toNat : Int) = (bi : Int) := by
              rw [hbi]; unfold atL
              rw [List.getD_eq_getElem?_getD, List.getElem?_eq_getElem (by rw [HL.out]; exact g1)]; rfl
            have e7 : 7 - i = (7 - (i + 1)) + 1 := by omega
            rw [hdr, e7, digs, hat, hd, if_neg (by omega)]
            congr 2
            omega
          have hpw : val * 16 + d < 16 ^ (i + 1 - 1) := by
            have : i + 1 - 1 = (i - 1) + 1 := by omega
            rw [this, Nat.pow_succ]; omega
          rw [hd] at hdc
          have HSTEP : Hid (digs (7 - (i + 1)) (L.drop (i + 1)) (i + 1 - 1, val * 16 + d) = digs 6 (L.drop 1) (0, 0)) := hstep
          have HPW : Hid (val * 16 + d < 16 ^ (i + 1 - 1)) := hpw
          have hv20 : val < 1048576 := by omega
          have hd15 : d ≤ 15 := by omega
          clear hstep hpw hbi hdg hval hp6 hp5 hnone hsome hd hrg g3
          go_wp2_with (go_at_call 52; refine (hdc _).mono ?_; rintro e w' ⟨rfl, rfl⟩)
          go_round
          case rel => exact ⟨i + 1, val * 16 + d, by go_num, by go_num, by omega, by omega, by omega, HPW.out, HSTEP.out⟩
          case measure => simp [intOf]; omega
        · have hend : digs 6 (L.drop 1) (0, 0) = (i - 1, val) := by
            rw [← hdg]
            by_cases e1 : i < s.size
            · by_cases e2 : i ≤ 6
              · have hx : hexv (bi : Int) < 0 := by omega
                have hdr := List.drop_eq_getElem_cons (show i < L.length by rw [HL.out]; exact e1)
                have hat : ((L[i]'(by rw [HL.out]; exact e1)).toNat : Int) = (bi : Int) := by
                  rw [hbi]; unfold atL
                  rw [List.getD_eq_getElem?_getD, List.getElem?_eq_getElem (by rw [HL.out]; exact e1)]; rfl
                have e7 : 7 - i = (7 - (i + 1)) + 1 := by omega
                rw [hdr, e7, digs, hat, if_pos hx]
              · have e7 : 7 - i = 0 := by omega
                rw [e7, digs]
            · rw [List.drop_of_length_le (by rw [HL.out]; omega)]
              generalize 7 - i = f
              cases f <;> rfl
          replace hnone := hnone hend
          replace hsome := hsome hend
          have HNO : Hid ((i = 1 ∨ s.size ≤ i ∨ bi ≠ 125 ∨ (1114111 < val ∨ (55296 ≤ val ∧ val < 57344))) → numL L = none) := hnone
          have HSO : Hid (¬ (i = 1 ∨ s.size ≤ i ∨ bi ≠ 125 ∨ (1114111 < val ∨ (55296 ≤ val ∧ val < 57344))) → numL L = some (Lib.encodeRune (val : Int), i + 1)) := hsome
          have hv24 : val < 16777216 := by omega
          have HGO : Hid (¬ (i < s.size ∧ i ≤ 6 ∧ 0 ≤ hexv (bi : Int))) := hgo
          clear hnone hsome hend hdg hval hp6 hbi hgo
          by_cases c2 : s.size ≤ i
          · have HR : Hid (numL L = none) := HNO.out (Or.inr (Or.inl c2))
            by_cases c1 : i = 1
            all_goals
              go_wp2_with fail
              go_ret2
              exact ⟨by rw [HR.out]; rfl, Below.refl _ _⟩
          have hor : 6 < i ∨ (i ≤ 6 ∧ hexv (bi : Int) < 0) := by have := HGO.out; omega
          clear HGO
          by_cases c1 : i = 1
          · have HR : Hid (numL L = none) := HNO.out (Or.inl c1)
            have hx : hexv (bi : Int) < 0 := by omega
            clear hor
            subst c1
            go_wp2_with (go_at_call 52; refine (hdc _).mono ?_; rintro e w' ⟨rfl, rfl⟩)
            go_ret2
            exact ⟨by rw [HR.out]; rfl, Below.refl _ _⟩
          have b1 : ((i : Int) == 1) = false := by simp; omega
          by_cases c3 : bi = 125
          · have b3 : ((bi : Int) != 125) = false := by simp; omega
            by_cases c4 : 1114111 < val ∨ (55296 ≤ val ∧ val < 57344)
            · have HR : Hid (numL L = none) := HNO.out (Or.inr (Or.inr (Or.inr c4)))
              clear c3 HNO HSO
              rcases hor with o1 | ⟨o1, o2⟩
              all_goals
                rcases c4 with d1 | ⟨d1, d2⟩
                all_goals
                  go_wp2_with (go_at_call 52; refine (hdc _).mono ?_; rintro e w' ⟨rfl, rfl⟩)
                  go_ret2
                  exact ⟨by rw [HR.out]; rfl, Below.refl _ _⟩
            · have HR : Hid (numL L = some (Lib.encodeRune (val : Int), i + 1)) := HSO.out (by omega)
              have hen := encode_any (val : Int) w (by omega) (by omega) (by omega)
              have d0 : val ≤ 1114111 := by omega
              have d3 : val < 55296 ∨ (55296 ≤ val ∧ 57344 ≤ val) := by omega
              clear c3 c4 HNO HSO
              rcases hor with o1 | ⟨o1, o2⟩
              all_goals
                rcases d3 with d1 | ⟨d1, d2⟩
                all_goals
                  go_wp2_with (first | (go_at_call 52; refine (hdc _).mono ?_; rintro e w' ⟨rfl, rfl⟩) | (go_at_call 53; refine hen.mono ?_; rintro e w' ⟨rfl, hb⟩))
                  go_ret2
                  exact ⟨by rw [HR.out]; rfl, hb⟩
          · have HR : Hid (numL L = none) := HNO.out (Or.inr (Or.inr (Or.inl c3)))
            have b3 : ((bi : Int) != 125) = true := by simp; omega
            clear c3 HNO HSO
            rcases hor with o1 | ⟨o1, o2⟩
            all_goals
              go_wp2_with (go_at_call 52; refine (hdc _).mono ?_; rintro e w' ⟨rfl, rfl⟩)
              go_ret2
              exact ⟨by rw [HR.out]; rfl, Below.refl _ _⟩
    · have HR : Hid (numL s.data.toList = none) := by
        cases hl : s.data.toList with
        | nil => rfl
        | cons c r =>
          have hc : atL (c :: r) 0 = c.toNat := by simp [atL]
          rw [hl, hc] at h0
          unfold numL
          simp only
          rw [if_pos h0]
          trivial
      have hlt := atL_lt s.data.toList 0
      generalize atL s.data.toList 0 = b at *
      have bb : ((b : Int) != 123) = true := by simp; omega
      rw [HR.out]
      clear h0
      go_enter Tryd.func44, Tryd.ntmps44
      go_wp2_with fail
      go_ret2
      exact ⟨rfl, Below.refl _ _⟩
  · have hl : s.data.toList = [] := List.eq_nil_of_length_eq_zero (by rw [← Lib.size_eq]; omega)
    have hE : s.toList.isEmpty = true := by rw [Lib.toList_data, hl]; rfl
    rw [hl]
    clear hl
    go_enter Tryd.func44, Tryd.ntmps44
    go_wp2_with fail
    go_ret2
    exact ⟨rfl, Below.refl _ _⟩
end Go.Proofs.YtddacbobklmpfaaDoor
