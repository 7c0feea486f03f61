/- Own text. What stands behind a backslash, read at once and rune by rune: the same. The contracts of the document's number and escape. The contract of the document's escape. -/
import Derived.Test.YtpnljjcdlkjfhaaGreatDoorRv20
import Derived.Test.YtpnljjcdlkjfhaaGreatDoorRv11
namespace Go.Proofs.YtpnljjcdlkjfhaaGreatDoor

def escL : List UInt8 → Option (List UInt8 × Nat)
  | [] => none
  | c :: r =>
    if c.toNat = 110 then some ([10], 1)
    else if c.toNat = 116 then some ([9], 1)
    else if c.toNat = 34 ∨ c.toNat = 39 ∨ c.toNat = 92 then some ([c], 1)
    else if c.toNat = 117 then (match numL r with | none => none | some x => some (x.1, x.2 + 1))
    else none

theorem decL_high (l : List UInt8) (h : ¬ atL l 0 < 128) : 128 ≤ (decL l).1 := by
  unfold decL
  rw [if_neg h]
  repeat' split
  all_goals simp_all
  all_goals omega
theorem hexv_high (r : Int) (h : 128 ≤ r) : hexv r < 0 := by unfold hexv; repeat' split
                                                             all_goals omega
theorem hexv_low (c : UInt8) (h : 0 ≤ hexv (c.toNat : Int)) : c.toNat < 128 ∧ c.toNat ≠ 125 := by
  unfold hexv at h
  repeat' split at h
  all_goals omega

/-- A sign that is no single byte below 128 stops the reader where only such signs may stand. -/
theorem unqS_high (c : UInt8) (q : List UInt8) (u : Unq) (pos : Nat) (h : ¬ c.toNat < 128) (hs : ∀ r : Int, 128 ≤ r → stepU u r = none) : unqS (scan (c :: q)) u pos = none := by
  have hne : c :: q ≠ [] := by simp
  have ha : ¬ atL (c :: q) 0 < 128 := by simpa [atL] using h
  by_cases hst : strayL (c :: q) = true
  · exact unqS_stray _ hne hst u pos
  · have hst' : strayL (c :: q) = false := by simpa using hst
    exact unqS_none _ hne hst' u pos (hs _ (by have := decL_high _ ha; omega))
theorem unqS_stop (c : UInt8) (q : List UInt8) (u : Unq) (pos : Nat) (hs : ∀ r : Int, 128 ≤ r ∨ r = (c.toNat : Int) → stepU u r = none) : unqS (scan (c :: q)) u pos = none := by
  by_cases h : c.toNat < 128
  · rw [unqS_ascii c q u pos h, hs _ (Or.inr rfl)]
  · exact unqS_high c q u pos h (fun r hr => hs r (Or.inl hr))

theorem digs_le : ∀ (f : Nat) (r : List UInt8) (k v : Nat), k ≤ (digs f r (k, v)).1 ∧ (digs f r (k, v)).1 ≤ k + f
  | 0, _, k, v => by simp [digs]
  | f + 1, [], k, v => by simp [digs]
  | f + 1, c :: l, k, v => by
    rw [digs]
    split
    · simp
    · have := digs_le f l (k + 1) (v * 16 + (hexv (c.toNat : Int)).toNat)
      omega

/-- The digits are read one by one. -/
theorem digs_read : ∀ (f : Nat) (r : List UInt8) (u : Unq) (p : Nat), u.st = 4 → u.dig + f ≤ 6 →
    unqS (scan r) u p = unqS (scan (r.drop ((digs f r (u.dig, u.num)).1 - u.dig))) { u with num := (digs f r (u.dig, u.num)).2, dig := (digs f r (u.dig, u.num)).1 } (p + ((digs f r (u.dig, u.num)).1 - u.dig))
  | 0, r, u, p, _, _ => by simp [digs]
  | f + 1, [], u, p, _, _ => by simp [digs]
  | f + 1, c :: l, u, p, h4, h6 => by
    rw [digs]
    by_cases hx : hexv (c.toNat : Int) < 0
    · rw [if_pos hx]
      simp
    · rw [if_neg hx]
      obtain ⟨hc, hc2⟩ := hexv_low c (by omega)
      have hgo := unqS_go c l u { u with num := u.num * 16 + (hexv (c.toNat : Int)).toNat, dig := u.dig + 1 } p hc (by rw [step4 u _ h4, stepCounting, if_neg (by omega), if_neg (by omega)]) (by simp [h4])
      rw [hgo, digs_read f l { u with num := u.num * 16 + (hexv (c.toNat : Int)).toNat, dig := u.dig + 1 } (p + 1) h4 (by simp; omega)]
      simp only
      have hle := digs_le f l (u.dig + 1) (u.num * 16 + (hexv (c.toNat : Int)).toNat)
      generalize digs f l (u.dig + 1, u.num * 16 + (hexv (c.toNat : Int)).toNat) = d at *
      have e1 : d.1 - u.dig = (d.1 - (u.dig + 1)) + 1 := by omega
      rw [e1, List.drop_succ_cons]
      congr 1
      omega

/-- Where the digits end: all of them have been counted, the text is through, or no digit is at hand. -/
theorem digs_end : ∀ (f : Nat) (r : List UInt8) (k v : Nat), (digs f r (k, v)).1 = k + f ∨ r.length ≤ (digs f r (k, v)).1 - k ∨ hexv (atL r ((digs f r (k, v)).1 - k) : Int) < 0
  | 0, _, k, v => by simp [digs]
  | f + 1, [], k, v => by simp [digs]
  | f + 1, c :: l, k, v => by
    rw [digs]
    by_cases hx : hexv (c.toNat : Int) < 0
    · rw [if_pos hx]
      right; right
      simpa [atL] using hx
    · rw [if_neg hx]
      have ih := digs_end f l (k + 1) (v * 16 + (hexv (c.toNat : Int)).toNat)
      have hle := digs_le f l (k + 1) (v * 16 + (hexv (c.toNat : Int)).toNat)
      generalize digs f l (k + 1, v * 16 + (hexv (c.toNat : Int)).toNat) = d at *
      have e1 : d.1 - k = (d.1 - (k + 1)) + 1 := by omega
      rcases ih with h | h | h
      · left; omega
      · right; left; simp; omega
      · right; right
        have : atL (c :: l) (d.1 - k) = atL l (d.1 - (k + 1)) := by rw [e1]; simp [atL]
        rw [this]; exact h

theorem num_read (u : Unq) (r : List UInt8) (p : Nat) :
    (numL r = none → unqS (scan r) (u.to 3) p = none) ∧ ∀ t n, numL r = some (t, n) → ∃ u', u'.st = 1 ∧ u'.q = u.q ∧ u'.said = u.said ++ t ∧ unqS (scan r) (u.to 3) p = unqS (scan (r.drop n)) u' (p + n) := by
  cases r with
  | nil => exact ⟨fun _ => rfl, fun t n h => by simp [numL] at h⟩
  | cons c r =>
    by_cases hc : c.toNat = 123
    · have hc8 : c = 123 := UInt8.toNat_inj.1 hc
      have e0 : unqS (scan (c :: r)) (u.to 3) p = unqS (scan r) { u with st := 4, num := 0, dig := 0 } (p + 1) :=
        unqS_go c r (u.to 3) _ p (by omega) (by rw [step3 _ _ rfl, stepNumbered, if_pos (by omega)]; rfl) (by simp)
      have e1 := digs_read 6 r { u with st := 4, num := 0, dig := 0 } (p + 1) rfl (by simp)
      have hen := digs_end 6 r 0 0
      have hle := digs_le 6 r 0 0
      simp only [Nat.sub_zero] at e1 hen
      rw [e1] at e0
      unfold numL
      simp only
      rw [if_neg (by omega)]
      generalize digs 6 r (0, 0) = d at *
      rw [e0]
      by_cases hlen : r.length ≤ d.1
      · rw [if_pos (Or.inr (Or.inr (Or.inl hlen)))]
        refine ⟨fun _ => ?_, fun t n h => by cases h⟩
        rw [List.drop_of_length_le hlen]
        rfl
      · have hdr := List.drop_eq_getElem_cons (show d.1 < r.length by omega)
        have hat : (r[d.1]'(by omega)).toNat = atL r d.1 := by
          unfold atL
          rw [List.getD_eq_getElem?_getD, List.getElem?_eq_getElem (by omega)]; rfl
        by_cases h125 : atL r d.1 = 125
        · by_cases hbad : d.1 = 0 ∨ Lib.validRune (d.2 : Int) = false
          · rw [if_pos (hbad.elim Or.inl (fun h => Or.inr (Or.inr (Or.inr h))))]
            refine ⟨fun _ => ?_, fun t n h => by cases h⟩
            rw [hdr]
            refine unqS_stop _ _ _ _ ?_
            intro x hx
            rw [step4 _ _ rfl, stepCounting]
            rcases hx with hx | hx
            · rw [if_neg (by omega), if_pos (Or.inl (hexv_high x hx))]
            · rw [if_pos (by omega), if_pos hbad]
          · rw [if_neg (fun hh => hh.elim (fun h => hbad (Or.inl h)) (fun hh => hh.elim (fun h => h h125) (fun hh => hh.elim (fun h => hlen h) (fun h => hbad (Or.inr h)))))]
            refine ⟨(fun h => by cases h), fun t n h => ?_⟩
            cases h
            refine ⟨({ u with st := 4, num := d.2, dig := d.1 } : Unq).say d.2, rfl, rfl, rfl, ?_⟩
            rw [hdr, unqS_go _ _ _ (({ u with st := 4, num := d.2, dig := d.1 } : Unq).say d.2) _ (by omega) (by rw [step4 _ _ rfl, stepCounting, if_pos (by omega), if_neg hbad]) (by simp [Unq.say])]
            have e : (c :: r).drop (d.1 + 2) = r.drop (d.1 + 1) := by rw [List.drop_succ_cons]
            rw [e]
            congr 1
            omega
        · rw [if_pos (Or.inr (Or.inl h125))]
          refine ⟨fun _ => ?_, fun t n h => by cases h⟩
          rw [hdr]
          refine unqS_stop _ _ _ _ ?_
          intro x hx
          rw [step4 _ _ rfl, stepCounting]
          rcases hx with hx | hx
          · rw [if_neg (by omega), if_pos (Or.inl (hexv_high x hx))]
          · rw [if_neg (by omega), if_pos]
            rcases hen with h | h | h
            · right; simp only; omega
            · omega
            · left; rw [hx, hat]; exact h
    · unfold numL
      simp only
      rw [if_pos hc]
      refine ⟨fun _ => ?_, fun t n h => by cases h⟩
      refine unqS_stop c r _ p ?_
      intro x hx
      rw [step3 _ _ rfl, stepNumbered, if_neg (by omega)]

theorem esc_read (u : Unq) (r : List UInt8) (p : Nat) :
    (escL r = none → unqS (scan r) (u.to 2) p = none) ∧ ∀ t n, escL r = some (t, n) → ∃ u', u'.st = 1 ∧ u'.q = u.q ∧ u'.said = u.said ++ t ∧ unqS (scan r) (u.to 2) p = unqS (scan (r.drop n)) u' (p + n) := by
  cases r with
  | nil => exact ⟨fun _ => rfl, fun t n h => by simp [escL] at h⟩
  | cons c r =>
    have hone : ∀ (x : Int) (t : List UInt8), c.toNat < 128 → stepEscaped (u.to 2) c.toNat = some ((u.to 2).say x) → Lib.encodeRune x = t → ∀ t' n, some (t, 1) = some (t', n) → ∃ u', u'.st = 1 ∧ u'.q = u.q ∧ u'.said = u.said ++ t' ∧ unqS (scan (c :: r)) (u.to 2) p = unqS (scan ((c :: r).drop n)) u' (p + n) := by
      intro x t hc hs ht t' n h
      cases h
      refine ⟨(u.to 2).say x, rfl, rfl, by rw [← ht]; rfl, ?_⟩
      rw [unqS_go c r (u.to 2) ((u.to 2).say x) p hc (by rw [step2 _ _ rfl]; exact hs) (by simp [Unq.say])]
      rfl
    have e1 : ∀ x : Int, 0 ≤ x → x ≤ 127 → Lib.encodeRune x = [x.toNat.toUInt8] := fun x a b => by rw [Lib.encodeRune, Lib.encodeRuneZ_one a b]; rfl
    unfold escL
    simp only
    by_cases h110 : c.toNat = 110
    · rw [if_pos h110]
      exact ⟨(fun h => by cases h), hone 10 [10] (by omega) (by rw [stepEscaped, if_pos (by omega)]) (by rw [e1 10 (by omega) (by omega)]; rfl)⟩
    rw [if_neg h110]
    by_cases h116 : c.toNat = 116
    · rw [if_pos h116]
      exact ⟨(fun h => by cases h), hone 9 [9] (by omega) (by rw [stepEscaped, if_neg (by omega), if_pos (by omega)]) (by rw [e1 9 (by omega) (by omega)]; rfl)⟩
    rw [if_neg h116]
    by_cases h3 : c.toNat = 34 ∨ c.toNat = 39 ∨ c.toNat = 92
    · rw [if_pos h3]
      exact ⟨(fun h => by cases h), hone (c.toNat : Int) [c] (by omega) (by rw [stepEscaped, if_neg (by omega), if_neg (by omega), if_pos (by omega)]) (by rw [e1 _ (by omega) (by omega)]; simp)⟩
    rw [if_neg h3]
    by_cases h117 : c.toNat = 117
    · rw [if_pos h117]
      have e0 : unqS (scan (c :: r)) (u.to 2) p = unqS (scan r) (u.to 3) (p + 1) :=
        unqS_go c r (u.to 2) (u.to 3) p (by omega) (by rw [step2 _ _ rfl, stepEscaped, if_neg (by omega), if_neg (by omega), if_neg (by omega), if_pos (by omega)]; rfl) (by simp [Unq.to])
      obtain ⟨n1, n2⟩ := num_read u r (p + 1)
      rw [e0]
      cases hn : numL r with
      | none => exact ⟨fun _ => n1 hn, fun t n h => by cases h⟩
      | some x =>
        refine ⟨(fun h => by cases h), fun t n h => ?_⟩
        cases h
        obtain ⟨u', a1, a2, a3, a4⟩ := n2 x.1 x.2 hn
        refine ⟨u', a1, a2, a3, ?_⟩
        rw [a4, List.drop_succ_cons]
        congr 1
        omega
    rw [if_neg h117]
    refine ⟨fun _ => ?_, fun t n h => by cases h⟩
    refine unqS_stop c r _ p ?_
    intro x hx
    rw [step2 _ _ rfl, stepEscaped, if_neg (by omega), if_neg (by omega), if_neg (by omega), if_neg (by omega)]
end Go.Proofs.YtpnljjcdlkjfhaaGreatDoor
namespace Go.Proofs.YtpnljjcdlkjfhaaGreatDoor
open Go.RowKit

def numRes : Option (List UInt8 × Nat) → Ending
  | none => .returned (.tuple #[.string ⟨#[]⟩, .int .i64 0])
  | some x => .returned (.tuple #[.string ⟨x.1.toArray⟩, .int .i64 (x.2 : Int)])

theorem numL_eq (l : List UInt8) (i v : Nat) (h0 : atL l 0 = 123) (hne : l ≠ []) (hi : 1 ≤ i) (hd : digs 6 (l.drop 1) (0, 0) = (i - 1, v)) :
    numL l = if i = 1 ∨ l.length ≤ i ∨ atL l i ≠ 125 ∨ Lib.validRune (v : Int) = false then none else some (Lib.encodeRune (v : Int), i + 1) := by
  cases l with
  | nil => exact absurd rfl hne
  | cons c r =>
    have hc : c.toNat = 123 := by simpa [atL] using h0
    rw [List.drop_succ_cons, List.drop_zero] at hd
    have e : atL r (i - 1) = atL (c :: r) i := by
      obtain ⟨j, rfl⟩ : ∃ j, i = j + 1 := ⟨i - 1, by omega⟩
      simp [atL]
    unfold numL
    simp only [hd, e]
    rw [if_neg (by omega)]
    by_cases hb : i = 1 ∨ (c :: r).length ≤ i ∨ atL (c :: r) i ≠ 125 ∨ Lib.validRune (v : Int) = false
    · rw [if_pos hb, if_pos]
      rw [List.length_cons] at hb
      rcases hb with h | h | h | h
      · left; omega
      · right; right; left; omega
      · right; left; exact h
      · right; right; right; exact h
    · rw [if_neg hb, if_neg]
      · have : i - 1 + 2 = i + 1 := by omega
        rw [this]
      · intro hh
        apply hb
        rw [List.length_cons]
        rcases hh with h | h | h | h
        · left; omega
        · right; right; left; exact h
        · right; left; omega
        · right; right; right; exact h

theorem numL_none (l : List UInt8) (i v : Nat) (h0 : atL l 0 = 123) (hne : l ≠ []) (hi : 1 ≤ i) (hd : digs 6 (l.drop 1) (0, 0) = (i - 1, v)) (hb : i = 1 ∨ l.length ≤ i ∨ atL l i ≠ 125 ∨ Lib.validRune (v : Int) = false) : numL l = none := by
  rw [numL_eq l i v h0 hne hi hd, if_pos hb]
theorem numL_some (l : List UInt8) (i v : Nat) (h0 : atL l 0 = 123) (hne : l ≠ []) (hi : 1 ≤ i) (hd : digs 6 (l.drop 1) (0, 0) = (i - 1, v)) (hb : ¬ (i = 1 ∨ l.length ≤ i ∨ atL l i ≠ 125 ∨ Lib.validRune (v : Int) = false)) : numL l = some (Lib.encodeRune (v : Int), i + 1) := by
  rw [numL_eq l i v h0 hne hi hd, if_neg hb]
theorem valid_iff (v : Nat) : Lib.validRune (v : Int) = false ↔ (1114111 < v ∨ (55296 ≤ v ∧ v < 57344)) := by
  unfold Lib.validRune
  simp
  omega

set_option maxHeartbeats 4000000 in
set_option maxRecDepth 100000 in
theorem number_any (s : ByteArray) (w : World) (hs : s.size ≤ 140737488351232) :
    Calls Tryz.prog 258 #[.string s] w fun e w' => e = numRes (numL s.data.toList) ∧ Below w.heap.size w w' := by
  by_cases hz : 0 < s.size
  · have hne := ne_nil_of_size s hz
    have hE : s.toList.isEmpty = false := by rw [Lib.toList_data]; simpa using hne
    have hb0 := byte_at s 0
    by_cases h0 : atL s.data.toList 0 = 123
    · obtain ⟨L, hL⟩ : ∃ L, L = s.data.toList := ⟨_, rfl⟩
      have hlen : L.length = s.size := by rw [hL, ← Lib.size_eq]
      have HN : Hid (∀ i v : Nat, 1 ≤ i → digs 6 (L.drop 1) (0, 0) = (i - 1, v) → (i = 1 ∨ s.size ≤ i ∨ atL L i ≠ 125 ∨ (1114111 < v ∨ (55296 ≤ v ∧ v < 57344))) → numL L = none) := by
        intro i v hi hd hb
        refine numL_none L i v (by rw [hL]; exact h0) (by rw [hL]; exact hne) hi hd ?_
        rw [valid_iff, hlen]
        exact hb
      have HY : Hid (∀ i v : Nat, 1 ≤ i → digs 6 (L.drop 1) (0, 0) = (i - 1, v) → ¬ (i = 1 ∨ s.size ≤ i ∨ atL L i ≠ 125 ∨ (1114111 < v ∨ (55296 ≤ v ∧ v < 57344))) → numL L = some (Lib.encodeRune (v : Int), i + 1)) := by
        intro i v hi hd hb
        refine numL_some L i v (by rw [hL]; exact h0) (by rw [hL]; exact hne) hi hd ?_
        rw [valid_iff, hlen]
        exact hb
      have HBY : Hid (∀ i (h : i < s.size), (s[i]'h).toNat = atL L i) := by rw [hL]; exact byte_at s
      rw [h0] at hb0
      rw [← hL]
      have HL : Hid (L.length = s.size) := hlen
      clear hL hlen h0 hne
      go_enter Tryz.func258, Tryz.ntmps258
      go_wp2
      go_loop [4, 5] (fun v i => ∃ (k val : Nat), i = .int .i64 (k : Nat) ∧ v = .int .i64 (val : Nat) ∧ 1 ≤ k ∧ k ≤ 7 ∧ k ≤ s.size ∧ val < 16 ^ (k - 1) ∧ digs (7 - k) (L.drop k) (k - 1, val) = digs 6 (L.drop 1) (0, 0)) (fun _ i => 8 - (intOf i).toNat)
      case atStart => exact ⟨1, 0, rfl, rfl, by omega, by omega, by omega, by simp, rfl⟩
      case round =>
        obtain ⟨i, val, rfl, rfl, h1, h7, hsz, hval, hdg⟩ := hrel
        have hp6 := pow_dig6 (i - 1) (by omega)
        have hby := HBY.out i
        have ha := atL_lt L i
        have hdc := fun w1 => refDigit_any (atL L i) w1 (by omega) (by omega)
        have hnone := HN.out i val h1
        have hsome := HY.out i val h1
        obtain ⟨bi, hbi⟩ : ∃ bi, bi = atL L i := ⟨_, rfl⟩
        rw [← hbi] at hby ha hdc hnone hsome
        by_cases hgo : i < s.size ∧ i ≤ 6 ∧ 0 ≤ hexv (bi : Int)
        · obtain ⟨g1, g2, g3⟩ := hgo
          have hrg := hexv_range (bi : Int)
          obtain ⟨d, hd⟩ : ∃ d : Nat, hexv (bi : Int) = (d : Int) := ⟨(hexv (bi : Int)).toNat, by omega⟩
          have hp5 := pow_dig (i - 1) (by omega)
          have hstep : digs (7 - (i + 1)) (L.drop (i + 1)) (i + 1 - 1, val * 16 + d) = digs 6 (L.drop 1) (0, 0) := by
            rw [← hdg]
            have hdr := List.drop_eq_getElem_cons (show i < L.length by rw [HL.out]; exact g1)
            have hat : ((L[i]'(by rw [HL.out]; exact g1)).toNat : Int) = (bi : Int) := by
              rw [hbi]; unfold atL
              rw [List.getD_eq_getElem?_getD, List.getElem?_eq_getElem (by rw [HL.out]; exact g1)]; rfl
            have e7 : 7 - i = (7 - (i + 1)) + 1 := by omega
            rw [hdr, e7, digs, hat, hd, if_neg (by omega)]
            congr 2
            omega
          have hpw : val * 16 + d < 16 ^ (i + 1 - 1) := by
            have : i + 1 - 1 = (i - 1) + 1 := by omega
            rw [this, Nat.pow_succ]; omega
          rw [hd] at hdc
          have HSTEP : Hid (digs (7 - (i + 1)) (L.drop (i + 1)) (i + 1 - 1, val * 16 + d) = digs 6 (L.drop 1) (0, 0)) := hstep
          have HPW : Hid (val * 16 + d < 16 ^ (i + 1 - 1)) := hpw
          have hv20 : val < 1048576 := by omega
          have hd15 : d ≤ 15 := by omega
          clear hstep hpw hbi hdg hval hp6 hp5 hnone hsome hd hrg g3
          go_wp2_with (go_at_call 265; refine (hdc _).mono ?_; rintro e w' ⟨rfl, rfl⟩)
          go_round
          case rel => exact ⟨i + 1, val * 16 + d, by go_num, by go_num, by omega, by omega, by omega, HPW.out, HSTEP.out⟩
          case measure => simp [intOf]; omega
        · have hend : digs 6 (L.drop 1) (0, 0) = (i - 1, val) := by
            rw [← hdg]
            by_cases e1 : i < s.size
            · by_cases e2 : i ≤ 6
              · have hx : hexv (bi : Int) < 0 := by omega
                have hdr := List.drop_eq_getElem_cons (show i < L.length by rw [HL.out]; exact e1)
                have hat : ((L[i]'(by rw [HL.out]; exact e1)).toNat : Int) = (bi : Int) := by
                  rw [hbi]; unfold atL
                  rw [List.getD_eq_getElem?_getD, List.getElem?_eq_getElem (by rw [HL.out]; exact e1)]; rfl
                have e7 : 7 - i = (7 - (i + 1)) + 1 := by omega
                rw [hdr, e7, digs, hat, if_pos hx]
              · have e7 : 7 - i = 0 := by omega
                rw [e7, digs]
            · rw [List.drop_of_length_le (by rw [HL.out]; omega)]
              generalize 7 - i = f
              cases f <;> rfl
          replace hnone := hnone hend
          replace hsome := hsome hend
          have HNO : Hid ((i = 1 ∨ s.size ≤ i ∨ bi ≠ 125 ∨ (1114111 < val ∨ (55296 ≤ val ∧ val < 57344))) → numL L = none) := hnone
          have HSO : Hid (¬ (i = 1 ∨ s.size ≤ i ∨ bi ≠ 125 ∨ (1114111 < val ∨ (55296 ≤ val ∧ val < 57344))) → numL L = some (Lib.encodeRune (val : Int), i + 1)) := hsome
          have hv24 : val < 16777216 := by omega
          have HGO : Hid (¬ (i < s.size ∧ i ≤ 6 ∧ 0 ≤ hexv (bi : Int))) := hgo
          clear hnone hsome hend hdg hval hp6 hbi hgo
          by_cases c2 : s.size ≤ i
          · have HR : Hid (numL L = none) := HNO.out (Or.inr (Or.inl c2))
            by_cases c1 : i = 1
            all_goals
              go_wp2_with fail
              go_ret2
              exact ⟨by rw [HR.out]; rfl, Below.refl _ _⟩
          have hor : 6 < i ∨ (i ≤ 6 ∧ hexv (bi : Int) < 0) := by have := HGO.out; omega
          clear HGO
          by_cases c1 : i = 1
          · have HR : Hid (numL L = none) := HNO.out (Or.inl c1)
            have hx : hexv (bi : Int) < 0 := by omega
            clear hor
            subst c1
            go_wp2_with (go_at_call 265; refine (hdc _).mono ?_; rintro e w' ⟨rfl, rfl⟩)
            go_ret2
            exact ⟨by rw [HR.out]; rfl, Below.refl _ _⟩
          have b1 : ((i : Int) == 1) = false := by simp; omega
          by_cases c3 : bi = 125
          · have b3 : ((bi : Int) != 125) = false := by simp; omega
            by_cases c4 : 1114111 < val ∨ (55296 ≤ val ∧ val < 57344)
            · have HR : Hid (numL L = none) := HNO.out (Or.inr (Or.inr (Or.inr c4)))
              clear c3 HNO HSO
              rcases hor with o1 | ⟨o1, o2⟩
              all_goals
                rcases c4 with d1 | ⟨d1, d2⟩
                all_goals
                  go_wp2_with (go_at_call 265; refine (hdc _).mono ?_; rintro e w' ⟨rfl, rfl⟩)
                  go_ret2
                  exact ⟨by rw [HR.out]; rfl, Below.refl _ _⟩
            · have HR : Hid (numL L = some (Lib.encodeRune (val : Int), i + 1)) := HSO.out (by omega)
              have hen := encode_any (val : Int) w (by omega) (by omega) (by omega)
              have d0 : val ≤ 1114111 := by omega
              have d3 : val < 55296 ∨ (55296 ≤ val ∧ 57344 ≤ val) := by omega
              clear c3 c4 HNO HSO
              rcases hor with o1 | ⟨o1, o2⟩
              all_goals
                rcases d3 with d1 | ⟨d1, d2⟩
                all_goals
                  go_wp2_with (first | (go_at_call 265; refine (hdc _).mono ?_; rintro e w' ⟨rfl, rfl⟩) | (go_at_call 266; refine hen.mono ?_; rintro e w' ⟨rfl, hb⟩))
                  go_ret2
                  exact ⟨by rw [HR.out]; rfl, hb⟩
          · have HR : Hid (numL L = none) := HNO.out (Or.inr (Or.inr (Or.inl c3)))
            have b3 : ((bi : Int) != 125) = true := by simp; omega
            clear c3 HNO HSO
            rcases hor with o1 | ⟨o1, o2⟩
            all_goals
              go_wp2_with (go_at_call 265; refine (hdc _).mono ?_; rintro e w' ⟨rfl, rfl⟩)
              go_ret2
              exact ⟨by rw [HR.out]; rfl, Below.refl _ _⟩
    · have HR : Hid (numL s.data.toList = none) := by
        cases hl : s.data.toList with
        | nil => rfl
        | cons c r =>
          have hc : atL (c :: r) 0 = c.toNat := by simp [atL]
          rw [hl, hc] at h0
          unfold numL
          simp only
          rw [if_pos h0]
          trivial
      have hlt := atL_lt s.data.toList 0
      generalize atL s.data.toList 0 = b at *
      have bb : ((b : Int) != 123) = true := by simp; omega
      rw [HR.out]
      clear h0
      go_enter Tryz.func258, Tryz.ntmps258
      go_wp2_with fail
      go_ret2
      exact ⟨rfl, Below.refl _ _⟩
  · have hl : s.data.toList = [] := List.eq_nil_of_length_eq_zero (by rw [← Lib.size_eq]; omega)
    have hE : s.toList.isEmpty = true := by rw [Lib.toList_data, hl]; rfl
    rw [hl]
    clear hl
    go_enter Tryz.func258, Tryz.ntmps258
    go_wp2_with fail
    go_ret2
    exact ⟨rfl, Below.refl _ _⟩
end Go.Proofs.YtpnljjcdlkjfhaaGreatDoor
namespace Go.Proofs.YtpnljjcdlkjfhaaGreatDoor
open Go.RowKit

theorem numL_len (l t : List UInt8) (n : Nat) (h : numL l = some (t, n)) : t.length ≤ n + 1 ∧ 3 ≤ n ∧ n ≤ 8 ∧ n ≤ l.length := by
  cases l with
  | nil => simp [numL] at h
  | cons c r =>
    unfold numL at h
    simp only at h
    split at h
    · cases h
    · split at h
      · cases h
      · rename_i hb
        have hle := digs_le 6 r 0 0
        have hl := Lib.runeCells_le ((digs 6 r (0, 0)).2 : Int)
        rw [Lib.runeCells_length] at hl
        cases h
        have hbb : ¬ (digs 6 r (0, 0)).1 = 0 ∧ ¬ r.length ≤ (digs 6 r (0, 0)).1 := ⟨fun e => hb (Or.inl e), fun e => hb (Or.inr (Or.inr (Or.inl e)))⟩
        rw [List.length_cons]
        omega
theorem escL_len (l t : List UInt8) (n : Nat) (h : escL l = some (t, n)) : t.length ≤ n ∧ 1 ≤ n ∧ n ≤ 9 ∧ n ≤ l.length := by
  cases l with
  | nil => simp [escL] at h
  | cons c r =>
    unfold escL at h
    simp only at h
    rw [List.length_cons]
    split at h
    · cases h; simp
    · split at h
      · cases h; simp
      · split at h
        · cases h; simp
        · split at h
          · cases hn : numL r with
            | none => rw [hn] at h; cases h
            | some x =>
              rw [hn] at h
              cases h
              have := numL_len r x.1 x.2 hn
              omega
          · cases h

set_option maxHeartbeats 4000000 in
set_option maxRecDepth 100000 in
theorem escape_any (s : ByteArray) (w : World) (hs : s.size ≤ 140737488351232) :
    Calls Tryz.prog 241 #[.string s] w fun e w' => e = numRes (escL s.data.toList) ∧ Below w.heap.size w w' := by
  by_cases hz : 0 < s.size
  · have hne := ne_nil_of_size s hz
    have hE : s.toList.isEmpty = false := by rw [Lib.toList_data]; simpa using hne
    have hb0 := byte_at s 0
    have hlt := atL_lt s.data.toList 0
    have htl := cut_tail s 1
    have hcut := cut_head s 1
    have htz := Lib.size_eq (s.extract 1 s.size)
    rw [htl, List.length_drop, ← Lib.size_eq] at htz
    have hnum := fun w1 => number_any (s.extract 1 s.size) w1 (by omega)
    rw [htl] at hnum
    obtain ⟨c, r, hl⟩ : ∃ c r, s.data.toList = c :: r := by
      cases h : s.data.toList with
      | nil => exact absurd h hne
      | cons c r => exact ⟨c, r, rfl⟩
    rw [hl] at hb0 hlt hnum hcut ⊢
    rw [List.drop_succ_cons, List.drop_zero] at hnum
    have hc0 : atL (c :: r) 0 = c.toNat := by simp [atL]
    rw [hc0] at hb0 hlt
    rw [List.take_succ_cons, List.take_zero] at hcut
    obtain ⟨b, hb⟩ : ∃ b : Nat, b = c.toNat := ⟨_, rfl⟩
    rw [← hb] at hb0 hlt
    clear hl hc0 hne htl htz
    unfold escL
    simp only
    rw [← hb]
    by_cases h110 : b = 110
    · rw [if_pos h110]
      clear hb
      subst h110
      go_enter Tryz.func241, Tryz.ntmps241
      go_wp2_with fail
      go_ret2
      exact ⟨rfl, Below.refl _ _⟩
    rw [if_neg h110]
    have b110 : ((b : Int) == 110) = false := by simp; omega
    by_cases h116 : b = 116
    · rw [if_pos h116]
      clear hb h110
      subst h116
      go_enter Tryz.func241, Tryz.ntmps241
      go_wp2_with fail
      go_ret2
      exact ⟨rfl, Below.refl _ _⟩
    rw [if_neg h116]
    have b116 : ((b : Int) == 116) = false := by simp; omega
    by_cases h3 : b = 34 ∨ b = 39 ∨ b = 92
    · rw [if_pos h3]
      clear hb h110 h116
      rcases h3 with rfl | rfl | rfl
      all_goals
        go_enter Tryz.func241, Tryz.ntmps241
        go_wp2_with fail
        go_ret2
        exact ⟨rfl, Below.refl _ _⟩
    rw [if_neg h3]
    have b34 : ((b : Int) == 34) = false := by simp; omega
    have b39 : ((b : Int) == 39) = false := by simp; omega
    have b92 : ((b : Int) == 92) = false := by simp; omega
    by_cases h117 : b = 117
    · rw [if_pos h117]
      clear hb h110 h116 h3
      subst h117
      cases hn : numL r with
      | none =>
        rw [hn] at hnum
        simp only [numRes] at hnum ⊢
        clear hn
        go_enter Tryz.func241, Tryz.ntmps241
        go_wp2_with (go_at_call 258; refine (hnum _).mono ?_)
        rintro e W1 ⟨rfl, b1⟩
        go_wp2
        go_ret2
        exact ⟨rfl, b1⟩
      | some x =>
        obtain ⟨t, n⟩ := x
        have hlen := numL_len r t n hn
        obtain ⟨hn1, hn2, hn3, _⟩ := hlen
        rw [hn] at hnum
        simp only [numRes] at hnum ⊢
        clear hn
        generalize (⟨t.toArray⟩ : ByteArray) = tb at *
        go_enter Tryz.func241, Tryz.ntmps241
        go_wp2_with (go_at_call 258; refine (hnum _).mono ?_)
        rintro e W1 ⟨rfl, b1⟩
        go_wp2
        go_ret2
        exact ⟨rfl, b1⟩
    rw [if_neg h117]
    have b117 : ((b : Int) == 117) = false := by simp; omega
    clear hb h110 h116 h3 h117
    go_enter Tryz.func241, Tryz.ntmps241
    go_wp2_with fail
    go_ret2
    exact ⟨rfl, Below.refl _ _⟩
  · have hl : s.data.toList = [] := List.eq_nil_of_length_eq_zero (by rw [← Lib.size_eq]; omega)
    have hE : s.toList.isEmpty = true := by rw [Lib.toList_data, hl]; rfl
    rw [hl]
    clear hl
    go_enter Tryz.func241, Tryz.ntmps241
    go_wp2_with fail
    go_ret2
    exact ⟨rfl, Below.refl _ _⟩
end Go.Proofs.YtpnljjcdlkjfhaaGreatDoor
