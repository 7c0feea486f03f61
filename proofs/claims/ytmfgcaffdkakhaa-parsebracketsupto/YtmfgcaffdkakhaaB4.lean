/- Own text. Sources one behind the other, a line's end between; a source in brackets. -/
import Derived.Test.YtmfgcaffdkakhaaXX
import Derived.Test.YtmfgcaffdkakhaaUU
import Derived.Test.YtmfgcaffdkakhaaB3
namespace Go.Proofs.Ytmfgcaffdkakhaa
open Go.RowKit
set_option linter.unusedVariables false
set_option linter.unusedSimpArgs false

theorem lineL_nl : ∀ (r q : Bs), lineL r = r.length → lineL (r ++ 10 :: q) = r.length
  | [], q, _ => by simp [lineL]
  | c :: r, q, h => by
    by_cases hc : c = 10
    · simp [lineL, hc] at h
    · simp only [lineL, hc, if_false, List.cons_append, List.length_cons] at h ⊢
      rw [lineL_nl r q (by omega)]
theorem past_nl (q : Bs) : pastL (10 :: q) = ((pastL q).1 + 1, (pastL q).2) := by rw [pastL_cons, if_pos (by decide)]
theorem past_close (q : Bs) : ∀ (m : Nat) (l : Bs), l.length ≤ m → (pastL l).2 = true → (pastL l).1 = l.length → pastL (l ++ 10 :: q) = (l.length + 1 + (pastL q).1, (pastL q).2) := by
  intro m
  induction m with
  | zero =>
    intro l hm _ _
    obtain rfl : l = [] := List.length_eq_zero_iff.1 (by omega)
    rw [List.nil_append, past_nl]
    simp only [List.length_nil, Prod.mk.injEq, and_true]
    omega
  | succ m ih =>
    intro l hm h1 h2
    cases l with
    | nil =>
      rw [List.nil_append, past_nl]
      simp only [List.length_nil, Prod.mk.injEq, and_true]
      omega
    | cons c r =>
      simp only [List.length_cons] at hm h2
      have hpc := pastL_cons c r
      rw [List.cons_append]
      split at hpc
      · rename_i hb
        rw [hpc] at h1 h2
        simp only at h1 h2
        rw [pastL_cons, if_pos hb, ih r (by omega) h1 (by omega)]
        simp only [List.length_cons, Prod.mk.injEq, and_true]
        omega
      · rename_i hb
        split at hpc
        · rename_i hl
          rw [hpc] at h1 h2
          simp only at h1 h2
          have hne : r ≠ [] := fun e => by rw [e] at hl; simp at hl
          have hh : (r ++ 10 :: q).head? = some 47 := by
            rw [List.head?_append, hl.2]
            rfl
          rw [pastL_cons, if_neg hb, if_pos ⟨hl.1, hh⟩]
          have hle := lineL_le r
          by_cases hlt : lineL r < r.length
          · rw [lineL_app _ _ hlt, List.drop_append_of_le_length (by omega), ih (r.drop (lineL r)) (by simp; omega) h1 (by simp only [List.length_drop]; omega)]
            simp only [List.length_cons, List.length_drop, Prod.mk.injEq, and_true]
            omega
          · have e : lineL r = r.length := by omega
            rw [lineL_nl r q e, List.drop_left, past_nl]
            simp only [List.length_cons, Prod.mk.injEq, and_true]
            omega
        · rename_i hl
          split at hpc
          · rename_i hn
            have hne : r ≠ [] := fun e => by rw [e] at hn; simp at hn
            have hh : (r ++ 10 :: q).head? = some 42 := by
              rw [List.head?_append, hn.2]
              rfl
            have hh2 : (r ++ 10 :: q).head? ≠ some 47 := by rw [hh]; simp
            have ht : (r ++ 10 :: q).tail = r.tail ++ 10 :: q := by
              cases r with
              | nil => exact absurd rfl hne
              | cons d t => rfl
            cases hk : noteL r.tail with
            | none => rw [hk] at hpc; rw [hpc] at h1; cases h1
            | some k =>
              rw [hk] at hpc
              simp only at hpc
              rw [hpc] at h1 h2
              simp only at h1 h2
              have hkl := noteL_le _ _ hk
              have hrl : r.tail.length + 1 = r.length := by
                cases r with
                | nil => exact absurd rfl hne
                | cons d t => rfl
              rw [pastL_cons, if_neg hb, if_neg (fun e => hh2 e.2), if_pos ⟨hn.1, hh⟩, ht, noteL_app _ _ _ hk]
              simp only
              rw [List.drop_append_of_le_length hkl.2, ih (r.tail.drop k) (by simp only [List.length_drop]; omega) h1 (by simp only [List.length_drop]; omega)]
              simp only [List.length_cons, List.length_drop, Prod.mk.injEq, and_true]
              omega
          · rw [hpc] at h2
            simp at h2
theorem pre_cut' {c : UInt8} : ∀ {g A B : Bs}, g.isPrefixOf (A ++ c :: B) = true → c ∉ g → g.isPrefixOf A = true
  | [], A, B, _, _ => by simp
  | d :: g, [], B, h, hc => by
    simp only [List.nil_append, List.isPrefixOf, Bool.and_eq_true, beq_iff_eq] at h
    exact absurd (by simp [h.1]) hc
  | d :: g, x :: A, B, h, hc => by
    simp only [List.cons_append, List.isPrefixOf, Bool.and_eq_true, beq_iff_eq] at h ⊢
    exact ⟨h.1, pre_cut' h.2 (fun q => hc (by simp [q]))⟩
theorem signs_nl : ∀ g ∈ signsL, (10 : UInt8) ∉ g := by decide
theorem on_10 (r : Bs) (sc : Bool) : onL (10 :: r) sc = 0 := by
  have e : onL (10 :: r) sc = onL (10 :: []) sc := on_low (l := 10 :: []) (m := 10 :: r) (by simp) (by simp) (by decide) rfl sc
  rw [e]
  cases sc <;> decide +kernel
theorem lex_join (q : Bs) (sc : Bool) (tq : List Tk) (hq : ∀ c, ∃ t, lexL c q sc = .ok t ∧ kinds t = tq) :
    ∀ (m a b : Nat) (l : Bs) (ts : List (Tk × Nat)), l.length ≤ m → lexL a l sc = .ok ts → ∃ ts', lexL b (l ++ 10 :: q) sc = .ok ts' ∧ kinds ts' = kinds ts ++ tq := by
  have done : ∀ (b : Nat) (l : Bs), (pastL l).2 = true → l.drop (pastL l).1 = [] → ∃ ts', lexL b (l ++ 10 :: q) sc = .ok ts' ∧ kinds ts' = tq := by
    intro b l h1 h2
    have hle := pastL_le l
    rw [List.drop_eq_nil_iff] at h2
    have hp := past_close q l.length l (Nat.le_refl _) h1 (by omega)
    have hd : ∀ k, (l ++ 10 :: q).drop (l.length + 1 + k) = q.drop k := fun k => by
      rw [← List.drop_drop, ← List.drop_drop, List.drop_left]
      rfl
    obtain ⟨t, ht, hk⟩ := hq (b + l.length + 1)
    obtain ⟨s1, s2⟩ := lex_step ht
    rcases s2 with ⟨s2, rfl⟩ | ⟨x, t', s2, s3, s4, rfl⟩
    · exact ⟨[], lex_end (by rw [hp]; exact s1) (by rw [hp]; simp only; rw [hd]; exact s2), hk⟩
    · refine ⟨_, lex_made (x := x) (ts' := t') (by rw [hp]; exact s1) (by rw [hp]; simp only; rw [hd]; exact s2) (by rw [hp]; simp only; rw [hd]; exact s3) ?_, ?_⟩
      · rw [hp]
        simp only
        rw [Nat.add_assoc (l.length + 1), hd, show b + (l.length + 1 + (pastL q).1) + x.2 = b + l.length + 1 + (pastL q).1 + x.2 by omega]
        exact s4
      · simp [kinds] at hk ⊢
        exact hk
  intro m
  induction m with
  | zero =>
    intro a b l ts hm h
    obtain ⟨h1, h2⟩ := lex_step h
    rcases h2 with ⟨h2, rfl⟩ | ⟨y, ts', h2, _⟩
    · exact done b l h1 h2
    · exact absurd (List.drop_eq_nil_of_le (by omega)) h2
  | succ m ih =>
    intro a b l ts hm h
    obtain ⟨h1, h2⟩ := lex_step h
    rcases h2 with ⟨h2, rfl⟩ | ⟨x, ts', h2, h3, h4, rfl⟩
    · exact done b l h1 h2
    · have hlen := next_len h2 h3
      simp only [List.length_drop] at hlen
      obtain ⟨k, hk⟩ : ∃ k, k = (pastL l).1 := ⟨_, rfl⟩
      have hp1 := fun q => (past_app l.length l q (Nat.le_refl _) h1 (by omega)).1
      have hp2 := (past_app l.length l [] (Nat.le_refl _) h1 (by omega)).2
      rw [← hk] at h2 h3 h4 hlen hp1 hp2
      obtain ⟨ts2, h5, h6⟩ := ih (a + k + x.2) (b + k + x.2) (l.drop (k + x.2)) ts' (by simp; omega) h4
      obtain ⟨l1, hl1⟩ : ∃ l1, l1 = l.drop (k + x.2) := ⟨_, rfl⟩
      rw [← hl1] at h4 h5
      obtain ⟨Z, hZ⟩ : ∃ Z, Z = l1 ++ 10 :: q := ⟨_, rfl⟩
      have hsplit : l.drop k = (l.drop k).take x.2 ++ l1 := by
        rw [hl1, ← List.drop_drop, List.take_append_drop]
      have hcut : l ++ 10 :: q = l.take k ++ ((l.drop k).take x.2 ++ Z) := by
        conv => lhs; rw [← List.take_append_drop k l, hsplit]
        rw [hZ, List.append_assoc, List.append_assoc]
      rw [hcut]
      obtain ⟨t1, t2⟩ := lex_step h4
      have hZh : l1 = [] ∨ (l1 ≠ [] ∧ Z ≠ [] ∧ atL Z 0 = atL l1 0 ∧ Z.head? = l1.head?) := by
        by_cases hn : l1 = []
        · exact .inl hn
        · right
          refine ⟨hn, by rw [hZ]; simp, by rw [hZ, atL_app0 hn], ?_⟩
          rw [hZ]
          cases l1 with
          | nil => exact absurd rfl hn
          | cons c r => rfl
      have hZ0 : l1 = [] → Z = 10 :: q := fun e => by rw [hZ, e]; rfl
      have hstop : Stop (l.drop k) x Z sc := by
        constructor
        · intro hkind
          have hon := next_stop h3 hkind
          rw [List.drop_drop, ← hl1] at hon
          rcases hZh with hp0 | ⟨hl1ne, zn, za, _⟩
          · rw [hZ0 hp0]; exact on_10 _ sc
          · by_cases hlow : atL l1 0 < 128
            · rw [on_low hl1ne zn hlow za]; exact hon
            · exfalso
              rcases t2 with ⟨t2, _⟩ | ⟨y, ts3, q2, q3, _⟩
              · have hpz : (pastL l1).1 = 0 := past_high hl1ne hlow
                rw [hpz, List.drop_zero] at t2
                exact hl1ne t2
              · have hpz : (pastL l1).1 = 0 := past_high hl1ne hlow
                rw [hpz, List.drop_zero] at q2 q3
                exact high_name q2 q3 hlow hon
        · intro g hg hpre
          rw [hZ, ← List.append_assoc, ← hsplit] at hpre
          exact pre_cut' hpre (signs_nl g hg)
      have hnx := next_local h2 h3 hstop
      have hqne : (l.drop k).take x.2 ++ Z ≠ [] := fun e => take_ne h2 (show 0 < x.2 by omega) (List.append_eq_nil_iff.1 e).1
      have hpq : pastL ((l.drop k).take x.2 ++ Z) = (0, true) := by
        cases hc : l.drop k with
        | nil => exact absurd hc h2
        | cons c r =>
          rw [hc] at hp2 hsplit
          obtain ⟨g1, g2, g3⟩ := past_none hp2
          obtain ⟨n, hn⟩ : ∃ n, x.2 = n + 1 := ⟨x.2 - 1, by omega⟩
          rw [hn] at hsplit ⊢
          simp only [List.take_succ_cons, List.cons_append] at hsplit ⊢
          have hr : r = r.take n ++ l1 := by injection hsplit
          have hh : (r.take n ++ Z).head? = r.head? ∨ (r.take n ++ Z).head? = some 10 := by
            cases hrt : r.take n with
            | nil =>
              rw [hrt, List.nil_append] at hr
              rw [List.nil_append, hr]
              rcases hZh with hp0 | ⟨_, _, _, zh⟩
              · right; rw [hZ0 hp0]; rfl
              · left; exact zh
            | cons d t =>
              left
              rw [hrt] at hr
              rw [hr]
              rfl
          rcases hh with hh | hh
          · exact past_here g1 (by rw [hh]; exact g2) (by rw [hh]; exact g3)
          · exact past_here g1 (by rw [hh]; simp) (by rw [hh]; simp)
      have hpL : pastL (l.take k ++ ((l.drop k).take x.2 ++ Z)) = (k, true) := by rw [hp1, hpq]; rfl
      have hd1 := drop_cut (l := l) (k := k) (by omega) ((l.drop k).take x.2 ++ Z)
      have hd2 : (l.take k ++ ((l.drop k).take x.2 ++ Z)).drop (k + x.2) = Z := by
        rw [← List.drop_drop, hd1, drop_cut (by simp; omega)]
      refine ⟨_, lex_made (a := b) (x := x) (ts' := ts2) (by rw [hpL]) (by rw [hpL]; simp only; rw [hd1]; exact hqne) (by rw [hpL]; simp only; rw [hd1]; exact hnx) (by rw [hpL]; simp only; rw [hd2, hZ]; exact h5), ?_⟩
      simp [kinds] at h6 ⊢
      exact h6
theorem lex_po {l : Bs} {sc : Bool} {t : List (Tk × Nat)} (h : lexL 1 l sc = .ok t) : lexL 0 (40 :: l) sc = .ok (((5, [40], 0), 0) :: t) := by
  have hp : pastL (40 :: l) = (0, true) := past_from (by simp) (by show (32 : Nat) < 40; omega) (by show (40 : Nat) ≠ 47; omega)
  have hn : nextL (40 :: l) sc = .ok ((5, [40], 0), 1) := by
    have hb : begL (40 :: l) sc = 0 := by
      have e : begL (40 :: l) sc = begL (40 :: []) sc := beg_low (l := 40 :: []) (m := 40 :: l) (by simp) (by simp) (by decide) rfl sc
      rw [e]
      cases sc <;> decide +kernel
    have hnm : nameL (40 :: l) sc = 0 := by unfold nameL; rw [if_pos hb]
    unfold nextL
    rw [hnm]
    have hs : signNx (40 :: l) = .ok ((5, [40], 0), 1) := by
      unfold signNx
      have : signsL.find? (fun g => g.isPrefixOf (40 :: l)) = some [40] := by
        simp [signsL, List.find?, List.isPrefixOf]
      rw [this]
      rfl
    rw [hs]
    simp [atL, digC]
  have := lex_made (a := 0) (l := 40 :: l) (sc := sc) (x := ((5, [40], 0), 1)) (ts' := t) (by rw [hp]) (by rw [hp]; simp) (by rw [hp]; exact hn) (by rw [hp]; exact h)
  rw [hp] at this
  exact this
theorem lex_pc (sc : Bool) (c : Nat) : lexL c [41] sc = .ok [((5, [41], 0), c)] := by
  have hp : pastL [41] = (0, true) := by decide +kernel
  have := lex_made (a := c) (l := [41]) (sc := sc) (x := ((5, [41], 0), 1)) (ts' := []) (by rw [hp]) (by rw [hp]; simp) (by rw [hp]; cases sc <;> rfl) (lex_end (by rw [hp]; rfl) (by rw [hp]; rfl))
  rw [hp] at this
  exact this
/-- a source in brackets, as the tokens' list. -/
theorem src_br {s : Bs} {ts : List (Tk × Nat)} (h : lexL 0 s true = .ok ts) : Br (srcT s) (srcT (40 :: (s ++ [10, 41]))) ∧ tokA (srcT (40 :: (s ++ [10, 41]))) 0 = tPo := by
  obtain ⟨tM, h1, h2⟩ := lex_join [41] true [(5, [41], 0)] (fun c => ⟨_, lex_pc true c, rfl⟩) s.length 0 1 s ts (Nat.le_refl _) h
  have h3 := lex_po h1
  have eL : srcT s = ts.map tkT := by unfold srcT; rw [h]
  have eM : srcT (40 :: (s ++ [10, 41])) = tkT ((5, [40], 0), 0) :: tM.map tkT := by unfold srcT; rw [h3]; rfl
  have hlen : tM.length = ts.length + 1 := by
    have := congrArg List.length h2
    simpa [kinds] using this
  rw [eL, eM]
  have hk : ∀ a : Nat, (kinds tM)[a]? = (tM[a]?).map Prod.fst := fun a => by simp [kinds]
  have hks : ∀ a : Nat, (kinds ts)[a]? = (ts[a]?).map Prod.fst := fun a => by simp [kinds]
  refine ⟨⟨by simp [hlen], fun a ha => ?_, ?_⟩, rfl⟩
  · have ha' : a < ts.length := by simpa using ha
    have hm : a < tM.length := by omega
    have e1 : tokA (tkT ((5, [40], 0), 0) :: tM.map tkT) (a + 1) = tkT tM[a] := by simp [tokA, hm]
    have e2 : tokA (ts.map tkT) a = tkT ts[a] := by simp [tokA, ha']
    have e3 : tM[a].1 = ts[a].1 := by
      have := hk a
      rw [h2, List.getElem?_append_left (by simp [kinds]; exact ha'), hks a] at this
      simpa [ha', hm] using this.symm
    rw [e1, e2]
    simp [tkT, e3]
  · have hm : ts.length < tM.length := by omega
    have e1 : tokA (tkT ((5, [40], 0), 0) :: tM.map tkT) ((ts.map tkT).length + 1) = tkT tM[ts.length] := by simp [tokA, hm]
    have e3 : tM[ts.length].1 = (5, [41], 0) := by
      have := hk ts.length
      rw [h2, List.getElem?_append_right (by simp [kinds])] at this
      simpa [kinds, hm] using this.symm
    rw [e1]
    simp only [tkT, e3]
    exact ⟨trivial, by decide +kernel⟩
end Go.Proofs.Ytmfgcaffdkakhaa
