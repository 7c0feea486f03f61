/- Own text. The document's reader of names, and of blanks and notes. The document's words, signs and numbers. -/
import Derived.Test.YtpnljjcdlkjfhaaGreatDoorRv18
import Derived.WalkSmall
import Derived.Laws.OwnMore
import Derived.OwnWalk
import Derived.Below
set_option linter.unusedVariables false
namespace Go.Proofs.YtpnljjcdlkjfhaaGreatDoor
open Go.RowKit
theorem drop_run (s : ByteArray) (n : Nat) (h : n ≤ s.size) (W : World) : (Instr.slice 9 (.string s) (some (.int .i64 (n : Int))) none none).run Tryz.prog W = .ok (.string (s.extract n s.size)) W := by
  have h1 : (n : Int) ≤ (s.size : Int) := by omega
  go_simp
theorem atL_drop (l : Bs) (n k : Nat) : atL (l.drop n) k = atL l (n + k) := by
  unfold atL
  rw [List.getD_eq_getElem?_getD, List.getElem?_drop, ← List.getD_eq_getElem?_getD]

set_option maxHeartbeats 2000000 in
theorem name_any (s : ByteArray) (sc : Bool) (w : World) (hs : s.size ≤ 140737488355328) : Calls Tryz.prog 213 #[.string s, .bool sc] w fun e w' => e = .returned (.int .i64 (nameL s.data.toList sc : Nat)) ∧ w' = w := by
  have hm : s.size ≤ maxLen := by unfold maxLen; omega
  have hb0 := fun W => begins_any s sc W hm
  by_cases h0 : begL s.data.toList sc = 0
  · have HN : Hid (nameL s.data.toList sc = 0) := by show _ = _; unfold nameL; rw [if_pos h0]
    rw [h0] at hb0
    clear h0
    go_enter Tryz.func213, Tryz.ntmps213
    go_wp2_with (go_at_call 239; refine (hb0 _).mono ?_; rintro e W ⟨rfl, rfl⟩)
    go_ret
    exact ⟨by rw [HN.out]; rfl, rfl⟩
  · have hbl := begL_le s.data.toList sc
    rw [← Lib.size_eq] at hbl
    have HN : Hid (nameL s.data.toList sc = begL s.data.toList sc + tailL (s.data.toList.drop (begL s.data.toList sc)) sc) := by show _ = _; unfold nameL; rw [if_neg h0]
    obtain ⟨b, hb⟩ : ∃ b, b = begL s.data.toList sc := ⟨_, rfl⟩
    rw [← hb] at hb0 h0 hbl HN
    clear hb
    have hbi : ((b : Int) == 0) = false := int_eqb (by omega)
    go_enter Tryz.func213, Tryz.ntmps213
    go_wp2_with (go_at_call 239; refine (hb0 _).mono ?_; rintro e W ⟨rfl, rfl⟩)
    go_loopw [5] (fun v5 W' => ∃ k : Nat, v5 = .int .i64 k ∧ b ≤ k ∧ k ≤ s.size ∧ W' = W ∧ Hid (nameL s.data.toList sc = k + tailL (s.data.toList.drop k) sc)) (fun v5 _ => s.size - (intOf v5).toNat)
    case atStart => exact ⟨b, rfl, Nat.le_refl _, hbl, rfl, HN⟩
    case round =>
      obtain ⟨k, rfl, hbk, hk, rfl, hh⟩ := hrel
      by_cases hkl : k < s.size
      · have hkl2 : (k : Int) < (s.size : Int) := by omega
        have hsl := drop_run s k (by omega)
        have hxl : (s.extract k s.size).data.toList = s.data.toList.drop k := drop_extract s k
        have hxs : (s.extract k s.size).size ≤ maxLen := by rw [Lib.size_eq, hxl, List.length_drop, ← Lib.size_eq]; omega
        have hby := byteI s k hkl
        have hat : atL s.data.toList k = atL (s.data.toList.drop k) 0 := by rw [atL_drop]; rfl
        rw [hat] at hby
        have hne : s.data.toList.drop k ≠ [] := drop_ne s k hkl
        have hon := onL_le (s.data.toList.drop k) sc
        rw [List.length_drop, ← Lib.size_eq] at hon
        have hte := tailL_eq (s.data.toList.drop k) sc
        have hb1 := fun W => begins_any (s.extract k s.size) sc W hxs
        rw [hxl] at hb1
        have hod : onL (s.data.toList.drop k) sc = if begL (s.data.toList.drop k) sc ≠ 0 then begL (s.data.toList.drop k) sc else if digC (atL (s.data.toList.drop k) 0) = true then 1 else 0 := by
          unfold onL
          simp [hne]
        have hd1 := fun W => rdigit_any (atL (s.data.toList.drop k) 0) W
        obtain ⟨o, ho⟩ : ∃ o, o = onL (s.data.toList.drop k) sc := ⟨_, rfl⟩
        have HH : Hid (nameL s.data.toList sc = k + (if o = 0 then 0 else o + tailL (s.data.toList.drop (k + o)) sc)) := by
          show _ = _
          rw [hh.out, hte, ← ho, List.drop_drop]
        rw [← ho] at hod hon
        clear hte hh ho hat hne hxl hxs
        generalize atL (s.data.toList.drop k) 0 = c at *
        generalize s.extract k s.size = X at *
        by_cases g0 : begL (s.data.toList.drop k) sc = 0
        · rw [g0] at hb1 hod
          cases gd : digC c
          · have o0 : o = 0 := by rw [hod, gd]; rfl
            rw [gd] at hd1
            have HR : Hid (nameL s.data.toList sc = k) := by show _ = _; rw [HH.out, if_pos o0]; rfl
            clear hod HH g0
            go_wp2_with (first
              | (go_at_call 239; refine (hb1 _).mono ?_; rintro e W ⟨rfl, rfl⟩)
              | (go_at_call 215; refine (hd1 _).mono ?_; rintro e W ⟨rfl, rfl⟩))
            go_ret
            exact ⟨ret_int (by rw [HR.out]), rfl⟩
          · have o1 : o = 1 := by rw [hod, gd]; rfl
            rw [gd] at hd1
            have HR : Hid (nameL s.data.toList sc = (k + 1) + tailL (s.data.toList.drop (k + 1)) sc) := by show _ = _; rw [HH.out, o1]; simp; omega
            clear hod HH g0
            go_wp2_with (first
              | (go_at_call 239; refine (hb1 _).mono ?_; rintro e W ⟨rfl, rfl⟩)
              | (go_at_call 215; refine (hd1 _).mono ?_; rintro e W ⟨rfl, rfl⟩))
            go_roundw
            case rel => exact ⟨k + 1, by simp, by omega, by omega, by simp, HR⟩
            case measure => simp [intOf]; omega
        · have o1 : o = begL (s.data.toList.drop k) sc := by rw [hod, if_pos g0]
          rw [← o1] at hb1 g0
          have gi : ((o : Int) == 0) = false := int_eqb (by omega)
          have HR : Hid (nameL s.data.toList sc = (k + o) + tailL (s.data.toList.drop (k + o)) sc) := by show _ = _; rw [HH.out, if_neg g0]; omega
          clear hod HH o1
          go_wp2_with (go_at_call 239; refine (hb1 _).mono ?_; rintro e W ⟨rfl, rfl⟩)
          go_roundw
          case rel => exact ⟨k + o, by simp, by omega, by omega, by simp, HR⟩
          case measure => simp [intOf]; omega
      · have hkl2 : ¬ (k : Int) < (s.size : Int) := by omega
        have HR : Hid (nameL s.data.toList sc = k) := by
          show _ = _
          rw [hh.out, drop_end s k hkl]
          rfl
        clear hh
        go_wp2
        go_ret
        exact ⟨ret_int (by rw [HR.out]), rfl⟩

/-- blanks and notes, step by step: at i. -/
theorem past_blank {l : Bs} {i : Nat} {c : UInt8} (hi : l[i]? = some c) (h : isBl c = true) : pastL (l.drop i) = ((pastL (l.drop (i + 1))).1 + 1, (pastL (l.drop (i + 1))).2) := by
  obtain ⟨hl, e⟩ := List.getElem?_eq_some_iff.1 hi
  rw [List.drop_eq_getElem_cons hl, pastL_cons, e, if_pos h]
theorem past_line {l : Bs} {i : Nat} (hi : l[i]? = some 47) (h2 : l[i + 1]? = some 47) : pastL (l.drop i) = ((pastL (l.drop (i + lineL (l.drop i)))).1 + lineL (l.drop i), (pastL (l.drop (i + lineL (l.drop i)))).2) := by
  obtain ⟨hl, e⟩ := List.getElem?_eq_some_iff.1 hi
  have hh : (l.drop (i + 1)).head? = some 47 := by rw [List.head?_drop]; exact h2
  have hll : lineL (l.drop i) = lineL (l.drop (i + 1)) + 1 := by
    rw [List.drop_eq_getElem_cons hl, e]
    simp [lineL]
  rw [hll]
  conv => lhs; rw [List.drop_eq_getElem_cons hl, pastL_cons, e]
  rw [if_neg (by decide), if_pos ⟨rfl, hh⟩, List.drop_drop]
  rw [show i + 1 + lineL (l.drop (i + 1)) = i + (lineL (l.drop (i + 1)) + 1) from by omega]
theorem past_note {l : Bs} {i : Nat} (hi : l[i]? = some 47) (h2 : l[i + 1]? = some 42) : pastL (l.drop i) = match noteL (l.drop (i + 2)) with
    | none => (0, false)
    | some k => ((pastL (l.drop (i + 2 + k))).1 + (k + 2), (pastL (l.drop (i + 2 + k))).2) := by
  obtain ⟨hl, e⟩ := List.getElem?_eq_some_iff.1 hi
  have hh : (l.drop (i + 1)).head? = some 42 := by rw [List.head?_drop]; exact h2
  have ht : (l.drop (i + 1)).tail = l.drop (i + 2) := by rw [List.tail_drop]
  conv => lhs; rw [List.drop_eq_getElem_cons hl, pastL_cons, e]
  rw [if_neg (by decide), if_neg (by rw [hh]; simp), if_pos ⟨rfl, hh⟩, ht]
  simp only [List.drop_drop] <;> cases noteL (l.drop (i + 2)) <;> rfl
theorem past_stop {l : Bs} {i : Nat} {c : UInt8} (hi : l[i]? = some c) (h : isBl c = false) (h1 : ¬ (c = 47 ∧ l[i + 1]? = some 47)) (h2 : ¬ (c = 47 ∧ l[i + 1]? = some 42)) : pastL (l.drop i) = (0, true) := by
  obtain ⟨hl, e⟩ := List.getElem?_eq_some_iff.1 hi
  rw [List.drop_eq_getElem_cons hl, pastL_cons, e, if_neg (by rw [h]; simp), List.head?_drop, if_neg h1, if_neg h2]

theorem lineL_go {l : Bs} {j : Nat} {c : UInt8} (hj : l[j]? = some c) (hc : c ≠ 10) : lineL (l.drop j) = lineL (l.drop (j + 1)) + 1 := by
  obtain ⟨hl, e⟩ := List.getElem?_eq_some_iff.1 hj
  rw [List.drop_eq_getElem_cons hl, e]
  simp [lineL, hc]
theorem lineL_end {l : Bs} {j : Nat} (h : l[j]? = some 10 ∨ l.length ≤ j) : lineL (l.drop j) = 0 := by
  rcases h with h | h
  · obtain ⟨hl, e⟩ := List.getElem?_eq_some_iff.1 h
    rw [List.drop_eq_getElem_cons hl, e]
    simp [lineL]
  · rw [List.drop_eq_nil_of_le h]; rfl
theorem noteL_go {l : Bs} {j : Nat} {c : UInt8} (hj : l[j]? = some c) (hc : ¬ (c = 42 ∧ l[j + 1]? = some 47)) : noteL (l.drop j) = (noteL (l.drop (j + 1))).map (· + 1) := by
  obtain ⟨hl, e⟩ := List.getElem?_eq_some_iff.1 hj
  rw [List.drop_eq_getElem_cons hl, e]
  simp only [noteL, List.head?_drop, if_neg hc]
theorem noteL_hit {l : Bs} {j : Nat} (hj : l[j]? = some 42) (hc : l[j + 1]? = some 47) : noteL (l.drop j) = some 2 := by
  obtain ⟨hl, e⟩ := List.getElem?_eq_some_iff.1 hj
  rw [List.drop_eq_getElem_cons hl, e]
  simp [noteL, List.head?_drop, hc]
theorem noteL_out {l : Bs} {j : Nat} (h : l.length ≤ j + 1) : noteL (l.drop j) = none := by
  cases hd : l.drop j with
  | nil => rfl
  | cons c r =>
    have : r = [] := by
      have h1 := congrArg List.length hd
      simp at h1
      exact List.eq_nil_of_length_eq_zero (by omega)
    subst this
    simp [noteL]

theorem byteO (s : ByteArray) (k : Nat) (h : k < s.size) : s.data.toList[k]? = some s[k] := by
  rw [Array.getElem?_toList]
  exact Array.getElem?_eq_getElem h
theorem u8_eq {c : UInt8} {n : Nat} (hn : n < 256) (h : ((c.toNat : Nat) : Int) = (n : Int)) : c = UInt8.ofNat n := by
  apply UInt8.toNat_inj.1
  rw [UInt8.toNat_ofNat']
  omega
theorem isBl_of (c : UInt8) : isBl c = (decide (((c.toNat : Nat) : Int) = 9) || decide (((c.toNat : Nat) : Int) = 10) || decide (((c.toNat : Nat) : Int) = 13) || decide (((c.toNat : Nat) : Int) = 32)) := by
  have h : ∀ k : Fin 256, isBl (UInt8.ofNat k.val) = (decide ((((UInt8.ofNat k.val).toNat : Nat) : Int) = 9) || decide ((((UInt8.ofNat k.val).toNat : Nat) : Int) = 10) || decide ((((UInt8.ofNat k.val).toNat : Nat) : Int) = 13) || decide ((((UInt8.ofNat k.val).toNat : Nat) : Int) = 32)) := by decide +kernel
  have := h ⟨c.toNat, c.toNat_lt⟩
  simpa using this

/-- texts as cells. -/
def textCells (l : List Bs) : List Value := l.map fun b => .string ⟨b.toArray⟩
theorem text_at {w : World} {base g n c : Nat} {l : List Bs} (h : w.ownsRow base 9 1 (.slice (some ⟨g, 0, none⟩) n c) n (textCells l)) {i : Nat} {q : Bs} (hi : l[i]? = some q) (hn : i < n) : w.cell? ⟨g, i, none⟩ = some (.string ⟨q.toArray⟩) := by
  rw [h.cellAt i (by omega)]
  simp [textCells, hi]

set_option maxRecDepth 100000 in
theorem words_any (w : World) : Calls Tryz.prog 240 #[] w fun e w' => e = .returned (.slice (some ⟨w.heap.size, 0, none⟩) 19 19) ∧ w'.ownsRow w.heap.size 9 1 (.slice (some ⟨w.heap.size, 0, none⟩) 19 19) 19 (textCells wordsL) ∧ Below w.heap.size w w' := by
  go_enter Tryz.func240, Tryz.ntmps240
  go_wp2
  go_ret
  exact ⟨rfl, World.ownsRow_lit w _ 19 (Nat.le_refl _) (by unfold maxLen; decide) rfl, (Below.refl _ w).alloc (Nat.le_refl _) _⟩
set_option maxRecDepth 100000 in
theorem signs_any (w : World) : Calls Tryz.prog 218 #[] w fun e w' => e = .returned (.slice (some ⟨w.heap.size, 0, none⟩) 28 28) ∧ w'.ownsRow w.heap.size 9 1 (.slice (some ⟨w.heap.size, 0, none⟩) 28 28) 28 (textCells signsL) ∧ Below w.heap.size w w' := by
  go_enter Tryz.func218, Tryz.ntmps218
  go_wp2
  go_ret
  exact ⟨rfl, World.ownsRow_lit w _ 28 (Nat.le_refl _) (by unfold maxLen; decide) rfl, (Below.refl _ w).alloc (Nat.le_refl _) _⟩

theorem eq_bytes (q : Bs) (s : ByteArray) : ((⟨q.toArray⟩ : ByteArray).toList == s.toList) = (q == s.data.toList) := by rw [Lib.toList_data, Lib.toList_data]

set_option maxHeartbeats 2000000 in
theorem word_any (s : ByteArray) (w : World) : Calls Tryz.prog 214 #[.string s] w fun e w' => e = .returned (.bool (wordB s.data.toList)) ∧ Below w.heap.size w w' := by
  have hl19 : wordsL.length = 19 := rfl
  go_enter Tryz.func214, Tryz.ntmps214
  go_wp2_with (go_at_call 240; refine (words_any _).mono ?_; rintro e W ⟨rfl, ho, hb⟩)
  go_loopw [4] (fun v4 W' => ∃ k : Nat, v4 = .int .i64 k ∧ k ≤ 19 ∧ W' = W ∧ Hid (∀ q ∈ wordsL.take k, q ≠ s.data.toList)) (fun v4 _ => 19 - (intOf v4).toNat)
  case atStart => exact ⟨0, rfl, by omega, rfl, by intro q hq; simp at hq⟩
  case round =>
    obtain ⟨k, rfl, hk, rfl, hh⟩ := hrel
    by_cases hkl : k < 19
    · have hk2 : (k : Int) < 19 := by omega
      obtain ⟨q, hq⟩ : ∃ q, wordsL[k]? = some q := ⟨_, List.getElem?_eq_getElem (by rw [hl19]; exact hkl)⟩
      have hc := text_at ho hq hkl
      have heq := eq_bytes q s
      have HQ : Hid (wordsL[k]? = some q) := hq
      clear hq
      generalize (⟨q.toArray⟩ : ByteArray) = Q at *
      cases he : (q == s.data.toList)
      · rw [he] at heq
        have hne : q ≠ s.data.toList := by simpa using he
        have hh2 : Hid (∀ x ∈ wordsL.take (k + 1), x ≠ s.data.toList) := by
          intro x hx
          rw [List.take_add_one, HQ.out] at hx
          rcases List.mem_append.1 hx with hx | hx
          · exact hh.out x hx
          · rw [show x = q from by simpa using hx]; exact hne
        clear hh he hne
        go_wp2
        go_roundw
        case rel => exact ⟨k + 1, by simp, by omega, by simp, hh2⟩
        case measure => simp [intOf]; omega
      · rw [he] at heq
        have hm : Hid (wordB s.data.toList = true) := by
          have h1 : q = s.data.toList := by simpa using he
          have h2 := List.mem_of_getElem? HQ.out
          rw [h1] at h2
          show wordsL.contains s.data.toList = _
          simpa using h2
        clear hh he
        go_wp2
        go_ret
        exact ⟨ret_bool hm.out.symm, hb⟩
    · have hk2 : ¬ (k : Int) < 19 := by omega
      have hm : Hid (wordB s.data.toList = false) := by
        have h1 := hh.out
        rw [List.take_of_length_le (by rw [hl19]; omega)] at h1
        show wordsL.contains s.data.toList = _
        have : s.data.toList ∉ wordsL := fun hm => h1 _ hm rfl
        simpa using this
      clear hh
      go_wp2
      go_ret
      exact ⟨ret_bool hm.out.symm, hb⟩

theorem digsL_at {l : Bs} {k : Nat} (hk : k ≤ l.length) (h1 : ∀ j, j < k → digC (atL l j) = true) (h2 : k = l.length ∨ digC (atL l k) = false) : digsL l = l.take k := by
  induction k generalizing l with
  | zero =>
    cases l with
    | nil => rfl
    | cons c r =>
      have : digC c.toNat = false := by
        rcases h2 with h | h
        · simp at h
        · simpa [atL] using h
      simp [digsL, this]
  | succ k ih =>
    cases l with
    | nil => simp at hk
    | cons c r =>
      have h0 : digC c.toNat = true := by simpa [atL] using h1 0 (by omega)
      have := ih (l := r) (by simpa using hk) (fun j hj => by simpa [atL] using h1 (j + 1) (by omega)) (by
        rcases h2 with h | h
        · exact .inl (by simpa using h)
        · exact .inr (by simpa [atL] using h))
      unfold digsL at this ⊢
      simp only [List.takeWhile_cons, h0, if_true, List.take_succ_cons, this]
theorem decN_succ (l : Bs) (k : Nat) (hk : k < l.length) : decN 0 (l.take (k + 1)) = 10 * decN 0 (l.take k) + (atL l k - 48) := by
  unfold decN atL
  rw [List.take_add_one, List.getElem?_eq_getElem hk, List.foldl_append]
  simp [List.getD, List.getElem?_eq_getElem hk]

def numbRes : Nx → Ending
  | .ok x => .returned (.tuple #[.int .i64 x.1.2.2, .int .i64 (x.2 : Nat), .int .i64 0])
  | .error e => .returned (.tuple #[.int .i64 0, .int .i64 0, .int .i64 (e : Nat)])

/-- a number so far. -/
def NumAt (l : Bs) (k : Nat) (n : Nat) (gr : Bool) : Prop := k ≤ l.length ∧ (∀ j, j < k → digC (atL l j) = true) ∧ n ≤ 9007199254740999 ∧ (gr = false → n = decN 0 (l.take k) ∧ n ≤ 9007199254740991) ∧ (gr = true → 9007199254740991 < decN 0 (l.take k))
theorem NumAt.big {l : Bs} {k n : Nat} {gr : Bool} (h : NumAt l k n gr) (hk : k < l.length) (hd : digC (atL l k) = true) (hn : 900719925474099 < n) : NumAt l (k + 1) n true := by
  obtain ⟨h1, h2, h3, h4, h5⟩ := h
  refine ⟨by omega, fun j hj => ?_, h3, fun h => (by cases h), fun _ => ?_⟩
  · by_cases e : j = k
    · subst e; exact hd
    · exact h2 j (by omega)
  · rw [decN_succ l k hk]
    cases gr
    · have := (h4 rfl).1; omega
    · have := h5 rfl; omega
theorem NumAt.go {l : Bs} {k n : Nat} {gr : Bool} (h : NumAt l k n gr) (hk : k < l.length) (hd : digC (atL l k) = true) (hn : ¬ 900719925474099 < n) : NumAt l (k + 1) (10 * n + (atL l k - 48)) (gr || decide (9007199254740991 < 10 * n + (atL l k - 48))) := by
  obtain ⟨h1, h2, h3, h4, h5⟩ := h
  have hd9 : atL l k - 48 ≤ 9 := by unfold digC at hd; simp at hd; omega
  refine ⟨by omega, fun j hj => ?_, by omega, fun h => ?_, fun h => ?_⟩
  · by_cases e : j = k
    · subst e; exact hd
    · exact h2 j (by omega)
  · simp at h
    rw [decN_succ l k hk, ← (h4 h.1).1]
    exact ⟨rfl, by omega⟩
  · rw [decN_succ l k hk]
    cases gr
    · simp at h
      rw [← (h4 rfl).1]
      omega
    · have := h5 rfl; omega

set_option maxHeartbeats 4000000 in
set_option maxRecDepth 100000 in
theorem number_any4 (s : ByteArray) (sc : Bool) (w : World) (hs : s.size ≤ 140737488355328) : Calls Tryz.prog 216 #[.string s, .bool sc] w fun e w' => e = numbRes (numbL s.data.toList sc) ∧ w' = w := by
  have hsl : Hid (s.size = s.data.toList.length) := Lib.size_eq s
  go_enter Tryz.func216, Tryz.ntmps216
  go_wp2
  go_loopw [7, 8, 9] (fun v7 v8 v9 W => ∃ (k n : Nat) (gr : Bool), v7 = .int .i64 k ∧ v8 = .int .i64 n ∧ v9 = .bool gr ∧ k ≤ s.size ∧ n ≤ 9007199254740999 ∧ W = w ∧ Hid (NumAt s.data.toList k n gr)) (fun v7 _ _ _ => s.size - (intOf v7).toNat)
  case atStart => exact ⟨0, 0, false, rfl, rfl, rfl, Nat.zero_le _, by omega, rfl, by omega, fun j hj => by omega, by omega, fun _ => ⟨rfl, by omega⟩, fun h => by cases h⟩
  case round =>
    obtain ⟨k, n, gr, rfl, rfl, rfl, hk, hn, rfl, hh⟩ := hrel
    by_cases hkd : k < s.size ∧ digC (atL s.data.toList k) = true
    · obtain ⟨hkl, hd⟩ := hkd
      have hkl2 : (k : Int) < (s.size : Int) := by omega
      have hby := byteI s k hkl
      have hd1 := fun W => rdigit_any (atL s.data.toList k) W
      rw [hd] at hd1
      have hdd : 48 ≤ atL s.data.toList k ∧ atL s.data.toList k ≤ 57 := by unfold digC at hd; simpa using hd
      by_cases hbig : 900719925474099 < n
      · have hb2 : (900719925474099 : Int) < (n : Int) := by omega
        have HR : Hid (NumAt s.data.toList (k + 1) n true) := hh.out.big (by rw [← hsl.out]; exact hkl) hd hbig
        clear hh hd
        generalize atL s.data.toList k = c at *
        go_wp2_with (go_at_call 215; refine (hd1 _).mono ?_; rintro e W ⟨rfl, rfl⟩)
        go_roundw
        case rel => exact ⟨k + 1, n, true, by simp, rfl, rfl, by omega, hn, by simp, HR⟩
        case measure => simp [intOf]; omega
      · have hb2 : ¬ (900719925474099 : Int) < (n : Int) := by omega
        have HR : Hid (NumAt s.data.toList (k + 1) (10 * n + (atL s.data.toList k - 48)) (gr || decide (9007199254740991 < 10 * n + (atL s.data.toList k - 48)))) := hh.out.go (by rw [← hsl.out]; exact hkl) hd hbig
        clear hh hd
        generalize atL s.data.toList k = c at *
        go_wp2_with (go_at_call 215; refine (hd1 _).mono ?_; rintro e W ⟨rfl, rfl⟩)
        · have hg : gr = true := by assumption
          rw [hg] at HR
          go_roundw
          case rel => exact ⟨k + 1, 10 * n + (c - 48), true, by simp, by congr 1; omega, rfl, by omega, by omega, by simp, HR⟩
          case measure => simp [intOf]; omega
        · have hg : ¬ gr = true := by assumption
          have hg2 : gr = false := by simpa using hg
          rw [hg2] at HR
          go_roundw
          case rel =>
            refine ⟨k + 1, 10 * n + (c - 48), _, by simp, by congr 1; omega, rfl, by omega, by omega, by simp, ?_⟩
            have e : decide ((9007199254740991 : Int) < 10 * (n : Int) + ((c : Int) - 48)) = decide (9007199254740991 < 10 * n + (c - 48)) := by
              rw [Bool.eq_iff_iff]
              simp
              omega
            rw [e]
            exact HR
          case measure => simp [intOf]; omega
    · have hend : digsL s.data.toList = s.data.toList.take k := digsL_at hh.out.1 hh.out.2.1 (by
        by_cases hkl : k < s.size
        · exact .inr (by simpa using fun h => hkd ⟨hkl, h⟩)
        · exact .inl (by rw [← hsl.out]; omega))
      have hdl : (digsL s.data.toList).length = k := by
        rw [hend, List.length_take, ← hsl.out]; omega
      have HV : Hid ((gr = false → n = decN 0 (digsL s.data.toList) ∧ n ≤ 9007199254740991) ∧ (gr = true → 9007199254740991 < decN 0 (digsL s.data.toList))) := by
        rw [hend]; exact ⟨hh.out.2.2.2.1, hh.out.2.2.2.2⟩
      have HL : Hid (numbL s.data.toList sc = if (1 < k ∧ atL s.data.toList 0 = 48) ∨ 0 < begL (s.data.toList.drop k) sc then .error 40 else if 9007199254740991 < decN 0 (digsL s.data.toList) then .error 41 else .ok ((3, [], (decN 0 (digsL s.data.toList) : Int)), k)) := by
        show _ = _
        unfold numbL
        rw [hdl]
      clear hend hdl hh
      have hsr := drop_run s k hk
      have hxl : (s.extract k s.size).data.toList = s.data.toList.drop k := drop_extract s k
      have hb1 := fun W => begins_any (s.extract k s.size) sc W (by unfold maxLen; rw [Lib.size_eq, hxl, List.length_drop, ← Lib.size_eq]; omega)
      rw [hxl] at hb1
      generalize s.extract k s.size = X at *
      have hd1 := fun W => rdigit_any (atL s.data.toList k) W
      have hex : (((k : Int) < (s.size : Int)) ∧ digC (atL s.data.toList k) = false ∧ ∀ h : k < s.size, ((s[k].toNat : Nat) : Int) = ((atL s.data.toList k : Nat) : Int)) ∨ ¬ (k : Int) < (s.size : Int) := by
        by_cases hkl : k < s.size
        · exact .inl ⟨by omega, by simpa using fun h => hkd ⟨hkl, h⟩, fun h => byteI s k h⟩
        · exact .inr (by omega)
      clear hkd
      have hcase : ((1 : Int) < (k : Int) ∧ atL s.data.toList 0 = 48) ∨ ((1 : Int) < (k : Int) ∧ atL s.data.toList 0 ≠ 48) ∨ ¬ (1 : Int) < (k : Int) := by
        by_cases h1 : (1 : Int) < (k : Int)
        · by_cases h2 : atL s.data.toList 0 = 48
          · exact .inl ⟨h1, h2⟩
          · exact .inr (.inl ⟨h1, h2⟩)
        · exact .inr (.inr h1)
      generalize begL (s.data.toList.drop k) sc = bg at *
      rcases hcase with ⟨hk1, h48⟩ | hno
      · have HR : Hid (numbL s.data.toList sc = .error 40) := by
          show _ = _
          rw [HL.out, if_pos (.inl ⟨by omega, h48⟩)]
        have hy0 := byteI s 0 (by omega)
        rw [h48] at hy0
        clear HL HV
        rcases hex with ⟨x1, x2, x3⟩ | x1
        · have x4 := x3 (by omega)
          rw [x2] at hd1
          clear x2 x3
          generalize atL s.data.toList k = c at *
          go_wp2_with (go_at_call 215; refine (hd1 _).mono ?_; rintro e W ⟨rfl, rfl⟩)
          go_ret3
          exact ⟨by rw [HR.out]; rfl, rfl⟩
        · go_wp2
          go_ret3
          exact ⟨by rw [HR.out]; rfl, rfl⟩
      · have hn1 : ¬ (1 < k ∧ atL s.data.toList 0 = 48) := fun h => by
          rcases hno with ⟨_, h2⟩ | h2
          · exact h2 h.2
          · omega
        have hz : ((1 : Int) < (k : Int) ∧ ∀ h : 0 < s.size, (((s[0].toNat : Nat) : Int) == 48) = false) ∨ ¬ (1 : Int) < (k : Int) := by
          rcases hno with ⟨h1, h2⟩ | h2
          · exact .inl ⟨h1, fun h => int_eqb (by rw [byteI s 0 h]; omega)⟩
          · exact .inr h2
        clear hno
        by_cases hbg : 0 < bg
        · have hbg2 : (0 : Int) < (bg : Int) := by omega
          have HR : Hid (numbL s.data.toList sc = .error 40) := by
            show _ = _
            rw [HL.out, if_pos (.inr hbg)]
          clear HL HV
          rcases hz with ⟨z1, z2⟩ | z1
          · have z3 := z2 (by omega)
            clear z2
            rcases hex with ⟨x1, x2, x3⟩ | x1
            · have x4 := x3 (by omega)
              rw [x2] at hd1
              clear x2 x3
              generalize atL s.data.toList k = c at *
              go_wp2_with (first
                | (go_at_call 215; refine (hd1 _).mono ?_; rintro e W ⟨rfl, rfl⟩)
                | (go_at_call 239; refine (hb1 _).mono ?_; rintro e W ⟨rfl, rfl⟩))
              go_ret3
              exact ⟨by rw [HR.out]; rfl, rfl⟩
            · go_wp2_with (go_at_call 239; refine (hb1 _).mono ?_; rintro e W ⟨rfl, rfl⟩)
              go_ret3
              exact ⟨by rw [HR.out]; rfl, rfl⟩
          · rcases hex with ⟨x1, x2, x3⟩ | x1
            · have x4 := x3 (by omega)
              rw [x2] at hd1
              clear x2 x3
              generalize atL s.data.toList k = c at *
              go_wp2_with (first
                | (go_at_call 215; refine (hd1 _).mono ?_; rintro e W ⟨rfl, rfl⟩)
                | (go_at_call 239; refine (hb1 _).mono ?_; rintro e W ⟨rfl, rfl⟩))
              go_ret3
              exact ⟨by rw [HR.out]; rfl, rfl⟩
            · go_wp2_with (go_at_call 239; refine (hb1 _).mono ?_; rintro e W ⟨rfl, rfl⟩)
              go_ret3
              exact ⟨by rw [HR.out]; rfl, rfl⟩
        · have hbg0 : bg = 0 := by omega
          subst hbg0
          have HR : Hid (numbRes (numbL s.data.toList sc) = if gr then .returned (.tuple #[.int .i64 0, .int .i64 0, .int .i64 41]) else .returned (.tuple #[.int .i64 (n : Int), .int .i64 (k : Int), .int .i64 0])) := by
            show _ = _
            rw [HL.out, if_neg (fun h => h.elim hn1 (by omega))]
            cases gr
            · have := HV.out.1 rfl
              rw [if_neg (by omega), ← this.1]
              rfl
            · rw [if_pos (HV.out.2 rfl)]
              rfl
          clear HL HV hn1
          cases gr
          all_goals
            rcases hz with ⟨z1, z2⟩ | z1
            · have z3 := z2 (by omega)
              clear z2
              rcases hex with ⟨x1, x2, x3⟩ | x1
              · have x4 := x3 (by omega)
                rw [x2] at hd1
                clear x2 x3
                generalize atL s.data.toList k = c at *
                go_wp2_with (first
                  | (go_at_call 215; refine (hd1 _).mono ?_; rintro e W ⟨rfl, rfl⟩)
                  | (go_at_call 239; refine (hb1 _).mono ?_; rintro e W ⟨rfl, rfl⟩))
                go_ret3
                exact ⟨by rw [HR.out]; rfl, rfl⟩
              · go_wp2_with (go_at_call 239; refine (hb1 _).mono ?_; rintro e W ⟨rfl, rfl⟩)
                go_ret3
                exact ⟨by rw [HR.out]; rfl, rfl⟩
            · rcases hex with ⟨x1, x2, x3⟩ | x1
              · have x4 := x3 (by omega)
                rw [x2] at hd1
                clear x2 x3
                generalize atL s.data.toList k = c at *
                go_wp2_with (first
                  | (go_at_call 215; refine (hd1 _).mono ?_; rintro e W ⟨rfl, rfl⟩)
                  | (go_at_call 239; refine (hb1 _).mono ?_; rintro e W ⟨rfl, rfl⟩))
                go_ret3
                exact ⟨by rw [HR.out]; rfl, rfl⟩
              · go_wp2_with (go_at_call 239; refine (hb1 _).mono ?_; rintro e W ⟨rfl, rfl⟩)
                go_ret3
                exact ⟨by rw [HR.out]; rfl, rfl⟩

end Go.Proofs.YtpnljjcdlkjfhaaGreatDoor
