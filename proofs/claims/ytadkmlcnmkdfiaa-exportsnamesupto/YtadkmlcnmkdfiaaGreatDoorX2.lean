/- Own text. The document's reader of names, and of blanks and notes. -/
import Derived.Test.YtadkmlcnmkdfiaaGreatDoorXA
import Derived.WalkSmall
namespace Go.Proofs.YtadkmlcnmkdfiaaGreatDoor
open Go.RowKit
set_option linter.unusedVariables false

theorem drop_run (s : ByteArray) (n : Nat) (h : n ≤ s.size) (W : World) : (Instr.slice 9 (.string s) (some (.int .i64 (n : Int))) none none).run Tryz.prog W = .ok (.string (s.extract n s.size)) W := by
  have h1 : (n : Int) ≤ (s.size : Int) := by omega
  go_simp
theorem atL_drop (l : Bs) (n k : Nat) : atL (l.drop n) k = atL l (n + k) := by
  unfold atL
  rw [List.getD_eq_getElem?_getD, List.getElem?_drop, ← List.getD_eq_getElem?_getD]

set_option maxHeartbeats 2000000 in
theorem name_any (s : ByteArray) (sc : Bool) (w : World) (hs : s.size ≤ 140737488355328) : Calls Tryz.prog 97 #[.string s, .bool sc] w fun e w' => e = .returned (.int .i64 (nameL s.data.toList sc : Nat)) ∧ w' = w := by
  have hm : s.size ≤ maxLen := by unfold maxLen; omega
  have hb0 := fun W => begins_any s sc W hm
  by_cases h0 : begL s.data.toList sc = 0
  · have HN : Hid (nameL s.data.toList sc = 0) := by show _ = _; unfold nameL; rw [if_pos h0]
    rw [h0] at hb0
    clear h0
    go_enter Tryz.func97, Tryz.ntmps97
    go_wp2_with (go_at_call 139; refine (hb0 _).mono ?_; rintro e W ⟨rfl, rfl⟩)
    go_ret
    exact ⟨by rw [HN.out]; rfl, rfl⟩
  · have hbl := begL_le s.data.toList sc
    rw [← Lib.size_eq] at hbl
    have HN : Hid (nameL s.data.toList sc = begL s.data.toList sc + tailL (s.data.toList.drop (begL s.data.toList sc)) sc) := by show _ = _; unfold nameL; rw [if_neg h0]
    obtain ⟨b, hb⟩ : ∃ b, b = begL s.data.toList sc := ⟨_, rfl⟩
    rw [← hb] at hb0 h0 hbl HN
    clear hb
    have hbi : ((b : Int) == 0) = false := int_eqb (by omega)
    go_enter Tryz.func97, Tryz.ntmps97
    go_wp2_with (go_at_call 139; refine (hb0 _).mono ?_; rintro e W ⟨rfl, rfl⟩)
    go_loopw [5] (fun v5 W' => ∃ k : Nat, v5 = .int .i64 k ∧ b ≤ k ∧ k ≤ s.size ∧ W' = W ∧ Hid (nameL s.data.toList sc = k + tailL (s.data.toList.drop k) sc)) (fun v5 _ => s.size - (intOf v5).toNat)
    case atStart => exact ⟨b, rfl, Nat.le_refl _, hbl, rfl, HN⟩
    case round =>
      obtain ⟨k, rfl, hbk, hk, rfl, hh⟩ := hrel
      by_cases hkl : k < s.size
      · have hkl2 : (k : Int) < (s.size : Int) := by omega
        have hsl := drop_run s k (by omega)
        have hxl : (s.extract k s.size).data.toList = s.data.toList.drop k := drop_extract s k
        have hxs : (s.extract k s.size).size ≤ maxLen := by rw [Lib.size_eq, hxl, List.length_drop, ← Lib.size_eq]; omega
        have hby := byteI s k hkl
        have hat : atL s.data.toList k = atL (s.data.toList.drop k) 0 := by rw [atL_drop]; rfl
        rw [hat] at hby
        have hne : s.data.toList.drop k ≠ [] := drop_ne s k hkl
        have hon := onL_le (s.data.toList.drop k) sc
        rw [List.length_drop, ← Lib.size_eq] at hon
        have hte := tailL_eq (s.data.toList.drop k) sc
        have hb1 := fun W => begins_any (s.extract k s.size) sc W hxs
        rw [hxl] at hb1
        have hod : onL (s.data.toList.drop k) sc = if begL (s.data.toList.drop k) sc ≠ 0 then begL (s.data.toList.drop k) sc else if digC (atL (s.data.toList.drop k) 0) = true then 1 else 0 := by
          unfold onL
          simp [hne]
        have hd1 := fun W => rdigit_any (atL (s.data.toList.drop k) 0) W
        obtain ⟨o, ho⟩ : ∃ o, o = onL (s.data.toList.drop k) sc := ⟨_, rfl⟩
        have HH : Hid (nameL s.data.toList sc = k + (if o = 0 then 0 else o + tailL (s.data.toList.drop (k + o)) sc)) := by
          show _ = _
          rw [hh.out, hte, ← ho, List.drop_drop]
        rw [← ho] at hod hon
        clear hte hh ho hat hne hxl hxs
        generalize atL (s.data.toList.drop k) 0 = c at *
        generalize s.extract k s.size = X at *
        by_cases g0 : begL (s.data.toList.drop k) sc = 0
        · rw [g0] at hb1 hod
          cases gd : digC c
          · have o0 : o = 0 := by rw [hod, gd]; rfl
            rw [gd] at hd1
            have HR : Hid (nameL s.data.toList sc = k) := by show _ = _; rw [HH.out, if_pos o0]; rfl
            clear hod HH g0
            go_wp2_with (first
              | (go_at_call 139; refine (hb1 _).mono ?_; rintro e W ⟨rfl, rfl⟩)
              | (go_at_call 99; refine (hd1 _).mono ?_; rintro e W ⟨rfl, rfl⟩))
            go_ret
            exact ⟨ret_int (by rw [HR.out]), rfl⟩
          · have o1 : o = 1 := by rw [hod, gd]; rfl
            rw [gd] at hd1
            have HR : Hid (nameL s.data.toList sc = (k + 1) + tailL (s.data.toList.drop (k + 1)) sc) := by show _ = _; rw [HH.out, o1]; simp; omega
            clear hod HH g0
            go_wp2_with (first
              | (go_at_call 139; refine (hb1 _).mono ?_; rintro e W ⟨rfl, rfl⟩)
              | (go_at_call 99; refine (hd1 _).mono ?_; rintro e W ⟨rfl, rfl⟩))
            go_roundw
            case rel => exact ⟨k + 1, by simp, by omega, by omega, by simp, HR⟩
            case measure => simp [intOf]; omega
        · have o1 : o = begL (s.data.toList.drop k) sc := by rw [hod, if_pos g0]
          rw [← o1] at hb1 g0
          have gi : ((o : Int) == 0) = false := int_eqb (by omega)
          have HR : Hid (nameL s.data.toList sc = (k + o) + tailL (s.data.toList.drop (k + o)) sc) := by show _ = _; rw [HH.out, if_neg g0]; omega
          clear hod HH o1
          go_wp2_with (go_at_call 139; refine (hb1 _).mono ?_; rintro e W ⟨rfl, rfl⟩)
          go_roundw
          case rel => exact ⟨k + o, by simp, by omega, by omega, by simp, HR⟩
          case measure => simp [intOf]; omega
      · have hkl2 : ¬ (k : Int) < (s.size : Int) := by omega
        have HR : Hid (nameL s.data.toList sc = k) := by
          show _ = _
          rw [hh.out, drop_end s k hkl]
          rfl
        clear hh
        go_wp2
        go_ret
        exact ⟨ret_int (by rw [HR.out]), rfl⟩

/-- blanks and notes, step by step: at i. -/
theorem past_blank {l : Bs} {i : Nat} {c : UInt8} (hi : l[i]? = some c) (h : isBl c = true) : pastL (l.drop i) = ((pastL (l.drop (i + 1))).1 + 1, (pastL (l.drop (i + 1))).2) := by
  obtain ⟨hl, e⟩ := List.getElem?_eq_some_iff.1 hi
  rw [List.drop_eq_getElem_cons hl, pastL_cons, e, if_pos h]
theorem past_line {l : Bs} {i : Nat} (hi : l[i]? = some 47) (h2 : l[i + 1]? = some 47) : pastL (l.drop i) = ((pastL (l.drop (i + lineL (l.drop i)))).1 + lineL (l.drop i), (pastL (l.drop (i + lineL (l.drop i)))).2) := by
  obtain ⟨hl, e⟩ := List.getElem?_eq_some_iff.1 hi
  have hh : (l.drop (i + 1)).head? = some 47 := by rw [List.head?_drop]; exact h2
  have hll : lineL (l.drop i) = lineL (l.drop (i + 1)) + 1 := by
    rw [List.drop_eq_getElem_cons hl, e]
    simp [lineL]
  rw [hll]
  conv => lhs; rw [List.drop_eq_getElem_cons hl, pastL_cons, e]
  rw [if_neg (by decide), if_pos ⟨rfl, hh⟩, List.drop_drop]
  rw [show i + 1 + lineL (l.drop (i + 1)) = i + (lineL (l.drop (i + 1)) + 1) from by omega]
theorem past_note {l : Bs} {i : Nat} (hi : l[i]? = some 47) (h2 : l[i + 1]? = some 42) : pastL (l.drop i) = match noteL (l.drop (i + 2)) with
    | none => (0, false)
    | some k => ((pastL (l.drop (i + 2 + k))).1 + (k + 2), (pastL (l.drop (i + 2 + k))).2) := by
  obtain ⟨hl, e⟩ := List.getElem?_eq_some_iff.1 hi
  have hh : (l.drop (i + 1)).head? = some 42 := by rw [List.head?_drop]; exact h2
  have ht : (l.drop (i + 1)).tail = l.drop (i + 2) := by rw [List.tail_drop]
  conv => lhs; rw [List.drop_eq_getElem_cons hl, pastL_cons, e]
  rw [if_neg (by decide), if_neg (by rw [hh]; simp), if_pos ⟨rfl, hh⟩, ht]
  simp only [List.drop_drop] <;> cases noteL (l.drop (i + 2)) <;> rfl
theorem past_stop {l : Bs} {i : Nat} {c : UInt8} (hi : l[i]? = some c) (h : isBl c = false) (h1 : ¬ (c = 47 ∧ l[i + 1]? = some 47)) (h2 : ¬ (c = 47 ∧ l[i + 1]? = some 42)) : pastL (l.drop i) = (0, true) := by
  obtain ⟨hl, e⟩ := List.getElem?_eq_some_iff.1 hi
  rw [List.drop_eq_getElem_cons hl, pastL_cons, e, if_neg (by rw [h]; simp), List.head?_drop, if_neg h1, if_neg h2]

theorem lineL_go {l : Bs} {j : Nat} {c : UInt8} (hj : l[j]? = some c) (hc : c ≠ 10) : lineL (l.drop j) = lineL (l.drop (j + 1)) + 1 := by
  obtain ⟨hl, e⟩ := List.getElem?_eq_some_iff.1 hj
  rw [List.drop_eq_getElem_cons hl, e]
  simp [lineL, hc]
theorem lineL_end {l : Bs} {j : Nat} (h : l[j]? = some 10 ∨ l.length ≤ j) : lineL (l.drop j) = 0 := by
  rcases h with h | h
  · obtain ⟨hl, e⟩ := List.getElem?_eq_some_iff.1 h
    rw [List.drop_eq_getElem_cons hl, e]
    simp [lineL]
  · rw [List.drop_eq_nil_of_le h]; rfl
theorem noteL_go {l : Bs} {j : Nat} {c : UInt8} (hj : l[j]? = some c) (hc : ¬ (c = 42 ∧ l[j + 1]? = some 47)) : noteL (l.drop j) = (noteL (l.drop (j + 1))).map (· + 1) := by
  obtain ⟨hl, e⟩ := List.getElem?_eq_some_iff.1 hj
  rw [List.drop_eq_getElem_cons hl, e]
  simp only [noteL, List.head?_drop, if_neg hc]
theorem noteL_hit {l : Bs} {j : Nat} (hj : l[j]? = some 42) (hc : l[j + 1]? = some 47) : noteL (l.drop j) = some 2 := by
  obtain ⟨hl, e⟩ := List.getElem?_eq_some_iff.1 hj
  rw [List.drop_eq_getElem_cons hl, e]
  simp [noteL, List.head?_drop, hc]
theorem noteL_out {l : Bs} {j : Nat} (h : l.length ≤ j + 1) : noteL (l.drop j) = none := by
  cases hd : l.drop j with
  | nil => rfl
  | cons c r =>
    have : r = [] := by
      have h1 := congrArg List.length hd
      simp at h1
      exact List.eq_nil_of_length_eq_zero (by omega)
    subst this
    simp [noteL]

theorem byteO (s : ByteArray) (k : Nat) (h : k < s.size) : s.data.toList[k]? = some s[k] := by
  rw [Array.getElem?_toList]
  exact Array.getElem?_eq_getElem h
theorem u8_eq {c : UInt8} {n : Nat} (hn : n < 256) (h : ((c.toNat : Nat) : Int) = (n : Int)) : c = UInt8.ofNat n := by
  apply UInt8.toNat_inj.1
  rw [UInt8.toNat_ofNat']
  omega
theorem isBl_of (c : UInt8) : isBl c = (decide (((c.toNat : Nat) : Int) = 9) || decide (((c.toNat : Nat) : Int) = 10) || decide (((c.toNat : Nat) : Int) = 13) || decide (((c.toNat : Nat) : Int) = 32)) := by
  have h : ∀ k : Fin 256, isBl (UInt8.ofNat k.val) = (decide ((((UInt8.ofNat k.val).toNat : Nat) : Int) = 9) || decide ((((UInt8.ofNat k.val).toNat : Nat) : Int) = 10) || decide ((((UInt8.ofNat k.val).toNat : Nat) : Int) = 13) || decide ((((UInt8.ofNat k.val).toNat : Nat) : Int) = 32)) := by decide +kernel
  have := h ⟨c.toNat, c.toNat_lt⟩
  simpa using this

end Go.Proofs.YtadkmlcnmkdfiaaGreatDoor
