/- Own text. The document's reader of names, and of blanks and notes. -/
import Derived.Test.YtaiefheejgfefabDoorXA
import Derived.WalkSmall
namespace Go.Proofs.YtaiefheejgfefabDoor
open Go.RowKit
set_option linter.unusedVariables false

theorem drop_run (s : ByteArray) (n : Nat) (h : n ≤ s.size) (W : World) : (Instr.slice 9 (.string s) (some (.int .i64 (n : Int))) none none).run Tryd.prog W = .ok (.string (s.extract n s.size)) W := by
  have h1 : (n : Int) ≤ (s.size : Int) := by omega
  go_simp
theorem atL_drop (l : Bs) (n k : Nat) : atL (l.drop n) k = atL l (n + k) := by
  unfold atL
  rw [List.getD_eq_getElem?_getD, List.getElem?_drop, ← List.getD_eq_getElem?_getD]

/-- blanks and notes, step by step: at i. -/
theorem past_blank {l : Bs} {i : Nat} {c : UInt8} (hi : l[i]? = some c) (h : isBl c = true) : pastL (l.drop i) = ((pastL (l.drop (i + 1))).1 + 1, (pastL (l.drop (i + 1))).2) := by
  obtain ⟨hl, e⟩ := List.getElem?_eq_some_iff.1 hi
  rw [List.drop_eq_getElem_cons hl, pastL_cons, e, if_pos h]
theorem past_line {l : Bs} {i : Nat} (hi : l[i]? = some 47) (h2 : l[i + 1]? = some 47) : pastL (l.drop i) = ((pastL (l.drop (i + lineL (l.drop i)))).1 + lineL (l.drop i), (pastL (l.drop (i + lineL (l.drop i)))).2) := by
  obtain ⟨hl, e⟩ := List.getElem?_eq_some_iff.1 hi
  have hh : (l.drop (i + 1)).head? = some 47 := by rw [List.head?_drop]; exact h2
  have hll : lineL (l.drop i) = lineL (l.drop (i + 1)) + 1 := by
    rw [List.drop_eq_getElem_cons hl, e]
    simp [lineL]
  rw [hll]
  conv => lhs; rw [List.drop_eq_getElem_cons hl, pastL_cons, e]
  rw [if_neg (by decide), if_pos ⟨rfl, hh⟩, List.drop_drop]
  rw [show i + 1 + lineL (l.drop (i + 1)) = i + (lineL (l.drop (i + 1)) + 1) from by omega]
theorem past_note {l : Bs} {i : Nat} (hi : l[i]? = some 47) (h2 : l[i + 1]? = some 42) : pastL (l.drop i) = match noteL (l.drop (i + 2)) with
    | none => (0, false)
    | some k => ((pastL (l.drop (i + 2 + k))).1 + (k + 2), (pastL (l.drop (i + 2 + k))).2) := by
  obtain ⟨hl, e⟩ := List.getElem?_eq_some_iff.1 hi
  have hh : (l.drop (i + 1)).head? = some 42 := by rw [List.head?_drop]; exact h2
  have ht : (l.drop (i + 1)).tail = l.drop (i + 2) := by rw [List.tail_drop]
  conv => lhs; rw [List.drop_eq_getElem_cons hl, pastL_cons, e]
  rw [if_neg (by decide), if_neg (by rw [hh]; simp), if_pos ⟨rfl, hh⟩, ht]
  simp only [List.drop_drop]
  cases noteL (l.drop (i + 2)) <;> rfl
theorem past_stop {l : Bs} {i : Nat} {c : UInt8} (hi : l[i]? = some c) (h : isBl c = false) (h1 : ¬ (c = 47 ∧ l[i + 1]? = some 47)) (h2 : ¬ (c = 47 ∧ l[i + 1]? = some 42)) : pastL (l.drop i) = (0, true) := by
  obtain ⟨hl, e⟩ := List.getElem?_eq_some_iff.1 hi
  rw [List.drop_eq_getElem_cons hl, pastL_cons, e, if_neg (by rw [h]; simp), List.head?_drop, if_neg h1, if_neg h2]

theorem lineL_go {l : Bs} {j : Nat} {c : UInt8} (hj : l[j]? = some c) (hc : c ≠ 10) : lineL (l.drop j) = lineL (l.drop (j + 1)) + 1 := by
  obtain ⟨hl, e⟩ := List.getElem?_eq_some_iff.1 hj
  rw [List.drop_eq_getElem_cons hl, e]
  simp [lineL, hc]
theorem lineL_end {l : Bs} {j : Nat} (h : l[j]? = some 10 ∨ l.length ≤ j) : lineL (l.drop j) = 0 := by
  rcases h with h | h
  · obtain ⟨hl, e⟩ := List.getElem?_eq_some_iff.1 h
    rw [List.drop_eq_getElem_cons hl, e]
    simp [lineL]
  · rw [List.drop_eq_nil_of_le h]; rfl
theorem noteL_go {l : Bs} {j : Nat} {c : UInt8} (hj : l[j]? = some c) (hc : ¬ (c = 42 ∧ l[j + 1]? = some 47)) : noteL (l.drop j) = (noteL (l.drop (j + 1))).map (· + 1) := by
  obtain ⟨hl, e⟩ := List.getElem?_eq_some_iff.1 hj
  rw [List.drop_eq_getElem_cons hl, e]
  simp only [noteL, List.head?_drop, if_neg hc]
theorem noteL_hit {l : Bs} {j : Nat} (hj : l[j]? = some 42) (hc : l[j + 1]? = some 47) : noteL (l.drop j) = some 2 := by
  obtain ⟨hl, e⟩ := List.getElem?_eq_some_iff.1 hj
  rw [List.drop_eq_getElem_cons hl, e]
  simp [noteL, List.head?_drop, hc]
theorem noteL_out {l : Bs} {j : Nat} (h : l.length ≤ j + 1) : noteL (l.drop j) = none := by
  cases hd : l.drop j with
  | nil => rfl
  | cons c r =>
    have : r = [] := by
      have h1 := congrArg List.length hd
      simp at h1
      exact List.eq_nil_of_length_eq_zero (by omega)
    subst this
    simp [noteL]

theorem byteO (s : ByteArray) (k : Nat) (h : k < s.size) : s.data.toList[k]? = some s[k] := by
  rw [Array.getElem?_toList]
  exact Array.getElem?_eq_getElem h
theorem u8_eq {c : UInt8} {n : Nat} (hn : n < 256) (h : ((c.toNat : Nat) : Int) = (n : Int)) : c = UInt8.ofNat n := by
  apply UInt8.toNat_inj.1
  rw [UInt8.toNat_ofNat']
  omega
theorem isBl_of (c : UInt8) : isBl c = (decide (((c.toNat : Nat) : Int) = 9) || decide (((c.toNat : Nat) : Int) = 10) || decide (((c.toNat : Nat) : Int) = 13) || decide (((c.toNat : Nat) : Int) = 32)) := by
  have h : ∀ k : Fin 256, isBl (UInt8.ofNat k.val) = (decide ((((UInt8.ofNat k.val).toNat : Nat) : Int) = 9) || decide ((((UInt8.ofNat k.val).toNat : Nat) : Int) = 10) || decide ((((UInt8.ofNat k.val).toNat : Nat) : Int) = 13) || decide ((((UInt8.ofNat k.val).toNat : Nat) : Int) = 32)) := by decide +kernel
  have := h ⟨c.toNat, c.toNat_lt⟩
  simpa using this

end Go.Proofs.YtaiefheejgfefabDoor
