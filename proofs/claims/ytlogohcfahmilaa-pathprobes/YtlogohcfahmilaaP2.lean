/- Own text. Calls of Go's strings as the program makes them: a cut at the first slash, the last slash, a copy; Dir. -/
import Derived.Test.YtlogohcfahmilaaP1
import Derived.Test.YtlogohcfahmilaaShelf
import Derived.Lib.IndexLaws
import Derived.Laws.Rows
import Derived.Below
namespace Go.Proofs.Ytlogohcfahmilaa
open Go.RowKit
set_option linter.unusedVariables false

theorem ret_str {a b : ByteArray} (h : a = b) : Ending.returned (.string a) = .returned (.string b) := by rw [h]

theorem clone_any (s : ByteArray) (w : World) (hs : s.size ≤ 281474976710656) : Calls Try.prog 22 #[.string s] w fun e w' => e = .returned (.string s) ∧ Below w.heap.size w w' := by
  go_enter Try.func22, Try.ntmps22
  go_wp2_with (go_at_call 27; refine (Try.stringslite_Clone s _ hs).mono ?_; rintro e w' ⟨rfl, hb⟩)
  go_ret
  exact ⟨rfl, hb⟩

theorem drewN_below (w : World) (n : Nat) : Below w.heap.size w (w.drewN n) := ⟨rfl, rfl, rfl, Nat.le_refl _, fun _ _ => rfl⟩

theorem toList_ext {a b : ByteArray} (h : a.data.toList = b.data.toList) : a = b := ByteArray.ext (Array.toList_inj.1 h)
theorem extract_pre (s : ByteArray) (i : Nat) : (s.extract 0 i).data.toList = s.data.toList.take i := by
  rw [ByteArray.data_extract, Array.toList_extract, List.extract_eq_take_drop]
  simp
theorem extract_suf (s : ByteArray) (i : Nat) : (s.extract i s.size).data.toList = s.data.toList.drop i := by
  rw [ByteArray.data_extract, Array.toList_extract, List.extract_eq_take_drop, Lib.size_eq, List.take_of_length_le (by simp)]
theorem extract_mid (s : ByteArray) (i j : Nat) : (s.extract i j).data.toList = (s.data.toList.drop i).take (j - i) := by
  rw [ByteArray.data_extract, Array.toList_extract, List.extract_eq_take_drop]

theorem split_at {l : Bs} {i : Nat} {c : UInt8} (h : l[i]? = some c) : l = l.take i ++ c :: l.drop (i + 1) := by
  obtain ⟨hl, e⟩ := List.getElem?_eq_some_iff.1 h
  rw [← e, ← List.drop_eq_getElem_cons hl, List.take_append_drop]

theorem cut_run (s : ByteArray) (w : World) (hs : s.size < 4611686018427387904) : Calls Try.prog 28 #[.string s, .string ⟨#[47]⟩] w fun e w' =>
    ∃ (q r : ByteArray) (b : Bool), e = .returned (.tuple #[.string q, .string r, .bool b]) ∧ Below w.heap.size w w' ∧ w'.heap = w.heap ∧ 47 ∉ q.data.toList ∧ splitS s.data.toList = q.data.toList :: (if b then splitS r.data.toList else []) ∧ q.size + (if b then r.size + 1 else 0) = s.size := by
  rcases (show Lib.indexByte s.data.toList 47 = -1 ∨ ∃ i : Nat, Lib.indexByte s.data.toList 47 = i from by
    have := Lib.indexByte_ge s.data.toList 47
    by_cases h : Lib.indexByte s.data.toList 47 = -1
    · exact .inl h
    · exact .inr ⟨(Lib.indexByte s.data.toList 47).toNat, by omega⟩) with h | ⟨i, h⟩
  · go_enter Try.func28, Try.ntmps28
    go_wp2_with (go_at_call 30; refine (Try.stringslite_Index_one s 47 _).mono ?_; rintro e w' ⟨rfl, rfl⟩; rw [h])
    go_ret3
    have h47 : (47 : UInt8) ∉ s.data.toList := fun hm => by
      obtain ⟨k, hk⟩ := List.getElem?_of_mem hm
      exact Lib.indexByte_none h k hk
    exact ⟨s, _, false, rfl, Below.refl _ _, rfl, h47, by simpa using splitS_plain h47, by simp⟩
  · obtain ⟨hi, hlo⟩ := Lib.indexByte_some h
    have hlt : i < s.size := by rw [Lib.size_eq]; exact (List.getElem?_eq_some_iff.1 hi).1
    have c1 : (0 : Int) ≤ ↑i := by omega
    have c2 : (↑i : Int) ≤ ↑s.size := by omega
    have c3 : (0 : Int) ≤ ↑i + 1 := by omega
    have c4 : (↑i + 1 : Int) ≤ ↑s.size := by omega
    have cw : IntKind.i64.wrap ((i : Int) + 1) = (i : Int) + 1 := by rw [IntKind.wrap_i64]; omega
    go_enter Try.func28, Try.ntmps28
    go_wp2_with (go_at_call 30; refine (Try.stringslite_Index_one s 47 _).mono ?_; rintro e w' ⟨rfl, rfl⟩; rw [h])
    go_quiet (fail)
    go_wp2
    go_ret3
    have e := split_at hi
    have h47 : (47 : UInt8) ∉ s.data.toList.take i := fun hm => by
      obtain ⟨k, hk⟩ := List.getElem?_of_mem hm
      rw [List.getElem?_take] at hk
      split at hk
      · rename_i hki
        exact hlo k hki hk
      · cases hk
    refine ⟨_, _, true, rfl, drewN_below _ _, rfl, ?_, ?_, ?_⟩
    · rw [extract_pre]; exact h47
    · simp only [if_true, extract_pre, extract_suf]
      rw [← splitS_cut _ h47, ← e]
    · have e1 := congrArg List.length (extract_pre s i)
      have e2 := congrArg List.length (extract_suf s (i + 1))
      simp only [List.length_take, List.length_drop] at e1 e2
      rw [← Lib.size_eq, ← Lib.size_eq] at e1 e2
      simp only [if_true]
      omega

theorem cut_any (s : ByteArray) (w : World) (hs : s.size < 4611686018427387904) : Calls Try.prog 24 #[.string s, .string ⟨#[47]⟩] w fun e w' =>
    ∃ (q r : ByteArray) (b : Bool), e = .returned (.tuple #[.string q, .string r, .bool b]) ∧ Below w.heap.size w w' ∧ w'.heap = w.heap ∧ 47 ∉ q.data.toList ∧ splitS s.data.toList = q.data.toList :: (if b then splitS r.data.toList else []) ∧ q.size + (if b then r.size + 1 else 0) = s.size := by
  go_enter Try.func24, Try.ntmps24
  go_wp2_with (go_at_call 28; refine (cut_run s _ hs).mono ?_; rintro e w' ⟨q, r, b, rfl, h1, h2, h3⟩)
  go_ret3
  exact ⟨q, r, b, rfl, h1, h2, h3⟩

/-- ahead of the last slash. -/
theorem dirS_cut (s : ByteArray) (i : Nat) (hi : s.data.toList[i]? = some 47) (hlo : ∀ j, i < j → s.data.toList[j]? ≠ some 47) : (s.extract 0 i).data.toList = dirS s.data.toList := by
  rw [extract_pre]
  have e := split_at hi
  have : (47 : UInt8) ∉ s.data.toList.drop (i + 1) := fun hm => by
    obtain ⟨k, hk⟩ := List.getElem?_of_mem hm
    rw [List.getElem?_drop] at hk
    exact hlo _ (by omega) hk
  conv => rhs; rw [e]
  rw [dirS_at this]

def dirB (s : ByteArray) : ByteArray := ⟨(dirS s.data.toList).toArray⟩
theorem dirB_list (s : ByteArray) : (dirB s).data.toList = dirS s.data.toList := by simp [dirB]
theorem dirB_size (s : ByteArray) : (dirB s).size ≤ s.size := by
  rw [Lib.size_eq, Lib.size_eq, dirB_list]; exact dirS_size _

theorem dir_any (s : ByteArray) (w : World) (hs : s.size ≤ 281474976710656) : Calls Try.prog 10 #[.string s] w fun e w' => e = .returned (.string (dirB s)) ∧ Below w.heap.size w w' := by
  have spec := Lib.lastIndexByte_spec s 47
  have byt : ∀ j, j < s.size → s.data.toList[j]? = some s.data[j]! := fun j hj => by
    rw [byte_at s j hj]
    exact congrArg some (getElem!_pos s.data j hj).symm
  rcases spec with ⟨h, hno⟩ | ⟨i, hlt, h, hi, hlo⟩
  · go_enter Try.func10, Try.ntmps10
    go_wp2_with (go_at_call 21; refine (Try.strings_LastIndexByte s 47 (by omega) _).mono ?_; rintro e w' ⟨rfl, rfl⟩; rw [h])
    go_ret
    have h47 : (47 : UInt8) ∉ s.data.toList := fun hm => by
      obtain ⟨k, hk⟩ := List.getElem?_of_mem hm
      have hkl : k < s.size := by rw [Lib.size_eq]; exact (List.getElem?_eq_some_iff.1 hk).1
      rw [byt k hkl] at hk
      exact hno k hkl (by rw [Option.some.inj hk]; rfl)
    exact ⟨ret_str (toList_ext (by rw [dirB_list, dirS_none h47])), Below.refl _ _⟩
  · have c1 : (0 : Int) ≤ ↑i := by omega
    have c2 : (↑i : Int) ≤ ↑s.size := by omega
    have hsz : (s.extract 0 i).size ≤ 281474976710656 := by
      have := (s.extract 0 i).size
      rw [Lib.size_eq, extract_pre, List.length_take, ← Lib.size_eq]; omega
    have hi' : s.data.toList[i]? = some 47 := by
      rw [byt i hlt]
      exact congrArg some (UInt8.toNat_inj.1 (by simpa using (Int.ofNat_inj.1 (by simpa using hi) : (s.data[i]!).toNat = 47)))
    have hlo' : ∀ j, i < j → s.data.toList[j]? ≠ some 47 := fun j hj hk => by
      have hkl : j < s.size := by rw [Lib.size_eq]; exact (List.getElem?_eq_some_iff.1 hk).1
      rw [byt j hkl] at hk
      exact hlo j hj hkl (by rw [Option.some.inj hk]; rfl)
    have hd := dirS_cut s i hi' hlo'
    go_enter Try.func10, Try.ntmps10
    go_wp2_with (first
      | (go_at_call 21; refine (Try.strings_LastIndexByte s 47 (by omega) _).mono ?_; rintro e w' ⟨rfl, rfl⟩; rw [h])
      | (go_at_call 22; refine (clone_any _ _ hsz).mono ?_; rintro e w' ⟨rfl, hb⟩))
    go_ret
    exact ⟨ret_str (toList_ext (by rw [dirB_list, hd])), hb⟩

end Go.Proofs.Ytlogohcfahmilaa
