/- Own text. The document's answer: Dir, the parts of a text, Normal. -/
import Derived.Test.YtlogohcfahmilaaP5
namespace Go.Proofs.Ytlogohcfahmilaa
open Go.RowKit
set_option linter.unusedVariables false

theorem refDir_any (s : ByteArray) (w : World) (hs : s.size < 4611686018427387904) : Calls Try.prog 11 #[.string s] w fun e w' => e = .returned (.string (dirB s)) ∧ Below w.heap.size w w' := by
  go_enter Try.func11, Try.ntmps11
  go_wp2
  go_loopw [3] (fun v3 W => ∃ k : Nat, k ≤ s.size ∧ v3 = .int .i64 ((k : Int) - 1) ∧ W = w ∧ Hid (∀ j, k ≤ j → s.data.toList[j]? ≠ some 47)) (fun v3 _ => (intOf v3 + 1).toNat)
  case atStart => exact ⟨s.size, Nat.le_refl _, rfl, rfl, fun j hj h => by have := (List.getElem?_eq_some_iff.1 h).1; rw [← Lib.size_eq] at this; omega⟩
  case round =>
    obtain ⟨k, hk, rfl, rfl, hh⟩ := hrel
    cases k with
    | zero =>
      go_wp2
      go_ret
      have h47 : (47 : UInt8) ∉ s.data.toList := fun hm => by
        obtain ⟨k, hk⟩ := List.getElem?_of_mem hm
        exact hh.out k (Nat.zero_le _) hk
      exact ⟨ret_str (toList_ext (by rw [dirB_list, dirS_none h47])), Below.refl _ _⟩
    | succ j =>
      have ej : ((j + 1 : Nat) : Int) - 1 = (j : Int) := by omega
      have hj : j < s.size := by omega
      have c1 : (j : Int) ≤ (s.size : Int) := by omega
      rw [ej]
      clear ej
      have hby := byte_at s j hj
      go_wp2
      · have hx0 : (((s[j].toNat : Nat) : Int) == 47) = true := by assumption
        have hx : ((s[j].toNat : Nat) : Int) = 47 := by simpa using hx0
        clear hx0
        go_ret
        have h47 : s.data.toList[j]? = some 47 := by
          rw [hby]
          exact congrArg some (UInt8.toNat_inj.1 (by simpa using (Int.ofNat_inj.1 (by simpa using hx) : s[j].toNat = 47)))
        exact ⟨ret_str (toList_ext (by rw [dirB_list, dirS_cut s j h47 (fun i hi => hh.out i hi)])), Below.refl _ _⟩
      · have hx0 : (((s[j].toNat : Nat) : Int) == 47) = false := by assumption
        have hx : ¬ ((s[j].toNat : Nat) : Int) = 47 := by simpa using hx0
        go_roundw
        case rel =>
          refine ⟨j, by omega, rfl, by simp, fun i hi h => ?_⟩
          by_cases e : i = j
          · subst e
            rw [hby] at h
            exact hx (by rw [Option.some.inj h]; rfl)
          · exact hh.out i (by omega) h
        case measure => simp [intOf]

/-- parts, place by place. -/
theorem parts_end {l : Bs} {f : Nat} (h : 47 ∉ (l.drop f).take (l.length - f)) : splitS (l.drop f) = [(l.drop f).take (l.length - f)] := by
  have e : (l.drop f).take (l.length - f) = l.drop f := List.take_of_length_le (by simp)
  rw [e] at h ⊢
  exact splitS_plain h
theorem parts_cut {l : Bs} {f i : Nat} (hf : f ≤ i) (hi : l[i]? = some 47) (h : 47 ∉ (l.drop f).take (i - f)) : splitS (l.drop f) = (l.drop f).take (i - f) :: splitS (l.drop (i + 1)) := by
  have e : l.drop f = (l.drop f).take (i - f) ++ 47 :: l.drop (i + 1) := by
    have h2 : (l.drop f)[i - f]? = some 47 := by rw [List.getElem?_drop, Nat.add_sub_cancel' hf]; exact hi
    have := split_at h2
    rw [List.drop_drop] at this
    rwa [show f + (i - f + 1) = i + 1 from by omega] at this
  conv => lhs; rw [e]
  exact splitS_cut _ h
theorem parts_go {l : Bs} {f i : Nat} {c : UInt8} (hf : f ≤ i) (hi : l[i]? = some c) (hc : c ≠ 47) (h : 47 ∉ (l.drop f).take (i - f)) : 47 ∉ (l.drop f).take (i + 1 - f) := by
  rw [show i + 1 - f = (i - f) + 1 from by omega, List.take_add_one, List.getElem?_drop, Nat.add_sub_cancel' hf, hi]
  intro hm
  rcases List.mem_append.1 hm with hm | hm
  · exact h hm
  · exact hc (by have h3 := hm; simp at h3; exact h3.symm)

theorem slice_run (s : ByteArray) (i j : Nat) (h1 : i ≤ j) (h2 : j ≤ s.size) (W : World) : (Instr.slice 9 (.string s) (some (.int .i64 (i : Int))) (some (.int .i64 (j : Int))) none).run Try.prog W = .ok (.string (s.extract i j)) W := by
  rw [run_slice_string W _ _ _ _ _ _ Try.underlying9 (by omega) (by omega) (by omega)]
  rfl

set_option maxHeartbeats 4000000 in
set_option maxRecDepth 100000 in
theorem parts_any (s : ByteArray) (w : World) (hs : s.size ≤ 1099511627776) : Calls Try.prog 20 #[.string s] w fun e w' =>
    ∃ v, e = .returned v ∧ Texts w' w.heap.size v (splitS s.data.toList) ∧ Below w.heap.size w w' ∧ (splitS s.data.toList).length ≤ s.size + 1 := by
  obtain ⟨i0, hi, hz0, hz1, hz2⟩ := info_parts info_str
  go_enter Try.func20, Try.ntmps20
  go_wp2
  go_loopw [3, 4, 5] (fun v3 v4 v5 W => ∃ (f i : Nat) (acc : List Bs), f ≤ i ∧ i ≤ s.size + 1 ∧ (i ≤ s.size ∨ f = s.size + 1) ∧ v4 = .int .i64 f ∧ v5 = .int .i64 i ∧ Texts W w.heap.size v3 acc ∧ Below w.heap.size w W ∧ acc.length ≤ f ∧
      Hid (splitS s.data.toList = acc ++ (if f ≤ s.size then splitS (s.data.toList.drop f) else []) ∧ 47 ∉ (s.data.toList.drop f).take (i - f))) (fun _ _ v5 _ => s.size + 1 - (intOf v5).toNat)
  case atStart => exact ⟨0, 0, [], by omega, by omega, .inl (by omega), rfl, rfl, World.ownsRow_nil _ _ _ _, Below.refl _ _, by simp, by simp, by simp⟩
  case round =>
    obtain ⟨f, i, acc, hfi, hiz, hor, rfl, rfl, ht, hb, hal, hh⟩ := hrel
    have hsl : Hid (s.size = s.data.toList.length) := Lib.size_eq s
    by_cases hie : i ≤ s.size
    · have hi1 : (i : Int) ≤ (s.size : Int) := by omega
      have hsr := slice_run s f i hfi hie
      obtain ⟨X, hX, hXl⟩ : ∃ X, (∀ W, (Instr.slice 9 (.string s) (some (.int .i64 (f : Int))) (some (.int .i64 (i : Int))) none).run Try.prog W = .ok (.string X) W) ∧ X.data.toList = (s.data.toList.drop f).take (i - f) := ⟨_, hsr, extract_mid s f i⟩
      have HX : Hid (X.data.toList = (s.data.toList.drop f).take (i - f)) := hXl
      clear hsr hXl
      by_cases hiz2 : i = s.size
      · have hsp : Hid (splitS s.data.toList = acc ++ [X.data.toList]) := by
          obtain ⟨h1, h2⟩ := hh.out
          rw [if_pos (by omega)] at h1
          show _ = _
          rw [h1, HX.out]
          rw [hiz2, hsl.out] at h2 ⊢
          rw [parts_end h2]
        subst hiz2
        clear HX
        go_wp2_with (at_builtin; refine wpList_append_own _ rfl _ _ 33 rfl w.heap.size 9 i0 (.string ByteArray.empty) 1 16 Try.underlying33 hi hz0 hz1 hz2 rfl (by decide) _ _ _ rfl (ht.alloc _) ⟨_, 0, none⟩ 1 1 [.string X] rfl rfl (cell_one_new _ _ _) (fun x hx => by simp at hx; subst hx; rfl) (by unfold maxLen; omega) (by omega) (by have := hb.size; simp; omega) ?_; intro v1 W1 ho1 hg1 hn1)
        go_roundw
        case rel =>
          refine ⟨s.size + 1, s.size + 1, acc ++ [X.data.toList], by omega, by omega, .inr rfl, by simp, by simp, texts_app ho1 rfl, (hb.alloc hb.size _).grown hg1 (by have := hb.size; simp; omega) (fun j hj => (ht.lt j hj).1), by simp; omega, ?_, by simp⟩
          rw [hsp.out, if_neg (by omega), List.append_nil]
        case measure => simp [intOf]
      · have c1 : ((i : Int) == (s.size : Int)) = false := by simp; omega
        have hil : i < s.size := by omega
        have hby := byte_at s i hil
        by_cases hx : s[i] = 47
        · have hsp : Hid (splitS s.data.toList = (acc ++ [X.data.toList]) ++ splitS (s.data.toList.drop (i + 1))) := by
            obtain ⟨h1, h2⟩ := hh.out
            rw [if_pos (by omega)] at h1
            show _ = _
            rw [h1, HX.out, parts_cut hfi (by rw [hby, hx]) h2]
            simp
          clear HX hby hiz2
          go_wp2_with (at_builtin; refine wpList_append_own _ rfl _ _ 33 rfl w.heap.size 9 i0 (.string ByteArray.empty) 1 16 Try.underlying33 hi hz0 hz1 hz2 rfl (by decide) _ _ _ rfl (ht.alloc _) ⟨_, 0, none⟩ 1 1 [.string X] rfl rfl (cell_one_new _ _ _) (fun x hx => by simp at hx; subst hx; rfl) (by unfold maxLen; omega) (by omega) (by have := hb.size; simp; omega) ?_; intro v1 W1 ho1 hg1 hn1)
          go_roundw
          case rel =>
            refine ⟨i + 1, i + 1, acc ++ [X.data.toList], by omega, by omega, .inl (by omega), by simp, by simp, texts_app ho1 rfl, (hb.alloc hb.size _).grown hg1 (by have := hb.size; simp; omega) (fun j hj => (ht.lt j hj).1), by simp; omega, ?_, by simp⟩
            rw [hsp.out, if_pos (by omega)]
          case measure => simp [intOf]; omega
        · have c2 : (((s[i].toNat : Nat) : Int) == 47) = false := by
            simp
            exact fun e => hx (UInt8.toNat_inj.1 (by simpa using (Int.ofNat_inj.1 (by simpa using e) : s[i].toNat = 47)))
          have hg2 : Hid (47 ∉ (s.data.toList.drop f).take (i + 1 - f)) := parts_go hfi hby hx hh.out.2
          clear HX hby hiz2 hx
          go_wp2
          go_roundw
          case rel => exact ⟨f, i + 1, acc, by omega, by omega, .inl (by omega), rfl, by simp, ht, hb, hal, hh.out.1, hg2.out⟩
          case measure => simp [intOf]; omega
    · have hf : f = s.size + 1 := by omega
      have hi1 : ¬ (i : Int) ≤ (s.size : Int) := by omega
      have hsp : Hid (splitS s.data.toList = acc) := by
        have h1 := hh.out.1
        rw [if_neg (by omega), List.append_nil] at h1
        exact h1
      clear hh
      subst hf
      go_wp2
      go_ret
      refine ⟨_, rfl, ?_, hb, ?_⟩
      · rw [hsp.out]; exact ht
      · rw [hsp.out]; exact hal

end Go.Proofs.Ytlogohcfahmilaa
