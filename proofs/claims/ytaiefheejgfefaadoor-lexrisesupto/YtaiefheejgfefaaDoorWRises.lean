/- Own text. LexRises, walked. -/
import Derived.Test.YtaiefheejgfefaaDoorXSure
import Derived.Test.YtaiefheejgfefaaDoorYA
namespace Go.Proofs.YtaiefheejgfefaaDoor.lexRises
open Go.RowKit
set_option linter.unusedVariables false

theorem cut_run4 (s : ByteArray) (i n : Nat) (h : i + n ≤ s.size) (W : World) : (Instr.slice 9 (.string s) (some (.int .i64 (i : Int))) (some (.int .i64 ((i : Int) + (n : Int)))) none).run Tryd.prog W = .ok (.string (s.extract i (i + n))) W := by
  have e : (i : Int) + (n : Int) = ((i + n : Nat) : Int) := by simp
  rw [e, run_slice_string W _ _ _ _ _ _ Tryd.underlying9 (by omega) (by omega) (by omega)]
  rfl
theorem wrap_small4 (k : Nat) (h : k < 9223372036854775808) : IntKind.i64.wrap (k : Int) = (k : Int) := by
  rw [IntKind.wrap_i64]
  omega
theorem drop_at {α : Type} {l : List α} {k : Nat} (h : k < l.length) : l.drop k = l[k] :: l.drop (k + 1) := List.drop_eq_getElem_cons h

set_option maxHeartbeats 4000000 in
set_option maxRecDepth 100000 in
theorem walk (s : ByteArray) (sc : Bool) (w : World) (hs : s.size ≤ 1048576) (he : Env w) :
    Calls Tryd.prog 7 #[.string s, .bool sc] w fun e w' => e = .returned (.bool true) ∧ Below w.heap.size w w' := by
  have l1 := fun W h => lex_any s sc W h (by omega)
  have hsl : Hid (s.size = s.data.toList.length) := Lib.size_eq s
  cases hl : lexL 0 s.data.toList sc with
  | error c =>
    have hc0 : ((c.2 : Int) == 0) = false := int_eqb (by rcases lexF_err _ _ _ _ _ hl with h | h <;> omega)
    have hc1 : (0 : Int) ≤ (c.1 : Int) := by omega
    have hc2 : (c.1 : Int) < (s.size : Int) := by
      have := (lex_bad_at _ _ _ _ _ (Nat.le_refl _) hl).2
      rw [← hsl.out] at this
      omega
    rw [hl] at l1
    simp only [lexRes] at l1
    clear hl
    go_enter Tryd.func7, Tryd.ntmps7
    go_wp2_with (first
      | (go_at_call 9; refine (l1 _ he).mono ?_; rintro e W1 ⟨rfl, hb1⟩)
      | (go_at_call 12; refine (sure_any _ (env_below he hb1)).mono ?_; rintro e W5 ⟨rfl, hb5⟩))
    go_ret
    exact ⟨rfl, hb1.trans (hb5.mono hb1.size)⟩
  | ok ts =>
    have hcnt := lex_count _ _ _ _ _ (Nat.le_refl _) hl
    rw [← hsl.out] at hcnt
    have hris := rises _ 0 s.data.toList sc ts (-1) (Nat.le_refl _) (Nat.zero_le _) (by simpa using hl) (by omega)
    rw [hl] at l1
    simp only [lexRes] at l1
    clear hl
    go_enter Tryd.func7, Tryd.ntmps7
    go_wp2_with (go_at_call 9; refine (l1 _ he).mono ?_; rintro e W1 ⟨⟨v1, rfl, hr1⟩, hb1⟩; obtain ⟨A, c, hv, hel⟩ := tat_row hr1; rw [ints_length] at hv; subst hv)
    have hil := ints_length ts
    go_loopw [8, 9] (fun v8 v9 W => ∃ (k : Nat) (last : Int), v9 = .int .i64 k ∧ v8 = .int .i64 last ∧ k ≤ ts.length ∧ Below W1.heap.size W1 W ∧ Hid (rising s.data.toList last (ts.drop k))) (fun _ v9 _ => ts.length - (intOf v9).toNat)
    case atStart => exact ⟨0, -1, rfl, rfl, Nat.zero_le _, Below.refl _ _, by simpa [Hid] using hris⟩
    case round =>
      obtain ⟨k, last, rfl, rfl, hk, hb, hh⟩ := hrel
      by_cases hkl : k < ts.length
      · have hkl2 : k < (ints ts).length := by omega
        have hk2 : (k : Int) < (ts.length : Int) := by omega
        obtain ⟨bl, of, q1, q2, q3, q4, q5, q6⟩ := hel k hkl2
        rw [hil] at q1
        have c0 := (hb.cell (p := ⟨bl, of + k * 4, none⟩) q2).trans q3
        have c1 := (hb.cell (p := ⟨bl, of + k * 4 + 1, none⟩) q2).trans q4
        have c2 := (hb.cell (p := ⟨bl, of + k * 4 + 2, none⟩) q2).trans q5
        have c3 := (hb.cell (p := ⟨bl, of + k * 4 + 3, none⟩) q2).trans q6
        have hti : (ints ts)[k] = (ts[k].1, (ts[k].2 : Int)) := by simp [ints]
        rw [hti] at c0 c1 c2 c3
        have hr := hh.out
        rw [drop_at hkl] at hr
        obtain ⟨r1, r2, r3, r4, r5⟩ := hr
        rw [← hsl.out] at r2 r4
        clear q3 q4 q5 q6 hti hh
        generalize ts[k] = x at *
        obtain ⟨⟨t1, t2, t3⟩, a⟩ := x
        simp only at c0 c1 c2 c3 r1 r2 r3 r4 r5
        have hby := byteI s a r2
        have hby2 : (32 : Int) < ((s[a].toNat : Nat) : Int) := by rw [hby]; omega
        have e2 : (a : Int) < (s.size : Int) := by omega
        clear hby
        by_cases hkind : t1 = 1 ∨ t1 = 2 ∨ t1 = 5
        · obtain ⟨r6, r7⟩ := r4 hkind
          have hXs : (⟨t2.toArray⟩ : ByteArray).size = t2.length := by rw [Lib.size_eq]
          have hcr := cut_run4 s a t2.length (by omega)
          have heq : ((s.extract a (a + t2.length)).toList == (⟨t2.toArray⟩ : ByteArray).toList) = true := by
            rw [Lib.toList_data, Lib.toList_data, ByteArray.data_extract, Array.toList_extract, List.extract_eq_take_drop]
            simp only [Nat.add_sub_cancel_left]
            rw [r7]
            simp
          rw [if_pos hkind] at r5
          have H5 : Hid (rising s.data.toList ((a : Int) + (t2.length : Int) - 1) (ts.drop (k + 1))) := r5
          rw [← hXs] at hcr H5 r6 heq
          generalize (⟨t2.toArray⟩ : ByteArray) = X at *
          generalize s.extract a (a + X.size) = Z at *
          have wsub : IntKind.i64.wrap ((s.size : Int) - (a : Int)) = (s.size : Int) - (a : Int) := by
            have e : (s.size : Int) - (a : Int) = ((s.size - a : Nat) : Int) := by omega
            rw [e]
            exact wrap_small4 _ (by omega)
          have d1 : decide ((s.size : Int) - (a : Int) < (X.size : Int)) = false := decide_eq_false (by omega)
          clear r4 r5 r7 hXs
          rcases hkind with rfl | rfl | rfl
          all_goals
            go_wp2
            go_quiet (fail)
            go_wp2
            go_roundw
            case rel => exact ⟨k + 1, _, by simp, rfl, by omega, (hb.alloc hb.size _).trans ((drewN_below4 _ _).mono (by have := hb.size; simp; omega)), H5⟩
            case measure => simp [intOf]; omega
        · rw [if_neg hkind] at r5
          have H5 : Hid (rising s.data.toList (a : Int) (ts.drop (k + 1))) := r5
          have n1 : (t1 == 1) = false := int_eqb (fun e => hkind (.inl e))
          have n2 : (t1 == 2) = false := int_eqb (fun e => hkind (.inr (.inl e)))
          have n5 : (t1 == 5) = false := int_eqb (fun e => hkind (.inr (.inr e)))
          generalize (⟨t2.toArray⟩ : ByteArray) = X at *
          clear r4 r5 hkind
          go_wp2
          go_roundw
          case rel => exact ⟨k + 1, _, by simp, rfl, by omega, hb.alloc hb.size _, H5⟩
          case measure => simp [intOf]; omega
      · have hk2 : ¬ (k : Int) < (ts.length : Int) := by omega
        have hbw : Below w.heap.size w wr := hb1.trans (hb.mono hb1.size)
        go_wp2_with (go_at_call 12; refine (sure_any _ (env_below he hbw)).mono ?_; rintro e W5 ⟨rfl, hb5⟩)
        go_ret
        exact ⟨rfl, hbw.trans (hb5.mono hbw.size)⟩

end Go.Proofs.YtaiefheejgfefaaDoor.lexRises
