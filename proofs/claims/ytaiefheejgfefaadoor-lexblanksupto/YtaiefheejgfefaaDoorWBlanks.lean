/- Own text. LexBlanks, walked. -/
import Derived.Test.YtaiefheejgfefaaDoorXSure
import Derived.Test.YtaiefheejgfefaaDoorYA
import Derived.Test.YtaiefheejgfefaaDoorX13
import Derived.Deep.RegionHeld3
namespace Go.Proofs.YtaiefheejgfefaaDoor.lexBlanks
open Go.RowKit
set_option linter.unusedVariables false

theorem wrap_small5 (k : Nat) (h : k < 9223372036854775808) : IntKind.i64.wrap (k : Int) = (k : Int) := by
  rw [IntKind.wrap_i64]
  omega

theorem rising_at (s : Bs) : ∀ (ts : List (Tk × Nat)) (last : Int), rising s last ts → ∀ (k : Nat) (hk : k < ts.length), ts[k].2 < s.length
  | [], _, _, k, hk => absurd hk (Nat.not_lt_zero _)
  | x :: ts, last, h, 0, hk => h.2.1
  | x :: ts, last, h, k + 1, hk => rising_at s ts _ h.2.2.2.2 k (by simpa using hk)
theorem kinds_ints (ts us : List (Tk × Nat)) (h : kinds ts = kinds us) : decide (kindsI (ints ts) = kindsI (ints us)) = true := by
  have e : ∀ l : List (Tk × Nat), kindsI (ints l) = kinds l := fun l => by simp [kindsI, kinds, ints, Function.comp_def]
  rw [e, e, h]
  simp
theorem laid (s nt : ByteArray) (a : Nat) : (s.extract 0 a ++ (⟨#[32, 9, 10]⟩ ++ ⟨#[47, 42]⟩ ++ nt ++ ⟨#[42, 47]⟩) ++ s.extract a s.size).data.toList = s.data.toList.take (a - 0) ++ ((32 :: moreL nt.data.toList) ++ s.data.toList.drop (a - 0)) := by
  have e : s.data.toList.length = s.size := (Lib.size_eq s).symm
  simp only [ByteArray.data_append, ByteArray.data_extract, Array.toList_append, Array.toList_extract, List.extract_eq_take_drop, moreL, Nat.sub_zero, List.drop_zero]
  rw [List.take_of_length_le (l := s.data.toList.drop a) (by rw [List.length_drop, e]; exact Nat.le_refl _)]
  simp
theorem cut_lo (s : ByteArray) (a : Nat) (h : a ≤ s.size) (W : World) : (Instr.slice 9 (.string s) none (some (.int .i64 (a : Int))) none).run Tryd.prog W = .ok (.string (s.extract 0 a)) W := by
  rw [run_slice_string_h (ht := Tryd.underlying9) (h0 := by omega) (h2 := by omega)]
  rfl
theorem cut_hi (s : ByteArray) (a : Nat) (h : a ≤ s.size) (W : World) : (Instr.slice 9 (.string s) (some (.int .i64 (a : Int))) none none).run Tryd.prog W = .ok (.string (s.extract a s.size)) W := by
  rw [run_slice_string_l (ht := Tryd.underlying9) (h0 := by omega) (h1 := by omega)]
  rfl

set_option maxHeartbeats 4000000 in
set_option maxRecDepth 100000 in
theorem walk (s : ByteArray) (which : Int) (note : ByteArray) (w : World) (hs : s.size ≤ 1048576) (hn : note.size ≤ 1048576) (he : Env w) :
    Calls Tryd.prog 8 #[.string s, .int .i64 which, .string note] w fun e w' => e = .returned (.bool true) ∧ Below w.heap.size w w' := by
  have l1 := fun W h => lex_any s true W h (by omega)
  have hsl : Hid (s.size = s.data.toList.length) := Lib.size_eq s
  cases hl : lexL 0 s.data.toList true with
  | error c =>
    have hc0 : ((c.2 : Int) != 0) = true := by
      have := int_eqb (a := (c.2 : Int)) (b := 0) (by rcases lexF_err _ _ _ _ _ hl with h | h <;> omega)
      simp only [bne, this, Bool.not_false]
    rw [hl] at l1
    simp only [lexRes] at l1
    clear hl
    go_enter Tryd.func8, Tryd.ntmps8
    go_wp2_with (first
      | (go_at_call 9; refine (l1 _ he).mono ?_; rintro e W1 ⟨rfl, hb1⟩)
      | (go_at_call 12; refine (sure_any _ (env_below he hb1)).mono ?_; rintro e W5 ⟨rfl, hb5⟩))
    go_ret
    exact ⟨rfl, hb1.trans (hb5.mono hb1.size)⟩
  | ok ts =>
    have hcnt := lex_count _ _ _ _ _ (Nat.le_refl _) hl
    rw [← hsl.out] at hcnt
    rw [hl] at l1
    simp only [lexRes] at l1
    by_cases h0 : ts.length = 0
    · have h0b : (((ts.length : Nat) : Int) == 0) = true := by simp [h0]
      clear hl
      go_enter Tryd.func8, Tryd.ntmps8
      go_wp2_with (first
        | (go_at_call 9; refine (l1 _ he).mono ?_; rintro e W1 ⟨⟨v1, rfl, hr1⟩, hb1⟩; obtain ⟨A, c, hv, hel⟩ := tat_row hr1; rw [ints_length] at hv; subst hv)
        | (go_at_call 12; refine (sure_any _ (env_below he hb1)).mono ?_; rintro e W5 ⟨rfl, hb5⟩))
      go_ret
      exact ⟨rfl, hb1.trans (hb5.mono hb1.size)⟩
    · have h0b : (((ts.length : Nat) : Int) == 0) = false := int_eqb (by omega)
      have hbl := fun (M : Bs) hM (wh : Nat) (hw : wh < ts.length) => blanks M hM _ 0 0 s.data.toList true ts wh hw (Nat.le_refl _) hl
      have wl : IntKind.i64.wrap ((ts.length : Int) - 1) = (ts.length : Int) - 1 := by
        rw [IntKind.wrap_i64]
        omega
      have lex_ok_at : ∀ (k : Nat) (hk : k < ts.length), ts[k].2 < s.size := by
        intro k hk
        rw [hsl.out]
        exact rising_at _ _ _ (rises _ 0 s.data.toList true ts (-1) (Nat.le_refl _) (Nat.zero_le _) (by simpa using hl) (by omega)) k hk
      obtain ⟨k0, hk0, hk1⟩ : ∃ k0 : Nat, max 0 (min which ((ts.length : Int) - 1)) = (k0 : Int) ∧ k0 < ts.length := ⟨(max 0 (min which ((ts.length : Int) - 1))).toNat, by omega, by omega⟩
      clear hl
      go_enter Tryd.func8, Tryd.ntmps8
      go_wp2_with (go_at_call 9; refine (l1 _ he).mono ?_; rintro e W1 ⟨⟨v1, rfl, hr1⟩, hb1⟩; obtain ⟨A, c, hv, hel⟩ := tat_row hr1; rw [ints_length] at hv; subst hv)
      go_loopw [2, 11] (fun v2 v11 W => ∃ (j : Nat) (nt : ByteArray), v11 = .int .i64 j ∧ v2 = .string nt ∧ nt.size ≤ note.size ∧ j ≤ note.size + 1 ∧ Below W1.heap.size W1 W ∧ Hid (∀ i (h : i < nt.size), i < j → nt[i] ≠ 42)) (fun _ v11 _ => note.size - (intOf v11).toNat)
      case atStart => exact ⟨0, note, rfl, rfl, Nat.le_refl _, Nat.zero_le _, Below.refl _ _, fun i h hi => absurd hi (Nat.not_lt_zero _)⟩
      case round =>
        obtain ⟨j, nt, rfl, rfl, hnt, hj, hb, hh⟩ := hrel
        by_cases hjl : j < nt.size
        · have hj2 : (j : Int) < (nt.size : Int) := by omega
          by_cases e42 : nt[j] = 42
          · have f42 : ((nt[j].toNat : Int) == 42) = true := by rw [e42]; rfl
            clear e42
            go_wp2
            go_roundw
            case rel => exact ⟨j + 1, ⟨#[]⟩, by simp, rfl, Nat.zero_le _, by omega, hb, fun i h _ => absurd h (Nat.not_lt_zero _)⟩
            case measure => simp [intOf]; omega
          · have f42 : ((nt[j].toNat : Int) == 42) = false := by
              refine int_eqb (fun e => e42 (UInt8.toNat_inj.mp ?_))
              have : nt[j].toNat = 42 := by omega
              rw [this]; rfl
            have hh2 : Hid (∀ i (h : i < nt.size), i < j + 1 → nt[i] ≠ 42) := by
              intro i h hi
              by_cases e : i = j
              · subst e; exact e42
              · exact hh.out i h (by omega)
            by_cases e47 : nt[j] = 47
            · have f47 : ((nt[j].toNat : Int) == 47) = true := by rw [e47]; rfl
              clear e42 e47 hh
              go_wp2
              go_roundw
              case rel => exact ⟨j + 1, ⟨#[]⟩, by simp, rfl, Nat.zero_le _, by omega, hb, fun i h _ => absurd h (Nat.not_lt_zero _)⟩
              case measure => simp [intOf]; omega
            · have f47 : ((nt[j].toNat : Int) == 47) = false := by
                refine int_eqb (fun e => e47 (UInt8.toNat_inj.mp ?_))
                have : nt[j].toNat = 47 := by omega
                rw [this]; rfl
              clear e42 e47 hh
              go_wp2
              go_roundw
              case rel => exact ⟨j + 1, nt, by simp, rfl, hnt, by omega, hb, hh2⟩
              case measure => simp [intOf]; omega
        · have hj2 : ¬ (j : Int) < (nt.size : Int) := by omega
          obtain ⟨bl, of, q1, q2, q3, q4, q5, q6⟩ := hel k0 (by rw [ints_length]; omega)
          rw [ints_length] at q1
          have c3 := (hb.cell (p := ⟨bl, of + k0 * 4 + 3, none⟩) q2).trans q6
          have hti : (ints ts)[k0]'(by rw [ints_length]; omega) = (ts[k0].1, (ts[k0].2 : Int)) := by simp [ints]
          rw [hti] at c3
          have hat := lex_ok_at k0 hk1
          have hbl2 := hbl (moreL nt.data.toList) (more_past _ (fun hm => by
            obtain ⟨i, hi, e⟩ := List.getElem_of_mem hm
            exact hh.out i (by simpa using hi) (by simp at hi; omega) e)) k0 hk1
          simp only at c3
          clear q3 q4 q5 q6 hti hh hbl
          generalize ts[k0].2 = a at *
          obtain ⟨us, hu1, hu2⟩ := hbl2
          rw [← laid] at hu1
          have hsz : (s.extract 0 a ++ (⟨#[32, 9, 10]⟩ ++ ⟨#[47, 42]⟩ ++ nt ++ ⟨#[42, 47]⟩) ++ s.extract a s.size).size < 4294967281 := by
            have k1 : (⟨#[32, 9, 10]⟩ : ByteArray).size = 3 := rfl
            have k2 : (⟨#[47, 42]⟩ : ByteArray).size = 2 := rfl
            have k3 : (⟨#[42, 47]⟩ : ByteArray).size = 2 := rfl
            simp only [ByteArray.size_append, ByteArray.size_extract, k1, k2, k3]
            omega
          have l2 := fun W h => lex_any _ true W h hsz
          have hlu := lex_count _ _ _ _ _ (Nat.le_refl _) hu1
          rw [← Lib.size_eq] at hlu
          have hlu2 : Hid ((ints us).length ≤ 4611686018427387904) := by show (ints us).length ≤ 4611686018427387904; rw [ints_length]; omega
          rw [hu1] at l2
          simp only [lexRes] at l2
          have hkk : Hid (decide (kindsI (ints us) = kindsI (ints ts)) = true) := kinds_ints _ _ hu2
          have hr1b := tat_row hr1
          have hb0 : Below w.heap.size w wr := hb1.trans (hb.mono hb1.size)
          have hbb : Below W1.heap.size W1 wr := hb
          have z1 := cut_lo s a (by omega)
          have z2 := cut_hi s a (by omega)
          clear hu1 hu2 hsz hlu
          go_wp2
          have hM : (⟨#[32, 9, 10]⟩ ++ ⟨#[47, 42]⟩ ++ nt ++ ⟨#[42, 47]⟩ : ByteArray).size ≤ 2097152 := by
            have k1 : (⟨#[32, 9, 10]⟩ : ByteArray).size = 3 := rfl
            have k2 : (⟨#[47, 42]⟩ : ByteArray).size = 2 := rfl
            have k3 : (⟨#[42, 47]⟩ : ByteArray).size = 2 := rfl
            simp only [ByteArray.size_append, k1, k2, k3]
            omega
          generalize (⟨#[32, 9, 10]⟩ ++ ⟨#[47, 42]⟩ ++ nt ++ ⟨#[42, 47]⟩ : ByteArray) = M at *
          have hX1 : (s.extract 0 a).size ≤ 1048576 := by rw [ByteArray.size_extract]; omega
          have hX2 : (s.extract a s.size).size ≤ 1048576 := by rw [ByteArray.size_extract]; omega
          generalize s.extract 0 a = X1 at *
          generalize s.extract a s.size = X2 at *
          have g1 : (9223372036854775807 < X1.size + M.size) = False := eq_false (by omega)
          have g2 : (9223372036854775807 < X1.size + M.size + X2.size) = False := eq_false (by omega)
          go_region_held3 (fun W => True) (exact trivial)
            (first
              | (go_at_call 9; refine (l2 _ (env_below he hb0.drew)).mono ?_; rintro e W2 ⟨⟨v2, rfl, hr2⟩, hb2⟩; have hbw : Below w.heap.size w W2 := hb0.drew.trans (hb2.mono hb0.size); have hbx : Below W1.heap.size W1 W2 := hbb.drew.trans (hb2.mono hbb.size)))
          go_wp2_with (first
            | (go_at_call 17; refine (same_ref _ _ _ _ _ (tat_row hr2) (tat_row (keep hr1 hbx)) hlu2.out).mono ?_; rw [hkk.out]; rintro e W3 ⟨rfl, hb3⟩; have hb4 : Below w.heap.size w W3 := hbw.trans (hb3.mono hbw.size))
            | (go_at_call 12; refine (sure_any _ (env_below he hb4)).mono ?_; rintro e W5 ⟨rfl, hb5⟩))
          go_ret
          exact ⟨rfl, hb4.trans (hb5.mono hb4.size)⟩

end Go.Proofs.YtaiefheejgfefaaDoor.lexBlanks
