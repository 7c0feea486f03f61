/- Own text. Values: the document's Truth, Same, Typeof, Print, Text. -/
import Derived.Test.YtlijplbaefaeaaaDoorVa1
import Derived.Lib.AppendStr
import Derived.Laws.IdiomStrings
import Derived.Laws.BytesArg
import Derived.Laws.Concat
namespace Go.Proofs.YtlijplbaefaeaaaDoor
open Go.RowKit
set_option linter.unusedVariables false
set_option linter.unusedSimpArgs false

theorem belA (w : World) (o : Obj) : Below w.heap.size w (w.alloc o) := (Below.refl _ w).alloc (Nat.le_refl _) o
theorem belAA (w : World) (o o' : Obj) : Below w.heap.size w ((w.alloc o).alloc o') := (belA w o).alloc (by simp) o'
theorem ret_v {P : Program} {a b : Value} (h : a = b) : Ending.returned a = Ending.returned b := by rw [h]
set_option maxRecDepth 100000 in
set_option maxHeartbeats 4000000 in
theorem rtruth_any (x : Vl) (w : World) : Calls Tryd.prog 9 #[x.v] w fun e w' => e = .returned (.bool (truV x)) ∧ Below w.heap.size w w' := by
  obtain ⟨k, n, t⟩ := x
  have HR : Hid (truV ⟨k, n, t⟩ = (if k = 0 ∨ k = 1 then false else if k = 2 ∨ k = 3 then n != 0 else if k = 4 then !t.toList.isEmpty else true)) := rfl
  generalize truV ⟨k, n, t⟩ = r at *
  unfold Vl.v
  dsimp only
  go_enter Tryd.func9, Tryd.ntmps9
  go_wp2
  all_goals (go_ret; refine ⟨?_, belA _ _⟩; rw [HR.out]; simp_all)
set_option maxRecDepth 100000 in
set_option maxHeartbeats 4000000 in
theorem rsame_any (x y : Vl) (w : World) : Calls Tryd.prog 15 #[x.v, y.v] w fun e w' => e = .returned (.bool (samV x y)) ∧ Below w.heap.size w w' := by
  obtain ⟨k, n, t⟩ := x
  obtain ⟨k', n', t'⟩ := y
  have HR : Hid (samV ⟨k, n, t⟩ ⟨k', n', t'⟩ = (if k ≠ k' then false else if k = 0 ∨ k = 1 then true else if k = 4 then t.toList == t'.toList else n == n')) := rfl
  generalize samV ⟨k, n, t⟩ ⟨k', n', t'⟩ = r at *
  unfold Vl.v
  dsimp only
  go_enter Tryd.func15, Tryd.ntmps15
  go_wp2
  all_goals (go_ret; refine ⟨?_, belAA _ _ _⟩; rw [HR.out]; simp_all)
set_option maxRecDepth 100000 in
set_option maxHeartbeats 4000000 in
theorem rtypeof_any (x : Vl) (w : World) : Calls Tryd.prog 11 #[x.v] w fun e w' => e = .returned (.string (typT x)) ∧ Below w.heap.size w w' := by
  obtain ⟨k, n, t⟩ := x
  obtain ⟨r, hr⟩ : ∃ r, typT ⟨k, n, t⟩ = r := ⟨_, rfl⟩
  rw [hr]
  have HR : Hid (typT ⟨k, n, t⟩ = r) := hr
  clear hr
  unfold Vl.v
  dsimp only
  go_enter Tryd.func11, Tryd.ntmps11
  go_wp2
  all_goals (go_ret; refine ⟨?_, belA _ _⟩; rw [← HR.out]; unfold typT; simp_all)
theorem u8_mod (n : Nat) : ((48 + n % 10).toUInt8).toNat = 48 + n % 10 := by
  have : 48 + n % 10 < 256 := by omega
  simp [Nat.toUInt8, UInt8.toNat_ofNat', Nat.mod_eq_of_lt this]
theorem ba_app (a b : List UInt8) : (⟨a.toArray⟩ : ByteArray) ++ ⟨b.toArray⟩ = ⟨(a ++ b).toArray⟩ := by
  apply ByteArray.ext
  simp
theorem conv_b (W : World) (t : TypeId) (a : Int) : (convert 75 9 (.slice (some ⟨W.heap.size, 0, none⟩) 1 1)).run Tryd.prog (W.alloc (.cells #[.int .u8 a] t)) = .ok (.string ⟨#[UInt8.ofNat a.toNat]⟩) (W.alloc (.cells #[.int .u8 a] t)) := by
  have := run_convert_bytes_arg (P := Tryd.prog) (w := W.alloc (.cells #[.int .u8 a] t)) 75 5 Tryd.underlying75 Tryd.underlying5 W.heap.size 0 1 1 [a] rfl (fun j hj => by
    obtain rfl : j = 0 := by simpa using hj
    rw [cell_of_row _ _ _ _ _ _ (heap_alloc_new W _)]; rfl) 9 Tryd.underlying9
  exact this
theorem digL_lt : ∀ (k n : Nat), n < 10 ^ k → (digL n).length ≤ k
  | 0, n, h => by
    obtain rfl : n = 0 := by simpa using h
    simp [digL_zero]
  | k + 1, n, h => by
    by_cases h0 : n = 0
    · subst h0; simp [digL_zero]
    · rw [digL_pos (by omega), List.length_append]
      have := digL_lt k (n / 10) (by rw [Nat.pow_succ] at h; omega)
      simp
      omega
theorem wrap_neg {n : Int} (h : n < 0) (h1 : -9223372036854775808 ≤ n) : IntKind.u64.wrap (-IntKind.u64.wrap n) = ((n.natAbs : Nat) : Int) := by
  have e : (2 : Int) ^ 64 = 18446744073709551616 := by decide
  simp only [IntKind.wrap, IntKind.bits, IntKind.signed, Bool.false_and, Bool.false_eq_true, if_false, e]
  omega
set_option maxRecDepth 100000 in
set_option maxHeartbeats 8000000 in
theorem rprint_any (n : Int) (w : World) (h1 : -9223372036854775808 ≤ n) (h2 : n ≤ 9223372036854775807) : Calls Tryd.prog 30 #[.int .i64 n] w fun e w' => e = .returned (.string ⟨(prtL n).toArray⟩) ∧ Below w.heap.size w w' := by
  obtain ⟨r, hr⟩ : ∃ r, prtL n = r := ⟨_, rfl⟩
  rw [hr]
  have HR : Hid (prtL n = r) := hr
  clear hr
  go_enter Tryd.func30, Tryd.ntmps30
  by_cases h0 : n = 0
  · have e0 : (n == 0) = true := by simpa using h0
    go_wp2
    go_ret
    refine ⟨?_, Below.refl _ _⟩
    rw [← HR.out]
    simp [prtL, h0]
  · have e0 : (n == 0) = false := by simpa using h0
    obtain ⟨u0, hu0⟩ : ∃ u : Nat, n.natAbs = u := ⟨_, rfl⟩
    have hb : u0 ≤ 9223372036854775808 := by omega
    obtain ⟨sg, hsg⟩ : ∃ sg : List UInt8, (if n < 0 then [45] else []) = sg := ⟨_, rfl⟩
    have HR2 : Hid (r = sg ++ digL u0) := by
      show _ = _
      rw [← HR.out, prtL, if_neg h0, hsg, hu0]
    by_cases hn : n < 0
    · rw [if_pos hn] at hsg
      subst hsg
      have hw := wrap_neg hn h1
      rw [hu0] at hw
      have HW : Hid _ := hw
      clear hw
      go_wp2
      rw [HW.out]
      clear HR hu0 e0 h0 h1 h2 HW hn
      go_loopw [3, 5] (fun v3 v5 wo => ∃ (u : Nat) (s : List UInt8), v3 = .int .u64 (u : Nat) ∧ v5 = .string ⟨s.toArray⟩ ∧ u ≤ u0 ∧ Hid (digL u0 = digL u ++ s) ∧ Hid (Below w.heap.size w wo)) (fun v3 _ _ => (intOf v3).toNat)
      case atStart => exact ⟨u0, [], rfl, rfl, Nat.le_refl _, by show _ = _; simp, Below.refl _ _⟩
      case round =>
        obtain ⟨u, s, rfl, rfl, hu, HD, HB⟩ := hrel
        have hl : s.length ≤ 20 := by
          have h1 := digL_lt 20 u0 (by omega)
          rw [HD.out, List.length_append] at h1
          omega
        by_cases h : 0 < u
        · have hd : (0 : Int) < (u : Nat) := by omega
          have cv := fun W => conv_b W 5 (48 + (u : Int) % 10)
          have HN : Hid (digL u0 = digL (u / 10) ++ (UInt8.ofNat (48 + (u : Int) % 10).toNat :: s)) := by
            show _ = _
            rw [HD.out, digL_pos h, List.append_assoc, show (48 + (u : Int) % 10).toNat = 48 + u % 10 by omega]
            rfl
          generalize UInt8.ofNat (48 + (u : Int) % 10).toNat = c at *
          have hsz : (⟨#[c]⟩ : ByteArray).size + (⟨s.toArray⟩ : ByteArray).size ≤ 9223372036854775807 := by
            show 1 + s.toArray.size ≤ _
            simp
            omega
          have ec : (⟨#[c]⟩ : ByteArray) ++ ⟨s.toArray⟩ = ⟨(c :: s).toArray⟩ := ba_app [c] s
          have EC : Hid _ := ec
          clear ec
          go_wp2
          go_roundw
          case rel => exact ⟨u / 10, c :: s, by simp, by rw [EC.out], by omega, HN, (HB.out.alloc HB.out.size _)⟩
          case measure => simp [intOf]; omega
        · obtain rfl : u = 0 := by omega
          have hd : ¬ (0 : Int) < ((0 : Nat) : Int) := by omega
          rw [digL_zero, List.nil_append] at HD
          have es : (⟨#[45]⟩ : ByteArray) ++ ⟨s.toArray⟩ = ⟨([45] ++ s).toArray⟩ := ba_app [45] s
          have ES : Hid _ := es
          have hsz : (⟨#[45]⟩ : ByteArray).size + (⟨s.toArray⟩ : ByteArray).size ≤ 9223372036854775807 := by
            show 1 + s.toArray.size ≤ _
            simp
            omega
          clear es
          go_wp2
          go_ret
          exact ⟨by rw [ES.out, HR2.out, HD.out]; rfl, HB.out⟩
    · rw [if_neg hn] at hsg
      subst hsg
      have hn' : n = (u0 : Nat) := by omega
      have HN : Hid _ := hn'
      clear hn'
      go_wp2
      rw [HN.out]
      clear HR hu0 e0 h0 h1 h2 HN hn
      go_loopw [3, 5] (fun v3 v5 wo => ∃ (u : Nat) (s : List UInt8), v3 = .int .u64 (u : Nat) ∧ v5 = .string ⟨s.toArray⟩ ∧ u ≤ u0 ∧ Hid (digL u0 = digL u ++ s) ∧ Hid (Below w.heap.size w wo)) (fun v3 _ _ => (intOf v3).toNat)
      case atStart => exact ⟨u0, [], rfl, rfl, Nat.le_refl _, by show _ = _; simp, Below.refl _ _⟩
      case round =>
        obtain ⟨u, s, rfl, rfl, hu, HD, HB⟩ := hrel
        have hl : s.length ≤ 20 := by
          have h1 := digL_lt 20 u0 (by omega)
          rw [HD.out, List.length_append] at h1
          omega
        by_cases h : 0 < u
        · have hd : (0 : Int) < (u : Nat) := by omega
          have cv := fun W => conv_b W 5 (48 + (u : Int) % 10)
          have HN : Hid (digL u0 = digL (u / 10) ++ (UInt8.ofNat (48 + (u : Int) % 10).toNat :: s)) := by
            show _ = _
            rw [HD.out, digL_pos h, List.append_assoc, show (48 + (u : Int) % 10).toNat = 48 + u % 10 by omega]
            rfl
          generalize UInt8.ofNat (48 + (u : Int) % 10).toNat = c at *
          have hsz : (⟨#[c]⟩ : ByteArray).size + (⟨s.toArray⟩ : ByteArray).size ≤ 9223372036854775807 := by
            show 1 + s.toArray.size ≤ _
            simp
            omega
          have ec : (⟨#[c]⟩ : ByteArray) ++ ⟨s.toArray⟩ = ⟨(c :: s).toArray⟩ := ba_app [c] s
          have EC : Hid _ := ec
          clear ec
          go_wp2
          go_roundw
          case rel => exact ⟨u / 10, c :: s, by simp, by rw [EC.out], by omega, HN, (HB.out.alloc HB.out.size _)⟩
          case measure => simp [intOf]; omega
        · obtain rfl : u = 0 := by omega
          have hd : ¬ (0 : Int) < ((0 : Nat) : Int) := by omega
          rw [digL_zero, List.nil_append] at HD
          have es : (⟨#[]⟩ : ByteArray) ++ ⟨s.toArray⟩ = ⟨([] ++ s).toArray⟩ := ba_app [] s
          have ES : Hid _ := es
          have hsz : (⟨#[]⟩ : ByteArray).size + (⟨s.toArray⟩ : ByteArray).size ≤ 9223372036854775807 := by
            show 0 + s.toArray.size ≤ _
            simp
            omega
          clear es
          go_wp2
          go_ret
          exact ⟨by rw [ES.out, HR2.out, HD.out]; rfl, HB.out⟩
set_option maxRecDepth 100000 in
set_option maxHeartbeats 8000000 in
theorem rtext_any (x : Vl) (w : World) (h1 : -9223372036854775808 ≤ x.n) (h2 : x.n ≤ 9223372036854775807) : Calls Tryd.prog 13 #[x.v] w fun e w' => e = .returned (.string (txtV x)) ∧ Below w.heap.size w w' := by
  obtain ⟨k, n, t⟩ := x
  obtain ⟨r, hr⟩ : ∃ r, txtV ⟨k, n, t⟩ = r := ⟨_, rfl⟩
  rw [hr]
  have HR : Hid (txtV ⟨k, n, t⟩ = r) := hr
  clear hr
  have CP := fun W => rprint_any n W h1 h2
  unfold Vl.v
  dsimp only
  go_enter Tryd.func13, Tryd.ntmps13
  by_cases h3 : k = 3
  · have e2 : (k == 2) = false := by rw [h3]; decide
    have e3 : (k == 3) = true := by rw [h3]; decide
    have H3 : Hid (k = 3) := h3
    clear h3
    go_wp2_with fail
    go_at_call 30
    refine (CP _).mono ?_
    rintro e W1 ⟨rfl, b1⟩
    go_wp2
    go_ret
    refine ⟨?_, (belA _ _).trans (b1.mono (by simp))⟩
    rw [← HR.out]
    unfold txtV
    simp [H3.out]
  · have e3 : (k == 3) = false := by simpa using h3
    by_cases hb : k = 2 ∨ k = 4
    · go_wp2
      all_goals (go_ret; refine ⟨?_, belA _ _⟩; rw [← HR.out]; unfold txtV; simp_all)
    · have e2 : (k == 2) = false := by simpa using fun h => hb (.inl h)
      have e4 : (k == 4) = false := by simpa using fun h => hb (.inr h)
      by_cases hk : 0 ≤ k ∧ k < 10
      · obtain ⟨m, rfl⟩ : ∃ m : Nat, k = (m : Nat) := ⟨k.toNat, by omega⟩
        have hm : m = 0 ∨ m = 1 ∨ m = 5 ∨ m = 6 ∨ m = 7 ∨ m = 8 ∨ m = 9 := by omega
        clear e2 e3 e4 h3 hb hk
        rcases hm with rfl | rfl | rfl | rfl | rfl | rfl | rfl
        all_goals (go_wp2; go_ret; refine ⟨?_, belAA _ _ _⟩; rw [← HR.out]; rfl)
      · have HK : Hid (txtV ⟨k, n, t⟩ = ⟨#[]⟩) := by
          show _ = _
          unfold txtV kinT
          simp only
          rw [if_neg (by omega), if_neg (by omega), if_neg (by omega), if_neg (by omega), if_neg (by omega), if_neg (by omega), if_neg (by omega), if_neg (by omega), if_neg (by omega), if_neg (by omega)]
        by_cases hn : k < 0
        · go_wp2
          go_ret
          exact ⟨by rw [← HR.out, HK.out]; rfl, belAA _ _ _⟩
        · have h10 : (10 : Int) ≤ k := by omega
          go_wp2
          go_ret
          exact ⟨by rw [← HR.out, HK.out]; rfl, belAA _ _ _⟩
end Go.Proofs.YtlijplbaefaeaaaDoor
