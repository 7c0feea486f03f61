/- Own text. Whether two lists of tokens are the same, but for their places. -/
import Derived.Test.YtaiefheejgfefaaDoorX12
import Derived.BigQuiet
import Derived.Deep.DrawnRows
namespace Go.Proofs.YtaiefheejgfefaaDoor
open Go.RowKit
set_option linter.unusedVariables false

attribute [local go_sem ↓] Go.wp_at_zero Go.wp_at_succ

theorem texts_ne {a b : Bs} (h : a ≠ b) : ((⟨a.toArray⟩ : ByteArray).toList == (⟨b.toArray⟩ : ByteArray).toList) = false := by
  rw [eq_texts]
  simpa using h

set_option maxHeartbeats 4000000 in
set_option maxRecDepth 100000 in
theorem same_ref (v u : Value) (ts us : List (Tk × Int)) (w : World) (ht : TAt w v ts) (hu : TAt w u us) (hn : ts.length ≤ 4611686018427387904) : Calls Tryd.prog 17 #[v, u] w fun e w' =>
    e = .returned (.bool (decide (kindsI ts = kindsI us))) ∧ Below w.heap.size w w' := by
  obtain ⟨A, c, rfl, hel⟩ := ht
  obtain ⟨B, d, rfl, hel2⟩ := hu
  by_cases hlen : ts.length = us.length
  · have hl2 : ((ts.length : Int) == (us.length : Int)) = true := by simp [hlen]
    go_enter Tryd.func17, Tryd.ntmps17
    go_wp2
    go_loopw [5] (fun v5 W => ∃ k : Nat, v5 = .int .i64 k ∧ k ≤ ts.length ∧ W.heap = w.heap ∧ Below w.heap.size w W ∧ Hid ((kindsI ts).take k = (kindsI us).take k)) (fun v5 _ => ts.length - (intOf v5).toNat)
    case atStart => exact ⟨0, rfl, Nat.zero_le _, rfl, Below.refl _ _, by simp [Hid]⟩
    case round =>
      obtain ⟨k, rfl, hk, hh0, hb, hh⟩ := hrel
      have HH : Hid (wr.heap = w.heap) := hh0
      clear hh0
      by_cases hkl : k < ts.length
      · have hk2 : (k : Int) < (us.length : Int) := by omega
        have hk3 : (k : Int) < (ts.length : Int) := by omega
        have hkl2 : k < us.length := by omega
        obtain ⟨bl, of, q1, q2, q3, q4, q5, q6⟩ := hel k hkl
        obtain ⟨bm, og, p1, p2, p3, p4, p5, p6⟩ := hel2 k hkl2
        have c0 := (hb.cell (p := ⟨bl, of + k * 4, none⟩) q2).trans q3
        have c1 := (hb.cell (p := ⟨bl, of + k * 4 + 1, none⟩) q2).trans q4
        have c2 := (hb.cell (p := ⟨bl, of + k * 4 + 2, none⟩) q2).trans q5
        have d0 := (hb.cell (p := ⟨bm, og + k * 4, none⟩) p2).trans p3
        have d1 := (hb.cell (p := ⟨bm, og + k * 4 + 1, none⟩) p2).trans p4
        have d2 := (hb.cell (p := ⟨bm, og + k * 4 + 2, none⟩) p2).trans p5
        have HK : Hid ((kindsI ts)[k]? = some ts[k].1 ∧ (kindsI us)[k]? = some us[k].1) := by
          constructor <;> simp [kindsI, hkl, hkl2]
        generalize ts[k] = tk at *
        generalize us[k] = uk at *
        obtain ⟨⟨t1, t2, t3⟩, ta⟩ := tk
        obtain ⟨⟨s1, s2, s3⟩, sa⟩ := uk
        simp only at c0 c1 c2 d0 d1 d2 HK
        clear q3 q4 q5 q6 p3 p4 p5 p6
        rw [hlen] at q1
        have HN : Hid ((t1, t2, t3) ≠ (s1, s2, s3) → decide (kindsI ts = kindsI us) = false) := fun hne => by
          apply decide_eq_false
          intro e
          have h1 := HK.out.1
          rw [e, HK.out.2] at h1
          exact hne (Option.some.inj h1).symm
        have HS : Hid ((t1, t2, t3) = (s1, s2, s3) → (kindsI ts).take (k + 1) = (kindsI us).take (k + 1)) := fun e => by
          rw [List.take_add_one, List.take_add_one, HK.out.1, HK.out.2, hh.out, e]
        by_cases m1 : t1 = s1
        · subst m1
          by_cases m2 : t2 = s2
          · subst m2
            by_cases m3 : t3 = s3
            · subst m3
              have hh2 := HS.out rfl
              have HH2 : Hid ((kindsI ts).take (k + 1) = (kindsI us).take (k + 1)) := hh2
              clear hh2 hh HS HN HK
              generalize (⟨t2.toArray⟩ : ByteArray) = X at *
              go_wp2
              go_quiet (fail)
              go_wp2
              go_roundw
              case rel => exact ⟨k + 1, by simp, by omega, HH.out, hb.trans ((drewN_below4 _ _).mono hb.size), HH2⟩
              case measure => simp [intOf]; omega
            · have b3 : (t3 == s3) = false := int_eqb m3
              clear hh HS HK
              generalize (⟨t2.toArray⟩ : ByteArray) = X at *
              go_wp2
              go_quiet (fail)
              go_wp2
              go_ret
              exact ⟨ret_bool (HN.out (fun e => m3 (by injection e with _ e2; injection e2))).symm, hb.trans ((drewN_below4 _ _).mono hb.size)⟩
          · have b2 := texts_ne m2
            clear hh HS HK
            generalize (⟨t2.toArray⟩ : ByteArray) = X at *
            generalize (⟨s2.toArray⟩ : ByteArray) = Y at *
            go_wp2
            go_quiet (fail)
            go_wp2
            go_ret
            exact ⟨ret_bool (HN.out (fun e => m2 (by injection e with _ e2; injection e2))).symm, hb.trans ((drewN_below4 _ _).mono hb.size)⟩
        · have b1 : (t1 == s1) = false := int_eqb m1
          have b1' : (t1 != s1) = true := by simp [bne, b1]
          clear hh HS HK m1 c1 c2 d1 d2
          generalize (⟨t2.toArray⟩ : ByteArray) = X at *
          generalize (⟨s2.toArray⟩ : ByteArray) = Y at *
          go_wp2
          go_quiet (fail)
          go_wp2
          go_ret
          exact ⟨ret_bool (HN.out (fun e => absurd (show t1 = s1 by injection e) (by simpa using b1))).symm, hb.trans ((drewN_below4 _ _).mono hb.size)⟩
      · have hk2 : ¬ (k : Int) < (ts.length : Int) := by omega
        have HE : Hid (decide (kindsI ts = kindsI us) = true) := by
          have h1 := hh.out
          rw [List.take_of_length_le (by simp [kindsI]; omega), List.take_of_length_le (by simp [kindsI]; omega)] at h1
          exact decide_eq_true h1
        clear hh
        go_wp2
        go_ret
        exact ⟨ret_bool HE.out.symm, hb⟩
  · have hl2 : ((ts.length : Int) == (us.length : Int)) = false := int_eqb (by omega)
    have HE : Hid (decide (kindsI ts = kindsI us) = false) := by
      apply decide_eq_false
      intro e
      have := congrArg List.length e
      simp [kindsI] at this
      exact hlen this
    go_enter Tryd.func17, Tryd.ntmps17
    go_wp2
    go_ret
    exact ⟨ret_bool HE.out.symm, Below.refl _ _⟩

end Go.Proofs.YtaiefheejgfefaaDoor
