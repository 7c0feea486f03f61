/- Own text. The document's reader of blanks and notes. -/
import Derived.Test.YtadkmlcnmkdfiaaGreatDoorX2
namespace Go.Proofs.YtadkmlcnmkdfiaaGreatDoor
open Go.RowKit
set_option linter.unusedVariables false

theorem ret_ib2 {k : IntKind} {a c : Int} {b d : Bool} (h : a = c) (h2 : b = d) : Ending.returned (.tuple #[.int k a, .bool b]) = .returned (.tuple #[.int k c, .bool d]) := by rw [h, h2]

set_option maxHeartbeats 8000000 in
set_option maxRecDepth 100000 in
theorem past_any (s : ByteArray) (w : World) (hs : s.size ≤ 140737488355328) : Calls Tryz.prog 64 #[.string s] w fun e w' => e = .returned (.tuple #[.int .i64 ((pastL s.data.toList).1 : Nat), .bool (pastL s.data.toList).2]) ∧ w' = w := by
  go_enter Tryz.func64, Tryz.ntmps64
  go_wp2
  go_loopw [4] (fun v4 W => ∃ i : Nat, v4 = .int .i64 i ∧ i ≤ s.size ∧ W = w ∧ Hid (pastL s.data.toList = (i + (pastL (s.data.toList.drop i)).1, (pastL (s.data.toList.drop i)).2))) (fun v4 _ => s.size - (intOf v4).toNat)
  case atStart => exact ⟨0, rfl, Nat.zero_le _, rfl, by simp [Hid]⟩
  case round =>
    obtain ⟨i, rfl, hi, rfl, hh⟩ := hrel
    by_cases hil : i < s.size
    · have hil2 : (i : Int) < (s.size : Int) := by omega
      have hby := byteO s i hil
      have hbl := isBl_of s[i]
      cases hib : isBl s[i]
      · rw [hib] at hbl
        have hbl2 := hbl.symm
        simp only [Bool.or_eq_false_iff, decide_eq_false_iff_not] at hbl2
        obtain ⟨⟨⟨n9, n10⟩, n13⟩, n32⟩ := hbl2
        have b9 := int_eqb n9
        have b10 := int_eqb n10
        have b13 := int_eqb n13
        have b32 := int_eqb n32
        clear hbl n9 n10 n13 n32
        by_cases h47 : s[i] = 47
        · have hx : ((s[i].toNat : Nat) : Int) = 47 := by rw [h47]; rfl
          by_cases hi1 : i + 1 < s.size
          · have hi2 : (i : Int) + 1 < (s.size : Int) := by omega
            have hby1 := byteO s (i + 1) hi1
            by_cases g47 : s[i + 1] = 47
            · have hy : ((s[i + 1].toNat : Nat) : Int) = 47 := by rw [g47]; rfl
              have hp := past_line (l := s.data.toList) (i := i) (by rw [hby, h47]) (by rw [hby1, g47])
              have h1 : 1 ≤ lineL (s.data.toList.drop i) := by
                have := lineL_go (l := s.data.toList) (j := i) (by rw [hby]) (by rw [h47]; decide)
                omega
              have HP : Hid (pastL (s.data.toList.drop i) = ((pastL (s.data.toList.drop (i + lineL (s.data.toList.drop i)))).1 + lineL (s.data.toList.drop i), (pastL (s.data.toList.drop (i + lineL (s.data.toList.drop i)))).2)) := hp
              clear hp hby hby1 h47 g47 hib
              go_wp2
              go_loopw [4] (fun v4 W => ∃ j : Nat, v4 = .int .i64 j ∧ i ≤ j ∧ j ≤ s.size ∧ W = wr ∧ Hid (lineL (s.data.toList.drop i) = (j - i) + lineL (s.data.toList.drop j))) (fun v4 _ => s.size - (intOf v4).toNat)
              case atStart => exact ⟨i, rfl, Nat.le_refl _, hi, rfl, by simp [Hid]⟩
              case round =>
                obtain ⟨j, rfl, hij, hj, rfl, hl⟩ := hrel
                clear b9 b10 b13 b32 hx hy
                by_cases hjl : j < s.size
                · have hjl2 : (j : Int) < (s.size : Int) := by omega
                  have hbj := byteO s j hjl
                  by_cases j10 : s[j] = 10
                  · have hz : ((s[j].toNat : Nat) : Int) = 10 := by rw [j10]; rfl
                    have e0 := lineL_end (l := s.data.toList) (j := j) (.inl (by rw [hbj, j10]))
                    have HR : Hid (pastL s.data.toList = (j + (pastL (s.data.toList.drop j)).1, (pastL (s.data.toList.drop j)).2) ∧ i < j) := by
                      have e1 := hl.out
                      have e2 := HP.out
                      rw [e0] at e1
                      rw [show i + lineL (s.data.toList.drop i) = j from by omega] at e2
                      refine ⟨?_, by omega⟩
                      rw [hh.out, e2]
                      simp only [Prod.mk.injEq, and_true]
                      omega
                    clear e0 j10 hbj hl HP
                    go_wp2
                    go_roundw
                    case rel => exact ⟨j, rfl, hj, by simp, HR.out.1⟩
                    case measure => have := HR.out.2; simp [intOf]; omega
                  · have hz : (((s[j].toNat : Nat) : Int) == 10) = false := int_eqb (fun e => j10 (u8_eq (n := 10) (by omega) e))
                    have hl2 : Hid (lineL (s.data.toList.drop i) = (j + 1 - i) + lineL (s.data.toList.drop (j + 1))) := by
                      show _ = _
                      rw [hl.out, lineL_go (by rw [hbj]) j10]
                      omega
                    clear j10 hbj hl
                    go_wp2
                    go_roundw
                    case rel => exact ⟨j + 1, by simp, by omega, by omega, by simp, hl2⟩
                    case measure => simp [intOf]; omega
                · have hjl2 : ¬ (j : Int) < (s.size : Int) := by omega
                  have e0 := lineL_end (l := s.data.toList) (j := j) (.inr (by rw [← Lib.size_eq]; omega))
                  have HR : Hid (pastL s.data.toList = (j + (pastL (s.data.toList.drop j)).1, (pastL (s.data.toList.drop j)).2) ∧ i < j) := by
                    have e1 := hl.out
                    have e2 := HP.out
                    rw [e0] at e1
                    rw [show i + lineL (s.data.toList.drop i) = j from by omega] at e2
                    refine ⟨?_, by omega⟩
                    rw [hh.out, e2]
                    simp only [Prod.mk.injEq, and_true]
                    omega
                  clear e0 hl HP
                  go_wp2
                  go_roundw
                  case rel => exact ⟨j, rfl, hj, by simp, HR.out.1⟩
                  case measure => have := HR.out.2; simp [intOf]; omega
            · have hy7 : (((s[i + 1].toNat : Nat) : Int) == 47) = false := int_eqb (fun e => g47 (u8_eq (n := 47) (by omega) e))
              by_cases g42 : s[i + 1] = 42
              · have hy : ((s[i + 1].toNat : Nat) : Int) = 42 := by rw [g42]; rfl
                have hp := past_note (l := s.data.toList) (i := i) (by rw [hby, h47]) (by rw [hby1, g42])
                have HP : Hid (pastL (s.data.toList.drop i) = match noteL (s.data.toList.drop (i + 2)) with
                    | none => (0, false)
                    | some k => ((pastL (s.data.toList.drop (i + 2 + k))).1 + (k + 2), (pastL (s.data.toList.drop (i + 2 + k))).2)) := hp
                clear hp hby hby1 h47 g47 g42 hib
                go_wp2
                go_loopw [5] (fun v5 W => ∃ k : Nat, v5 = .int .i64 k ∧ i + 2 ≤ k ∧ k ≤ s.size ∧ W = wr ∧ Hid (noteL (s.data.toList.drop (i + 2)) = (noteL (s.data.toList.drop k)).map (· + (k - (i + 2))))) (fun v5 _ => s.size - (intOf v5).toNat)
                case atStart => exact ⟨i + 2, by simp, Nat.le_refl _, by omega, rfl, by simp [Hid]⟩
                case round =>
                  obtain ⟨k, rfl, hik, hk, rfl, hl⟩ := hrel
                  clear b9 b10 b13 b32 hx hy hy7
                  by_cases hkl : k + 1 < s.size
                  · have hkl2 : (k : Int) + 1 < (s.size : Int) := by omega
                    have hkl3 : (k : Int) < (s.size : Int) := by omega
                    have hkl4 : ¬ (s.size : Int) ≤ (k : Int) + 1 := by omega
                    have hbk := byteO s k (by omega)
                    have hbk1 := byteO s (k + 1) hkl
                    by_cases k42 : s[k] = 42 ∧ s[k + 1] = 47
                    · have hz1 : ((s[k].toNat : Nat) : Int) = 42 := by rw [k42.1]; rfl
                      have hz2 : ((s[k + 1].toNat : Nat) : Int) = 47 := by rw [k42.2]; rfl
                      have HR : Hid (pastL s.data.toList = (k + 2 + (pastL (s.data.toList.drop (k + 2))).1, (pastL (s.data.toList.drop (k + 2))).2)) := by
                        have e1 := hl.out
                        have e2 := HP.out
                        rw [noteL_hit (l := s.data.toList) (j := k) (by rw [hbk, k42.1]) (by rw [hbk1, k42.2])] at e1
                        rw [e1] at e2
                        simp only [Option.map_some] at e2
                        rw [show i + 2 + (2 + (k - (i + 2))) = k + 2 from by omega] at e2
                        show _ = _
                        rw [hh.out, e2]
                        simp only [Prod.mk.injEq, and_true]
                        omega
                      clear k42 hbk hbk1 hl HP
                      go_wp2
                      go_roundw
                      case rel => exact ⟨k + 2, by simp, by omega, by simp, HR⟩
                      case measure => simp [intOf]; omega
                    · have hl2 : Hid (noteL (s.data.toList.drop (i + 2)) = (noteL (s.data.toList.drop (k + 1))).map (· + (k + 1 - (i + 2)))) := by
                        show _ = _
                        rw [hl.out, noteL_go (by rw [hbk]) (fun h => k42 ⟨h.1, by rw [hbk1] at h; exact Option.some.inj h.2⟩), Option.map_map]
                        congr 1
                        funext x
                        simp only [Function.comp]
                        omega
                      by_cases k1 : s[k] = 42
                      · have hz1 : ((s[k].toNat : Nat) : Int) = 42 := by rw [k1]; rfl
                        have hz2 : (((s[k + 1].toNat : Nat) : Int) == 47) = false := int_eqb (fun e => k42 ⟨k1, u8_eq (n := 47) (by omega) e⟩)
                        clear k42 hbk hbk1 hl k1
                        go_wp2
                        go_roundw
                        case rel => exact ⟨k + 1, by simp, by omega, by omega, by simp, hl2⟩
                        case measure => simp [intOf]; omega
                      · have hz1 : (((s[k].toNat : Nat) : Int) == 42) = false := int_eqb (fun e => k1 (u8_eq (n := 42) (by omega) e))
                        clear k42 hbk hbk1 hl k1
                        go_wp2
                        go_roundw
                        case rel => exact ⟨k + 1, by simp, by omega, by omega, by simp, hl2⟩
                        case measure => simp [intOf]; omega
                  · have hkl2 : ¬ (k : Int) + 1 < (s.size : Int) := by omega
                    have hkl4 : (s.size : Int) ≤ (k : Int) + 1 := by omega
                    have HR : Hid (pastL s.data.toList = (i, false)) := by
                      have e1 := hl.out
                      have e2 := HP.out
                      rw [noteL_out (l := s.data.toList) (j := k) (by rw [← Lib.size_eq]; omega)] at e1
                      rw [e1] at e2
                      show _ = _
                      rw [hh.out, e2]
                      rfl
                    clear hl HP
                    go_wp2
                    go_ret2
                    exact ⟨ret_ib2 (by rw [HR.out]) (by rw [HR.out]), rfl⟩
              · have hy2 : (((s[i + 1].toNat : Nat) : Int) == 42) = false := int_eqb (fun e => g42 (u8_eq (n := 42) (by omega) e))
                have HR : Hid (pastL s.data.toList = (i, true)) := by
                  show _ = _
                  rw [hh.out, past_stop (by rw [hby]) hib (fun h => g47 (by rw [hby1] at h; exact Option.some.inj h.2)) (fun h => g42 (by rw [hby1] at h; exact Option.some.inj h.2))]
                  rfl
                clear hby hby1 h47 g47 g42 hib hh
                go_wp2
                go_ret2
                exact ⟨ret_ib2 (by rw [HR.out]) (by rw [HR.out]), rfl⟩
          · have hi2 : ¬ (i : Int) + 1 < (s.size : Int) := by omega
            have hno : s.data.toList[i + 1]? = none := List.getElem?_eq_none (by rw [← Lib.size_eq]; omega)
            have HR : Hid (pastL s.data.toList = (i, true)) := by
              show _ = _
              rw [hh.out, past_stop (by rw [hby]) hib (fun h => by rw [hno] at h; cases h.2) (fun h => by rw [hno] at h; cases h.2)]
              rfl
            clear hby h47 hib hh hno
            go_wp2
            go_ret2
            exact ⟨ret_ib2 (by rw [HR.out]) (by rw [HR.out]), rfl⟩
        · have hx : (((s[i].toNat : Nat) : Int) == 47) = false := int_eqb (fun e => h47 (u8_eq (n := 47) (by omega) e))
          have HR : Hid (pastL s.data.toList = (i, true)) := by
            show _ = _
            rw [hh.out, past_stop (by rw [hby]) hib (fun h => h47 h.1) (fun h => h47 h.1)]
            rfl
          clear hby h47 hib hh
          go_wp2
          go_ret2
          exact ⟨ret_ib2 (by rw [HR.out]) (by rw [HR.out]), rfl⟩
      · rw [hib] at hbl
        have hbl2 := hbl.symm
        simp only [Bool.or_eq_true, decide_eq_true_eq] at hbl2
        have HR : Hid (pastL s.data.toList = (i + 1 + (pastL (s.data.toList.drop (i + 1))).1, (pastL (s.data.toList.drop (i + 1))).2)) := by
          show _ = _
          rw [hh.out, past_blank (by rw [hby]) hib]
          simp only [Prod.mk.injEq, and_true]
          omega
        clear hby hib hh hbl
        rcases hbl2 with ((hx | hx) | hx) | hx
        all_goals
          go_wp2
          go_roundw
          case rel => exact ⟨i + 1, by simp, by omega, by simp, HR⟩
          case measure => simp [intOf]; omega
    · have hil2 : ¬ (i : Int) < (s.size : Int) := by omega
      have HR : Hid (pastL s.data.toList = (i, true)) := by
        show _ = _
        rw [hh.out, drop_end s i hil]
        rfl
      clear hh
      go_wp2
      go_ret2
      exact ⟨ret_ib2 (by rw [HR.out]) (by rw [HR.out]), rfl⟩

end Go.Proofs.YtadkmlcnmkdfiaaGreatDoor
