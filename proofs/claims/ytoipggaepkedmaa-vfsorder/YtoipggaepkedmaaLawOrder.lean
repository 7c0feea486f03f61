/- VfsOrder answers true at every list of files: in which order files were written does not show; Load of Files gives the same (2.4, T4). No condition. -/
import Derived.Test.YtoipggaepkedmaaVOrd
namespace Go.Proofs.Ytoipggaepkedmaa.vfsOrder
open Go.ChangeShapes Go.WideShapes Go.ChangeAt Go.RowKit
set_option linter.unusedVariables false

/-- a place in a list that is gone through from behind: k places are still to come. -/
def At (v : Value) (k : Nat) : Prop := (v = .int .i64 (-1) ∧ k = 0) ∨ ∃ j : Nat, v = .int .i64 (j : Int) ∧ k = j + 1
theorem at_next (j : Nat) : At (.int .i64 ((j : Int) - 1)) j := by
  cases j with
  | zero => exact .inl ⟨rfl, rfl⟩
  | succ j => exact .inr ⟨j, by congr 1; omega, rfl⟩
theorem at_meas {v : Value} {k : Nat} (h : At v k) : (intOf v + 1).toNat = k := by
  rcases h with ⟨rfl, rfl⟩ | ⟨j, rfl, rfl⟩
  · rfl
  · simp [intOf]

set_option maxHeartbeats 16000000 in
set_option maxRecDepth 100000 in
theorem walk (v0 : Value) (F : Fls) (w : World) (f0 : FAt w v0 F) (z0 : FSz 140737488351232 F) :
    Calls Try.prog 6 #[v0] w fun e w' => e = .returned (.bool true) ∧ Below w.heap.size w w' := by
  obtain ⟨A0, c0, rfl, hf⟩ := f0.form
  obtain ⟨zl, ze⟩ := z0
  clear f0
  have eo : wrE ⟨#[111, 108, 100]⟩ = 0 := by unfold wrE; rw [if_pos (by decide)]
  have eo2 : ∀ (q : ByteArray) (M : Fls), wrL q ⟨#[111, 108, 100]⟩ M = ins q ⟨#[111, 108, 100]⟩ M := fun q M => by unfold wrL; rw [if_pos (by decide)]
  have tok1 : True := trivial
  have tok2 : True := trivial
  go_enter Try.func6, Try.ntmps6
  go_wp2_with (first
    | (go_at_call 9; have _t := tok1; refine (new_ex _).mono ?_; rintro e W0 ⟨tb, mb, rfl, hT0, hw0, m1, m2⟩; clear tok1)
    | (go_at_call 9; have _t := tok2; refine (new_ex _).mono ?_; rintro e W1 ⟨ub, nb, rfl, hU1, b1, n1, n2⟩; have hT1 := hT0.below b1 hT0.ltT hT0.ltM; have hw1 := hw0.trans (b1.mono hw0.size); have r1 := hT0.ltT; have r2 := hT0.ltM; clear tok2)
    | (go_at_call 9; refine (new_ex _).mono ?_; rintro e W2 ⟨xb, ob, rfl, hV2, b2, o1, o2⟩; have hT2 := hT1.below b2 hT1.ltT hT1.ltM; have hU2 := hU1.below b2 hU1.ltT hU1.ltM; have hw2 := hw1.trans (b2.mono hw1.size); have s1 := hU1.ltT; have s2 := hU1.ltM; have q1 := hw0.size; have q2 := hw1.size))
  have d1 : tb ≠ nb ∧ mb ≠ nb ∧ tb ≠ ob ∧ mb ≠ ob ∧ ub ≠ mb ∧ nb ≠ mb ∧ ub ≠ ob ∧ nb ≠ ob ∧ xb ≠ mb ∧ ob ≠ mb ∧ xb ≠ nb ∧ ob ≠ nb ∧ ub ≠ xb ∧ nb ≠ xb ∧ tb ≠ xb ∧ mb ≠ xb ∧ w.heap.size ≤ tb ∧ w.heap.size ≤ mb ∧ w.heap.size ≤ ub ∧ w.heap.size ≤ nb ∧ w.heap.size ≤ xb ∧ w.heap.size ≤ ob := by
    have p1 := b1.size
    have p2 := hT0.ltT
    omega
  obtain ⟨x1, x2, x3, x4, x5, x6, x7, x8, x9, x10, x11, x12, x13, x14, x15, x16, y1, y2, y3, y4, y5, y6⟩ := d1
  clear hT0 hT1 hU1 hw0 hw1 b1 b2 m1 m2 n1 n2 o1 o2 r1 r2 s1 s2 q1 q2
  go_loopw [6] (fun i wr => ∃ (k : Nat) (L : Fls), i = .int .i64 (k : Nat) ∧ k ≤ F.length ∧ L.length ≤ k ∧ Tab wr tb mb L ∧ Tab wr ub nb [] ∧ Tab wr xb ob [] ∧ Below w.heap.size w wr ∧ Hid (wideB F = false → ∀ q, look q L = lastOf q (F.take k))) (fun i _ => F.length - (intOf i).toNat)
  case atStart => exact ⟨0, [], rfl, by omega, by simp, hT2, hU2, hV2, hw2, fun _ q => rfl⟩
  case round =>
    clear hT2 hU2 hV2 hw2
    obtain ⟨k, L, rfl, hk, hkL, hT, hU, hV, hbw, HL⟩ := hrel
    have hsw := hbw.size
    by_cases hkl : k < F.length
    · obtain ⟨bl, of, hia, hbl, c1, c2⟩ := hf k hkl
      obtain ⟨zx, zy⟩ := ze F[k] (List.getElem_mem hkl)
      have HL2 : Hid (wideB F = false → ∀ q, look q (wrL F[k].1 F[k].2 (ins F[k].1 ⟨#[111, 108, 100]⟩ L)) = lastOf q (F.take (k + 1))) := fun hw q => by
        rw [look_two hT.ris (wide_no hw k hkl), List.take_succ_eq_append_getElem hkl, last_snoc, HL.out hw q]
      have hln := len_two (p := F[k].1) (o := ⟨#[111, 108, 100]⟩) (b := F[k].2) hT.ris
      generalize F[k] = x at *
      obtain ⟨px, bx⟩ := x
      simp only at c1 c2 zx zy HL2 hln
      have hst := cells2 hbw hbl c1 c2
      have hc1 := hst.1
      clear HL
      go_wp2_with (go_at_call 15; refine (write_any _ tb mb L px ⟨#[111, 108, 100]⟩ hT (by omega) (by omega) (by decide)).mono ?_; rw [eo, eo2]; rintro e W3 ⟨rfl, T3, k3⟩; have hb3 := belOff hbw k3 hsw (fun i hi => by omega); have U3 := hU.off k3 (by omega) (by omega); have V3 := hV.off k3 (by omega) (by omega); have hst3 := cells2 hb3 hbl c1 c2)
      have hi3 : (ins px ⟨#[111, 108, 100]⟩ L).length ≤ L.length + 1 := length_ins_le
      go_region_held3 (fun W => W.cell? ⟨bl, of + k * 2, none⟩ = some (.string px) ∧ W.cell? ⟨bl, of + k * 2 + 1, none⟩ = some (.string bx))
        (first | assumption | exact hst3 | exact hst4)
        (first
          | (go_at_call 15; refine (write_any _ tb mb _ px bx T3.drew (by omega) (by omega) (by omega)).mono ?_; rintro e W4 ⟨rfl, T4, k4⟩; have hb4 := belOff hb3.drew k4 hb3.size (fun i hi => by omega); have U4 := U3.drew.off k4 (by omega) (by omega); have V4 := V3.drew.off k4 (by omega) (by omega); have hst4 := cells2 hb4 hbl c1 c2))
      clear hst hst3 hc1 hT hU hV hbw hia c1 c2 T3 U3 V3 hb3
      go_wp2
      go_roundw
      case rel => exact ⟨k + 1, _, by simp, by omega, by omega, T4, U4, V4, hb4, HL2⟩
      case measure => simp [intOf]; omega
    · have HLF : Hid (wideB F = false → ∀ q, look q L = lastOf q F) := fun hw q => by
        have := HL.out hw q
        rw [List.take_of_length_le (by omega)] at this
        exact this
      have hLl : L.length * 32 ≤ 140737488351232 := by omega
      have hs0 : At (.int .i64 ((F.length : Int) - 1)) F.length := at_next F.length
      clear HL
      go_wp2
      go_loopw [7] (fun i wr => ∃ (k : Nat) (U : Fls), At i k ∧ k ≤ F.length ∧ U.length ≤ 3 * (F.length - k) ∧ Tab wr tb mb L ∧ Tab wr ub nb U ∧ Tab wr xb ob [] ∧ Below w.heap.size w wr ∧ Hid (wideB F = false → ∀ q, look q U = lastOf q (F.drop k))) (fun i _ => (intOf i + 1).toNat)
      case atStart => exact ⟨F.length, [], hs0, by omega, by simp, hT, hU, hV, hbw, fun _ q => by rw [List.drop_length]; rfl⟩
      case round =>
        clear hs0 hT hU hV hbw hsw
        obtain ⟨kk, U, hAt, hkk, hUl, hT, hU, hV, hbw, HU⟩ := hrel
        have hsw := hbw.size
        rcases hAt with ⟨rfl, rfl⟩ | ⟨j, rfl, rfl⟩
        · have HUF : Hid (wideB F = false → ∀ q, look q U = lastOf q F) := HU
          clear HU
          go_wp2
          go_loopw [9, 10] (fun v i wr => ∃ k : Nat, i = .int .i64 (k : Nat) ∧ k ≤ F.length ∧ v = .bool (wideB (F.take k)) ∧ Tab wr tb mb L ∧ Tab wr ub nb U ∧ Tab wr xb ob [] ∧ Below w.heap.size w wr) (fun _ i _ => F.length - (intOf i).toNat)
          case atStart => exact ⟨0, rfl, by omega, rfl, hT, hU, hV, hbw⟩
          case round =>
            clear hT hU hV hbw hsw
            obtain ⟨i, rfl, hi, rfl, hT, hU, hV, hbw⟩ := hrel
            have hsw := hbw.size
            by_cases hil : i < F.length
            · obtain ⟨bl, of, hia, hbl, c1, c2⟩ := hf i hil
              have hst := cells2 hbw hbl c1 c2
              have hc2 := hst.2
              have HW := wide_take i hil
              cases hwk : wideB (F.take i)
              · by_cases hbz : F[i].2.size ≤ 65536
                · have hd : decide ((65536 : Int) < (F[i].2.size : Int)) = false := decide_eq_false (by omega)
                  have HW2 : Hid (wideB (F.take (i + 1)) = false) := by rw [HW, hwk, decide_eq_false (by omega)]; rfl
                  clear HW hst c1 c2
                  go_wp2
                  go_roundw
                  case rel => exact ⟨i + 1, by simp, by omega, by rw [HW2.out], hT, hU, hV, hbw⟩
                  case measure => simp [intOf]; omega
                · have hd : (65536 : Int) < (F[i].2.size : Int) := by omega
                  have HW2 : Hid (wideB (F.take (i + 1)) = true) := by rw [HW, hwk, decide_eq_true (by omega)]; rfl
                  clear HW hst c1 c2
                  go_wp2
                  go_roundw
                  case rel => exact ⟨i + 1, by simp, by omega, by rw [HW2.out], hT, hU, hV, hbw⟩
                  case measure => simp [intOf]; omega
              · have HW2 : Hid (wideB (F.take (i + 1)) = true) := by rw [HW, hwk]; rfl
                clear HW hst c1 c2
                go_wp2
                go_roundw
                case rel => exact ⟨i + 1, by simp, by omega, by rw [HW2.out], hT, hU, hV, hbw⟩
                case measure => simp [intOf]; omega
            · have hwt : wideB (F.take i) = wideB F := by rw [List.take_of_length_le (by omega)]
              have hfit : fitB L = true := fitB_of hT.ris (fun x hx => (hT.sz x hx).2)
              have e1 : ldE L = 0 := by unfold ldE; rw [hfit]; rfl
              have e2 : ldL L [] = L := by unfold ldL; rw [hfit]; rfl
              have ess := sameB_self L
              have lx := hV.ltT
              have tok1 : True := trivial
              have tok2 : True := trivial
              cases hwd : wideB F
              · have hLU : U = L := (look_ext hT.ris hU.ris (fun q => (HLF.out hwd q).trans (HUF.out hwd q).symm)).symm
                subst hLU
                clear HLF HUF
                rw [hwd] at hwt
                have tok3 : True := trivial
                go_wp2_with (first
                  | (go_at_call 13; have _t := tok1; refine (files_any _ tb mb _ hT (by omega)).mono ?_; rintro e W3 ⟨vf, rfl, hrow3, b3⟩; have V3 := hV.below b3 hV.ltT hV.ltM; have U3 := hU.below b3 hU.ltT hU.ltM; have hb3 := hbw.trans (b3.mono hsw); have hf3 := fat_of_row hrow3; have hl3 := hrow3.lt; clear tok1)
                  | (go_at_call 13; have _t := tok2; refine (files_any _ ub nb _ U3 (by omega)).mono ?_; rintro e W8 ⟨v8, rfl, hrow8, b8⟩; have V8 := V3.below b8 V3.ltT V3.ltM; have hb8 := hb3.trans (b8.mono hb3.size); have hf8 := hf3.below b8 (fun j hj => (hl3 j hj).2); have hz8 := b8.size; clear tok2)
                  | (go_at_call 12; have _t := tok3; refine (same_any _ _ _ _ _ hf8 (fat_of_row hrow8) (by omega) (by omega)).mono ?_; rw [ess]; rintro e W9 ⟨rfl, n9, rfl⟩; have V9 := V8.drewN n9; have hb9 := below_drewN hb8 n9; have hf9 : FAt (W8.drewN n9) vf _ := hf8; clear tok3)
                  | (go_at_call 17; refine (load_any _ xb ob [] _ vf V9 hf9 (by omega) (fun x hx => (hT.sz x hx).1)).mono ?_; rw [e1, e2]; rintro e W4 ⟨zb, rfl, V4, _, k4⟩; have hb4 := belOff hb9 k4 hb9.size (fun i hi => by omega); have hf4 := hf9.off k4 (fun j hj => by have := (hl3 j hj).1; omega))
                  | (go_at_call 13; refine (files_any _ xb zb _ V4 (by omega)).mono ?_; rintro e W5 ⟨v5, rfl, hrow5, b5⟩; have hb5 := hb4.trans (b5.mono hb4.size); have hf5 := hf4.below b5 (fun j hj => by have h1 := (hl3 j hj).2; have h2 := k4.size; have h3 : (W8.drewN n9).heap.size = W8.heap.size := rfl; omega))
                  | (go_at_call 12; refine (same_any _ _ _ _ _ (fat_of_row hrow5) hf5 (by omega) (by omega)).mono ?_; rw [ess]; rintro e W6 ⟨rfl, n6, rfl⟩; have hb6 := below_drewN hb5 n6)
                  | (go_at_call 14; refine (sure_any _).mono ?_; rintro e W7 ⟨rfl, b7⟩; have hb7 := hb6.trans (b7.mono hb6.size)))
                go_ret
                exact ⟨rfl, hb7⟩
              · clear HLF HUF tok2
                rw [hwd] at hwt
                go_wp2_with (first
                  | (go_at_call 13; have _t := tok1; refine (files_any _ tb mb L hT (by omega)).mono ?_; rintro e W3 ⟨vf, rfl, hrow3, b3⟩; have V3 := hV.below b3 hV.ltT hV.ltM; have hb3 := hbw.trans (b3.mono hsw); have hf3 := fat_of_row hrow3; have hl3 := hrow3.lt; clear tok1)
                  | (go_at_call 17; refine (load_any _ xb ob [] L vf V3 hf3 (by omega) (fun x hx => (hT.sz x hx).1)).mono ?_; rw [e1, e2]; rintro e W4 ⟨zb, rfl, V4, _, k4⟩; have hb4 := belOff hb3 k4 hb3.size (fun i hi => by omega); have hf4 := hf3.off k4 (fun j hj => by have := (hl3 j hj).1; omega))
                  | (go_at_call 13; refine (files_any _ xb zb L V4 (by omega)).mono ?_; rintro e W5 ⟨v5, rfl, hrow5, b5⟩; have hb5 := hb4.trans (b5.mono hb4.size); have hf5 := hf4.below b5 (fun j hj => by have := (hl3 j hj).2; have := k4.size; omega))
                  | (go_at_call 12; refine (same_any _ _ _ L L (fat_of_row hrow5) hf5 (by omega) (by omega)).mono ?_; rw [ess]; rintro e W6 ⟨rfl, n6, rfl⟩; have hb6 := below_drewN hb5 n6)
                  | (go_at_call 14; refine (sure_any _).mono ?_; rintro e W7 ⟨rfl, b7⟩; have hb7 := hb6.trans (b7.mono hb6.size)))
                go_ret
                exact ⟨rfl, hb7⟩
        · have hjl : j < F.length := by omega
          obtain ⟨bl, of, hia, hbl, c1, c2⟩ := hf j hjl
          obtain ⟨zx, zy⟩ := ze F[j] (List.getElem_mem hjl)
          have HH := fun h => (back_has hjl · h : (∀ q, look q U = lastOf q (F.drop (j + 1))) → _)
          have HN := fun h hs => (fun hi => back_new (o := ⟨#[111, 108, 100]⟩) hjl hU.ris hi h hs : (∀ q, look q U = lastOf q (F.drop (j + 1))) → _)
          have HW : Hid (65536 < F[j].2.size → wideB F = true) := fun h => List.any_eq_true.2 ⟨F[j], List.getElem_mem hjl, by simpa using h⟩
          have hnx := at_next j
          cases hhs : hasP F[j].1 U
          · have hi3 : (ins F[j].1 ⟨#[111, 108, 100]⟩ U).length ≤ U.length + 1 := length_ins_le
            have hln := wrL_len (p := F[j].1) (b := F[j].2) (L := ins F[j].1 ⟨#[111, 108, 100]⟩ U)
            by_cases hbz : F[j].2.size ≤ 65536
            · have HU2 : Hid (wideB F = false → ∀ q, look q (wrL F[j].1 F[j].2 (ins F[j].1 ⟨#[111, 108, 100]⟩ U)) = lastOf q (F.drop j)) := fun hw => HN hhs hbz (HU.out hw)
              have ez : wrE F[j].2 = 0 := by unfold wrE; rw [if_pos hbz]
              generalize F[j] = x at *
              obtain ⟨px, bx⟩ := x
              simp only at c1 c2 zx zy hhs hbz ez HU2 hi3 hln
              have hst := cells2 hbw hbl c1 c2
              have hc1 := hst.1
              clear HH HN HW HU
              go_wp2_with (first
                | (go_at_call 19; refine (has_any _ ub nb U px hU (by omega)).mono ?_; rw [hhs]; rintro e W3 ⟨rfl, b3⟩; have T3 := hT.below b3 hT.ltT hT.ltM; have U3 := hU.below b3 hU.ltT hU.ltM; have V3 := hV.below b3 hV.ltT hV.ltM; have hb3 := hbw.trans (b3.mono hsw); have hst3 := cells2 hb3 hbl c1 c2; have hc3 := hst3.1)
                | (go_at_call 15; refine (write_any _ ub nb U px ⟨#[111, 108, 100]⟩ U3 (by omega) (by omega) (by decide)).mono ?_; rw [eo, eo2]; rintro e W4 ⟨rfl, U4, k4⟩; have hb4 := belOff hb3 k4 hb3.size (fun i hi => by omega); have T4 := T3.off k4 (by omega) (by omega); have V4 := V3.off k4 (by omega) (by omega); have hst4 := cells2 hb4 hbl c1 c2))
              go_region_held3 (fun W => W.cell? ⟨bl, of + j * 2, none⟩ = some (.string px) ∧ W.cell? ⟨bl, of + j * 2 + 1, none⟩ = some (.string bx))
                (first | assumption | exact hst4 | exact hst5)
                (first
                  | (go_at_call 15; refine (write_any _ ub nb _ px bx U4.drew (by omega) (by omega) (by omega)).mono ?_; rw [ez]; rintro e W5 ⟨rfl, U5, k5⟩; have hb5 := belOff hb4.drew k5 hb4.size (fun i hi => by omega); have T5 := T4.drew.off k5 (by omega) (by omega); have V5 := V4.drew.off k5 (by omega) (by omega); have hst5 := cells2 hb5 hbl c1 c2))
              clear hst hst3 hst4 hc1 hc3 hT hU hV hbw hia c1 c2 T3 U3 V3 hb3 T4 U4 V4 hb4
              go_wp2
              go_roundw
              case rel => exact ⟨j, _, hnx, by omega, by omega, T5, U5, V5, hb5, HU2⟩
              case measure => simp [intOf]
            · have HU2 : ∀ M : Fls, Hid (wideB F = false → ∀ q, look q M = lastOf q (F.drop j)) := fun M hw => by
                have := HW.out (by omega)
                rw [hw] at this
                cases this
              have ez : wrE F[j].2 = 20 := by unfold wrE; rw [if_neg hbz]
              generalize hxx : F[j] = x at *
              obtain ⟨px, bx⟩ := x
              simp only at c1 c2 zx zy hhs hbz ez hi3 hln
              have hst := cells2 hbw hbl c1 c2
              have hc1 := hst.1
              clear HH HN HW HU hxx
              go_wp2_with (first
                | (go_at_call 19; refine (has_any _ ub nb U px hU (by omega)).mono ?_; rw [hhs]; rintro e W3 ⟨rfl, b3⟩; have T3 := hT.below b3 hT.ltT hT.ltM; have U3 := hU.below b3 hU.ltT hU.ltM; have V3 := hV.below b3 hV.ltT hV.ltM; have hb3 := hbw.trans (b3.mono hsw); have hst3 := cells2 hb3 hbl c1 c2; have hc3 := hst3.1)
                | (go_at_call 15; refine (write_any _ ub nb U px ⟨#[111, 108, 100]⟩ U3 (by omega) (by omega) (by decide)).mono ?_; rw [eo, eo2]; rintro e W4 ⟨rfl, U4, k4⟩; have hb4 := belOff hb3 k4 hb3.size (fun i hi => by omega); have T4 := T3.off k4 (by omega) (by omega); have V4 := V3.off k4 (by omega) (by omega); have hst4 := cells2 hb4 hbl c1 c2))
              go_region_held3 (fun W => W.cell? ⟨bl, of + j * 2, none⟩ = some (.string px) ∧ W.cell? ⟨bl, of + j * 2 + 1, none⟩ = some (.string bx))
                (first | assumption | exact hst4 | exact hst5)
                (first
                  | (go_at_call 15; refine (write_any _ ub nb _ px bx U4.drew (by omega) (by omega) (by omega)).mono ?_; rw [ez]; rintro e W5 ⟨rfl, U5, k5⟩; have hb5 := belOff hb4.drew k5 hb4.size (fun i hi => by omega); have T5 := T4.drew.off k5 (by omega) (by omega); have V5 := V4.drew.off k5 (by omega) (by omega); have hst5 := cells2 hb5 hbl c1 c2))
              clear hst hst3 hst4 hst5 hc1 hc3 hT hU hV hbw T3 U3 V3 hb3 T4 U4 V4 hb4
              generalize wrL px bx (ins px ⟨#[111, 108, 100]⟩ U) = U1 at *
              go_wp2
              go_loopw [8] (fun i wr => ∃ m : Nat, At i m ∧ m ≤ j ∧ Tab wr tb mb L ∧ Tab wr ub nb U1 ∧ Tab wr xb ob [] ∧ Below w.heap.size w wr) (fun i _ => (intOf i + 1).toNat)
              case atStart => exact ⟨j, hnx, by omega, T5, U5, V5, hb5⟩
              case round =>
                clear T5 U5 V5 hb5
                obtain ⟨m0, hAt, hm, hT, hU, hV, hbw⟩ := hrel
                have hsw := hbw.size
                rcases hAt with ⟨rfl, rfl⟩ | ⟨m, rfl, rfl⟩
                · go_wp2
                  go_roundw
                  case rel => exact ⟨j, U1, hnx, by omega, by omega, hT, hU, hV, hbw, HU2 _⟩
                  case measure => simp [intOf]
                · have hml : m < F.length := by omega
                  have hnm := at_next m
                  obtain ⟨bl2, of2, hia2, hbl2, d1, d2⟩ := hf m hml
                  obtain ⟨zx2, zy2⟩ := ze F[m] (List.getElem_mem hml)
                  generalize F[m] = y at *
                  obtain ⟨py, by_⟩ := y
                  simp only at d1 d2 zx2 zy2
                  have hst := cells2 hbw hbl c1 c2
                  have hst2 := cells2 hbw hbl2 d1 d2
                  have hc1 := hst.1
                  have hd1 := hst2.1
                  have hd2 := hst2.2
                  cases hpe : eqB py px
                  · have hp2 : (py.toList == px.toList) = false := hpe
                    go_wp2
                    go_quiet (fail)
                    go_wp2
                    go_roundw
                    case rel => exact ⟨m, hnm, by omega, hT.drewN _, hU.drewN _, hV.drewN _, below_drewN hbw _⟩
                    case measure => simp [intOf]
                  · have hp2 : (py.toList == px.toList) = true := hpe
                    by_cases hyz : by_.size ≤ 65536
                    · have hd : (by_.size : Int) ≤ (65536 : Int) := by omega
                      have hcc := fun n => cells2 (below_drewN hbw n) hbl2 d1 d2
                      go_wp2
                      go_quiet (fail)
                      go_wp2_with fail
                      have hstq := hcc nq
                      go_region_held3 (fun W => W.cell? ⟨bl2, of2 + m * 2, none⟩ = some (.string py) ∧ W.cell? ⟨bl2, of2 + m * 2 + 1, none⟩ = some (.string by_))
                        (first | assumption | exact hstq | exact hst6)
                        (first
                          | (go_at_call 15; refine (write_any _ ub nb U1 py by_ (hU.drewN _).drew (by omega) (by omega) (by omega)).mono ?_; rintro e W6 ⟨rfl, U6, k6⟩; have hb6 := belOff (below_drewN hbw _).drew k6 hsw (fun i hi => by omega); have T6 := (hT.drewN _).drew.off k6 (by omega) (by omega); have V6 := (hV.drewN _).drew.off k6 (by omega) (by omega); have hst6 := cells2 hb6 hbl2 d1 d2))
                      have hl6 := wrL_len (p := py) (b := by_) (L := U1)
                      clear hst hst2 hstq hcc hc1 hd1 hd2 hT hU hV hbw hia hia2 c1 c2 d1 d2
                      go_wp2
                      go_roundw
                      case rel => exact ⟨j, _, hnx, by omega, by omega, T6, U6, V6, hb6, HU2 _⟩
                      case measure => simp [intOf]
                    · have hd : decide ((by_.size : Int) ≤ (65536 : Int)) = false := decide_eq_false (by omega)
                      go_wp2
                      go_quiet (fail)
                      go_wp2
                      go_roundw
                      case rel => exact ⟨m, hnm, by omega, hT.drewN _, hU.drewN _, hV.drewN _, below_drewN hbw _⟩
                      case measure => simp [intOf]
          · have HU2 : Hid (wideB F = false → ∀ q, look q U = lastOf q (F.drop j)) := fun hw => HH hhs (HU.out hw)
            generalize F[j] = x at *
            obtain ⟨px, bx⟩ := x
            simp only at c1 c2 zx zy hhs
            have hst := cells2 hbw hbl c1 c2
            have hc1 := hst.1
            clear HH HN HW HU
            go_wp2_with (go_at_call 19; refine (has_any _ ub nb U px hU (by omega)).mono ?_; rw [hhs]; rintro e W3 ⟨rfl, b3⟩; have T3 := hT.below b3 hT.ltT hT.ltM; have U3 := hU.below b3 hU.ltT hU.ltM; have V3 := hV.below b3 hV.ltT hV.ltM; have hb3 := hbw.trans (b3.mono hsw))
            go_roundw
            case rel => exact ⟨j, U, hnx, by omega, by omega, T3, U3, V3, hb3, HU2⟩
            case measure => simp [intOf]

theorem contract (H : Type) (enc : TypeId × Value → H) (W : World) (base : Nat) (args : Array Value) (ds gs : List (DataW H)) (before : List MemPlace)
    (hval : ∀ (j : Nat) t v, Try.f6.params[j]? = some t → args[j]? = some v → Value.okWide Try.prog W .any base t v)
    (hW : DataW.Whole enc Try.prog Try.f6.params.toList Rows.vfsOrderSpec.vars false W args.toList ds gs before)
    (hsz : (DataW.weightsEach Try.prog (Try.f6.params.toList ++ Rows.vfsOrderSpec.plain.varTypes Try.prog) (ds ++ gs)).all (· ≤ reachBytes) = true) :
    Calls Try.prog 6 args W fun e W' => ∃ v, e = .returned v ∧ Rows.vfsOrderSpec.post enc Try.prog Try.f6 false true false false W args v W' := by
  have hW' := hW
  obtain ⟨p, q, hA0, hV, rfl, hfz, hnd⟩ := hW
  have hA : DataW.TrodAll enc Try.prog W 0 (fun _ => true) true Try.f6.params.toList args.toList ds p := hA0
  have hAll := hA
  rw [Try.params6] at hA hval hsz
  obtain ⟨v0, vs0, d0, ds0, p0, q0, hargs, rfl, rfl, h0, r0⟩ := trodAll_cons hA
  obtain ⟨rfl, rfl, rfl⟩ := trodAll_nil r0
  obtain rfl : args = #[v0] := by cases args; simp_all
  obtain ⟨rfl, rfl⟩ := trodVars_none hV
  have hlt := hW'.lt
  have m0 : ∀ n ∈ d0.weights Try.prog 26, n ≤ 140737488351232 := fun n hn => of_decide_eq_true (List.all_eq_true.1 hsz n (DataW.weights_mem_each (j := 0) rfl rfl n hn))
  obtain ⟨F0, f0, z0⟩ := open_files (hval 0 26 v0 rfl rfl) h0
  refine (walk v0 F0 W f0 (z0.1 140737488351232 m0)).mono fun e W' ⟨he, bel⟩ => ?_
  subst he
  exact ⟨_, rfl, _, _, _, [], _, [], hW', trodAll_mk1 (shut_bool Try.underlying4 _), below_trodAll laidOut bel _ (by kernel_rfl) hAll (fun x hx => hlt x (by simpa using hx)), rfl, bel.frame _, fun h => by cases h⟩

set_option maxRecDepth 100000 in
theorem lifted (os : Os) (started : os.Started) (H : Type) (enc : TypeId × Value → H) :
    ReturnsInHanded {} Try.checked os 6 .any (Rows.vfsOrderSpec.pre6 enc Try.prog Try.f6 Rows.vfsOrderRow.domain false) (Rows.vfsOrderSpec.post enc Try.prog Try.f6 false true false false) := by
  refine returnsInHanded_of_change_sized (C := Try.checked) own started (by kernel_rfl) Try.func6
    (ChangeSpec.witness6 (enc := enc) (C := Try.checked) false ⟨#[], #[.slice none 0 0], []⟩ 8 (by kernel_rfl) (by kernel_rfl) (by kernel_rfl) (by kernel_rfl)) ?_
  intro W base args ds gs before hval hW _ hsz _
  exact contract H enc W base args ds gs before hval hW hsz

theorem said : Rows.VfsOrderSaid :=
  OpenClaim.holds_of_wide 6 Try.f6 rfl rfl rfl rfl rfl rfl rfl ⟨rfl, rfl, rfl, rfl, rfl⟩ rfl rfl rfl rfl rfl (by kernel_rfl) Try.func6 (by kernel_rfl)
    (of_decide_eq_true (by kernel_rfl)) (by unfold Func.isWrapper; first | (rw [if_pos (by decide +kernel)]; kernel_rfl) | (rw [if_neg (by decide +kernel)]; exact ⟨rfl, rfl⟩))
    (fun os started H enc _ => lifted os started H enc)

end Go.Proofs.Ytoipggaepkedmaa.vfsOrder
