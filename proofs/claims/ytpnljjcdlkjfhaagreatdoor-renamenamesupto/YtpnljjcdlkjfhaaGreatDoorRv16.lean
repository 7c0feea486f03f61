/- Own text. Which module and name a text tells: the program's answer. -/
import Derived.Test.YtpnljjcdlkjfhaaGreatDoorRv15
set_option linter.unusedVariables false
set_option linter.unusedSimpArgs false
namespace Go.Proofs.YtpnljjcdlkjfhaaGreatDoor
open Go.RowKit
/-- strconv's two errors are there. -/
structure EvS (w : World) : Prop where
  s : ∃ te pe, w.cell? ⟨1, 0, none⟩ = some (.iface te pe)
  r : ∃ te pe, w.cell? ⟨2, 0, none⟩ = some (.iface te pe)
theorem cell_lt {w : World} {b : Nat} {v : Value} (h : w.cell? ⟨b, 0, none⟩ = some v) : b < w.heap.size := World.block_lt_of_cell? w _ h
theorem EvS.bel {w w' : World} (h : EvS w) (b : Below w.heap.size w w') : EvS w' := by
  obtain ⟨⟨a, c, hs⟩, ⟨d, e, hr⟩⟩ := h
  exact ⟨⟨a, c, (b.cell (p := ⟨_, 0, none⟩) (cell_lt hs)).trans hs⟩, ⟨d, e, (b.cell (p := ⟨_, 0, none⟩) (cell_lt hr)).trans hr⟩⟩
set_option maxRecDepth 100000 in
theorem atoi_any (s : ByteArray) (w : World) (hs : s.size ≤ 4194304) (he : EvS w) : Calls Tryz.prog 15 #[.string s] w fun e w' =>
    ((∃ v, Lib.atoiAll s.data.toList = .ok v ∧ -9223372036854775808 ≤ v ∧ v ≤ 9223372036854775807 ∧ e = .returned (.tuple #[.int .i64 v, .nilIface])) ∨ ((∀ v, Lib.atoiAll s.data.toList ≠ .ok v) ∧ ∃ n te pe, e = .returned (.tuple #[.int .i64 n, .iface te pe]))) ∧ Below w.heap.size w w' := by
  obtain ⟨⟨a, c, h1⟩, ⟨d, g, h2⟩⟩ := he
  cases h : Lib.atoiAll s.data.toList with
  | ok v =>
    refine (Tryz.strconv_Atoi_ok s (by omega) v h w).mono ?_
    rintro e w' ⟨rfl, hw⟩
    have hb := Lib.atoiAll_bounds h
    refine ⟨.inl ⟨v, rfl, hb.1, hb.2, rfl⟩, ?_⟩
    rcases hw with rfl | ⟨t, rfl⟩
    · exact Below.refl _ _
    · exact Lib.bytesWorld_below _ _ _
  | «syntax» =>
    refine (Tryz.strconv_Atoi_syntax s (by omega) h _ w h1 (.inr ⟨_, _, rfl⟩)).mono ?_
    rintro e w' ⟨N, rfl, _, _, b⟩
    exact ⟨.inr ⟨(fun v h => by cases h), _, _, _, rfl⟩, b⟩
  | range =>
    refine (Tryz.strconv_Atoi_range s (by omega) h _ w h2 (.inr ⟨_, _, rfl⟩)).mono ?_
    rintro e w' ⟨N, rfl, _, _, b⟩
    exact ⟨.inr ⟨(fun v h => by cases h), _, _, _, rfl⟩, b⟩
theorem dg_atoi : ∀ m : Nat, m < 64 → Lib.atoiAll (dgL m) = .ok (m : Int) := by
  have h : ∀ m : Fin 64, Lib.atoiAll (dgL m) = .ok ((m : Nat) : Int) := by
    intro m
    have : ∀ m : Fin 64, dgL m = if m.val ≤ 9 then [48 + m.val.toUInt8] else [48 + (m.val / 10).toUInt8, 48 + (m.val % 10).toUInt8] := fun m => by
      rw [dgL]
      by_cases h : m.val ≤ 9
      · rw [if_pos h, if_pos h]
      · rw [if_neg h, if_neg h, dgL, if_pos (by omega)]
        rfl
    rw [this]
    revert m
    decide +kernel
  intro m hm
  exact h ⟨m, hm⟩
/-- no $: no name of a module. -/
theorem bk_none {s : List UInt8} (h : (36 : UInt8) ∉ s) : ∀ m n, ¬ Bk okN s m n := fun m n k => h (by rw [k.e]; simp)
set_option maxRecDepth 100000 in
set_option maxHeartbeats 8000000 in
theorem backP_any (s : ByteArray) (w : World) (hs : s.size ≤ 4194304) (he : WEnv w) (hv : EvS w) : Calls Tryz.prog 5 #[.string s] w fun e w' => AnsB s.data.toList e ∧ Below w.heap.size w w' := by
  have CL := Tryz.strings_LastIndexByte s 36 (by omega) w
  have HSZ : Hid (s.size = s.data.toList.length) := Lib.size_eq s
  have hb : ∀ j, j < s.size → ∃ x, s.data.toList[j]? = some x ∧ s.data[j]! = x := fun j h => by
    have : j < s.data.size := h
    exact ⟨s.data[j], by rw [Array.getElem?_toList]; exact Array.getElem?_eq_getElem this, by rw [getElem!_pos s.data j this]⟩
  rcases Lib.lastIndexByte_spec s 36 with ⟨e, hn⟩ | ⟨i, hi, e, h1, h2⟩
  · have HA : Hid (∀ m n, ¬ Bk okN s.data.toList m n) := bk_none fun h => by
      obtain ⟨j, hj⟩ := List.getElem?_of_mem h
      have hl := (List.getElem?_eq_some_iff.1 hj).1
      rw [← HSZ.out] at hl
      obtain ⟨x, hx, hy⟩ := hb j hl
      rw [hj] at hx
      refine hn j hl ?_
      rw [hy, ← Option.some.inj hx]
      rfl
    rw [e] at CL
    clear hn hb
    go_enter Tryz.func5, Tryz.ntmps5
    go_wp2_with fail
    go_at_call 14
    refine CL.mono ?_
    rintro e W1 ⟨rfl, rfl⟩
    go_wp2
    go_ret3
    exact ⟨.inr ⟨HA.out, rfl⟩, Below.refl _ _⟩
  · have hrest : (36 : UInt8) ∉ (s.extract (i + 1) s.size).data.toList := fun h => by
      rw [suf_data] at h
      obtain ⟨j, hj⟩ := List.getElem?_of_mem h
      rw [List.getElem?_drop] at hj
      have hl := (List.getElem?_eq_some_iff.1 hj).1
      rw [← HSZ.out] at hl
      obtain ⟨x, hx, hy⟩ := hb (i + 1 + j) hl
      rw [hj] at hx
      refine h2 (i + 1 + j) (by omega) hl ?_
      rw [hy, ← Option.some.inj hx]
      rfl
    have hsign : s.data.toList = s.data.toList.take i ++ 36 :: s.data.toList.drop (i + 1) := by
      obtain ⟨x, hx, hy⟩ := hb i hi
      have : x = 36 := by rw [hy] at h1; exact UInt8.toNat_inj.1 (by have : (36 : UInt8).toNat = 36 := rfl; omega)
      subst this
      have hl := (List.getElem?_eq_some_iff.1 hx).1
      have hg : s.data.toList[i] = 36 := by have := (List.getElem?_eq_some_iff.1 hx).2; exact this
      conv => lhs; rw [← List.take_append_drop i s.data.toList, List.drop_eq_getElem_cons hl, hg]
    -- what a name would say
    have HK : Hid (∀ m n, Bk okN s.data.toList m n → n = (s.extract 0 i).data.toList ∧ dgL m = (s.extract (i + 1) s.size).data.toList) := fun m n k => by
      have := cut_sign (dgL_sign m) (by rw [← suf_data]; exact hrest) (k.e.symm.trans hsign)
      rw [pre_data, suf_data]
      exact this
    have HT : Hid ((s.extract i s.size).data.toList = 36 :: (s.extract (i + 1) s.size).data.toList) := by
      show _ = _
      rw [suf_data, suf_data]
      conv => lhs; rw [hsign]
      have hl : i ≤ s.data.toList.length := by rw [← HSZ.out]; omega
      rw [List.drop_append_of_le_length (by simp; omega), List.drop_take]
      simp
    have HW : Hid (s.data.toList = (s.extract 0 i).data.toList ++ (s.extract i s.size).data.toList) := by
      show _ = _
      rw [pre_data, suf_data, List.take_append_drop]
    rw [e] at CL
    have hle : i + 1 ≤ s.size := by omega
    have hle2 : i ≤ s.size := by omega
    have hrz : (s.extract (i + 1) s.size).size ≤ 4194304 := by simp; omega
    have hnz : (s.extract 0 i).size ≤ 4194304 := by simp; omega
    have CA := atoi_any (s.extract (i + 1) s.size) w hrz hv
    clear hb h1 h2 hsign hrest hrz
    go_enter Tryz.func5, Tryz.ntmps5
    go_wp2_with fail
    go_at_call 14
    refine CL.mono ?_
    rintro e W1 ⟨rfl, rfl⟩
    go_wp2_with fail
    go_at_call 15
    refine CA.mono ?_
    rintro e W2 ⟨h, b2⟩
    rcases h with ⟨v, ha, hv0, hv1, rfl⟩ | ⟨ha, n, te, pe, rfl⟩
    · have B2 : Hid _ := b2
      have HV : Hid (∀ m n, Bk okN s.data.toList m n → v = (m : Nat) ∧ m < 64) := fun m n k => by
        have := dg_atoi m k.lt
        rw [(HK.out m n k).2, ha] at this
        injection this with this
        exact ⟨this, k.lt⟩
      clear ha CL CA b2
      by_cases h64 : 64 ≤ v
      · have HA : Hid (∀ m n, ¬ Bk okN s.data.toList m n) := fun m n k => by have := HV.out m n k; omega
        have hge : (v ≥ 64) = True := eq_true h64
        go_wp2_with fail
        refine region_held (fun _ => True) (by kernel_rfl) trivial (fun hTr => ?_)
        refine tH 0 ?_
        simp only [List.set]
        refine tH 1 ?_
        simp only [List.set]
        refine tH 2 ?_
        simp only [List.set]
        refine tH 3 ?_
        simp only [List.set]
        refine tH 4 ?_
        simp only [List.set]
        refine tH 5 ?_
        simp only [List.set]
        refine tH 6 ?_
        simp only [List.set]
        refine tS 7 ?_
        simp only [List.set]
        refine tS 8 ?_
        simp only [List.set]
        refine tS 9 ?_
        simp only [List.set]
        refine tS 10 ?_
        simp only [List.set]
        refine tS 11 ?_
        simp only [List.set]
        refine tS 12 ?_
        simp only [List.set]
        refine tH 13 ?_
        simp only [List.set]
        refine tH 14 ?_
        simp only [List.set]
        refine tS 15 ?_
        simp only [List.set]
        refine tS 16 ?_
        simp only [List.set]
        refine tS 17 ?_
        simp only [List.set]
        refine tS 18 ?_
        simp only [List.set]
        refine tS 19 ?_
        simp only [List.set]
        refine tS 20 ?_
        simp only [List.set]
        refine tS 21 ?_
        simp only [List.set]
        refine tH 22 ?_
        simp only [List.set]
        refine wpAnyH_done (by kernel_rfl) ?_ _
        go_wp2
        go_ret3
        exact ⟨.inr ⟨HA.out, rfl⟩, B2.out.drew⟩
      · have CS := fun X => spaceP_any v X hv0 hv1
        have hlt : v < 64 := by omega
        have hge : (v ≥ 64) = False := eq_false (by omega)
        have hge2 : (64 ≤ v) = False := eq_false (by omega)
        obtain ⟨t, ht⟩ : ∃ t : ByteArray, (⟨(nmL v []).toArray⟩ : ByteArray) = t := ⟨_, rfl⟩
        have HTT : Hid (nmL v [] = t.data.toList) := by rw [← ht]; rfl
        simp only [ht] at CS
        clear ht
        by_cases hq : s.extract i s.size = t
        · have hv2 : 0 ≤ v := Int.not_lt.1 fun h => by
            have h1 := HT.out
            rw [hq, ← HTT.out, nmL, if_pos h] at h1
            cases h1
          obtain ⟨m, rfl⟩ : ∃ m : Nat, v = m := ⟨v.toNat, by omega⟩
          have HM : Hid (okN (s.extract 0 i).data.toList = true → Bk okN s.data.toList m (s.extract 0 i).data.toList) := fun h => ⟨by
            have h1 := HW.out
            have h2 := HTT.out
            rw [nmL_nat] at h2
            rw [hq, ← h2] at h1
            exact h1, by omega, h⟩
          have HF : Hid (okN (s.extract 0 i).data.toList = false → ∀ m n, ¬ Bk okN s.data.toList m n) := fun h m n k => by
            rw [← (HK.out m n k).1, k.ok] at h
            cases h
          have he1 : ((s.extract i s.size).toList == t.toList) = true := by rw [hq]; simp
          have he2 : ((s.extract i s.size).toList != t.toList) = false := by rw [hq]; simp
          have CF := fun X (b : Below W1.heap.size W1 X) => ofm_any (s.extract 0 i) X hnz (he.bel b)
          have CC := fun X => clone_anyT (s.extract 0 i) X (by omega)
          clear hq
          generalize s.extract 0 i = nm at *
          cases h0 : nm.data.toList.isEmpty with
          | true =>
            have HA : Hid (AnsB s.data.toList (.returned (.tuple #[.int .i64 (m : Nat), .string nm, .bool true]))) := .inl ⟨m, _, HM.out (by unfold okN; rw [h0]; rfl), by rw [ba_of]⟩
            have g1 : (nm.toList == []) = true := by rw [bytes_toList, List.isEmpty_iff.1 h0]; rfl
            have g2 : (nm.toList != []) = false := by unfold bne; rw [g1]; rfl
            have g3 : nm.toList.isEmpty = true := by rw [bytes_toList]; exact h0
            clear h0
            go_wp2_with fail
            refine region_held (fun _ => True) (by kernel_rfl) trivial (fun hTr => ?_)
            refine tH 0 ?_
            simp only [List.set]
            refine tH 1 ?_
            simp only [List.set]
            refine tH 2 ?_
            simp only [List.set]
            refine tH 3 ?_
            simp only [List.set]
            refine tH 4 ?_
            simp only [List.set]
            refine tH 5 ?_
            simp only [List.set]
            refine tH 6 ?_
            simp only [List.set]
            refine tH 7 ?_
            simp only [List.set]
            refine tH 8 ?_
            simp only [List.set]
            refine tH 9 ?_
            simp only [List.set]
            refine tH 10 ?_
            simp only [List.set]
            refine wpAnyH_ready (rs := [11]) (by kernel_rfl) (by simp) ?_
            refine AllReadyH.cons rfl (fun K hK => ?_) AllReadyH.nil
            try simp only [List.getElem_toArray, List.getElem_cons_zero, List.getElem_cons_succ]
            go_simp
            refine (CS _).mono ?_
            rintro e9 X3 ⟨rfl, b3⟩
            have B3 := B2.out.drew.trans (b3.mono B2.out.drew.size)
            refine hK.out _ _ trivial (fun _ => ?_)
            clear hK K
            try simp only [Act.put, List.getElem_toArray, List.getElem_cons_zero, List.getElem_cons_succ, List.setIfInBounds_toArray, List.set_cons_zero, List.set_cons_succ]
            refine tH 12 ?_
            simp only [List.set]
            refine tH 13 ?_
            simp only [List.set]
            refine tH 14 ?_
            simp only [List.set]
            refine tH 15 ?_
            simp only [List.set]
            refine tH 16 ?_
            simp only [List.set]
            refine tH 17 ?_
            simp only [List.set]
            refine tS 18 ?_
            simp only [List.set]
            refine tS 19 ?_
            simp only [List.set]
            refine tS 20 ?_
            simp only [List.set]
            refine tH 21 ?_
            simp only [List.set]
            refine tH 22 ?_
            simp only [List.set]
            refine wpAnyH_done (by kernel_rfl) ?_ _
            have HB3 : Hid _ := B3
            clear B3 b3
            go_wp2_with fail
            go_at_call 17
            refine (CC _).mono ?_
            rintro e W5 ⟨rfl, b5⟩
            go_wp2
            go_ret3
            exact ⟨HA.out, HB3.out.trans (b5.mono HB3.out.size)⟩
          | false =>
            have g1 : (nm.toList == []) = false := by
              rw [bytes_toList]
              cases hl : nm.data.toList with
              | nil => rw [hl] at h0; cases h0
              | cons x r => rfl
            have g2 : (nm.toList != []) = true := by unfold bne; rw [g1]; rfl
            have g3 : nm.toList.isEmpty = false := by rw [bytes_toList]; exact h0
            cases hp : propT true nm.data.toList with
            | true =>
              have HA : Hid (AnsB s.data.toList (.returned (.tuple #[.int .i64 (m : Nat), .string nm, .bool true]))) := .inl ⟨m, _, HM.out (by unfold okN; rw [hp]; simp), by rw [ba_of]⟩
              rw [hp] at CF
              clear h0 hp
              go_wp2_with fail
              refine region_held (fun _ => True) (by kernel_rfl) trivial (fun hTr => ?_)
              refine tH 0 ?_
              simp only [List.set]
              refine tH 1 ?_
              simp only [List.set]
              refine tH 2 ?_
              simp only [List.set]
              refine tH 3 ?_
              simp only [List.set]
              refine tH 4 ?_
              simp only [List.set]
              refine tH 5 ?_
              simp only [List.set]
              refine tH 6 ?_
              simp only [List.set]
              refine tH 7 ?_
              simp only [List.set]
              refine tH 8 ?_
              simp only [List.set]
              refine tH 9 ?_
              simp only [List.set]
              refine tH 10 ?_
              simp only [List.set]
              refine wpAnyH_ready (rs := [11]) (by kernel_rfl) (by simp) ?_
              refine AllReadyH.cons rfl (fun K hK => ?_) AllReadyH.nil
              try simp only [List.getElem_toArray, List.getElem_cons_zero, List.getElem_cons_succ]
              go_simp
              refine (CS _).mono ?_
              rintro e9 X3 ⟨rfl, b3⟩
              have B3 := B2.out.drew.trans (b3.mono B2.out.drew.size)
              refine hK.out _ _ trivial (fun _ => ?_)
              clear hK K
              try simp only [Act.put, List.getElem_toArray, List.getElem_cons_zero, List.getElem_cons_succ, List.setIfInBounds_toArray, List.set_cons_zero, List.set_cons_succ]
              refine tH 12 ?_
              simp only [List.set]
              refine tH 13 ?_
              simp only [List.set]
              refine tH 14 ?_
              simp only [List.set]
              refine tH 15 ?_
              simp only [List.set]
              refine tH 16 ?_
              simp only [List.set]
              refine tH 17 ?_
              simp only [List.set]
              refine tH 18 ?_
              simp only [List.set]
              refine wpAnyH_ready (rs := [19]) (by kernel_rfl) (by simp) ?_
              refine AllReadyH.cons rfl (fun K hK => ?_) AllReadyH.nil
              try simp only [List.getElem_toArray, List.getElem_cons_zero, List.getElem_cons_succ]
              go_simp
              refine (CF _ B3).mono ?_
              rintro e9 X4 ⟨rfl, b4⟩
              have B4 := B3.trans (b4.mono B3.size)
              refine hK.out _ _ trivial (fun _ => ?_)
              clear hK K
              try simp only [Act.put, List.getElem_toArray, List.getElem_cons_zero, List.getElem_cons_succ, List.setIfInBounds_toArray, List.set_cons_zero, List.set_cons_succ]
              refine tH 20 ?_
              simp only [List.set]
              refine tH 21 ?_
              simp only [List.set]
              refine tH 22 ?_
              simp only [List.set]
              refine wpAnyH_done (by kernel_rfl) ?_ _
              have HB4 : Hid _ := B4
              clear B3 b3 B4 b4
              go_wp2_with fail
              go_at_call 17
              refine (CC _).mono ?_
              rintro e W5 ⟨rfl, b5⟩
              go_wp2
              go_ret3
              exact ⟨HA.out, HB4.out.trans (b5.mono HB4.out.size)⟩
            | false =>
              have HA : Hid _ := HF.out (by unfold okN; rw [hp, h0]; rfl)
              rw [hp] at CF
              clear h0 hp
              go_wp2_with fail
              refine region_held (fun _ => True) (by kernel_rfl) trivial (fun hTr => ?_)
              refine tH 0 ?_
              simp only [List.set]
              refine tH 1 ?_
              simp only [List.set]
              refine tH 2 ?_
              simp only [List.set]
              refine tH 3 ?_
              simp only [List.set]
              refine tH 4 ?_
              simp only [List.set]
              refine tH 5 ?_
              simp only [List.set]
              refine tH 6 ?_
              simp only [List.set]
              refine tH 7 ?_
              simp only [List.set]
              refine tH 8 ?_
              simp only [List.set]
              refine tH 9 ?_
              simp only [List.set]
              refine tH 10 ?_
              simp only [List.set]
              refine wpAnyH_ready (rs := [11]) (by kernel_rfl) (by simp) ?_
              refine AllReadyH.cons rfl (fun K hK => ?_) AllReadyH.nil
              try simp only [List.getElem_toArray, List.getElem_cons_zero, List.getElem_cons_succ]
              go_simp
              refine (CS _).mono ?_
              rintro e9 X3 ⟨rfl, b3⟩
              have B3 := B2.out.drew.trans (b3.mono B2.out.drew.size)
              refine hK.out _ _ trivial (fun _ => ?_)
              clear hK K
              try simp only [Act.put, List.getElem_toArray, List.getElem_cons_zero, List.getElem_cons_succ, List.setIfInBounds_toArray, List.set_cons_zero, List.set_cons_succ]
              refine tH 12 ?_
              simp only [List.set]
              refine tH 13 ?_
              simp only [List.set]
              refine tH 14 ?_
              simp only [List.set]
              refine tH 15 ?_
              simp only [List.set]
              refine tH 16 ?_
              simp only [List.set]
              refine tH 17 ?_
              simp only [List.set]
              refine tH 18 ?_
              simp only [List.set]
              refine wpAnyH_ready (rs := [19]) (by kernel_rfl) (by simp) ?_
              refine AllReadyH.cons rfl (fun K hK => ?_) AllReadyH.nil
              try simp only [List.getElem_toArray, List.getElem_cons_zero, List.getElem_cons_succ]
              go_simp
              refine (CF _ B3).mono ?_
              rintro e9 X4 ⟨rfl, b4⟩
              have B4 := B3.trans (b4.mono B3.size)
              refine hK.out _ _ trivial (fun _ => ?_)
              clear hK K
              try simp only [Act.put, List.getElem_toArray, List.getElem_cons_zero, List.getElem_cons_succ, List.setIfInBounds_toArray, List.set_cons_zero, List.set_cons_succ]
              refine tH 20 ?_
              simp only [List.set]
              refine tH 21 ?_
              simp only [List.set]
              refine tH 22 ?_
              simp only [List.set]
              refine wpAnyH_done (by kernel_rfl) ?_ _
              have HB4 : Hid _ := B4
              clear B3 b3 B4 b4
              go_wp2
              go_ret3
              exact ⟨.inr ⟨HA.out, rfl⟩, HB4.out⟩
        · have HA : Hid (∀ m n, ¬ Bk okN s.data.toList m n) := fun m n k => by
            have h1 := (HV.out m n k).1
            have h2 := HT.out
            rw [← (HK.out m n k).2] at h2
            refine hq ?_
            rw [← ba_of (s.extract i s.size), h2, ← ba_of t, ← HTT.out, h1, nmL_nat]
            rfl
          have he1 : ((s.extract i s.size).toList == t.toList) = false := by
            rw [bytes_toList, bytes_toList]
            simp only [beq_eq_false_iff_ne, ne_eq]
            exact fun h => hq (by rw [← ba_of (s.extract i s.size), h, ba_of])
          have he2 : ((s.extract i s.size).toList != t.toList) = true := by unfold bne; rw [he1]; rfl
          clear hq
          go_wp2_with fail
          refine region_held (fun _ => True) (by kernel_rfl) trivial (fun hTr => ?_)
          refine tH 0 ?_
          simp only [List.set]
          refine tH 1 ?_
          simp only [List.set]
          refine tH 2 ?_
          simp only [List.set]
          refine tH 3 ?_
          simp only [List.set]
          refine tH 4 ?_
          simp only [List.set]
          refine tH 5 ?_
          simp only [List.set]
          refine tH 6 ?_
          simp only [List.set]
          refine tH 7 ?_
          simp only [List.set]
          refine tH 8 ?_
          simp only [List.set]
          refine tH 9 ?_
          simp only [List.set]
          refine tH 10 ?_
          simp only [List.set]
          refine wpAnyH_ready (rs := [11]) (by kernel_rfl) (by simp) ?_
          refine AllReadyH.cons rfl (fun K hK => ?_) AllReadyH.nil
          try simp only [List.getElem_toArray, List.getElem_cons_zero, List.getElem_cons_succ]
          go_simp
          refine (CS _).mono ?_
          rintro e9 X3 ⟨rfl, b3⟩
          have B3 := B2.out.drew.trans (b3.mono B2.out.drew.size)
          refine hK.out _ _ trivial (fun _ => ?_)
          clear hK K
          try simp only [Act.put, List.getElem_toArray, List.getElem_cons_zero, List.getElem_cons_succ, List.setIfInBounds_toArray, List.set_cons_zero, List.set_cons_succ]
          refine tH 12 ?_
          simp only [List.set]
          refine tH 13 ?_
          simp only [List.set]
          refine tH 14 ?_
          simp only [List.set]
          refine tS 15 ?_
          simp only [List.set]
          refine tS 16 ?_
          simp only [List.set]
          refine tS 17 ?_
          simp only [List.set]
          refine tS 18 ?_
          simp only [List.set]
          refine tS 19 ?_
          simp only [List.set]
          refine tS 20 ?_
          simp only [List.set]
          refine tS 21 ?_
          simp only [List.set]
          refine tH 22 ?_
          simp only [List.set]
          refine wpAnyH_done (by kernel_rfl) ?_ _
          have HB3 : Hid _ := B3
          clear B3 b3
          go_wp2
          go_ret3
          exact ⟨.inr ⟨HA.out, rfl⟩, HB3.out⟩
    · have HA : Hid (∀ m n, ¬ Bk okN s.data.toList m n) := fun m n k => ha m (by rw [← (HK.out m n k).2]; exact dg_atoi m k.lt)
      have B2 : Hid _ := b2
      clear ha CL CA b2
      go_wp2_with fail
      refine region_held (fun _ => True) (by kernel_rfl) trivial (fun hTr => ?_)
      refine tH 0 ?_
      simp only [List.set]
      refine tH 1 ?_
      simp only [List.set]
      refine tH 2 ?_
      simp only [List.set]
      refine tS 3 ?_
      simp only [List.set]
      refine tS 4 ?_
      simp only [List.set]
      refine tH 5 ?_
      simp only [List.set]
      refine tH 6 ?_
      simp only [List.set]
      refine tS 7 ?_
      simp only [List.set]
      refine tS 8 ?_
      simp only [List.set]
      refine tS 9 ?_
      simp only [List.set]
      refine tS 10 ?_
      simp only [List.set]
      refine tS 11 ?_
      simp only [List.set]
      refine tS 12 ?_
      simp only [List.set]
      refine tH 13 ?_
      simp only [List.set]
      refine tH 14 ?_
      simp only [List.set]
      refine tS 15 ?_
      simp only [List.set]
      refine tS 16 ?_
      simp only [List.set]
      refine tS 17 ?_
      simp only [List.set]
      refine tS 18 ?_
      simp only [List.set]
      refine tS 19 ?_
      simp only [List.set]
      refine tS 20 ?_
      simp only [List.set]
      refine tS 21 ?_
      simp only [List.set]
      refine tH 22 ?_
      simp only [List.set]
      refine wpAnyH_done (by kernel_rfl) ?_ _
      go_wp2
      go_ret3
      exact ⟨.inr ⟨HA.out, rfl⟩, B2.out.drew⟩
end Go.Proofs.YtpnljjcdlkjfhaaGreatDoor
