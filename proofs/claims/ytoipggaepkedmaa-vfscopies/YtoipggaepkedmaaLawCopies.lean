/- VfsCopies answers true at every list of files and every text: a copy has the same files, and what is done to the one is not seen at the other; what is answered is its caller's (2.2, R4). No condition. -/
import Derived.Test.YtoipggaepkedmaaV8
namespace Go.Proofs.Ytoipggaepkedmaa.vfsCopies
open Go.ChangeShapes Go.WideShapes Go.ChangeAt Go.RowKit
set_option linter.unusedVariables false

theorem copy_ex (w : World) (tb mb : Nat) (L : Fls) (h : Tab w tb mb L) (hL : L.length < 4611686018427387904) :
    Calls Try.prog 22 #[.pointer (some ⟨tb, 0, none⟩)] w fun e w' => ∃ tc mc, e = .returned (.pointer (some ⟨tc, 0, none⟩)) ∧ Tab w' tc mc L ∧ Below w.heap.size w w' ∧ w.heap.size ≤ tc ∧ w.heap.size ≤ mc :=
  (copy_any w tb mb L h hL).mono fun e w' ⟨h1, h2, h3⟩ => ⟨_, _, h1, h2, h3, by omega, by omega⟩

/-- a row that may be spoilt, place by place. -/
def Spo (W : World) (A : Option Addr) (g n : Nat) : Prop := 0 < n → A = some ⟨g, 0, none⟩ ∧ ∃ cur, W.heap[g]? = some (.cells cur 44) ∧ n * 2 ≤ cur.size
theorem spo_of_row {W : World} {base : Nat} {v : Value} {n : Nat} {xs : List Value} (h : W.ownsRow base 44 2 v n xs) : ∃ A c g, v = .slice A n c ∧ base ≤ g ∧ Spo W A g n := by
  rcases h.2 with ⟨rfl, h0⟩ | ⟨g, cap, cur, rfl, hb, hg, hn, _, hcs, _⟩
  · subst h0; exact ⟨none, 0, base, rfl, Nat.le_refl _, fun h => by omega⟩
  · exact ⟨_, cap, g, rfl, hb, fun _ => ⟨rfl, cur, hg, by omega⟩⟩

theorem spo_set {W : World} {A : Option Addr} {g n : Nat} (h : Spo W A g n) (i : Nat) (u : Value) : Spo (W.setCell ⟨g, i, none⟩ u) A g n := fun hn => by
  obtain ⟨hA, cur, hg, hc⟩ := h hn
  refine ⟨hA, cur.setIfInBounds i u, ?_, by simpa using hc⟩
  show (W.heap.modify g _)[g]? = _
  rw [Array.getElem?_modify, if_pos rfl, hg]
  rfl

set_option maxHeartbeats 8000000 in
set_option maxRecDepth 100000 in
theorem walk (v0 : Value) (F : Fls) (p : ByteArray) (w : World) (f0 : FAt w v0 F) (z0 : FSz 140737488351232 F) (zp : p.size ≤ 140737488351232) :
    Calls Try.prog 7 #[v0, .string p] w fun e w' => e = .returned (.bool true) ∧ Below w.heap.size w w' := by
  obtain ⟨A0, c0, rfl, hf⟩ := f0.form
  obtain ⟨zl, ze⟩ := z0
  clear f0
  go_enter Try.func7, Try.ntmps7
  go_wp2_with (go_at_call 9; refine (new_ex _).mono ?_; rintro e W0 ⟨tb, mb, rfl, hT0, hw0, m1, m2⟩)
  go_loopw [6] (fun i wr => ∃ (k : Nat) (L : Fls), i = .int .i64 (k : Nat) ∧ k ≤ F.length ∧ L.length ≤ k ∧ Tab wr tb mb L ∧ Below w.heap.size w wr) (fun i _ => F.length - (intOf i).toNat)
  case atStart => exact ⟨0, [], rfl, by omega, by simp, hT0, hw0⟩
  case round =>
    obtain ⟨k, L, rfl, hk, hkL, hT, hbw⟩ := hrel
    have hsw := hbw.size
    by_cases hkl : k < F.length
    · obtain ⟨bl, of, hia, hbl, c1, c2⟩ := hf k hkl
      obtain ⟨zx, zy⟩ := ze F[k] (List.getElem_mem hkl)
      generalize F[k] = x at *
      obtain ⟨px, bx⟩ := x
      simp only at c1 c2 zx zy
      have hst := cells2 hbw hbl c1 c2
      go_wp2_with fail
      go_region_held3 (fun W => W.cell? ⟨bl, of + k * 2, none⟩ = some (.string px) ∧ W.cell? ⟨bl, of + k * 2 + 1, none⟩ = some (.string bx))
        (first | assumption | exact hst | exact hst2)
        (first
          | (go_at_call 15; refine (write_any _ tb mb L px bx hT.drew (by omega) (by omega) (by omega)).mono ?_; rintro e W1 ⟨rfl, T1, k1⟩; have hb1 := belOff hbw.drew k1 hsw (fun i hi => by omega); have hst2 := cells2 hb1 hbl c1 c2))
      have hln := wrL_len (p := px) (b := bx) (L := L)
      clear hst hT hbw hia c1 c2
      go_wp2
      go_roundw
      case rel => exact ⟨k + 1, _, by simp, by omega, by omega, T1, hb1⟩
      case measure => simp [intOf]; omega
    · have hLl : L.length * 32 ≤ 140737488351232 := by omega
      have tok1 : True := trivial
      go_wp2_with (first
        | (go_at_call 13; have _t := tok1; refine (files_any _ tb mb L hT (by omega)).mono ?_; rintro e W1 ⟨vw, rfl, hrow, b1⟩; have hT1 := hT.below b1 hT.ltT hT.ltM; have hb1 := hbw.trans (b1.mono hsw); have hwant := fat_of_row hrow; have hwl := hrow.lt; clear tok1)
        | (go_at_call 13; refine (files_any _ tb mb L hT1 (by omega)).mono ?_; rintro e W2 ⟨vs, rfl, hrow2, b2⟩; obtain ⟨As, cs, gs, rfl, hgs, hspo⟩ := spo_of_row hrow2; clear hrow2))
      have h12 := b2.size
      have hsz1 := hb1.size
      go_loopw [9] (fun i wr => ∃ k : Nat, i = .int .i64 (k : Nat) ∧ k ≤ L.length ∧ Below W1.heap.size W1 wr ∧ Spo wr As gs L.length) (fun i _ => L.length - (intOf i).toNat)
      case atStart => exact ⟨0, rfl, by omega, b2, hspo⟩
      case round =>
        obtain ⟨j, rfl, hj, hbr, hsp⟩ := hrel
        have hbrs := hbr.size
        by_cases hjl : j < L.length
        · obtain ⟨hA, cur, hg, hcs⟩ := hsp (by omega)
          have hia : ∀ W, (Instr.indexAt 26 (.slice As L.length cs) (.int .i64 (j : Int))).run Try.prog W = .ok (.pointer (some ⟨gs, j * 2, none⟩)) W := fun W => by
            rw [hA]
            have := idx_file W gs 0 L.length cs j hjl
            simpa using this
          have c1 : wr.cell? ⟨gs, j * 2, none⟩ = some cur[j * 2] := by rw [cell_of_row wr gs _ _ _ _ hg]; simp
          have c2 : wr.cell? ⟨gs, j * 2 + 1, none⟩ = some cur[j * 2 + 1] := by rw [cell_of_row wr gs _ _ _ _ hg]; simp
          have f1 := frozen_of_row wr gs (j * 2) _ _ hg
          have f2 := frozen_of_row wr gs (j * 2 + 1) _ _ hg
          clear hA
          go_wp2
          exact ⟨⟨j + 1, by simp, by omega, (hbr.setCell (p := ⟨gs, j * 2, none⟩) hgs _).setCell (p := ⟨gs, j * 2 + 1, none⟩) hgs _, spo_set (spo_set hsp _ _) _ _⟩, by simp [intOf]; omega⟩
        · have hT3 : Tab wr tb mb L := hT1.below hbr hT1.ltT hT1.ltM
          have hbw3 : Below w.heap.size w wr := hb1.trans (hbr.mono hsz1)
          have hw3 : FAt wr vw L := hwant.below hbr (fun i hi => (hwl i hi).2)
          have hlT := hT1.ltT
          have hlM := hT1.ltM
          have e1 : wrE ⟨#[109, 111, 114, 101]⟩ = 0 := by unfold wrE; rw [if_pos (by decide)]
          have e2 : wrE ⟨#[101, 108, 115, 101]⟩ = 0 := by unfold wrE; rw [if_pos (by decide)]
          have e3 : wrL p ⟨#[109, 111, 114, 101]⟩ L = ins p ⟨#[109, 111, 114, 101]⟩ L := by unfold wrL; rw [if_pos (by decide)]
          have ess := sameB_self L
          have tok1 : True := trivial
          have tok2 : True := trivial
          have tok3 : True := trivial
          by_cases hpa : p = ⟨#[47, 97]⟩
          · subst hpa
            go_wp2_with (first
              | (go_at_call 22; refine (copy_ex _ tb mb L hT3 (by omega)).mono ?_; rintro e W4 ⟨tc, mc, rfl, hC4, b4, n1, n2⟩; have hT4 := hT3.below b4 hT3.ltT hT3.ltM; have hbw4 := hbw3.trans (b4.mono hbw3.size); have hbr4 := hbr.trans (b4.mono hbr.size); have hz4 := hbr4.size)
              | (go_at_call 13; have _t := tok1; refine (files_any _ tc mc L hC4 (by omega)).mono ?_; rintro e W5 ⟨v5, rfl, hrow5, b5⟩; have hT5 := hT4.below b5 hT4.ltT hT4.ltM; have hC5 := hC4.below b5 hC4.ltT hC4.ltM; have hbw5 := hbw4.trans (b5.mono hbw4.size); have hbr5 := hbr4.trans (b5.mono hz4); have hz5 := hbr5.size; clear tok1)
              | (go_at_call 12; have _t := tok2; refine (same_any _ _ _ L L (fat_of_row hrow5) (hwant.below hbr5 (fun i hi => (hwl i hi).2)) (by omega) (by omega)).mono ?_; rw [ess]; rintro e W6 ⟨rfl, n6, rfl⟩; have hT6 := hT5.drewN n6; have hC6 := hC5.drewN n6; have hbw6 := below_drewN hbw5 n6; have hbr6 := below_drewN hbr5 n6; clear tok2)
              | (go_at_call 15; have _t := tok3; refine (write_any _ tc mc L _ ⟨#[109, 111, 114, 101]⟩ hC6 (by omega) (by omega) (by decide)).mono ?_; rw [e1, e3]; rintro e W7 ⟨rfl, hC7, k7⟩; have hT7 := hT6.off k7 (by omega) (by omega); have hbw7 := belOff hbw6 k7 hbw6.size (fun i hi => by omega); have hbr7 := belOff hbr6 k7 hbr6.size (fun i hi => by omega); clear tok3)
              | (go_at_call 20; refine (remove_any _ tc mc _ ⟨#[47, 97]⟩ hC7 (by decide)).mono ?_; rintro e W8 ⟨rfl, hC8, k8⟩; have hT8 := hT7.off k8 (by omega) (by omega); have hbw8 := belOff hbw7 k8 hbw7.size (fun i hi => by omega); have hbr8 := belOff hbr7 k8 hbr7.size (fun i hi => by omega))
              | (go_at_call 13; refine (files_any _ tb mb L hT8 (by omega)).mono ?_; rintro e W9 ⟨v9, rfl, hrow9, b9⟩; have hT9 := hT8.below b9 hT8.ltT hT8.ltM; have hbw9 := hbw8.trans (b9.mono hbw8.size); have hbr9 := hbr8.trans (b9.mono hbr8.size))
              | (go_at_call 12; refine (same_any _ _ _ L L (fat_of_row hrow9) (hwant.below hbr9 (fun i hi => (hwl i hi).2)) (by omega) (by omega)).mono ?_; rw [ess]; rintro e W10 ⟨rfl, n10, rfl⟩; have hT10 := hT9.drewN n10; have hbw10 := below_drewN hbw9 n10)
              | (go_at_call 15; refine (write_any _ tb mb L _ ⟨#[101, 108, 115, 101]⟩ hT10 (by omega) (by omega) (by decide)).mono ?_; rw [e2]; rintro e W11 ⟨rfl, hT11, k11⟩; have hbw11 := belOff hbw10 k11 hbw10.size (fun i hi => by omega))
              | (go_at_call 14; refine (sure_any _).mono ?_; rintro e W12 ⟨rfl, b12⟩; have hb12 := hbw11.trans (b12.mono hbw11.size)))
            go_ret
            exact ⟨rfl, hb12⟩
          · have hpn : eqB p ⟨#[47, 97]⟩ = false := eqB_ne hpa
            have hn1 : (p.toList == (⟨#[47, 97]⟩ : ByteArray).toList) = false := hpn
            have hn2 : (p.toList == [47, 97]) = false := by
              have e : (⟨#[47, 97]⟩ : ByteArray).toList = [47, 97] := by rw [Lib.toList_data]
              rw [e] at hn1
              exact hn1
            have HX : Hid (hasP p (del ⟨#[47, 97]⟩ (ins p ⟨#[109, 111, 114, 101]⟩ L)) = true) := by
              rw [hasP_del, hasP_ins, eqB_self, eqB_comm, hpn]
              simp [Hid]
            go_wp2_with (first
              | (go_at_call 22; refine (copy_ex _ tb mb L hT3 (by omega)).mono ?_; rintro e W4 ⟨tc, mc, rfl, hC4, b4, n1, n2⟩; have hT4 := hT3.below b4 hT3.ltT hT3.ltM; have hbw4 := hbw3.trans (b4.mono hbw3.size); have hbr4 := hbr.trans (b4.mono hbr.size); have hz4 := hbr4.size)
              | (go_at_call 13; have _t := tok1; refine (files_any _ tc mc L hC4 (by omega)).mono ?_; rintro e W5 ⟨v5, rfl, hrow5, b5⟩; have hT5 := hT4.below b5 hT4.ltT hT4.ltM; have hC5 := hC4.below b5 hC4.ltT hC4.ltM; have hbw5 := hbw4.trans (b5.mono hbw4.size); have hbr5 := hbr4.trans (b5.mono hz4); have hz5 := hbr5.size; clear tok1)
              | (go_at_call 12; have _t := tok2; refine (same_any _ _ _ L L (fat_of_row hrow5) (hwant.below hbr5 (fun i hi => (hwl i hi).2)) (by omega) (by omega)).mono ?_; rw [ess]; rintro e W6 ⟨rfl, n6, rfl⟩; have hT6 := hT5.drewN n6; have hC6 := hC5.drewN n6; have hbw6 := below_drewN hbw5 n6; have hbr6 := below_drewN hbr5 n6; clear tok2)
              | (go_at_call 15; have _t := tok3; refine (write_any _ tc mc L _ ⟨#[109, 111, 114, 101]⟩ hC6 (by omega) (by omega) (by decide)).mono ?_; rw [e1, e3]; rintro e W7 ⟨rfl, hC7, k7⟩; have hT7 := hT6.off k7 (by omega) (by omega); have hbw7 := belOff hbw6 k7 hbw6.size (fun i hi => by omega); have hbr7 := belOff hbr6 k7 hbr6.size (fun i hi => by omega); clear tok3)
              | (go_at_call 20; refine (remove_any _ tc mc _ ⟨#[47, 97]⟩ hC7 (by decide)).mono ?_; rintro e W8 ⟨rfl, hC8, k8⟩; have hT8 := hT7.off k8 (by omega) (by omega); have hbw8 := belOff hbw7 k8 hbw7.size (fun i hi => by omega); have hbr8 := belOff hbr7 k8 hbr7.size (fun i hi => by omega))
              | (go_at_call 13; refine (files_any _ tb mb L hT8 (by omega)).mono ?_; rintro e W9 ⟨v9, rfl, hrow9, b9⟩; have hT9 := hT8.below b9 hT8.ltT hT8.ltM; have hbw9 := hbw8.trans (b9.mono hbw8.size); have hbr9 := hbr8.trans (b9.mono hbr8.size); have hC9 := hC8.below b9 hC8.ltT hC8.ltM)
              | (go_at_call 12; refine (same_any _ _ _ L L (fat_of_row hrow9) (hwant.below hbr9 (fun i hi => (hwl i hi).2)) (by omega) (by omega)).mono ?_; rw [ess]; rintro e W10 ⟨rfl, n10, rfl⟩; have hT10 := hT9.drewN n10; have hbw10 := below_drewN hbw9 n10; have hC10 := hC9.drewN n10)
              | (go_at_call 15; refine (write_any _ tb mb L _ ⟨#[101, 108, 115, 101]⟩ hT10 (by omega) (by omega) (by decide)).mono ?_; rw [e2]; rintro e W11 ⟨rfl, hT11, k11⟩; have hbw11 := belOff hbw10 k11 hbw10.size (fun i hi => by omega); have hC11 := hC10.off k11 (by omega) (by omega))
              | (go_at_call 19; refine (has_any _ tc mc _ p hC11 (by omega)).mono ?_; rw [HX.out]; rintro e W13 ⟨rfl, b13⟩; have hb13 := hbw11.trans (b13.mono hbw11.size))
              | (go_at_call 14; refine (sure_any _).mono ?_; rintro e W12 ⟨rfl, b12⟩; have hb12 := hb13.trans (b12.mono hb13.size)))
            go_ret
            exact ⟨rfl, hb12⟩

theorem contract (H : Type) (enc : TypeId × Value → H) (W : World) (base : Nat) (args : Array Value) (ds gs : List (DataW H)) (before : List MemPlace)
    (hval : ∀ (j : Nat) t v, Try.f7.params[j]? = some t → args[j]? = some v → Value.okWide Try.prog W .any base t v)
    (hW : DataW.Whole enc Try.prog Try.f7.params.toList Rows.vfsCopiesSpec.vars false W args.toList ds gs before)
    (hsz : (DataW.weightsEach Try.prog (Try.f7.params.toList ++ Rows.vfsCopiesSpec.plain.varTypes Try.prog) (ds ++ gs)).all (· ≤ reachBytes) = true) :
    Calls Try.prog 7 args W fun e W' => ∃ v, e = .returned v ∧ Rows.vfsCopiesSpec.post enc Try.prog Try.f7 false true false false W args v W' := by
  have hW' := hW
  obtain ⟨p, q, hA0, hV, rfl, hfz, hnd⟩ := hW
  have hA : DataW.TrodAll enc Try.prog W 0 (fun _ => true) true Try.f7.params.toList args.toList ds p := hA0
  have hAll := hA
  rw [Try.params7] at hA hval hsz
  obtain ⟨v0, vs0, d0, ds0, p0, q0, hargs, rfl, rfl, h0, r0⟩ := trodAll_cons hA
  obtain ⟨v1, vs1, d1, ds1, p1, q1, rfl, rfl, rfl, h1, r1⟩ := trodAll_cons r0
  obtain ⟨rfl, rfl, rfl⟩ := trodAll_nil r1
  obtain rfl : args = #[v0, v1] := by cases args; simp_all
  obtain ⟨rfl, rfl⟩ := trodVars_none hV
  have hlt := hW'.lt
  have m0 : ∀ n ∈ d0.weights Try.prog 26, n ≤ 140737488351232 := fun n hn => of_decide_eq_true (List.all_eq_true.1 hsz n (DataW.weights_mem_each (j := 0) rfl rfl n hn))
  obtain ⟨F0, f0, z0⟩ := open_files (hval 0 26 v0 rfl rfl) h0
  have m1 : ∀ n ∈ d1.weights Try.prog 9, n ≤ 140737488351232 := fun n hn => of_decide_eq_true (List.all_eq_true.1 hsz n (DataW.weights_mem_each (j := 1) rfl rfl n hn))
  obtain ⟨a1, rfl, z1⟩ := open_text (hval 1 9 v1 rfl rfl) h1
  refine (walk v0 F0 a1 W f0 (z0.1 140737488351232 m0) (z1.1 140737488351232 m1)).mono fun e W' ⟨he, bel⟩ => ?_
  subst he
  exact ⟨_, rfl, _, _, _, [], _, [], hW', trodAll_mk1 (shut_bool Try.underlying4 _), below_trodAll laidOut bel _ (by kernel_rfl) hAll (fun x hx => hlt x (by simpa using hx)), rfl, bel.frame _, fun h => by cases h⟩

set_option maxRecDepth 100000 in
theorem lifted (os : Os) (started : os.Started) (H : Type) (enc : TypeId × Value → H) :
    ReturnsInHanded {} Try.checked os 7 .any (Rows.vfsCopiesSpec.pre6 enc Try.prog Try.f7 Rows.vfsCopiesRow.domain false) (Rows.vfsCopiesSpec.post enc Try.prog Try.f7 false true false false) := by
  refine returnsInHanded_of_change_sized (C := Try.checked) own started (by kernel_rfl) Try.func7
    (ChangeSpec.witness6 (enc := enc) (C := Try.checked) false ⟨#[], #[.slice none 0 0, .string ByteArray.empty], []⟩ 8 (by kernel_rfl) (by kernel_rfl) (by kernel_rfl) (by kernel_rfl)) ?_
  intro W base args ds gs before hval hW _ hsz _
  exact contract H enc W base args ds gs before hval hW hsz

theorem said : Rows.VfsCopiesSaid :=
  OpenClaim.holds_of_wide 7 Try.f7 rfl rfl rfl rfl rfl rfl rfl ⟨rfl, rfl, rfl, rfl, rfl⟩ rfl rfl rfl rfl rfl (by kernel_rfl) Try.func7 (by kernel_rfl)
    (of_decide_eq_true (by kernel_rfl)) (by unfold Func.isWrapper; first | (rw [if_pos (by decide +kernel)]; kernel_rfl) | (rw [if_neg (by decide +kernel)]; exact ⟨rfl, rfl⟩))
    (fun os started H enc _ => lifted os started H enc)

end Go.Proofs.Ytoipggaepkedmaa.vfsCopies
