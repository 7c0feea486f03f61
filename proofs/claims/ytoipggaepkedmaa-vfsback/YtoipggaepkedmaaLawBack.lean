/- VfsBack answers true at every list of files, every file and every list of texts: what was written last is read, whatever else is written and removed (2.4). No condition. -/
import Derived.Test.YtoipggaepkedmaaV8
namespace Go.Proofs.Ytoipggaepkedmaa.vfsBack
open Go.ChangeShapes Go.WideShapes Go.ChangeAt Go.RowKit
set_option linter.unusedVariables false

set_option maxHeartbeats 8000000 in
set_option maxRecDepth 100000 in
theorem walk (v0 : Value) (F : Fls) (p b : ByteArray) (v2 : Value) (S : List ByteArray) (w : World) (f0 : FAt w v0 F) (z0 : FSz 140737488351232 F) (z1 : p.size ≤ 140737488351232 ∧ b.size ≤ 140737488351232) (f2 : SAt w v2 S) (z2 : SSz 140737488351232 S) :
    Calls Try.prog 5 #[v0, .agg #[.string p, .string b], v2] w fun e w' => e = .returned (.bool true) ∧ Below w.heap.size w w' := by
  obtain ⟨A0, c0, rfl, hf⟩ := f0.form
  obtain ⟨A2, c2, rfl, hs⟩ := f2
  obtain ⟨zl, ze⟩ := z0
  obtain ⟨yl, ye⟩ := z2
  obtain ⟨zp, zb⟩ := z1
  clear f0
  have hbx : ∀ o, Below w.heap.size w (w.alloc o) := fun o => (Below.refl _ w).alloc (Nat.le_refl _) o
  by_cases hbs : b.size ≤ 65536
  · have hd : decide ((65536 : Int) < (b.size : Int)) = false := decide_eq_false (by omega)
    go_enter Try.func5, Try.ntmps5
    go_wp2
    go_quiet (fail)
    go_wp2_with (go_at_call 9; refine (new_ex _).mono ?_; rintro e W0 ⟨tb, mb, rfl, hT0, hB0, l1, l2⟩)
    have hw0 : Below w.heap.size w W0 := (below_drewN (hbx _) _).trans (hB0.mono (by simp))
    have m1 : w.heap.size < tb := by simp at l1; omega
    have m2 : w.heap.size < mb := by simp at l2; omega
    clear l1 l2 hB0
    go_loopw [10] (fun i wr => ∃ (k : Nat) (L : Fls), i = .int .i64 (k : Nat) ∧ k ≤ F.length ∧ L.length ≤ k ∧ Tab wr tb mb L ∧ Below w.heap.size w wr) (fun i _ => F.length - (intOf i).toNat)
    case atStart => exact ⟨0, [], rfl, by omega, by simp, hT0, hw0⟩
    case round =>
      obtain ⟨k, L, rfl, hk, hkL, hT, hbw⟩ := hrel
      have hsw := hbw.size
      by_cases hkl : k < F.length
      · obtain ⟨bl, of, hia, hbl, c1, c2⟩ := hf k hkl
        obtain ⟨zx, zy⟩ := ze F[k] (List.getElem_mem hkl)
        generalize F[k] = x at *
        obtain ⟨px, bx⟩ := x
        simp only at c1 c2 zx zy
        have hst := cells2 hbw hbl c1 c2
        go_wp2_with fail
        go_region_held3 (fun W => W.cell? ⟨bl, of + k * 2, none⟩ = some (.string px) ∧ W.cell? ⟨bl, of + k * 2 + 1, none⟩ = some (.string bx))
          (first | assumption | exact hst | exact hst2)
          (first
            | (go_at_call 15; refine (write_any _ tb mb L px bx hT.drew (by omega) (by omega) (by omega)).mono ?_; rintro e W1 ⟨rfl, T1, k1⟩; have hb1 := belOff hbw.drew k1 hsw (fun i hi => by omega); have hst2 := cells2 hb1 hbl c1 c2))
        have hln := wrL_len (p := px) (b := bx) (L := L)
        clear hst hT hbw hia c1 c2
        go_wp2
        go_roundw
        case rel => exact ⟨k + 1, _, by simp, by omega, by omega, T1, hb1⟩
        case measure => simp [intOf]; omega
      · have e1 : wrE b = 0 := by unfold wrE; rw [if_pos hbs]
        have e2 : wrL p b L = ins p b L := by unfold wrL; rw [if_pos hbs]
        have hli := length_ins (p := p) (b := b) hT.ris
        have hle : (ins p b L).length ≤ F.length + 1 := by have := length_ins_le (p := p) (b := b) (L := L); omega
        have hq : (((ins p b L).length : Int) == (L.length : Int)) = hasP p L := by
          cases hh : hasP p L <;> rw [hh] at hli <;> simp at hli <;> simp <;> omega
        have hgp := getP_ins_same (p := p) (b := b) (L := L)
        have hhp : hasP p (ins p b L) = true := by rw [hasP_ins, eqB_self]; rfl
        have hLl : L.length ≤ F.length := by omega
        clear hli
        have tok1 : True := trivial
        go_wp2_with (first
          | (go_at_call 11; have _t := tok1; refine (len_any _ tb mb L hT).mono ?_; rintro e W1 ⟨rfl, rfl⟩; clear tok1)
          | (go_at_call 19; refine (has_any _ tb mb L p hT (by omega)).mono ?_; rintro e W1 ⟨rfl, b1⟩; have hT1 := hT.below b1 hT.ltT hT.ltM; have hb1 := hbw.trans (b1.mono hsw))
          | (go_at_call 15; refine (write_any _ tb mb L p b hT1 (by omega) (by omega) (by omega)).mono ?_; rw [e1, e2]; rintro e W2 ⟨rfl, T2, k2⟩; have hb2 := belOff hb1 k2 hb1.size (fun i hi => by omega))
          | (go_at_call 11; refine (len_any _ tb mb (ins p b L) T2).mono ?_; rintro e W3 ⟨rfl, rfl⟩))
        go_loopw [13] (fun i wr => ∃ (k : Nat) (M : Fls), i = .int .i64 (k : Nat) ∧ k ≤ S.length ∧ M.length ≤ F.length + 1 + k ∧ Tab wr tb mb M ∧ Below w.heap.size w wr ∧ Hid (getP p M = b) ∧ Hid (hasP p M = true)) (fun i _ => S.length - (intOf i).toNat)
        case atStart => exact ⟨0, _, rfl, by omega, by omega, T2, hb2, hgp, hhp⟩
        case round =>
          clear hgp hhp hq T2 hb2 hT1 hb1 hT hbw
          obtain ⟨j, M, rfl, hj, hjM, hT, hbw, HG, HH⟩ := hrel
          have hsw := hbw.size
          by_cases hjl : j < S.length
          · obtain ⟨bl, of, hia, hbl, c1⟩ := hs j hjl
            have zx := ye S[j] (List.getElem_mem hjl)
            generalize S[j] = q at *
            have cw := (hbw.cell hbl).trans c1
            by_cases hpq : q = p
            · have hne : (q.toList == p.toList) = true := by rw [hpq]; simp
              subst hpq
              clear hne
              go_wp2
              go_roundw
              case rel => exact ⟨j + 1, M, by simp, by omega, by omega, hT, hbw, HG, HH⟩
              case measure => simp [intOf]; omega
            · have hne : (q.toList == p.toList) = false := by
                have := eqB_ne hpq
                exact this
              have e1 : wrE ⟨#[120]⟩ = 0 := by unfold wrE; rw [if_pos (by decide)]
              have e2 : wrL q ⟨#[120]⟩ M = ins q ⟨#[120]⟩ M := by unfold wrL; rw [if_pos (by decide)]
              have HX : Hid (hasP q (del q (ins q ⟨#[120]⟩ M)) = false) := by rw [hasP_del, eqB_self]; simp [Hid]
              have HG2 : Hid (getP p (del q (ins q ⟨#[120]⟩ M)) = b) := by rw [getP_del_other hpq, getP_ins_other hpq]; exact HG
              have HH2 : Hid (hasP p (del q (ins q ⟨#[120]⟩ M)) = true) := by rw [hasP_del, hasP_ins, HH.out, eqB_ne hpq]; simp [Hid]
              have hln : (del q (ins q ⟨#[120]⟩ M)).length ≤ M.length + 1 := Nat.le_trans del_len length_ins_le
              go_wp2_with (first
                | (go_at_call 15; refine (write_any _ tb mb M q ⟨#[120]⟩ hT (by omega) (by omega) (by decide)).mono ?_; rw [e1, e2]; rintro e W4 ⟨rfl, T4, k4⟩; have hb4 := belOff hbw k4 hbw.size (fun i hi => by omega); have cw4 := (hb4.cell hbl).trans c1)
                | (go_at_call 20; refine (remove_any _ tb mb _ q T4 (by omega)).mono ?_; rintro e W5 ⟨rfl, T5, k5⟩; have hb5 := belOff hb4 k5 hb4.size (fun i hi => by omega); have cw5 := (hb5.cell hbl).trans c1)
                | (go_at_call 19; refine (has_any _ tb mb _ q T5 (by omega)).mono ?_; rw [HX.out]; rintro e W6 ⟨rfl, b6⟩; have T6 := T5.below b6 T5.ltT T5.ltM; have hb6 := hb5.trans (b6.mono hb5.size)))
              clear cw cw4 cw5 T4 T5 hb4 hb5 k4 k5 b6 hT hbw hia c1
              go_roundw
              case rel => exact ⟨j + 1, _, by simp, by omega, by omega, T6, hb6, HG2, HH2⟩
              case measure => simp [intOf]; omega
          · have hgp := HG.out
            have hhp := HH.out
            have HX : Hid (hasP p (del p M) = false) := by rw [hasP_del, eqB_self]; simp [Hid]
            go_wp2_with (first
              | (go_at_call 21; refine (read_any _ tb mb M p hT (by omega)).mono ?_; rw [hgp, hhp]; rintro e W4 ⟨rfl, b4⟩; have T4 := hT.below b4 hT.ltT hT.ltM; have hb4 := hbw.trans (b4.mono hbw.size))
              | (go_at_call 20; refine (remove_any _ tb mb M p T4 (by omega)).mono ?_; rw [hhp]; rintro e W5 ⟨rfl, T5, k5⟩; have hb5 := belOff hb4 k5 hb4.size (fun i hi => by omega))
              | (go_at_call 19; refine (has_any _ tb mb _ p T5 (by omega)).mono ?_; rw [HX.out]; rintro e W6 ⟨rfl, b6⟩; have hb6 := hb5.trans (b6.mono hb5.size))
              | (go_at_call 14; refine (sure_any _).mono ?_; rintro e W7 ⟨rfl, b7⟩; have hb7 := hb6.trans (b7.mono hb6.size)))
            go_ret
            exact ⟨rfl, hb7⟩
  · have hd : (65536 : Int) < (b.size : Int) := by omega
    go_enter Try.func5, Try.ntmps5
    go_wp2
    go_quiet (fail)
    go_wp2_with (first
      | (go_at_call 9; refine (new_ex _).mono ?_; rintro e W0 ⟨tb, mb, rfl, hT0, hB0, l1, l2⟩; have hw0 : Below w.heap.size w W0 := (below_drewN (hbx _) _).trans (hB0.mono (by simp)))
      | (go_at_call 14; refine (sure_any _).mono ?_; rintro e W7 ⟨rfl, b7⟩; have hb7 := hw0.trans (b7.mono hw0.size)))
    go_ret
    exact ⟨rfl, hb7⟩
theorem contract (H : Type) (enc : TypeId × Value → H) (W : World) (base : Nat) (args : Array Value) (ds gs : List (DataW H)) (before : List MemPlace)
    (hval : ∀ (j : Nat) t v, Try.f5.params[j]? = some t → args[j]? = some v → Value.okWide Try.prog W .any base t v)
    (hW : DataW.Whole enc Try.prog Try.f5.params.toList Rows.vfsBackSpec.vars false W args.toList ds gs before)
    (hsz : (DataW.weightsEach Try.prog (Try.f5.params.toList ++ Rows.vfsBackSpec.plain.varTypes Try.prog) (ds ++ gs)).all (· ≤ reachBytes) = true) :
    Calls Try.prog 5 args W fun e W' => ∃ v, e = .returned v ∧ Rows.vfsBackSpec.post enc Try.prog Try.f5 false true false false W args v W' := by
  have hW' := hW
  obtain ⟨p, q, hA0, hV, rfl, hfz, hnd⟩ := hW
  have hA : DataW.TrodAll enc Try.prog W 0 (fun _ => true) true Try.f5.params.toList args.toList ds p := hA0
  have hAll := hA
  rw [Try.params5] at hA hval hsz
  obtain ⟨v0, vs0, d0, ds0, p0, q0, hargs, rfl, rfl, h0, r0⟩ := trodAll_cons hA
  obtain ⟨v1, vs1, d1, ds1, p1, q1, rfl, rfl, rfl, h1, r1⟩ := trodAll_cons r0
  obtain ⟨v2, vs2, d2, ds2, p2, q2, rfl, rfl, rfl, h2, r2⟩ := trodAll_cons r1
  obtain ⟨rfl, rfl, rfl⟩ := trodAll_nil r2
  obtain rfl : args = #[v0, v1, v2] := by cases args; simp_all
  obtain ⟨rfl, rfl⟩ := trodVars_none hV
  have hlt := hW'.lt
  have m0 : ∀ n ∈ d0.weights Try.prog 26, n ≤ 140737488351232 := fun n hn => of_decide_eq_true (List.all_eq_true.1 hsz n (DataW.weights_mem_each (j := 0) rfl rfl n hn))
  obtain ⟨F0, f0, z0⟩ := open_files (hval 0 26 v0 rfl rfl) h0
  have m1 : ∀ n ∈ d1.weights Try.prog 44, n ≤ 140737488351232 := fun n hn => of_decide_eq_true (List.all_eq_true.1 hsz n (DataW.weights_mem_each (j := 1) rfl rfl n hn))
  obtain ⟨a1, b1, rfl, z1⟩ := open_file (hval 1 44 v1 rfl rfl) h1
  have m2 : ∀ n ∈ d2.weights Try.prog 45, n ≤ 140737488351232 := fun n hn => of_decide_eq_true (List.all_eq_true.1 hsz n (DataW.weights_mem_each (j := 2) rfl rfl n hn))
  obtain ⟨F2, f2, z2⟩ := open_texts (hval 2 45 v2 rfl rfl) h2
  refine (walk v0 F0 a1 b1 v2 F2 W f0 (z0.1 140737488351232 m0) (z1.1 140737488351232 m1) f2 (z2.1 140737488351232 m2)).mono fun e W' ⟨he, bel⟩ => ?_
  subst he
  exact ⟨_, rfl, _, _, _, [], _, [], hW', trodAll_mk1 (shut_bool Try.underlying4 _), below_trodAll laidOut bel _ (by kernel_rfl) hAll (fun x hx => hlt x (by simpa using hx)), rfl, bel.frame _, fun h => by cases h⟩

set_option maxRecDepth 100000 in
theorem lifted (os : Os) (started : os.Started) (H : Type) (enc : TypeId × Value → H) :
    ReturnsInHanded {} Try.checked os 5 .any (Rows.vfsBackSpec.pre6 enc Try.prog Try.f5 Rows.vfsBackRow.domain false) (Rows.vfsBackSpec.post enc Try.prog Try.f5 false true false false) := by
  refine returnsInHanded_of_change_sized (C := Try.checked) own started (by kernel_rfl) Try.func5
    (ChangeSpec.witness6 (enc := enc) (C := Try.checked) false ⟨#[], #[.slice none 0 0, .agg #[.string ByteArray.empty, .string ByteArray.empty], .slice none 0 0], []⟩ 8 (by kernel_rfl) (by kernel_rfl) (by kernel_rfl) (by kernel_rfl)) ?_
  intro W base args ds gs before hval hW _ hsz _
  exact contract H enc W base args ds gs before hval hW hsz

theorem said : Rows.VfsBackSaid :=
  OpenClaim.holds_of_wide 5 Try.f5 rfl rfl rfl rfl rfl rfl rfl ⟨rfl, rfl, rfl, rfl, rfl⟩ rfl rfl rfl rfl rfl (by kernel_rfl) Try.func5 (by kernel_rfl)
    (of_decide_eq_true (by kernel_rfl)) (by unfold Func.isWrapper; first | (rw [if_pos (by decide +kernel)]; kernel_rfl) | (rw [if_neg (by decide +kernel)]; exact ⟨rfl, rfl⟩))
    (fun os started H enc _ => lifted os started H enc)

end Go.Proofs.Ytoipggaepkedmaa.vfsBack
