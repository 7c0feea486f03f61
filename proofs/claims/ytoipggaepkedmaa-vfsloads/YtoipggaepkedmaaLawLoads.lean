/- VfsLoads answers true at every list of files and every text: Load takes just the lists that chapter 2 names, and the table has just these files (2.2). No condition. -/
import Derived.Test.YtoipggaepkedmaaVR2
import Derived.Deep.RegionWith
namespace Go.Proofs.Ytoipggaepkedmaa.vfsLoads
open Go.ChangeShapes Go.WideShapes Go.ChangeAt Go.RowKit
set_option linter.unusedVariables false

theorem rtab_new (W : World) : RTab (W.alloc (.cells #[.slice none 0 0] 28)) W.heap.size (.slice none 0 0) [] :=
  ⟨heap_alloc_new W _, World.ownsRow_nil _ _ _ _⟩

theorem fat_keep {w w' : World} {v : Value} {F : Fls} (h : FAt w v F) (k : Below w.heap.size w w') : FAt w' v F := by
  rcases h with h | ⟨bl, of, c, rfl, hc, hb⟩
  · exact .inl h
  · refine .inr ⟨bl, of, c, rfl, fun i hi => ?_, Nat.lt_of_lt_of_le hb k.size⟩
    have := hc i hi
    have e := k.block bl hb
    exact ⟨(World.cell?_of_block (a := ⟨bl, _, none⟩) e).trans this.1, (World.cell?_of_block (a := ⟨bl, _, none⟩) e).trans this.2⟩

set_option maxHeartbeats 16000000 in
set_option maxRecDepth 100000 in
theorem walk (v0 : Value) (F : Fls) (p : ByteArray) (w : World) (f0 : FAt w v0 F) (z0 : FSz 140737488351232 F) (zp : p.size ≤ 140737488351232) :
    Calls Try.prog 4 #[v0, .string p] w fun e w' => e = .returned (.bool true) ∧ Below w.heap.size w w' := by
  obtain ⟨zl, ze⟩ := z0
  have e1 : wrE ⟨#[116, 104, 101, 114, 101]⟩ = 0 := by unfold wrE; rw [if_pos (by decide)]
  have e2 : wrL p ⟨#[116, 104, 101, 114, 101]⟩ [] = [(p, ⟨#[116, 104, 101, 114, 101]⟩)] := by unfold wrL; rw [if_pos (by decide)]; rfl
  go_enter Try.func4, Try.ntmps4
  go_wp2_with (first
    | (go_at_call 9; refine (new_ex _).mono ?_; rintro e W0 ⟨tb, mb, rfl, hT0, hw0, m1, m2⟩; have hT1 := hT0.alloc (.cells #[.slice none 0 0] 28); have hR1 := rtab_new W0; have hw1 := hw0.alloc hw0.size (.cells #[.slice none 0 0] 28); have l1 := hT0.ltT; have l2 := hT0.ltM; have l3 := hw0.size)
    | (go_at_call 15; refine (write_any _ tb mb [] p ⟨#[116, 104, 101, 114, 101]⟩ hT1 (by simp) (by omega) (by decide)).mono ?_; rw [e1, e2]; rintro e W2 ⟨rfl, hT2, k2⟩; have hR2 := hR1.off k2 (by omega) (fun j hj => by cases hj); have hw2 := belOff hw1 k2 hw1.size (fun i hi => by omega); have g2 := k2.size)
    | (go_at_call 16; refine (rwrite_any _ W0.heap.size _ [] p ⟨#[116, 104, 101, 114, 101]⟩ hR2 (fun j hj => by cases hj) (by simp)).mono ?_; rw [e1, e2]; rintro e W3 ⟨v3, rfl, hR3, hv3, k3⟩; have hT3 := hT2.off k3 (by omega) (by omega); have hw3 := belOff hw2 k3 hw2.size (fun i hi => by omega)))
  have hM : (ldL F [(p, (⟨#[116, 104, 101, 114, 101]⟩ : ByteArray))]).length * 32 ≤ 140737488351232 := by
    unfold ldL
    split
    · exact zl
    · simp
  have ess := sameB_self (ldL F [(p, (⟨#[116, 104, 101, 114, 101]⟩ : ByteArray))])
  have g2' : W0.heap.size < W2.heap.size := by have := g2; simp at this; omega
  have hv3' : ∀ j, v3.ownBlock = some j → j ≠ tb := fun j hj => by
    rcases hv3 with rfl | hv3
    · cases hj
    · have := hv3 j hj; omega
  have r0 := hR3.ltR
  clear e1 e2 hT0 hT1 hT2 hR1 hR2 hw0 hw1 hw2
  go_region_with (first
    | (go_at_call 17; refine (load_any _ tb mb _ F v0 hT3.drew (fat_keep f0 hw3.drew) (by omega) (fun x hx => by have := (ze x hx).1; omega)).mono ?_; rintro e W4 ⟨nb, rfl, hT4, hnb, k4⟩; have hw4 := belOff hw3.drew k4 hw3.size (fun i hi => by omega); have hR4 := hR3.drew.off k4 (by omega) (fun j hj => by have := hv3' j hj; omega); have hnr : nb ≠ W0.heap.size := hnb.elim (fun h => by omega) (fun h => by have : W3.drew.heap.size = W3.heap.size := rfl; omega))
    | (go_at_call 18; refine (rload_any _ W0.heap.size v3 _ F v0 hR4 (fat_keep f0 hw4) (by omega)).mono ?_; rintro e W5 ⟨v5, rfl, hR5, hv5, k5⟩; have hw5 := belOff hw4 k5 hw4.size (fun i hi => by omega); have hT5 := hT4.off k5 (by omega) (by omega); have c5 := hR5.cell)
    | (go_at_call 13; refine (files_any _ tb nb _ hT5 (by omega)).mono ?_; rintro e W6 ⟨v6, rfl, hrow6, b6⟩; have hw6 := hw5.trans (b6.mono hw5.size); have hR6 := hR5.below b6; have c6 := hR6.cell)
    | (go_at_call 12; refine (same_any _ _ _ _ _ (fat_of_row hrow6) (fat_of_row hR6.row) (by omega) (by omega)).mono ?_; rw [ess]; rintro e W7 ⟨rfl, n7, rfl⟩; have hw7 := below_drewN hw6 n7)
    | (go_at_call 14; refine (sure_any _).mono ?_; rintro e W8 ⟨rfl, b8⟩; have hw8 := hw7.trans (b8.mono hw7.size)))
  all_goals
    go_wp2
    go_ret
    exact ⟨rfl, hw8⟩

theorem contract (H : Type) (enc : TypeId × Value → H) (W : World) (base : Nat) (args : Array Value) (ds gs : List (DataW H)) (before : List MemPlace)
    (hval : ∀ (j : Nat) t v, Try.f4.params[j]? = some t → args[j]? = some v → Value.okWide Try.prog W .any base t v)
    (hW : DataW.Whole enc Try.prog Try.f4.params.toList Rows.vfsLoadsSpec.vars false W args.toList ds gs before)
    (hsz : (DataW.weightsEach Try.prog (Try.f4.params.toList ++ Rows.vfsLoadsSpec.plain.varTypes Try.prog) (ds ++ gs)).all (· ≤ reachBytes) = true) :
    Calls Try.prog 4 args W fun e W' => ∃ v, e = .returned v ∧ Rows.vfsLoadsSpec.post enc Try.prog Try.f4 false true false false W args v W' := by
  have hW' := hW
  obtain ⟨p, q, hA0, hV, rfl, hfz, hnd⟩ := hW
  have hA : DataW.TrodAll enc Try.prog W 0 (fun _ => true) true Try.f4.params.toList args.toList ds p := hA0
  have hAll := hA
  rw [Try.params4] at hA hval hsz
  obtain ⟨v0, vs0, d0, ds0, p0, q0, hargs, rfl, rfl, h0, r0⟩ := trodAll_cons hA
  obtain ⟨v1, vs1, d1, ds1, p1, q1, rfl, rfl, rfl, h1, r1⟩ := trodAll_cons r0
  obtain ⟨rfl, rfl, rfl⟩ := trodAll_nil r1
  obtain rfl : args = #[v0, v1] := by cases args; simp_all
  obtain ⟨rfl, rfl⟩ := trodVars_none hV
  have hlt := hW'.lt
  have m0 : ∀ n ∈ d0.weights Try.prog 26, n ≤ 140737488351232 := fun n hn => of_decide_eq_true (List.all_eq_true.1 hsz n (DataW.weights_mem_each (j := 0) rfl rfl n hn))
  obtain ⟨F0, f0, z0⟩ := open_files (hval 0 26 v0 rfl rfl) h0
  have m1 : ∀ n ∈ d1.weights Try.prog 9, n ≤ 140737488351232 := fun n hn => of_decide_eq_true (List.all_eq_true.1 hsz n (DataW.weights_mem_each (j := 1) rfl rfl n hn))
  obtain ⟨a1, rfl, z1⟩ := open_text (hval 1 9 v1 rfl rfl) h1
  refine (walk v0 F0 a1 W f0 (z0.1 140737488351232 m0) (z1.1 140737488351232 m1)).mono fun e W' ⟨he, bel⟩ => ?_
  subst he
  exact ⟨_, rfl, _, _, _, [], _, [], hW', trodAll_mk1 (shut_bool Try.underlying4 _), below_trodAll laidOut bel _ (by kernel_rfl) hAll (fun x hx => hlt x (by simpa using hx)), rfl, bel.frame _, fun h => by cases h⟩

set_option maxRecDepth 100000 in
theorem lifted (os : Os) (started : os.Started) (H : Type) (enc : TypeId × Value → H) :
    ReturnsInHanded {} Try.checked os 4 .any (Rows.vfsLoadsSpec.pre6 enc Try.prog Try.f4 Rows.vfsLoadsRow.domain false) (Rows.vfsLoadsSpec.post enc Try.prog Try.f4 false true false false) := by
  refine returnsInHanded_of_change_sized (C := Try.checked) own started (by kernel_rfl) Try.func4
    (ChangeSpec.witness6 (enc := enc) (C := Try.checked) false ⟨#[], #[.slice none 0 0, .string ByteArray.empty], []⟩ 8 (by kernel_rfl) (by kernel_rfl) (by kernel_rfl) (by kernel_rfl)) ?_
  intro W base args ds gs before hval hW _ hsz _
  exact contract H enc W base args ds gs before hval hW hsz

theorem said : Rows.VfsLoadsSaid :=
  OpenClaim.holds_of_wide 4 Try.f4 rfl rfl rfl rfl rfl rfl rfl ⟨rfl, rfl, rfl, rfl, rfl⟩ rfl rfl rfl rfl rfl (by kernel_rfl) Try.func4 (by kernel_rfl)
    (of_decide_eq_true (by kernel_rfl)) (by unfold Func.isWrapper; first | (rw [if_pos (by decide +kernel)]; kernel_rfl) | (rw [if_neg (by decide +kernel)]; exact ⟨rfl, rfl⟩))
    (fun os started H enc _ => lifted os started H enc)

end Go.Proofs.Ytoipggaepkedmaa.vfsLoads
