/- Whether a text is runes, how many it has, and each of them: for every text of bulk at most 1048576 and every place the program answers as the document says, and the chapter's examples hold. -/
import Derived.Test.YtddacbobklmpfaaDoorClose
import Derived.Test.YtddacbobklmpfaaDoorAt
import Derived.Test.YtddacbobklmpfaaDoorRefSlice
namespace Go.Proofs.YtddacbobklmpfaaDoor.counts
open Go.ChangeShapes Go.WideShapes Go.ChangeAt Go.RowKit
open Go.ChangeMaps (open_string shut_string)

theorem at_out (s : ByteArray) (i : Int) (w : World) (hs : s.size ≤ 1099511627776) (h : i < 0 ∨ ((scan s.data.toList).length : Int) ≤ i) :
    Calls Tryd.prog 10 #[.string s, .int .i64 i] w fun e w' => e = .returned (.tuple #[.string ⟨#[]⟩, .bool false]) ∧ Below w.heap.size w w' := by
  have h1 := at_any s i w (by omega)
  rw [atP_out _ _ h] at h1
  exact h1
theorem at_in (s : ByteArray) (k : Nat) (w : World) (hs : s.size ≤ 1099511627776) (h : k < (scan s.data.toList).length) :
    Calls Tryd.prog 10 #[.string s, .int .i64 (k : Int)] w fun e w' => e = .returned (.tuple #[.string ⟨((scan s.data.toList)[k]).2.toArray⟩, .bool true]) ∧ Below w.heap.size w w' := by
  have h1 := at_any s k w (by omega)
  rw [atP_in _ _ h] at h1
  have hne : ((scan s.data.toList)[k]).2.isEmpty = false := by
    have := scan_pos s.data.toList _ (List.getElem_mem h)
    simpa using this
  rw [hne] at h1
  exact h1

set_option maxHeartbeats 2000000 in
theorem walk (s : ByteArray) (i : Int) (w : World) (hs : s.size ≤ 1048576) (ht : tabCell w) :
    Calls Tryd.prog 3 #[.string s, .int .i64 i] w fun e w' => e = .returned (.bool true) ∧ Below w.heap.size w w' := by
  have hr := refRunes_any s w (by omega)
  have hv := fun w1 => valid_any s w1
  have hc := fun w1 => count_any s w1 (by unfold maxLen; omega)
  have ho := fun w1 => at_out s i w1 (by omega)
  have hi := fun k w1 => at_in s k w1 (by omega)
  have hcl := scan_length s.data.toList
  rw [← Lib.size_eq] at hcl
  have hz := ht.lt
  generalize scan s.data.toList = xs at *
  generalize validL s.data.toList = vb at *
  go_enter Tryd.func3, Tryd.ntmps3
  go_wp2_with (go_at_call 9; refine hr.mono ?_)
  rintro e W1 ⟨v, rfl, hown, b1⟩
  clear hr
  have s1 := b1.size
  obtain ⟨g, c, hcells, rfl⟩ := strs_form hown
  have HC : Hid (∀ k, k < xs.length → ∃ b : Nat, g = some ⟨b, 0, none⟩ ∧ ∀ j (h : j < xs.length), W1.cell? ⟨b, j, none⟩ = some (.string ⟨(xs[j]).2.toArray⟩)) := hcells
  have HO : Hid (W1.ownsRow w.heap.size 9 1 (.slice g xs.length c) xs.length (strsV xs)) := hown
  clear hcells hown
  by_cases hin : i < 0 ∨ (xs.length : Int) ≤ i
  · have ho1 := fun w1 => ho w1 hin
    have hor : i < 0 ∨ (0 ≤ i ∧ (xs.length : Int) ≤ i) := by omega
    clear ho hi hin
    rcases hor with h1 | ⟨h1, h2⟩
    all_goals
      go_wp2_with (go_at_call 10; refine (ho1 _).mono ?_)
      rintro e W2 ⟨rfl, b2⟩
      have s2 := b2.size
      go_wp2_with (go_at_call 11; refine (hv _).mono ?_)
      rintro e W3 ⟨rfl, b3⟩
      have s3 := b3.size
      go_wp2_with (go_at_call 12; refine (hc _).mono ?_)
      rintro e W4 ⟨rfl, b4⟩
      have s4 := b4.size
      have bb := b1.trans ((b2.mono s1).trans ((b3.mono (by omega)).trans (b4.mono (by omega))))
      have ha := awake_any W4 (ht.below bb hz)
      go_wp2_with (go_at_call 13; refine ha.mono ?_)
      rintro e W5 ⟨rfl, b5⟩
      go_wp2
      go_ret
      exact ⟨rfl, bb.trans (b5.mono (by omega))⟩
  · obtain ⟨k, rfl⟩ : ∃ k : Nat, i = (k : Int) := ⟨i.toNat, by omega⟩
    have hk : k < xs.length := by omega
    have hi1 := fun w1 => hi k w1 hk
    obtain ⟨b, rfl, hcc⟩ := HC.out k hk
    have hck := hcc k hk
    have hbl := (HO.out.lt b rfl).2
    clear ho hi hin hcc HC
    generalize (⟨(xs[k]).2.toArray⟩ : ByteArray) = pc at *
    go_wp2_with (go_at_call 10; refine (hi1 _).mono ?_)
    rintro e W2 ⟨rfl, b2⟩
    have s2 := b2.size
    have hck2 : W2.cell? ⟨b, k, none⟩ = some (.string pc) := (b2.cell (p := ⟨b, k, none⟩) hbl).trans hck
    clear hck
    go_wp2_with (go_at_call 11; refine (hv _).mono ?_)
    rintro e W3 ⟨rfl, b3⟩
    have s3 := b3.size
    go_wp2_with (go_at_call 12; refine (hc _).mono ?_)
    rintro e W4 ⟨rfl, b4⟩
    have s4 := b4.size
    have bb := b1.trans ((b2.mono s1).trans ((b3.mono (by omega)).trans (b4.mono (by omega))))
    have ha := awake_any W4 (ht.below bb hz)
    go_wp2_with (go_at_call 13; refine ha.mono ?_)
    rintro e W5 ⟨rfl, b5⟩
    go_wp2
    go_ret
    exact ⟨rfl, bb.trans (b5.mono (by omega))⟩

theorem contract (H : Type) (enc : TypeId × Value → H) (W : World) (base : Nat) (args : Array Value) (ds gs : List (DataW H)) (before : List MemPlace)
    (hval : ∀ (j : Nat) t v, Tryd.f3.params[j]? = some t → args[j]? = some v → Value.okWide Tryd.prog W .any base t v)
    (hW : DataW.Whole enc Tryd.prog Tryd.f3.params.toList Rows.runesCountsSpec.vars false W args.toList ds gs before)
    (hk : Rows.uptoSmall H (ds ++ gs) = true)
    (hL : laidMetH Tryd.prog laidTabs W) :
    Calls Tryd.prog 3 args W fun e W' => ∃ v, e = .returned v ∧ Rows.runesCountsSpec.post enc Tryd.prog Tryd.f3 false true false false W args v W' := by
  have hW' := hW
  obtain ⟨p, q, hA0, hV, rfl, hfz, hnd⟩ := hW
  have hA : DataW.TrodAll enc Tryd.prog W 0 (fun _ => true) true Tryd.f3.params.toList args.toList ds p := hA0
  rw [Tryd.params3] at hA hval
  obtain ⟨v0, vs0, d0, ds0, p0, q0, hargs, rfl, rfl, h0, r0⟩ := trodAll_cons hA
  obtain ⟨v1, vs1, d1, ds1, p1, q1, rfl, rfl, rfl, h1, r1⟩ := trodAll_cons r0
  obtain ⟨rfl, rfl, rfl⟩ := trodAll_nil r1
  obtain rfl : args = #[v0, v1] := by cases args; simp_all
  obtain ⟨rfl, rfl⟩ := trodVars_none hV
  obtain ⟨a0, rfl, rfl, rfl, w0⟩ := open_string Tryd.underlying9 (hval 0 9 v0 rfl rfl) h0
  obtain ⟨a1, rfl, rfl, rfl, w1⟩ := open_int Tryd.underlying3 (hval 1 3 v1 rfl rfl) h1
  clear hA0
  have hk2 : Rows.uptoBulkAll _ ≤ 1048576 := of_decide_eq_true hk
  simp only [List.append_nil, Rows.uptoBulkAll, Rows.uptoBulk] at hk2
  have s0 : a0.size ≤ 1048576 := by rw [Lib.size_eq]; omega
  refine (walk a0 a1 W s0 (table hL)).mono fun e W' ⟨he, bel⟩ => ?_
  subst he
  exact ⟨_, rfl, _, _, _, [], _, [], hW', trodAll_mk1 (shut_bool Tryd.underlying4 _), trodAll_cons_mk (shut_string Tryd.underlying9 w0) (trodAll_cons_mk (shut_int Tryd.underlying3 w1) trodAll_mk0), rfl, bel.frame _, fun h => by cases h⟩

theorem laid_met (os : Os) : laidMet Tryd.prog laidTabs (({ World.holding Tryd.prog os ⟨#[], #[], []⟩ with heap := layTabs (World.holding Tryd.prog os ⟨#[], #[], []⟩).heap } : World).forCall (fun _ _ => 0) ⟨#[], #[.string ByteArray.empty, .int .i64 0], []⟩).memory :=
  laidMet_of_run' 80 (by kernel_rfl) (by kernel_rfl)
theorem reads (os : Os) {H : Type} (enc : TypeId × Value → H) : ∃ places, DataW.whole enc Tryd.prog (({ World.holding Tryd.prog os ⟨#[], #[], []⟩ with heap := layTabs (World.holding Tryd.prog os ⟨#[], #[], []⟩).heap } : World).forCall (fun _ _ => 0) ⟨#[], #[.string ByteArray.empty, .int .i64 0], []⟩).memory Tryd.f3.params.toList Rows.runesCountsSpec.vars false (#[.string ByteArray.empty, .int .i64 0] : Array Value).toList 8 = some ([.lit (.string []), .lit (.int .i64 0)], [], places) :=
  ⟨[], by kernel_rfl⟩

set_option maxRecDepth 100000 in
theorem lifted (os : Os) (started : os.Started) (H : Type) (enc : TypeId × Value → H) (F : Stop.Interp) :
    ReturnsInHanded {} Tryd.checked os 3 .any ((Rows.OpenSpec.upto Rows.runesCountsSpec).preRow enc Tryd.prog Tryd.f3 Rows.runesCountsUptoRow.domain false Rows.runesCountsUptoRow.laid) (((Rows.OpenSpec.upto Rows.runesCountsSpec).at F).post enc Tryd.prog Tryd.f3 false true false false) := by
  obtain ⟨places, hx⟩ := reads os enc
  refine returnsInHanded_of_row (C := Tryd.checked) (s := (Rows.OpenSpec.upto Rows.runesCountsSpec)) own started (by kernel_rfl) Tryd.func3
    (witness_row_at (enc := enc) (C := Tryd.checked) false ({ World.holding Tryd.prog os ⟨#[], #[], []⟩ with heap := layTabs (World.holding Tryd.prog os ⟨#[], #[], []⟩).heap } : World) #[.string ByteArray.empty, .int .i64 0] rfl (by kernel_rfl) (by kernel_rfl) (by kernel_rfl)
      (OpenSpec.preRow_of_cond 8 hx (by kernel_rfl) (fun k hk => by cases hk; kernel_rfl) (by kernel_rfl) (laid_met os))) ?_
  intro W base args ds gs before hval hW _ hcond _ hL _ _
  exact contract H enc W base args ds gs before hval hW (hcond _ rfl) hL

theorem said : Rows.RunesCountsUptoSaid :=
  OpenClaim.holds_of_cond 3 Tryd.f3 rfl rfl rfl rfl rfl rfl rfl ⟨rfl, rfl, rfl, rfl, rfl⟩ rfl rfl rfl rfl rfl (by kernel_rfl) Tryd.func3 (by kernel_rfl)
    (of_decide_eq_true (by kernel_rfl)) (by unfold Func.isWrapper; first | (rw [if_pos (by decide +kernel)]; kernel_rfl) | (rw [if_neg (by decide +kernel)]; exact ⟨rfl, rfl⟩))
    (fun os started H enc _ F => by rw [OpenClaim.pre_eq_preRow]; exact lifted os started H enc F)

theorem plain (f : FuncId) (fn : Func) (hf : Tryd.pinned.checked.prog.funcNamed "gusset/gussetlaw01.RunesCounts" = some f) (hfn : Tryd.pinned.checked.prog.funcs[f]? = some fn) :
    false = Tryd.pinned.checked.prog.looks [] ∧ ∀ (j : Nat) t, fn.params[j]? = some t → Tryd.pinned.checked.prog.wantsStandIn t = false := by
  obtain rfl : f = 3 := Option.some.inj ((show Tryd.prog.funcNamed "gusset/gussetlaw01.RunesCounts" = some 3 by kernel_rfl).symm.trans hf) |>.symm
  obtain rfl : fn = Tryd.f3 := (Option.some.inj (Tryd.func3.symm.trans hfn)).symm
  refine ⟨by kernel_rfl, fun j t ht => ?_⟩
  rw [Tryd.params3] at ht
  have hm : t = 9 ∨ t = 3 := by simpa using Array.mem_of_getElem? ht
  rcases hm with rfl | rfl
  · exact (show Tryd.prog.wantsStandIn 9 = false by kernel_rfl)
  · exact (show Tryd.prog.wantsStandIn 3 = false by kernel_rfl)

theorem card : Rows.RunesCountsUptoCardSaid :=
  Claim7.holds_tied_plain_at .later [] _ _ _ _ said (fun _ h => by cases h) (by kernel_rfl) (fun _ h => by cases h) runesCountsUpto_row_tie rfl ⟨rfl, rfl⟩ (by kernel_rfl) rfl plain (by kernel_rfl)
end Go.Proofs.YtddacbobklmpfaaDoor.counts
namespace Go.Proofs.YtddacbobklmpfaaDoor
theorem runesCounts_card : Rows.RunesCountsUptoCardSaid := counts.card
end Go.Proofs.YtddacbobklmpfaaDoor
