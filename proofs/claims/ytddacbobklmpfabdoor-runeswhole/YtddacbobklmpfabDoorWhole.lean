/- All runes of a text, one behind the other, are the text, and cut anywhere it is both pieces: for every text and every place; and the chapter's examples hold. -/
import Derived.Test.YtddacbobklmpfabDoorClose
import Derived.Test.YtddacbobklmpfabDoorAt
import Derived.SizedLaws
namespace Go.Proofs.YtddacbobklmpfabDoor.whole
open Go.ChangeShapes Go.WideShapes Go.ChangeAt Go.RowKit
open Go.ChangeMaps (open_string shut_string)

theorem part_cut (xs : Rns) (a n : Nat) (hn : xs.length ≤ n) : part xs 0 a ++ part xs a n = bytesOf xs := by
  unfold part
  rw [List.take_of_length_le hn, List.drop_zero, ← bytesOf_append, List.take_append_drop]
theorem at_out (s : ByteArray) (i : Int) (w : World) (hs : s.size ≤ 140737488351232) (h : i < 0 ∨ ((scan s.data.toList).length : Int) ≤ i) :
    Calls Tryd.prog 5 #[.string s, .int .i64 i] w fun e w' => e = .returned (.tuple #[.string ⟨#[]⟩, .bool false]) ∧ Below w.heap.size w w' := by
  have h1 := at_any s i w hs
  rw [atP_out _ _ h] at h1
  exact h1
theorem at_in (s : ByteArray) (k : Nat) (w : World) (hs : s.size ≤ 140737488351232) (h : k < (scan s.data.toList).length) :
    Calls Tryd.prog 5 #[.string s, .int .i64 (k : Int)] w fun e w' => e = .returned (.tuple #[.string ⟨((scan s.data.toList)[k]).2.toArray⟩, .bool true]) ∧ Below w.heap.size w w' := by
  have h1 := at_any s k w hs
  rw [atP_in _ _ h] at h1
  have hne : ((scan s.data.toList)[k]).2.isEmpty = false := by
    have := scan_pos s.data.toList _ (List.getElem_mem h)
    simpa using this
  rw [hne] at h1
  exact h1
theorem slice_in (s : ByteArray) (k : Nat) (w : World) (hs : s.size ≤ 140737488351232) (h : k < (scan s.data.toList).length) :
    Calls Tryd.prog 6 #[.string s, .int .i64 (k : Int), .int .i64 ((k : Int) + 1)] w fun e w' => e = .returned (.string ⟨((scan s.data.toList)[k]).2.toArray⟩) ∧ Below w.heap.size w w' := by
  have h1 := slice_any s k (k + 1) w hs
  rw [sliceZ_one _ _ (by omega), atP_in _ _ h] at h1
  exact h1

set_option maxHeartbeats 4000000 in
set_option maxRecDepth 100000 in
theorem walk (s : ByteArray) (k : Int) (w : World) (hs : s.size ≤ 140737488351232) (ht : tabCell w) :
    Calls Tryd.prog 3 #[.string s, .int .i64 k] w fun e w' => e = .returned (.bool true) ∧ Below w.heap.size w w' := by
  have hc := count_any s w (by unfold maxLen; omega)
  have ho := fun w1 => at_out s (scan s.data.toList).length w1 hs (by omega)
  have hi := fun k w1 => at_in s k w1 hs
  have hl := fun k w1 => slice_in s k w1 hs
  have hA := fun w1 => slice_any s 0 k w1 hs
  have hB := fun w1 => slice_any s (max k 0) (scan s.data.toList).length w1 hs
  have hcut : sliceZ s.data.toList 0 k ++ sliceZ s.data.toList (max k 0) (scan s.data.toList).length = s.data.toList := by
    unfold sliceZ
    have e1 : (max (0 : Int) 0).toNat = 0 := by omega
    have e2 : (max (max k 0) 0).toNat = k.toNat := by omega
    rw [e1, e2, Int.toNat_natCast, part_cut _ _ _ (Nat.le_refl _), scan_bytes]
  have hz := ht.lt
  have hcl := scan_length s.data.toList
  rw [← Lib.size_eq] at hcl
  have hbl := scan_bytes s.data.toList
  have hmem := bytesOf_mem_le (scan s.data.toList)
  have htk : ∀ k, (bytesOf ((scan s.data.toList).take k)).length ≤ s.size := by
    intro k
    have := bytesOf_take_le (scan s.data.toList) k
    rw [hbl, ← Lib.size_eq] at this
    exact this
  rw [hbl, ← Lib.size_eq] at hmem
  have hpos := scan_pos s.data.toList
  obtain ⟨p1, hp1⟩ : ∃ p1 : ByteArray, p1 = ⟨(sliceZ s.data.toList 0 k).toArray⟩ := ⟨_, rfl⟩
  obtain ⟨p2, hp2⟩ : ∃ p2 : ByteArray, p2 = ⟨(sliceZ s.data.toList (max k 0) (scan s.data.toList).length).toArray⟩ := ⟨_, rfl⟩
  rw [← hp1] at hA
  rw [← hp2] at hB
  have hpp : p1 ++ p2 = s := by
    apply ByteArray.ext
    apply Array.ext'
    rw [ByteArray.data_append, Array.toList_append, hp1, hp2]
    exact hcut
  have hs1 : p1.size ≤ s.size := by rw [← hpp, ByteArray.size_append]; omega
  have hs2 : p2.size ≤ s.size := by rw [← hpp, ByteArray.size_append]; omega
  have HPP : Hid (p1 ++ p2 = s) := hpp
  have HBL : Hid (bytesOf (scan s.data.toList) = s.data.toList) := hbl
  clear hcut hp1 hp2 hpp hbl
  generalize scan s.data.toList = xs at *
  have HME : Hid (∀ k (h : k < xs.length), (xs[k]).2.length ≤ s.size) := hmem
  have HTK : Hid (∀ k, (bytesOf (xs.take k)).length ≤ s.size) := htk
  have HPO : Hid (∀ x ∈ xs, x.2 ≠ []) := hpos
  clear hmem htk hpos
  go_enter Tryd.func3, Tryd.ntmps3
  go_wp2_with (go_at_call 4; refine hc.mono ?_)
  rintro e W1 ⟨rfl, b1⟩
  clear hc
  go_wp2
  go_loopw [5, 7] (fun o i wr => ∃ (j : Nat) (out : ByteArray), j ≤ xs.length ∧ i = .int .i64 (j : Nat) ∧ o = .string out ∧ out.data.toList = bytesOf (xs.take j) ∧ Below w.heap.size w wr) (fun _ i _ => xs.length - (intOf i).toNat)
  case atStart => exact ⟨0, _, by omega, rfl, rfl, by simp [bytesOf], b1⟩
  case round =>
    obtain ⟨j, out, hj, rfl, rfl, hout, bw⟩ := hrel
    have sw := bw.size
    by_cases hlt : j < xs.length
    · have hi1 := fun w1 => hi j w1 hlt
      have hl1 := fun w1 => hl j w1 hlt
      have hpo := HPO.out _ (List.getElem_mem hlt)
      have hme := HME.out j hlt
      have htk := HTK.out j
      rw [← hout, ← Lib.size_eq] at htk
      have hstep : bytesOf (xs.take (j + 1)) = out.data.toList ++ (xs[j]).2 := by
        rw [List.take_succ_eq_append_getElem hlt, bytesOf_append, hout]
        simp [bytesOf]
      obtain ⟨pc, hpc⟩ : ∃ pc : ByteArray, pc = ⟨(xs[j]).2.toArray⟩ := ⟨_, rfl⟩
      have hpl : pc.data.toList = (xs[j]).2 := by rw [hpc]
      rw [← hpc] at hi1 hl1
      rw [← hpl] at hpo hme hstep
      rw [← Lib.size_eq] at hme
      have hE : pc.toList.isEmpty = false := by rw [Lib.toList_data]; simpa using hpo
      have HST : Hid (bytesOf (xs.take (j + 1)) = out.data.toList ++ pc.data.toList) := hstep
      clear hpc hpl hpo hstep hout hi hl ho hA hB
      go_wp2_with (go_at_call 5; refine (hi1 _).mono ?_)
      rintro e W2 ⟨rfl, b2⟩
      have s2 := b2.size
      go_wp2_with (go_at_call 6; refine (hl1 _).mono ?_)
      rintro e W3 ⟨rfl, b3⟩
      have s3 := b3.size
      have bb := bw.trans ((b2.mono sw).trans (b3.mono (by omega)))
      go_wp2
      go_roundw
      case rel => exact ⟨j + 1, _, hlt, by go_num, rfl, by rw [HST.out]; simp, bb⟩
      case measure => simp [intOf]; omega
    · have hall : xs.take j = xs := List.take_of_length_le (by omega)
      rw [hall, HBL.out] at hout
      have hos : out = s := ByteArray.ext (Array.ext' hout)
      have hjl : j = xs.length := by omega
      clear hout hall hi hl
      subst hos
      subst hjl
      go_wp2_with (go_at_call 5; refine (ho _).mono ?_)
      rintro e W2 ⟨rfl, b2⟩
      have s2 := b2.size
      go_wp2_with (go_at_call 6; refine (hA _).mono ?_)
      rintro e W3 ⟨rfl, b3⟩
      have s3 := b3.size
      go_wp2_with (go_at_call 6; refine (hB _).mono ?_)
      rintro e W4 ⟨rfl, b4⟩
      have s4 := b4.size
      have bb := bw.trans ((b2.mono sw).trans ((b3.mono (by omega)).trans (b4.mono (by omega))))
      have ha := awake_any W4 (ht.below bb hz)
      have hpp := HPP.out
      go_wp2_with (go_at_call 7; refine ha.mono ?_)
      rintro e W5 ⟨rfl, b5⟩
      go_wp2
      go_ret
      exact ⟨rfl, bb.trans (b5.mono (by omega))⟩

theorem contract (H : Type) (enc : TypeId × Value → H) (W : World) (base : Nat) (args : Array Value) (ds gs : List (DataW H)) (before : List MemPlace)
    (hval : ∀ (j : Nat) t v, Tryd.f3.params[j]? = some t → args[j]? = some v → Value.okWide Tryd.prog W .any base t v)
    (hW : DataW.Whole enc Tryd.prog Tryd.f3.params.toList Rows.runesWholeSpec.vars false W args.toList ds gs before)
    (hsz : (DataW.weightsEach Tryd.prog (Tryd.f3.params.toList ++ (OpenSpec.ofChange Rows.runesWholeSpec).bare.plain.varTypes Tryd.prog) (ds ++ gs)).all (· ≤ reachBytes) = true)
    (hL : laidMetH Tryd.prog laidTabs W) :
    Calls Tryd.prog 3 args W fun e W' => ∃ v, e = .returned v ∧ Rows.runesWholeSpec.post enc Tryd.prog Tryd.f3 false true false false W args v W' := by
  have hW' := hW
  obtain ⟨p, q, hA0, hV, rfl, hfz, hnd⟩ := hW
  have hA : DataW.TrodAll enc Tryd.prog W 0 (fun _ => true) true Tryd.f3.params.toList args.toList ds p := hA0
  rw [Tryd.params3] at hA hval hsz
  obtain ⟨v0, vs0, d0, ds0, p0, q0, hargs, rfl, rfl, h0, r0⟩ := trodAll_cons hA
  obtain ⟨v1, vs1, d1, ds1, p1, q1, rfl, rfl, rfl, h1, r1⟩ := trodAll_cons r0
  obtain ⟨rfl, rfl, rfl⟩ := trodAll_nil r1
  obtain rfl : args = #[v0, v1] := by cases args; simp_all
  obtain ⟨rfl, rfl⟩ := trodVars_none hV
  obtain ⟨a0, rfl, rfl, rfl, w0⟩ := open_string Tryd.underlying9 (hval 0 9 v0 rfl rfl) h0
  obtain ⟨a1, rfl, rfl, rfl, w1⟩ := open_int Tryd.underlying3 (hval 1 3 v1 rfl rfl) h1
  clear hA0
  have s0 : a0.size ≤ 140737488351232 := by rw [Lib.size_eq]; exact sized_string hsz (j := 0) (t := 9) rfl rfl
  refine (walk a0 a1 W s0 (table hL)).mono fun e W' ⟨he, bel⟩ => ?_
  subst he
  exact ⟨_, rfl, _, _, _, [], _, [], hW', trodAll_mk1 (shut_bool Tryd.underlying4 _), trodAll_cons_mk (shut_string Tryd.underlying9 w0) (trodAll_cons_mk (shut_int Tryd.underlying3 w1) trodAll_mk0), rfl, bel.frame _, fun h => by cases h⟩

theorem laid_met (os : Os) : laidMet Tryd.prog laidTabs (({ World.holding Tryd.prog os ⟨#[], #[], []⟩ with heap := layTabs (World.holding Tryd.prog os ⟨#[], #[], []⟩).heap } : World).forCall (fun _ _ => 0) ⟨#[], #[.string ByteArray.empty, .int .i64 0], []⟩).memory :=
  laidMet_of_run' 80 (by kernel_rfl) (by kernel_rfl)
theorem reads (os : Os) {H : Type} (enc : TypeId × Value → H) : ∃ places, DataW.whole enc Tryd.prog (({ World.holding Tryd.prog os ⟨#[], #[], []⟩ with heap := layTabs (World.holding Tryd.prog os ⟨#[], #[], []⟩).heap } : World).forCall (fun _ _ => 0) ⟨#[], #[.string ByteArray.empty, .int .i64 0], []⟩).memory Tryd.f3.params.toList Rows.runesWholeSpec.vars false (#[.string ByteArray.empty, .int .i64 0] : Array Value).toList 8 = some ([.lit (.string []), .lit (.int .i64 0)], [], places) :=
  ⟨[], by kernel_rfl⟩

set_option maxRecDepth 100000 in
theorem lifted (os : Os) (started : os.Started) (H : Type) (enc : TypeId × Value → H) (F : Stop.Interp) :
    ReturnsInHanded {} Tryd.checked os 3 .any ((OpenSpec.ofChange Rows.runesWholeSpec).preRow enc Tryd.prog Tryd.f3 Rows.runesWholeRow.domain false Rows.runesWholeRow.laid) (((OpenSpec.ofChange Rows.runesWholeSpec).at F).post enc Tryd.prog Tryd.f3 false true false false) := by
  obtain ⟨places, hx⟩ := reads os enc
  refine returnsInHanded_of_row (C := Tryd.checked) (s := (OpenSpec.ofChange Rows.runesWholeSpec)) own started (by kernel_rfl) Tryd.func3
    (witness_row_at (enc := enc) (C := Tryd.checked) false ({ World.holding Tryd.prog os ⟨#[], #[], []⟩ with heap := layTabs (World.holding Tryd.prog os ⟨#[], #[], []⟩).heap } : World) #[.string ByteArray.empty, .int .i64 0] rfl (by kernel_rfl) (by kernel_rfl) (by kernel_rfl)
      (OpenSpec.preRow_of_cond 8 hx (by kernel_rfl) (fun k hk => by cases hk) (by kernel_rfl) (laid_met os))) ?_
  intro W base args ds gs before hval hW _ _ hsz hL _ _
  exact contract H enc W base args ds gs before hval hW hsz hL

theorem said : Rows.RunesWholeSaid :=
  OpenClaim.holds_of_cond 3 Tryd.f3 rfl rfl rfl rfl rfl rfl rfl ⟨rfl, rfl, rfl, rfl, rfl⟩ rfl rfl rfl rfl rfl (by kernel_rfl) Tryd.func3 (by kernel_rfl)
    (of_decide_eq_true (by kernel_rfl)) (by unfold Func.isWrapper; first | (rw [if_pos (by decide +kernel)]; kernel_rfl) | (rw [if_neg (by decide +kernel)]; exact ⟨rfl, rfl⟩))
    (fun os started H enc _ F => by rw [OpenClaim.pre_eq_preRow]; exact lifted os started H enc F)

theorem plain (f : FuncId) (fn : Func) (hf : Tryd.pinned.checked.prog.funcNamed "gusset/gussetlaw01.RunesWhole" = some f) (hfn : Tryd.pinned.checked.prog.funcs[f]? = some fn) :
    false = Tryd.pinned.checked.prog.looks [] ∧ ∀ (j : Nat) t, fn.params[j]? = some t → Tryd.pinned.checked.prog.wantsStandIn t = false := by
  obtain rfl : f = 3 := Option.some.inj ((show Tryd.prog.funcNamed "gusset/gussetlaw01.RunesWhole" = some 3 by kernel_rfl).symm.trans hf) |>.symm
  obtain rfl : fn = Tryd.f3 := (Option.some.inj (Tryd.func3.symm.trans hfn)).symm
  refine ⟨by kernel_rfl, fun j t ht => ?_⟩
  rw [Tryd.params3] at ht
  have hm : t = 9 ∨ t = 3 := by simpa using Array.mem_of_getElem? ht
  rcases hm with rfl | rfl
  · exact (show Tryd.prog.wantsStandIn 9 = false by kernel_rfl)
  · exact (show Tryd.prog.wantsStandIn 3 = false by kernel_rfl)

theorem card : Rows.RunesWholeCardSaid :=
  Claim7.holds_tied_plain_at .later [] _ _ _ _ said (fun _ h => by cases h) (by kernel_rfl) (fun _ h => by cases h) runesWhole_row_tie rfl ⟨rfl, rfl⟩ (by kernel_rfl) rfl plain (by kernel_rfl)
end Go.Proofs.YtddacbobklmpfabDoor.whole
namespace Go.Proofs.YtddacbobklmpfabDoor
theorem runesWhole_card : Rows.RunesWholeCardSaid := whole.card
end Go.Proofs.YtddacbobklmpfabDoor
