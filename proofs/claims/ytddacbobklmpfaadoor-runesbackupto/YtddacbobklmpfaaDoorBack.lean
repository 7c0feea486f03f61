/- A text in quotes says the text, whatever stands behind, and no byte of it is a line end: for texts of bulk at most 1048576 together; and the chapter's examples hold. -/
import Derived.Test.YtddacbobklmpfaaDoorClose
import Derived.Test.YtddacbobklmpfaaDoorRefRunes
import Derived.Test.YtddacbobklmpfaaDoorBack2
namespace Go.Proofs.YtddacbobklmpfaaDoor.back
open Go.ChangeShapes Go.WideShapes Go.ChangeAt Go.RowKit
open Go.ChangeMaps (open_string shut_string)

theorem refValid_any (s : ByteArray) (w : World) (hs : s.size ≤ 1099511627776) :
    Calls Tryd.prog 23 #[.string s] w fun e w' => e = .returned (.bool (validL s.data.toList)) ∧ Below w.heap.size w w' := by
  have hr := refRunes_any s w hs
  go_enter Tryd.func23, Tryd.ntmps23
  go_wp2_with (go_at_call 9; refine hr.mono ?_)
  rintro e W1 ⟨v, rfl, _, b1⟩
  go_wp2
  go_ret
  exact ⟨rfl, b1⟩
theorem quoteL_le (l : List UInt8) : (quoteL l).length ≤ 6 * l.length + 2 := by
  have h : ∀ l : List UInt8, ((scan l).flatMap quoteP).length ≤ 6 * l.length := by
    intro l
    refine scan_induct (fun l => ((scan l).flatMap quoteP).length ≤ 6 * l.length) (Nat.le_refl _) ?_ l
    intro l hl ih
    have h1 := quoteP_length l hl
    have h2 := decL_le l hl
    rw [scan_cons l hl, List.flatMap_cons, List.length_append]
    rw [List.length_drop] at ih
    omega
  have := h l
  rw [quoteL, List.length_append, List.length_cons, List.length_singleton]
  omega

set_option maxHeartbeats 4000000 in
set_option maxRecDepth 100000 in
theorem walk (s more : ByteArray) (w : World) (hs : s.size ≤ 1048576) (hm : more.size ≤ 1048576) (ht : tabCell w) :
    Calls Tryd.prog 8 #[.string s, .string more] w fun e w' => e = .returned (.bool true) ∧ Below w.heap.size w w' := by
  have h1 := quote_any s w (by omega) ht
  have hv := fun w1 => refValid_any s w1 (by omega)
  have hz := ht.lt
  have hql := quoteL_le s.data.toList
  rw [← Lib.size_eq] at hql
  have hbig := quoteL_big s.data.toList
  have hback := unquote_quote s.data.toList more.data.toList
  obtain ⟨q, hq⟩ : ∃ q : ByteArray, q = ⟨(quoteL s.data.toList).toArray⟩ := ⟨_, rfl⟩
  have hqd : q.data.toList = quoteL s.data.toList := by rw [hq]
  rw [← hq] at h1
  rw [← hqd] at hql hbig hback
  rw [← Lib.size_eq] at hql hback
  have hbyte : ∀ k (h : k < q.size), 32 ≤ (q[k]'h).toNat := by
    intro k h
    refine hbig _ ?_
    have e : q[k]'h = q.data.toList[k]'(by rw [← Lib.size_eq]; exact h) := by rw [Array.getElem_toList]; rfl
    rw [e]
    exact List.getElem_mem _
  have hun := fun w1 (hv : validL s.data.toList = true) => unquote_any (q ++ more) w1 (by rw [ByteArray.size_append]; omega)
  have hcat : (q ++ more).data.toList = q.data.toList ++ more.data.toList := by simp
  have hret : validL s.data.toList = true → unqRes (unquoteL (q ++ more).data.toList) = .returned (.tuple #[.string s, .int .i64 (q.size : Int), .int .i64 0]) := by
    intro h
    rw [hcat, hback h]
    have : (⟨s.data.toList.toArray⟩ : ByteArray) = s := by cases s; simp
    simp only [unqRes, this]
  have HB : Hid (∀ k (h : k < q.size), 32 ≤ (q[k]'h).toNat) := hbyte
  have HU : Hid (∀ w1 : World, validL s.data.toList = true → Calls Tryd.prog 21 #[.string (q ++ more)] w1 fun e w' => e = .returned (.tuple #[.string s, .int .i64 (q.size : Int), .int .i64 0]) ∧ Below w1.heap.size w1 w') := by
    intro w1 h
    have := hun w1 h
    rw [hret h] at this
    exact this
  clear hun hret hcat hbyte hbig hback hq hqd
  go_enter Tryd.func8, Tryd.ntmps8
  go_wp2_with (go_at_call 19; refine h1.mono ?_)
  rintro e W1 ⟨rfl, b1⟩
  have s1 := b1.size
  clear h1
  go_wp2
  go_loop [6] (fun i => ∃ k : Nat, k ≤ q.size ∧ i = .int .i64 (k : Nat)) (fun i => q.size - (intOf i).toNat)
  case atStart => exact ⟨0, by omega, rfl⟩
  case round =>
    obtain ⟨k, hk, rfl⟩ := hrel
    by_cases hlt : k < q.size
    · have hb := HB.out k hlt
      go_wp2
      go_round
      case rel => exact ⟨k + 1, hlt, by go_num⟩
      case measure => simp [intOf]; omega
    · by_cases hvl : validL s.data.toList = true
      · have hu := fun w1 => HU.out w1 hvl
        rw [hvl] at hv
        clear HB hvl HU
        go_wp2_with (go_at_call 23; refine (hv _).mono ?_)
        rintro e W2 rfl b2
        have s2 := b2.size
        go_wp2_with (go_at_call 21; refine (hu _).mono ?_)
        rintro e W3 ⟨rfl, b3⟩
        have s3 := b3.size
        have bb := b1.trans ((b2.mono s1).trans (b3.mono (by omega)))
        have ha := awake_any W3 (ht.below bb hz)
        go_wp2_with (go_at_call 13; refine ha.mono ?_)
        rintro e W4 ⟨rfl, b4⟩
        go_wp2
        go_ret
        exact ⟨rfl, bb.trans (b4.mono (by omega))⟩
      · have hvf : validL s.data.toList = false := by simpa using hvl
        rw [hvf] at hv
        clear HB hvl HU hvf
        go_wp2_with (go_at_call 23; refine (hv _).mono ?_)
        rintro e W2 rfl b2
        have s2 := b2.size
        have bb := b1.trans (b2.mono s1)
        have ha := awake_any W2 (ht.below bb hz)
        go_wp2_with (go_at_call 13; refine ha.mono ?_)
        rintro e W4 ⟨rfl, b4⟩
        go_wp2
        go_ret
        exact ⟨rfl, bb.trans (b4.mono (by omega))⟩

theorem contract (H : Type) (enc : TypeId × Value → H) (W : World) (base : Nat) (args : Array Value) (ds gs : List (DataW H)) (before : List MemPlace)
    (hval : ∀ (j : Nat) t v, Tryd.f8.params[j]? = some t → args[j]? = some v → Value.okWide Tryd.prog W .any base t v)
    (hW : DataW.Whole enc Tryd.prog Tryd.f8.params.toList Rows.runesBackSpec.vars false W args.toList ds gs before)
    (hk : Rows.uptoSmall H (ds ++ gs) = true)
    (hL : laidMetH Tryd.prog laidTabs W) :
    Calls Tryd.prog 8 args W fun e W' => ∃ v, e = .returned v ∧ Rows.runesBackSpec.post enc Tryd.prog Tryd.f8 false true false false W args v W' := by
  have hW' := hW
  obtain ⟨p, q, hA0, hV, rfl, hfz, hnd⟩ := hW
  have hA : DataW.TrodAll enc Tryd.prog W 0 (fun _ => true) true Tryd.f8.params.toList args.toList ds p := hA0
  rw [Tryd.params8] at hA hval
  obtain ⟨v0, vs0, d0, ds0, p0, q0, hargs, rfl, rfl, h0, r0⟩ := trodAll_cons hA
  obtain ⟨v1, vs1, d1, ds1, p1, q1, rfl, rfl, rfl, h1, r1⟩ := trodAll_cons r0
  obtain ⟨rfl, rfl, rfl⟩ := trodAll_nil r1
  obtain rfl : args = #[v0, v1] := by cases args; simp_all
  obtain ⟨rfl, rfl⟩ := trodVars_none hV
  obtain ⟨a0, rfl, rfl, rfl, w0⟩ := open_string Tryd.underlying9 (hval 0 9 v0 rfl rfl) h0
  obtain ⟨a1, rfl, rfl, rfl, w1⟩ := open_string Tryd.underlying9 (hval 1 9 v1 rfl rfl) h1
  clear hA0
  have hk2 : Rows.uptoBulkAll _ ≤ 1048576 := of_decide_eq_true hk
  simp only [List.append_nil, Rows.uptoBulkAll, Rows.uptoBulk] at hk2
  have s0 : a0.size ≤ 1048576 := by rw [Lib.size_eq]; omega
  have s1 : a1.size ≤ 1048576 := by rw [Lib.size_eq]; omega
  refine (walk a0 a1 W s0 s1 (table hL)).mono fun e W' ⟨he, bel⟩ => ?_
  subst he
  exact ⟨_, rfl, _, _, _, [], _, [], hW', trodAll_mk1 (shut_bool Tryd.underlying4 _), trodAll_cons_mk (shut_string Tryd.underlying9 w0) (trodAll_cons_mk (shut_string Tryd.underlying9 w1) trodAll_mk0), rfl, bel.frame _, fun h => by cases h⟩

theorem laid_met (os : Os) : laidMet Tryd.prog laidTabs (({ World.holding Tryd.prog os ⟨#[], #[], []⟩ with heap := layTabs (World.holding Tryd.prog os ⟨#[], #[], []⟩).heap } : World).forCall (fun _ _ => 0) ⟨#[], #[.string ByteArray.empty, .string ByteArray.empty], []⟩).memory :=
  laidMet_of_run' 80 (by kernel_rfl) (by kernel_rfl)
theorem reads (os : Os) {H : Type} (enc : TypeId × Value → H) : ∃ places, DataW.whole enc Tryd.prog (({ World.holding Tryd.prog os ⟨#[], #[], []⟩ with heap := layTabs (World.holding Tryd.prog os ⟨#[], #[], []⟩).heap } : World).forCall (fun _ _ => 0) ⟨#[], #[.string ByteArray.empty, .string ByteArray.empty], []⟩).memory Tryd.f8.params.toList Rows.runesBackSpec.vars false (#[.string ByteArray.empty, .string ByteArray.empty] : Array Value).toList 8 = some ([.lit (.string []), .lit (.string [])], [], places) :=
  ⟨[], by kernel_rfl⟩

set_option maxRecDepth 100000 in
theorem lifted (os : Os) (started : os.Started) (H : Type) (enc : TypeId × Value → H) (F : Stop.Interp) :
    ReturnsInHanded {} Tryd.checked os 8 .any ((Rows.OpenSpec.upto Rows.runesBackSpec).preRow enc Tryd.prog Tryd.f8 Rows.runesBackUptoRow.domain false Rows.runesBackUptoRow.laid) (((Rows.OpenSpec.upto Rows.runesBackSpec).at F).post enc Tryd.prog Tryd.f8 false true false false) := by
  obtain ⟨places, hx⟩ := reads os enc
  refine returnsInHanded_of_row (C := Tryd.checked) (s := (Rows.OpenSpec.upto Rows.runesBackSpec)) own started (by kernel_rfl) Tryd.func8
    (witness_row_at (enc := enc) (C := Tryd.checked) false ({ World.holding Tryd.prog os ⟨#[], #[], []⟩ with heap := layTabs (World.holding Tryd.prog os ⟨#[], #[], []⟩).heap } : World) #[.string ByteArray.empty, .string ByteArray.empty] rfl (by kernel_rfl) (by kernel_rfl) (by kernel_rfl)
      (OpenSpec.preRow_of_cond 8 hx (by kernel_rfl) (fun k hk => by cases hk; kernel_rfl) (by kernel_rfl) (laid_met os))) ?_
  intro W base args ds gs before hval hW _ hcond _ hL _ _
  exact contract H enc W base args ds gs before hval hW (hcond _ rfl) hL

theorem said : Rows.RunesBackUptoSaid :=
  OpenClaim.holds_of_cond 8 Tryd.f8 rfl rfl rfl rfl rfl rfl rfl ⟨rfl, rfl, rfl, rfl, rfl⟩ rfl rfl rfl rfl rfl (by kernel_rfl) Tryd.func8 (by kernel_rfl)
    (of_decide_eq_true (by kernel_rfl)) (by unfold Func.isWrapper; first | (rw [if_pos (by decide +kernel)]; kernel_rfl) | (rw [if_neg (by decide +kernel)]; exact ⟨rfl, rfl⟩))
    (fun os started H enc _ F => by rw [OpenClaim.pre_eq_preRow]; exact lifted os started H enc F)

theorem plain (f : FuncId) (fn : Func) (hf : Tryd.pinned.checked.prog.funcNamed "gusset/gussetlaw01.RunesBack" = some f) (hfn : Tryd.pinned.checked.prog.funcs[f]? = some fn) :
    false = Tryd.pinned.checked.prog.looks [] ∧ ∀ (j : Nat) t, fn.params[j]? = some t → Tryd.pinned.checked.prog.wantsStandIn t = false := by
  obtain rfl : f = 8 := Option.some.inj ((show Tryd.prog.funcNamed "gusset/gussetlaw01.RunesBack" = some 8 by kernel_rfl).symm.trans hf) |>.symm
  obtain rfl : fn = Tryd.f8 := (Option.some.inj (Tryd.func8.symm.trans hfn)).symm
  refine ⟨by kernel_rfl, fun j t ht => ?_⟩
  rw [Tryd.params8] at ht
  have hm : t = 9 ∨ t = 9 := by simpa using Array.mem_of_getElem? ht
  rcases hm with rfl | rfl
  · exact (show Tryd.prog.wantsStandIn 9 = false by kernel_rfl)
  · exact (show Tryd.prog.wantsStandIn 9 = false by kernel_rfl)

theorem card : Rows.RunesBackUptoCardSaid :=
  Claim7.holds_tied_plain_at .later [] _ _ _ _ said (fun _ h => by cases h) (by kernel_rfl) (fun _ h => by cases h) runesBackUpto_row_tie rfl ⟨rfl, rfl⟩ (by kernel_rfl) rfl plain (by kernel_rfl)
end Go.Proofs.YtddacbobklmpfaaDoor.back
namespace Go.Proofs.YtddacbobklmpfaaDoor
theorem runesBack_card : Rows.RunesBackUptoCardSaid := back.card
end Go.Proofs.YtddacbobklmpfaaDoor
