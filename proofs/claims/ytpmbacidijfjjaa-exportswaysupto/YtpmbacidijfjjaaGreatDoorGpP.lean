/- Own text. One star more: the cases in which nothing is asked, and the walk. One star more: the card. -/
import Derived.Test.YtpmbacidijfjjaaGreatDoorGpO
import Derived.Test.YtpmbacidijfjjaaGreatDoorGpI
namespace Go.Proofs.YtpmbacidijfjjaaGreatDoor.Way
open Go.RowKit Xp
set_option linter.unusedVariables false
set_option linter.unusedSimpArgs false

set_option maxRecDepth 100000 in
set_option maxHeartbeats 16000000 in
theorem out {W : World} {v : Value} {L : List Es} (hv : MsAt W W.heap.size v L) (hs : Small L) (mod : Int) (name : ByteArray) (he : WEnv W) (hm : (mod < 0 ∨ (L.length : Int) ≤ mod) ∨ name = dflt) :
    Calls Tryz.prog 7 #[v, .int .i64 mod, .string name] W fun e w' => e = .returned (.bool true) ∧ Below W.heap.size W w' := by
  have CS := sure_any W he
  obtain ⟨va, vc, rfl⟩ := hv.op
  have hsn := hs.n
  clear hv hs he
  by_cases h0 : mod < 0
  · clear hm
    go_enter Tryz.func7, Tryz.ntmps7
    go_wp2_with fail
    go_at_call 10
    refine CS.mono ?_
    rintro e w3 ⟨rfl, b3⟩
    go_wp2
    go_ret
    exact ⟨rfl, b3⟩
  · by_cases h1 : mod ≥ (L.length : Int)
    · clear hm
      go_enter Tryz.func7, Tryz.ntmps7
      go_wp2_with fail
      go_at_call 10
      refine CS.mono ?_
      rintro e w3 ⟨rfl, b3⟩
      go_wp2
      go_ret
      exact ⟨rfl, b3⟩
    · have hnd : name = dflt := by rcases hm with h | h; omega; exact h
      have hd : (name.toList == [100, 101, 102, 97, 117, 108, 116]) = true := by rw [show ([100, 101, 102, 97, 117, 108, 116] : List UInt8) = dflt.toList by rw [ByteArray.toList_eq]; rfl, ← beq_toListBytes, ba_eq]; exact decide_eq_true hnd
      clear hm hnd
      go_enter Tryz.func7, Tryz.ntmps7
      go_wp2_with fail
      go_at_call 10
      refine CS.mono ?_
      rintro e w3 ⟨rfl, b3⟩
      go_wp2
      go_ret
      exact ⟨rfl, b3⟩
theorem walk (v : Value) (L : List Es) (mod : Int) (name : ByteArray) (w : World) (hv : MsAt w w.heap.size v L) (_ : ∀ e ∈ L, goodM e) (hs : Small L) (_ : -9223372036854775808 ≤ mod) (_ : mod ≤ 9223372036854775807) (hz : name.size ≤ 1048576) (he : WEnv w) :
    Calls Tryz.prog 7 #[v, .int .i64 mod, .string name] w fun e w' => e = .returned (.bool true) ∧ Below w.heap.size w w' := by
  by_cases h : (mod < 0 ∨ (L.length : Int) ≤ mod) ∨ name = dflt
  · exact out hv hs mod name he h
  · have hn : name ≠ dflt := fun e => h (.inr e)
    have hr : ¬ (mod < 0 ∨ (L.length : Int) ≤ mod) := fun e => h (.inl e)
    obtain ⟨m, rfl⟩ : ∃ m : Nat, mod = (m : Int) := ⟨mod.toNat, by omega⟩
    exact inside hv hs m name hz he (by omega) hn
end Go.Proofs.YtpmbacidijfjjaaGreatDoor.Way
namespace Go.Proofs.YtpmbacidijfjjaaGreatDoor.Way
open Go.ChangeShapes Go.WideShapes Go.ChangeAt Go.RowKit
open Go.ChangeMaps (open_string)
set_option linter.unusedVariables false

set_option maxRecDepth 100000 in
theorem contract (H : Type) (enc : TypeId × Value → H) (W : World) (base : Nat) (args : Array Value) (ds gs : List (DataW H)) (before : List MemPlace)
    (hval : ∀ (j : Nat) t v, Tryz.f7.params[j]? = some t → args[j]? = some v → Value.okWide Tryz.prog W .any base t v)
    (hW : DataW.Whole enc Tryz.prog Tryz.f7.params.toList Rows.exportsWaysSpec.vars false W args.toList ds gs before)
    (hk : Rows.uptoSmall H (ds ++ gs) = true)
    (hL : laidMetH Tryz.prog laidTabs W) (hsh : W.ShapedOpen Tryz.prog) :
    Calls Tryz.prog 7 args W fun e W' => ∃ v, e = .returned v ∧ Rows.exportsWaysSpec.post enc Tryz.prog Tryz.f7 false true false false W args v W' := by
  have hW' := hW
  obtain ⟨p, q, hA0, hV, rfl, hfz, hnd⟩ := hW
  have hA : DataW.TrodAll enc Tryz.prog W 0 (fun _ => true) true Tryz.f7.params.toList args.toList ds p := hA0
  have hAll := hA
  rw [Tryz.params7] at hA hval
  obtain ⟨v0, vs0, d0, ds0, p0, q0, hargs, rfl, rfl, h0, r0⟩ := trodAll_cons hA
  obtain ⟨v1, vs1, d1, ds1, p1, q1, rfl, rfl, rfl, h1, r1⟩ := trodAll_cons r0
  obtain ⟨v2, vs2, d2, ds2, p2, q2, rfl, rfl, rfl, h2, r2⟩ := trodAll_cons r1
  obtain ⟨rfl, rfl, rfl⟩ := trodAll_nil r2
  obtain rfl : args = #[v0, v1, v2] := by cases args; simp_all
  obtain ⟨rfl, rfl⟩ := trodVars_none hV
  have hlt := hW'.lt
  obtain ⟨S0, f0, g0, z0⟩ := open_ms (hval 0 39 v0 rfl rfl) h0
  obtain ⟨a1, rfl, rfl, rfl, w1⟩ := open_int Tryz.underlying3 (hval 1 3 v1 rfl rfl) h1
  have b1 := bounds_i64 w1
  obtain ⟨a2, rfl, rfl, rfl, w2⟩ := open_string Tryz.underlying9 (hval 2 9 v2 rfl rfl) h2
  have hk2 : Rows.uptoBulkAll _ ≤ 1048576 := of_decide_eq_true hk
  simp only [List.append_nil, Rows.uptoBulkAll] at hk2
  have k2 : Rows.uptoBulk (DataW.lit (.string a2.data.toList) : DataW H) = a2.data.toList.length + 1 := rfl
  rw [k2] at hk2
  have s0 := small_of (L := S0) (by omega)
  have s2 : a2.size ≤ 1048576 := by rw [Lib.size_eq]; omega
  refine (walk v0 S0 a1 a2 W f0 g0 s0 b1.1 b1.2 s2 (env_of hL hsh)).mono fun e W' ⟨he, bel⟩ => ?_
  subst he
  exact ⟨_, rfl, _, _, _, [], _, [], hW', trodAll_mk1 (shut_bool Tryz.underlying4 _), below_trodAll laidOut bel _ (by kernel_rfl) hAll (fun x hx => hlt x (by first | (simp at hx; done) | simpa using hx)), rfl, bel.frame _, fun h => by cases h⟩

theorem laid_met (os : Os) : laidMet Tryz.prog laidTabs (({ World.holding Tryz.prog os ⟨#[], #[], []⟩ with heap := layTabs (World.holding Tryz.prog os ⟨#[], #[], []⟩).heap } : World).forCall (fun _ _ => 0) ⟨#[], #[.slice none 0 0, .int .i64 0, .string ByteArray.empty], []⟩).memory :=
  laidMet_of_run' 80 (by kernel_rfl) (by kernel_rfl)
theorem reads (os : Os) {H : Type} (enc : TypeId × Value → H) : ∃ places, DataW.whole enc Tryz.prog (({ World.holding Tryz.prog os ⟨#[], #[], []⟩ with heap := layTabs (World.holding Tryz.prog os ⟨#[], #[], []⟩).heap } : World).forCall (fun _ _ => 0) ⟨#[], #[.slice none 0 0, .int .i64 0, .string ByteArray.empty], []⟩).memory Tryz.f7.params.toList Rows.exportsWaysSpec.vars false (#[.slice none 0 0, .int .i64 0, .string ByteArray.empty] : Array Value).toList 8 = some ([.nil, .lit (.int .i64 0), .lit (.string [])], [], places) :=
  ⟨[], by kernel_rfl⟩

set_option maxRecDepth 100000 in
theorem lifted (os : Os) (started : os.Started) (H : Type) (enc : TypeId × Value → H) (F : Stop.Interp) :
    ReturnsInHanded {} Tryz.checked os 7 .any ((Rows.OpenSpec.upto Rows.exportsWaysSpec).preRow enc Tryz.prog Tryz.f7 Rows.exportsWaysUptoRow.domain false Rows.exportsWaysUptoRow.laid) (((Rows.OpenSpec.upto Rows.exportsWaysSpec).at F).post enc Tryz.prog Tryz.f7 false true false false) := by
  obtain ⟨places, hx⟩ := reads os enc
  refine returnsInHanded_of_row (C := Tryz.checked) (s := (Rows.OpenSpec.upto Rows.exportsWaysSpec)) own started (by kernel_rfl) Tryz.func7
    (witness_row_at (enc := enc) (C := Tryz.checked) false ({ World.holding Tryz.prog os ⟨#[], #[], []⟩ with heap := layTabs (World.holding Tryz.prog os ⟨#[], #[], []⟩).heap } : World) #[.slice none 0 0, .int .i64 0, .string ByteArray.empty] rfl (by kernel_rfl) (by kernel_rfl) (by kernel_rfl)
      (OpenSpec.preRow_of_cond 8 hx (by kernel_rfl) (fun k hk => by cases hk; kernel_rfl) (by kernel_rfl) (laid_met os))) ?_
  intro W base args ds gs before hval hW _ hcond _ hL hsh _
  exact contract H enc W base args ds gs before hval hW (hcond _ rfl) hL hsh

theorem said : Rows.ExportsWaysUptoSaid :=
  OpenClaim.holds_of_cond 7 Tryz.f7 rfl rfl rfl rfl rfl rfl rfl ⟨rfl, rfl, rfl, rfl, rfl⟩ rfl rfl rfl rfl rfl (by kernel_rfl) Tryz.func7 (by kernel_rfl)
    (of_decide_eq_true (by kernel_rfl)) (by unfold Func.isWrapper; first | (rw [if_pos (by decide +kernel)]; kernel_rfl) | (rw [if_neg (by decide +kernel)]; exact ⟨rfl, rfl⟩))
    (fun os started H enc _ F => by rw [OpenClaim.pre_eq_preRow]; exact lifted os started H enc F)

theorem plain (f : FuncId) (fn : Func) (hf : Tryz.pinned.checked.prog.funcNamed "gusset/gussetlaw12.ExportsWays" = some f) (hfn : Tryz.pinned.checked.prog.funcs[f]? = some fn) :
    false = Tryz.pinned.checked.prog.looks [] ∧ ∀ (j : Nat) t, fn.params[j]? = some t → Tryz.pinned.checked.prog.wantsStandIn t = false := by
  obtain rfl : f = 7 := Option.some.inj ((show Tryz.prog.funcNamed "gusset/gussetlaw12.ExportsWays" = some 7 by kernel_rfl).symm.trans hf) |>.symm
  obtain rfl : fn = Tryz.f7 := (Option.some.inj (Tryz.func7.symm.trans hfn)).symm
  refine ⟨by kernel_rfl, fun j t ht => ?_⟩
  rw [Tryz.params7] at ht
  have hm : t = 39 ∨ t = 3 ∨ t = 9 := by simpa using Array.mem_of_getElem? ht
  rcases hm with rfl | rfl | rfl
  · exact (show Tryz.prog.wantsStandIn 39 = false by kernel_rfl)
  · exact (show Tryz.prog.wantsStandIn 3 = false by kernel_rfl)
  · exact (show Tryz.prog.wantsStandIn 9 = false by kernel_rfl)

theorem card : Rows.ExportsWaysUptoCardSaid :=
  Claim7.holds_tied_plain_at .later [] _ _ _ _ said (fun _ h => by cases h) (by kernel_rfl) (fun _ h => by cases h) exportsWaysUpto_row_tie rfl ⟨rfl, rfl⟩ (by kernel_rfl) rfl plain (by kernel_rfl)
end Go.Proofs.YtpmbacidijfjjaaGreatDoor.Way
namespace Go.Proofs.YtpmbacidijfjjaaGreatDoor
theorem Way_card : Rows.ExportsWaysUptoCardSaid := Way.card
end Go.Proofs.YtpmbacidijfjjaaGreatDoor
