/- Own text. The document's Resolve. Whatever modules there are: the walk of the statement. Whatever modules there are: the card. -/
import Derived.Test.YtpmbacidijfjjaaGreatDoorGpH
import Derived.Test.YtpmbacidijfjjaaGreatDoorGpK
import Derived.Test.YtpmbacidijfjjaaGreatDoorGpI
namespace Go.Proofs.YtpmbacidijfjjaaGreatDoor
open Go.RowKit Xp
set_option linter.unusedVariables false
set_option linter.unusedSimpArgs false

set_option maxRecDepth 100000 in
set_option maxHeartbeats 16000000 in
theorem rresolve_any {W : World} {v : Value} {L : List Es} (hv : MsAt W W.heap.size v L) (hL : L.length ≤ 1048576) (hE : ∀ e ∈ L, e.own.length ≤ 1048576 ∧ e.oth.length ≤ 1048576 ∧ e.st.length ≤ 1048576) (mod : Int) (name : ByteArray) (hU : (Uni L (Nms L name)).length ≤ 274877906944) :
    Calls Tryz.prog 17 #[v, .int .i64 mod, .string name] W fun e w' => e = .returned (.agg #[.int .i64 (rsv L (mod, name)).k, .int .i64 (rsv L (mod, name)).mod, .string (rsv L (mod, name)).name, .bool (rsv L (mod, name)).ty]) ∧ Below W.heap.size W w' := by
  obtain ⟨va, vc, rfl⟩ := hv.op
  obtain ⟨wB, hwB⟩ : ∃ X, (W.alloc (.cells #[.int .i64 0, .int .i64 0, .string ⟨#[]⟩, .bool false] 41)).alloc (.cells #[.slice va L.length vc, .slice none 0 0] 74) = X := ⟨_, rfl⟩
  have bB : Below W.heap.size W wB := by rw [← hwB]; exact (bel_a _ _).alloc (by simp) _
  have sB : wB.heap.size = W.heap.size + 2 := by rw [← hwB]; simp
  have m0 : wB.heap[W.heap.size]? = some (.cells #[.int .i64 0, .int .i64 0, .string ⟨#[]⟩, .bool false] 41 (0, 0)) := by
    rw [← hwB, Below.heap_alloc _ _ _ (by simp)]; exact heap_alloc_new W _
  have m1 : wB.heap[W.heap.size + 1]? = some (.cells #[.slice va L.length vc, .slice none 0 0] 74 (0, 0)) := by rw [← hwB]; exact hnewX _ (by simp)
  have hok : (RC.mk W (.slice va L.length vc) L name W.heap.size (W.heap.size + 1)).ok := ⟨hv, Nat.le_refl _, hL, hE, hU⟩
  have hst : stA [] = st0 := rfl
  have HR : Hid (Calls Tryz.prog 35 #[.pointer (some ⟨W.heap.size + 1, 0, none⟩), .int .i64 mod, .string name] wB fun e w' => e = .returned (.agg #[.int .i64 (rsv L (mod, name)).k, .int .i64 (rsv L (mod, name)).mod, .string (rsv L (mod, name)).name, .bool (rsv L (mod, name)).ty]) ∧ w'.heap[W.heap.size]? = some (.cells #[.int .i64 0, .int .i64 0, .string ⟨#[]⟩, .bool false] 41 (0, 0)) ∧ Below W.heap.size W w') := by
    have C := ask_ref hok (un (RC.mk W (.slice va L.length vc) L name W.heap.size (W.heap.size + 1)).U (stA [])) wB [] (.slice none 0 0) (mod, name) ⟨bB, ⟨m1, World.ownsRow_nil _ _ _ _, by simp [Value.ownBlock], by show W.heap.size ≤ W.heap.size + 1; omega⟩, by simp, by simp, by show W.heap.size ≤ wB.heap.size; omega⟩ (Nat.le_refl _) (by simp [Nms])
    refine C.mono ?_
    rintro e w' ⟨rfl, B, va', _, _, _, hf, _⟩
    refine ⟨rfl, (hf.block _ (by omega) (by show W.heap.size ≠ W.heap.size + 1; omega) (by simp [Value.ownBlock])).trans m0, ?_⟩
    exact bB.trans ⟨hf.os, hf.tape, hf.output, by have := hf.size; omega, fun k hk => hf.block k (by omega) (by show k ≠ W.heap.size + 1; omega) (by simp [Value.ownBlock])⟩
  generalize rsv L (mod, name) = r at *
  clear hv hL hE hU hok m0 m1 bB sB hst
  go_enter Tryz.func17, Tryz.ntmps17
  go_wp2_with fail
  go_at_call 35
  refine HR.out.mono ?_
  rintro ex W2 ⟨rfl, k1, b2⟩
  obtain ⟨⟨_, _, _, _⟩, _, _, _, _⟩ := t4 k1
  have HF : Hid (∀ p q x y, Below W.heap.size W ((((W2.setCell ⟨W.heap.size, 0, none⟩ p).setCell ⟨W.heap.size, 1, none⟩ q).setCell ⟨W.heap.size, 2, none⟩ x).setCell ⟨W.heap.size, 3, none⟩ y)) := fun p q x y => (((b2.setCell (by simp) _).setCell (by simp) _).setCell (by simp) _).setCell (by simp) _
  go_wp2
  refine bodyPost_ret (res_f4 Tryz.results17 (t4_set _ _ _ _ k1) rfl) rfl ?_
  exact ⟨rfl, HF.out _ _ _ _⟩
end Go.Proofs.YtpmbacidijfjjaaGreatDoor
namespace Go.Proofs.YtpmbacidijfjjaaGreatDoor.Res
open Go.RowKit Xp
set_option linter.unusedVariables false
set_option linter.unusedSimpArgs false

set_option maxRecDepth 100000 in
set_option maxHeartbeats 16000000 in
theorem walk0 {W : World} {v : Value} {L : List Es} (hv : MsAt W W.heap.size v L) (hL : L.length ≤ 1048576) (hE : ∀ e ∈ L, e.own.length ≤ 1048576 ∧ e.oth.length ≤ 1048576 ∧ e.st.length ≤ 1048576) (hN : ∀ e ∈ L, ∀ x ∈ e.own, x.here.size ≤ 1048576) (mod : Int) (name : ByteArray) (hU : (Uni L (Nms L name)).length ≤ 274877906944) (he : WEnv W) :
    Calls Tryz.prog 4 #[v, .int .i64 mod, .string name] W fun e w' => e = .returned (.bool true) ∧ Below W.heap.size W w' := by
  have C1 := resolveX_any hv hL hE hN mod name hU
  have HC2 : Hid (∀ X, Below W.heap.size W X → Calls Tryz.prog 17 #[v, .int .i64 mod, .string name] X fun e w' => e = .returned (.agg #[.int .i64 (rsv L (mod, name)).k, .int .i64 (rsv L (mod, name)).mod, .string (rsv L (mod, name)).name, .bool (rsv L (mod, name)).ty]) ∧ Below X.heap.size X w') := fun X b => rresolve_any (hv.to b) hL hE mod name hU
  have HE : Hid (∀ X, Below W.heap.size W X → Calls Tryz.prog 10 #[] X fun e w' => e = .returned (.bool true) ∧ Below X.heap.size X w') := fun X b => sure_any X (he.bel b)
  generalize rsv L (mod, name) = r at *
  have FE : ∀ W, (binOp .eql 41 (.agg #[.int .i64 r.k, .int .i64 r.mod, .string r.name, .bool r.ty]) (.agg #[.int .i64 r.k, .int .i64 r.mod, .string r.name, .bool r.ty])).run Tryz.prog W = .ok (.bool true) W := fun W => by
    have := fd_eql W r r
    rw [this]
    simp [ba_eq]
  have NG := fd_guard
  obtain ⟨va, vc, rfl⟩ := hv.op
  clear hv hL hE hN hU he
  go_enter Tryz.func4, Tryz.ntmps4
  go_wp2_with fail
  go_at_call 16
  refine C1.mono ?_
  rintro e w1 ⟨rfl, b1⟩
  have HB1 : Hid _ := b1
  have C2 := HC2.out _ b1
  clear b1 C1
  go_wp2_with fail
  go_at_call 17
  refine C2.mono ?_
  rintro e w2 ⟨rfl, b2⟩
  have HB2 : Hid (Below W.heap.size W w2) := bt HB1.out b2
  have C3 := HE.out _ HB2.out
  clear b2 C2
  go_wp2_with fail
  go_at_call 10
  refine C3.mono ?_
  rintro e w3 ⟨rfl, b3⟩
  have HB3 : Hid (Below W.heap.size W w3) := bt HB2.out b3
  clear b3 C3
  go_wp2
  go_ret
  exact ⟨rfl, HB3.out⟩
theorem walk (v : Value) (L : List Es) (mod : Int) (name : ByteArray) (w : World) (hv : MsAt w w.heap.size v L) (_ : ∀ e ∈ L, goodM e) (hs : Small L) (_ : -9223372036854775808 ≤ mod) (_ : mod ≤ 9223372036854775807) (_ : name.size ≤ 1048576) (he : WEnv w) :
    Calls Tryz.prog 4 #[v, .int .i64 mod, .string name] w fun e w' => e = .returned (.bool true) ∧ Below w.heap.size w w' := walk0 hv (by have := hs.n; omega) hs.hE hs.hN mod name (hs.hU name) he
end Go.Proofs.YtpmbacidijfjjaaGreatDoor.Res
namespace Go.Proofs.YtpmbacidijfjjaaGreatDoor.Res
open Go.ChangeShapes Go.WideShapes Go.ChangeAt Go.RowKit
open Go.ChangeMaps (open_string)
set_option linter.unusedVariables false

set_option maxRecDepth 100000 in
theorem contract (H : Type) (enc : TypeId × Value → H) (W : World) (base : Nat) (args : Array Value) (ds gs : List (DataW H)) (before : List MemPlace)
    (hval : ∀ (j : Nat) t v, Tryz.f4.params[j]? = some t → args[j]? = some v → Value.okWide Tryz.prog W .any base t v)
    (hW : DataW.Whole enc Tryz.prog Tryz.f4.params.toList Rows.exportsResolvesSpec.vars false W args.toList ds gs before)
    (hk : Rows.uptoSmall H (ds ++ gs) = true)
    (hL : laidMetH Tryz.prog laidTabs W) (hsh : W.ShapedOpen Tryz.prog) :
    Calls Tryz.prog 4 args W fun e W' => ∃ v, e = .returned v ∧ Rows.exportsResolvesSpec.post enc Tryz.prog Tryz.f4 false true false false W args v W' := by
  have hW' := hW
  obtain ⟨p, q, hA0, hV, rfl, hfz, hnd⟩ := hW
  have hA : DataW.TrodAll enc Tryz.prog W 0 (fun _ => true) true Tryz.f4.params.toList args.toList ds p := hA0
  have hAll := hA
  rw [Tryz.params4] at hA hval
  obtain ⟨v0, vs0, d0, ds0, p0, q0, hargs, rfl, rfl, h0, r0⟩ := trodAll_cons hA
  obtain ⟨v1, vs1, d1, ds1, p1, q1, rfl, rfl, rfl, h1, r1⟩ := trodAll_cons r0
  obtain ⟨v2, vs2, d2, ds2, p2, q2, rfl, rfl, rfl, h2, r2⟩ := trodAll_cons r1
  obtain ⟨rfl, rfl, rfl⟩ := trodAll_nil r2
  obtain rfl : args = #[v0, v1, v2] := by cases args; simp_all
  obtain ⟨rfl, rfl⟩ := trodVars_none hV
  have hlt := hW'.lt
  obtain ⟨S0, f0, g0, z0⟩ := open_ms (hval 0 39 v0 rfl rfl) h0
  obtain ⟨a1, rfl, rfl, rfl, w1⟩ := open_int Tryz.underlying3 (hval 1 3 v1 rfl rfl) h1
  have b1 := bounds_i64 w1
  obtain ⟨a2, rfl, rfl, rfl, w2⟩ := open_string Tryz.underlying9 (hval 2 9 v2 rfl rfl) h2
  have hk2 : Rows.uptoBulkAll _ ≤ 1048576 := of_decide_eq_true hk
  simp only [List.append_nil, Rows.uptoBulkAll] at hk2
  have k2 : Rows.uptoBulk (DataW.lit (.string a2.data.toList) : DataW H) = a2.data.toList.length + 1 := rfl
  rw [k2] at hk2
  have s0 := small_of (L := S0) (by omega)
  have s2 : a2.size ≤ 1048576 := by rw [Lib.size_eq]; omega
  refine (walk v0 S0 a1 a2 W f0 g0 s0 b1.1 b1.2 s2 (env_of hL hsh)).mono fun e W' ⟨he, bel⟩ => ?_
  subst he
  exact ⟨_, rfl, _, _, _, [], _, [], hW', trodAll_mk1 (shut_bool Tryz.underlying4 _), below_trodAll laidOut bel _ (by kernel_rfl) hAll (fun x hx => hlt x (by first | (simp at hx; done) | simpa using hx)), rfl, bel.frame _, fun h => by cases h⟩

theorem laid_met (os : Os) : laidMet Tryz.prog laidTabs (({ World.holding Tryz.prog os ⟨#[], #[], []⟩ with heap := layTabs (World.holding Tryz.prog os ⟨#[], #[], []⟩).heap } : World).forCall (fun _ _ => 0) ⟨#[], #[.slice none 0 0, .int .i64 0, .string ByteArray.empty], []⟩).memory :=
  laidMet_of_run' 80 (by kernel_rfl) (by kernel_rfl)
theorem reads (os : Os) {H : Type} (enc : TypeId × Value → H) : ∃ places, DataW.whole enc Tryz.prog (({ World.holding Tryz.prog os ⟨#[], #[], []⟩ with heap := layTabs (World.holding Tryz.prog os ⟨#[], #[], []⟩).heap } : World).forCall (fun _ _ => 0) ⟨#[], #[.slice none 0 0, .int .i64 0, .string ByteArray.empty], []⟩).memory Tryz.f4.params.toList Rows.exportsResolvesSpec.vars false (#[.slice none 0 0, .int .i64 0, .string ByteArray.empty] : Array Value).toList 8 = some ([.nil, .lit (.int .i64 0), .lit (.string [])], [], places) :=
  ⟨[], by kernel_rfl⟩

set_option maxRecDepth 100000 in
theorem lifted (os : Os) (started : os.Started) (H : Type) (enc : TypeId × Value → H) (F : Stop.Interp) :
    ReturnsInHanded {} Tryz.checked os 4 .any ((Rows.OpenSpec.upto Rows.exportsResolvesSpec).preRow enc Tryz.prog Tryz.f4 Rows.exportsResolvesUptoRow.domain false Rows.exportsResolvesUptoRow.laid) (((Rows.OpenSpec.upto Rows.exportsResolvesSpec).at F).post enc Tryz.prog Tryz.f4 false true false false) := by
  obtain ⟨places, hx⟩ := reads os enc
  refine returnsInHanded_of_row (C := Tryz.checked) (s := (Rows.OpenSpec.upto Rows.exportsResolvesSpec)) own started (by kernel_rfl) Tryz.func4
    (witness_row_at (enc := enc) (C := Tryz.checked) false ({ World.holding Tryz.prog os ⟨#[], #[], []⟩ with heap := layTabs (World.holding Tryz.prog os ⟨#[], #[], []⟩).heap } : World) #[.slice none 0 0, .int .i64 0, .string ByteArray.empty] rfl (by kernel_rfl) (by kernel_rfl) (by kernel_rfl)
      (OpenSpec.preRow_of_cond 8 hx (by kernel_rfl) (fun k hk => by cases hk; kernel_rfl) (by kernel_rfl) (laid_met os))) ?_
  intro W base args ds gs before hval hW _ hcond _ hL hsh _
  exact contract H enc W base args ds gs before hval hW (hcond _ rfl) hL hsh

theorem said : Rows.ExportsResolvesUptoSaid :=
  OpenClaim.holds_of_cond 4 Tryz.f4 rfl rfl rfl rfl rfl rfl rfl ⟨rfl, rfl, rfl, rfl, rfl⟩ rfl rfl rfl rfl rfl (by kernel_rfl) Tryz.func4 (by kernel_rfl)
    (of_decide_eq_true (by kernel_rfl)) (by unfold Func.isWrapper; first | (rw [if_pos (by decide +kernel)]; kernel_rfl) | (rw [if_neg (by decide +kernel)]; exact ⟨rfl, rfl⟩))
    (fun os started H enc _ F => by rw [OpenClaim.pre_eq_preRow]; exact lifted os started H enc F)

theorem plain (f : FuncId) (fn : Func) (hf : Tryz.pinned.checked.prog.funcNamed "gusset/gussetlaw12.ExportsResolves" = some f) (hfn : Tryz.pinned.checked.prog.funcs[f]? = some fn) :
    false = Tryz.pinned.checked.prog.looks [] ∧ ∀ (j : Nat) t, fn.params[j]? = some t → Tryz.pinned.checked.prog.wantsStandIn t = false := by
  obtain rfl : f = 4 := Option.some.inj ((show Tryz.prog.funcNamed "gusset/gussetlaw12.ExportsResolves" = some 4 by kernel_rfl).symm.trans hf) |>.symm
  obtain rfl : fn = Tryz.f4 := (Option.some.inj (Tryz.func4.symm.trans hfn)).symm
  refine ⟨by kernel_rfl, fun j t ht => ?_⟩
  rw [Tryz.params4] at ht
  have hm : t = 39 ∨ t = 3 ∨ t = 9 := by simpa using Array.mem_of_getElem? ht
  rcases hm with rfl | rfl | rfl
  · exact (show Tryz.prog.wantsStandIn 39 = false by kernel_rfl)
  · exact (show Tryz.prog.wantsStandIn 3 = false by kernel_rfl)
  · exact (show Tryz.prog.wantsStandIn 9 = false by kernel_rfl)

theorem card : Rows.ExportsResolvesUptoCardSaid :=
  Claim7.holds_tied_plain_at .later [] _ _ _ _ said (fun _ h => by cases h) (by kernel_rfl) (fun _ h => by cases h) exportsResolvesUpto_row_tie rfl ⟨rfl, rfl⟩ (by kernel_rfl) rfl plain (by kernel_rfl)
end Go.Proofs.YtpmbacidijfjjaaGreatDoor.Res
namespace Go.Proofs.YtpmbacidijfjjaaGreatDoor
theorem Res_card : Rows.ExportsResolvesUptoCardSaid := Res.card
end Go.Proofs.YtpmbacidijfjjaaGreatDoor
