/- PathProbes answers true at every text: what is looked for is the document's list, and a list that was answered is its caller's own (3.4). No condition. -/
import Derived.Test.YtlogohcfahmilaaPR4
import Derived.Test.YtlogohcfahmilaaPClose
namespace Go.Proofs.Ytlogohcfahmilaa.pathProbes
open Go.ChangeShapes Go.WideShapes Go.ChangeAt Go.RowKit
set_option linter.unusedVariables false
set_option linter.unusedSimpArgs false

theorem row_any {w : World} {base : Nat} {v : Value} {l : List Bs} (h : Texts w base v l) : ∃ A c, v = .slice A l.length c ∧ (0 < l.length → ∃ g, A = some ⟨g, 0, none⟩ ∧ base ≤ g ∧ g < w.heap.size) := by
  rcases h.2 with ⟨rfl, h0⟩ | ⟨g, cap, cur, rfl, h1, h2, h3⟩
  · refine ⟨none, 0, ?_, fun hp => by omega⟩
    rw [h0]
  · exact ⟨_, _, rfl, fun _ => ⟨g, rfl, h1, (Array.getElem?_eq_some_iff.1 h2).1⟩⟩
theorem row_below {w w' : World} {base B : Nat} {v : Value} {l : List Bs} (h : Texts w base v l) (hb : Below B w w') (hB : w.heap.size ≤ B) : Texts w' base v l := by
  refine ⟨h.1, ?_⟩
  rcases h.2 with h2 | ⟨g, cap, cur, h1, h2, h3, h4⟩
  · exact .inl h2
  · exact .inr ⟨g, cap, cur, h1, h2, (hb.block g (Nat.lt_of_lt_of_le (Array.getElem?_eq_some_iff.1 h3).1 hB)).trans h3, h4⟩
theorem at_list {w : World} {base g n c : Nat} {xs : List Value} {l : List Bs} {i : Nat} (h : w.ownsRow base 9 1 (.slice (some ⟨g, 0, none⟩) n c) n xs) (hx : xs[i]? = (cellsT l)[i]?) (hi : i < n) (hl : i < l.length) : w.cell? ⟨g, i, none⟩ = some (.string ⟨(l[i]).toArray⟩) := by
  rw [h.cellAt i (by omega), hx]
  simp [cellsT, hl]

set_option maxHeartbeats 8000000 in
set_option maxRecDepth 100000 in
theorem walk (p : ByteArray) (w : World) (z0 : p.size ≤ 140737488351232) :
    Calls Try.prog 5 #[.string p] w fun e w' => e = .returned (.bool true) ∧ Below w.heap.size w w' := by
  have tok1 : True := trivial
  have P1 := fun W => probes_any p W (by omega)
  have P2 := fun W => refProbes_any p W (by omega)
  have hl3 : (prb p.data.toList).length ≤ 3 := prbN_len p.data.toList 3
  generalize prb p.data.toList = l at *
  go_enter Try.func5, Try.ntmps5
  go_wp2_with (first
    | (go_at_call 15; have _t := tok1; refine (P1 _).mono ?_; rintro e W1 ⟨va, rfl, ha1, hb1⟩; obtain ⟨A, ca, rfl, hA⟩ := row_any ha1; clear tok1)
    | (go_at_call 15; refine (P1 _).mono ?_; rintro e W2 ⟨vb, rfl, ha2, hb2⟩; obtain ⟨B, cb, rfl, hBf⟩ := row_any ha2)
    | (go_at_call 16; refine (P2 _).mono ?_; rintro e W3 ⟨vc, rfl, ha3, hb3⟩; obtain ⟨C, cc, rfl, hCf⟩ := row_any ha3))
  have s1 := hb1.size
  have s2 := hb2.size
  have s3 := hb3.size
  have hbw : Below w.heap.size w W3 := (hb1.trans (hb2.mono s1)).trans (hb3.mono (by omega))
  have ra : Texts W3 w.heap.size (.slice A l.length ca) l := row_below (row_below ha1 hb2 (Nat.le_refl _)) hb3 (Nat.le_refl _)
  have rb : Texts W3 W1.heap.size (.slice B l.length cb) l := row_below ha2 hb3 (Nat.le_refl _)
  clear ha1 ha2 P1 P2 hb1 hb2 hb3
  go_loopw [6] (fun v6 W => ∃ (k : Nat) (xs : List Value), k ≤ l.length ∧ v6 = .int .i64 k ∧ W.ownsRow w.heap.size 9 1 (.slice A l.length ca) l.length xs ∧ (∀ j, k ≤ j → xs[j]? = (cellsT l)[j]?) ∧
      Texts W W1.heap.size (.slice B l.length cb) l ∧ Texts W W2.heap.size (.slice C l.length cc) l ∧ Below w.heap.size w W) (fun v6 _ => l.length - (intOf v6).toNat)
  case atStart => exact ⟨0, cellsT l, by omega, rfl, ra, fun _ _ => rfl, rb, ha3, hbw⟩
  case round =>
    obtain ⟨k, xs, hk, rfl, qa, hxs, qb, qc, hbx⟩ := hrel
    by_cases hkl : k < l.length
    · have hk2 : (k : Int) < (l.length : Int) := by omega
      obtain ⟨ga, rfl, ga1, ga2⟩ := hA (by omega)
      obtain ⟨gb, rfl, gb1, gb2⟩ := hBf (by omega)
      obtain ⟨gc, rfl, gc1, gc2⟩ := hCf (by omega)
      have ca1 := at_list qa (hxs k (Nat.le_refl _)) hkl hkl
      have cc1 := at_list qc rfl hkl hkl
      have fa1 := qa.frozenAt k
      have HX : Hid (∀ j, k ≤ j → xs[j]? = (cellsT l)[j]?) := hxs
      clear hxs
      generalize (⟨(l[k]).toArray⟩ : ByteArray) = X at *
      go_wp2
      go_quiet (fail)
      go_wp2
      go_roundw
      case rel =>
        have key := fun n => World.ownsRow.stored (w := World.drewN wr n) (row_same qa rfl) k (.string ⟨#[115, 112, 111, 105, 108, 116]⟩)
        have hd := fun n => hbx.trans ((drewN_below wr n).mono hbx.size)
        have kb := fun n => World.ownsRow.kept (w := World.drewN wr n) (row_same qb rfl) (key n).2 (.inr (by simp [Value.ownBlock]; omega))
        have kc := fun n => World.ownsRow.kept (w := World.drewN wr n) (row_same qc rfl) (key n).2 (.inr (by simp [Value.ownBlock]; omega))
        refine ⟨k + 1, _, by omega, by simp, (key _).1, fun j hj => ?_, kb _, kc _, (hd _).grown (key _).2 (hd _).size (fun j hj => by cases hj; exact ga1)⟩
        rw [List.getElem?_set_ne (by omega)]
        exact HX.out j (by omega)
      case measure => simp [intOf]; omega
    · have hk2 : ¬ (k : Int) < (l.length : Int) := by omega
      clear qa hxs ra rb ha3 hbw
      go_wp2
      go_loopw [7] (fun v7 W => ∃ k : Nat, k ≤ l.length ∧ v7 = .int .i64 k ∧ Texts W W1.heap.size (.slice B l.length cb) l ∧ Texts W W2.heap.size (.slice C l.length cc) l ∧ Below w.heap.size w W) (fun v7 _ => l.length - (intOf v7).toNat)
      case atStart => exact ⟨0, by omega, rfl, qb, qc, hbx⟩
      case round =>
        clear qb qc hbx hk2 hk
        obtain ⟨k, hk, rfl, qb, qc, hbx⟩ := hrel
        by_cases hkl : k < l.length
        · have hk2 : (k : Int) < (l.length : Int) := by omega
          obtain ⟨gb, rfl, gb1, gb2⟩ := hBf (by omega)
          obtain ⟨gc, rfl, gc1, gc2⟩ := hCf (by omega)
          have cb1 := at_list qb rfl hkl hkl
          have cc1 := at_list qc rfl hkl hkl
          generalize (⟨(l[k]).toArray⟩ : ByteArray) = X at *
          go_wp2
          go_quiet (fail)
          go_wp2
          go_roundw
          case rel => exact ⟨k + 1, by omega, by simp, row_same qb rfl, row_same qc rfl, hbx.trans ((drewN_below _ _).mono hbx.size)⟩
          case measure => simp [intOf]; omega
        · have hk2 : ¬ (k : Int) < (l.length : Int) := by omega
          go_wp2_with (go_at_call 12; refine (awake_any _).mono ?_; rintro e W5 ⟨rfl, hb5⟩)
          go_ret
          exact ⟨rfl, hbx.trans (hb5.mono hbx.size)⟩

theorem contract (H : Type) (enc : TypeId × Value → H) (W : World) (base : Nat) (args : Array Value) (ds gs : List (DataW H)) (before : List MemPlace)
    (hval : ∀ (j : Nat) t v, Try.f5.params[j]? = some t → args[j]? = some v → Value.okWide Try.prog W .any base t v)
    (hW : DataW.Whole enc Try.prog Try.f5.params.toList Rows.pathProbesSpec.vars false W args.toList ds gs before)
    (hsz : (DataW.weightsEach Try.prog (Try.f5.params.toList ++ Rows.pathProbesSpec.plain.varTypes Try.prog) (ds ++ gs)).all (· ≤ reachBytes) = true) :
    Calls Try.prog 5 args W fun e W' => ∃ v, e = .returned v ∧ Rows.pathProbesSpec.post enc Try.prog Try.f5 false true false false W args v W' := by
  have hW' := hW
  obtain ⟨p, q, hA0, hV, rfl, hfz, hnd⟩ := hW
  have hA : DataW.TrodAll enc Try.prog W 0 (fun _ => true) true Try.f5.params.toList args.toList ds p := hA0
  have hAll := hA
  rw [Try.params5] at hA hval hsz
  obtain ⟨v0, vs0, d0, ds0, p0, q0, hargs, rfl, rfl, h0, r0⟩ := trodAll_cons hA
  obtain ⟨rfl, rfl, rfl⟩ := trodAll_nil r0
  obtain rfl : args = #[v0] := by cases args; simp_all
  obtain ⟨rfl, rfl⟩ := trodVars_none hV
  have hlt := hW'.lt
  have m0 : ∀ n ∈ d0.weights Try.prog 9, n ≤ 140737488351232 := fun n hn => of_decide_eq_true (List.all_eq_true.1 hsz n (DataW.weights_mem_each (j := 0) rfl rfl n hn))
  obtain ⟨a0, rfl, z0⟩ := open_text (hval 0 9 v0 rfl rfl) h0
  refine (walk a0 W (z0.1 140737488351232 m0)).mono fun e W' ⟨he, bel⟩ => ?_
  subst he
  exact ⟨_, rfl, _, _, _, [], _, [], hW', trodAll_mk1 (shut_bool Try.underlying4 _), below_trodAll laidOut bel _ (by kernel_rfl) hAll (fun x hx => hlt x (by simpa using hx)), rfl, bel.frame _, fun h => by cases h⟩

set_option maxRecDepth 100000 in
theorem lifted (os : Os) (started : os.Started) (H : Type) (enc : TypeId × Value → H) :
    ReturnsInHanded {} Try.checked os 5 .any (Rows.pathProbesSpec.pre6 enc Try.prog Try.f5 Rows.pathProbesRow.domain false) (Rows.pathProbesSpec.post enc Try.prog Try.f5 false true false false) := by
  refine returnsInHanded_of_change_sized (C := Try.checked) own started (by kernel_rfl) Try.func5
    (ChangeSpec.witness6 (enc := enc) (C := Try.checked) false ⟨#[], #[.string ByteArray.empty], []⟩ 8 (by kernel_rfl) (by kernel_rfl) (by kernel_rfl) (by kernel_rfl)) ?_
  intro W base args ds gs before hval hW _ hsz _
  exact contract H enc W base args ds gs before hval hW hsz

theorem said : Rows.PathProbesSaid :=
  OpenClaim.holds_of_wide 5 Try.f5 rfl rfl rfl rfl rfl rfl rfl ⟨rfl, rfl, rfl, rfl, rfl⟩ rfl rfl rfl rfl rfl (by kernel_rfl) Try.func5 (by kernel_rfl)
    (of_decide_eq_true (by kernel_rfl)) (by unfold Func.isWrapper; first | (rw [if_pos (by decide +kernel)]; kernel_rfl) | (rw [if_neg (by decide +kernel)]; exact ⟨rfl, rfl⟩))
    (fun os started H enc _ => lifted os started H enc)

end Go.Proofs.Ytlogohcfahmilaa.pathProbes
