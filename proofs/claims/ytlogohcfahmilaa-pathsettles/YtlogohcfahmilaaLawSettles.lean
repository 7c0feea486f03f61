/- PathSettles answers true at every two texts: a path that was made is a path, and made again it is the same (3.5). No condition. -/
import Derived.Test.YtlogohcfahmilaaP5
import Derived.Test.YtlogohcfahmilaaPClose
namespace Go.Proofs.Ytlogohcfahmilaa.pathSettles
open Go.ChangeShapes Go.WideShapes Go.ChangeAt Go.RowKit
set_option linter.unusedVariables false
set_option linter.unusedSimpArgs false

/-- a call, and what has turned since the beginning. -/
theorem acc {f : FuncId} {args : Array Value} {w W : World} {r : Ending} (h : Calls Try.prog f args W fun e w' => e = r ∧ Below W.heap.size W w') (hb : Below w.heap.size w W) : Calls Try.prog f args W fun e w' => e = r ∧ Below w.heap.size w w' :=
  h.mono fun e w' ⟨h1, h2⟩ => ⟨h1, hb.trans (h2.mono hb.size)⟩

theorem index_run (W : World) (a : ByteArray) (k : Nat) (c : UInt8) (h : a.data.toList[k]? = some c) : (Instr.index 9 (.string a) (.int .i64 (k : Int))).run Try.prog W = .ok (.int .u8 c.toNat) W := by
  have hk : k < a.size := by rw [Lib.size_eq]; exact (List.getElem?_eq_some_iff.1 h).1
  rw [byte_at a k hk] at h
  have e := Option.some.inj h
  have h1 : (0 : Int) ≤ (k : Int) := by omega
  go_simp

set_option maxHeartbeats 8000000 in
set_option maxRecDepth 100000 in
theorem walk (p r : ByteArray) (w : World) (z0 : p.size ≤ 140737488351232) (z1 : r.size ≤ 140737488351232) :
    Calls Try.prog 6 #[.string p, .string r] w fun e w' => e = .returned (.bool true) ∧ Below w.heap.size w w' := by
  have A0 := fun W (hb : Below w.heap.size w W) => acc (awake_any W) hb
  have N1 := fun W (hb : Below w.heap.size w W) => acc (normal_any p W (by omega)) hb
  have za := nrmB_size p
  have J2 := fun W (hb : Below w.heap.size w W) => acc (join_any (nrmB p) r W (by omega)) hb
  have zj := jnB_size (nrmB p) r
  have N3 := fun W (hb : Below w.heap.size w W) => acc (normal_any (jnB (nrmB p) r) W (by omega)) hb
  have hb0 := Below.refl w.heap.size w
  have hj : (jnE (nrmB p) r = 0 ∧ nrmB (jnB (nrmB p) r) = jnB (nrmB p) r ∧ nrmE (jnB (nrmB p) r) = 0) ∨ (jnE (nrmB p) r ≠ 0 ∧ jnB (nrmB p) r = ⟨#[]⟩) := by
    by_cases h : (jn (nrmB p).data.toList r.data.toList).2 = 0
    · refine .inl ⟨by unfold jnE; rw [h]; rfl, ?_, ?_⟩
      · apply toList_ext
        rw [nrmB_list, jnB_list, jn_ok h]
      · unfold nrmE
        rw [jnB_list, jn_ok h]
        rfl
    · refine .inr ⟨fun e => h (by unfold jnE at e; omega), ?_⟩
      apply toList_ext
      rw [jnB_list, jn_err h]
  have tN1 : True := trivial
  by_cases hE : nrmE p = 0
  · have hE0 : (nrm p.data.toList).2 = 0 := by unfold nrmE at hE; omega
    obtain ⟨s1, s2, s3, s4, s5, s6⟩ := settles hE0
    rw [← nrmB_list] at s1 s2 s3 s4 s5 s6
    have N2 := fun W (hb : Below w.heap.size w W) => acc (normal_any (nrmB p) W (by omega)) hb
    have e1 : nrmB (nrmB p) = nrmB p := toList_ext (by rw [nrmB_list, s1])
    have e2 : nrmE (nrmB p) = 0 := by unfold nrmE; rw [s1]; rfl
    rw [← Lib.size_eq] at s2 s3 s5
    have x0 : ∀ W, (Instr.index 9 (.string (nrmB p)) (.int .i64 0)).run Try.prog W = .ok (.int .u8 47) W := fun W => index_run W (nrmB p) 0 47 s4
    obtain ⟨y, hy⟩ : ∃ y, (nrmB p).data.toList[(nrmB p).size - 1]? = some y := ⟨_, List.getElem?_eq_getElem (by rw [← Lib.size_eq]; omega)⟩
    have x1 := fun W => index_run W (nrmB p) _ y hy
    have hy2 : ((y.toNat : Nat) : Int) ≠ 47 := fun e => s5 (by rw [hy]; exact congrArg some (UInt8.toNat_inj.1 (by simpa using (Int.ofNat_inj.1 (by simpa using e) : y.toNat = 47))))
    rw [show (((nrmB p).size - 1 : Nat) : Int) = ((nrmB p).size : Int) - 1 from by omega] at x1
    have J1 := fun W (hb : Below w.heap.size w W) => acc (join_any (nrmB p) ⟨#[46, 47, 120]⟩ W (by have : (⟨#[46, 47, 120]⟩ : ByteArray).size = 3 := rfl; omega)) hb
    have D1 := fun W (hb : Below w.heap.size w W) => acc (dir_any (nrmB p) W (by omega)) hb
    have zc := jnB_size (nrmB p) ⟨#[46, 47, 120]⟩
    have D2 := fun W (hb : Below w.heap.size w W) => acc (dir_any (jnB (nrmB p) ⟨#[46, 47, 120]⟩) W (by omega)) hb
    have hc : jnE (nrmB p) ⟨#[46, 47, 120]⟩ ≠ 0 ∨ (jnE (nrmB p) ⟨#[46, 47, 120]⟩ = 0 ∧ dirB (jnB (nrmB p) ⟨#[46, 47, 120]⟩) = dirB (nrmB p) ∧ jnB (nrmB p) ⟨#[46, 47, 120]⟩ = dirB (nrmB p) ++ ⟨#[47, 120]⟩) := by
      by_cases h : (jn (nrmB p).data.toList [46, 47, 120]).2 = 0
      · obtain ⟨d1, d2⟩ := s6 h
        refine .inr ⟨by unfold jnE; exact congrArg Nat.cast h, ?_, ?_⟩
        · apply toList_ext
          rw [dirB_list, dirB_list, jnB_list]
          exact d1
        · apply toList_ext
          rw [jnB_list, append_list, dirB_list]
          exact d2
      · exact .inl fun e => h (by unfold jnE at e; exact Int.ofNat_inj.1 e)
    have zd := dirB_size (nrmB p)
    rw [hE] at N1
    rw [e1, e2] at N2
    clear s1 s4 s5 s6 hE0 hE hy e1 e2
    generalize nrmB p = a at *
    have tN2 : True := trivial
    have tJ1 : True := trivial
    have tD2 : True := trivial
    have hs2 : (2 : Int) ≤ (a.size : Int) := by omega
    have hs3 : (a.size : Int) ≤ 200 := by omega
    have hd2 : decide ((a.size : Int) < 2) = false := decide_eq_false (by omega)
    have hd3 : decide ((200 : Int) < (a.size : Int)) = false := decide_eq_false (by omega)
    have hy3 : ((y.toNat : Int) == 47) = false := by simpa using hy2
    rcases hc with c1 | ⟨c1, c2, c3⟩
    · generalize jnB a ⟨#[46, 47, 120]⟩ = c at *
      generalize jnE a ⟨#[46, 47, 120]⟩ = G1 at *
      clear D1 D2
      rcases hj with ⟨j1, j2, j3⟩ | ⟨j1, j2⟩
      · rw [j1] at J2
        rw [j2, j3] at N3
        clear j1 j2 j3
        generalize jnB a r = j at *
        go_enter Try.func6, Try.ntmps6
        go_wp2_with (first
          | (go_at_call 12; refine (A0 _ (by assumption)).mono ?_; rintro e W ⟨rfl, hb⟩)
          | (go_at_call 8; have _t := tN1; refine (N1 _ (by assumption)).mono ?_; rintro e W ⟨rfl, hb⟩; clear tN1)
          | (go_at_call 8; have _t := tN2; refine (N2 _ (by assumption)).mono ?_; rintro e W ⟨rfl, hb⟩; clear tN2)
          | (go_at_call 8; refine (N3 _ (by assumption)).mono ?_; rintro e W ⟨rfl, hb⟩)
          | (go_at_call 13; have _t := tJ1; refine (J1 _ (by assumption)).mono ?_; rintro e W ⟨rfl, hb⟩; clear tJ1)
          | (go_at_call 13; refine (J2 _ (by assumption)).mono ?_; rintro e W ⟨rfl, hb⟩)
          | (go_at_call 10; have _t := tD2; refine (D2 _ (by assumption)).mono ?_; rintro e W ⟨rfl, hb⟩; clear tD2)
          | (go_at_call 10; refine (D1 _ (by assumption)).mono ?_; rintro e W ⟨rfl, hb⟩))
        go_ret
        exact ⟨rfl, by assumption⟩
      · rw [j2] at J2
        clear N3 zj j2
        generalize jnE a r = G at *
        go_enter Try.func6, Try.ntmps6
        go_wp2_with (first
          | (go_at_call 12; refine (A0 _ (by assumption)).mono ?_; rintro e W ⟨rfl, hb⟩)
          | (go_at_call 8; have _t := tN1; refine (N1 _ (by assumption)).mono ?_; rintro e W ⟨rfl, hb⟩; clear tN1)
          | (go_at_call 8; have _t := tN2; refine (N2 _ (by assumption)).mono ?_; rintro e W ⟨rfl, hb⟩; clear tN2)
          | (go_at_call 8; refine (N3 _ (by assumption)).mono ?_; rintro e W ⟨rfl, hb⟩)
          | (go_at_call 13; have _t := tJ1; refine (J1 _ (by assumption)).mono ?_; rintro e W ⟨rfl, hb⟩; clear tJ1)
          | (go_at_call 13; refine (J2 _ (by assumption)).mono ?_; rintro e W ⟨rfl, hb⟩)
          | (go_at_call 10; have _t := tD2; refine (D2 _ (by assumption)).mono ?_; rintro e W ⟨rfl, hb⟩; clear tD2)
          | (go_at_call 10; refine (D1 _ (by assumption)).mono ?_; rintro e W ⟨rfl, hb⟩))
        go_ret
        exact ⟨rfl, by assumption⟩
    · rw [c1, c3] at J1
      rw [c2, c3] at D2
      clear c1 c2 c3
      generalize dirB a = d at *
      rcases hj with ⟨j1, j2, j3⟩ | ⟨j1, j2⟩
      · rw [j1] at J2
        rw [j2, j3] at N3
        clear j1 j2 j3
        generalize jnB a r = j at *
        go_enter Try.func6, Try.ntmps6
        go_wp2_with (first
          | (go_at_call 12; refine (A0 _ (by assumption)).mono ?_; rintro e W ⟨rfl, hb⟩)
          | (go_at_call 8; have _t := tN1; refine (N1 _ (by assumption)).mono ?_; rintro e W ⟨rfl, hb⟩; clear tN1)
          | (go_at_call 8; have _t := tN2; refine (N2 _ (by assumption)).mono ?_; rintro e W ⟨rfl, hb⟩; clear tN2)
          | (go_at_call 8; refine (N3 _ (by assumption)).mono ?_; rintro e W ⟨rfl, hb⟩)
          | (go_at_call 13; have _t := tJ1; refine (J1 _ (by assumption)).mono ?_; rintro e W ⟨rfl, hb⟩; clear tJ1)
          | (go_at_call 13; refine (J2 _ (by assumption)).mono ?_; rintro e W ⟨rfl, hb⟩)
          | (go_at_call 10; have _t := tD2; refine (D2 _ (by assumption)).mono ?_; rintro e W ⟨rfl, hb⟩; clear tD2)
          | (go_at_call 10; refine (D1 _ (by assumption)).mono ?_; rintro e W ⟨rfl, hb⟩))
        go_ret
        exact ⟨rfl, by assumption⟩
      · rw [j2] at J2
        clear N3 zj j2
        generalize jnE a r = G at *
        go_enter Try.func6, Try.ntmps6
        go_wp2_with (first
          | (go_at_call 12; refine (A0 _ (by assumption)).mono ?_; rintro e W ⟨rfl, hb⟩)
          | (go_at_call 8; have _t := tN1; refine (N1 _ (by assumption)).mono ?_; rintro e W ⟨rfl, hb⟩; clear tN1)
          | (go_at_call 8; have _t := tN2; refine (N2 _ (by assumption)).mono ?_; rintro e W ⟨rfl, hb⟩; clear tN2)
          | (go_at_call 8; refine (N3 _ (by assumption)).mono ?_; rintro e W ⟨rfl, hb⟩)
          | (go_at_call 13; have _t := tJ1; refine (J1 _ (by assumption)).mono ?_; rintro e W ⟨rfl, hb⟩; clear tJ1)
          | (go_at_call 13; refine (J2 _ (by assumption)).mono ?_; rintro e W ⟨rfl, hb⟩)
          | (go_at_call 10; have _t := tD2; refine (D2 _ (by assumption)).mono ?_; rintro e W ⟨rfl, hb⟩; clear tD2)
          | (go_at_call 10; refine (D1 _ (by assumption)).mono ?_; rintro e W ⟨rfl, hb⟩))
        go_ret
        exact ⟨rfl, by assumption⟩
  · generalize nrmB p = a at *
    generalize nrmE p = E at *
    rcases hj with ⟨j1, j2, j3⟩ | ⟨j1, j2⟩
    · rw [j1] at J2
      rw [j2, j3] at N3
      clear j1 j2 j3
      generalize jnB a r = j at *
      go_enter Try.func6, Try.ntmps6
      go_wp2_with (first
        | (go_at_call 12; refine (A0 _ (by assumption)).mono ?_; rintro e W ⟨rfl, hb⟩)
        | (go_at_call 8; have _t := tN1; refine (N1 _ (by assumption)).mono ?_; rintro e W ⟨rfl, hb⟩; clear tN1)
        | (go_at_call 8; have _t := tN2; refine (N2 _ (by assumption)).mono ?_; rintro e W ⟨rfl, hb⟩; clear tN2)
        | (go_at_call 8; refine (N3 _ (by assumption)).mono ?_; rintro e W ⟨rfl, hb⟩)
        | (go_at_call 13; have _t := tJ1; refine (J1 _ (by assumption)).mono ?_; rintro e W ⟨rfl, hb⟩; clear tJ1)
        | (go_at_call 13; refine (J2 _ (by assumption)).mono ?_; rintro e W ⟨rfl, hb⟩)
        | (go_at_call 10; have _t := tD2; refine (D2 _ (by assumption)).mono ?_; rintro e W ⟨rfl, hb⟩; clear tD2)
        | (go_at_call 10; refine (D1 _ (by assumption)).mono ?_; rintro e W ⟨rfl, hb⟩))
      go_ret
      exact ⟨rfl, by assumption⟩
    · rw [j2] at J2
      clear N3 zj j2
      generalize jnE a r = G at *
      go_enter Try.func6, Try.ntmps6
      go_wp2_with (first
        | (go_at_call 12; refine (A0 _ (by assumption)).mono ?_; rintro e W ⟨rfl, hb⟩)
        | (go_at_call 8; have _t := tN1; refine (N1 _ (by assumption)).mono ?_; rintro e W ⟨rfl, hb⟩; clear tN1)
        | (go_at_call 8; have _t := tN2; refine (N2 _ (by assumption)).mono ?_; rintro e W ⟨rfl, hb⟩; clear tN2)
        | (go_at_call 8; refine (N3 _ (by assumption)).mono ?_; rintro e W ⟨rfl, hb⟩)
        | (go_at_call 13; have _t := tJ1; refine (J1 _ (by assumption)).mono ?_; rintro e W ⟨rfl, hb⟩; clear tJ1)
        | (go_at_call 13; refine (J2 _ (by assumption)).mono ?_; rintro e W ⟨rfl, hb⟩)
        | (go_at_call 10; have _t := tD2; refine (D2 _ (by assumption)).mono ?_; rintro e W ⟨rfl, hb⟩; clear tD2)
        | (go_at_call 10; refine (D1 _ (by assumption)).mono ?_; rintro e W ⟨rfl, hb⟩))
      go_ret
      exact ⟨rfl, by assumption⟩

theorem contract (H : Type) (enc : TypeId × Value → H) (W : World) (base : Nat) (args : Array Value) (ds gs : List (DataW H)) (before : List MemPlace)
    (hval : ∀ (j : Nat) t v, Try.f6.params[j]? = some t → args[j]? = some v → Value.okWide Try.prog W .any base t v)
    (hW : DataW.Whole enc Try.prog Try.f6.params.toList Rows.pathSettlesSpec.vars false W args.toList ds gs before)
    (hsz : (DataW.weightsEach Try.prog (Try.f6.params.toList ++ Rows.pathSettlesSpec.plain.varTypes Try.prog) (ds ++ gs)).all (· ≤ reachBytes) = true) :
    Calls Try.prog 6 args W fun e W' => ∃ v, e = .returned v ∧ Rows.pathSettlesSpec.post enc Try.prog Try.f6 false true false false W args v W' := by
  have hW' := hW
  obtain ⟨p, q, hA0, hV, rfl, hfz, hnd⟩ := hW
  have hA : DataW.TrodAll enc Try.prog W 0 (fun _ => true) true Try.f6.params.toList args.toList ds p := hA0
  have hAll := hA
  rw [Try.params6] at hA hval hsz
  obtain ⟨v0, vs0, d0, ds0, p0, q0, hargs, rfl, rfl, h0, r0⟩ := trodAll_cons hA
  obtain ⟨v1, vs1, d1, ds1, p1, q1, rfl, rfl, rfl, h1, r1⟩ := trodAll_cons r0
  obtain ⟨rfl, rfl, rfl⟩ := trodAll_nil r1
  obtain rfl : args = #[v0, v1] := by cases args; simp_all
  obtain ⟨rfl, rfl⟩ := trodVars_none hV
  have hlt := hW'.lt
  have m0 : ∀ n ∈ d0.weights Try.prog 9, n ≤ 140737488351232 := fun n hn => of_decide_eq_true (List.all_eq_true.1 hsz n (DataW.weights_mem_each (j := 0) rfl rfl n hn))
  obtain ⟨a0, rfl, z0⟩ := open_text (hval 0 9 v0 rfl rfl) h0
  have m1 : ∀ n ∈ d1.weights Try.prog 9, n ≤ 140737488351232 := fun n hn => of_decide_eq_true (List.all_eq_true.1 hsz n (DataW.weights_mem_each (j := 1) rfl rfl n hn))
  obtain ⟨a1, rfl, z1⟩ := open_text (hval 1 9 v1 rfl rfl) h1
  refine (walk a0 a1 W (z0.1 140737488351232 m0) (z1.1 140737488351232 m1)).mono fun e W' ⟨he, bel⟩ => ?_
  subst he
  exact ⟨_, rfl, _, _, _, [], _, [], hW', trodAll_mk1 (shut_bool Try.underlying4 _), below_trodAll laidOut bel _ (by kernel_rfl) hAll (fun x hx => hlt x (by simpa using hx)), rfl, bel.frame _, fun h => by cases h⟩

set_option maxRecDepth 100000 in
theorem lifted (os : Os) (started : os.Started) (H : Type) (enc : TypeId × Value → H) :
    ReturnsInHanded {} Try.checked os 6 .any (Rows.pathSettlesSpec.pre6 enc Try.prog Try.f6 Rows.pathSettlesRow.domain false) (Rows.pathSettlesSpec.post enc Try.prog Try.f6 false true false false) := by
  refine returnsInHanded_of_change_sized (C := Try.checked) own started (by kernel_rfl) Try.func6
    (ChangeSpec.witness6 (enc := enc) (C := Try.checked) false ⟨#[], #[.string ByteArray.empty, .string ByteArray.empty], []⟩ 8 (by kernel_rfl) (by kernel_rfl) (by kernel_rfl) (by kernel_rfl)) ?_
  intro W base args ds gs before hval hW _ hsz _
  exact contract H enc W base args ds gs before hval hW hsz

theorem said : Rows.PathSettlesSaid :=
  OpenClaim.holds_of_wide 6 Try.f6 rfl rfl rfl rfl rfl rfl rfl ⟨rfl, rfl, rfl, rfl, rfl⟩ rfl rfl rfl rfl rfl (by kernel_rfl) Try.func6 (by kernel_rfl)
    (of_decide_eq_true (by kernel_rfl)) (by unfold Func.isWrapper; first | (rw [if_pos (by decide +kernel)]; kernel_rfl) | (rw [if_neg (by decide +kernel)]; exact ⟨rfl, rfl⟩))
    (fun os started H enc _ => lifted os started H enc)

end Go.Proofs.Ytlogohcfahmilaa.pathSettles
