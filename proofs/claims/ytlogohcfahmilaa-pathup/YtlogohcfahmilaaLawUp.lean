/- PathUp answers true at every two texts: down into a part and up again is nothing, two parents are two parts less (3.5). No condition. -/
import Derived.Test.YtlogohcfahmilaaP5
import Derived.Test.YtlogohcfahmilaaPClose
namespace Go.Proofs.Ytlogohcfahmilaa.pathUp
open Go.ChangeShapes Go.WideShapes Go.ChangeAt Go.RowKit
set_option linter.unusedVariables false
set_option linter.unusedSimpArgs false

/-- a call, and what has turned since the beginning. -/
theorem acc {f : FuncId} {args : Array Value} {w W : World} {r : Ending} (h : Calls Try.prog f args W fun e w' => e = r ∧ Below W.heap.size W w') (hb : Below w.heap.size w W) : Calls Try.prog f args W fun e w' => e = r ∧ Below w.heap.size w w' :=
  h.mono fun e w' ⟨h1, h2⟩ => ⟨h1, hb.trans (h2.mono hb.size)⟩

def low (c : UInt8) : Prop := (97 ≤ c ∧ c ≤ 122) ∨ (48 ≤ c ∧ c ≤ 57)
theorem low_of {c : UInt8} (h : (97 ≤ (c.toNat : Int) ∧ (c.toNat : Int) ≤ 122) ∨ (48 ≤ (c.toNat : Int) ∧ (c.toNat : Int) ≤ 57)) : low c := by
  unfold low
  simp only [UInt8.le_iff_toNat_le]
  rcases h with ⟨a, b⟩ | ⟨a, b⟩
  · exact .inl ⟨by simpa using (show (97 : Nat) ≤ c.toNat by omega), by simpa using (show c.toNat ≤ 122 by omega)⟩
  · exact .inr ⟨by simpa using (show (48 : Nat) ≤ c.toNat by omega), by simpa using (show c.toNat ≤ 57 by omega)⟩
def lowTo (l : Bs) (k : Nat) : Prop := ∀ c ∈ l.take k, low c
theorem lowTo_succ {l : Bs} {k : Nat} {c : UInt8} (h : l[k]? = some c) (ha : lowTo l k) (hc : low c) : lowTo l (k + 1) := by
  intro x hx
  rw [List.take_add_one, h] at hx
  rcases List.mem_append.1 hx with hx | hx
  · exact ha x hx
  · rw [show x = c from by simpa using hx]; exact hc

set_option maxHeartbeats 8000000 in
set_option maxRecDepth 100000 in
theorem walk (p q : ByteArray) (w : World) (z0 : p.size ≤ 140737488351232) (z1 : q.size ≤ 140737488351232) :
    Calls Try.prog 7 #[.string p, .string q] w fun e w' => e = .returned (.bool true) ∧ Below w.heap.size w w' := by
  have A0 := fun W (hb : Below w.heap.size w W) => acc (awake_any W) hb
  have N1 := fun W (hb : Below w.heap.size w W) => acc (normal_any p W (by omega)) hb
  have za := nrmB_size p
  have hb0 := Below.refl w.heap.size w
  have HU : Hid (nrmE p = 0 → q.data.toList ≠ [] → lowTo q.data.toList q.size → (nrmB p).size + q.size ≤ 190 →
      nrmB (nrmB p ++ ⟨#[47]⟩ ++ q ++ ⟨#[47, 46, 46]⟩) = nrmB p ∧ nrmE (nrmB p ++ ⟨#[47]⟩ ++ q ++ ⟨#[47, 46, 46]⟩) = 0 ∧ nrmB (nrmB p ++ ⟨#[47]⟩ ++ q) = nrmB p ++ ⟨#[47]⟩ ++ q ∧ nrmE (nrmB p ++ ⟨#[47]⟩ ++ q) = 0 ∧
      dirB (nrmB p ++ ⟨#[47]⟩ ++ q) = nrmB p ∧ jnB (nrmB p ++ ⟨#[47]⟩ ++ q) (⟨#[46, 47]⟩ ++ q) = nrmB p ++ ⟨#[47]⟩ ++ q ∧ jnE (nrmB p ++ ⟨#[47]⟩ ++ q) (⟨#[46, 47]⟩ ++ q) = 0) := by
    intro h1 h2 h3 h4
    have hall : ∀ c ∈ q.data.toList, low c := fun c hc => h3 c (by rw [List.take_of_length_le (by rw [← Lib.size_eq]; omega)]; exact hc)
    obtain ⟨u1, u2, u3, u4⟩ := upS (p := p.data.toList) (part := q.data.toList) (by unfold nrmE at h1; omega) h2 hall (by rw [← nrmB_list, ← Lib.size_eq, ← Lib.size_eq]; exact h4)
    have l1 : (nrmB p ++ ⟨#[47]⟩ ++ q).data.toList = (nrm p.data.toList).1 ++ 47 :: q.data.toList := by
      rw [append_list, append_list, nrmB_list, List.append_assoc]
      rfl
    have l2 : (nrmB p ++ ⟨#[47]⟩ ++ q ++ ⟨#[47, 46, 46]⟩).data.toList = (nrm p.data.toList).1 ++ 47 :: q.data.toList ++ [47, 46, 46] := by
      rw [append_list, l1]
    have l3 : ((⟨#[46, 47]⟩ : ByteArray) ++ q).data.toList = 46 :: 47 :: q.data.toList := by
      rw [append_list]
      rfl
    refine ⟨toList_ext ?_, ?_, toList_ext ?_, ?_, toList_ext ?_, toList_ext ?_, ?_⟩
    · rw [nrmB_list, l2, u1, nrmB_list]
    · unfold nrmE; rw [l2, u1]; rfl
    · rw [nrmB_list, l1, u2]
    · unfold nrmE; rw [l1, u2]; rfl
    · rw [dirB_list, l1, u3, nrmB_list]
    · rw [jnB_list, l1, l3, u4]
    · unfold jnE; rw [l1, l3, u4]; rfl
  have hsa : ∀ a : ByteArray, (a ++ ⟨#[47]⟩ ++ q).size = a.size + 1 + q.size := fun a => by simp only [ByteArray.size_append]; rfl
  have hsb : ∀ a : ByteArray, (a ++ ⟨#[47, 46, 46]⟩).size = a.size + 3 := fun a => by simp only [ByteArray.size_append]; rfl
  have hsc : ((⟨#[46, 47]⟩ : ByteArray) ++ q).size = 2 + q.size := by simp only [ByteArray.size_append]; rfl
  have N2 := fun (h : (nrmB p).size + q.size ≤ 190) W (hb : Below w.heap.size w W) => acc (normal_any (nrmB p ++ ⟨#[47]⟩ ++ q ++ ⟨#[47, 46, 46]⟩) W (by rw [hsb, hsa]; omega)) hb
  have N3 := fun (h : (nrmB p).size + q.size ≤ 190) W (hb : Below w.heap.size w W) => acc (normal_any (nrmB p ++ ⟨#[47]⟩ ++ q) W (by rw [hsa]; omega)) hb
  have J1 := fun (h : (nrmB p).size + q.size ≤ 190) W (hb : Below w.heap.size w W) => acc (join_any (nrmB p ++ ⟨#[47]⟩ ++ q) (⟨#[46, 47]⟩ ++ q) W (by rw [hsa, hsc]; omega)) hb
  have D1 := fun (h : (nrmB p).size + q.size ≤ 190) W (hb : Below w.heap.size w W) => acc (dir_any (nrmB p ++ ⟨#[47]⟩ ++ q) W (by rw [hsa]; omega)) hb
  clear hsa hsb hsc
  generalize nrmB p = a at *
  generalize nrmE p = E at *
  go_enter Try.func7, Try.ntmps7
  go_wp2_with (go_at_call 8; refine (N1 _ (by assumption)).mono ?_; rintro e W1 ⟨rfl, hb1⟩)
  go_loopw [7] (fun v7 W => ∃ k : Nat, k ≤ q.size ∧ v7 = .int .i64 k ∧ Hid (lowTo q.data.toList k) ∧ Below w.heap.size w W) (fun v7 _ => q.size - (intOf v7).toNat)
  case atStart => exact ⟨0, Nat.zero_le _, rfl, by intro c hc; simp at hc, hb1⟩
  case round =>
    obtain ⟨k, hk, rfl, hl, hbw⟩ := hrel
    by_cases hkl : k < q.size
    · have hkl2 : (k : Int) < (q.size : Int) := by omega
      have hby := byte_at q k hkl
      go_wp2_with (go_at_call 12; refine (A0 _ (by assumption)).mono ?_; rintro e W2 ⟨rfl, hb2⟩)
      all_goals first
        | (go_ret
           exact ⟨rfl, hb2⟩)
        | (have hlow : low q[k] := low_of (by
             try simp only [Bool.not_eq_true', Bool.not_eq_false', decide_eq_true_eq, decide_eq_false_iff_not] at *
             omega)
           go_roundw
           case rel => exact ⟨k + 1, by omega, by simp, lowTo_succ hby hl.out hlow, hbw⟩
           case measure => simp [intOf]; omega)
    · have hkl2 : ¬ (k : Int) < (q.size : Int) := by omega
      have hke : k = q.size := by omega
      rw [hke] at hl
      clear hke
      by_cases hE : E = 0
      · subst hE
        by_cases hq : q.data.toList = []
        · have c1 : q.toList.isEmpty = true := by rw [Lib.toList_data, hq]; rfl
          clear hq HU
          go_wp2_with (go_at_call 12; refine (A0 _ (by assumption)).mono ?_; rintro e W2 ⟨rfl, hb2⟩)
          go_ret
          exact ⟨rfl, hb2⟩
        · have c1 : q.toList.isEmpty = false := by
            rw [Lib.toList_data]
            cases h : q.data.toList with
            | nil => exact absurd h hq
            | cons _ _ => rfl
          by_cases hz : 190 < a.size + q.size
          · have c2 : decide ((190 : Int) < (a.size : Int) + (q.size : Int)) = true := decide_eq_true (by omega)
            clear hq HU
            go_wp2_with (go_at_call 12; refine (A0 _ (by assumption)).mono ?_; rintro e W2 ⟨rfl, hb2⟩)
            go_ret
            exact ⟨rfl, hb2⟩
          · have c2 : decide ((190 : Int) < (a.size : Int) + (q.size : Int)) = false := decide_eq_false (by omega)
            obtain ⟨u1, u2, u3, u4, u5, u6, u7⟩ := HU.out rfl hq hl.out (by omega)
            have M2 := N2 (by omega)
            have M3 := N3 (by omega)
            have M4 := J1 (by omega)
            have M5 := D1 (by omega)
            rw [u1, u2] at M2
            rw [u3, u4] at M3
            rw [u6, u7] at M4
            rw [u5] at M5
            have t1 : True := trivial
            clear N1 N2 N3 J1 D1 hq HU hl u1 u2 u3 u4 u5 u6 u7
            go_wp2_with (first
              | (go_at_call 8; have _t := t1; refine (M2 _ (by assumption)).mono ?_; rintro e W2 ⟨rfl, hb2⟩; clear t1)
              | (go_at_call 8; refine (M3 _ (by assumption)).mono ?_; rintro e W3 ⟨rfl, hb3⟩)
              | (go_at_call 13; refine (M4 _ (by assumption)).mono ?_; rintro e W4 ⟨rfl, hb4⟩)
              | (go_at_call 10; refine (M5 _ (by assumption)).mono ?_; rintro e W5 ⟨rfl, hb5⟩)
              | (go_at_call 12; refine (A0 _ (by assumption)).mono ?_; rintro e W6 ⟨rfl, hb6⟩))
            go_ret
            exact ⟨rfl, hb6⟩
      · clear HU
        go_wp2_with (go_at_call 12; refine (A0 _ (by assumption)).mono ?_; rintro e W2 ⟨rfl, hb2⟩)
        go_ret
        exact ⟨rfl, hb2⟩

theorem contract (H : Type) (enc : TypeId × Value → H) (W : World) (base : Nat) (args : Array Value) (ds gs : List (DataW H)) (before : List MemPlace)
    (hval : ∀ (j : Nat) t v, Try.f7.params[j]? = some t → args[j]? = some v → Value.okWide Try.prog W .any base t v)
    (hW : DataW.Whole enc Try.prog Try.f7.params.toList Rows.pathUpSpec.vars false W args.toList ds gs before)
    (hsz : (DataW.weightsEach Try.prog (Try.f7.params.toList ++ Rows.pathUpSpec.plain.varTypes Try.prog) (ds ++ gs)).all (· ≤ reachBytes) = true) :
    Calls Try.prog 7 args W fun e W' => ∃ v, e = .returned v ∧ Rows.pathUpSpec.post enc Try.prog Try.f7 false true false false W args v W' := by
  have hW' := hW
  obtain ⟨p, q, hA0, hV, rfl, hfz, hnd⟩ := hW
  have hA : DataW.TrodAll enc Try.prog W 0 (fun _ => true) true Try.f7.params.toList args.toList ds p := hA0
  have hAll := hA
  rw [Try.params7] at hA hval hsz
  obtain ⟨v0, vs0, d0, ds0, p0, q0, hargs, rfl, rfl, h0, r0⟩ := trodAll_cons hA
  obtain ⟨v1, vs1, d1, ds1, p1, q1, rfl, rfl, rfl, h1, r1⟩ := trodAll_cons r0
  obtain ⟨rfl, rfl, rfl⟩ := trodAll_nil r1
  obtain rfl : args = #[v0, v1] := by cases args; simp_all
  obtain ⟨rfl, rfl⟩ := trodVars_none hV
  have hlt := hW'.lt
  have m0 : ∀ n ∈ d0.weights Try.prog 9, n ≤ 140737488351232 := fun n hn => of_decide_eq_true (List.all_eq_true.1 hsz n (DataW.weights_mem_each (j := 0) rfl rfl n hn))
  obtain ⟨a0, rfl, z0⟩ := open_text (hval 0 9 v0 rfl rfl) h0
  have m1 : ∀ n ∈ d1.weights Try.prog 9, n ≤ 140737488351232 := fun n hn => of_decide_eq_true (List.all_eq_true.1 hsz n (DataW.weights_mem_each (j := 1) rfl rfl n hn))
  obtain ⟨a1, rfl, z1⟩ := open_text (hval 1 9 v1 rfl rfl) h1
  refine (walk a0 a1 W (z0.1 140737488351232 m0) (z1.1 140737488351232 m1)).mono fun e W' ⟨he, bel⟩ => ?_
  subst he
  exact ⟨_, rfl, _, _, _, [], _, [], hW', trodAll_mk1 (shut_bool Try.underlying4 _), below_trodAll laidOut bel _ (by kernel_rfl) hAll (fun x hx => hlt x (by simpa using hx)), rfl, bel.frame _, fun h => by cases h⟩

set_option maxRecDepth 100000 in
theorem lifted (os : Os) (started : os.Started) (H : Type) (enc : TypeId × Value → H) :
    ReturnsInHanded {} Try.checked os 7 .any (Rows.pathUpSpec.pre6 enc Try.prog Try.f7 Rows.pathUpRow.domain false) (Rows.pathUpSpec.post enc Try.prog Try.f7 false true false false) := by
  refine returnsInHanded_of_change_sized (C := Try.checked) own started (by kernel_rfl) Try.func7
    (ChangeSpec.witness6 (enc := enc) (C := Try.checked) false ⟨#[], #[.string ByteArray.empty, .string ByteArray.empty], []⟩ 8 (by kernel_rfl) (by kernel_rfl) (by kernel_rfl) (by kernel_rfl)) ?_
  intro W base args ds gs before hval hW _ hsz _
  exact contract H enc W base args ds gs before hval hW hsz

theorem said : Rows.PathUpSaid :=
  OpenClaim.holds_of_wide 7 Try.f7 rfl rfl rfl rfl rfl rfl rfl ⟨rfl, rfl, rfl, rfl, rfl⟩ rfl rfl rfl rfl rfl (by kernel_rfl) Try.func7 (by kernel_rfl)
    (of_decide_eq_true (by kernel_rfl)) (by unfold Func.isWrapper; first | (rw [if_pos (by decide +kernel)]; kernel_rfl) | (rw [if_neg (by decide +kernel)]; exact ⟨rfl, rfl⟩))
    (fun os started H enc _ => lifted os started H enc)

end Go.Proofs.Ytlogohcfahmilaa.pathUp
