/- Own text. Probes, and the examples (awake). -/
import Derived.Test.YtlogohcfahmilaaP4
namespace Go.Proofs.Ytlogohcfahmilaa
open Go.RowKit
set_option linter.unusedVariables false

/-- texts as cells. -/
def cellsT (l : List Bs) : List Value := l.map fun b => .string ⟨b.toArray⟩
theorem cellsT_length (l : List Bs) : (cellsT l).length = l.length := by simp [cellsT]
abbrev Texts (w : World) (base : Nat) (v : Value) (l : List Bs) : Prop := w.ownsRow base 9 1 v l.length (cellsT l)
theorem texts_app {w : World} {base : Nat} {v : Value} {l : List Bs} {b : ByteArray} {x : Bs} (h : w.ownsRow base 9 1 v (l.length + 1) (cellsT l ++ [.string b])) (hb : b.data.toList = x) : Texts w base v (l ++ [x]) := by
  have e1 : (l ++ [x]).length = l.length + 1 := by simp
  have e2 : cellsT (l ++ [x]) = cellsT l ++ [.string b] := by
    have : b = ⟨x.toArray⟩ := toList_ext (by simp [hb])
    rw [this]
    simp [cellsT]
  unfold Texts
  rw [e1, e2]
  exact h

def prbN (p : Bs) (k : Nat) : List Bs := ((endS.take k).map (p ++ ·)).filter fun x => decide (x.length ≤ 200)
theorem prbN_len (p : Bs) (k : Nat) : (prbN p k).length ≤ 3 := by
  have h1 : (prbN p k).length ≤ ((endS.take k).map (p ++ ·)).length := List.length_filter_le _ _
  simp only [List.length_map, List.length_take] at h1
  have h2 : endS.length = 3 := rfl
  omega
theorem prbN_yes (p e : Bs) (k : Nat) (h : endS[k]? = some e) (hl : p.length + e.length ≤ 200) : prbN p (k + 1) = prbN p k ++ [p ++ e] := by
  unfold prbN
  rw [List.take_add_one, h]
  simp [List.filter_append, hl]
theorem prbN_no (p e : Bs) (k : Nat) (h : endS[k]? = some e) (hl : ¬ p.length + e.length ≤ 200) : prbN p (k + 1) = prbN p k := by
  unfold prbN
  rw [List.take_add_one, h]
  simp [List.filter_append]
  omega
theorem info_str : (Try.prog.info? 9).map (fun i => (i.zero, i.size, i.bytes)) = some (some (.string ByteArray.empty), 1, 16) := by kernel_rfl

set_option maxHeartbeats 4000000 in
set_option maxRecDepth 100000 in
theorem probes_any (s : ByteArray) (w : World) (hs : s.size ≤ 140737488355328) : Calls Try.prog 15 #[.string s] w fun e w' =>
    ∃ v, e = .returned v ∧ Texts w' w.heap.size v (prb s.data.toList) ∧ Below w.heap.size w w' := by
  obtain ⟨i0, hi, hz0, hz1, hz2⟩ := info_parts info_str
  go_enter Try.func15, Try.ntmps15
  go_wp2
  go_loopw [3, 7] (fun v3 v7 W => ∃ k : Nat, k ≤ 3 ∧ v7 = .int .i64 k ∧ Texts W w.heap.size v3 (prbN s.data.toList k) ∧ Below w.heap.size w W) (fun _ v7 _ => 3 - (intOf v7).toNat)
  case atStart => exact ⟨0, by omega, rfl, World.ownsRow_nil _ _ _ _, Below.refl _ _⟩
  case round =>
    obtain ⟨k, hk, rfl, ht, hb⟩ := hrel
    by_cases hk3 : k = 3
    · subst hk3
      go_wp2
      go_ret
      exact ⟨_, rfl, ht, hb⟩
    · have hln := prbN_len s.data.toList k
      have h3 : k = 0 ∨ k = 1 ∨ k = 2 := by omega
      clear hk3 hk
      have hix : ∀ W, (Instr.index 40 (.agg #[.string ⟨#[]⟩, .string ⟨#[46, 116, 115]⟩, .string ⟨#[47, 105, 110, 100, 101, 120, 46, 116, 115]⟩]) (.int .i64 (k : Int))).run Try.prog W = .ok (.string ⟨(endS.getD k []).toArray⟩) W := fun W => by
        rcases h3 with rfl | rfl | rfl
        · kernel_rfl
        · kernel_rfl
        · kernel_rfl
      have hk4 : (k : Int) < 3 := by omega
      have hE : endS[k]? = some (endS.getD k []) := by rcases h3 with rfl | rfl | rfl <;> rfl
      have hEs : (⟨(endS.getD k []).toArray⟩ : ByteArray).size ≤ 9 := by rcases h3 with rfl | rfl | rfl <;> decide
      have hEd : (⟨(endS.getD k []).toArray⟩ : ByteArray).data.toList = endS.getD k [] := by simp
      have HE : Hid (endS[k]? = some (⟨(endS.getD k []).toArray⟩ : ByteArray).data.toList) := by rw [hEd]; exact hE
      clear hE hEd h3
      generalize (⟨(endS.getD k []).toArray⟩ : ByteArray) = E at *
      go_wp2_with (first
        | (go_at_call 22; refine (clone_any _ _ (by simp; omega)).mono ?_; rintro e W1 ⟨rfl, hb1⟩)
        | (at_builtin; refine wpList_append_own _ rfl _ _ 33 rfl w.heap.size 9 i0 (.string ByteArray.empty) 1 16 Try.underlying33 hi hz0 hz1 hz2 rfl (by decide) _ _ _ rfl ((ht.kept (row := none) ⟨hb1.os, hb1.tape, hb1.output, hb1.size, fun k hk _ => hb1.block k hk⟩ (by cases hv : Value.ownBlock _ <;> simp)).alloc _) ⟨_, 0, none⟩ 1 1 [_] rfl rfl (cell_one_new _ _ _) (fun x hx => by simp at hx; subst hx; rfl) (by unfold maxLen; omega) (by omega) (by have h1 := hb.size; have h2 := hb1.size; simp; omega) ?_; intro v1 W3 ho1 hg1 hn1))
      · have hl : (s.size : Int) + (E.size : Int) ≤ 200 := by assumption
        go_roundw
        case rel =>
          have hb2 : Below w.heap.size w W1 := hb.trans (hb1.mono hb.size)
          refine ⟨k + 1, by omega, by simp, ?_, ?_⟩
          · rw [prbN_yes _ _ _ HE.out (by rw [← Lib.size_eq, ← Lib.size_eq]; omega)]
            exact texts_app ho1 (append_list s E)
          · exact (hb2.alloc hb2.size _).grown hg1 (by have := hb2.size; simp; omega) (fun j hj => (ht.lt j hj).1)
        case measure => simp [intOf]; omega
      · have hl : 200 < (s.size : Int) + (E.size : Int) := by assumption
        go_roundw
        case rel =>
          refine ⟨k + 1, by omega, by simp, ?_, hb⟩
          rw [prbN_no _ _ _ HE.out (by rw [← Lib.size_eq, ← Lib.size_eq]; omega)]
          exact ht
        case measure => simp [intOf]; omega

theorem awake_n : nrmB ⟨#[47, 97, 47, 47, 98, 47, 46, 47, 46, 46, 47, 99]⟩ = ⟨#[47, 97, 47, 99]⟩ ∧ nrmE ⟨#[47, 97, 47, 47, 98, 47, 46, 47, 46, 46, 47, 99]⟩ = 0 := by decide +kernel
theorem awake_j : jnB ⟨#[47, 120, 47, 121, 46, 116, 115]⟩ ⟨#[46, 46, 47, 122]⟩ = ⟨#[47, 122]⟩ ∧ jnE ⟨#[47, 120, 47, 121, 46, 116, 115]⟩ ⟨#[46, 46, 47, 122]⟩ = 0 := by decide +kernel
theorem awake_p : (prb [47, 97]).length = 3 := by decide +kernel

set_option maxHeartbeats 4000000 in
theorem awake_any (w : World) : Calls Try.prog 12 #[] w fun e w' => e = .returned (.bool true) ∧ Below w.heap.size w w' := by
  obtain ⟨n1, n2⟩ := awake_n
  obtain ⟨j1, j2⟩ := awake_j
  go_enter Try.func12, Try.ntmps12
  go_wp2_with (first
    | (go_at_call 8; refine (normal_any _ _ (by decide)).mono ?_; rintro e W1 ⟨rfl, hb1⟩; rw [n1, n2])
    | (go_at_call 13; refine (join_any _ _ _ (by decide)).mono ?_; rintro e W2 ⟨rfl, hb2⟩; rw [j1, j2])
    | (go_at_call 15; refine (probes_any _ _ (by decide)).mono ?_; rintro e W3 ⟨v, rfl, ht, hb3⟩; have ht2 := ht.1; obtain ⟨A, c, rfl⟩ := row_form ht; rw [show (prb (⟨#[47, 97]⟩ : ByteArray).data.toList).length = 3 from awake_p]))
  go_ret
  exact ⟨rfl, (hb1.trans (hb2.mono hb1.size)).trans (hb3.mono (by have := hb1.size; have := hb2.size; omega))⟩

end Go.Proofs.Ytlogohcfahmilaa
