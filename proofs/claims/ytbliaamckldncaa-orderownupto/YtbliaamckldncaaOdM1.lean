/- Own text. The steps of a walk by states. -/
import Derived.Test.YtbliaamckldncaaOdM
import Derived.RegionTactic
import Derived.Deep.RegionLaw
namespace Go.Proofs.Ytbliaamckldncaa
open Go.RowKit Gph
set_option linter.unusedVariables false
set_option linter.unusedSimpArgs false

set_option maxRecDepth 100000 in
set_option maxHeartbeats 4000000 in
theorem enter_any {w : World} {lo q : Nat} {ve : Value} {ge gl n : Nat} {y : Nat} {S : List Bool} {L op td : List Nat} {vo vt : Value} (h : Wk w lo q ve ge gl n (y : Nat) S L op td vo vt) (hlo : lo ≤ w.heap.size) (hy : y < n) (hn : n ≤ 1048576) (ho : op.length < n) {ga : Nat} (hfg : Fgn w ga q ge gl vo vt) :
    Calls Try.prog 28 #[.pointer (some ⟨q, 0, none⟩)] w fun e w' => ∃ vo', e = .returned (.int .i64 1) ∧ Wk w' lo q ve ge gl n (y : Nat) (S.set y true) L (op ++ [y]) td vo' vt ∧ Below lo w w' ∧ Fgn w' ga q ge gl vo' vt ∧ w'.heap[ga]? = w.heap[ga]? := by
  obtain ⟨i0, hi, hz0, hz1, hz2⟩ := info_parts info_int
  obtain ⟨c0, c1, c2, c3, c4, c5, cf, cq⟩ := h.s.cells
  obtain ⟨s1, s2⟩ := h.fe.at hy
  have h1 := (h.setOn y).drew
  have hel := h.fe.lt
  go_enter Try.func28, Try.ntmps28
  go_wp2_with fail
  go_region
  have b1 : Below lo w (w.setCell ⟨ge, y, none⟩ (.bool true)).drew := ((Below.refl _ _).setCell hel.1 _).drew
  have hfg1 : Fgn (w.setCell ⟨ge, y, none⟩ (.bool true)).drew ga q ge gl vo vt := ⟨by show ga < (w.setCell _ _).heap.size; simpa [World.setCell] using hfg.1, hfg.2⟩
  have hga1 : (w.setCell ⟨ge, y, none⟩ (.bool true)).drew.heap[ga]? = w.heap[ga]? := heap_set_ne hfg.2.2.1
  obtain ⟨W1, hW1⟩ : ∃ W, (w.setCell ⟨ge, y, none⟩ (.bool true)).drew = W := ⟨_, rfl⟩
  rw [hW1] at h1 b1 hfg1 hga1 ⊢
  clear hW1 c0 c1 c2 c3 c4 c5 cf cq s1 s2 h
  have hs1 := b1.size
  have hsW : lo ≤ W1.heap.size := by omega
  obtain ⟨c0, c1, c2, c3, c4, c5, cf, cq⟩ := h1.s.cells
  have ca4 : ∀ o, (W1.alloc o).cell? ⟨q, 4, none⟩ = some vo := fun o => ((h1.alloc o).s.cells).2.2.2.2.1
  have fin : ∀ (W3 : World) (gg cap : Nat), W3.ownsRow lo 3 1 (.slice (some ⟨gg, 0, none⟩) (op.length + 1) cap) (op.length + 1) (ints (nI op) ++ [.int .i64 (y : Nat)]) → (W1.alloc (.cells #[.int .i64 (y : Nat)] 3)).drew.grownBy W3 vo.ownBlock → (vo.ownBlock = some gg ∨ gg = W1.heap.size + 1) → gg < W3.heap.size →
      (∃ u, W3.cell? ⟨q, 4, none⟩ = some u) ∧ W3.frozen? ⟨q, 4, none⟩ = false ∧ Wk (W3.setCell ⟨q, 4, none⟩ (.slice (some ⟨gg, 0, none⟩) (op.length + 1) cap)) lo q ve ge gl n (y : Nat) (S.set y true) L (op ++ [y]) td (.slice (some ⟨gg, 0, none⟩) (op.length + 1) cap) vt ∧ Below lo w (W3.setCell ⟨q, 4, none⟩ (.slice (some ⟨gg, 0, none⟩) (op.length + 1) cap)) ∧ Fgn (W3.setCell ⟨q, 4, none⟩ (.slice (some ⟨gg, 0, none⟩) (op.length + 1) cap)) ga q ge gl (.slice (some ⟨gg, 0, none⟩) (op.length + 1) cap) vt ∧ (W3.setCell ⟨q, 4, none⟩ (.slice (some ⟨gg, 0, none⟩) (op.length + 1) cap)).heap[ga]? = w.heap[ga]? := fun W3 gg cap r1 r2 r3 r4 => by
    have ha := (h1.alloc (.cells #[.int .i64 (y : Nat)] 3)).drew
    have kq : W3.heap[q]? = (W1.alloc (.cells #[.int .i64 (y : Nat)] 3)).drew.heap[q]? := r2.block q (by have := ha.s.cells.2.2.2.2.2.2.2; exact this) (fun e => (h1.ao q e.symm).1 rfl)
    have hst : Stt W3 q ve ge gl n (y : Nat) vo vt := kq.trans ha.s
    refine ⟨⟨_, hst.cells.2.2.2.2.1⟩, hst.cells.2.2.2.2.2.2.1 4, ha.push (by show (W1.alloc _).heap.size = _; simp) r1 r2 r3 r4, ?_, ⟨?_, hfg1.2.1, hfg1.2.2.1, hfg1.2.2.2.1, fun e => ?_, hfg1.2.2.2.2.2⟩, ?_⟩
    rotate_left
    · have := r2.size
      have h0 : (W1.alloc (.cells #[.int .i64 (y : Nat)] 3)).heap.size ≤ W3.heap.size := this
      have := hfg1.1
      simp [World.setCell] at h0 ⊢
      omega
    · have e' : gg = ga := by cases e; rfl
      subst e'
      rcases r3 with r3 | r3
      · exact hfg1.2.2.2.2.1 r3
      · have := hfg1.1; omega
    · refine (heap_set_ne hfg1.2.1).trans ((r2.block ga ?_ (fun e => hfg1.2.2.2.2.1 e.symm)).trans ((Below.heap_alloc W1 _ ga hfg1.1).trans hga1))
      show ga < (W1.alloc _).heap.size
      have := hfg1.1
      simp
      omega
    exact ((b1.alloc hsW _).drew.grown r2 (by show lo ≤ (W1.alloc _).heap.size; simp; omega) (fun j hj => (World.ownsRow.lt h1.ho j hj).1)).setCell h1.hq _
  have hF : Hid _ := fin
  have ho1 := (World.ownsRow.alloc h1.ho (.cells #[.int .i64 (y : Nat)] 3)).drew
  clear fin
  go_wp2_with fail
  go_region_law (first
    | (refine step_append_lies _ (by rfl) _ _ _ (by rfl) lo 3 i0 _ 1 8 Try.underlying31 hi hz0 hz1 hz2 rfl (by omega) _ op.length (ints (nI op)) (by rfl) ho1 ⟨W1.heap.size, 0, none⟩ 1 1 [.int .i64 (y : Nat)] (by rfl) (by rfl) (World.news_of_block (cs := #[.int .i64 (y : Nat)]) (t := 3) (fr := (0, 0)) (heap_alloc_new W1 _)) (by simp [Value.oneCell']) (by omega) (by unfold maxLen; omega) (by omega) (by simp; omega) (W1.heap.size + 1) (by simp) ?_
       intro gg cap W3 r1 r2 r3 r4
       obtain ⟨⟨u4, k1⟩, k2, k3, k4, k5, k6⟩ := hF.out W3 gg cap r1 r2 r3 r4))
  all_goals
    go_wp2
    go_ret
    exact ⟨_, rfl, k3, k4, k5, k6⟩
end Go.Proofs.Ytbliaamckldncaa
