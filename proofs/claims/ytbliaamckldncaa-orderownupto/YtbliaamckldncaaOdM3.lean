/- Own text. A walk by states: the last place of its way is told. -/
import Derived.Test.YtbliaamckldncaaOdM2
namespace Go.Proofs.Ytbliaamckldncaa
open Go.RowKit Gph
set_option linter.unusedVariables false
set_option linter.unusedSimpArgs false

def tellN (st : List Nat) : Int := if st = [] then 3 else 1
set_option maxRecDepth 100000 in
set_option maxHeartbeats 4000000 in
theorem tell_any {w : World} {lo q : Nat} {ve : Value} {ge gl n : Nat} {at0 : Int} {S : List Bool} {L st O : List Nat} {x : Nat} {vo vt : Value}
    (h : Wk w lo q ve ge gl n at0 S L (st.reverse ++ [x]) O vo vt) (hlo : lo ≤ w.heap.size) (hn : n ≤ 1048576) (hs : st.length < n) (hO : O.length < n) {ga : Nat} (hfg : Fgn w ga q ge gl vo vt) :
    Calls Try.prog 30 #[.pointer (some ⟨q, 0, none⟩)] w fun e w' => ∃ vo' vt', e = .returned (.int .i64 (tellN st)) ∧ Wk w' lo q ve ge gl n at0 S L st.reverse (O ++ [x]) vo' vt' ∧ Below lo w w' ∧ Fgn w' ga q ge gl vo' vt' ∧ w'.heap[ga]? = w.heap[ga]? := by
  obtain ⟨i0, hi, hz0, hz1, hz2⟩ := info_parts info_int
  have hlen : (st.reverse ++ [x]).length = st.length + 1 := by simp
  have hho := h.ho
  unfold Tl at hho
  rw [hlen] at hho
  obtain ⟨gt, ct, rfl, hgt, hct⟩ := row_some hho (by omega)
  have hc1 := World.ownsRow.cellAt hho st.length (by omega)
  have hxc : (ints (nI (st.reverse ++ [x])))[st.length]? = some (.int .i64 (x : Nat)) := by simp [ints, nI]
  rw [hxc] at hc1
  have hct' : ((st.length : Nat) : Int) ≤ ((ct : Nat) : Int) := by omega
  have hlt1 : ((st.length : Nat) : Int) < ((st.length : Nat) : Int) + 1 := by omega
  have hrev : st.reverse.length = st.length := by simp
  clear hxc hho hlen
  obtain ⟨c0, c1, c2, c3, c4, c5, cf, cq⟩ := h.s.cells
  have hgw : gt < w.heap.size := (World.ownsRow.lt h.ho gt rfl).2
  have cs : ∀ o, (w.alloc o).cell? ⟨q, 5, none⟩ = some vt := fun o => ((h.alloc o).s.cells).2.2.2.2.2.1
  have fin : ∀ (W3 : World) (gg cap : Nat), W3.ownsRow lo 3 1 (.slice (some ⟨gg, 0, none⟩) (O.length + 1) cap) (O.length + 1) (ints (nI O) ++ [.int .i64 (x : Nat)]) → (w.alloc (.cells #[.int .i64 (x : Nat)] 3)).drew.grownBy W3 vt.ownBlock → (vt.ownBlock = some gg ∨ gg = w.heap.size + 1) → gg < W3.heap.size →
      (∃ u, W3.cell? ⟨q, 5, none⟩ = some u) ∧ W3.frozen? ⟨q, 5, none⟩ = false ∧ Wk (W3.setCell ⟨q, 5, none⟩ (.slice (some ⟨gg, 0, none⟩) (O.length + 1) cap)) lo q ve ge gl n at0 S L (st.reverse ++ [x]) (O ++ [x]) (.slice (some ⟨gt, 0, none⟩) (st.length + 1) ct) (.slice (some ⟨gg, 0, none⟩) (O.length + 1) cap) ∧ Below lo w (W3.setCell ⟨q, 5, none⟩ (.slice (some ⟨gg, 0, none⟩) (O.length + 1) cap)) ∧ Fgn (W3.setCell ⟨q, 5, none⟩ (.slice (some ⟨gg, 0, none⟩) (O.length + 1) cap)) ga q ge gl (.slice (some ⟨gt, 0, none⟩) (st.length + 1) ct) (.slice (some ⟨gg, 0, none⟩) (O.length + 1) cap) ∧ (W3.setCell ⟨q, 5, none⟩ (.slice (some ⟨gg, 0, none⟩) (O.length + 1) cap)).heap[ga]? = w.heap[ga]? := fun W3 gg cap r1 r2 r3 r4 => by
    have ha := (h.alloc (.cells #[.int .i64 (x : Nat)] 3)).drew
    have kq : W3.heap[q]? = (w.alloc (.cells #[.int .i64 (x : Nat)] 3)).drew.heap[q]? := r2.block q (by have := ha.s.cells.2.2.2.2.2.2.2; exact this) (fun e => (h.at' q e.symm).1 rfl)
    have hst : Stt W3 q ve ge gl n at0 (.slice (some ⟨gt, 0, none⟩) (st.length + 1) ct) vt := kq.trans ha.s
    refine ⟨⟨_, hst.cells.2.2.2.2.2.1⟩, hst.cells.2.2.2.2.2.2.1 5, ha.told (by show (w.alloc _).heap.size = _; simp) r1 r2 r3 r4, ?_, ⟨?_, hfg.2.1, hfg.2.2.1, hfg.2.2.2.1, hfg.2.2.2.2.1, fun e => ?_⟩, ?_⟩
    rotate_left
    · have := r2.size
      have h0 : (w.alloc (.cells #[.int .i64 (x : Nat)] 3)).heap.size ≤ W3.heap.size := this
      have := hfg.1
      simp [World.setCell] at h0 ⊢
      omega
    · have e' : gg = ga := by cases e; rfl
      subst e'
      rcases r3 with r3 | r3
      · exact hfg.2.2.2.2.2 r3
      · have := hfg.1; omega
    · refine (heap_set_ne hfg.2.1).trans ((r2.block ga ?_ (fun e => hfg.2.2.2.2.2 e.symm)).trans (Below.heap_alloc w _ ga hfg.1))
      show ga < (w.alloc _).heap.size
      have := hfg.1
      simp
      omega
    exact (((Below.refl _ _).alloc hlo _).drew.grown r2 (by show lo ≤ (w.alloc _).heap.size; simp; omega) (fun j hj => (World.ownsRow.lt h.ht j hj).1)).setCell h.hq _
  have hF : Hid _ := fin
  have ho1 := (World.ownsRow.alloc h.ht (.cells #[.int .i64 (x : Nat)] 3)).drew
  clear fin
  obtain ⟨rs, hrs⟩ : ∃ r, tellN st = r := ⟨_, rfl⟩
  have HT : Hid (tellN st = rs) := hrs
  rw [hrs]
  clear hrs
  go_enter Try.func30, Try.ntmps30
  go_wp2_with fail
  go_region_law (first
    | (refine step_append_lies _ (by rfl) _ _ _ (by rfl) lo 3 i0 _ 1 8 Try.underlying31 hi hz0 hz1 hz2 rfl (by omega) _ O.length (ints (nI O)) (by rfl) ho1 ⟨w.heap.size, 0, none⟩ 1 1 [.int .i64 (x : Nat)] (by rfl) (by rfl) (World.news_of_block (cs := #[.int .i64 (x : Nat)]) (t := 3) (fr := (0, 0)) (heap_alloc_new w _)) (by simp [Value.oneCell']) (by omega) (by unfold maxLen; omega) (by omega) (by simp; omega) (w.heap.size + 1) (by simp) ?_
       intro gg cap W3 r1 r2 r3 r4
       obtain ⟨⟨u4, k1⟩, k2, k3, k4, k5, k6⟩ := hF.out W3 gg cap r1 r2 r3 r4))
  all_goals
    have h4 : Wk (W3.setCell ⟨q, 5, none⟩ (.slice (some ⟨gg, 0, none⟩) (O.length + 1) cap)) lo q ve ge gl n at0 S L (st.reverse ++ [x]) (O ++ [x]) (.slice (some ⟨gt, 0, none⟩) (st.reverse.length + 1) ct) (.slice (some ⟨gg, 0, none⟩) (O.length + 1) cap) := by rw [hrev]; exact k3
    have h5 := h4.pop
    rw [hrev] at h5
    have b5 := k4.setCell (p := ⟨q, 4, none⟩) h.hq (.slice (some ⟨gt, 0, none⟩) st.length ct)
    have f5 : Fgn ((W3.setCell ⟨q, 5, none⟩ (.slice (some ⟨gg, 0, none⟩) (O.length + 1) cap)).setCell ⟨q, 4, none⟩ (.slice (some ⟨gt, 0, none⟩) st.length ct)) ga q ge gl (.slice (some ⟨gt, 0, none⟩) st.length ct) (.slice (some ⟨gg, 0, none⟩) (O.length + 1) cap) := ⟨by have := k5.1; simpa [World.setCell] using this, k5.2.1, k5.2.2.1, k5.2.2.2.1, k5.2.2.2.2.1, k5.2.2.2.2.2⟩
    have g5 := (heap_set_ne (w := W3.setCell ⟨q, 5, none⟩ (.slice (some ⟨gg, 0, none⟩) (O.length + 1) cap)) (i := 4) (v := .slice (some ⟨gt, 0, none⟩) st.length ct) hfg.2.1).trans k6
    obtain ⟨W4, hW4⟩ : ∃ W, W3.setCell ⟨q, 5, none⟩ (.slice (some ⟨gg, 0, none⟩) (O.length + 1) cap) = W := ⟨_, rfl⟩
    rw [hW4] at h4 h5 b5 k3 k4 f5 g5
    obtain ⟨e0, e1, e2, e3, e4, e5, ef, eq⟩ := k3.s.cells
    have ef4 := ef 4
    clear k5 k6 h4 r1 r2 r3 r4 k1 k2 c0 c1 c2 c3 c4 c5 cf cq cs ho1 hF hc1 ef
    by_cases hb : (((st.length : Nat) : Int) == 0) = true
    · obtain rfl : (3 : Int) = rs := by
        rw [← HT.out, tellN, if_pos]
        have : ((st.length : Nat) : Int) = 0 := by simpa using hb
        exact List.length_eq_zero_iff.1 (by omega)
      go_wp2
      go_ret
      exact ⟨_, _, rfl, h5, b5, f5, g5⟩
    · obtain rfl : (1 : Int) = rs := by
        rw [← HT.out, tellN, if_neg]
        rintro rfl
        exact hb rfl
      have hb' : (((st.length : Nat) : Int) == 0) = false := by cases k : (((st.length : Nat) : Int) == 0) <;> simp_all
      clear hb
      go_wp2
      go_ret
      exact ⟨_, _, rfl, h5, b5, f5, g5⟩
end Go.Proofs.Ytbliaamckldncaa
