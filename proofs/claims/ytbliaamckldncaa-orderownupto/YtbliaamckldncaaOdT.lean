/- Own text. The program's gathered and Parts: what the program's functions answer. -/
import Derived.Test.YtbliaamckldncaaOdR
import Derived.Test.YtbliaamckldncaaOdW
namespace Go.Proofs.Ytbliaamckldncaa
open Go.RowKit Gph
set_option linter.unusedVariables false
set_option linter.unusedSimpArgs false

theorem PPa.nil (w : World) (lo : Nat) : PPa w lo (.slice none 0 0) [] [] := ⟨World.ownsRow_nil _ _ _ _, fun j h => absurd h (Nat.not_lt_zero _), fun j u b h => by simp at h, fun i j u u' b _ h => by simp at h⟩
/-- a list more, with nothing in it. -/
theorem PPa.addNil {w w' : World} {lo gg cap H : Nat} {vo : Value} {P : List (List Nat)} {cs : List Value} (h : PPa w lo vo P cs) (hH : w.heap.size = H) (ho : w'.ownsRow lo 31 1 (.slice (some ⟨gg, 0, none⟩) (P.length + 1) cap) (P.length + 1) (cs ++ [.slice none 0 0])) (hg : w.grownBy w' vo.ownBlock) (ha : vo.ownBlock = some gg ∨ gg = H) :
    PPa w' lo (.slice (some ⟨gg, 0, none⟩) (P.length + 1) cap) (P ++ [[]]) (cs ++ [.slice none 0 0]) := by
  have hcl := h.cl
  have key : ∀ (j : Nat) u, (cs ++ [Value.slice none 0 0])[j]? = some u → cs[j]? = some u ∨ u = .slice none 0 0 := fun j u hu => by
    by_cases e : j < cs.length
    · rw [List.getElem?_append_left e] at hu; exact Or.inl hu
    · rw [List.getElem?_append_right (by omega)] at hu
      have := List.mem_of_getElem? hu
      exact Or.inr (List.mem_singleton.1 this)
  refine ⟨by simpa using ho, fun j hj => ?_, fun j u b hu hb => ?_, fun i j u u' b hij hu hu' hb => ?_⟩
  · by_cases e : j < P.length
    · obtain ⟨u, q1, q2⟩ := h.tl j e
      refine ⟨u, by rw [List.getElem?_append_left (by omega)]; exact q1, ?_⟩
      rw [List.getElem_append_left e]
      exact row_keep q2 fun b hb => hg.block b (World.ownsRow.lt q2 b hb).2 (fun k => h.no j u b q1 hb k.symm)
    · have e' : j = P.length := by simp at hj; omega
      subst e'
      refine ⟨.slice none 0 0, by rw [List.getElem?_append_right (by omega), hcl]; simp, ?_⟩
      rw [List.getElem_append_right (Nat.le_refl _)]
      simp only [Nat.sub_self, List.getElem_cons_zero]
      exact World.ownsRow_nil _ _ _ _
  · rcases key j u hu with k | k
    · intro e
      have e' : gg = b := by cases e; rfl
      subst e'
      rcases ha with ha | ha
      · exact h.no j u gg k hb ha
      · have hj : j < P.length := by rw [← hcl]; exact (List.getElem?_eq_some_iff.1 k).1
        obtain ⟨u', q1, q2⟩ := h.tl j hj
        rw [k] at q1
        cases q1
        have := (World.ownsRow.lt q2 gg hb).2
        omega
    · rw [k] at hb; cases hb
  · rcases key i u hu with k | k
    · rcases key j u' hu' with k' | k'
      · exact h.ap i j u u' b hij k k' hb
      · rw [k']; intro e; cases e
    · rw [k] at hb; cases hb
set_option maxRecDepth 100000 in
set_option maxHeartbeats 4000000 in
theorem gathered_any {w : World} {B gh n : Nat} {H : List Nat} (hn : n ≤ 1048576) (hh : Nl w B gh n H) (hl : ∀ x, x < n → lk H x < n) :
    Calls Try.prog 21 #[.slice (some ⟨gh, 0, none⟩) n n] w fun e w' => ∃ vo cs, e = .returned vo ∧ PPa w' w.heap.size vo (partsF (sameHd H) n) cs ∧ Below w.heap.size w w' := by
  obtain ⟨i0, hi, hz0, hz1, hz2⟩ := info_parts info_int
  obtain ⟨i1, hi1, hy0, hy1, hy2⟩ := info_parts info_is
  have hmk := fun W => make_zs n (by omega) W
  have hHl := hh.len
  have hgl := hh.lt.2
  have HC : Hid (∀ W, Below w.heap.size w W → ∀ x, x < n → W.cell? ⟨gh, x, none⟩ = some (.int .i64 (lk H x : Nat))) := fun W b x hx => (World.cell?_of_block (a := ⟨gh, x, none⟩) (b.block gh hgl)).trans (hh.at hx).1
  have N0 := Nl.made (w := w) (base := w.heap.size) (n := n) (Nat.le_refl _) (by omega)
  have b0 := (Below.refl w.heap.size w).alloc (Nat.le_refl _) (.cells (zs n) 3)
  have HN0 : Hid (Num H (List.replicate n 0) 0) := by have := Num.start H; rw [hHl] at this; exact this
  have HHl : Hid (H.length = n) := hHl
  have HLn : Hid (∀ x, x < n → lk H x < n) := hl
  clear hHl hh hl
  go_enter Try.func21, Try.ntmps21
  go_wp2
  obtain ⟨W0, hW0⟩ : ∃ W, w.alloc (.cells (zs n) 3) = W := ⟨_, rfl⟩
  rw [hW0] at N0 b0 ⊢
  clear hW0 hmk
  go_loopw [3, 5, 6, 7, 13] (fun pv _ _ _ kv wr => ∃ (k : Nat) (cs : List Value) (N : List Nat), kv = .int .i64 (k : Nat) ∧ k ≤ n ∧ Below w.heap.size w wr ∧ PPa wr (w.heap.size + 1) pv (partsF (sameHd H) k) cs ∧ Nl wr w.heap.size w.heap.size n N ∧ Hid (Num H N k)) (fun _ _ _ _ kv _ => n - (intOf kv).toNat)
  case atStart => exact ⟨0, [], _, rfl, by omega, b0, PPa.nil _ _, N0, HN0⟩
  case round =>
    clear N0 b0 HN0
    obtain ⟨k, cs, N, rfl, hkn, bel, hP, hN, HN⟩ := hrel
    by_cases hlt : k < n
    · have hc := HC.out _ bel k hlt
      have hln := HLn.out k hlt
      obtain ⟨n1, n2⟩ := hN.at hln
      have hsz := bel.size
      have hgn := hN.lt.2
      have hcl := hP.cl
      obtain ⟨hPl, hPm⟩ := partsF_len (sameHd H) k
      have hwP : ∀ b, u3.ownBlock = some b → w.heap.size + 1 ≤ b := fun b hb => (World.ownsRow.lt hP.row b hb).1
      obtain ⟨At, cap0, hu3⟩ := row_form hP.row
      by_cases h0 : lk N (lk H k) = 0
      · obtain ⟨e1, w1, w2⟩ := HN.out.first (by rw [HHl.out]; exact hlt) (by rw [HHl.out]; exact hln) h0
        have hHP : (hds H k).length = (partsF (sameHd H) k).length := by rw [partsF_eq, List.length_map]
        rw [hHP] at w1
        have HN' : Hid (Num H (N.set (lk H k) ((partsF (sameHd H) k).length + 1)) (k + 1)) := w1
        have HE : Hid (partsF (sameHd H) (k + 1) = partsF (sameHd H) k ++ [[k]]) := e1
        rw [h0] at n1
        clear h0 e1 w1 w2 HN hHP hPm
        generalize lk H k = h at *
        generalize partsF (sameHd H) k = P at *
        have ca0 : ((0 : Nat) : Int) = 0 := rfl
        rw [ca0] at n1
        have F1 : Hid (∀ (W3 : World) (gg cap : Nat), W3.ownsRow (w.heap.size + 1) 31 1 (.slice (some ⟨gg, 0, none⟩) (P.length + 1) cap) (P.length + 1) (cs ++ [.slice none 0 0]) → (wr.alloc (.cells #[.slice none 0 0] 31)).grownBy W3 u3.ownBlock → (u3.ownBlock = some gg ∨ gg = wr.heap.size + 1) → gg < W3.heap.size →
            ∃ W4, W3.setCell ⟨w.heap.size, h, none⟩ (.int .i64 ((P.length : Int) + 1)) = W4 ∧ PPa W4 (w.heap.size + 1) (.slice (some ⟨gg, 0, none⟩) (P.length + 1) cap) (P ++ [[]]) (cs ++ [.slice none 0 0]) ∧ Nl W4 w.heap.size w.heap.size n (N.set h (P.length + 1)) ∧ Below w.heap.size w W4 ∧ (∃ v, W3.cell? ⟨w.heap.size, h, none⟩ = some v) ∧ W3.frozen? ⟨w.heap.size, h, none⟩ = false ∧ W4.cell? ⟨w.heap.size, h, none⟩ = some (.int .i64 ((P.length : Int) + 1)) ∧ W4.cell? ⟨gg, P.length, none⟩ = some (.slice none 0 0) ∧ W4.frozen? ⟨gg, P.length, none⟩ = false ∧ w.heap.size + 1 ≤ gg ∧ gg < W4.heap.size) := fun W3 gg cap r1 r2 r3 r4 => by
          have ha : PPa (wr.alloc (.cells #[.slice none 0 0] 31)) (w.heap.size + 1) u3 P cs := hP.keep fun b _ hb => Below.heap_alloc wr _ b hb
          have hp3 := ha.addNil (by simp) r1 r2 r3
          have hn3 : Nl W3 w.heap.size w.heap.size n N := row_keep hN fun b hb => (r2.block b (by cases hb; show w.heap.size < (wr.alloc _).heap.size; simp; omega) (fun e => by cases hb; have := hwP _ e.symm; exact absurd this (by show ¬ w.heap.size + 1 ≤ w.heap.size; omega))).trans (Below.heap_alloc wr _ b (by cases hb; exact hgn))
          have hp4 : PPa (W3.setCell ⟨w.heap.size, h, none⟩ (.int .i64 ((P.length : Int) + 1))) (w.heap.size + 1) (.slice (some ⟨gg, 0, none⟩) (P.length + 1) cap) (P ++ [[]]) (cs ++ [.slice none 0 0]) := hp3.keep fun b hb _ => heap_set_ne (by omega)
          have hn4 := (hn3.put h (P.length + 1)).1
          have ec : ((P.length + 1 : Nat) : Int) = (P.length : Int) + 1 := rfl
          rw [ec] at hn4
          have b3 : Below w.heap.size w W3 := (bel.alloc hsz _).grown r2 (by simp; omega) (fun j hj => by have := hwP j hj; omega)
          have hx : (cs ++ [Value.slice none 0 0])[P.length]? = some (.slice none 0 0) := by rw [← hcl]; simp
          have hgg := (World.ownsRow.lt r1 gg rfl).1
          obtain ⟨n3, n4⟩ := hn3.at hln
          obtain ⟨n5, n6⟩ := hn4.at hln
          have el : lk (N.set h (P.length + 1)) h = P.length + 1 := by rw [lk_set (by rw [hn3.len]; exact hln), if_pos rfl]
          rw [el, ec] at n5
          obtain ⟨u, q1, q2, q3, q4⟩ := hp4.at (j := P.length) (by simp)
          rw [hx] at q1
          cases q1
          exact ⟨_, rfl, hp4, hn4, b3.setCell (Nat.le_refl _) _, ⟨_, n3⟩, n4, n5, q2, q3, hgg, by simpa [World.setCell] using r4⟩
        have F2 : Hid (∀ (W4 W5 : World) (gg cap g5 c5 : Nat), PPa W4 (w.heap.size + 1) (.slice (some ⟨gg, 0, none⟩) (P.length + 1) cap) (P ++ [[]]) (cs ++ [.slice none 0 0]) → Nl W4 w.heap.size w.heap.size n (N.set h (P.length + 1)) → Below w.heap.size w W4 → w.heap.size + 1 ≤ gg → gg < W4.heap.size →
            W5.ownsRow (w.heap.size + 1) 3 1 (.slice (some ⟨g5, 0, none⟩) 1 c5) 1 [.int .i64 (k : Nat)] → (W4.alloc (.cells #[.int .i64 (k : Nat)] 3)).grownBy W5 none → g5 = W4.heap.size + 1 → g5 < W5.heap.size →
            (∃ v, W5.cell? ⟨gg, P.length, none⟩ = some v) ∧ W5.frozen? ⟨gg, P.length, none⟩ = false ∧ PPa (W5.setCell ⟨gg, P.length, none⟩ (.slice (some ⟨g5, 0, none⟩) 1 c5)) (w.heap.size + 1) (.slice (some ⟨gg, 0, none⟩) (P.length + 1) cap) (P ++ [[k]]) ((cs ++ [Value.slice none 0 0]).set P.length (Value.slice (some ⟨g5, 0, none⟩) 1 c5)) ∧ Nl (W5.setCell ⟨gg, P.length, none⟩ (.slice (some ⟨g5, 0, none⟩) 1 c5)) w.heap.size w.heap.size n (N.set h (P.length + 1)) ∧ Below w.heap.size w (W5.setCell ⟨gg, P.length, none⟩ (.slice (some ⟨g5, 0, none⟩) 1 c5))) := fun W4 W5 gg cap g5 c5 hp4 hn4 b4 hg4 hg5 r1 r2 r3 r4 => by
          have ha : PPa (W4.alloc (.cells #[.int .i64 (k : Nat)] 3)) (w.heap.size + 1) (.slice (some ⟨gg, 0, none⟩) (P.length + 1) cap) (P ++ [[]]) (cs ++ [.slice none 0 0]) := hp4.keep fun b _ hb => Below.heap_alloc W4 _ b hb
          have hx : (cs ++ [Value.slice none 0 0])[P.length]? = some (.slice none 0 0) := by rw [← hcl]; simp
          have hrow := ha.row
          have hlen : (P ++ [[]]).length = P.length + 1 := by simp
          rw [hlen] at hrow
          have hrow' := World.ownsRow.kept hrow r2 (Or.inr (by simp [Value.ownBlock]))
          have hpl : P.length < (P ++ [[]]).length := by simp
          have hel : (P ++ [[]])[P.length]'hpl = [] := by simp
          have hput := ha.put (x := k) (cc := c5) (gg := g5) (w' := W5) (H := W4.heap.size + 1) hpl hx (by simp) (by rw [hel]; exact r1) r2 (Or.inr r3) r4
          rw [hel] at hput
          have e2 : (P ++ [[]]).set P.length ([] ++ [k]) = P ++ [[k]] := by rw [List.set_append_right _ _ (Nat.le_refl _)]; simp
          rw [e2] at hput
          have b4s := b4.size
          refine ⟨⟨_, by rw [World.ownsRow.cellAt hrow' P.length (by omega)]; exact hx⟩, World.ownsRow.frozenAt hrow' _, hput, ?_, ?_⟩
          · refine row_keep (row_keep hn4 fun b hb => (r2.block b (by cases hb; show w.heap.size < (W4.alloc _).heap.size; simp; omega) (by simp)).trans (Below.heap_alloc W4 _ b (by cases hb; exact hn4.lt.2))) fun b hb => heap_set_ne (by cases hb; show w.heap.size ≠ gg; omega)
          · exact ((b4.alloc b4s _).grown r2 (by simp; omega) (fun j hj => by cases hj)).setCell (by show w.heap.size ≤ gg; omega) _
        have ho0 := World.ownsRow.alloc hP.row (.cells #[.slice none 0 0] 31)
        have hPe : ((P.length : Nat) : Int) + 1 - 1 = (P.length : Int) := by omega
        have hPl1 : ((P.length : Nat) : Int) < ((P.length : Nat) : Int) + 1 := by omega
        clear hwP
        subst hu3
        go_wp2_with (first
          | (at_builtin; refine wpList_append_lies _ rfl _ _ 22 rfl (w.heap.size + 1) 31 i1 (.slice none 0 0) 1 24 Try.underlying22 hi1 hy0 hy1 hy2 rfl (by decide) _ P.length cs rfl ho0 ⟨_, 0, none⟩ 1 1 [.slice none 0 0] rfl rfl (cell_one_new _ _ _) (fun x hx => by simp at hx; subst hx; rfl) (by omega) (by unfold maxLen; omega) (by omega) (by simp; omega) (wr.heap.size + 1) (by simp) ?_; intro gg cap W3 r1 r2 r3 r4; obtain ⟨W4, hW4, p4, m4, b4, ⟨u4, k1⟩, k2, k3, k4, k5, k6, k7⟩ := F1.out W3 gg cap r1 r2 r3 r4; clear r1 r2 r3 r4)
          | (at_builtin; refine wpList_append_lies _ rfl _ _ 31 rfl (w.heap.size + 1) 3 i0 (.int .i64 0) 1 8 Try.underlying31 hi hz0 hz1 hz2 rfl (by decide) _ 0 [] rfl (World.ownsRow_nil _ _ _ _) ⟨_, 0, none⟩ 1 1 [.int .i64 (k : Nat)] rfl rfl (cell_one_new _ _ _) (fun x hx => by simp at hx; subst hx; rfl) (by omega) (by unfold maxLen; omega) (by omega) (by simp; omega) (W4.heap.size + 1) (by simp) ?_; intro g5 c5 W5 r1 r2 r3 r4; obtain ⟨⟨u5', k8⟩, k9, p5, m5, b5⟩ := F2.out W4 W5 gg cap g5 c5 p4 m4 b4 k6 k7 r1 r2 (r3.resolve_left (fun z => by cases z)) r4))
        clear F1 F2
        go_roundw
        case rel => exact ⟨k + 1, _, _, by simp, by omega, b5, by rw [HE.out]; exact p5, m5, HN'⟩
        case measure => simp [intOf]; omega
      · obtain ⟨j, hj⟩ : ∃ j, lk N (lk H k) = j + 1 := ⟨lk N (lk H k) - 1, by omega⟩
        obtain ⟨hjp, e1, w1⟩ := HN.out.more (by rw [HHl.out]; exact hlt) (by rw [HHl.out]; exact hln) hj
        have HN' : Hid (Num H N (k + 1)) := w1
        have HE : Hid (partsF (sameHd H) (k + 1) = (partsF (sameHd H) k).set j ((partsF (sameHd H) k)[j] ++ [k])) := e1
        rw [hj] at n1
        have hPj := hPm _ (List.getElem_mem hjp)
        clear h0 e1 w1 hj HN hu3
        generalize lk H k = h at *
        generalize partsF (sameHd H) k = P at *
        obtain ⟨g, cap, rfl, hg1, hg2⟩ := row_some hP.row (by omega)
        obtain ⟨u, q1, q2, q3, q4⟩ := hP.at hjp
        have ec : ((j + 1 : Nat) : Int) = (j : Int) + 1 := rfl
        rw [ec] at n1
        have hje : ((j : Nat) : Int) + 1 - 1 = (j : Int) := by omega
        have hjl : ((j : Nat) : Int) < ((P.length : Nat) : Int) := by omega
        have hj0 : ¬ ((j : Nat) : Int) + 1 = 0 := by omega
        have fin : ∀ (W3 : World) (gg cc : Nat), W3.ownsRow (w.heap.size + 1) 3 1 (.slice (some ⟨gg, 0, none⟩) (P[j].length + 1) cc) (P[j].length + 1) (ints (nI P[j]) ++ [.int .i64 (k : Nat)]) → (wr.alloc (.cells #[.int .i64 (k : Nat)] 3)).grownBy W3 u.ownBlock → (u.ownBlock = some gg ∨ gg = wr.heap.size + 1) → gg < W3.heap.size →
            (∃ v, W3.cell? ⟨g, j, none⟩ = some v) ∧ W3.frozen? ⟨g, j, none⟩ = false ∧ PPa (W3.setCell ⟨g, j, none⟩ (.slice (some ⟨gg, 0, none⟩) (P[j].length + 1) cc)) (w.heap.size + 1) (.slice (some ⟨g, 0, none⟩) P.length cap) (P.set j (P[j] ++ [k])) (cs.set j (.slice (some ⟨gg, 0, none⟩) (P[j].length + 1) cc)) ∧ Nl (W3.setCell ⟨g, j, none⟩ (.slice (some ⟨gg, 0, none⟩) (P[j].length + 1) cc)) w.heap.size w.heap.size n N ∧ Below w.heap.size w (W3.setCell ⟨g, j, none⟩ (.slice (some ⟨gg, 0, none⟩) (P[j].length + 1) cc)) := fun W3 gg cc r1 r2 r3 r4 => by
          have ha : PPa (wr.alloc (.cells #[.int .i64 (k : Nat)] 3)) (w.heap.size + 1) (.slice (some ⟨g, 0, none⟩) P.length cap) P cs := hP.keep fun b _ hb => Below.heap_alloc wr _ b hb
          have hne : some g ≠ u.ownBlock := fun e => hP.no j u _ q1 e.symm rfl
          have hrow' := World.ownsRow.kept ha.row r2 (Or.inr hne)
          refine ⟨⟨u, ?_⟩, World.ownsRow.frozenAt hrow' j, ha.put hjp q1 (by simp) r1 r2 r3 r4, ?_, ?_⟩
          · rw [World.ownsRow.cellAt hrow' j (by omega)]; exact q1
          · refine row_keep (row_keep hN fun b hb => (r2.block b (by cases hb; show w.heap.size < (wr.alloc _).heap.size; simp; omega) (fun e => ?_)).trans (Below.heap_alloc wr _ b (by cases hb; exact hgn))) fun b hb => heap_set_ne (by cases hb; show w.heap.size ≠ g; omega)
            have := (World.ownsRow.lt q4 b e.symm).1
            cases hb
            exact absurd this (by show ¬ w.heap.size + 1 ≤ w.heap.size; omega)
          · exact ((bel.alloc hsz _).grown r2 (by simp; omega) (fun j hj => by have := (World.ownsRow.lt q4 j hj).1; omega)).setCell (by show w.heap.size ≤ g; omega) _
        have hFi : Hid _ := fin
        have ho1 := World.ownsRow.alloc q4 (.cells #[.int .i64 (k : Nat)] 3)
        have ca : ∀ o, (wr.alloc o).cell? ⟨g, j, none⟩ = some u := fun o => (World.cell?_of_block (a := ⟨g, j, none⟩) (Below.heap_alloc wr o _ (World.ownsRow.lt hP.row _ rfl).2)).trans q2
        clear fin ec hPm hwP
        go_wp2_with (at_builtin; refine wpList_append_lies _ rfl _ _ 31 rfl (w.heap.size + 1) 3 i0 (.int .i64 0) 1 8 Try.underlying31 hi hz0 hz1 hz2 rfl (by decide) _ P[j].length (ints (nI P[j])) rfl ho1 ⟨_, 0, none⟩ 1 1 [.int .i64 (k : Nat)] rfl rfl (cell_one_new _ _ _) (fun x hx => by simp at hx; subst hx; rfl) (by omega) (by unfold maxLen; omega) (by omega) (by simp; omega) (wr.heap.size + 1) (by simp) ?_; intro gg cc W3 r1 r2 r3 r4; obtain ⟨⟨u4, k1⟩, k2, k3, k4, k5⟩ := hFi.out W3 gg cc r1 r2 r3 r4)
        clear q1 q2 q3 q4 ho1 ca hFi r1 r2 r3 r4
        go_roundw
        case rel => exact ⟨k + 1, _, N, by simp, by omega, k5, by rw [HE.out]; exact k3, k4, HN'⟩
        case measure => simp [intOf]; omega
    · obtain rfl : k = n := by omega
      have hP' := hP.base (lo' := w.heap.size) (by omega)
      obtain ⟨At, cap0, rfl⟩ := row_form hP.row
      go_wp2
      go_ret
      exact ⟨_, cs, rfl, hP', bel⟩
end Go.Proofs.Ytbliaamckldncaa
