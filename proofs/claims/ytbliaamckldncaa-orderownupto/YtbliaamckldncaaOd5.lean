/- Own text. Lists of lists that are being made; the document's Parts. -/
import Derived.Test.YtbliaamckldncaaOd4
namespace Go.Proofs.Ytbliaamckldncaa
open Go.RowKit Gph
set_option linter.unusedVariables false

theorem row_keep {w w' : World} {base : Nat} {e : TypeId} {size : Nat} {v : Value} {n : Nat} {xs : List Value} (h : w.ownsRow base e size v n xs) (k : ∀ b, v.ownBlock = some b → w'.heap[b]? = w.heap[b]?) : w'.ownsRow base e size v n xs := by
  refine ⟨h.1, ?_⟩
  rcases h.2 with hn | ⟨g, cap, cur, rfl, hb, hg, rest⟩
  · exact .inl hn
  · exact .inr ⟨g, cap, cur, rfl, hb, (k g rfl).trans hg, rest⟩
theorem vat_row {w : World} {base : Nat} {e : TypeId} {v : Value} {n : Nat} {xs : List Value} (h : w.ownsRow base e 1 v n xs) : VAt w w.heap.size v xs := by
  have hl : xs.length = n := by have := h.1; omega
  rcases h.2 with ⟨rfl, rfl⟩ | ⟨g, cap, cur, rfl, hb, hg, rest⟩
  · exact ⟨⟨_, _, by rw [hl]⟩, fun h0 => by omega⟩
  · refine ⟨⟨_, _, by rw [hl]⟩, fun h0 => ⟨g, 0, cap, by rw [hl], (Array.getElem?_eq_some_iff.1 hg).1, fun i hi => ?_⟩⟩
    rw [Nat.zero_add, World.ownsRow.cellAt h i (by omega), List.getElem?_eq_getElem hi]
/-- lists of numbers, each in a row of its own, between two blocks. -/
structure PPt (w : World) (lo hi : Nat) (vo : Value) (P : List (List Nat)) : Prop where
  row : ∃ cs, w.ownsRow lo 31 1 vo P.length cs ∧ ∀ j (h : j < P.length), ∃ u, cs[j]? = some u ∧ Tl w lo u P[j] ∧ ∀ b, u.ownBlock = some b → b < hi ∧ vo.ownBlock ≠ some b
  lt : ∀ b, vo.ownBlock = some b → b < hi
theorem PPt.nil (w : World) (lo hi : Nat) : PPt w lo hi (.slice none 0 0) [] := ⟨⟨[], World.ownsRow_nil _ _ _ _, fun j h => absurd h (Nat.not_lt_zero _)⟩, fun b h => by cases h⟩
theorem PPt.keep {w w' : World} {lo hi : Nat} {vo : Value} {P : List (List Nat)} (h : PPt w lo hi vo P) (k : ∀ b, lo ≤ b → b < hi → w'.heap[b]? = w.heap[b]?) : PPt w' lo hi vo P := by
  obtain ⟨cs, h1, h2⟩ := h.row
  refine ⟨⟨cs, row_keep h1 fun b hb => k b (World.ownsRow.lt h1 b hb).1 (h.lt b hb), fun j hj => ?_⟩, h.lt⟩
  obtain ⟨u, q1, q2, q3⟩ := h2 j hj
  exact ⟨u, q1, row_keep q2 fun b hb => k b (World.ownsRow.lt q2 b hb).1 (q3 b hb).1, q3⟩
theorem PPt.mono {w : World} {lo hi hi' : Nat} {vo : Value} {P : List (List Nat)} (h : PPt w lo hi vo P) (k : hi ≤ hi') : PPt w lo hi' vo P := by
  obtain ⟨cs, h1, h2⟩ := h.row
  refine ⟨⟨cs, h1, fun j hj => ?_⟩, fun b hb => Nat.lt_of_lt_of_le (h.lt b hb) k⟩
  obtain ⟨u, q1, q2, q3⟩ := h2 j hj
  exact ⟨u, q1, q2, fun b hb => ⟨Nat.lt_of_lt_of_le (q3 b hb).1 k, (q3 b hb).2⟩⟩
/-- one more. -/
theorem PPt.add {w w' : World} {lo hi gg cap H : Nat} {vo vp : Value} {P : List (List Nat)} {p : List Nat} {cs : List Value} (h1 : w.ownsRow lo 31 1 vo P.length cs) (h2 : ∀ j (h : j < P.length), ∃ u, cs[j]? = some u ∧ Tl w lo u P[j] ∧ ∀ b, u.ownBlock = some b → b < hi ∧ vo.ownBlock ≠ some b) (hlt : ∀ b, vo.ownBlock = some b → b < hi)
    (hp : Tl w hi vp p) (hlo : lo ≤ hi) (hH : w.heap.size = H) (hhi : hi ≤ H) (ho : w'.ownsRow lo 31 1 (.slice (some ⟨gg, 0, none⟩) (P.length + 1) cap) (P.length + 1) (cs ++ [vp])) (hg : w.grownBy w' vo.ownBlock) (ha : vo.ownBlock = some gg ∨ gg = H) (hl : gg < w'.heap.size) :
    PPt w' lo w'.heap.size (.slice (some ⟨gg, 0, none⟩) (P.length + 1) cap) (P ++ [p]) := by
  have hcs : cs.length = P.length := by have := h1.1; omega
  have hsz := hg.size
  refine ⟨⟨cs ++ [vp], by simpa using ho, fun j hj => ?_⟩, fun b hb => by cases hb; exact hl⟩
  by_cases e : j < P.length
  · obtain ⟨u, q1, q2, q3⟩ := h2 j e
    refine ⟨u, by rw [List.getElem?_append_left (by omega)]; exact q1, ?_, fun b hb => ?_⟩
    · rw [List.getElem_append_left e]
      exact row_keep q2 fun b hb => hg.block b (World.ownsRow.lt q2 b hb).2 (fun k => (q3 b hb).2 k.symm)
    · have hb2 := (World.ownsRow.lt q2 b hb).2
      refine ⟨by omega, fun k => ?_⟩
      have k' : gg = b := by cases k; rfl
      rcases ha with ha | ha
      · exact (q3 b hb).2 (k' ▸ ha)
      · have := (q3 b hb).1; omega
  · have e' : j = P.length := by simp at hj; omega
    subst e'
    refine ⟨vp, by rw [List.getElem?_append_right (by omega), hcs]; simp, ?_, fun b hb => ?_⟩
    · rw [List.getElem_append_right (Nat.le_refl _)]
      simp only [Nat.sub_self, List.getElem_cons_zero]
      exact row_base (row_keep hp fun b hb => hg.block b (World.ownsRow.lt hp b hb).2 (fun k => by have := hlt b k.symm; have := (World.ownsRow.lt hp b hb).1; omega)) hlo
    · have hb2 := World.ownsRow.lt hp b hb
      refine ⟨by omega, fun k => ?_⟩
      have k' : gg = b := by cases k; rfl
      rcases ha with ha | ha
      · have := hlt gg ha; omega
      · omega
theorem PPt.eat {w : World} {lo hi : Nat} {vo : Value} {P : List (List Nat)} (h : PPt w lo hi vo P) : EAt w w.heap.size vo (toI P) := by
  obtain ⟨cs, h1, h2⟩ := h.row
  have hcs : cs.length = P.length := by have := h1.1; omega
  refine ⟨cs, by rw [toI_len]; exact hcs, vat_row h1, fun i hi hi' => ?_⟩
  rw [toI_len] at hi
  obtain ⟨u, q1, q2, _⟩ := h2 i hi
  rw [List.getElem?_eq_getElem hi'] at q1
  injection q1 with q1
  rw [q1]
  have e : (toI P)[i]'(by rw [toI_len]; exact hi) = nI P[i] := by simp [toI]
  rw [e]
  exact vat_row q2
/-- the parts of edges. -/
structure PartsOf (E : List (List Int)) (P : List (List Nat)) : Prop where
  yes : chk E = true → ∃ m, Tells (nE E) m ∧ P = partsF m E.length
  no : ¬ chk E = true → P = []
theorem PartsOf.unique {E : List (List Int)} {P P' : List (List Nat)} (h : PartsOf E P) (h' : PartsOf E P') : P = P' := by
  by_cases hc : chk E = true
  · obtain ⟨m, h1, rfl⟩ := h.yes hc
    obtain ⟨m', h1', rfl⟩ := h'.yes hc
    have := partsF_congr h1 h1'
    rwa [nE_len] at this
  · rw [h.no hc, h'.no hc]
set_option maxRecDepth 100000 in
set_option maxHeartbeats 16000000 in
theorem rparts_any {w : World} {B : Nat} {v : Value} {E : List (List Int)} (h : EAt w B v E) (hB : B ≤ w.heap.size) (hl : E.length ≤ 4194304) (hk : ∀ l ∈ E, l.length ≤ 4194304) :
    Calls Try.prog 13 #[v] w fun e w' => ∃ vo P, e = .returned vo ∧ EAt w' w'.heap.size vo (toI P) ∧ PartsOf E P ∧ Below w.heap.size w w' := by
  have C := rcheck_any h hB hl hk
  obtain ⟨ad, c, rfl⟩ := h.op
  by_cases hc : chk E = true
  · have ec : chkN E = 0 := by unfold chkN; rw [if_pos hc]
    rw [ec] at C
    clear ec
    obtain ⟨hG, hok⟩ := graph_of hc
    have HP : Hid (∀ P, (∃ m, Tells (nE E) m ∧ P = partsF m E.length) → PartsOf E P) := fun P k => ⟨fun _ => k, fun q => absurd hc q⟩
    have hkk := ed_len hk
    rw [hG] at h
    obtain ⟨G, hGE⟩ : ∃ G, nE E = G := ⟨_, rfl⟩
    have hGl : E.length = G.length := by rw [← hGE, nE_len]
    rw [hGl] at hl C HP ⊢
    rw [hGE] at h hok hkk HP
    rw [toI_len] at h
    clear hG hGE hGl hk
    obtain ⟨i0, hi, hz0, hz1, hz2⟩ := info_parts info_int
    obtain ⟨i1, hi1, hy0, hy1, hy2⟩ := info_parts info_is
    have hmk := fun W => make_bs G.length hl W
    have hmk2 := fun W => make_bool G.length hl W
    go_enter Try.func13, Try.ntmps13
    go_wp2_with (go_at_call 10; refine C.mono ?_; rintro e W1 ⟨rfl, b1⟩)
    have b2 := b1.alloc b1.size (.cells (nils G.length) 51)
    have hA0 : AllT (W1.alloc (.cells (nils G.length) 51)) G w.heap.size W1.heap.size 0 (fun _ => []) (fun _ => 0) := ⟨⟨_, nils_row b1.size hl, fun j hj => absurd hj (Nat.not_lt_zero _)⟩, fun j hj => absurd hj (Nat.not_lt_zero _), fun j hj => absurd hj (Nat.not_lt_zero _)⟩
    obtain ⟨W2, hW2⟩ : ∃ W, (W1.alloc (.cells (nils G.length) 51)) = W := ⟨_, rfl⟩
    rw [hW2] at b2 hA0 ⊢
    have hga : w.heap.size ≤ W1.heap.size := b1.size
    generalize W1.heap.size = ga at *
    clear hW2 C
    go_loopw [4] (fun iv wr => ∃ (k : Nat) (A : Nat → List Bool) (gs : Nat → Nat), iv = .int .i64 (k : Nat) ∧ k ≤ G.length ∧ Below w.heap.size w wr ∧ AllT wr G w.heap.size ga k A gs) (fun iv _ => G.length - (intOf iv).toNat)
    case atStart => exact ⟨0, _, _, rfl, by omega, b2, hA0⟩
    case round =>
      clear b1 b2 hA0
      obtain ⟨k, A, gs, rfl, hkn, bel, hA⟩ := hrel
      by_cases hlt : k < G.length
      · have CR := fun (W : World) (b : Below w.heap.size w W) => rreach_any hok hl hkk ((h.mono hB).bel b) b.size hlt
        have HC : Hid _ := CR
        clear CR
        go_wp2_with fail
        go_at_call 23
        refine (HC.out _ bel).mono ?_
        rintro e W3 ⟨g, S, rfl, hF, hS, b3⟩
        have hgl := hA.lt
        have hA3 := hA.bel b3
        have hA4 := hA3.next hlt (row_base hF (by omega)) hS
        obtain ⟨cs, r1, _⟩ := hA3.row
        obtain ⟨u0, r2⟩ : ∃ u, W3.cell? ⟨ga, k, none⟩ = some u := ⟨_, (World.ownsRow.cellAt r1 k (by omega)).trans (List.getElem?_eq_getElem (by have := r1.1; omega))⟩
        have r3 := World.ownsRow.frozenAt r1 k
        have b4 : Below w.heap.size w (W3.setCell ⟨ga, k, none⟩ (.slice (some ⟨g, 0, none⟩) G.length G.length)) := (bel.trans (b3.mono bel.size)).setCell (by show w.heap.size ≤ ga; omega) _
        clear hA hA3 HC r1 hF b3
        go_wp2
        go_roundw
        case rel => exact ⟨k + 1, _, _, by simp, by omega, b4, hA4⟩
        case measure => simp [intOf]; omega
      · obtain rfl : k = G.length := by omega
        have hgl := hA.lt
        have hTe := hA.tells
        have hsM := bel.size
        obtain ⟨m, hm⟩ : ∃ m, m = (fun x y => isOn (A x) y && isOn (A y) x) := ⟨_, rfl⟩
        have HM : Hid (∀ x y, m x y = (isOn (A x) y && isOn (A y) x)) := fun x y => by rw [hm]
        have HT : Hid (Tells G m) := by rw [hm]; exact hTe
        have HA : Hid (∀ W, Below wr.heap.size wr W → ∀ x y, x < G.length → y < G.length → W.cell? ⟨ga, x, none⟩ = some (.slice (some ⟨gs x, 0, none⟩) G.length G.length) ∧ W.cell? ⟨gs x, y, none⟩ = some (.bool (isOn (A x) y))) := fun W b x y hx hy => (hA.bel b).at hx hy
        have HB : Hid (Below w.heap.size w wr) := bel
        clear hA hTe hm bel hlt hkn
        go_wp2
        obtain ⟨W0, hW0⟩ : ∃ W, (wr.alloc (.cells (flg G.length) 4)) = W := ⟨_, rfl⟩
        have b0 : Below wr.heap.size wr W0 := by rw [← hW0]; exact (Below.refl _ _).alloc (Nat.le_refl _) _
        have hF0 : Fl W0 wr.heap.size wr.heap.size G.length (List.replicate G.length false) := by rw [← hW0]; exact Fl.made (Nat.le_refl _) hl
        rw [hW0]
        clear hW0 hmk hmk2
        obtain ⟨wM, hwM⟩ : ∃ W, wr = W := ⟨_, rfl⟩
        obtain ⟨M, hM⟩ : ∃ M, wr.heap.size = M := ⟨_, rfl⟩
        rw [hM] at b0 hF0 HA ⊢
        rw [hM] at hgl hsM
        rw [hwM] at b0 HA HB
        clear hwM hM
        go_loopw [6, 7] (fun ov iv wx => ∃ (i : Nat) (T : List Bool) (P : List (List Nat)), iv = .int .i64 (i : Nat) ∧ i ≤ G.length ∧ Below M wM wx ∧ Fl wx M M G.length T ∧ PPt wx (M + 1) wx.heap.size ov P ∧ P.length ≤ i ∧ Hid (P = ((List.range i).filter (hd m)).map (part m G.length)) ∧ Hid (∀ y, i ≤ y → y < G.length → (isOn T y = true ↔ ∃ j, j < i ∧ hd m j = true ∧ m j y = true))) (fun _ iv _ => G.length - (intOf iv).toNat)
        case atStart => exact ⟨0, _, [], rfl, by omega, b0, hF0, PPt.nil _ _ _, Nat.le_refl _, by simp [Hid], fun y _ _ => ⟨fun k => absurd (isOn_iff.1 k) (not_on_rep _ _), fun ⟨j, hj, _⟩ => absurd hj (Nat.not_lt_zero _)⟩⟩
        case round =>
          clear b0 hF0
          obtain ⟨i, T, P, rfl, hin, bel, hF, hP, hPl, hPe, hTo⟩ := hrel
          by_cases hit : i < G.length
          · obtain ⟨t1, t2⟩ := hF.at hit
            have HQ : Hid (isOn T i = true ↔ hd m i = false) := (hTo.out i (Nat.le_refl _) hit).trans (told_iff HT.out hit)
            cases q : isOn T i with
            | true =>
              rw [q] at t1
              have HP1 : Hid (P = ((List.range (i + 1)).filter (hd m)).map (part m G.length)) := by show _ = _; rw [filter_range_succ, if_neg (by rw [HQ.out.1 q]; decide), List.append_nil]; exact hPe.out
              have HT1 : Hid (∀ y, i + 1 ≤ y → y < G.length → (isOn T y = true ↔ ∃ j, j < i + 1 ∧ hd m j = true ∧ m j y = true)) := fun y h1 h2 => by
                rw [hTo.out y (by omega) h2]
                constructor
                · rintro ⟨j, h3, h4⟩; exact ⟨j, by omega, h4⟩
                · rintro ⟨j, h3, h4, h5⟩
                  rcases Nat.lt_or_eq_of_le (Nat.lt_succ_iff.1 h3) with h6 | rfl
                  · exact ⟨j, h6, h4, h5⟩
                  · rw [HQ.out.1 q] at h4; cases h4
              clear q HQ hTo hPe
              go_wp2
              go_roundw
              case rel => exact ⟨i + 1, T, P, by simp, by omega, bel, hF, hP, by omega, HP1, HT1⟩
              case measure => simp [intOf]; omega
            | false =>
              rw [q] at t1
              have HH : Hid (hd m i = true) := by
                show _ = _
                cases e : hd m i with
                | true => rfl
                | false => rw [HQ.out.2 e] at q; cases q
              have hsx := bel.size
              obtain ⟨_, hMx⟩ := hF.lt
              have hP0 := hP
              clear q HQ
              go_wp2
              obtain ⟨hi_, hhi⟩ : ∃ x, wr.heap.size = x := ⟨_, rfl⟩
              have hhl : hi_ ≤ wr.heap.size := by omega
              rw [hhi] at hP hsx hMx
              clear hP0 hhi t1 t2
              go_loopw [8, 9] (fun pv kv wy => ∃ (k : Nat) (T' : List Bool) (pt : List Nat), kv = .int .i64 (k : Nat) ∧ i ≤ k ∧ k ≤ G.length ∧ hi_ ≤ wy.heap.size ∧ Below M wM wy ∧ Fl wy M M G.length T' ∧ PPt wy (M + 1) hi_ u6 P ∧ Tl wy hi_ pv pt ∧ pt.length ≤ k ∧ Hid (pt = (List.range k).filter fun y => decide (i ≤ y) && m i y) ∧ Hid (∀ y, i < y → y < G.length → (isOn T' y = true ↔ (∃ j, j < i ∧ hd m j = true ∧ m j y = true) ∨ (y < k ∧ m i y = true)))) (fun _ kv _ => G.length - (intOf kv).toNat)
              case atStart => exact ⟨i, T, [], rfl, Nat.le_refl _, by omega, by omega, bel, hF, hP, World.ownsRow_nil _ _ _ _, Nat.zero_le _, by show _ = _; symm; rw [List.filter_eq_nil_iff]; intro y hy; have := List.mem_range.1 hy; simp; omega, fun y h1 h2 => by rw [hTo.out y (by omega) h2]; exact ⟨Or.inl, fun h => h.elim id (fun h => by omega)⟩⟩
              case round =>
                clear bel hF hP
                obtain ⟨k, T', pt, rfl, hik, hkn, hsz, bel, hF, hP, hTp, hpl, hpe, hTq⟩ := hrel
                by_cases hkt : k < G.length
                · obtain ⟨c1, c2⟩ := HA.out _ bel i k hit hkt
                  obtain ⟨c3, c4⟩ := HA.out _ bel k i hkt hit
                  have HN : Hid ((List.range (k + 1)).filter (fun y => decide (i ≤ y) && m i y) = pt ++ (if m i k = true then [k] else [])) := by show _ = _; rw [filter_range_succ, ← hpe.out]; simp [hik]
                  have HK := HM.out i k
                  cases q : m i k with
                  | true =>
                    obtain ⟨q1, q2⟩ : isOn (A i) k = true ∧ isOn (A k) i = true := by rw [q] at HK; simpa using HK.symm
                    rw [q1] at c2
                    rw [q2] at c4
                    rw [q, if_pos rfl] at HN
                    obtain ⟨t1, t2⟩ := hF.at hkt
                    obtain ⟨hF1, gr1⟩ := hF.put k
                    obtain ⟨W1, hW1⟩ : ∃ W, wr.setCell ⟨M, k, none⟩ (.bool true) = W := ⟨_, rfl⟩
                    rw [hW1] at hF1 gr1
                    have hTp1 := row_off hTp gr1 (by omega)
                    have hP1 : PPt W1 (M + 1) hi_ u6 P := hP.keep fun b h1 h2 => gr1.block b (by omega) (fun e => by injection e; omega)
                    have b1 : Below M wM W1 := by rw [← hW1]; exact bel.setCell (Nat.le_refl _) _
                    have hs1 := gr1.size
                    have HT2 : Hid (∀ y, i < y → y < G.length → (isOn (T'.set k true) y = true ↔ (∃ j, j < i ∧ hd m j = true ∧ m j y = true) ∨ (y < k + 1 ∧ m i y = true))) := fun y h1 h2 => by
                      have e := hTq.out y h1 h2
                      rw [isOn_iff] at e ⊢
                      rw [on_set (by rw [hF.len]; exact hkt), e]
                      constructor
                      · rintro (rfl | h | ⟨h3, h4⟩)
                        · exact Or.inr ⟨by omega, q⟩
                        · exact Or.inl h
                        · exact Or.inr ⟨by omega, h4⟩
                      · rintro (h | ⟨h3, h4⟩)
                        · exact Or.inr (Or.inl h)
                        · rcases Nat.lt_or_eq_of_le (Nat.lt_succ_iff.1 h3) with h5 | rfl
                          · exact Or.inr (Or.inr ⟨h5, h4⟩)
                          · exact Or.inl rfl
                    clear q q1 q2 HK hTq hpe hTp hP hF gr1 bel
                    go_wp2_with (at_builtin; refine wpList_append_own _ rfl _ _ 31 rfl hi_ 3 i0 (.int .i64 0) 1 8 Try.underlying31 hi hz0 hz1 hz2 rfl (by decide) _ _ _ rfl (World.ownsRow.alloc hTp1 _) ⟨_, 0, none⟩ 1 1 [.int .i64 (k : Nat)] rfl rfl (cell_one_new _ _ _) (fun x hx => by simp at hx; subst hx; rfl) (by unfold maxLen; omega) (by omega) (by simp; omega) ?_; intro v1 W2 ho1 hg1 hn1)
                    have hne : ∀ j, u8.ownBlock = some j → hi_ ≤ j := fun j hj => (World.ownsRow.lt hTp1 j hj).1
                    go_roundw
                    case rel => exact ⟨k + 1, T'.set k true, pt ++ [k], by simp, by omega, by omega, by have := hg1.size; simp at this; omega, (b1.alloc (by omega) _).grown hg1 (by simp; omega) (fun j hj => by have := hne j hj; omega), World.ownsRow.kept (World.ownsRow.alloc hF1 _) hg1 (Or.inr (fun e => by have := hne M e.symm; omega)), (hP1.keep (w' := W1.alloc (.cells #[.int .i64 (k : Nat)] 3)) (fun b h1 h2 => Below.heap_alloc _ _ _ (by omega))).keep (fun b h1 h2 => hg1.block b (by simp; omega) (fun e => by have := hne b e.symm; omega)), Tl.add ho1, by simp; omega, HN.out.symm, HT2⟩
                    case measure => simp [intOf]; omega
                  | false =>
                    rw [q, if_neg (by decide), List.append_nil] at HN
                    have HT2 : Hid (∀ y, i < y → y < G.length → (isOn T' y = true ↔ (∃ j, j < i ∧ hd m j = true ∧ m j y = true) ∨ (y < k + 1 ∧ m i y = true))) := fun y h1 h2 => by
                      rw [hTq.out y h1 h2]
                      refine or_congr Iff.rfl ⟨fun ⟨h3, h4⟩ => ⟨by omega, h4⟩, fun ⟨h3, h4⟩ => ⟨?_, h4⟩⟩
                      rcases Nat.lt_or_eq_of_le (Nat.lt_succ_iff.1 h3) with h5 | rfl
                      · exact h5
                      · rw [q] at h4; cases h4
                    cases q1 : isOn (A i) k with
                    | true =>
                      have q2 : isOn (A k) i = false := by rw [q, q1] at HK; simpa using HK.symm
                      rw [q1] at c2
                      rw [q2] at c4
                      clear q q1 q2 HK hTq hpe
                      go_wp2
                      go_roundw
                      case rel => exact ⟨k + 1, T', pt, by simp, by omega, by omega, hsz, bel, hF, hP, hTp, by omega, HN.out.symm, HT2⟩
                      case measure => simp [intOf]; omega
                    | false =>
                      rw [q1] at c2
                      clear q q1 HK hTq hpe c3 c4
                      go_wp2
                      go_roundw
                      case rel => exact ⟨k + 1, T', pt, by simp, by omega, by omega, hsz, bel, hF, hP, hTp, by omega, HN.out.symm, HT2⟩
                      case measure => simp [intOf]; omega
                · obtain rfl : k = G.length := by omega
                  have HP1 : Hid (P ++ [pt] = ((List.range (i + 1)).filter (hd m)).map (part m G.length)) := by
                    show _ = _
                    rw [filter_range_succ, if_pos HH.out, List.map_append, ← hPe.out]
                    rw [hpe.out]
                    rfl
                  have HT1 : Hid (∀ y, i + 1 ≤ y → y < G.length → (isOn T' y = true ↔ ∃ j, j < i + 1 ∧ hd m j = true ∧ m j y = true)) := fun y h1 h2 => by
                    rw [hTq.out y (by omega) h2]
                    constructor
                    · rintro (⟨j, h3, h4⟩ | ⟨h3, h4⟩)
                      · exact ⟨j, by omega, h4⟩
                      · exact ⟨i, by omega, HH.out, h4⟩
                    · rintro ⟨j, h3, h4, h5⟩
                      rcases Nat.lt_or_eq_of_le (Nat.lt_succ_iff.1 h3) with h6 | rfl
                      · exact Or.inl ⟨j, h6, h4, h5⟩
                      · exact Or.inr ⟨h2, h5⟩
                  obtain ⟨au, cu, rfl⟩ := row_form hTp
                  obtain ⟨W1, hW1⟩ : ∃ W, wr.alloc (.cells #[.slice au pt.length cu] 31) = W := ⟨_, rfl⟩
                  have hP1 : PPt W1 (M + 1) hi_ u6 P := by rw [← hW1]; exact hP.keep (fun b h1 h2 => Below.heap_alloc _ _ _ (by omega))
                  have hTp1 : Tl W1 hi_ (.slice au pt.length cu) pt := by rw [← hW1]; exact World.ownsRow.alloc hTp _
                  have hF1 : Fl W1 M M G.length T' := by rw [← hW1]; exact World.ownsRow.alloc hF _
                  have b1 : Below M wM W1 := by rw [← hW1]; exact bel.alloc (by omega) _
                  have hs1 : wr.heap.size + 1 ≤ W1.heap.size := by rw [← hW1]; simp
                  have hn1 : W1.heap[wr.heap.size]? = some (.cells #[.slice au pt.length cu] 31 (0, 0)) := by rw [← hW1]; exact heap_alloc_new _ _
                  obtain ⟨cs, r1, r2⟩ := hP1.row
                  have hm6 : ∀ b, u6.ownBlock = some b → M + 1 ≤ b ∧ b < hi_ := fun b hb => ⟨(World.ownsRow.lt r1 b hb).1, hP1.lt b hb⟩
                  clear hP hTp hF bel hpe hTq
                  go_wp2_with (at_builtin; refine wpList_append_lies _ (by rfl) _ _ _ (by rfl) (M + 1) 31 i1 _ 1 24 Try.underlying22 hi1 hy0 hy1 hy2 rfl (by omega) _ P.length cs (by rfl) r1 ⟨wr.heap.size, 0, none⟩ 1 1 [.slice au pt.length cu] (by rfl) (by rfl) (World.news_of_block (cs := #[.slice au pt.length cu]) (t := 31) (fr := (0, 0)) hn1) (fun x hx => by simp at hx; subst hx; rfl) (by omega) (by unfold maxLen; omega) (by omega) (by omega) W1.heap.size rfl ?_; intro gg cap WA hownA growA hatA hltA)
                  have hsA := growA.size
                  have hPA := PPt.add r1 r2 hP1.lt hTp1 (by omega) rfl (by omega) hownA growA hatA hltA
                  go_roundw
                  case rel => exact ⟨i + 1, T', P ++ [pt], by simp, by omega, b1.grown growA (by omega) (fun j hj => by have := hm6 j hj; omega), World.ownsRow.kept hF1 growA (Or.inr (fun e => by have := hm6 M e.symm; omega)), hPA, by simp; omega, HP1, HT1⟩
                  case measure => simp [intOf]; omega
          · obtain rfl : i = G.length := by omega
            have HX : Hid (PartsOf E P) := HP.out P ⟨m, HT.out, hPe.out⟩
            go_wp2
            go_ret
            exact ⟨_, P, rfl, hP.eat, HX.out, HB.out.trans (bel.mono hsM)⟩
  · have ec : chkN E = 110 := by unfold chkN; rw [if_neg hc]
    rw [ec] at C
    have HP : Hid (PartsOf E []) := ⟨fun k => absurd k hc, fun _ => rfl⟩
    clear ec hc
    go_enter Try.func13, Try.ntmps13
    go_wp2_with (go_at_call 10; refine C.mono ?_; rintro e W1 ⟨rfl, b1⟩)
    go_ret
    exact ⟨_, [], rfl, (PPt.nil W1 0 0).eat, HP.out, b1⟩
end Go.Proofs.Ytbliaamckldncaa
