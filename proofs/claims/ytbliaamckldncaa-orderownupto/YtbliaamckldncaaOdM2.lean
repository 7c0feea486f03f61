/- Own text. A walk by states: the edges of the last place of its way. -/
import Derived.Test.YtbliaamckldncaaOdM1
namespace Go.Proofs.Ytbliaamckldncaa
open Go.RowKit Gph
set_option linter.unusedVariables false
set_option linter.unusedSimpArgs false

set_option maxRecDepth 100000 in
set_option maxHeartbeats 4000000 in
theorem follow_any {G : List (List Nat)} (hG : Ok G) (hn : G.length ≤ 1048576) (hk : ∀ x, (ed G x).length ≤ 1099511627776) {w : World} {lo q : Nat} {ve : Value} {ge gl : Nat} {at0 : Int} {S : List Bool} {L st O : List Nat} {x : Nat} {vo vt : Value} {res : List Bool × List Nat}
    (h : Wk w lo q ve ge gl G.length at0 S L (st.reverse ++ [x]) O vo vt) (hE : EAt w lo ve (toI G)) (hlo : lo ≤ w.heap.size) (hW : Wst G S L (x :: st) O) (hres : rest G L (x :: st) (S, O) = res) {ga : Nat} (hfg : Fgn w ga q ge gl vo vt) :
    Calls Try.prog 29 #[.pointer (some ⟨q, 0, none⟩)] w fun e w' => ∃ (r : Int) (L' : List Nat) (at' : Int), e = .returned (.int .i64 r) ∧ Wk w' lo q ve ge gl G.length at' S L' (st.reverse ++ [x]) O vo vt ∧ Below lo w w' ∧ Fgn w' ga q ge gl vo vt ∧ w'.heap[ga]? = w.heap[ga]? ∧ Wst G S L' (x :: st) O ∧
      ((r = 0 ∧ ∃ y : Nat, at' = y ∧ y < G.length ∧ ¬ on S y ∧ rest G L' (x :: st) (dfs G G.length y S O) = res) ∨ (r = 2 ∧ (ed G x).length ≤ lk L' x ∧ rest G L' (x :: st) (S, O) = res)) := by
  have hx := (hW.way x List.mem_cons_self).2
  obtain ⟨b, o, c, fv, rfl, hb, hf⟩ := hE.gl (by omega)
  have HI : Hid (∀ W, Below lo w W → ∃ ad c', W.cell? ⟨b, o + x, none⟩ = some (.slice ad (ed G x).length c') ∧ (∀ m (h : m < (ed G x).length), ∃ b' o', ad = some ⟨b', o', none⟩ ∧ W.cell? ⟨b', o' + m, none⟩ = some (.int .i64 ((ed G x)[m] : Nat)))) := fun W bl => by
    obtain ⟨f1, f2⟩ := hf x hx
    obtain ⟨⟨ad, c', e'⟩, hcl⟩ := f2.nl
    rw [e'] at f1 hcl
    refine ⟨ad, c', (World.cell?_of_block (a := ⟨b, o + x, none⟩) (bl.block b hb)).trans f1, fun m hm => ?_⟩
    obtain ⟨b', o', c2, e2, hb', hc'⟩ := hcl (by omega)
    cases e2
    exact ⟨b', o', rfl, (World.cell?_of_block (a := ⟨b', o' + m, none⟩) (bl.block b' hb')).trans (hc' m hm)⟩
  have hIn : Hid (∀ W, Below lo w W → ∃ ad c', W.cell? ⟨b, o + x, none⟩ = some (.slice ad (ed G x).length c')) := fun W bl => by obtain ⟨ad, c', h1, _⟩ := HI.out W bl; exact ⟨ad, c', h1⟩
  obtain ⟨ad, c', g1, g2⟩ := HI.out w (Below.refl _ _)
  have HA : Hid (∀ W, Below lo w W → ∀ m (h : m < (ed G x).length), ∃ b' o', ad = some ⟨b', o', none⟩ ∧ W.cell? ⟨b', o' + m, none⟩ = some (.int .i64 ((ed G x)[m] : Nat))) := fun W bl m hm => by
    obtain ⟨ad2, c2, q1, q2⟩ := HI.out W bl
    have q3 := (World.cell?_of_block (a := ⟨b, o + x, none⟩) (bl.block b hb)).symm.trans q1
    rw [g1] at q3
    cases q3
    exact q2 m hm
  have HW : Hid (Wst G S L (x :: st) O) := hW
  have HR : Hid (rest G L (x :: st) (S, O) = res) := hres
  have hlen : (st.reverse ++ [x]).length = st.length + 1 := by simp
  have hcnt : st.length < G.length := by have := hW.cnt; simp only [List.length_cons] at this; omega
  have hho := h.ho
  unfold Tl at hho
  rw [hlen] at hho
  obtain ⟨gt, ct, rfl, hgt, hct⟩ := row_some hho (by omega)
  have hc1 := World.ownsRow.cellAt hho st.length (by omega)
  have hxc : (ints (nI (st.reverse ++ [x])))[st.length]? = some (.int .i64 (x : Nat)) := by simp [ints, nI]
  rw [hxc] at hc1
  have hct' : ((st.length : Nat) : Int) ≤ ((ct : Nat) : Int) := by omega
  have HL : Hid ((st.reverse ++ [x]).length = st.length + 1) := hlen
  have HX := hk x
  have hxm : x < G.length := hx
  clear hxc hlen hho hf HI g2 hW hres
  obtain ⟨c0, c1, c2, c3, c4, c5, cf, cq⟩ := h.s.cells
  go_enter Try.func29, Try.ntmps29
  go_wp2
  go_region
  go_wp2
  go_loopg [5] ((ed G x).length - lk L x) (fun gk tv wr => ∃ (L' : List Nat), gk = (ed G x).length - lk L' x ∧ Hid (Fgn wr ga q ge gl (.slice (some ⟨gt, 0, none⟩) (st.length + 1) ct) vt ∧ wr.heap[ga]? = w.heap[ga]?) ∧ Below lo w wr ∧ Wk wr lo q (.slice (some ⟨b, o, none⟩) G.length c) ge gl G.length at0 S L' (st.reverse ++ [x]) O (.slice (some ⟨gt, 0, none⟩) (st.length + 1) ct) vt ∧ Hid (Wst G S L' (x :: st) O) ∧ Hid (rest G L' (x :: st) (S, O) = res))
  case atStart => exact ⟨L, rfl, ⟨hfg, rfl⟩, (Below.refl _ _).drew, h.drew, HW, HR⟩
  case round =>
    clear h hE g1 hc1 c0 c1 c2 c3 c4 c5 cf cq HW HR
    clear hfg
    obtain ⟨L', rfl, HF, bel, h, HW, HR⟩ := hrel
    obtain ⟨c0, c1, c2, c3, c4, c5, cf, cq⟩ := h.s.cells
    obtain ⟨l1, l2⟩ := h.fl.at hxm
    by_cases hlt : lk L' x < (ed G x).length
    · obtain ⟨b', o', rfl, g3⟩ := HA.out _ bel _ hlt
      have hy : (ed G x)[lk L' x] < G.length := hG _ _ (List.getElem_mem hlt)
      obtain ⟨d1, d2⟩ := h.fe.at hy
      have h1 := h.setLk x (lk L' x + 1)
      have b1 : Below lo w (wr.setCell ⟨gl, x, none⟩ (.int .i64 ((lk L' x + 1 : Nat) : Int))) := bel.setCell h.fl.lt.1 _
      have HS : Hid (on S (ed G x)[lk L' x] → Wst G S (L'.set x (lk L' x + 1)) (x :: st) O ∧ rest G (L'.set x (lk L' x + 1)) (x :: st) (S, O) = rest G L' (x :: st) (S, O)) := fun hq => HW.out.skip hlt hq
      have HN : Hid (¬ on S (ed G x)[lk L' x] → Wst G S (L'.set x (lk L' x + 1)) (x :: st) O ∧ rest G (L'.set x (lk L' x + 1)) (x :: st) (dfs G G.length (ed G x)[lk L' x] S O) = rest G L' (x :: st) (S, O)) := fun hq => HW.out.next hlt hq
      have hlk : lk (L'.set x (lk L' x + 1)) x = lk L' x + 1 := by rw [lk_set (by rw [HW.out.ll]; exact hxm), if_pos rfl]
      have HF1 : Hid (Fgn (wr.setCell ⟨gl, x, none⟩ (.int .i64 ((lk L' x + 1 : Nat) : Int))) ga q ge gl (.slice (some ⟨gt, 0, none⟩) (st.length + 1) ct) vt ∧ (wr.setCell ⟨gl, x, none⟩ (.int .i64 ((lk L' x + 1 : Nat) : Int))).heap[ga]? = w.heap[ga]?) := ⟨⟨by have := HF.out.1.1; simpa [World.setCell] using this, HF.out.1.2⟩, (heap_set_ne HF.out.1.2.2.2.1).trans HF.out.2⟩
      have HK : Hid (lk (L'.set x (lk L' x + 1)) x = lk L' x + 1) := hlk
      clear hlk
      generalize (ed G x)[lk L' x] = y at *
      have ec : ((lk L' x + 1 : Nat) : Int) = (lk L' x : Int) + 1 := rfl
      rw [ec] at h1 b1 HF1
      obtain ⟨e0, e1, e2, e3, e4, e5, ef, eq⟩ := h1.s.cells
      obtain ⟨d3, d4⟩ := h1.fe.at hy
      have ef3 := ef 3
      have h2 := h1.setAt (y : Nat)
      have b2 : Below lo w ((wr.setCell ⟨gl, x, none⟩ (.int .i64 ((lk L' x : Int) + 1))).setCell ⟨q, 3, none⟩ (.int .i64 (y : Nat))) := b1.setCell h1.hq _
      have HF2 : Hid (Fgn ((wr.setCell ⟨gl, x, none⟩ (.int .i64 ((lk L' x : Int) + 1))).setCell ⟨q, 3, none⟩ (.int .i64 (y : Nat))) ga q ge gl (.slice (some ⟨gt, 0, none⟩) (st.length + 1) ct) vt ∧ ((wr.setCell ⟨gl, x, none⟩ (.int .i64 ((lk L' x : Int) + 1))).setCell ⟨q, 3, none⟩ (.int .i64 (y : Nat))).heap[ga]? = w.heap[ga]?) := ⟨⟨by have := HF1.out.1.1; simpa [World.setCell] using this, HF1.out.1.2⟩, (heap_set_ne HF1.out.1.2.1).trans HF1.out.2⟩
      clear ec d1 d2 ef e0 e2 e4 e5
      cases hq : isOn S y with
      | true =>
        rw [hq] at d3
        obtain ⟨k1, k2⟩ := HS.out (isOn_iff.1 hq)
        have H1 : Hid (Wst G S (L'.set x (lk L' x + 1)) (x :: st) O) := k1
        have H2 : Hid (rest G (L'.set x (lk L' x + 1)) (x :: st) (S, O) = res) := k2.trans HR.out
        clear hq k1 k2 HS HN h2 b2
        go_wp2
        go_roundg ((ed G x).length - lk (L'.set x (lk L' x + 1)) x)
        case rel => exact ⟨_, rfl, HF1, b1, h1, H1, H2⟩
        case measure => rw [HK.out]; omega
      | false =>
        rw [hq] at d3
        have hny : ¬ on S y := fun k => by rw [isOn_iff.2 k] at hq; cases hq
        obtain ⟨k1, k2⟩ := HN.out hny
        have H1 : Hid (Wst G S (L'.set x (lk L' x + 1)) (x :: st) O) := k1
        have H2 : Hid (rest G (L'.set x (lk L' x + 1)) (x :: st) (dfs G G.length y S O) = res) := k2.trans HR.out
        have H3 : Hid (¬ on S y) := hny
        clear hq k1 k2 HS HN hny
        go_wp2
        go_ret
        exact ⟨0, _, _, rfl, h2, b2, HF2.out.1, HF2.out.2, H1.out, Or.inl ⟨rfl, y, rfl, hy, H3.out, H2.out⟩⟩
    · have HE : Hid ((ed G x).length ≤ lk L' x) := by show _ ≤ _; omega
      go_wp2
      go_ret
      exact ⟨2, L', at0, rfl, h, bel, HF.out.1, HF.out.2, HW.out, Or.inr ⟨rfl, HE.out, HR.out⟩⟩
end Go.Proofs.Ytbliaamckldncaa
