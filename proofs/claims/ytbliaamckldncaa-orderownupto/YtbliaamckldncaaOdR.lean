/- Own text. The program's heads: two walks, the second along edges turned round. -/
import Derived.Test.YtbliaamckldncaaOdQ2
namespace Go.Proofs.Ytbliaamckldncaa
open Go.RowKit Gph
set_option linter.unusedVariables false
set_option linter.unusedSimpArgs false

/-- walks from the first places. -/
def pass (G : List (List Nat)) (k : Nat) : List Bool × List Nat := (List.range k).foldl (stp G G.length) (List.replicate G.length false, [])
theorem pass_succ (G : List (List Nat)) (k : Nat) : pass G (k + 1) = stp G G.length (pass G k) k := by unfold pass; rw [List.range_succ, List.foldl_append]; rfl
theorem Wk.bel {w w' : World} {lo q : Nat} {ve : Value} {ge gl n : Nat} {at_ : Int} {S : List Bool} {L op td : List Nat} {vo vt : Value} (h : Wk w lo q ve ge gl n at_ S L op td vo vt) {B : Nat} (hB : w.heap.size ≤ B) (b : Below B w w') : Wk w' lo q ve ge gl n at_ S L op td vo vt :=
  ⟨(b.block q (by have := h.s.cells.2.2.2.2.2.2.2; omega)).trans h.s, h.hq, row_keep h.fe fun k hk => b.block k (by cases hk; exact Nat.lt_of_lt_of_le h.fe.lt.2 hB), row_keep h.fl fun k hk => b.block k (by cases hk; exact Nat.lt_of_lt_of_le h.fl.lt.2 hB), row_keep h.ho fun k hk => b.block k (by have := (World.ownsRow.lt h.ho k hk).2; omega), row_keep h.ht fun k hk => b.block k (by have := (World.ownsRow.lt h.ht k hk).2; omega), h.d1, h.d2, h.d3, h.ao, h.at'⟩
theorem Wk.keep {w w' : World} {lo q : Nat} {ve : Value} {ge gl n : Nat} {at_ : Int} {S : List Bool} {L op td : List Nat} {vo vt : Value} (h : Wk w lo q ve ge gl n at_ S L op td vo vt) (b : ∀ b, lo ≤ b → b < w.heap.size → w'.heap[b]? = w.heap[b]?) : Wk w' lo q ve ge gl n at_ S L op td vo vt :=
  ⟨(b q h.hq h.s.cells.2.2.2.2.2.2.2).trans h.s, h.hq, row_keep h.fe fun k hk => by cases hk; exact b _ h.fe.lt.1 h.fe.lt.2, row_keep h.fl fun k hk => by cases hk; exact b _ h.fl.lt.1 h.fl.lt.2, row_keep h.ho fun k hk => b k (World.ownsRow.lt h.ho k hk).1 (World.ownsRow.lt h.ho k hk).2, row_keep h.ht fun k hk => b k (World.ownsRow.lt h.ht k hk).1 (World.ownsRow.lt h.ht k hk).2, h.d1, h.d2, h.d3, h.ao, h.at'⟩
theorem vat_rowB {w : World} {base B : Nat} {e : TypeId} {v : Value} {n : Nat} {xs : List Value} (h : w.ownsRow base e 1 v n xs) (hB : ∀ b, v.ownBlock = some b → b < B) : VAt w B v xs := by
  have hl : xs.length = n := by have := h.1; omega
  rcases h.2 with ⟨rfl, rfl⟩ | ⟨g, cap, cur, rfl, hb, hg, rest⟩
  · exact ⟨⟨_, _, by rw [hl]⟩, fun h0 => by omega⟩
  · refine ⟨⟨_, _, by rw [hl]⟩, fun h0 => ⟨g, 0, cap, by rw [hl], hB g rfl, fun i hi => ?_⟩⟩
    rw [Nat.zero_add, World.ownsRow.cellAt h i (by omega), List.getElem?_eq_getElem hi]
theorem PPa.eatB {w w' : World} {lo : Nat} {vo : Value} {P : List (List Nat)} {cs : List Value} (h : PPa w lo vo P cs) (k : ∀ b, lo ≤ b → b < w.heap.size → w'.heap[b]? = w.heap[b]?) : EAt w' w.heap.size vo (toI P) := by
  have h' := h.keep k
  have hcs := h.cl
  refine ⟨cs, by rw [toI_len]; exact hcs, vat_rowB h'.row fun b hb => (World.ownsRow.lt h.row b hb).2, fun i hi hi' => ?_⟩
  rw [toI_len] at hi
  obtain ⟨u, q1, q2⟩ := h'.tl i hi
  obtain ⟨u', q1', q2'⟩ := h.tl i hi
  rw [q1] at q1'
  cases q1'
  rw [List.getElem?_eq_getElem hi'] at q1
  injection q1 with q1
  rw [q1]
  have e : (toI P)[i]'(by rw [toI_len]; exact hi) = nI P[i] := by simp [toI]
  rw [e]
  exact vat_rowB q2 fun b hb => (World.ownsRow.lt q2' b hb).2
set_option maxRecDepth 100000 in
set_option maxHeartbeats 4000000 in
theorem heads_any {G : List (List Nat)} (hG : Ok G) (hn : G.length ≤ 1048576) (hk : ∀ x, (ed G x).length ≤ 1048576) {v : Value} {w : World} (hE : EAt w w.heap.size v (toI G)) :
    Calls Try.prog 22 #[v] w fun e w' => ∃ gh H, e = .returned (.slice (some ⟨gh, 0, none⟩) G.length G.length) ∧ Nl w' w.heap.size gh G.length H ∧ Tells G (sameHd H) ∧ (∀ x, x < G.length → lk H x < G.length) ∧ Below w.heap.size w w' := by
  obtain ⟨ad, c, e0⟩ := hE.op
  rw [toI_len] at e0
  subst e0
  have hk' : ∀ x, (ed G x).length ≤ 1099511627776 := fun x => Nat.le_trans (hk x) (by decide)
  have HCF : Hid (∀ (W : World) (q ge gl : Nat) (at0 : Int) (S : List Bool) (L O : List Nat) (r : Nat) (vo vt : Value), Below w.heap.size w W → Wk W w.heap.size q (.slice ad G.length c) ge gl G.length at0 S L [] O vo vt → Wst G S L [] O → r < G.length → ¬ on S r →
      Calls Try.prog 25 #[.pointer (some ⟨q, 0, none⟩), .int .i64 (r : Nat)] W fun e w' => ∃ (L' : List Nat) (at' : Int) (vo' vt' : Value), e = .returned (.tuple #[]) ∧ Wk w' w.heap.size q (.slice ad G.length c) ge gl G.length at' (dfs G G.length r S O).1 L' [] (dfs G G.length r S O).2 vo' vt' ∧ Wst G (dfs G G.length r S O).1 L' [] (dfs G G.length r S O).2 ∧ Below w.heap.size W w') := fun W q ge gl at0 S L O r vo vt b h hW hr hnr => from_any hG hn hk' h (hE.bel b) b.size hW hr hnr
  have HTU : Hid (∀ W, Below w.heap.size w W → Calls Try.prog 27 #[.slice ad G.length c] W fun e w' => ∃ vo R cs, e = .returned vo ∧ PPa w' W.heap.size vo R cs ∧ Turn G R ∧ (∀ y, (ed R y).length ≤ 1099511627776) ∧ Below W.heap.size W w') := fun W b => turned_any hG hn hk (hE.bel b) b.size
  have HKO : Hid (Kos G (pass G G.length).2) := kos_of hG
  have CN := newWalk_any (n := G.length) hn (w := w) (ad := ad) (c := c)
  have hmk := fun W => make_zs G.length (by omega) W
  clear hE hk
  go_enter Try.func22, Try.ntmps22
  go_wp2_with (go_at_call 24; refine CN.mono ?_; rintro e W1 ⟨q, ge, gl, rfl, k1, b1⟩)
  go_loopw [4, 16] (fun iv kv wr => ∃ (k : Nat) (at_ : Int) (S : List Bool) (L O : List Nat) (vo vt : Value), kv = .int .i64 (k : Nat) ∧ k ≤ G.length ∧ Below w.heap.size w wr ∧ Wk wr w.heap.size q (.slice ad G.length c) ge gl G.length at_ S L [] O vo vt ∧ Hid (Wst G S L [] O) ∧ Hid (pass G k = (S, O))) (fun _ kv _ => G.length - (intOf kv).toNat)
  case atStart => exact ⟨0, _, _, _, _, _, _, rfl, by omega, b1, k1, Wst.new G, rfl⟩
  case round =>
    clear k1 b1 CN
    obtain ⟨k, at_, S, L, O, vo, vt, rfl, hkn, bel, hw, HW, HP⟩ := hrel
    obtain ⟨c0, c1, c2, c3, c4, c5, cf, cq⟩ := hw.s.cells
    by_cases hlt : k < G.length
    · obtain ⟨d1, d2⟩ := hw.fe.at hlt
      cases hq : isOn S k with
      | true =>
        rw [hq] at d1
        have HP' : Hid (pass G (k + 1) = (S, O)) := by show _ = _; rw [pass_succ, HP.out, stp, if_pos hq]
        clear hq
        go_wp2
        go_roundw
        case rel => exact ⟨k + 1, at_, S, L, O, vo, vt, by simp, by omega, bel, hw, HW, HP'⟩
        case measure => simp [intOf]; omega
      | false =>
        rw [hq] at d1
        have HP' : Hid (pass G (k + 1) = dfs G G.length k S O) := by show _ = _; rw [pass_succ, HP.out, stp, if_neg (by rw [hq]; decide)]
        have C := HCF.out wr q ge gl at_ S L O k vo vt bel hw HW.out hlt (fun z => by rw [isOn_iff.2 z] at hq; cases hq)
        clear hq
        go_wp2_with (go_at_call 25; refine C.mono ?_; rintro e W2 ⟨L', at', vo', vt', rfl, k2, w2, b2⟩)
        go_roundw
        case rel => exact ⟨k + 1, at', _, L', _, vo', vt', by simp, by omega, bel.trans b2, k2, w2, HP'⟩
        case measure => simp [intOf]; omega
    · obtain rfl : k = G.length := by omega
      obtain ⟨Wf, hWf⟩ : ∃ W : World, W = wr := ⟨_, rfl⟩
      subst hWf
      have HK : Hid (Kos G O) := by have := HKO.out; rw [HP.out] at this; exact this
      have hsz := bel.size
      have hOn : Hid (∀ y ∈ O, y < G.length) := fun y hy => (HK.out.all y).1 hy
      have hOc := HW.out.cnt
      clear HCF HKO HP hlt hkn HW
      have hw0 := hw.alloc (.cells (zs G.length) 3)
      have hh0 := Nl.made (w := Wf) (base := w.heap.size) (n := G.length) hsz (by omega)
      have B0 := bel.alloc hsz (.cells (zs G.length) 3)
      have CT := HTU.out _ B0
      have hgs : (Wf.alloc (.cells (zs G.length) 3)).heap.size = Wf.heap.size + 1 := by simp
      have HGS : Hid ((Wf.alloc (.cells (zs G.length) 3)).heap.size = Wf.heap.size + 1) := hgs
      clear hgs HTU
      go_wp2_with fail
      go_at_call 27
      refine CT.mono ?_
      rintro e W2 ⟨ve2, R, cs, rfl, hP2, hTu, hbd, b2⟩
      obtain ⟨A2, ca2, rfl⟩ := row_form hP2.row
      have hRl := hTu.1
      rw [hRl] at hP2 ⊢
      rw [HGS.out] at hP2 b2
      have HTu : Hid (Turn G R) := hTu
      have HRl : Hid (R.length = G.length) := hRl
      have b2' : Below Wf.heap.size Wf W2 := ((Below.refl _ _).alloc (Nat.le_refl _) _).trans (b2.mono (by omega))
      have hh2 : Nl W2 w.heap.size Wf.heap.size G.length (List.replicate G.length 0) := row_keep hh0 fun b hb => b2.block b (by cases hb; show Wf.heap.size < Wf.heap.size + 1; omega)
      have CN2 := newWalk_any (n := G.length) hn (w := W2) (ad := A2) (c := ca2)
      have hs2 := b2.size
      rw [HGS.out] at hs2
      clear CT hw0 hh0 B0 hTu hRl c0 c1 c2 c3 c4 c5 cf cq
      go_wp2_with (go_at_call 24; refine CN2.mono ?_; rintro e W3 ⟨q2, ge2, gl2, rfl, k3, b3⟩; have B3 := b2'.trans (b3.mono b2'.size); have a5 := (hw.bel (Nat.le_refl _) B3).s.cells.2.2.2.2.2.1; obtain ⟨At, cat, rfl⟩ := row_form hw.ht)
      have HPP : Hid (PPa W2 (Wf.heap.size + 1) (.slice A2 G.length ca2) R cs) := hP2
      have HKe : Hid (∀ b, Wf.heap.size + 1 ≤ b → b < W2.heap.size → W3.heap[b]? = W2.heap[b]?) := fun b _ hb => b3.block b hb
      have hh3 : Nl W3 w.heap.size Wf.heap.size G.length (List.replicate G.length 0) := row_keep hh2 fun b hb => b3.block b (by cases hb; show Wf.heap.size < W2.heap.size; omega)
      have HBd : Hid (∀ y, (ed R y).length ≤ 1099511627776) := hbd
      have HB0 : Hid (Bk G R [] (List.replicate G.length false) (List.replicate G.length 0)) := Bk.start G R [] _ _
      have HW0 : Hid (Wst R (List.replicate G.length false) (List.replicate G.length 0) [] []) := by have := Wst.new R; rw [HRl.out] at this; exact this
      have hlo2 : Wf.heap.size + 1 ≤ W2.heap.size := by omega
      have HCB : Hid (∀ (W : World) (at0 : Int) (S : List Bool) (L O : List Nat) (r : Nat) (vo vt : Value), (∀ b, Wf.heap.size + 1 ≤ b → b < W2.heap.size → W.heap[b]? = W2.heap[b]?) → Wk W W2.heap.size q2 (.slice A2 G.length ca2) ge2 gl2 G.length at0 S L [] O vo vt → Wst R S L [] O → r < G.length → ¬ on S r →
          Calls Try.prog 25 #[.pointer (some ⟨q2, 0, none⟩), .int .i64 (r : Nat)] W fun e w' => ∃ (L' : List Nat) (at' : Int) (S' : List Bool) (T : List Nat) (vo' vt' : Value), e = .returned (.tuple #[]) ∧ Wk w' W2.heap.size q2 (.slice A2 G.length ca2) ge2 gl2 G.length at' S' L' [] (O ++ T) vo' vt' ∧ Wst R S' L' [] (O ++ T) ∧ Did R (fun q => q = r) S S' T ∧ r ∈ T ∧ Below W2.heap.size W w') := fun W at0 S L O r vo vt hb h hW hr hnr => by
        have hok := HTu.out.ok
        have hEB := HPP.out.eatB hb
        have h' := h
        rw [← HRl.out] at h'
        have C := from_any hok (by rw [HRl.out]; exact hn) hbd (r := r) (ve := .slice A2 R.length ca2) h' (by rw [HRl.out]; exact hEB) (by have := h.hq; have := h.s.cells.2.2.2.2.2.2.2; omega) hW (by rw [HRl.out]; exact hr) hnr
        obtain ⟨T, t1, t2⟩ := dfs_did hok R.length r S O hW.sl (by rw [HRl.out]; exact hr) hnr (by have := hW.cnt; omega)
        refine C.mono ?_
        rintro e w' ⟨L', at', vo', vt', rfl, k1, k2, k3⟩
        rw [t1] at k1 k2
        rw [HRl.out] at k1 k2 t2
        exact ⟨L', at', _, T ++ [r], vo', vt', rfl, k1, k2, t2, by simp, k3⟩
      clear hP2 b2 b2' hh2 CN2 hbd hmk
      go_loopg [7, 8, 9, 11] (O.length) (fun gk iv rv tv pv wq => ∃ (A B : List Nat) (at2 : Int) (S2 : List Bool) (L2 O2 : List Nat) (vo2 vt2 : Value) (H : List Nat), gk = A.length ∧ iv = .int .i64 ((A.length : Int) - 1) ∧ Hid (O = A ++ B) ∧ Below Wf.heap.size Wf wq ∧ Hid (∀ b, Wf.heap.size + 1 ≤ b → b < W2.heap.size → wq.heap[b]? = W2.heap[b]?) ∧ Nl wq w.heap.size Wf.heap.size G.length H ∧ Wk wq W2.heap.size q2 (.slice A2 G.length ca2) ge2 gl2 G.length at2 S2 L2 [] O2 vo2 vt2 ∧ Hid (Wst R S2 L2 [] O2) ∧ Hid (Bk G R B S2 H))
      case atStart => exact ⟨O, [], _, _, _, _, _, _, _, rfl, rfl, by show _ = _; simp, B3, HKe, hh3, k3, HW0, HB0⟩
      case round =>
        clear k3 b3 B3 a5 HKe hh3 HB0 HW0
        obtain ⟨A, B, at2, S2, L2, O2, vo2, vt2, H, rfl, rfl, HO, B3, HKe, hh, hw2, HW2, HBk⟩ := hrel
        have hwa := hw.bel (Nat.le_refl _) B3
        have a5 := hwa.s.cells.2.2.2.2.2.1
        rcases List.eq_nil_or_concat A with rfl | ⟨A', r, e⟩
        · have HT : Hid (Tells G (sameHd H) ∧ ∀ x, x < G.length → lk H x < G.length) := by
            have hB : Bk G R O S2 H := by rw [HO.out]; exact HBk.out
            refine ⟨hB.tells HK.out, fun x hx => ?_⟩
            have ox : on S2 x := (hB.on_iff x).2 ⟨x, (HK.out.all x).2 hx, Mut.refl x⟩
            exact Rch.lt hG (hB.mu x ox).2 hx
          have bw := bel.trans (B3.mono hsz)
          go_wp2
          go_ret
          exact ⟨_, H, rfl, hh, HT.out.1, HT.out.2, bw⟩
        · have e' : A = A' ++ [r] := by simpa using e
          subst e'
          clear e
          have hOl : O.length = A'.length + 1 + B.length := by rw [HO.out]; simp; omega
          have hlA : ((A' ++ [r]).length : Nat) = A'.length + 1 := by simp
          have hrn : r < G.length := hOn.out r (by rw [HO.out]; simp)
          have hat : ∃ gt, At = some ⟨gt, 0, none⟩ ∧ Wf.cell? ⟨gt, A'.length, none⟩ = some (.int .i64 (r : Nat)) ∧ gt < Wf.heap.size := by
            have ht := hw.ht
            obtain ⟨gt, c', e, _, _⟩ := row_some ht (by omega)
            cases e
            refine ⟨gt, rfl, ?_, (World.ownsRow.lt ht gt rfl).2⟩
            rw [World.ownsRow.cellAt ht A'.length (by omega), HO.out]
            simp [ints, nI]
          obtain ⟨gt, rfl, ha1, hgt⟩ := hat
          have ha2 := (World.cell?_of_block (a := ⟨gt, A'.length, none⟩) (B3.block gt hgt)).trans ha1
          have ei : (((A' ++ [r]).length : Nat) : Int) - 1 = (A'.length : Int) := by simp
          rw [ei]
          have HO' : Hid (O = A' ++ r :: B) := by show _ = _; rw [HO.out]; simp
          obtain ⟨e0, e1, e2, e3, e4, e5, ef, eq⟩ := hw2.s.cells
          obtain ⟨d1, d2⟩ := hw2.fe.at hrn
          have hA'O : ((A'.length : Nat) : Int) < ((O.length : Nat) : Int) := by omega
          clear ei ha1 HO hOl hlA
          cases hq : isOn S2 r with
          | true =>
            rw [hq] at d1
            have HB' : Hid (Bk G R (r :: B) S2 H) := HBk.out.old (isOn_iff.1 hq)
            clear hq
            go_wp2
            go_roundg A'.length
            case rel => exact ⟨A', r :: B, at2, S2, L2, O2, vo2, vt2, H, rfl, rfl, HO', B3, HKe, hh, hw2, HW2, HB'⟩
            case measure => simp
          | false =>
            rw [hq] at d1
            have hnr : ¬ on S2 r := fun z => by rw [isOn_iff.2 z] at hq; cases hq
            have C := HCB.out wr at2 S2 L2 O2 r vo2 vt2 HKe.out hw2 HW2.out hrn hnr
            have HNr : Hid (¬ on S2 r) := hnr
            obtain ⟨At2, cat2, rfl⟩ := row_form hw2.ht
            have hSl := HW2.out.sl
            have HSl : Hid (S2.length = G.length) := by show _ = _; rw [hSl]; exact HRl.out
            have hO2 := HW2.out.cnt
            rw [HRl.out] at hO2
            have hO2' : O2.length ≤ 1048576 := by omega
            have eB := HW2
            clear hq hnr hSl hO2
            go_wp2_with fail
            go_at_call 25
            refine C.mono ?_
            rintro e W4 ⟨L4, at4, S4, T, vo4, vt4, rfl, k4, w4, D4, hrT, b4⟩
            have hTl : (O2 ++ T).length = O2.length + T.length := by simp
            obtain ⟨f0, f1, f2, f3, f4, f5, ff, fq⟩ := k4.s.cells
            have hT0 : 0 < T.length := List.length_pos_of_mem hrT
            obtain ⟨g4, c4, rfl, hg4, hc4⟩ := row_some k4.ht (by omega)
            rw [hTl] at f5 hc4
            have hTb : T.length ≤ 1048576 := by have := w4.cnt; rw [hTl, HRl.out] at this; omega
            have HC4 : Hid (∀ m (h : m < T.length), W4.cell? ⟨g4, O2.length + m, none⟩ = some (.int .i64 (T[m] : Nat))) := fun m hm => by
              rw [World.ownsRow.cellAt k4.ht (O2.length + m) (by omega)]
              unfold ints nI
              rw [List.getElem?_map, List.getElem?_map, List.getElem?_append_right (by omega), Nat.add_sub_cancel_left, List.getElem?_eq_getElem hm]
              rfl
            have HTn : Hid (∀ y ∈ T, y < G.length) := fun y hy => by have := on_lt ((D4.mem y).2 (Or.inr hy)); rw [D4.len, HSl.out] at this; exact this
            have hh4 : Nl W4 w.heap.size Wf.heap.size G.length H := row_keep hh fun b hb => b4.block b (by cases hb; show Wf.heap.size < W2.heap.size; omega)
            have HE : Hid (∀ H', (∀ y, lk H' y = if y ∈ T then r else lk H y) → Bk G R (r :: B) S4 H') := fun H' hH' => Bk.new hG HTu.out HK.out HO'.out HBk.out HNr.out HSl.out D4 hrT (fun y hy => by rw [hH' y, if_pos hy]) (fun y hy => by rw [hH' y, if_neg hy])
            have HK4 : Hid (Wk W4 W2.heap.size q2 (.slice A2 G.length ca2) ge2 gl2 G.length at4 S4 L4 [] (O2 ++ T) vo4 (.slice (some ⟨g4, 0, none⟩) (O2.length + T.length) c4)) := by rw [← hTl]; exact k4
            have HW4 : Hid (Wst R S4 L4 [] (O2 ++ T)) := w4
            have HB4 : Hid (Below W2.heap.size wr W4) := b4
            have HKe4 : Hid (∀ b, Wf.heap.size + 1 ≤ b → b < W2.heap.size → W4.heap[b]? = W2.heap[b]?) := fun b h1 h2 => (b4.block b h2).trans (HKe.out b h1 h2)
            have B4 : Below Wf.heap.size Wf W4 := B3.trans (b4.mono (by omega))
            have hle1 : ((O2.length : Nat) : Int) ≤ ((O2.length + T.length : Nat) : Int) := by omega
            have hle2 : ((O2.length + T.length : Nat) : Int) ≤ ((c4 : Nat) : Int) := by omega
            have hsub : O2.length + T.length - O2.length = T.length := by omega
            clear D4 hrT w4 k4 b4 C HBk HNr hh hw2 HW2 e0 e1 e2 e3 e4 e5 ef eq d1 d2 eB HKe a5 hwa B3 ha2 hTl f0 f1 f2 f3 f4 ff HCB
            go_wp2
            go_loopw [11, 76] (fun pv jv wz => ∃ (m : Nat) (H' : List Nat), jv = .int .i64 (m : Nat) ∧ m ≤ T.length ∧ Below Wf.heap.size W4 wz ∧ Hid (∀ b, b ≠ Wf.heap.size → wz.heap[b]? = W4.heap[b]?) ∧ Nl wz w.heap.size Wf.heap.size G.length H' ∧ Hid (∀ y, lk H' y = if y ∈ T.take m then r else lk H y)) (fun _ jv _ => T.length - (intOf jv).toNat)
            case atStart => exact ⟨0, H, rfl, by omega, Below.refl _ _, fun _ _ => rfl, hh4, fun y => by simp⟩
            case round =>
              clear hh4 f5
              obtain ⟨m, H', rfl, hml, b5, HN5, hh5, HH5⟩ := hrel
              by_cases hmt : m < T.length
              · have hc := (World.cell?_of_block (a := ⟨g4, O2.length + m, none⟩) (HN5.out g4 (by omega))).trans (HC4.out m hmt)
                have hy := HTn.out T[m] (List.getElem_mem hmt)
                have HS : Hid (∀ y, lk (H'.set T[m] r) y = if y ∈ T.take (m + 1) then r else lk H y) := fun y => by
                  rw [lk_set (by rw [hh5.len]; exact hy), List.take_succ_eq_append_getElem hmt, HH5.out y]
                  by_cases q1 : y = T[m]
                  · rw [if_pos q1, if_pos (by rw [q1]; exact List.mem_append_right _ List.mem_cons_self)]
                  · rw [if_neg q1]
                    by_cases q2 : y ∈ T.take m
                    · rw [if_pos q2, if_pos (List.mem_append_left _ q2)]
                    · rw [if_neg q2, if_neg]
                      intro k
                      rcases List.mem_append.1 k with k | k
                      · exact q2 k
                      · exact q1 (List.mem_singleton.1 k)
                generalize T[m] = y at *
                obtain ⟨n1, n2⟩ := hh5.at hy
                have hh6 := (hh5.put y r).1
                have b6 := b5.setCell (p := ⟨Wf.heap.size, y, none⟩) (Nat.le_refl _) (.int .i64 (r : Nat))
                have HN6 : Hid (∀ b, b ≠ Wf.heap.size → (wr.setCell ⟨Wf.heap.size, y, none⟩ (.int .i64 (r : Nat))).heap[b]? = W4.heap[b]?) := fun b hb => (heap_set_ne hb).trans (HN5.out b hb)
                clear hh5 b5 HN5 HH5
                go_wp2
                go_roundw
                case rel => exact ⟨m + 1, _, by simp, by omega, b6, HN6, hh6, HS⟩
                case measure => simp [intOf]; omega
              · have eT : T.take m = T := List.take_of_length_le (by omega)
                rw [eT] at HH5
                have HBN : Hid (Bk G R (r :: B) S4 H') := HE.out H' HH5.out
                have hw5 := HK4.out.keep (w' := wr) fun b h1 h2 => HN5.out b (by omega)
                have HKe5 : Hid (∀ b, Wf.heap.size + 1 ≤ b → b < W2.heap.size → wr.heap[b]? = W2.heap[b]?) := fun b h1 h2 => (HN5.out b (by omega)).trans (HKe4.out b h1 h2)
                have B5 := B4.trans b5
                clear eT HH5 HN5
                go_wp2
                go_roundg A'.length
                case rel => exact ⟨A', r :: B, _, _, _, _, _, _, H', rfl, rfl, HO', B5, HKe5, hh5, hw5, HW4, HBN⟩
                case measure => simp
end Go.Proofs.Ytbliaamckldncaa
