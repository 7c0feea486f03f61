/- Own text. OrderOwn: lists are new memory. -/
import Derived.Test.YtbliaamckldncaaOdPE
import Derived.Test.YtbliaamckldncaaOdP
namespace Go.Proofs.Ytbliaamckldncaa
open Go.RowKit Gph
set_option linter.unusedVariables false
set_option linter.unusedSimpArgs false

theorem Ti.addL {w : World} {base : Nat} {v : Value} {O ys : List Int} (h : w.ownsRow base 3 1 v (O.length + ys.length) (ints O ++ ints ys)) : Ti w base v (O ++ ys) := by
  unfold Ti
  rw [List.length_append]
  simpa [ints] using h
/-- some numbers more in one of the lists. -/
theorem PPb.putL {w w' : World} {lo g n cap gg cc H j : Nat} {ys : List Int} {P : List (List Int)} {cs : List Value} {u : Value} (h : PPb w lo (.slice (some ⟨g, 0, none⟩) n cap) P cs) (hj : j < P.length) (hu : cs[j]? = some u) (hH : w.heap.size = H)
    (ho : w'.ownsRow lo 3 1 (.slice (some ⟨gg, 0, none⟩) (P[j].length + ys.length) cc) (P[j].length + ys.length) (ints P[j] ++ ints ys)) (hg : w.grownBy w' u.ownBlock) (ha : u.ownBlock = some gg ∨ gg = H) (hl : gg < w'.heap.size) :
    PPb (w'.setCell ⟨g, j, none⟩ (.slice (some ⟨gg, 0, none⟩) (P[j].length + ys.length) cc)) lo (.slice (some ⟨g, 0, none⟩) n cap) (P.set j (P[j] ++ ys)) (cs.set j (.slice (some ⟨gg, 0, none⟩) (P[j].length + ys.length) cc)) := by
  have hcl := h.cl
  have hgl := World.ownsRow.lt h.row g rfl
  have hne : some g ≠ u.ownBlock := fun e => h.no j u g hu e.symm rfl
  have hgg : gg ≠ g := by
    rcases ha with ha | ha
    · intro e; subst e; exact hne ha.symm
    · omega
  obtain ⟨n', hn'⟩ : ∃ n', n' = P.length := ⟨_, rfl⟩
  have hnP : n = P.length := by
    rcases h.row.2 with ⟨e, _⟩ | ⟨_, _, _, e, _⟩
    · cases e
    · cases e; rfl
  subst hnP
  have hrow' : w'.ownsRow lo 31 1 (.slice (some ⟨g, 0, none⟩) P.length cap) P.length cs := World.ownsRow.kept h.row hg (Or.inr hne)
  have hst := (World.ownsRow.stored hrow' j (.slice (some ⟨gg, 0, none⟩) (P[j].length + ys.length) cc)).1
  have oth : ∀ i v b, i ≠ j → cs[i]? = some v → v.ownBlock = some b → b ≠ g ∧ some b ≠ u.ownBlock ∧ b ≠ gg := fun i v b hij hv hb => by
    have a1 : b ≠ g := fun e => by subst e; exact h.no i v b hv hb rfl
    have a2 : some b ≠ u.ownBlock := fun e => h.ap i j v u b hij hv hu hb e.symm
    refine ⟨a1, a2, fun e => ?_⟩
    subst e
    rcases ha with ha | ha
    · exact a2 ha.symm
    · have hi : i < P.length := by rw [← hcl]; exact (List.getElem?_eq_some_iff.1 hv).1
      obtain ⟨v', q1, q2⟩ := h.tl i hi
      rw [hv] at q1
      cases q1
      have := (World.ownsRow.lt q2 b hb).2
      omega
  refine ⟨by rw [List.length_set]; exact hst, fun i hi => ?_, fun i v b hv hb => ?_, fun i i' v v' b hii hv hv' hb => ?_⟩
  · rw [List.length_set] at hi
    by_cases e : j = i
    · subst e
      refine ⟨_, List.getElem?_set_self (by omega), ?_⟩
      rw [List.getElem_set_self]
      exact row_keep (Ti.addL ho) fun b hb => heap_set_ne (by cases hb; exact hgg)
    · obtain ⟨v, q1, q2⟩ := h.tl i hi
      refine ⟨v, by rw [List.getElem?_set_ne e]; exact q1, ?_⟩
      rw [List.getElem_set_ne e]
      refine row_keep (row_keep q2 fun b hb => hg.block b (World.ownsRow.lt q2 b hb).2 (oth i v b (fun k => e k.symm) q1 hb).2.1) fun b hb => heap_set_ne (oth i v b (fun k => e k.symm) q1 hb).1
  · by_cases e : j = i
    · subst e
      rw [List.getElem?_set_self (by omega)] at hv
      cases hv
      cases hb
      exact fun k => by cases k; exact hgg rfl
    · rw [List.getElem?_set_ne e] at hv
      exact h.no i v b hv hb
  · by_cases e : j = i
    · subst e
      rw [List.getElem?_set_self (by omega)] at hv
      rw [List.getElem?_set_ne hii] at hv'
      cases hv
      cases hb
      exact fun k => (oth i' v' gg (fun z => hii z.symm) hv' k).2.2 rfl
    · rw [List.getElem?_set_ne e] at hv
      by_cases e' : j = i'
      · subst e'
        rw [List.getElem?_set_self (by omega)] at hv'
        cases hv'
        intro k
        have k' : gg = b := by cases k; rfl
        exact (oth i v b hii hv hb).2.2 k'.symm
      · rw [List.getElem?_set_ne e'] at hv'
        exact h.ap i i' v v' b hii hv hv' hb
/-- one number set in one of the lists. -/
theorem PPb.set {w : World} {lo j m gu cu : Nat} {vo : Value} {P : List (List Int)} {cs : List Value} {x : Int} (h : PPb w lo vo P cs) (hj : j < P.length) (hu : cs[j]? = some (.slice (some ⟨gu, 0, none⟩) P[j].length cu)) :
    PPb (w.setCell ⟨gu, m, none⟩ (.int .i64 x)) lo vo (P.set j (P[j].set m x)) cs := by
  refine ⟨?_, fun i hi => ?_, h.no, h.ap⟩
  · rw [List.length_set]
    exact row_keep h.row fun b hb => heap_set_ne (fun e => by subst e; exact h.no j _ b hu rfl hb)
  · rw [List.length_set] at hi
    obtain ⟨u, q1, q2⟩ := h.tl i hi
    refine ⟨u, q1, ?_⟩
    by_cases e : j = i
    · subst e
      rw [hu] at q1
      cases q1
      rw [List.getElem_set_self]
      have q3 := (World.ownsRow.stored q2 m (.int .i64 x)).1
      unfold Ti ints
      rw [List.length_set, List.map_set]
      exact q3
    · rw [List.getElem_set_ne e]
      exact row_keep q2 fun b hb => heap_set_ne (fun k => by subst k; exact h.ap j i _ u b e hu q1 rfl hb)
theorem PPa.ppb {w : World} {lo : Nat} {vo : Value} {P : List (List Nat)} {cs : List Value} (h : PPa w lo vo P cs) : PPb w lo vo (toI P) cs :=
  ⟨by rw [toI_len]; exact h.row, fun j hj => by
    rw [toI_len] at hj
    obtain ⟨u, q1, q2⟩ := h.tl j hj
    refine ⟨u, q1, ?_⟩
    have e : (toI P)[j]'(by rw [toI_len]; exact hj) = nI P[j] := by simp [toI]
    rw [e]
    unfold Ti
    rw [nI_len]
    exact q2, h.no, h.ap⟩
set_option maxRecDepth 100000 in
set_option maxHeartbeats 8000000 in
theorem own_walk (v : Value) (E : List (List Int)) (root : Int) (w : World) (hz : E.length ≤ 1048576 ∧ ∀ l ∈ E, l.length ≤ 1048576) (f0 : EAt w w.heap.size v E) :
    Calls Try.prog 7 #[v, .int .i64 root] w fun e w' => e = .returned (.bool true) ∧ Below w.heap.size w w' := by
  obtain ⟨hl, hk⟩ := hz
  have hlen := ordL_len (E := E) root
  obtain ⟨i0, hi, hz0, hz1, hz2⟩ := info_parts info_int
  obtain ⟨ad, c, rfl⟩ := f0.op
  go_enter Try.func7, Try.ntmps7
  go_wp2_with fail
  go_at_call 12
  refine (parts_any w _ E f0 hl hk).mono ?_
  rintro e W1 ⟨va, P, ca, rfl, pa, hPo, b1⟩
  have s1 := b1.size
  go_wp2_with fail
  go_at_call 12
  refine (parts_any W1 _ E ((f0.bel b1).mono s1) hl hk).mono ?_
  rintro e W2 ⟨vb, P', cb, rfl, pb, hPo', b2⟩
  have s2 := b2.size
  obtain rfl := hPo.unique hPo'
  clear hPo'
  obtain ⟨hPl, hPm⟩ := hPo.len
  have B2 := b1.trans (b2.mono s1)
  have A2 : PPb W2 w.heap.size va (toI P) ca := (pa.bel b2).ppb
  have HAr : Hid ((∀ (j : Nat) u b, ca[j]? = some u → u.ownBlock = some b → b < W1.heap.size ∨ W2.heap.size ≤ b) ∧ ∀ b, va.ownBlock = some b → b < W1.heap.size) := ⟨fun j u b hu hb => Or.inl (by
      obtain ⟨u', q1, q2⟩ := pa.tl j (by rw [← pa.cl]; exact (List.getElem?_eq_some_iff.1 hu).1)
      rw [hu] at q1
      cases q1
      exact (World.ownsRow.lt q2 b hb).2), fun b hb => (World.ownsRow.lt pa.row b hb).2⟩
  have HPm : Hid (∀ j (h : j < (toI P).length), (toI P)[j].length ≤ 1048576) := fun j h => by
    have e : (toI P)[j] = nI (P[j]'(by rw [toI_len] at h; exact h)) := by simp [toI]
    rw [e, nI_len]
    exact Nat.le_trans (hPm _ (List.getElem_mem _)) hl
  have HPo : Hid (PartsOf E P) := hPo
  have HPB : Hid (PPa W2 W1.heap.size vb P cb) := pb
  obtain ⟨Aa, cva, eva⟩ := row_form pa.row
  obtain ⟨Ab, cvb, evb⟩ := row_form pb.row
  have hPl' : P.length ≤ 1048576 := by omega
  have HPm2 : Hid (∀ l ∈ P, l.length ≤ E.length) := hPm
  clear pa pb b1 b2 hPm hPo hPl
  subst eva evb
  go_wp2_with fail
  go_loopw [7, 8, 9] (fun iv _ _ wr => ∃ (k : Nat) (Pi : List (List Int)) (cs : List Value), iv = .int .i64 (k : Nat) ∧ k ≤ P.length ∧ Below w.heap.size w wr ∧ PPb wr w.heap.size (.slice Aa P.length cva) Pi cs ∧ Hid (Pi.length = P.length ∧ ∀ j (h : j < Pi.length), k ≤ j → Pi[j].length ≤ 1048576) ∧ Hid (∀ b, W1.heap.size ≤ b → b < W2.heap.size → wr.heap[b]? = W2.heap[b]?) ∧ Hid ((∀ (j : Nat) u b, cs[j]? = some u → u.ownBlock = some b → b < W1.heap.size ∨ W2.heap.size ≤ b) ∧ W2.heap.size ≤ wr.heap.size)) (fun iv _ _ _ => P.length - (intOf iv).toNat)
  case atStart => exact ⟨0, _, ca, rfl, by omega, B2, A2, ⟨toI_len P, fun j h _ => HPm.out j h⟩, fun b _ _ => rfl, HAr.out.1, Nat.le_refl _⟩
  case round =>
    clear A2 B2
    obtain ⟨k, Pi, cs, rfl, hkP, bel, hA, HL, HB, HR⟩ := hrel
    by_cases hlt : k < P.length
    · have hPi := HL.out.1
      have hkPi : k < Pi.length := by omega
      obtain ⟨g, cg, e, hg1, hg2⟩ := row_some hA.row (by omega)
      obtain ⟨rfl, rfl⟩ : Aa = some ⟨g, 0, none⟩ ∧ cva = cg := by injection e with e1 e2 e3; exact ⟨e1, e3⟩
      clear e
      obtain ⟨u, q1, q2, q3, q4⟩ := hA.at hkPi
      obtain ⟨au, cu, eu⟩ := row_form q4
      have hul := HL.out.2 k hkPi (Nat.le_refl _)
      rw [eu] at q1 q2
      have HGa : Hid (g < W1.heap.size) := HAr.out.2 g rfl
      have ez : ∃ z, z = Pi[k].length := ⟨_, rfl⟩
      obtain ⟨z, hz⟩ := ez
      rw [← hz] at q1 q2 hul
      have HZ : Hid (z = Pi[k].length) := hz
      clear hPi eu q3 q4 hz
      have HQ1 : Hid (cs[k]? = some (.slice au z cu)) := q1
      clear q1
      go_wp2_with fail
      go_loopw [8] (fun kv wz => ∃ (m : Nat) (Pi : List (List Int)), kv = .int .i64 (m : Nat) ∧ m ≤ z ∧ Below w.heap.size w wz ∧ PPb wz w.heap.size (.slice (some ⟨g, 0, none⟩) P.length cva) Pi cs ∧ Hid (Pi.length = P.length ∧ (∀ j (h : j < Pi.length), k ≤ j → Pi[j].length ≤ 1048576) ∧ ∀ h : k < Pi.length, Pi[k].length = z) ∧ Hid (∀ b, W1.heap.size ≤ b → b < W2.heap.size → wz.heap[b]? = W2.heap[b]?) ∧ W2.heap.size ≤ wz.heap.size) (fun kv _ => z - (intOf kv).toNat)
      case atStart => exact ⟨0, Pi, rfl, by omega, bel, hA, ⟨HL.out.1, HL.out.2, fun _ => HZ.out.symm⟩, HB, HR.out.2⟩
      case round =>
        clear hg2 hA HL HB HZ q2 bel hkPi Pi
        obtain ⟨m, Pi, rfl, hmz, bel, hA, HL, HB, hW2⟩ := hrel
        have hkPi : k < Pi.length := by rw [HL.out.1]; exact hlt
        obtain ⟨u', q1, q2, q3, q4⟩ := hA.at hkPi
        rw [HQ1.out] at q1
        cases q1
        have hzl := HL.out.2.2 hkPi
        unfold Ti at q4
        rw [hzl] at q4
        by_cases hmt : m < z
        · obtain ⟨gu, cu', e, hgu, _⟩ := row_some q4 (by omega)
          obtain ⟨rfl, rfl⟩ : au = some ⟨gu, 0, none⟩ ∧ cu = cu' := by injection e with e1 e2 e3; exact ⟨e1, e3⟩
          clear e
          obtain ⟨old, ho⟩ : ∃ o, wr.cell? ⟨gu, m, none⟩ = some o := ⟨_, (World.ownsRow.cellAt q4 m (by omega)).trans (List.getElem?_eq_getElem (by have := q4.1; omega))⟩
          have hof := World.ownsRow.frozenAt q4 m
          have hA' : PPb (wr.setCell ⟨gu, m, none⟩ (.int .i64 (-5))) w.heap.size (.slice (some ⟨g, 0, none⟩) P.length cva) (Pi.set k (Pi[k].set m (-5))) cs := hA.set hkPi (by rw [hzl]; exact HQ1.out)
          have hrg := HR.out.1 k _ gu HQ1.out rfl
          have HB' : Hid (∀ b, W1.heap.size ≤ b → b < W2.heap.size → (wr.setCell ⟨gu, m, none⟩ (.int .i64 (-5))).heap[b]? = W2.heap[b]?) := fun b h1 h2 => (heap_set_ne (by omega)).trans (HB.out b h1 h2)
          have bel' := bel.setCell (p := ⟨gu, m, none⟩) (show w.heap.size ≤ gu from hgu) (.int .i64 (-5))
          have HL' : Hid ((Pi.set k (Pi[k].set m (-5))).length = P.length ∧ (∀ j (h : j < (Pi.set k (Pi[k].set m (-5))).length), k ≤ j → (Pi.set k (Pi[k].set m (-5)))[j].length ≤ 1048576) ∧ ∀ h : k < (Pi.set k (Pi[k].set m (-5))).length, (Pi.set k (Pi[k].set m (-5)))[k].length = z) := by
            refine ⟨by rw [List.length_set]; exact HL.out.1, fun j h hj => ?_, fun h => by rw [List.getElem_set_self, List.length_set]; exact hzl⟩
            rw [List.length_set] at h
            by_cases e : k = j
            · subst e; rw [List.getElem_set_self, List.length_set]; exact HL.out.2.1 k h hj
            · rw [List.getElem_set_ne e]; exact HL.out.2.1 j h hj
          have hW2' : W2.heap.size ≤ (wr.setCell ⟨gu, m, none⟩ (.int .i64 (-5))).heap.size := by simpa [World.setCell] using hW2
          clear hA HL HB hzl hrg bel q3 q4
          go_wp2
          go_roundw
          case rel => exact ⟨m + 1, _, by simp, by omega, bel', hA', HL', HB', hW2'⟩
          case measure => simp [intOf]; omega
        · obtain rfl : m = z := by omega
          have q4' : Ti wr w.heap.size (.slice au m cu) Pi[k] := by unfold Ti; rw [hzl]; exact q4
          have HZl : Hid (Pi[k].length = m) := hzl
          have fin : ∀ (W3 : World) (gg cap : Nat), W3.ownsRow w.heap.size 3 1 (.slice (some ⟨gg, 0, none⟩) (m + 2) cap) (m + 2) (ints Pi[k] ++ [.int .i64 (-6), .int .i64 (-7)]) → (wr.alloc (.cells #[.int .i64 (-6), .int .i64 (-7)] 3)).grownBy W3 (Value.slice au m cu).ownBlock → ((Value.slice au m cu).ownBlock = some gg ∨ gg = wr.heap.size + 1) → gg < W3.heap.size →
              (∃ v, W3.cell? ⟨g, k, none⟩ = some v) ∧ W3.frozen? ⟨g, k, none⟩ = false ∧ PPb (W3.setCell ⟨g, k, none⟩ (.slice (some ⟨gg, 0, none⟩) (m + 2) cap)) w.heap.size (.slice (some ⟨g, 0, none⟩) P.length cva) (Pi.set k (Pi[k] ++ [-6, -7])) (cs.set k (.slice (some ⟨gg, 0, none⟩) (m + 2) cap)) ∧ Below w.heap.size w (W3.setCell ⟨g, k, none⟩ (.slice (some ⟨gg, 0, none⟩) (m + 2) cap)) ∧ Hid (∀ b, W1.heap.size ≤ b → b < W2.heap.size → (W3.setCell ⟨g, k, none⟩ (.slice (some ⟨gg, 0, none⟩) (m + 2) cap)).heap[b]? = W2.heap[b]?) ∧ Hid ((∀ (j : Nat) u b, (cs.set k (.slice (some ⟨gg, 0, none⟩) (m + 2) cap))[j]? = some u → u.ownBlock = some b → b < W1.heap.size ∨ W2.heap.size ≤ b) ∧ W2.heap.size ≤ (W3.setCell ⟨g, k, none⟩ (.slice (some ⟨gg, 0, none⟩) (m + 2) cap)).heap.size) := fun W3 gg cap z1 z2 z3 z4 => by
            have ha : PPb (wr.alloc (.cells #[.int .i64 (-6), .int .i64 (-7)] 3)) w.heap.size (.slice (some ⟨g, 0, none⟩) P.length cva) Pi cs := hA.keep fun b _ hb => Below.heap_alloc wr _ b hb
            have hne : some g ≠ (Value.slice au m cu).ownBlock := fun e => hA.no k _ _ HQ1.out e.symm rfl
            have hrow := ha.row
            rw [HL.out.1] at hrow
            have hrow' := World.ownsRow.kept hrow z2 (Or.inr hne)
            have hsz := bel.size
            have e2 : m + 2 = Pi[k].length + [(-6 : Int), -7].length := by rw [HZl.out]; rfl
            have z1' : W3.ownsRow w.heap.size 3 1 (.slice (some ⟨gg, 0, none⟩) (Pi[k].length + [(-6 : Int), -7].length) cap) (Pi[k].length + [(-6 : Int), -7].length) (ints Pi[k] ++ ints [-6, -7]) := by rw [← e2]; exact z1
            have hput := ha.putL (ys := [-6, -7]) hkPi HQ1.out (by simp) z1' z2 z3 z4
            rw [← e2] at hput
            have hgR := HGa.out
            have hoR : ∀ b, (Value.slice au m cu).ownBlock = some b → b < W1.heap.size ∨ W2.heap.size ≤ b := fun b hb => HR.out.1 k _ b HQ1.out hb
            have hsz3 : wr.heap.size + 1 ≤ W3.heap.size := by have := z2.size; simpa using this
            refine ⟨⟨_, by rw [World.ownsRow.cellAt hrow' k (by omega)]; exact HQ1.out⟩, World.ownsRow.frozenAt hrow' _, hput, ?_, fun b h1 h2 => ?_, fun j u b hu hb => ?_, ?_⟩
            · exact ((bel.alloc hsz _).grown z2 (by simp; omega) (fun j hj => (World.ownsRow.lt q4' j hj).1)).setCell (by show w.heap.size ≤ g; omega) _
            · refine (heap_set_ne (by omega)).trans ((z2.block b (by simp; omega) (fun e => ?_)).trans ((Below.heap_alloc wr _ b (by omega)).trans (HB.out b h1 h2)))
              have := hoR b e.symm
              omega
            · by_cases e : k = j
              · subst e
                rw [List.getElem?_set_self (by have := (List.getElem?_eq_some_iff.1 HQ1.out).1; exact this)] at hu
                cases hu
                cases hb
                show gg < W1.heap.size ∨ W2.heap.size ≤ gg
                rcases z3 with z3 | z3
                · exact hoR gg z3
                · right; omega
              · rw [List.getElem?_set_ne e] at hu
                exact HR.out.1 j u b hu hb
            · simp only [World.setCell]
              have : W2.heap.size ≤ W3.heap.size := by omega
              simpa using this
          have hFi : Hid _ := fin
          have HL' : Hid ((Pi.set k (Pi[k] ++ [-6, -7])).length = P.length ∧ ∀ j (h : j < (Pi.set k (Pi[k] ++ [-6, -7])).length), k + 1 ≤ j → (Pi.set k (Pi[k] ++ [-6, -7]))[j].length ≤ 1048576) := by
            refine ⟨by rw [List.length_set]; exact HL.out.1, fun j h hj => ?_⟩
            rw [List.length_set] at h
            rw [List.getElem_set_ne (by omega)]
            exact HL.out.2.1 j h (by omega)
          have ho1 : (wr.alloc (.cells #[.int .i64 (-6), .int .i64 (-7)] 3)).ownsRow w.heap.size 3 1 (.slice au m cu) m (ints Pi[k]) := World.ownsRow.alloc q4 _
          have hsz := bel.size
          clear fin hzl q3
          go_wp2_with (at_builtin; refine wpList_append_lies _ rfl _ _ 31 rfl w.heap.size 3 i0 (.int .i64 0) 1 8 Try.underlying31 hi hz0 hz1 hz2 rfl (by decide) _ m (ints Pi[k]) rfl ho1 ⟨_, 0, none⟩ 2 2 [.int .i64 (-6), .int .i64 (-7)] rfl rfl (World.news_of_block (cs := #[.int .i64 (-6), .int .i64 (-7)]) (t := 3) (fr := (0, 0)) (heap_alloc_new wr _)) (by simp [Value.oneCell']) (by omega) (by unfold maxLen; omega) (by omega) (by simp; omega) (wr.heap.size + 1) (by simp) ?_; intro gg cap W3 z1 z2 z3 z4; obtain ⟨⟨u4, k1⟩, k2, k3, k4, k5, k6⟩ := hFi.out W3 gg cap z1 z2 z3 z4; clear z1 z2 z3 z4)
          go_roundw
          case rel => exact ⟨k + 1, _, _, by simp, by omega, k4, k3, HL', k5, k6⟩
          case measure => simp [intOf]; omega
    · have pb : PPa wr W1.heap.size (.slice Ab P.length cvb) P cb := HPB.out.keep fun b h1 h2 => HB.out b h1 h2
      have hW2 := HR.out.2
      have hE1 := (f0.bel bel).mono bel.size
      clear hA HL HB HR
      obtain ⟨W3, hW3⟩ : ∃ W : World, W = wr := ⟨_, rfl⟩
      subst hW3
      go_wp2_with fail
      go_at_call 16
      refine (order_any W3 _ E root hE1 hl hk).mono ?_
      rintro e W4 ⟨vp, rfl, hp4, b4⟩
      have s4 := b4.size
      have hE4 := (hE1.bel b4).mono s4
      have HB3 : Hid (PPa W3 W1.heap.size (.slice Ab P.length cvb) P cb) := pb
      clear pb hE1
      go_wp2_with fail
      go_at_call 16
      refine (order_any W4 _ E root hE4 hl hk).mono ?_
      rintro e W5 ⟨vq, rfl, hq5, b5⟩
      have s5 := b5.size
      have hp5 : Tl W5 W3.heap.size vp (ordL E root) := row_keep hp4 fun b hb => b5.block b (World.ownsRow.lt hp4 b hb).2
      have HPr : Hid (∀ b, vp.ownBlock = some b → W3.heap.size ≤ b ∧ b < W4.heap.size) := fun b hb => World.ownsRow.lt hp4 b hb
      have HQ5 : Hid (Tl W5 W4.heap.size vq (ordL E root)) := hq5
      obtain ⟨Ap, cp, e1⟩ := row_form hp5
      obtain ⟨Aq, cq, e2⟩ := row_form hq5
      subst e1 e2
      have b35 : Below W3.heap.size W3 W5 := b4.trans (b5.mono s4)
      have hWs := bel.size
      have hze : ∃ z, (ordL E root).length = z := ⟨_, rfl⟩
      obtain ⟨z, hze⟩ := hze
      have hzn : z ≤ 1048576 := by omega
      have HZ : Hid ((ordL E root).length = z) := hze
      have HP5 : Hid (∃ xs : List Value, W5.ownsRow W3.heap.size 3 1 (.slice Ap z cp) z xs) := ⟨_, by have := hp5; unfold Tl at this; rw [hze] at this; exact this⟩
      rw [hze] at HPr HQ5 ⊢
      clear hp4 hq5 b4 b5 hE4 hp5 hze hlen
      go_wp2_with fail
      go_loopw [12] (fun kv wr => ∃ (m : Nat), kv = .int .i64 (m : Nat) ∧ m ≤ z ∧ Below W3.heap.size W3 wr ∧ Hid (∃ xs : List Value, wr.ownsRow W3.heap.size 3 1 (.slice Ap z cp) z xs) ∧ Hid (∀ b, W4.heap.size ≤ b → b < W5.heap.size → wr.heap[b]? = W5.heap[b]?) ∧ W5.heap.size ≤ wr.heap.size) (fun kv _ => z - (intOf kv).toNat)
      case atStart => exact ⟨0, rfl, by omega, b35, HP5, fun _ _ _ => rfl, Nat.le_refl _⟩
      case round =>
        clear b35 HP5
        obtain ⟨m, rfl, hmz, b35, HP5, HK5, hs5⟩ := hrel
        by_cases hmt : m < z
        · obtain ⟨xs, hx⟩ := HP5.out
          obtain ⟨gp, cp', e, hgp, _⟩ := row_some hx (by omega)
          obtain ⟨rfl, rfl⟩ : Ap = some ⟨gp, 0, none⟩ ∧ cp = cp' := by injection e with e1 e2 e3; exact ⟨e1, e3⟩
          clear e
          obtain ⟨old, ho⟩ : ∃ o, wr.cell? ⟨gp, m, none⟩ = some o := ⟨_, (World.ownsRow.cellAt hx m (by omega)).trans (List.getElem?_eq_getElem (by have := hx.1; omega))⟩
          have hof := World.ownsRow.frozenAt hx m
          have hpr := HPr.out gp rfl
          have HP6 : Hid (∃ xs : List Value, (wr.setCell ⟨gp, m, none⟩ (.int .i64 (-8))).ownsRow W3.heap.size 3 1 (.slice (some ⟨gp, 0, none⟩) z cp) z xs) := ⟨_, (World.ownsRow.stored hx m (.int .i64 (-8))).1⟩
          have HK6 : Hid (∀ b, W4.heap.size ≤ b → b < W5.heap.size → (wr.setCell ⟨gp, m, none⟩ (.int .i64 (-8))).heap[b]? = W5.heap[b]?) := fun b h1 h2 => (heap_set_ne (by omega)).trans (HK5.out b h1 h2)
          have b36 := b35.setCell (p := ⟨gp, m, none⟩) (show W3.heap.size ≤ gp from hgp) (.int .i64 (-8))
          have hs6 : W5.heap.size ≤ (wr.setCell ⟨gp, m, none⟩ (.int .i64 (-8))).heap.size := by simpa [World.setCell] using hs5
          clear HP5 HK5 hs5 b35 hx hpr
          go_wp2
          go_roundw
          case rel => exact ⟨m + 1, by simp, by omega, b36, HP6, HK6, hs6⟩
          case measure => simp [intOf]; omega
        · have pb6 : PPa wr W1.heap.size (.slice Ab P.length cvb) P cb := HB3.out.bel b35
          have hq6 : Tl wr W4.heap.size (.slice Aq z cq) (ordL E root) := row_keep HQ5.out fun b hb => by
            have := World.ownsRow.lt HQ5.out b hb
            exact HK5.out b this.1 this.2
          have B6 := bel.trans (b35.mono hWs)
          have e6 := f0.bel B6
          have s6 := B6.size
          have CP := rparts_any e6 s6 (by omega) (fun l hl => by have := hk l hl; omega)
          have t6 : EAt wr wr.heap.size (.slice Ab P.length cvb) (toI P) := pb6.ppt.eat
          have v6 : IAt wr wr.heap.size (.slice Aq z cq) (nI (ordL E root)) := vat_row hq6
          clear pb6 hq6 HP5 HK5 b35 e6
          go_wp2_with fail
          go_at_call 13
          refine CP.mono ?_
          rintro e W7 ⟨v7, P7, rfl, p7, hPo7, b7⟩
          have s7 := b7.size
          have B7 := B6.trans (b7.mono s6)
          obtain rfl := HPo.out.unique hPo7
          have t7 := (t6.bel b7).mono s7
          have v7' := (v6.bel b7).mono s7
          have C8 := rsameAll_any t7 p7 (Nat.le_refl _) (by rw [toI_len]; omega) (by rw [toI_len]; omega) (toI_mem fun l hl => by have := HPm2.out l hl; omega) (toI_mem fun l hl => by have := HPm2.out l hl; omega)
          rw [sameE_self] at C8
          have HC8 : Hid _ := C8
          clear C8 t6 v6 p7 t7 CP hPo7
          go_wp2_with fail
          go_at_call 11
          refine (Calls.mono HC8.out) ?_
          rintro e W8 ⟨rfl, b8⟩
          have s8 := b8.size
          have B8 := B7.trans (b8.mono (by omega))
          have v8 := (v7'.bel b8).mono s8
          clear HC8 v7'
          go_wp2_with fail
          go_at_call 17
          refine (rorder_any (f0.bel B8) (by omega) (by omega) (fun l hl => by have := hk l hl; omega) root).mono ?_
          rintro e W9 ⟨v9, rfl, T9, b9⟩
          have s9 := b9.size
          have B9 := B8.trans (b9.mono (by omega))
          have v9' := (v8.bel b9).mono s9
          have t9 : IAt W9 W9.heap.size v9 (nI (ordL E root)) := vat_row T9
          have C9 := rsame_any v9' t9 (Nat.le_refl _) (by rw [nI_len, HZ.out]; omega) (by rw [nI_len, HZ.out]; omega)
          rw [sameI_self] at C9
          have HC9 : Hid _ := C9
          clear C9 v8 v9' t9 T9
          go_wp2_with fail
          go_at_call 15
          refine (Calls.mono HC9.out) ?_
          rintro e W10 ⟨rfl, b10⟩
          have s10 := b10.size
          have B10 := B9.trans (b10.mono (by omega))
          clear HC9
          go_wp2_with fail
          go_at_call 14
          refine (awake_any prg W10).mono ?_
          rintro e W11 ⟨rfl, b11⟩
          go_wp2
          go_ret
          exact ⟨rfl, B10.trans (b11.mono (by omega))⟩
end Go.Proofs.Ytbliaamckldncaa
