/- Own text. OrderStands, given what the program's functions answer. -/
import Derived.Test.YtbliaamckldncaaOd9
namespace Go.Proofs.Ytbliaamckldncaa
open Go.RowKit Gph
set_option linter.unusedVariables false
set_option linter.unusedSimpArgs false

def zrs (n : Nat) : Array Value := madeCells (Value.int .i64 0).cells n
theorem make_int (n : Nat) (hn : n ≤ 4194304) (W : World) : (Instr.makeSlice 31 (.int .i64 (n : Nat)) (.int .i64 (n : Nat))).run Try.prog W = .ok (.slice (some ⟨W.heap.size, 0, none⟩) n n) (W.alloc (.cells (zrs n) 3)) := by
  obtain ⟨i0, hi0, hz0, hz1, hz2⟩ := info_parts info_int
  have h := run_make (P := Try.prog) W 31 3 i0 (.int .i64 0) Try.underlying31 hi0 hz0 .i64 .i64 n n (by omega) (by omega) (by rw [hz2]; omega) (by omega)
  rw [hz1] at h
  simpa [zrs] using h
/-- numbers in a block, one for each place. -/
abbrev Pa (w : World) (base g n : Nat) (A : List Int) : Prop := w.ownsRow base 3 1 (.slice (some ⟨g, 0, none⟩) n n) n (ints A)
theorem Pa.made {w : World} {base n : Nat} (hb : base ≤ w.heap.size) (hn : n ≤ 4194304) : Pa (w.alloc (.cells (zrs n) 3)) base w.heap.size n (List.replicate n 0) := by
  have h := World.ownsRow_lit (base := base) (e := 3) (size := 1) w (zrs n) n hb (by unfold maxLen; omega) (by unfold zrs; rw [size_madeCells]; omega)
  have e : (zrs n).toList = ints (List.replicate n 0) := by unfold zrs ints; rw [List.map_replicate]; exact toList_madeCells_one _ _
  rw [e] at h
  exact h
theorem Pa.len {w : World} {base g n : Nat} {A : List Int} (h : Pa w base g n A) : A.length = n := by have := h.1; simpa [ints] using this
theorem Pa.at {w : World} {base g n : Nat} {A : List Int} (h : Pa w base g n A) {y : Nat} (hy : y < n) : w.cell? ⟨g, y, none⟩ = some (.int .i64 ((A[y]?).getD 0)) ∧ w.frozen? ⟨g, y, none⟩ = false := by
  have hl := h.len
  refine ⟨?_, World.ownsRow.frozenAt h y⟩
  rw [World.ownsRow.cellAt h y (by omega)]
  unfold ints
  rw [List.getElem?_map, List.getElem?_eq_getElem (by omega)]
  rfl
theorem Pa.put {w : World} {base g n : Nat} {A : List Int} (h : Pa w base g n A) (y : Nat) (x : Int) : Pa (w.setCell ⟨g, y, none⟩ (.int .i64 x)) base g n (A.set y x) := by
  have h1 := (World.ownsRow.stored h y (.int .i64 x)).1
  unfold Pa ints
  rw [List.map_set]
  exact h1
theorem nI_get {O : List Nat} {p y : Nat} (h : (nI O)[p]? = some ((y : Nat) : Int)) : O[p]? = some y := by
  unfold nI at h
  rw [List.getElem?_map] at h
  cases e : O[p]? with
  | none => rw [e] at h; cases h
  | some q =>
    rw [e] at h
    simp only [Option.map_some, Option.some.injEq] at h
    rw [Int.ofNat_inj.1 h]
set_option maxRecDepth 100000 in
set_option maxHeartbeats 16000000 in
theorem stands_walk (H : Prg) (v : Value) (E : List (List Int)) (root : Int) (w : World) (hz : E.length ≤ 1048576 ∧ ∀ l ∈ E, l.length ≤ 1048576) (f0 : EAt w w.heap.size v E) :
    Calls Try.prog 6 #[v, .int .i64 root] w fun e w' => e = .returned (.bool true) ∧ Below w.heap.size w w' := by
  obtain ⟨hl, hk⟩ := hz
  have C := rcheck_any f0 (Nat.le_refl _) (by omega) (fun l hl => by have := hk l hl; omega)
  obtain ⟨ad, c, rfl⟩ := f0.op
  by_cases hgood : chk E = true ∧ 0 ≤ root ∧ root < E.length
  · obtain ⟨hc, h0, h1⟩ := hgood
    have ec : chkN E = 0 := by unfold chkN; rw [if_pos hc]
    rw [ec] at C
    clear ec
    obtain ⟨r, rfl⟩ : ∃ r : Nat, root = r := ⟨root.toNat, by omega⟩
    obtain ⟨hG, hok⟩ := graph_of hc
    have hr : r < (nE E).length := by rw [nE_len]; omega
    have HO : Hid (Ordd (nE E) r (ordL E r)) := by
      have := ordd_of hok hr
      rw [nE_len] at this
      show Ordd _ _ _
      rw [ordL, if_pos ⟨hc, by omega, h1⟩]
      exact this
    have HP : Hid (∀ P, PartsOf E P → Split (nE E) P) := fun P hP => by
      obtain ⟨m, h1, rfl⟩ := hP.yes hc
      have := split_of h1
      rwa [nE_len] at this
    have hlen := ordL_len (E := E) (r : Int)
    have hkk := ed_len (E := E) (fun l hl => by have := hk l hl; omega)
    have CO := fun (W : World) (b : Below w.heap.size w W) => H.od W _ E r ((f0.bel b).mono b.size) hl hk
    have CP := fun (W : World) (b : Below w.heap.size w W) => H.pt W _ E ((f0.bel b).mono b.size) hl hk
    obtain ⟨O, hO⟩ : ∃ O, ordL E r = O := ⟨_, rfl⟩
    rw [hO] at HO hlen CO
    rw [hG] at f0
    obtain ⟨G, hGE⟩ : ∃ G, nE E = G := ⟨_, rfl⟩
    have hGl : E.length = G.length := by rw [← hGE, nE_len]
    rw [hGl] at hl C hlen CO CP h1 ⊢
    rw [hGE] at hok hkk HO HP hr f0
    rw [toI_len] at f0
    have hEG : E.length ≤ G.length := by omega
    have HCO : Hid _ := CO
    have HCP : Hid _ := CP
    clear hO hG hGE hGl CO CP hk hc h0
    have hmk := fun W => make_int G.length (by omega) W
    have hr0 : ¬ ((r : Nat) : Int) < 0 := by omega
    go_enter Try.func6, Try.ntmps6
    go_wp2_with fail
    go_at_call 10
    refine C.mono ?_
    rintro e W1 ⟨rfl, b1⟩
    have z1 := b1.size
    clear C
    go_wp2_with fail
    go_at_call 16
    refine (HCO.out W1 b1).mono ?_
    rintro e W2 ⟨vo, rfl, hT, b2⟩
    have z2 := b2.size
    have B2 := b1.trans (b2.mono z1)
    go_wp2_with fail
    go_at_call 12
    refine (HCP.out W2 B2).mono ?_
    rintro e W3 ⟨vp, P, rfl, hP, hPo, b3⟩
    have z3 := b3.size
    have B3 := B2.trans (b3.mono (by omega))
    have HS : Hid (Split G P) := HP.out P hPo
    have hPl := hPo.len
    have hTI : IAt W3 W3.heap.size vo (nI O) := ((vat_row hT).bel b3).mono z3
    have hPE := hP.eat
    have hfE := f0.bel B3
    obtain ⟨T, hTe⟩ := HO.out.last
    obtain ⟨k1, hk1⟩ : ∃ k1, O.length = k1 + 1 := ⟨T.length, by rw [hTe]; simp⟩
    obtain ⟨bo, oo, co, rfl, hbo, hoc⟩ := hTI.nl.2 (by omega)
    have hlast : W3.cell? ⟨bo, oo + k1, none⟩ = some (.int .i64 (r : Nat)) := by
      rw [hoc k1 (by omega)]
      have e : k1 = T.length := by rw [hTe] at hk1; simp at hk1; omega
      subst e
      simp [hTe]
    have HOC : Hid (∀ W, Below W3.heap.size W3 W → ∀ i (h : i < O.length), W.cell? ⟨bo, oo + i, none⟩ = some (.int .i64 (O[i] : Nat))) := fun W b i hi => (World.cell?_of_block (a := ⟨bo, oo + i, none⟩) (b.block bo hbo)).trans (hoc i hi)
    have HOI : Hid (∀ W, Below W3.heap.size W3 W → IAt W W3.heap.size (.slice (some ⟨bo, oo, none⟩) O.length co) (nI O)) := fun W b => hTI.bel b
    have HPC : Hid (0 < P.length → ∃ (b o c : Nat) (fv : Nat → Value), vp = .slice (some ⟨b, o, none⟩) P.length c ∧ ∀ W, Below W3.heap.size W3 W → ∀ i (hi : i < P.length), ∃ ad c', W.cell? ⟨b, o + i, none⟩ = some (.slice ad P[i].length c') ∧ ∀ m (h : m < P[i].length), ∃ b' o', ad = some ⟨b', o', none⟩ ∧ W.cell? ⟨b', o' + m, none⟩ = some (.int .i64 (P[i][m] : Nat))) := fun h0 => by
      obtain ⟨b, o, c, fv, e, hb, hf⟩ := hPE.gl h0
      refine ⟨b, o, c, fv, e, fun W bl i hi => ?_⟩
      obtain ⟨f1, f2⟩ := hf i hi
      rw [ed_eq hi] at f2
      obtain ⟨⟨ad, c', e'⟩, hcl⟩ := f2.nl
      rw [e'] at f1 hcl
      refine ⟨ad, c', (World.cell?_of_block (a := ⟨b, o + i, none⟩) (bl.block b hb)).trans f1, fun m hm => ?_⟩
      obtain ⟨b', o', c2, e2, hb', hc'⟩ := hcl (by omega)
      cases e2
      exact ⟨b', o', rfl, (World.cell?_of_block (a := ⟨b', o' + m, none⟩) (bl.block b' hb')).trans (hc' m hm)⟩
    obtain ⟨ap, cp, hvp⟩ := hPE.op
    rw [toI_len] at hvp
    subst hvp
    obtain ⟨bl, ol, cl, fl, el, hbl, hfl⟩ := hfE.gl (by omega)
    obtain ⟨rfl, rfl⟩ : ad = some ⟨bl, ol, none⟩ ∧ c = cl := by cases el; exact ⟨rfl, rfl⟩
    have HLC : Hid (∀ W, Below W3.heap.size W3 W → ∀ x, x < G.length → ∃ ad c', W.cell? ⟨bl, ol + x, none⟩ = some (.slice ad (ed G x).length c') ∧ ∀ m (h : m < (ed G x).length), ∃ b' o', ad = some ⟨b', o', none⟩ ∧ W.cell? ⟨b', o' + m, none⟩ = some (.int .i64 ((ed G x)[m] : Nat))) := fun W b x hx => by
      obtain ⟨f1, f2⟩ := hfl x hx
      obtain ⟨⟨ad, c', e'⟩, hcl⟩ := f2.nl
      rw [e'] at f1 hcl
      have b' := b.mono (show w.heap.size ≤ W3.heap.size by omega)
      refine ⟨ad, c', (World.cell?_of_block (a := ⟨bl, ol + x, none⟩) (b'.block bl hbl)).trans f1, fun m hm => ?_⟩
      obtain ⟨b2, o2, c2, e2, hb2, hc2⟩ := hcl (by omega)
      cases e2
      exact ⟨b2, o2, rfl, (World.cell?_of_block (a := ⟨b2, o2 + m, none⟩) (b'.block b2 hb2)).trans (hc2 m hm)⟩
    have HB3 : Hid (Below w.heap.size w W3) := B3
    have HK1 : Hid (O.length = k1 + 1) := hk1
    rw [hk1] at hlen ⊢
    clear hTI hPE hfE hTe hoc el hfl hT hP hPo HCO HCP HP b1 b2 b3 B2 B3 f0 hk1
    have hk0 : (((k1 : Nat) : Int) + 1 == 0) = false := by simp; omega
    go_wp2
    clear hk0
    obtain ⟨W4, hW4⟩ : ∃ W, W3.alloc (.cells (zrs G.length) 3) = W := ⟨_, rfl⟩
    have b4 : Below W3.heap.size W3 W4 := by rw [← hW4]; exact (Below.refl _ _).alloc (Nat.le_refl _) _
    have hA4 : Pa W4 W3.heap.size W3.heap.size G.length (List.replicate G.length 0) := by rw [← hW4]; exact Pa.made (Nat.le_refl _) (by omega)
    rw [hW4]
    clear hW4 hmk
    have hcount := HS.out.count
    have HCT : Hid (P.flatten.length = G.length) := hcount
    have HTL : Hid (∀ i, (P.take i).flatten.length ≤ G.length) := fun i => by
      rw [← hcount]
      conv => rhs; rw [← List.take_append_drop i P]
      rw [List.flatten_append, List.length_append]
      omega
    clear hcount
    go_loopw [8, 9] (fun nv iv wr => ∃ (i : Nat) (A : List Int), iv = .int .i64 (i : Nat) ∧ nv = .int .i64 ((P.take i).flatten.length : Nat) ∧ i ≤ P.length ∧ Below W3.heap.size W3 wr ∧ Pa wr W3.heap.size W3.heap.size G.length A ∧ Hid (∀ j (hj : j < P.length), j < i → ∀ x ∈ P[j], A[x]? = some (j : Int))) (fun _ iv _ => P.length - (intOf iv).toNat)
    case atStart => exact ⟨0, _, rfl, rfl, by omega, b4, hA4, fun j hj h => absurd h (Nat.not_lt_zero _)⟩
    case round =>
      clear b4 hA4
      obtain ⟨i, A, rfl, rfl, hiP, bel, hA, hH⟩ := hrel
      by_cases hit : i < P.length
      · obtain ⟨bp, op, cp', fp, ep, hpc⟩ := HPC.out (by omega)
        obtain ⟨rfl, rfl⟩ : ap = some ⟨bp, op, none⟩ ∧ cp = cp' := by cases ep; exact ⟨rfl, rfl⟩
        have HPI : Hid _ := hpc
        clear ep hpc
        obtain ⟨adp, cdp, p1, p2⟩ := HPI.out _ bel i hit
        have hpl := hPl.2 P[i] (List.getElem_mem hit)
        have HLT : Hid (∀ x ∈ P[i], x < G.length) := fun x hx => HS.out.lt _ (List.getElem_mem hit) x hx
        have HTK : Hid ((P.take (i + 1)).flatten.length = (P.take i).flatten.length + P[i].length) := by show _ = _; rw [List.take_succ_eq_append_getElem hit, List.flatten_append, List.length_append]; simp
        have htl := HTL.out (i + 1)
        rw [HTK.out] at htl
        have HAL : Hid (∀ j (hj : j < P.length), j < i → ∀ x ∈ P[j], x ∉ P[i]) := fun j hj h x h1 h2 => by have := HS.out.alone j i hj hit x h1 h2; omega
        have HND : Hid (∀ j (hj : j < P.length), j < i + 1 → ∀ x ∈ P[j], (j < i ∨ x ∈ P[i])) := fun j hj h x hx => by
          rcases Nat.lt_or_eq_of_le (Nat.lt_succ_iff.1 h) with q | rfl
          · exact Or.inl q
          · exact Or.inr hx
        have HEQ : Hid (∀ j (hj : j < P.length), j = i → ∀ x ∈ P[j], x ∈ P[i]) := fun j hj h x hx => by subst h; exact hx
        generalize hcn : (P.take i).flatten.length = cn at *
        generalize hpi : P[i] = l at *
        go_wp2
        go_loopw [8, 10] (fun nv kv wq => ∃ (k : Nat) (A' : List Int), kv = .int .i64 (k : Nat) ∧ nv = .int .i64 ((cn + k : Nat) : Int) ∧ k ≤ l.length ∧ Below W3.heap.size W3 wq ∧ Pa wq W3.heap.size W3.heap.size G.length A' ∧ Hid (∀ j (hj : j < P.length), j < i → ∀ x ∈ P[j], A'[x]? = some (j : Int)) ∧ Hid (∀ x ∈ l.take k, A'[x]? = some (i : Int))) (fun _ kv _ => l.length - (intOf kv).toNat)
        case atStart => exact ⟨0, A, rfl, rfl, by omega, bel, hA, hH, by simp [Hid]⟩
        case round =>
          clear bel hA hH p1 p2
          obtain ⟨k, A', rfl, rfl, hkl, bel, hA, hH, hK⟩ := hrel
          obtain ⟨adp, cdp, p1, p2⟩ := HPI.out _ bel i hit
          rw [hpi] at p1
          by_cases hkt : k < l.length
          · have hkt' : k < P[i].length := by rw [hpi]; exact hkt
            obtain ⟨b', o', rfl, p3⟩ := p2 k hkt'
            have ey : P[i][k] = l[k] := by simp [hpi]
            rw [ey] at p3
            have hy := HLT.out l[k] (List.getElem_mem hkt)
            have HY : Hid (l[k] ∈ l) := List.getElem_mem hkt
            have HTT : Hid (l.take (k + 1) = l.take k ++ [l[k]]) := List.take_succ_eq_append_getElem hkt
            clear p2 ey hkt'
            generalize l[k] = y at *
            obtain ⟨d1, d2⟩ := hA.at hy
            have hAp := hA.put y (i : Int)
            have hAl := hA.len
            have H1 : Hid (∀ j (hj : j < P.length), j < i → ∀ x ∈ P[j], (A'.set y (i : Int))[x]? = some (j : Int)) := fun j hj h x hx => by
              rw [List.getElem?_set_ne (fun e => HAL.out j hj h x hx (by rw [← e]; exact HY.out))]
              exact hH.out j hj h x hx
            have H2 : Hid (∀ x ∈ l.take (k + 1), (A'.set y (i : Int))[x]? = some (i : Int)) := fun x hx => by
              rw [HTT.out] at hx
              by_cases e : y = x
              · subst e; rw [List.getElem?_set_self (by omega)]
              · rw [List.getElem?_set_ne e]
                rcases List.mem_append.1 hx with hx | hx
                · exact hK.out x hx
                · exact absurd (List.mem_singleton.1 hx).symm e
            have bp1 : Below W3.heap.size W3 (wr.setCell ⟨W3.heap.size, y, none⟩ (.int .i64 (i : Nat))) := bel.setCell (Nat.le_refl _) _
            have hy0 : ¬ ((y : Nat) : Int) < 0 := by omega
            go_wp2
            go_roundw
            case rel => exact ⟨k + 1, _, by simp, by simp; omega, by omega, bp1, hAp, H1, H2⟩
            case measure => simp [intOf]; omega
          · have e : l.take k = l := List.take_of_length_le (by omega)
            rw [e] at hK
            have H3 : Hid (∀ j (hj : j < P.length), j < i + 1 → ∀ x ∈ P[j], A'[x]? = some (j : Int)) := fun j hj h x hx => by
              rcases Nat.lt_or_eq_of_le (Nat.lt_succ_iff.1 h) with q | q
              · exact hH.out j hj q x hx
              · subst q; exact hK.out x (HEQ.out j hj rfl x hx)
            have ekl : k = l.length := by omega
            clear p2 e
            go_wp2
            go_roundw
            case rel => exact ⟨i + 1, A', by simp, by rw [HTK.out]; simp; omega, by omega, bel, hA, H3⟩
            case measure => simp [intOf]; omega
      · obtain rfl : i = P.length := by omega
        have hcnt : (P.take P.length).flatten.length = G.length := by rw [List.take_length]; exact HCT.out
        rw [hcnt]
        have HPA : Hid (∀ x y, x < G.length → y < G.length → Mut G x y → (A[x]?).getD 0 = (A[y]?).getD 0) := fun x y hx hy hm => by
          obtain ⟨j, hj, hxj⟩ := HS.out.cover x hx
          have hyj := HS.out.same j hj x y hxj hy hm
          rw [hH.out j hj hj x hxj, hH.out j hj hj y hyj]
        have HAC : Hid (∀ W, Below wr.heap.size wr W → ∀ x, x < G.length → W.cell? ⟨W3.heap.size, x, none⟩ = some (.int .i64 ((A[x]?).getD 0))) := fun W b x hx => by
          obtain ⟨h1, _⟩ := hA.at hx
          exact (World.cell?_of_block (a := ⟨W3.heap.size, x, none⟩) (b.block W3.heap.size (World.ownsRow.lt hA _ rfl).2)).trans h1
        have z5 := bel.size
        obtain ⟨w5, hw5⟩ : ∃ W, wr = W := ⟨_, rfl⟩
        have HB5 : Hid (Below W3.heap.size W3 w5) := by rw [← hw5]; exact bel
        have z6 : W3.heap.size ≤ w5.heap.size := by rw [← hw5]; exact z5
        have b5 : Below w5.heap.size w5 wr := by rw [← hw5]; exact Below.refl _ _
        have z7 : wr.heap.size ≤ w5.heap.size := by rw [← hw5]; exact Nat.le_refl _
        rw [hw5] at HAC
        clear hcnt hA hH bel hw5 z5 z7 HPC HTL HCT hit hiP
        go_wp2
        go_loopw [12] (fun iv wq => ∃ i : Nat, iv = .int .i64 (i : Nat) ∧ i ≤ k1 + 1 ∧ Below w5.heap.size w5 wq) (fun iv _ => k1 + 1 - (intOf iv).toNat)
        case atStart => exact ⟨0, rfl, by omega, b5⟩
        case round =>
          clear b5
          obtain ⟨i, rfl, hik, bel⟩ := hrel
          have b3 := HB5.out.trans (bel.mono z6)
          by_cases hit : i < k1 + 1
          · have hiO : i < O.length := by rw [HK1.out]; exact hit
            have o1 := HOC.out _ b3 i hiO
            have hxn := HO.out.lt O[i] (List.getElem_mem hiO)
            have zq := bel.size
            have AT := fun (W : World) (b : Below w5.heap.size w5 W) (x : Int) => at_any (HOI.out W (HB5.out.trans (b.mono z6))) (show W3.heap.size ≤ W.heap.size by have := b.size; omega) (by rw [nI_len, HK1.out]; omega) x
            rw [HK1.out] at AT
            have HAT : Hid _ := AT
            have HFI : Hid (∀ p : Nat, (nI O)[p]? = some ((O[i] : Nat) : Int) → p = i) := fun p hp => by
              have hp2 : O[p]? = some O[i] := nI_get hp
              obtain ⟨h1, h2⟩ := List.getElem?_eq_some_iff.1 hp2
              exact (List.getElem_inj HO.out.nodup).1 h2
            have HFM : Hid (((O[i] : Nat) : Int) ∈ nI O) := List.mem_map.2 ⟨_, List.getElem_mem hiO, rfl⟩
            have HED : Hid (∀ y ∈ ed G O[i], y < G.length ∧ ((y : Nat) : Int) ∈ nI O ∧ ∀ p : Nat, (nI O)[p]? = some ((y : Nat) : Int) → i < p → Mut G y O[i]) := fun y hy => by
              obtain ⟨h1, h2⟩ := HO.out.edge i hiO y hy
              refine ⟨hok _ _ hy, List.mem_map.2 ⟨_, h1, rfl⟩, fun p hp hlt => ?_⟩
              have hp2 : O[p]? = some y := nI_get hp
              obtain ⟨h3, h4⟩ := List.getElem?_eq_some_iff.1 hp2
              exact h2 p h3 h4 hlt
            have hel := hkk O[i]
            clear AT
            generalize hOx : O[i] = x at *
            have HOX : Hid (O[i] = x) := hOx
            clear hOx
            obtain ⟨ade, cde, l1, l2⟩ := HLC.out _ b3 x hxn
            have hx0 : ¬ ((x : Nat) : Int) < 0 := by omega
            have hxg : ¬ ((G.length : Nat) : Int) ≤ ((x : Nat) : Int) := by omega
            go_wp2_with fail
            go_at_call 19
            refine (HAT.out _ bel _).mono ?_
            rintro e W6 ⟨r6, rfl, hr6, b6⟩
            obtain rfl : r6 = (i : Int) := by
              rcases hr6 with ⟨p, rfl, h1, _⟩ | ⟨_, h1⟩
              · rw [HFI.out p h1]
              · exact absurd HFM.out h1
            have B6 := bel.trans (b6.mono zq)
            clear hr6 l1 l2 o1
            have b36 := HB5.out.trans (B6.mono z6)
            obtain ⟨ade, cde, l1, l2⟩ := HLC.out _ b36 x hxn
            have o1 := HOC.out _ b36 i hiO
            rw [HOX.out] at o1
            clear l2
            have HLX : Hid (∀ W, Below W3.heap.size W3 W → ∃ ad c', W.cell? ⟨bl, ol + x, none⟩ = some (.slice ad (ed G x).length c') ∧ ∀ m (h : m < (ed G x).length), ∃ b' o', ad = some ⟨b', o', none⟩ ∧ W.cell? ⟨b', o' + m, none⟩ = some (.int .i64 ((ed G x)[m] : Nat))) := fun W b => HLC.out W b x hxn
            go_wp2
            go_loopw [13] (fun kv wq => ∃ k : Nat, kv = .int .i64 (k : Nat) ∧ k ≤ (ed G x).length ∧ Below w5.heap.size w5 wq) (fun kv _ => (ed G x).length - (intOf kv).toNat)
            case atStart => exact ⟨0, rfl, by omega, B6⟩
            case round =>
              clear b36 B6 l1 o1 bel b3 b6
              obtain ⟨k, rfl, hkl, bel⟩ := hrel
              have zr := bel.size
              have b3 := HB5.out.trans (bel.mono z6)
              have o1 := HOC.out _ b3 i hiO
              rw [HOX.out] at o1
              obtain ⟨ade, cde, l1, l2⟩ := HLX.out _ b3
              by_cases hkt : k < (ed G x).length
              · obtain ⟨b', o', rfl, l3⟩ := l2 k hkt
                obtain ⟨y1, y2, y3⟩ := HED.out _ (List.getElem_mem hkt)
                have HY2 : Hid _ := y2
                have HY3 : Hid _ := y3
                clear l2 y2 y3
                generalize (ed G x)[k] = y at *
                go_wp2_with fail
                go_at_call 19
                refine (HAT.out _ bel _).mono ?_
                rintro e W7 ⟨r7, rfl, hr7, b7⟩
                obtain ⟨p, rfl, hp⟩ : ∃ p : Nat, r7 = p ∧ (nI O)[p]? = some ((y : Nat) : Int) := by
                  rcases hr7 with ⟨p, rfl, h1, _⟩ | ⟨_, h1⟩
                  · exact ⟨p, rfl, h1⟩
                  · exact absurd HY2.out h1
                have B7 := bel.trans (b7.mono zr)
                have z8 := b7.size
                have HMU : Hid (i < p → Mut G y x) := fun q => HY3.out p hp q
                clear hr7 hp l1 l3 o1 b3
                have b37 := HB5.out.trans (B7.mono z6)
                have o1 := HOC.out _ b37 i hiO
                rw [HOX.out] at o1
                have a1 := HAC.out _ B7 y y1
                have a2 := HAC.out _ B7 x hxn
                have hp0 : ¬ ((p : Nat) : Int) < 0 := by omega
                by_cases hpi : (i : Int) < (p : Int)
                · have hm := HMU.out (by omega)
                  have ea := HPA.out y x y1 hxn hm
                  rw [ea] at a1
                  clear hm ea
                  generalize (A[x]?).getD 0 = av at *
                  go_wp2
                  have hS0 : W7.drew.cell? ⟨W3.heap.size, y, none⟩ = some (.int .i64 av) ∧ W7.drew.cell? ⟨W3.heap.size, x, none⟩ = some (.int .i64 av) ∧ W7.drew.cell? ⟨bo, oo + i, none⟩ = some (.int .i64 (x : Nat)) := ⟨a1, a2, o1⟩
                  refine wp_region_noPanic ?_
                  refine wp_region_held_drew (S := fun W => W.cell? ⟨W3.heap.size, y, none⟩ = some (.int .i64 av) ∧ W.cell? ⟨W3.heap.size, x, none⟩ = some (.int .i64 av) ∧ W.cell? ⟨bo, oo + i, none⟩ = some (.int .i64 (x : Nat))) (by kernel_rfl) hS0 (fun hHeld => ?_)
                  refine wpAnyH_take (i := 0) (v := ?ztv0) rfl (by kernel_rfl) (by kernel_rfl) (by kernel_rfl) (fun _ _ _ h => h) (Or.inl ⟨by rfl, ?zty0⟩) (by assumption) ?ztr0
                  case zty0 => (intro w hSw; (try dsimp only at hSw); (try simp only [List.getElem_toArray, List.getElem_cons_zero, List.getElem_cons_succ]); go_simp; first | done | omega | with_reducible rfl)
                  simp only [Act.put, List.getElem_toArray, List.getElem_cons_zero, List.getElem_cons_succ, List.setIfInBounds_toArray, List.set_cons_zero, List.set_cons_succ]
                  refine wpAnyH_take (i := 1) (v := (.bool false)) rfl (by kernel_rfl) (by kernel_rfl) (by kernel_rfl) (fun _ _ _ h => h) (Or.inl ⟨by rfl, ?zty1⟩) (by assumption) ?ztr1
                  case zty1 => (intro w hSw; (try dsimp only at hSw); (try simp only [List.getElem_toArray, List.getElem_cons_zero, List.getElem_cons_succ]); go_simp; first | done | omega | with_reducible rfl)
                  simp only [Act.put, List.getElem_toArray, List.getElem_cons_zero, List.getElem_cons_succ, List.setIfInBounds_toArray, List.set_cons_zero, List.set_cons_succ]
                  refine wpAnyH_take (i := 2) (v := (.bool false)) rfl (by kernel_rfl) (by kernel_rfl) (by kernel_rfl) (fun _ _ _ h => h) (Or.inl ⟨by rfl, ?zty2⟩) (by assumption) ?ztr2
                  case zty2 => (intro w hSw; (try dsimp only at hSw); (try simp only [List.getElem_toArray, List.getElem_cons_zero, List.getElem_cons_succ]); go_simp; first | done | omega | with_reducible rfl)
                  simp only [Act.put, List.getElem_toArray, List.getElem_cons_zero, List.getElem_cons_succ, List.setIfInBounds_toArray, List.set_cons_zero, List.set_cons_succ]
                  refine wpAnyH_take (i := 3) (v := ?ztv3) rfl (by kernel_rfl) (by kernel_rfl) (by kernel_rfl) (fun _ _ _ h => h) (Or.inl ⟨by rfl, ?zty3⟩) (by assumption) ?ztr3
                  case zty3 => (intro w hSw; (try dsimp only at hSw); (try simp only [List.getElem_toArray, List.getElem_cons_zero, List.getElem_cons_succ]); go_simp; first | done | omega | with_reducible rfl)
                  simp only [Act.put, List.getElem_toArray, List.getElem_cons_zero, List.getElem_cons_succ, List.setIfInBounds_toArray, List.set_cons_zero, List.set_cons_succ]
                  refine wpAnyH_take (i := 4) (v := ?ztv4) rfl (by kernel_rfl) (by kernel_rfl) (by kernel_rfl) (fun _ _ _ h => h) (Or.inl ⟨by rfl, ?zty4⟩) (by assumption) ?ztr4
                  case zty4 => (intro w hSw; (try dsimp only at hSw); (try simp only [List.getElem_toArray, List.getElem_cons_zero, List.getElem_cons_succ]); go_simp; first | done | omega | with_reducible rfl)
                  simp only [Act.put, List.getElem_toArray, List.getElem_cons_zero, List.getElem_cons_succ, List.setIfInBounds_toArray, List.set_cons_zero, List.set_cons_succ]
                  refine wpAnyH_take (i := 5) (v := (.bool true)) rfl (by kernel_rfl) (by kernel_rfl) (by kernel_rfl) (fun _ _ _ h => h) (Or.inl ⟨by rfl, ?zty5⟩) (by assumption) ?ztr5
                  case zty5 => (intro w hSw; (try dsimp only at hSw); (try simp only [List.getElem_toArray, List.getElem_cons_zero, List.getElem_cons_succ]); go_simp; first | done | omega | with_reducible rfl)
                  simp only [Act.put, List.getElem_toArray, List.getElem_cons_zero, List.getElem_cons_succ, List.setIfInBounds_toArray, List.set_cons_zero, List.set_cons_succ]
                  refine wpAnyH_take (i := 6) (v := (.bool true)) rfl (by kernel_rfl) (by kernel_rfl) (by kernel_rfl) (fun _ _ _ h => h) (Or.inl ⟨by rfl, ?zty6⟩) (by assumption) ?ztr6
                  case zty6 => (intro w hSw; (try dsimp only at hSw); (try simp only [List.getElem_toArray, List.getElem_cons_zero, List.getElem_cons_succ]); go_simp; first | done | omega | with_reducible rfl)
                  simp only [Act.put, List.getElem_toArray, List.getElem_cons_zero, List.getElem_cons_succ, List.setIfInBounds_toArray, List.set_cons_zero, List.set_cons_succ]
                  refine wpAnyH_take (i := 7) (v := ?ztv7) rfl (by kernel_rfl) (by kernel_rfl) (by kernel_rfl) (fun _ _ _ h => h) (Or.inl ⟨by rfl, ?zty7⟩) (by assumption) ?ztr7
                  case zty7 => (intro w hSw; (try dsimp only at hSw); (try simp only [List.getElem_toArray, List.getElem_cons_zero, List.getElem_cons_succ]); go_simp; first | done | omega | with_reducible rfl)
                  simp only [Act.put, List.getElem_toArray, List.getElem_cons_zero, List.getElem_cons_succ, List.setIfInBounds_toArray, List.set_cons_zero, List.set_cons_succ]
                  refine wpAnyH_take (i := 8) (v := ?ztv8) rfl (by kernel_rfl) (by kernel_rfl) (by kernel_rfl) (fun _ _ _ h => h) (Or.inl ⟨by rfl, ?zty8⟩) (by assumption) ?ztr8
                  case zty8 => (intro w hSw; (try dsimp only at hSw); (try simp only [List.getElem_toArray, List.getElem_cons_zero, List.getElem_cons_succ]); go_simp; first | done | omega | with_reducible rfl)
                  simp only [Act.put, List.getElem_toArray, List.getElem_cons_zero, List.getElem_cons_succ, List.setIfInBounds_toArray, List.set_cons_zero, List.set_cons_succ]
                  refine wpAnyH_take (i := 9) (v := ?ztv9) rfl (by kernel_rfl) (by kernel_rfl) (by kernel_rfl) (fun _ _ _ h => h) (Or.inl ⟨by rfl, ?zty9⟩) (by assumption) ?ztr9
                  case zty9 => (intro w hSw; (try dsimp only at hSw); (try simp only [List.getElem_toArray, List.getElem_cons_zero, List.getElem_cons_succ]); go_simp; first | done | omega | with_reducible rfl)
                  simp only [Act.put, List.getElem_toArray, List.getElem_cons_zero, List.getElem_cons_succ, List.setIfInBounds_toArray, List.set_cons_zero, List.set_cons_succ]
                  refine wpAnyH_take (i := 10) (v := ?ztv10) rfl (by kernel_rfl) (by kernel_rfl) (by kernel_rfl) (fun _ _ _ h => h) (Or.inl ⟨by rfl, ?zty10⟩) (by assumption) ?ztr10
                  case zty10 => (intro w hSw; (try dsimp only at hSw); (try simp only [List.getElem_toArray, List.getElem_cons_zero, List.getElem_cons_succ]); go_simp; first | done | omega | with_reducible rfl)
                  simp only [Act.put, List.getElem_toArray, List.getElem_cons_zero, List.getElem_cons_succ, List.setIfInBounds_toArray, List.set_cons_zero, List.set_cons_succ]
                  refine wpAnyH_take (i := 11) (v := ?ztv11) rfl (by kernel_rfl) (by kernel_rfl) (by kernel_rfl) (fun _ _ _ h => h) (Or.inl ⟨by rfl, ?zty11⟩) (by assumption) ?ztr11
                  case zty11 => (intro w hSw; (try dsimp only at hSw); (try simp only [List.getElem_toArray, List.getElem_cons_zero, List.getElem_cons_succ]); go_simp; first | done | omega | with_reducible rfl)
                  simp only [Act.put, List.getElem_toArray, List.getElem_cons_zero, List.getElem_cons_succ, List.setIfInBounds_toArray, List.set_cons_zero, List.set_cons_succ]
                  refine wpAnyH_take (i := 12) (v := ?ztv12) rfl (by kernel_rfl) (by kernel_rfl) (by kernel_rfl) (fun _ _ _ h => h) (Or.inl ⟨by rfl, ?zty12⟩) (by assumption) ?ztr12
                  case zty12 => (intro w hSw; (try dsimp only at hSw); (try simp only [List.getElem_toArray, List.getElem_cons_zero, List.getElem_cons_succ]); go_simp; first | done | omega | with_reducible rfl)
                  simp only [Act.put, List.getElem_toArray, List.getElem_cons_zero, List.getElem_cons_succ, List.setIfInBounds_toArray, List.set_cons_zero, List.set_cons_succ]
                  refine wpAnyH_take (i := 13) (v := ?ztv13) rfl (by kernel_rfl) (by kernel_rfl) (by kernel_rfl) (fun _ _ _ h => h) (Or.inl ⟨by rfl, ?zty13⟩) (by assumption) ?ztr13
                  case zty13 => (intro w hSw; (try dsimp only at hSw); (try simp only [List.getElem_toArray, List.getElem_cons_zero, List.getElem_cons_succ]); go_simp; first | done | omega | with_reducible rfl)
                  simp only [Act.put, List.getElem_toArray, List.getElem_cons_zero, List.getElem_cons_succ, List.setIfInBounds_toArray, List.set_cons_zero, List.set_cons_succ]
                  refine wpAnyH_take (i := 14) (v := ?ztv14) rfl (by kernel_rfl) (by kernel_rfl) (by kernel_rfl) (fun _ _ _ h => h) (Or.inl ⟨by rfl, ?zty14⟩) (by assumption) ?ztr14
                  case zty14 => (intro w hSw; (try dsimp only at hSw); (try simp only [List.getElem_toArray, List.getElem_cons_zero, List.getElem_cons_succ]); go_simp; first | done | omega | with_reducible rfl)
                  simp only [Act.put, List.getElem_toArray, List.getElem_cons_zero, List.getElem_cons_succ, List.setIfInBounds_toArray, List.set_cons_zero, List.set_cons_succ]
                  refine wpAnyH_take (i := 15) (v := ?ztv15) rfl (by kernel_rfl) (by kernel_rfl) (by kernel_rfl) (fun _ _ _ h => h) (Or.inl ⟨by rfl, ?zty15⟩) (by assumption) ?ztr15
                  case zty15 => (intro w hSw; (try dsimp only at hSw); (try simp only [List.getElem_toArray, List.getElem_cons_zero, List.getElem_cons_succ]); go_simp; first | done | omega | with_reducible rfl)
                  simp only [Act.put, List.getElem_toArray, List.getElem_cons_zero, List.getElem_cons_succ, List.setIfInBounds_toArray, List.set_cons_zero, List.set_cons_succ]
                  refine wpAnyH_take (i := 16) (v := ?ztv16) rfl (by kernel_rfl) (by kernel_rfl) (by kernel_rfl) (fun _ _ _ h => h) (Or.inl ⟨by rfl, ?zty16⟩) (by assumption) ?ztr16
                  case zty16 => (intro w hSw; (try dsimp only at hSw); (try simp only [List.getElem_toArray, List.getElem_cons_zero, List.getElem_cons_succ]); go_simp; first | done | omega | with_reducible rfl)
                  simp only [Act.put, List.getElem_toArray, List.getElem_cons_zero, List.getElem_cons_succ, List.setIfInBounds_toArray, List.set_cons_zero, List.set_cons_succ]
                  refine wpAnyH_take (i := 17) (v := ?ztv17) rfl (by kernel_rfl) (by kernel_rfl) (by kernel_rfl) (fun _ _ _ h => h) (Or.inl ⟨by rfl, ?zty17⟩) (by assumption) ?ztr17
                  case zty17 => (intro w hSw; (try dsimp only at hSw); (try simp only [List.getElem_toArray, List.getElem_cons_zero, List.getElem_cons_succ]); go_simp; first | done | omega | with_reducible rfl)
                  simp only [Act.put, List.getElem_toArray, List.getElem_cons_zero, List.getElem_cons_succ, List.setIfInBounds_toArray, List.set_cons_zero, List.set_cons_succ]
                  refine wpAnyH_take (i := 18) (v := (.bool false)) rfl (by kernel_rfl) (by kernel_rfl) (by kernel_rfl) (fun _ _ _ h => h) (Or.inl ⟨by rfl, ?zty18⟩) (by assumption) ?ztr18
                  case zty18 => (intro w hSw; (try dsimp only at hSw); (try simp only [List.getElem_toArray, List.getElem_cons_zero, List.getElem_cons_succ]); go_simp; first | done | omega | with_reducible rfl)
                  simp only [Act.put, List.getElem_toArray, List.getElem_cons_zero, List.getElem_cons_succ, List.setIfInBounds_toArray, List.set_cons_zero, List.set_cons_succ]
                  refine wpAnyH_take (i := 19) (v := (.bool false)) rfl (by kernel_rfl) (by kernel_rfl) (by kernel_rfl) (fun _ _ _ h => h) (Or.inl ⟨by rfl, ?zty19⟩) (by assumption) ?ztr19
                  case zty19 => (intro w hSw; (try dsimp only at hSw); (try simp only [List.getElem_toArray, List.getElem_cons_zero, List.getElem_cons_succ]); go_simp; first | done | omega | with_reducible rfl)
                  simp only [Act.put, List.getElem_toArray, List.getElem_cons_zero, List.getElem_cons_succ, List.setIfInBounds_toArray, List.set_cons_zero, List.set_cons_succ]
                  refine wpAnyH_take (i := 20) (v := (.bool false)) rfl (by kernel_rfl) (by kernel_rfl) (by kernel_rfl) (fun _ _ _ h => h) (Or.inl ⟨by rfl, ?zty20⟩) (by assumption) ?ztr20
                  case zty20 => (intro w hSw; (try dsimp only at hSw); (try simp only [List.getElem_toArray, List.getElem_cons_zero, List.getElem_cons_succ]); go_simp; first | done | omega | with_reducible rfl)
                  simp only [Act.put, List.getElem_toArray, List.getElem_cons_zero, List.getElem_cons_succ, List.setIfInBounds_toArray, List.set_cons_zero, List.set_cons_succ]
                  refine wpAnyH_done (by kernel_rfl) ?_ _
                  refine NoPanic.normal ?_
                  clear hHeld hS0
                  go_wp2
                  go_roundw
                  case rel => exact ⟨k + 1, by simp, by omega, B7.drew⟩
                  case measure => simp [intOf]; omega
                · generalize (A[x]?).getD 0 = av' at *
                  generalize (A[y]?).getD 0 = av at *
                  go_wp2
                  have hS0 : W7.drew.cell? ⟨W3.heap.size, y, none⟩ = some (.int .i64 av) ∧ W7.drew.cell? ⟨W3.heap.size, x, none⟩ = some (.int .i64 av') ∧ W7.drew.cell? ⟨bo, oo + i, none⟩ = some (.int .i64 (x : Nat)) := ⟨a1, a2, o1⟩
                  refine wp_region_noPanic ?_
                  refine wp_region_held_drew (S := fun W => W.cell? ⟨W3.heap.size, y, none⟩ = some (.int .i64 av) ∧ W.cell? ⟨W3.heap.size, x, none⟩ = some (.int .i64 av') ∧ W.cell? ⟨bo, oo + i, none⟩ = some (.int .i64 (x : Nat))) (by kernel_rfl) hS0 (fun hHeld => ?_)
                  refine wpAnyH_take (i := 0) (v := ?zfv0) rfl (by kernel_rfl) (by kernel_rfl) (by kernel_rfl) (fun _ _ _ h => h) (Or.inl ⟨by rfl, ?zfy0⟩) (by assumption) ?zfr0
                  case zfy0 => (intro w hSw; (try dsimp only at hSw); (try simp only [List.getElem_toArray, List.getElem_cons_zero, List.getElem_cons_succ]); go_simp; first | done | omega | with_reducible rfl)
                  simp only [Act.put, List.getElem_toArray, List.getElem_cons_zero, List.getElem_cons_succ, List.setIfInBounds_toArray, List.set_cons_zero, List.set_cons_succ]
                  refine wpAnyH_take (i := 1) (v := (.bool false)) rfl (by kernel_rfl) (by kernel_rfl) (by kernel_rfl) (fun _ _ _ h => h) (Or.inl ⟨by rfl, ?zfy1⟩) (by assumption) ?zfr1
                  case zfy1 => (intro w hSw; (try dsimp only at hSw); (try simp only [List.getElem_toArray, List.getElem_cons_zero, List.getElem_cons_succ]); go_simp; first | done | omega | with_reducible rfl)
                  simp only [Act.put, List.getElem_toArray, List.getElem_cons_zero, List.getElem_cons_succ, List.setIfInBounds_toArray, List.set_cons_zero, List.set_cons_succ]
                  refine wpAnyH_take (i := 2) (v := (.bool false)) rfl (by kernel_rfl) (by kernel_rfl) (by kernel_rfl) (fun _ _ _ h => h) (Or.inl ⟨by rfl, ?zfy2⟩) (by assumption) ?zfr2
                  case zfy2 => (intro w hSw; (try dsimp only at hSw); (try simp only [List.getElem_toArray, List.getElem_cons_zero, List.getElem_cons_succ]); go_simp; first | done | omega | with_reducible rfl)
                  simp only [Act.put, List.getElem_toArray, List.getElem_cons_zero, List.getElem_cons_succ, List.setIfInBounds_toArray, List.set_cons_zero, List.set_cons_succ]
                  refine wpAnyH_take (i := 3) (v := ?zfv3) rfl (by kernel_rfl) (by kernel_rfl) (by kernel_rfl) (fun _ _ _ h => h) (Or.inl ⟨by rfl, ?zfy3⟩) (by assumption) ?zfr3
                  case zfy3 => (intro w hSw; (try dsimp only at hSw); (try simp only [List.getElem_toArray, List.getElem_cons_zero, List.getElem_cons_succ]); go_simp; first | done | omega | with_reducible rfl)
                  simp only [Act.put, List.getElem_toArray, List.getElem_cons_zero, List.getElem_cons_succ, List.setIfInBounds_toArray, List.set_cons_zero, List.set_cons_succ]
                  refine wpAnyH_take (i := 4) (v := ?zfv4) rfl (by kernel_rfl) (by kernel_rfl) (by kernel_rfl) (fun _ _ _ h => h) (Or.inl ⟨by rfl, ?zfy4⟩) (by assumption) ?zfr4
                  case zfy4 => (intro w hSw; (try dsimp only at hSw); (try simp only [List.getElem_toArray, List.getElem_cons_zero, List.getElem_cons_succ]); go_simp; first | done | omega | with_reducible rfl)
                  simp only [Act.put, List.getElem_toArray, List.getElem_cons_zero, List.getElem_cons_succ, List.setIfInBounds_toArray, List.set_cons_zero, List.set_cons_succ]
                  refine wpAnyH_take (i := 5) (v := (.bool false)) rfl (by kernel_rfl) (by kernel_rfl) (by kernel_rfl) (fun _ _ _ h => h) (Or.inl ⟨by rfl, ?zfy5⟩) (by assumption) ?zfr5
                  case zfy5 => (intro w hSw; (try dsimp only at hSw); (try simp only [List.getElem_toArray, List.getElem_cons_zero, List.getElem_cons_succ]); go_simp; first | done | omega | with_reducible rfl)
                  simp only [Act.put, List.getElem_toArray, List.getElem_cons_zero, List.getElem_cons_succ, List.setIfInBounds_toArray, List.set_cons_zero, List.set_cons_succ]
                  refine wpAnyH_take (i := 6) (v := (.bool false)) rfl (by kernel_rfl) (by kernel_rfl) (by kernel_rfl) (fun _ _ _ h => h) (Or.inl ⟨by rfl, ?zfy6⟩) (by assumption) ?zfr6
                  case zfy6 => (intro w hSw; (try dsimp only at hSw); (try simp only [List.getElem_toArray, List.getElem_cons_zero, List.getElem_cons_succ]); go_simp; first | done | omega | with_reducible rfl)
                  simp only [Act.put, List.getElem_toArray, List.getElem_cons_zero, List.getElem_cons_succ, List.setIfInBounds_toArray, List.set_cons_zero, List.set_cons_succ]
                  refine wpAnyH_take (i := 7) (v := undef) rfl (by kernel_rfl) (by kernel_rfl) (by kernel_rfl) (fun _ _ _ h => h) (Or.inr ⟨by rfl, rfl⟩) (by assumption) ?zfr7
                  simp only [Act.put, List.getElem_toArray, List.getElem_cons_zero, List.getElem_cons_succ, List.setIfInBounds_toArray, List.set_cons_zero, List.set_cons_succ]
                  refine wpAnyH_take (i := 8) (v := undef) rfl (by kernel_rfl) (by kernel_rfl) (by kernel_rfl) (fun _ _ _ h => h) (Or.inr ⟨by rfl, rfl⟩) (by assumption) ?zfr8
                  simp only [Act.put, List.getElem_toArray, List.getElem_cons_zero, List.getElem_cons_succ, List.setIfInBounds_toArray, List.set_cons_zero, List.set_cons_succ]
                  refine wpAnyH_take (i := 9) (v := undef) rfl (by kernel_rfl) (by kernel_rfl) (by kernel_rfl) (fun _ _ _ h => h) (Or.inr ⟨by rfl, rfl⟩) (by assumption) ?zfr9
                  simp only [Act.put, List.getElem_toArray, List.getElem_cons_zero, List.getElem_cons_succ, List.setIfInBounds_toArray, List.set_cons_zero, List.set_cons_succ]
                  refine wpAnyH_take (i := 10) (v := undef) rfl (by kernel_rfl) (by kernel_rfl) (by kernel_rfl) (fun _ _ _ h => h) (Or.inr ⟨by rfl, rfl⟩) (by assumption) ?zfr10
                  simp only [Act.put, List.getElem_toArray, List.getElem_cons_zero, List.getElem_cons_succ, List.setIfInBounds_toArray, List.set_cons_zero, List.set_cons_succ]
                  refine wpAnyH_take (i := 11) (v := undef) rfl (by kernel_rfl) (by kernel_rfl) (by kernel_rfl) (fun _ _ _ h => h) (Or.inr ⟨by rfl, rfl⟩) (by assumption) ?zfr11
                  simp only [Act.put, List.getElem_toArray, List.getElem_cons_zero, List.getElem_cons_succ, List.setIfInBounds_toArray, List.set_cons_zero, List.set_cons_succ]
                  refine wpAnyH_take (i := 12) (v := undef) rfl (by kernel_rfl) (by kernel_rfl) (by kernel_rfl) (fun _ _ _ h => h) (Or.inr ⟨by rfl, rfl⟩) (by assumption) ?zfr12
                  simp only [Act.put, List.getElem_toArray, List.getElem_cons_zero, List.getElem_cons_succ, List.setIfInBounds_toArray, List.set_cons_zero, List.set_cons_succ]
                  refine wpAnyH_take (i := 13) (v := undef) rfl (by kernel_rfl) (by kernel_rfl) (by kernel_rfl) (fun _ _ _ h => h) (Or.inr ⟨by rfl, rfl⟩) (by assumption) ?zfr13
                  simp only [Act.put, List.getElem_toArray, List.getElem_cons_zero, List.getElem_cons_succ, List.setIfInBounds_toArray, List.set_cons_zero, List.set_cons_succ]
                  refine wpAnyH_take (i := 14) (v := undef) rfl (by kernel_rfl) (by kernel_rfl) (by kernel_rfl) (fun _ _ _ h => h) (Or.inr ⟨by rfl, rfl⟩) (by assumption) ?zfr14
                  simp only [Act.put, List.getElem_toArray, List.getElem_cons_zero, List.getElem_cons_succ, List.setIfInBounds_toArray, List.set_cons_zero, List.set_cons_succ]
                  refine wpAnyH_take (i := 15) (v := undef) rfl (by kernel_rfl) (by kernel_rfl) (by kernel_rfl) (fun _ _ _ h => h) (Or.inr ⟨by rfl, rfl⟩) (by assumption) ?zfr15
                  simp only [Act.put, List.getElem_toArray, List.getElem_cons_zero, List.getElem_cons_succ, List.setIfInBounds_toArray, List.set_cons_zero, List.set_cons_succ]
                  refine wpAnyH_take (i := 16) (v := undef) rfl (by kernel_rfl) (by kernel_rfl) (by kernel_rfl) (fun _ _ _ h => h) (Or.inr ⟨by rfl, rfl⟩) (by assumption) ?zfr16
                  simp only [Act.put, List.getElem_toArray, List.getElem_cons_zero, List.getElem_cons_succ, List.setIfInBounds_toArray, List.set_cons_zero, List.set_cons_succ]
                  refine wpAnyH_take (i := 17) (v := undef) rfl (by kernel_rfl) (by kernel_rfl) (by kernel_rfl) (fun _ _ _ h => h) (Or.inr ⟨by rfl, rfl⟩) (by assumption) ?zfr17
                  simp only [Act.put, List.getElem_toArray, List.getElem_cons_zero, List.getElem_cons_succ, List.setIfInBounds_toArray, List.set_cons_zero, List.set_cons_succ]
                  refine wpAnyH_take (i := 18) (v := undef) rfl (by kernel_rfl) (by kernel_rfl) (by kernel_rfl) (fun _ _ _ h => h) (Or.inr ⟨by rfl, rfl⟩) (by assumption) ?zfr18
                  simp only [Act.put, List.getElem_toArray, List.getElem_cons_zero, List.getElem_cons_succ, List.setIfInBounds_toArray, List.set_cons_zero, List.set_cons_succ]
                  refine wpAnyH_take (i := 19) (v := (.bool false)) rfl (by kernel_rfl) (by kernel_rfl) (by kernel_rfl) (fun _ _ _ h => h) (Or.inl ⟨by rfl, ?zfy19⟩) (by assumption) ?zfr19
                  case zfy19 => (intro w hSw; (try dsimp only at hSw); (try simp only [List.getElem_toArray, List.getElem_cons_zero, List.getElem_cons_succ]); go_simp; first | done | omega | with_reducible rfl)
                  simp only [Act.put, List.getElem_toArray, List.getElem_cons_zero, List.getElem_cons_succ, List.setIfInBounds_toArray, List.set_cons_zero, List.set_cons_succ]
                  refine wpAnyH_take (i := 20) (v := (.bool false)) rfl (by kernel_rfl) (by kernel_rfl) (by kernel_rfl) (fun _ _ _ h => h) (Or.inl ⟨by rfl, ?zfy20⟩) (by assumption) ?zfr20
                  case zfy20 => (intro w hSw; (try dsimp only at hSw); (try simp only [List.getElem_toArray, List.getElem_cons_zero, List.getElem_cons_succ]); go_simp; first | done | omega | with_reducible rfl)
                  simp only [Act.put, List.getElem_toArray, List.getElem_cons_zero, List.getElem_cons_succ, List.setIfInBounds_toArray, List.set_cons_zero, List.set_cons_succ]
                  refine wpAnyH_done (by kernel_rfl) ?_ _
                  refine NoPanic.normal ?_
                  clear hHeld hS0
                  go_wp2
                  go_roundw
                  case rel => exact ⟨k + 1, by simp, by omega, B7.drew⟩
                  case measure => simp [intOf]; omega
              · clear l2
                go_wp2
                go_roundw
                case rel => exact ⟨i + 1, by simp, by omega, bel⟩
                case measure => simp [intOf]; omega
          · go_wp2_with fail
            go_at_call 14
            refine (awake_any H _).mono ?_
            rintro e W9 ⟨rfl, b9⟩
            have z9 := bel.size
            have B9 := HB3.out.trans ((b3.trans (b9.mono (show W3.heap.size ≤ wr.heap.size by omega))).mono (show w.heap.size ≤ W3.heap.size by omega))
            go_wp2
            go_ret
            exact ⟨rfl, B9⟩
  · have ordnil : ordL E root = [] := by unfold ordL; rw [if_neg hgood]
    have CO := fun (W : World) (b : Below w.heap.size w W) => H.od W _ E root ((f0.bel b).mono b.size) hl hk
    rw [ordnil] at CO
    have HCO : Hid _ := CO
    clear CO ordnil
    have fin : ∀ (W1 : World), Below w.heap.size w W1 → Calls Try.prog 16 #[.slice ad E.length c, .int .i64 root] W1 fun e w' => ∃ ax cx, e = .returned (.slice ax 0 cx) ∧ Below w.heap.size w w' := fun W1 b1 => by
      refine (HCO.out W1 b1).mono ?_
      rintro e W2 ⟨v2, rfl, T2, b2⟩
      obtain ⟨ax, cx, hx⟩ := row_form T2
      exact ⟨ax, cx, by rw [hx]; rfl, b1.trans (b2.mono b1.size)⟩
    have HF : Hid _ := fin
    clear fin HCO
    by_cases hc : chk E = true
    · have ec : chkN E = 0 := by unfold chkN; rw [if_pos hc]
      rw [ec] at C
      clear ec
      by_cases h0 : root < 0
      · go_enter Try.func6, Try.ntmps6
        go_wp2_with fail
        go_at_call 10
        refine C.mono ?_
        rintro e W1 ⟨rfl, b1⟩
        go_wp2_with fail
        go_at_call 16
        refine (HF.out W1 b1).mono ?_
        rintro e W2 ⟨ax, cx, rfl, b2⟩
        go_wp2_with fail
        go_at_call 14
        refine (awake_any H _).mono ?_
        rintro e W3 ⟨rfl, b3⟩
        go_wp2
        go_ret
        exact ⟨rfl, b2.trans (b3.mono b2.size)⟩
      · have h1 : ¬ root < E.length := fun q => hgood ⟨hc, by omega, q⟩
        clear hgood
        go_enter Try.func6, Try.ntmps6
        go_wp2_with fail
        go_at_call 10
        refine C.mono ?_
        rintro e W1 ⟨rfl, b1⟩
        go_wp2_with fail
        go_at_call 16
        refine (HF.out W1 b1).mono ?_
        rintro e W2 ⟨ax, cx, rfl, b2⟩
        go_wp2_with fail
        go_at_call 14
        refine (awake_any H _).mono ?_
        rintro e W3 ⟨rfl, b3⟩
        go_wp2
        go_ret
        exact ⟨rfl, b2.trans (b3.mono b2.size)⟩
    · have ec : chkN E = 110 := by unfold chkN; rw [if_neg hc]
      rw [ec] at C
      clear ec hgood hc
      go_enter Try.func6, Try.ntmps6
      go_wp2_with fail
      go_at_call 10
      refine C.mono ?_
      rintro e W1 ⟨rfl, b1⟩
      go_wp2_with fail
      go_at_call 16
      refine (HF.out W1 b1).mono ?_
      rintro e W2 ⟨ax, cx, rfl, b2⟩
      go_wp2_with fail
      go_at_call 14
      refine (awake_any H _).mono ?_
      rintro e W3 ⟨rfl, b3⟩
      go_wp2
      go_ret
      exact ⟨rfl, b2.trans (b3.mono b2.size)⟩
end Go.Proofs.Ytbliaamckldncaa
