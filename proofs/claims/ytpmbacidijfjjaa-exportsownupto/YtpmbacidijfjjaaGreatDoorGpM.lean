/- Own text. A name that a module has by itself is its own: the walk of the statement. A name that a module has by itself is its own: a module that there is. A name that a module has by itself is its own: the card. -/
import Derived.Test.YtpmbacidijfjjaaGreatDoorGpH
import Derived.Test.YtpmbacidijfjjaaGreatDoorGpI
import Derived.Deep.RegionHeld3
namespace Go.Proofs.YtpmbacidijfjjaaGreatDoor.Own
open Go.RowKit Xp
set_option linter.unusedVariables false
set_option linter.unusedSimpArgs false

theorem rsv_eq (L : List Es) (m : Int) (n : ByteArray) : rsv L (m, n) = (stepF L (Xp.ask L n) st0 (m, n)).1 := by
  unfold rsv
  rw [ask_eq L n st0 (m, n) (by simp [Nms])]
theorem rsv_out {L : List Es} {m : Int} {n : ByteArray} (h : m < 0 ∨ (L.length : Int) ≤ m) : rsv L (m, n) = fd0 := by
  rw [rsv_eq]
  unfold stepF
  by_cases h0 : 0 ≤ m
  · have : L[m.toNat]? = none := List.getElem?_eq_none (by omega)
    simp only [h0, if_true, this]
  · simp only [h0, if_false]
theorem rsv_in {L : List Es} {m : Nat} {n : ByteArray} (hm : m < L.length) : rsv L ((m : Int), n) = match first L[m] ((m : Int), n) with
    | .val v => v
    | .go left name ty => clo ty (frG (Xp.ask L n) name (st0.set ((m : Int), n) 1) left fd0).1 := by
  rw [rsv_eq]
  unfold stepF
  have e : L[((m : Int)).toNat]? = some L[m] := by rw [show ((m : Nat) : Int).toNat = m from rfl, List.getElem?_eq_getElem hm]
  have h0 : (0 : Int) ≤ (m : Int) := by omega
  simp only [h0, if_true, e]
  have s0 : st0 ((m : Int), n) = 0 := rfl
  simp only [s0]
  cases first L[m] ((m : Int), n) <;> rfl
theorem rsv_own {L : List Es} {m i : Nat} {n : ByteArray} (hm : m < L.length) (hi : i < L[m].own.length) (hn : L[m].own[i].there = n) (hb : ∀ j (h : j < L[m].own.length), j < i → L[m].own[j].there ≠ n) : rsv L ((m : Int), n) = ⟨1, m, L[m].own[i].here, L[m].own[i].ty⟩ := by
  rw [rsv_in hm]
  have : L[m].own.find? (fun x => x.there == n) = some L[m].own[i] := by
    rw [List.find?_eq_some_iff_getElem]
    refine ⟨by rw [hn, ba_eq]; simp, i, hi, rfl, fun j hj => ?_⟩
    have := hb j (by omega) hj
    rw [ba_eq]
    simpa using this
  unfold first
  simp only [this]
theorem rsv_dft {L : List Es} {m : Nat} (hm : m < L.length) (h1 : ∀ j (h : j < L[m].own.length), L[m].own[j].there ≠ dflt) (h2 : L[m].oth.any (fun x => x.here == dflt) = false) : rsv L ((m : Int), dflt) = fd0 := by
  rw [rsv_in hm]
  have e1 : L[m].own.find? (fun x => x.there == dflt) = none := by
    rw [List.find?_eq_none]
    intro x hx
    obtain ⟨j, hj, rfl⟩ := List.getElem_of_mem hx
    have := h1 j hj
    rw [ba_eq]
    simpa using this
  have e2 : L[m].oth.find? (fun x => x.here == dflt) = none := by
    rw [List.find?_eq_none]
    intro x hx
    rw [List.any_eq_false] at h2
    exact h2 x hx
  unfold first
  simp only [e1, e2, if_true]
set_option maxRecDepth 100000 in
set_option maxHeartbeats 16000000 in
theorem out {W : World} {v : Value} {L : List Es} (hv : MsAt W W.heap.size v L) (hs : Small L) (mod : Int) (name : ByteArray) (he : WEnv W) (hm : mod < 0 ∨ (L.length : Int) ≤ mod) :
    Calls Tryz.prog 6 #[v, .int .i64 mod, .string name] W fun e w' => e = .returned (.bool true) ∧ Below W.heap.size W w' := by
  have C1 := resolveX_any hv (by have := hs.n; omega) hs.hE hs.hN mod name (hs.hU name)
  rw [rsv_out hm] at C1
  replace C1 : Calls Tryz.prog 16 #[v, .int .i64 mod, .string name] W fun e w' => e = .returned (.agg #[.int .i64 0, .int .i64 0, .string ⟨#[]⟩, .bool false]) ∧ Below W.heap.size W w' := C1
  have HE : Hid (∀ X, Below W.heap.size W X → Calls Tryz.prog 10 #[] X fun e w' => e = .returned (.bool true) ∧ Below X.heap.size X w') := fun X b => sure_any X (he.bel b)
  have FE : ∀ W, (binOp .eql 41 (.agg #[.int .i64 0, .int .i64 0, .string ⟨#[]⟩, .bool false]) (.agg #[.int .i64 0, .int .i64 0, .string ⟨#[]⟩, .bool false])).run Tryz.prog W = .ok (.bool true) W := fun W => by
    have := fd_eql W ⟨0, 0, ⟨#[]⟩, false⟩ ⟨0, 0, ⟨#[]⟩, false⟩
    exact this.trans (congrArg (fun b => Result.ok (Value.bool b) W) (by decide))
  have NG := fd_guard
  obtain ⟨va, vc, rfl⟩ := hv.op
  have hsn := hs.n
  clear hv hs he
  by_cases h0 : mod < 0
  · clear hm
    go_enter Tryz.func6, Tryz.ntmps6
    go_wp2_with fail
    go_at_call 16
    refine C1.mono ?_
    rintro e w1 ⟨rfl, b1⟩
    have HB1 : Hid _ := b1
    have C3 := HE.out _ b1
    clear b1 C1
    go_wp2_with fail
    go_at_call 10
    refine C3.mono ?_
    rintro e w3 ⟨rfl, b3⟩
    have HB3 : Hid (Below W.heap.size W w3) := bt HB1.out b3
    clear b3 C3
    go_wp2
    go_ret
    exact ⟨rfl, HB3.out⟩
  · have hge : mod ≥ (L.length : Int) := by omega
    clear hm
    go_enter Tryz.func6, Tryz.ntmps6
    go_wp2_with fail
    go_at_call 16
    refine C1.mono ?_
    rintro e w1 ⟨rfl, b1⟩
    have HB1 : Hid _ := b1
    have C3 := HE.out _ b1
    clear b1 C1
    go_wp2_with fail
    go_at_call 10
    refine C3.mono ?_
    rintro e w3 ⟨rfl, b3⟩
    have HB3 : Hid (Below W.heap.size W w3) := bt HB1.out b3
    clear b3 C3
    go_wp2
    go_ret
    exact ⟨rfl, HB3.out⟩
end Go.Proofs.YtpmbacidijfjjaaGreatDoor.Own
namespace Go.Proofs.YtpmbacidijfjjaaGreatDoor.Own
open Go.RowKit Xp
set_option linter.unusedVariables false
set_option linter.unusedSimpArgs false

set_option maxRecDepth 100000 in
set_option maxHeartbeats 32000000 in
theorem inside {W : World} {v : Value} {L : List Es} (hv : MsAt W W.heap.size v L) (hs : Small L) (m : Nat) (name : ByteArray) (he : WEnv W) (hm : m < L.length) :
    Calls Tryz.prog 6 #[v, .int .i64 (m : Nat), .string name] W fun e w' => e = .returned (.bool true) ∧ Below W.heap.size W w' := by
  have C1 := resolveX_any hv (by have := hs.n; omega) hs.hE hs.hN (m : Int) name (hs.hU name)
  have HE : Hid (∀ X, Below W.heap.size W X → Calls Tryz.prog 10 #[] X fun e w' => e = .returned (.bool true) ∧ Below X.heap.size X w') := fun X b => sure_any X (he.bel b)
  obtain ⟨vb, vo, vc, rfl, hvb, hmd⟩ := hv.cl (by omega)
  obtain ⟨x0, x1, x2, x3, hM⟩ := hmd m hm
  have hlE := hs.e L[m] (List.getElem_mem hm)
  have HOWN : Hid (∀ i (hi : i < L[m].own.length), L[m].own[i].there = name → (∀ j (h : j < L[m].own.length), j < i → L[m].own[j].there ≠ name) → rsv L ((m : Int), name) = ⟨1, m, L[m].own[i].here, L[m].own[i].ty⟩) := fun i hi h1 h2 => rsv_own hm hi h1 h2
  have HDFT : Hid (name = dflt → (∀ j (h : j < L[m].own.length), L[m].own[j].there ≠ name) → L[m].oth.any (fun x => x.here == name) = false → rsv L ((m : Int), name) = fd0) := fun h1 h2 h3 => by subst h1; exact rsv_dft hm h2 h3
  have HMD : Hid (MdAt W W.heap.size vb (vo + m * 4) L[m] x0 x1 x2 x3) := hM
  obtain ⟨oa, oc, rfl⟩ := hM.a1.op
  obtain ⟨ta, tc, rfl⟩ := hM.a2.op
  have hsn := hs.n
  clear hmd hs he hv hM
  generalize rsv L ((m : Int), name) = r at *
  generalize L[m] = e at *
  have HVB : Hid (vb < W.heap.size) := hvb
  clear hvb
  go_enter Tryz.func6, Tryz.ntmps6
  go_wp2_with fail
  go_at_call 16
  refine C1.mono ?_
  rintro ex w1 ⟨rfl, b1⟩
  obtain ⟨wA, hwA⟩ : ∃ X, w1.alloc (.cells #[.int .i64 r.k, .int .i64 r.mod, .string r.name, .bool r.ty] 41) = X := ⟨_, rfl⟩
  have bA1 : Below w1.heap.size w1 wA := by rw [← hwA]; exact bel_a _ _
  have m7 := hnewX (w := w1) (.cells #[.int .i64 r.k, .int .i64 r.mod, .string r.name, .bool r.ty] 41) rfl
  rw [hwA] at m7
  obtain ⟨⟨f0, f1, f2, f3⟩, _⟩ := t4 m7
  have HBA : Hid (Below W.heap.size W wA) := bt b1 bA1
  have HF : Hid (Below W.heap.size W wA) := HBA
  have c1 := (World.cell?_of_block (a := ⟨vb, vo + m * 4 + 1, none⟩) (HBA.out.block vb HVB.out)).trans HMD.out.c1
  have c2 := (World.cell?_of_block (a := ⟨vb, vo + m * 4 + 2, none⟩) (HBA.out.block vb HVB.out)).trans HMD.out.c2
  have HM7 : Hid _ := m7
  clear b1 bA1 m7 C1
  generalize hN7 : w1.heap.size = n7 at *
  go_wp2
  go_loopw [8] (fun v8 wr => ∃ k : Nat, v8 = .int .i64 (k : Nat) ∧ k ≤ e.own.length ∧ wr = wA ∧ Hid (∀ j (h : j < e.own.length), j < k → e.own[j].there ≠ name)) (fun v8 _ => e.own.length - (intOf v8).toNat)
  case atStart => exact ⟨0, rfl, by omega, rfl, fun j _ h => by omega⟩
  case round =>
    obtain ⟨k, rfl, hk, hwr, HP⟩ := hrel
    obtain rfl := hwr.symm
    by_cases hlt : k < e.own.length
    · obtain ⟨b, o, c, e1, hb, hc⟩ := HMD.out.a1.cl (by omega)
      simp only [Value.slice.injEq] at e1
      obtain ⟨rfl, _, rfl⟩ := e1
      obtain ⟨d0, d1, d2, d3, d4⟩ := hc k hlt
      have d0' := (World.cell?_of_block (a := ⟨b, o + k * 5, none⟩) (HBA.out.block b hb)).trans d0
      have d1' := (World.cell?_of_block (a := ⟨b, o + k * 5 + 1, none⟩) (HBA.out.block b hb)).trans d1
      have d3' := (World.cell?_of_block (a := ⟨b, o + k * 5 + 3, none⟩) (HBA.out.block b hb)).trans d3
      have hltI : ((k : Nat) : Int) < ((e.own.length : Nat) : Int) := by omega
      have HB : Hid (b < W.heap.size) := hb
      clear hc d0 d1 d2 d3 d4 hb
      have HO := HOWN.out k hlt
      have HNX : Hid (e.own[k].there ≠ name → ∀ j (h : j < e.own.length), j < k + 1 → e.own[j].there ≠ name) := fun hn j h hj => by
        by_cases ej : j = k
        · subst ej; exact hn
        · exact HP.out j h (by omega)
      by_cases hxy : e.own[k].there = name
      · have HR : Hid _ := HO hxy (fun j h hj => HP.out j h hj)
        clear HO HNX HP
        generalize e.own[k].here = xh at *
        generalize e.own[k].ty = xt at *
        generalize e.own[k].there = xn at *
        subst hxy
        have hxx : (xn.toList == xn.toList) = true := by simp
        obtain rfl := HR.out
        have FE : ∀ W, (binOp .eql 41 (.agg #[.int .i64 1, .int .i64 (m : Nat), .string xh, .bool xt]) (.agg #[.int .i64 1, .int .i64 (m : Nat), .string xh, .bool xt])).run Tryz.prog W = .ok (.bool true) W := fun W => by
          have := fd_eql W ⟨1, m, xh, xt⟩ ⟨1, m, xh, xt⟩
          rw [this]
          simp [ba_eq]
        have NG := fd_guard
        have HLT : Hid (vb < wA.heap.size ∧ b < wA.heap.size ∧ n7 < wA.heap.size) := ⟨by have := HVB.out; have := HBA.out.size; omega, by have := HB.out; have := HBA.out.size; omega, (Array.getElem?_eq_some_iff.1 HM7.out).1⟩
        have HST : Hid (∀ Z, Below wA.heap.size wA Z → (Z.cell? ⟨n7, 0, none⟩ = some (.int .i64 1) ∧ Z.cell? ⟨n7, 1, none⟩ = some (.int .i64 (m : Nat)) ∧ Z.cell? ⟨n7, 2, none⟩ = some (.string xh) ∧ Z.cell? ⟨n7, 3, none⟩ = some (.bool xt)) ∧ Z.cell? ⟨vb, vo + m * 4 + 1, none⟩ = some (.slice (some ⟨b, o, none⟩) e.own.length oc) ∧ Z.cell? ⟨b, o + k * 5, none⟩ = some (.string xh) ∧ Z.cell? ⟨b, o + k * 5 + 3, none⟩ = some (.bool xt)) := fun Z bZ => by
          have q := HLT.out
          have e7 := bZ.block n7 q.2.2
          have eb := bZ.block b q.2.1
          have ev := bZ.block vb q.1
          exact ⟨⟨(World.cell?_of_block (a := ⟨n7, 0, none⟩) e7).trans f0, (World.cell?_of_block (a := ⟨n7, 1, none⟩) e7).trans f1, (World.cell?_of_block (a := ⟨n7, 2, none⟩) e7).trans f2, (World.cell?_of_block (a := ⟨n7, 3, none⟩) e7).trans f3⟩, (World.cell?_of_block (a := ⟨vb, vo + m * 4 + 1, none⟩) ev).trans c1, (World.cell?_of_block (a := ⟨b, o + k * 5, none⟩) eb).trans d0', (World.cell?_of_block (a := ⟨b, o + k * 5 + 3, none⟩) eb).trans d3'⟩
        have HSU : Hid (∀ X, Below wA.heap.size wA X → Calls Tryz.prog 10 #[] X fun e w' => e = .returned (.bool true) ∧ Below X.heap.size X w') := fun X b => HE.out X (bt HBA.out b)
        go_wp2_with fail
        have st0 := HST.out wA.drew (Below.refl _ _).drew
        go_region_held3 (fun Z => (Z.cell? ⟨n7, 0, none⟩ = some (.int .i64 1) ∧ Z.cell? ⟨n7, 1, none⟩ = some (.int .i64 (m : Nat)) ∧ Z.cell? ⟨n7, 2, none⟩ = some (.string xh) ∧ Z.cell? ⟨n7, 3, none⟩ = some (.bool xt)) ∧ Z.cell? ⟨vb, vo + m * 4 + 1, none⟩ = some (.slice (some ⟨b, o, none⟩) e.own.length oc) ∧ Z.cell? ⟨b, o + k * 5, none⟩ = some (.string xh) ∧ Z.cell? ⟨b, o + k * 5 + 3, none⟩ = some (.bool xt))
          (first | assumption | exact st0 | exact st1)
          (first
            | (go_at_call 10; refine (HSU.out _ (Below.refl _ _).drew).mono ?_; rintro x Z1 ⟨rfl, z1⟩; have HZ : Hid (Below wA.heap.size wA Z1) := (Below.refl _ _).drew.trans z1; have st1 := HST.out Z1 HZ.out))
        all_goals
          go_wp2
          go_ret
          exact ⟨rfl, bt HBA.out HZ.out⟩
      · have hxx : (e.own[k].there.toList == name.toList) = false := by rw [← beq_toListBytes, ba_eq]; exact decide_eq_false hxy
        have HN := HNX.out hxy
        have HN' : Hid _ := HN
        clear HO HNX HP HN hxy
        generalize e.own[k].there = xn at *
        go_wp2
        go_roundw
        case rel => exact ⟨k + 1, by simp, by omega, by first | rfl | trivial, HN'.out⟩
        case measure => simp [intOf]; omega
    · obtain rfl : k = e.own.length := by omega
      have hge : ¬ ((e.own.length : Nat) : Int) < ((e.own.length : Nat) : Int) := by omega
      go_wp2
      go_loopw [9, 10] (fun v9 v10 wr => ∃ q : Nat, v10 = .int .i64 (q : Nat) ∧ v9 = .bool ((e.oth.take q).any (fun x => x.here == name)) ∧ q ≤ e.oth.length ∧ wr = wA) (fun _ v10 _ => e.oth.length - (intOf v10).toNat)
      case atStart => exact ⟨0, rfl, rfl, by omega, rfl⟩
      case round =>
        obtain ⟨q, rfl, rfl, hq, hwr⟩ := hrel
        obtain rfl := hwr.symm
        by_cases hlt2 : q < e.oth.length
        · obtain ⟨b, o, c, e1, hb, hc⟩ := HMD.out.a2.cl (by omega)
          simp only [Value.slice.injEq] at e1
          obtain ⟨rfl, _, rfl⟩ := e1
          obtain ⟨d0, d1, d2, d3, d4⟩ := hc q hlt2
          have d0' := (World.cell?_of_block (a := ⟨b, o + q * 5, none⟩) (HBA.out.block b hb)).trans d0
          have hltI : ((q : Nat) : Int) < ((e.oth.length : Nat) : Int) := by omega
          have HNX : Hid ((e.oth.take (q + 1)).any (fun x => x.here == name) = ((e.oth.take q).any (fun x => x.here == name) || (e.oth[q].here.toList == name.toList))) := by
            show _ = _
            rw [List.take_succ_eq_append_getElem hlt2, List.any_append, ← beq_toListBytes]
            simp
          clear hc d0 d1 d2 d3 d4 hb
          generalize (e.oth.take q).any (fun x => x.here == name) = old at *
          generalize e.oth[q].here = xn at *
          cases old with
          | true =>
            go_wp2
            go_roundw
            case rel => exact ⟨q + 1, by simp, by rw [HNX.out]; simp, by omega, by first | rfl | trivial⟩
            case measure => simp [intOf]; omega
          | false =>
            go_wp2
            go_roundw
            case rel => exact ⟨q + 1, by simp, by rw [HNX.out]; simp, by omega, by first | rfl | trivial⟩
            case measure => simp [intOf]; omega
        · obtain rfl : q = e.oth.length := by omega
          have hge2 : ¬ ((e.oth.length : Nat) : Int) < ((e.oth.length : Nat) : Int) := by omega
          rw [List.take_length]
          have HDF := HDFT.out
          have HP2 := HP.out
          have HSU : Hid (∀ X, Below wA.heap.size wA X → Calls Tryz.prog 10 #[] X fun e w' => e = .returned (.bool true) ∧ Below X.heap.size X w') := fun X b => HE.out X (bt HBA.out b)
          have HRZ : Hid (name = dflt → e.oth.any (fun x => x.here == name) = false → r = fd0) := fun h1 h2 => HDF h1 (fun j h => HP2 j h h) h2
          clear HDF HP2
          have CS := HSU.out wA (Below.refl _ _)
          generalize e.oth.any (fun x => x.here == name) = oth at *
          by_cases hnd : name = dflt
          · have HND : Hid (name = dflt) := hnd
            have hd : (name.toList == [100, 101, 102, 97, 117, 108, 116]) = true := by rw [show ([100, 101, 102, 97, 117, 108, 116] : List UInt8) = dflt.toList by rw [ByteArray.toList_eq]; rfl, ← beq_toListBytes, ba_eq]; exact decide_eq_true hnd
            clear hnd
            cases oth with
            | true =>
              go_wp2_with fail
              go_at_call 10
              refine CS.mono ?_
              rintro x Z1 ⟨rfl, z1⟩
              go_wp2
              go_ret
              exact ⟨rfl, bt HBA.out z1⟩
            | false =>
              obtain rfl := HRZ.out HND.out rfl
              have FE : ∀ W, (binOp .eql 41 (.agg #[.int .i64 0, .int .i64 0, .string ⟨#[]⟩, .bool false]) (.agg #[.int .i64 0, .int .i64 0, .string ⟨#[]⟩, .bool false])).run Tryz.prog W = .ok (.bool true) W := fun W => by
                have := fd_eql W ⟨0, 0, ⟨#[]⟩, false⟩ ⟨0, 0, ⟨#[]⟩, false⟩
                exact this.trans (congrArg (fun b => Result.ok (Value.bool b) W) (by decide))
              have NG := fd_guard
              replace f0 : wA.cell? ⟨n7, 0, none⟩ = some (.int .i64 0) := f0
              replace f1 : wA.cell? ⟨n7, 1, none⟩ = some (.int .i64 0) := f1
              replace f2 : wA.cell? ⟨n7, 2, none⟩ = some (.string ⟨#[]⟩) := f2
              replace f3 : wA.cell? ⟨n7, 3, none⟩ = some (.bool false) := f3
              go_wp2_with fail
              go_at_call 10
              refine CS.mono ?_
              rintro x Z1 ⟨rfl, z1⟩
              go_wp2
              go_ret
              exact ⟨rfl, bt HBA.out z1⟩
          · have hd : (name.toList == [100, 101, 102, 97, 117, 108, 116]) = false := by rw [show ([100, 101, 102, 97, 117, 108, 116] : List UInt8) = dflt.toList by rw [ByteArray.toList_eq]; rfl, ← beq_toListBytes, ba_eq]; exact decide_eq_false hnd
            clear hnd
            go_wp2_with fail
            go_at_call 10
            refine CS.mono ?_
            rintro x Z1 ⟨rfl, z1⟩
            go_wp2
            go_ret
            exact ⟨rfl, bt HBA.out z1⟩
theorem walk (v : Value) (L : List Es) (mod : Int) (name : ByteArray) (w : World) (hv : MsAt w w.heap.size v L) (_ : ∀ e ∈ L, goodM e) (hs : Small L) (_ : -9223372036854775808 ≤ mod) (_ : mod ≤ 9223372036854775807) (_ : name.size ≤ 1048576) (he : WEnv w) :
    Calls Tryz.prog 6 #[v, .int .i64 mod, .string name] w fun e w' => e = .returned (.bool true) ∧ Below w.heap.size w w' := by
  by_cases h : mod < 0 ∨ (L.length : Int) ≤ mod
  · exact out hv hs mod name he h
  · obtain ⟨m, rfl⟩ : ∃ m : Nat, mod = (m : Int) := ⟨mod.toNat, by omega⟩
    exact inside hv hs m name he (by omega)
end Go.Proofs.YtpmbacidijfjjaaGreatDoor.Own
namespace Go.Proofs.YtpmbacidijfjjaaGreatDoor.Own
open Go.ChangeShapes Go.WideShapes Go.ChangeAt Go.RowKit
open Go.ChangeMaps (open_string)
set_option linter.unusedVariables false

set_option maxRecDepth 100000 in
theorem contract (H : Type) (enc : TypeId × Value → H) (W : World) (base : Nat) (args : Array Value) (ds gs : List (DataW H)) (before : List MemPlace)
    (hval : ∀ (j : Nat) t v, Tryz.f6.params[j]? = some t → args[j]? = some v → Value.okWide Tryz.prog W .any base t v)
    (hW : DataW.Whole enc Tryz.prog Tryz.f6.params.toList Rows.exportsOwnSpec.vars false W args.toList ds gs before)
    (hk : Rows.uptoSmall H (ds ++ gs) = true)
    (hL : laidMetH Tryz.prog laidTabs W) (hsh : W.ShapedOpen Tryz.prog) :
    Calls Tryz.prog 6 args W fun e W' => ∃ v, e = .returned v ∧ Rows.exportsOwnSpec.post enc Tryz.prog Tryz.f6 false true false false W args v W' := by
  have hW' := hW
  obtain ⟨p, q, hA0, hV, rfl, hfz, hnd⟩ := hW
  have hA : DataW.TrodAll enc Tryz.prog W 0 (fun _ => true) true Tryz.f6.params.toList args.toList ds p := hA0
  have hAll := hA
  rw [Tryz.params6] at hA hval
  obtain ⟨v0, vs0, d0, ds0, p0, q0, hargs, rfl, rfl, h0, r0⟩ := trodAll_cons hA
  obtain ⟨v1, vs1, d1, ds1, p1, q1, rfl, rfl, rfl, h1, r1⟩ := trodAll_cons r0
  obtain ⟨v2, vs2, d2, ds2, p2, q2, rfl, rfl, rfl, h2, r2⟩ := trodAll_cons r1
  obtain ⟨rfl, rfl, rfl⟩ := trodAll_nil r2
  obtain rfl : args = #[v0, v1, v2] := by cases args; simp_all
  obtain ⟨rfl, rfl⟩ := trodVars_none hV
  have hlt := hW'.lt
  obtain ⟨S0, f0, g0, z0⟩ := open_ms (hval 0 39 v0 rfl rfl) h0
  obtain ⟨a1, rfl, rfl, rfl, w1⟩ := open_int Tryz.underlying3 (hval 1 3 v1 rfl rfl) h1
  have b1 := bounds_i64 w1
  obtain ⟨a2, rfl, rfl, rfl, w2⟩ := open_string Tryz.underlying9 (hval 2 9 v2 rfl rfl) h2
  have hk2 : Rows.uptoBulkAll _ ≤ 1048576 := of_decide_eq_true hk
  simp only [List.append_nil, Rows.uptoBulkAll] at hk2
  have k2 : Rows.uptoBulk (DataW.lit (.string a2.data.toList) : DataW H) = a2.data.toList.length + 1 := rfl
  rw [k2] at hk2
  have s0 := small_of (L := S0) (by omega)
  have s2 : a2.size ≤ 1048576 := by rw [Lib.size_eq]; omega
  refine (walk v0 S0 a1 a2 W f0 g0 s0 b1.1 b1.2 s2 (env_of hL hsh)).mono fun e W' ⟨he, bel⟩ => ?_
  subst he
  exact ⟨_, rfl, _, _, _, [], _, [], hW', trodAll_mk1 (shut_bool Tryz.underlying4 _), below_trodAll laidOut bel _ (by kernel_rfl) hAll (fun x hx => hlt x (by first | (simp at hx; done) | simpa using hx)), rfl, bel.frame _, fun h => by cases h⟩

theorem laid_met (os : Os) : laidMet Tryz.prog laidTabs (({ World.holding Tryz.prog os ⟨#[], #[], []⟩ with heap := layTabs (World.holding Tryz.prog os ⟨#[], #[], []⟩).heap } : World).forCall (fun _ _ => 0) ⟨#[], #[.slice none 0 0, .int .i64 0, .string ByteArray.empty], []⟩).memory :=
  laidMet_of_run' 80 (by kernel_rfl) (by kernel_rfl)
theorem reads (os : Os) {H : Type} (enc : TypeId × Value → H) : ∃ places, DataW.whole enc Tryz.prog (({ World.holding Tryz.prog os ⟨#[], #[], []⟩ with heap := layTabs (World.holding Tryz.prog os ⟨#[], #[], []⟩).heap } : World).forCall (fun _ _ => 0) ⟨#[], #[.slice none 0 0, .int .i64 0, .string ByteArray.empty], []⟩).memory Tryz.f6.params.toList Rows.exportsOwnSpec.vars false (#[.slice none 0 0, .int .i64 0, .string ByteArray.empty] : Array Value).toList 8 = some ([.nil, .lit (.int .i64 0), .lit (.string [])], [], places) :=
  ⟨[], by kernel_rfl⟩

set_option maxRecDepth 100000 in
theorem lifted (os : Os) (started : os.Started) (H : Type) (enc : TypeId × Value → H) (F : Stop.Interp) :
    ReturnsInHanded {} Tryz.checked os 6 .any ((Rows.OpenSpec.upto Rows.exportsOwnSpec).preRow enc Tryz.prog Tryz.f6 Rows.exportsOwnUptoRow.domain false Rows.exportsOwnUptoRow.laid) (((Rows.OpenSpec.upto Rows.exportsOwnSpec).at F).post enc Tryz.prog Tryz.f6 false true false false) := by
  obtain ⟨places, hx⟩ := reads os enc
  refine returnsInHanded_of_row (C := Tryz.checked) (s := (Rows.OpenSpec.upto Rows.exportsOwnSpec)) own started (by kernel_rfl) Tryz.func6
    (witness_row_at (enc := enc) (C := Tryz.checked) false ({ World.holding Tryz.prog os ⟨#[], #[], []⟩ with heap := layTabs (World.holding Tryz.prog os ⟨#[], #[], []⟩).heap } : World) #[.slice none 0 0, .int .i64 0, .string ByteArray.empty] rfl (by kernel_rfl) (by kernel_rfl) (by kernel_rfl)
      (OpenSpec.preRow_of_cond 8 hx (by kernel_rfl) (fun k hk => by cases hk; kernel_rfl) (by kernel_rfl) (laid_met os))) ?_
  intro W base args ds gs before hval hW _ hcond _ hL hsh _
  exact contract H enc W base args ds gs before hval hW (hcond _ rfl) hL hsh

theorem said : Rows.ExportsOwnUptoSaid :=
  OpenClaim.holds_of_cond 6 Tryz.f6 rfl rfl rfl rfl rfl rfl rfl ⟨rfl, rfl, rfl, rfl, rfl⟩ rfl rfl rfl rfl rfl (by kernel_rfl) Tryz.func6 (by kernel_rfl)
    (of_decide_eq_true (by kernel_rfl)) (by unfold Func.isWrapper; first | (rw [if_pos (by decide +kernel)]; kernel_rfl) | (rw [if_neg (by decide +kernel)]; exact ⟨rfl, rfl⟩))
    (fun os started H enc _ F => by rw [OpenClaim.pre_eq_preRow]; exact lifted os started H enc F)

theorem plain (f : FuncId) (fn : Func) (hf : Tryz.pinned.checked.prog.funcNamed "gusset/gussetlaw12.ExportsOwn" = some f) (hfn : Tryz.pinned.checked.prog.funcs[f]? = some fn) :
    false = Tryz.pinned.checked.prog.looks [] ∧ ∀ (j : Nat) t, fn.params[j]? = some t → Tryz.pinned.checked.prog.wantsStandIn t = false := by
  obtain rfl : f = 6 := Option.some.inj ((show Tryz.prog.funcNamed "gusset/gussetlaw12.ExportsOwn" = some 6 by kernel_rfl).symm.trans hf) |>.symm
  obtain rfl : fn = Tryz.f6 := (Option.some.inj (Tryz.func6.symm.trans hfn)).symm
  refine ⟨by kernel_rfl, fun j t ht => ?_⟩
  rw [Tryz.params6] at ht
  have hm : t = 39 ∨ t = 3 ∨ t = 9 := by simpa using Array.mem_of_getElem? ht
  rcases hm with rfl | rfl | rfl
  · exact (show Tryz.prog.wantsStandIn 39 = false by kernel_rfl)
  · exact (show Tryz.prog.wantsStandIn 3 = false by kernel_rfl)
  · exact (show Tryz.prog.wantsStandIn 9 = false by kernel_rfl)

theorem card : Rows.ExportsOwnUptoCardSaid :=
  Claim7.holds_tied_plain_at .later [] _ _ _ _ said (fun _ h => by cases h) (by kernel_rfl) (fun _ h => by cases h) exportsOwnUpto_row_tie rfl ⟨rfl, rfl⟩ (by kernel_rfl) rfl plain (by kernel_rfl)
end Go.Proofs.YtpmbacidijfjjaaGreatDoor.Own
namespace Go.Proofs.YtpmbacidijfjjaaGreatDoor
theorem Own_card : Rows.ExportsOwnUptoCardSaid := Own.card
end Go.Proofs.YtpmbacidijfjjaaGreatDoor
