/- Own text. ValueHeaps: the statement's walk, over what package value must answer. -/
import Derived.Test.YtlijplbaefaeaaaDoorVd3
namespace Go.Proofs.YtlijplbaefaeaaaDoor
open Go.RowKit
set_option linter.unusedVariables false
set_option linter.unusedSimpArgs false

structure Dd where
  k : Int
  v : Vl
  x : Vl
  nm : ByteArray
  ix : Int
  na : Option Addr
  ns : List ByteArray
  nc : Nat
  la : Option Addr
  ls : List Vl
  lc : Nat
def Dd.cs (d : Dd) : List Value := [.int .i64 d.k, .int .i64 d.v.kd, .int .i64 d.v.n, .string d.v.tx, .int .i64 d.x.kd, .int .i64 d.x.n, .string d.x.tx, .string d.nm, .int .i64 d.ix, .slice d.na d.ns.length d.nc, .slice d.la d.ls.length d.lc]
structure okDd (W : World) (d : Dd) : Prop where
  v : okV d.v
  x : okV d.x
  nm : d.nm.size ≤ 140737488355328
  ix : -9223372036854775808 ≤ d.ix ∧ d.ix ≤ 9223372036854775807
  nl : d.ns.length ≤ 1048576
  ll : d.ls.length ≤ 1048576
  no : ∀ s ∈ d.ns, s.size ≤ 140737488355328
  lo : ∀ y ∈ d.ls, okV y
  na : NsA W (fun b => b < W.heap.size) (.slice d.na d.ns.length d.nc) d.ns
  la : VsA W (fun b => b < W.heap.size) (.slice d.la d.ls.length d.lc) d.ls
/-- deeds that lie in memory. -/
def DdsA (W : World) (v : Value) (l : List Dd) : Prop := ∃ a c, v = .slice a l.length c ∧ (0 < l.length → ∃ b o, a = some ⟨b, o, none⟩ ∧ b < W.heap.size ∧ ∀ i (h : i < l.length) j, j < 11 → W.cell? ⟨b, o + i * 11 + j, none⟩ = l[i].cs[j]?)
theorem dd_cells {W X : World} {b o : Nat} {d : Dd} (h : ∀ j, j < 11 → X.cell? ⟨b, o + j, none⟩ = d.cs[j]?) : (X.cell? ⟨b, o, none⟩ = some (.int .i64 d.k)) ∧ (X.cell? ⟨b, o + 1, none⟩ = some (.int .i64 d.v.kd)) ∧ (X.cell? ⟨b, o + 2, none⟩ = some (.int .i64 d.v.n)) ∧ (X.cell? ⟨b, o + 3, none⟩ = some (.string d.v.tx)) ∧ (X.cell? ⟨b, o + 4, none⟩ = some (.int .i64 d.x.kd)) ∧ (X.cell? ⟨b, o + 5, none⟩ = some (.int .i64 d.x.n)) ∧ (X.cell? ⟨b, o + 6, none⟩ = some (.string d.x.tx)) ∧ (X.cell? ⟨b, o + 7, none⟩ = some (.string d.nm)) ∧ (X.cell? ⟨b, o + 8, none⟩ = some (.int .i64 d.ix)) ∧ (X.cell? ⟨b, o + 9, none⟩ = some (.slice d.na d.ns.length d.nc)) ∧ (X.cell? ⟨b, o + 10, none⟩ = some (.slice d.la d.ls.length d.lc)) :=
  ⟨h 0 (by decide), h 1 (by decide), h 2 (by decide), h 3 (by decide), h 4 (by decide), h 5 (by decide), h 6 (by decide), h 7 (by decide), h 8 (by decide), h 9 (by decide), h 10 (by decide)⟩
set_option maxRecDepth 100000 in
set_option maxHeartbeats 16000000 in
theorem heapsV_walk {Ev : World → Prop} {At : World → Nat → Hp → (Nat → Prop) → Prop} (PV : PrgV Ev At) (av : Value) (l : List Dd) (W : World) (he : Ev W) (hl : l.length ≤ 1048575) (ha : ∀ x ∈ l, okDd W x) (hv : DdsA W av l) : Calls Tryd.prog 4 #[av] W fun e W' => e = .returned (.bool true) ∧ Below W.heap.size W W' := by
  obtain ⟨a0, c0, rfl, hc0⟩ := hv
  have HE : Hid (Ev W) := he
  have HP : Hid (PrgV Ev At) := PV
  have HL : Hid (l.length ≤ 1048575) := hl
  have HA : Hid (∀ x ∈ l, okDd W x) := ha
  have HC : Hid (0 < l.length → ∃ b o, a0 = some ⟨b, o, none⟩ ∧ b < W.heap.size ∧ ∀ i (h : i < l.length) j, j < 11 → W.cell? ⟨b, o + i * 11 + j, none⟩ = l[i].cs[j]?) := hc0
  have HW : Hid (∀ Y, Ev Y → Calls Tryd.prog 16 #[] Y fun e W' => e = .returned (.bool true) ∧ Below Y.heap.size Y W') := fun Y h => awake_any PV Y h
  have CN := PV.new W
  clear he PV hl ha hc0
  go_enter Tryd.func4, Tryd.ntmps4
  go_wp2_with fail
  go_at_call 7
  refine CN.mono ?_
  rintro e W1 ⟨hb, S0, rfl, hA1, b1, hS1⟩
  clear CN
  have D1 := d_new W1
  have hs : Hid (Tw At W hb W1.heap.size [] [] [] S0 (fun b => b = W1.heap.size) (W1.alloc (.cells #[.slice none 0 0] 34))) :=
    ⟨HP.out.keep hA1 (by simp) (fun b hb' => Below.heap_alloc _ _ _ (HP.out.lt hA1 b hb')), D1, fun p hp => (by cases hp), b1.trans ((belA W1 _).mono b1.size), hS1, fun b hb' => by rw [hb']; exact b1.size, fun b hb' hq => by have := HP.out.lt hA1 b hb'; omega⟩
  clear hA1 b1 hS1 D1
  obtain ⟨gb, hgb⟩ : ∃ g, W1.heap.size = g := ⟨_, rfl⟩
  go_wp2_with fail
  rw [hgb] at hs
  try rw [hgb]
  clear hgb
  have C := HW.out _ (HP.out.ev HE.out hs.out.b)
  generalize W1.alloc _ = X1 at *
  go_at_call 16
  refine C.mono ?_
  rintro e X2 ⟨rfl, bb⟩
  have hs := Tw.bel HP hs bb
  clear C bb
  have HB0 : Hid (bdV [] 0) := ⟨by simp, fun t ht => by cases ht⟩
  generalize (fun b => b = gb) = T0 at *
  go_wp2
  go_loopw [5] (fun v5 wo => ∃ k : Nat, v5 = .int .i64 (k : Nat) ∧ k ≤ l.length ∧ ∃ H S T, Hid (Tw At W hb gb [] H H S T wo) ∧ Hid (bdV H k)) (fun v5 _ => l.length - (intOf v5).toNat)
  case atStart => exact ⟨0, rfl, by omega, [], S0, T0, hs, HB0⟩
  case round =>
    obtain ⟨k, rfl, hk, H, S, T, hs, HB⟩ := hrel
    by_cases hkl : k < l.length
    · have hd : (k : Int) < (l.length : Int) := by omega
      have hb2 := HL.out
      obtain ⟨b, o, rfl, hblt, hcells⟩ := HC.out (by omega)
      have HCE : Hid (∀ X, Below W.heap.size W X → ∀ j, j < 11 → X.cell? ⟨b, o + k * 11 + j, none⟩ = l[k].cs[j]?) := fun X hX j hj => (World.cell?_of_block (a := ⟨b, o + k * 11 + j, none⟩) (hX.block b hblt)).trans (hcells k hkl j hj)
      have HOK : Hid (okDd W l[k]) := HA.out l[k] (List.getElem_mem hkl)
      clear hcells hblt
      have C := do_any HP.out l[k].k l[k].ix l[k].v l[k].x l[k].nm l[k].ns l[k].ls l[k].na l[k].la l[k].nc l[k].lc W wr HOK.out.v HOK.out.x HOK.out.nm HOK.out.ix HOK.out.nl HOK.out.ll HOK.out.no HOK.out.lo HOK.out.na HOK.out.la hs HB.out (by omega)
      have HCL : Hid (∀ {H S T Y}, Hid (Tw At W hb gb [] H H S T Y) → smH H → Calls Tryd.prog 18 #[.pointer (some ⟨hb, 0, none⟩), .pointer (some ⟨gb, 0, none⟩), .agg #[.int .i64 l[k].k, .int .i64 l[k].v.kd, .int .i64 l[k].v.n, .string l[k].v.tx, .int .i64 l[k].x.kd, .int .i64 l[k].x.n, .string l[k].x.tx, .string l[k].nm, .int .i64 l[k].ix, .slice l[k].na l[k].ns.length l[k].nc, .slice l[k].la l[k].ls.length l[k].lc]] Y fun e Y' => e = .returned (.bool true) ∧ Hid (Tw At W hb gb [] H H S T Y')) := fun h sm => look_any HP.out l[k].k l[k].ix l[k].v l[k].x l[k].nm _ _ W _ HOK.out.v HOK.out.nm HOK.out.ix h sm
      obtain ⟨d0, d1, d2, d3, d4, d5, d6, d7, d8, d9, d10⟩ := dd_cells (W := W) (HCE.out wr hs.out.b)
      clear HOK
      generalize l[k] = q at *
      go_wp2_with fail
      go_at_call 17
      refine C.mono ?_
      rintro e Y1 ⟨rfl, H', S', T', hs, HB'⟩
      clear d0 d1 d2 d3 d4 d5 d6 d7 d8 d9 d10 C
      have HB' : Hid (bdV H' (k + 1)) := HB'
      obtain ⟨d0, d1, d2, d3, d4, d5, d6, d7, d8, d9, d10⟩ := dd_cells (W := W) (HCE.out Y1 hs.out.b)
      go_wp2_with fail
      have C := HCL.out hs (HB'.out.sm (by omega))
      go_at_call 18
      refine C.mono ?_
      rintro e Y2 ⟨rfl, hs⟩
      clear d0 d1 d2 d3 d4 d5 d6 d7 d8 d9 d10 C
      go_wp2
      go_roundw
      case rel => exact ⟨k + 1, by simp, by omega, H', S', T', hs, HB'⟩
      case measure => simp [intOf]; omega
    · obtain rfl : k = l.length := by omega
      have hd : ¬ ((l.length : Nat) : Int) < ((l.length : Nat) : Int) := by omega
      have hb2 := HL.out
      have HSM : Hid (smH H) := HB.out.sm (by omega)
      go_wp2
      clear hd
      go_loopw [6] (fun v6 wo => ∃ k : Nat, v6 = .int .i64 (k : Nat) ∧ k ≤ l.length ∧ Hid (Tw At W hb gb [] H H S T wo)) (fun v6 _ => l.length - (intOf v6).toNat)
      case atStart => exact ⟨0, rfl, by omega, hs⟩
      case round =>
        obtain ⟨k, rfl, hk, hs⟩ := hrel
        by_cases hkl : k < l.length
        · have hd : (k : Int) < (l.length : Int) := by omega
          obtain ⟨b, o, rfl, hblt, hcells⟩ := HC.out (by omega)
          have HCE : Hid (∀ X, Below W.heap.size W X → ∀ j, j < 11 → X.cell? ⟨b, o + k * 11 + j, none⟩ = l[k].cs[j]?) := fun X hX j hj => (World.cell?_of_block (a := ⟨b, o + k * 11 + j, none⟩) (hX.block b hblt)).trans (hcells k hkl j hj)
          have HOK : Hid (okDd W l[k]) := HA.out l[k] (List.getElem_mem hkl)
          clear hcells hblt
          have C := look_any HP.out l[k].k l[k].ix l[k].v l[k].x l[k].nm (.slice l[k].na l[k].ns.length l[k].nc) (.slice l[k].la l[k].ls.length l[k].lc) W wr HOK.out.v HOK.out.nm HOK.out.ix hs HSM.out
          obtain ⟨d0, d1, d2, d3, d4, d5, d6, d7, d8, d9, d10⟩ := dd_cells (W := W) (HCE.out wr hs.out.b)
          clear HOK HCE
          generalize l[k] = q at *
          go_wp2_with fail
          go_at_call 18
          refine C.mono ?_
          rintro e Y1 ⟨rfl, hs⟩
          clear d0 d1 d2 d3 d4 d5 d6 d7 d8 d9 d10 C
          go_wp2
          go_roundw
          case rel => exact ⟨k + 1, by simp, by omega, hs⟩
          case measure => simp [intOf]; omega
        · obtain rfl : k = l.length := by omega
          have hd : ¬ ((l.length : Nat) : Int) < ((l.length : Nat) : Int) := by omega
          go_wp2
          go_ret
          exact ⟨rfl, hs.out.b⟩
end Go.Proofs.YtlijplbaefaeaaaDoor
