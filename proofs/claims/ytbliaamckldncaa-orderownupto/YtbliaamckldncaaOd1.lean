/- Own text. Lists of numbers, and lists of such lists, in memory; the document's Check, Same, SameAll. -/
import Derived.Test.YtbliaamckldncaaChecked
import Derived.Test.YtbliaamckldncaaOd0
import Derived.WalkKit
import Derived.WalkSmall
import Derived.WalkLawsBesides
import Derived.Laws.Rows
import Derived.Maps.AppendAt
import Derived.Deep.RegionHeld3
import Derived.Handy
namespace Go.Proofs.Ytbliaamckldncaa
open Go.RowKit
set_option linter.unusedVariables false

/-- values in a row, one cell each, below block B. -/
structure VAt (w : World) (B : Nat) (v : Value) (xs : List Value) : Prop where
  f : ∃ ad c, v = .slice ad xs.length c
  c : 0 < xs.length → ∃ b o c, v = .slice (some ⟨b, o, none⟩) xs.length c ∧ b < B ∧ ∀ i (h : i < xs.length), w.cell? ⟨b, o + i, none⟩ = some xs[i]
theorem VAt.bel {w w' : World} {B : Nat} {v : Value} {xs : List Value} (h : VAt w B v xs) (k : Below B w w') : VAt w' B v xs :=
  ⟨h.f, fun h0 => by
    obtain ⟨b, o, c, e, hb, hc⟩ := h.c h0
    exact ⟨b, o, c, e, hb, fun i hi => (World.cell?_of_block (a := ⟨b, o + i, none⟩) (k.block b hb)).trans (hc i hi)⟩⟩
theorem VAt.mono {w : World} {B B' : Nat} {v : Value} {xs : List Value} (h : VAt w B v xs) (k : B ≤ B') : VAt w B' v xs :=
  ⟨h.f, fun h0 => by
    obtain ⟨b, o, c, e, hb, hc⟩ := h.c h0
    exact ⟨b, o, c, e, Nat.lt_of_lt_of_le hb k, hc⟩⟩
def ints (l : List Int) : List Value := l.map fun x => .int .i64 x
theorem ints_len (l : List Int) : (ints l).length = l.length := by simp [ints]
/-- a list of numbers. -/
abbrev IAt (w : World) (B : Nat) (v : Value) (l : List Int) : Prop := VAt w B v (ints l)
theorem IAt.op {w : World} {B : Nat} {v : Value} {l : List Int} (h : IAt w B v l) : ∃ ad c, v = .slice ad l.length c := by
  obtain ⟨ad, c, e⟩ := h.f
  exact ⟨ad, c, by rw [e, ints_len]⟩
theorem IAt.cl {w : World} {B : Nat} {v : Value} {l : List Int} (h : IAt w B v l) (h0 : 0 < l.length) : ∃ b o c, v = .slice (some ⟨b, o, none⟩) l.length c ∧ b < B ∧ ∀ i (h : i < l.length), w.cell? ⟨b, o + i, none⟩ = some (.int .i64 l[i]) := by
  obtain ⟨b, o, c, e, hb, hc⟩ := h.c (by rw [ints_len]; exact h0)
  exact ⟨b, o, c, by rw [e, ints_len], hb, fun i hi => by rw [hc i (by rw [ints_len]; exact hi)]; simp [ints]⟩
/-- lists of numbers. -/
structure EAt (w : World) (B : Nat) (v : Value) (E : List (List Int)) : Prop where
  h : ∃ vs : List Value, vs.length = E.length ∧ VAt w B v vs ∧ ∀ i (h : i < E.length) (h' : i < vs.length), IAt w B vs[i] E[i]
theorem EAt.bel {w w' : World} {B : Nat} {v : Value} {E : List (List Int)} (h : EAt w B v E) (k : Below B w w') : EAt w' B v E := by
  obtain ⟨vs, h1, h2, h3⟩ := h.h
  exact ⟨vs, h1, h2.bel k, fun i hi hi' => (h3 i hi hi').bel k⟩
theorem EAt.mono {w : World} {B B' : Nat} {v : Value} {E : List (List Int)} (h : EAt w B v E) (k : B ≤ B') : EAt w B' v E := by
  obtain ⟨vs, h1, h2, h3⟩ := h.h
  exact ⟨vs, h1, h2.mono k, fun i hi hi' => (h3 i hi hi').mono k⟩
theorem EAt.op {w : World} {B : Nat} {v : Value} {E : List (List Int)} (h : EAt w B v E) : ∃ ad c, v = .slice ad E.length c := by
  obtain ⟨vs, h1, h2, h3⟩ := h.h
  obtain ⟨ad, c, e⟩ := h2.f
  exact ⟨ad, c, by rw [e, h1]⟩
/-- one of them: where its slice lies, and what it holds. -/
theorem EAt.cl {w : World} {B : Nat} {v : Value} {E : List (List Int)} (h : EAt w B v E) (h0 : 0 < E.length) : ∃ (b o c : Nat) (f : Nat → Value), v = .slice (some ⟨b, o, none⟩) E.length c ∧ b < B ∧ ∀ i (h : i < E.length), w.cell? ⟨b, o + i, none⟩ = some (f i) ∧ IAt w B (f i) E[i] := by
  obtain ⟨vs, h1, h2, h3⟩ := h.h
  obtain ⟨b, o, c, e, hb, hc⟩ := h2.c (by omega)
  refine ⟨b, o, c, fun i => (vs[i]?).getD undef, by rw [e, h1], hb, fun i hi => ?_⟩
  have hi' : i < vs.length := by omega
  have e : (vs[i]?).getD undef = vs[i] := by rw [List.getElem?_eq_getElem hi']; rfl
  exact ⟨by rw [hc i hi']; exact congrArg some e.symm, by show IAt w B ((vs[i]?).getD undef) E[i]; rw [e]; exact h3 i hi hi'⟩

/-- all are places. -/
def chk (E : List (List Int)) : Bool := E.all fun l => l.all fun y => decide (0 ≤ y) && decide (y < E.length)
/-- what Check answers. -/
def chkN (E : List (List Int)) : Int := if chk E = true then 0 else 110
theorem chk_row {E : List (List Int)} {i : Nat} (hi : i < E.length) : (E.take (i + 1)).all (fun l => l.all fun y => decide (0 ≤ y) && decide (y < E.length)) = ((E.take i).all (fun l => l.all fun y => decide (0 ≤ y) && decide (y < E.length)) && E[i].all fun y => decide (0 ≤ y) && decide (y < E.length)) := by
  rw [List.take_succ_eq_append_getElem hi, List.all_append]; simp
set_option maxRecDepth 100000 in
set_option maxHeartbeats 4000000 in
theorem rcheck_any {w : World} {B : Nat} {v : Value} {E : List (List Int)} (h : EAt w B v E) (hB : B ≤ w.heap.size) (hl : E.length ≤ 4194304) (hk : ∀ l ∈ E, l.length ≤ 4194304) :
    Calls Try.prog 10 #[v] w fun e w' => e = .returned (.int .i64 (chkN E)) ∧ Below w.heap.size w w' := by
  obtain ⟨ad, c, rfl⟩ := h.op
  obtain ⟨res, hres⟩ : ∃ r, chkN E = r := ⟨_, rfl⟩
  have HR : Hid (chkN E = res) := hres
  rw [hres]
  clear hres
  go_enter Try.func10, Try.ntmps10
  go_wp2
  go_loopw [3] (fun i wr => ∃ k : Nat, i = .int .i64 (k : Nat) ∧ k ≤ E.length ∧ Below w.heap.size w wr ∧ Hid ((E.take k).all (fun l => l.all fun y => decide (0 ≤ y) && decide (y < E.length)) = true)) (fun i _ => E.length - (intOf i).toNat)
  case atStart => exact ⟨0, rfl, by omega, Below.refl _ w, by simp [Hid]⟩
  case round =>
    obtain ⟨k, rfl, hkl, bel, hH⟩ := hrel
    by_cases hlt : k < E.length
    · obtain ⟨b, o, c', f, e, hb, hf⟩ := (h.bel (bel.mono hB)).cl (by omega)
      obtain ⟨rfl, rfl⟩ : ad = some ⟨b, o, none⟩ ∧ c = c' := by cases e; exact ⟨rfl, rfl⟩
      obtain ⟨f1, f2⟩ := hf k hlt
      have hkE := hk E[k] (List.getElem_mem hlt)
      have HS : Hid ((E.take (k + 1)).all (fun l => l.all fun y => decide (0 ≤ y) && decide (y < E.length)) = ((E.take k).all (fun l => l.all fun y => decide (0 ≤ y) && decide (y < E.length)) && E[k].all fun y => decide (0 ≤ y) && decide (y < E.length))) := chk_row hlt
      have HN : Hid (chk E = true → E[k].all (fun y => decide (0 ≤ y) && decide (y < E.length)) = true) := fun hc => List.all_eq_true.1 hc _ (List.getElem_mem hlt)
      clear e hf
      generalize E[k] = l at *
      obtain ⟨ad', c'', e⟩ := f2.op
      rw [e] at f1 f2
      clear e
      go_wp2
      go_loopw [4] (fun j wq => ∃ m : Nat, j = .int .i64 (m : Nat) ∧ m ≤ l.length ∧ wq = wr ∧ Hid ((l.take m).all (fun y => decide (0 ≤ y) && decide (y < E.length)) = true)) (fun j _ => l.length - (intOf j).toNat)
      case atStart => exact ⟨0, rfl, by omega, rfl, by simp [Hid]⟩
      case round =>
        obtain ⟨m, rfl, hml, rfl, hM⟩ := hrel
        by_cases hmt : m < l.length
        · obtain ⟨b', o', c3, e, hb', hg⟩ := f2.cl (by omega)
          obtain ⟨rfl, rfl⟩ : ad' = some ⟨b', o', none⟩ ∧ c'' = c3 := by cases e; exact ⟨rfl, rfl⟩
          have g1 := hg m hmt
          have HM : Hid ((l.take (m + 1)).all (fun y => decide (0 ≤ y) && decide (y < E.length)) = ((l.take m).all (fun y => decide (0 ≤ y) && decide (y < E.length)) && (decide (0 ≤ l[m]) && decide (l[m] < E.length)))) := by show _ = _; rw [List.take_succ_eq_append_getElem hmt, List.all_append]; simp
          have HL : Hid (l.all (fun y => decide (0 ≤ y) && decide (y < E.length)) = true → 0 ≤ l[m] ∧ l[m] < E.length) := fun h => by have := List.all_eq_true.1 h _ (List.getElem_mem hmt); simpa using this
          clear e hg
          generalize l[m] = y at *
          by_cases q1 : y < 0
          · obtain rfl : (110 : Int) = res := by rw [← HR.out, chkN, if_neg (fun hc => by have := HL.out (HN.out hc); omega)]
            go_wp2
            go_ret
            exact ⟨rfl, bel⟩
          · by_cases q2 : y < E.length
            · go_wp2
              go_roundw
              case rel => exact ⟨m + 1, by simp, by omega, by first | rfl | trivial, by show _ = _; rw [HM.out, hM.out]; simp; omega⟩
              case measure => simp [intOf]; omega
            · obtain rfl : (110 : Int) = res := by rw [← HR.out, chkN, if_neg (fun hc => by have := HL.out (HN.out hc); omega)]
              go_wp2
              go_ret
              exact ⟨rfl, bel⟩
        · have e : l.take m = l := List.take_of_length_le (by omega)
          rw [e] at hM
          go_wp2
          go_roundw
          case rel => exact ⟨k + 1, by simp, by omega, bel, by show _ = _; rw [HS.out, hH.out, hM.out]; rfl⟩
          case measure => simp [intOf]; omega
    · have e : E.take k = E := List.take_of_length_le (by omega)
      rw [e] at hH
      obtain rfl : (0 : Int) = res := by rw [← HR.out, chkN, if_pos (show chk E = true from hH.out)]
      go_wp2
      go_ret
      exact ⟨rfl, bel⟩

/-- two lists of numbers are the same. -/
def sameI (a b : List Int) : Bool := a == b
set_option maxRecDepth 100000 in
set_option maxHeartbeats 4000000 in
theorem rsame_any {w : World} {B : Nat} {u v : Value} {a b : List Int} (ha : IAt w B u a) (hb : IAt w B v b) (hB : B ≤ w.heap.size) (hl : a.length ≤ 4194304) (hk : b.length ≤ 4194304) :
    Calls Try.prog 15 #[u, v] w fun e w' => e = .returned (.bool (sameI a b)) ∧ Below w.heap.size w w' := by
  obtain ⟨ad, c, rfl⟩ := ha.op
  obtain ⟨bd, d, rfl⟩ := hb.op
  obtain ⟨res, hres⟩ : ∃ r, sameI a b = r := ⟨_, rfl⟩
  have HR : Hid (sameI a b = res) := hres
  rw [hres]
  clear hres
  by_cases hab : a.length = b.length
  · go_enter Try.func15, Try.ntmps15
    have HL : Hid (a.length = b.length) := hab
    rw [← hab] at hb ⊢
    clear hab hk
    go_wp2
    go_loopw [5] (fun i wr => ∃ k : Nat, i = .int .i64 (k : Nat) ∧ k ≤ a.length ∧ Below w.heap.size w wr ∧ Hid (a.take k = b.take k)) (fun i _ => a.length - (intOf i).toNat)
    case atStart => exact ⟨0, rfl, by omega, Below.refl _ w, by simp [Hid]⟩
    case round =>
      obtain ⟨k, rfl, hkl, bel, hH⟩ := hrel
      by_cases hlt : k < a.length
      · have hlt' : k < b.length := by rw [← HL.out]; exact hlt
        obtain ⟨b1, o1, c1, e, hb1, hf⟩ := IAt.cl (VAt.bel ha (bel.mono hB)) (by omega)
        obtain ⟨rfl, rfl⟩ : ad = some ⟨b1, o1, none⟩ ∧ c = c1 := by cases e; exact ⟨rfl, rfl⟩
        obtain ⟨b2, o2, c2, e2, hb2, hg⟩ := IAt.cl (VAt.bel hb (bel.mono hB)) (by omega)
        rw [← HL.out] at e2
        obtain ⟨rfl, rfl⟩ : bd = some ⟨b2, o2, none⟩ ∧ d = c2 := by cases e2; exact ⟨rfl, rfl⟩
        have f1 := hf k hlt
        have g1 := hg k hlt'
        have HT : Hid (a[k] = b[k] → a.take (k + 1) = b.take (k + 1)) := fun h => by rw [List.take_succ_eq_append_getElem hlt, List.take_succ_eq_append_getElem hlt', hH.out, h]
        have HN : Hid (a = b → a[k] = b[k]) := fun h => by subst h; rfl
        clear e e2 hf hg
        generalize a[k] = x at *
        generalize b[k] = y at *
        clear hlt'
        by_cases q : x = y
        · subst q
          go_wp2
          go_region
          go_wp2
          go_roundw
          case rel => exact ⟨k + 1, by simp, by omega, bel.drew, HT.out (by first | rfl | trivial)⟩
          case measure => simp [intOf]; omega
        · obtain rfl : false = res := by rw [← HR.out]; symm; unfold sameI; exact beq_eq_false_iff_ne.2 (fun h => q (HN.out h))
          go_wp2
          go_region
          go_wp2
          go_ret
          exact ⟨rfl, bel.drew⟩
      · have e : a = b := by have := hH.out; rwa [List.take_of_length_le (by omega), List.take_of_length_le (by rw [← HL.out]; omega)] at this
        obtain rfl : true = res := by rw [← HR.out]; symm; unfold sameI; exact beq_iff_eq.2 e
        clear e
        go_wp2
        go_ret
        exact ⟨rfl, bel⟩
  · obtain rfl : false = res := by rw [← HR.out]; symm; unfold sameI; exact beq_eq_false_iff_ne.2 (fun h => hab (by rw [h]))
    have hab' : ¬ (a.length : Int) = (b.length : Int) := by omega
    go_enter Try.func15, Try.ntmps15
    go_wp2
    go_ret
    exact ⟨rfl, Below.refl _ _⟩
def sameE (a b : List (List Int)) : Bool := a == b
set_option maxRecDepth 100000 in
set_option maxHeartbeats 4000000 in
theorem rsameAll_any {w : World} {B : Nat} {u v : Value} {a b : List (List Int)} (ha : EAt w B u a) (hb : EAt w B v b) (hB : B ≤ w.heap.size) (hl : a.length ≤ 4194304) (hk : b.length ≤ 4194304) (hl' : ∀ l ∈ a, l.length ≤ 4194304) (hk' : ∀ l ∈ b, l.length ≤ 4194304) :
    Calls Try.prog 11 #[u, v] w fun e w' => e = .returned (.bool (sameE a b)) ∧ Below w.heap.size w w' := by
  obtain ⟨ad, c, rfl⟩ := ha.op
  obtain ⟨bd, d, rfl⟩ := hb.op
  obtain ⟨res, hres⟩ : ∃ r, sameE a b = r := ⟨_, rfl⟩
  have HR : Hid (sameE a b = res) := hres
  rw [hres]
  clear hres
  by_cases hab : a.length = b.length
  · go_enter Try.func11, Try.ntmps11
    have HL : Hid (a.length = b.length) := hab
    rw [← hab] at hb ⊢
    clear hab hk
    go_wp2
    go_loopw [5] (fun i wr => ∃ k : Nat, i = .int .i64 (k : Nat) ∧ k ≤ a.length ∧ Below w.heap.size w wr ∧ Hid (a.take k = b.take k)) (fun i _ => a.length - (intOf i).toNat)
    case atStart => exact ⟨0, rfl, by omega, Below.refl _ w, by simp [Hid]⟩
    case round =>
      obtain ⟨k, rfl, hkl, bel, hH⟩ := hrel
      by_cases hlt : k < a.length
      · have hlt' : k < b.length := by rw [← HL.out]; exact hlt
        obtain ⟨b1, o1, c1, f, e, hb1, hf⟩ := (ha.bel (bel.mono hB)).cl (by omega)
        obtain ⟨rfl, rfl⟩ : ad = some ⟨b1, o1, none⟩ ∧ c = c1 := by cases e; exact ⟨rfl, rfl⟩
        obtain ⟨b2, o2, c2, g, e2, hb2, hg⟩ := (hb.bel (bel.mono hB)).cl (by omega)
        rw [← HL.out] at e2
        obtain ⟨rfl, rfl⟩ : bd = some ⟨b2, o2, none⟩ ∧ d = c2 := by cases e2; exact ⟨rfl, rfl⟩
        obtain ⟨f1, f2⟩ := hf k hlt
        obtain ⟨g1, g2⟩ := hg k hlt'
        have HT : Hid (a[k] = b[k] → a.take (k + 1) = b.take (k + 1)) := fun h => by rw [List.take_succ_eq_append_getElem hlt, List.take_succ_eq_append_getElem hlt', hH.out, h]
        have HN : Hid (a = b → a[k] = b[k]) := fun h => by subst h; rfl
        have C := rsame_any (f2.bel ((Below.refl _ _).drew)) (g2.bel ((Below.refl _ _).drew)) (by have := bel.size; show B ≤ wr.heap.size; omega) (hl' _ (List.getElem_mem _)) (hk' _ (List.getElem_mem _))
        clear e e2 hf hg
        generalize a[k] = x at *
        generalize b[k] = y at *
        clear hlt'
        cases q : sameI x y with
        | true =>
          rw [q] at C
          have q' : x = y := by unfold sameI at q; exact beq_iff_eq.1 q
          have HX : Hid (a.take (k + 1) = b.take (k + 1)) := HT.out q'
          clear q' q
          go_wp2
          go_region_held3 (fun W => W.cell? ⟨b1, o1 + k, none⟩ = some (f k) ∧ W.cell? ⟨b2, o2 + k, none⟩ = some (g k)) (first | assumption | exact ⟨f1, g1⟩ | exact s2) (first | (go_at_call 15; refine C.mono ?_; rintro e W1 ⟨rfl, b1'⟩; have s2 := And.intro ((b1'.cell (p := ⟨b1, o1 + k, none⟩) (by have := bel.size; show b1 < wr.heap.size; omega)).trans f1) ((b1'.cell (p := ⟨b2, o2 + k, none⟩) (by have := bel.size; show b2 < wr.heap.size; omega)).trans g1)))
          go_wp2
          go_roundw
          case rel => exact ⟨k + 1, by simp, by omega, bel.drew.trans (b1'.mono bel.drew.size), HX.out⟩
          case measure => simp [intOf]; omega
        | false =>
          rw [q] at C
          obtain rfl : false = res := by rw [← HR.out]; symm; unfold sameE; exact beq_eq_false_iff_ne.2 (fun h => by have := HN.out h; unfold sameI at q; exact beq_eq_false_iff_ne.1 q this)
          clear q
          go_wp2
          go_region_held3 (fun W => W.cell? ⟨b1, o1 + k, none⟩ = some (f k) ∧ W.cell? ⟨b2, o2 + k, none⟩ = some (g k)) (first | assumption | exact ⟨f1, g1⟩ | exact s2) (first | (go_at_call 15; refine C.mono ?_; rintro e W1 ⟨rfl, b1'⟩; have s2 := And.intro ((b1'.cell (p := ⟨b1, o1 + k, none⟩) (by have := bel.size; show b1 < wr.heap.size; omega)).trans f1) ((b1'.cell (p := ⟨b2, o2 + k, none⟩) (by have := bel.size; show b2 < wr.heap.size; omega)).trans g1)))
          go_wp2
          go_ret
          exact ⟨rfl, bel.drew.trans (b1'.mono bel.drew.size)⟩
      · have e : a = b := by have := hH.out; rwa [List.take_of_length_le (by omega), List.take_of_length_le (by rw [← HL.out]; omega)] at this
        obtain rfl : true = res := by rw [← HR.out]; symm; unfold sameE; exact beq_iff_eq.2 e
        clear e
        go_wp2
        go_ret
        exact ⟨rfl, bel⟩
  · obtain rfl : false = res := by rw [← HR.out]; symm; unfold sameE; exact beq_eq_false_iff_ne.2 (fun h => hab (by rw [h]))
    have hab' : ¬ (a.length : Int) = (b.length : Int) := by omega
    go_enter Try.func11, Try.ntmps11
    go_wp2
    go_ret
    exact ⟨rfl, Below.refl _ _⟩
end Go.Proofs.Ytbliaamckldncaa
