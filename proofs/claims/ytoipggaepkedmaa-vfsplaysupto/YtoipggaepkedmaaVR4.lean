/- Own text. One call on the program's table and on the document's: both answer alike, and both have the same files behind it. -/
import Derived.Test.YtoipggaepkedmaaVR3
import Derived.Deep.RegionWith
namespace Go.Proofs.Ytoipggaepkedmaa
open Go.RowKit Go.Maps
set_option linter.unusedVariables false

/-- both tables, with the same files, in blocks of their own. -/
structure Two (w : World) (B tb mb rb : Nat) (v : Value) (L : Fls) : Prop where
  t : Tab w tb mb L
  r : RTab w rb v L
  tr : tb ≠ rb
  mr : mb ≠ rb
  vs : ∀ j, v.ownBlock = some j → j ≠ tb ∧ j ≠ mb ∧ j ≠ rb
  bt : B ≤ tb
  bm : B ≤ mb
  br : B ≤ rb

section
variable {w w' : World} {B tb mb rb : Nat} {v : Value} {L : Fls}
theorem Two.below (h : Two w B tb mb rb v L) (k : Below w.heap.size w w') : Two w' B tb mb rb v L := ⟨h.t.below k h.t.ltT h.t.ltM, h.r.below k, h.tr, h.mr, h.vs, h.bt, h.bm, h.br⟩
theorem Two.alloc (h : Two w B tb mb rb v L) (o : Obj) : Two (w.alloc o) B tb mb rb v L := h.below ((Below.refl _ w).alloc (Nat.le_refl _) o)
theorem Two.drew (h : Two w B tb mb rb v L) : Two w.drew B tb mb rb v L := ⟨h.t.drew, h.r.drew, h.tr, h.mr, h.vs, h.bt, h.bm, h.br⟩
theorem Two.drewN (h : Two w B tb mb rb v L) (n : Nat) : Two (w.drewN n) B tb mb rb v L := ⟨h.t.drewN n, h.r.drewN n, h.tr, h.mr, h.vs, h.bt, h.bm, h.br⟩
/-- the program's table has changed, then the document's. -/
theorem Two.both {W2 W3 : World} {v' : Value} {L' : Fls} (h : Two w B tb mb rb v L) (t2 : Tab W2 tb mb L') (k2 : Off (fun k => k = mb) w W2) (r3 : RTab W3 rb v' L') (k3 : Off (fun k => k = rb) W2 W3) (hv : v' = v ∨ ∀ j, v'.ownBlock = some j → W2.heap.size ≤ j) : Two W3 B tb mb rb v' L' := by
  refine ⟨t2.off k3 h.tr h.mr, r3, h.tr, h.mr, fun j hj => ?_, h.bt, h.bm, h.br⟩
  rcases hv with rfl | hv
  · exact h.vs j hj
  · have h1 := hv j hj
    have h2 := t2.ltT
    have h3 := t2.ltM
    have h4 := h.r.ltR
    have h5 := k2.size
    omega
theorem Two.rmid {W2 : World} (h : Two w B tb mb rb v L) (k2 : Off (fun k => k = mb) w W2) : RTab W2 rb v L := h.r.off k2 (fun e => h.mr e.symm) (fun j hj => (h.vs j hj).2.1)
end

/-- what one call leaves. -/
def Left2 (W0 : World) (tb rb : Nat) (L F : Fls) (e : Ending) (w' : World) : Prop :=
  e = .returned (.bool true) ∧ ∃ mb' v' L', Two w' W0.heap.size tb mb' rb v' L' ∧ Below W0.heap.size W0 w' ∧ L'.length ≤ max (L.length + 1) F.length

theorem box_cells (w : World) (a b c d e : Value) : (w.alloc (.cells #[a, b, c, d, e] 31)).cell? ⟨w.heap.size, 0, none⟩ = some a ∧ (w.alloc (.cells #[a, b, c, d, e] 31)).cell? ⟨w.heap.size, 1, none⟩ = some b ∧ (w.alloc (.cells #[a, b, c, d, e] 31)).cell? ⟨w.heap.size, 2, none⟩ = some c ∧ (w.alloc (.cells #[a, b, c, d, e] 31)).cell? ⟨w.heap.size, 3, none⟩ = some d ∧ (w.alloc (.cells #[a, b, c, d, e] 31)).cell? ⟨w.heap.size, 4, none⟩ = some e := by
  have h := heap_alloc_new w (.cells #[a, b, c, d, e] 31)
  refine ⟨?_, ?_, ?_, ?_, ?_⟩ <;> rw [cell_of_row _ _ _ _ _ _ h] <;> rfl

set_option maxHeartbeats 8000000 in
set_option maxRecDepth 100000 in
theorem step_write (W0 w : World) (tb mb rb : Nat) (v : Value) (L F : Fls) (N : Int) (p b : ByteArray) (fv : Value) (h : Two w W0.heap.size tb mb rb v L) (hw : Below W0.heap.size W0 w) (hL : (L.length + 1) * 32 ≤ 140737488355328) (hp : p.size ≤ 281474976710656) (hb : b.size ≤ 281474976710656) :
    Calls Try.prog 10 #[.pointer (some ⟨tb, 0, none⟩), .pointer (some ⟨rb, 0, none⟩), .agg #[.int .i64 0, .int .i64 N, .string p, .string b, fv]] w (Left2 W0 tb rb L F) := by
  have hsw := hw.size
  have h1 := h.alloc (.cells #[.int .i64 0, .int .i64 N, .string p, .string b, fv] 31)
  have hw1 := hw.alloc hsw (.cells #[.int .i64 0, .int .i64 N, .string p, .string b, fv] 31)
  obtain ⟨q0, q1, q2, q3, q4⟩ := box_cells w (.int .i64 0) (.int .i64 N) (.string p) (.string b) fv
  have hst := And.intro q2 q3
  have hx := h.t.ltM
  have hln := wrL_len (p := p) (b := b) (L := L)
  have hxr := h.r.ltR
  go_enter Try.func10, Try.ntmps10
  go_wp2
  go_region_held3 (fun W => W.cell? ⟨w.heap.size, 2, none⟩ = some (.string p) ∧ W.cell? ⟨w.heap.size, 3, none⟩ = some (.string b))
    (first | assumption | exact hst | exact hst2 | exact hst3)
    (first
      | (go_at_call 15; refine (write_any _ tb mb L p b h1.drew.t (by omega) hp hb).mono ?_; rintro e W2 ⟨rfl, t2, k2⟩; have r2 := h1.drew.rmid k2; have hw2 := belOff hw1.drew k2 (by simp; omega) (fun i hi => by have := h.bm; omega); have hst2 : W2.cell? ⟨w.heap.size, 2, none⟩ = some (.string p) ∧ W2.cell? ⟨w.heap.size, 3, none⟩ = some (.string b) := ⟨(World.cell?_of_block (a := ⟨w.heap.size, 2, none⟩) (k2.block w.heap.size (by simp) (by omega))).trans q2, (World.cell?_of_block (a := ⟨w.heap.size, 3, none⟩) (k2.block w.heap.size (by simp) (by omega))).trans q3⟩)
      | (go_at_call 16; refine (rwrite_any _ rb v L p b r2 (fun j hj => (h.vs j hj).2.2) hL).mono ?_; rintro e W3 ⟨v3, rfl, r3, hv3, k3⟩; have hw3 := belOff hw2 k3 hw2.size (fun i hi => by have := h.br; omega); have hf3 := h1.drew.both t2 k2 r3 k3 hv3; have hst3 : W3.cell? ⟨w.heap.size, 2, none⟩ = some (.string p) ∧ W3.cell? ⟨w.heap.size, 3, none⟩ = some (.string b) := ⟨(World.cell?_of_block (a := ⟨w.heap.size, 2, none⟩) (k3.block w.heap.size (by have := k2.size; simp at this; omega) (by omega))).trans hst2.1, (World.cell?_of_block (a := ⟨w.heap.size, 3, none⟩) (k3.block w.heap.size (by have := k2.size; simp at this; omega) (by omega))).trans hst2.2⟩))
  all_goals
    go_wp2
    go_ret
    exact ⟨by simp, mb, v3, _, hf3, hw3, by omega⟩

theorem off_cell {S : Nat → Prop} {w w' : World} (k : Off S w w') {bl i : Nat} {x : Value} (hl : bl < w.heap.size) (hS : ¬ S bl) (c : w.cell? ⟨bl, i, none⟩ = some x) : w'.cell? ⟨bl, i, none⟩ = some x :=
  (World.cell?_of_block (a := ⟨bl, i, none⟩) (k.block bl hl hS)).trans c
theorem below_cell {w w' : World} (k : Below w.heap.size w w') {bl i : Nat} {x : Value} (hl : bl < w.heap.size) (c : w.cell? ⟨bl, i, none⟩ = some x) : w'.cell? ⟨bl, i, none⟩ = some x :=
  (World.cell?_of_block (a := ⟨bl, i, none⟩) (k.block bl hl)).trans c

set_option maxHeartbeats 8000000 in
set_option maxRecDepth 100000 in
theorem step_remove (W0 w : World) (tb mb rb : Nat) (v : Value) (L F : Fls) (N : Int) (p b : ByteArray) (fv : Value) (h : Two w W0.heap.size tb mb rb v L) (hw : Below W0.heap.size W0 w) (hL : (L.length + 1) * 32 ≤ 140737488355328) (hp : p.size ≤ 281474976710656) :
    Calls Try.prog 10 #[.pointer (some ⟨tb, 0, none⟩), .pointer (some ⟨rb, 0, none⟩), .agg #[.int .i64 1, .int .i64 N, .string p, .string b, fv]] w (Left2 W0 tb rb L F) := by
  have hsw := hw.size
  have h1 := h.alloc (.cells #[.int .i64 1, .int .i64 N, .string p, .string b, fv] 31)
  have hw1 := hw.alloc hsw (.cells #[.int .i64 1, .int .i64 N, .string p, .string b, fv] 31)
  obtain ⟨q0, q1, q2, q3, q4⟩ := box_cells w (.int .i64 1) (.int .i64 N) (.string p) (.string b) fv
  have hx := h.t.ltM
  have hln := del_len (p := p) (L := L)
  have hxr := h.r.ltR
  have hris := h.t.ris
  go_enter Try.func10, Try.ntmps10
  go_wp2
  go_region_held3 (fun W => W.cell? ⟨w.heap.size, 2, none⟩ = some (.string p))
    (first | assumption | exact q2 | exact hst2 | exact hst3)
    (first
      | (go_at_call 20; refine (remove_any _ tb mb L p h1.drew.t hp).mono ?_; rintro e W2 ⟨rfl, t2, k2⟩; have r2 := h1.drew.rmid k2; have hw2 := belOff hw1.drew k2 (by simp; omega) (fun i hi => by have := h.bm; omega); have hst2 : W2.cell? ⟨w.heap.size, 2, none⟩ = some (.string p) := off_cell k2 (by simp) (by omega) q2)
      | (go_at_call 24; refine (rremove_any _ rb v L p r2 hris hL).mono ?_; rintro e W3 ⟨v3, rfl, r3, hv3, k3⟩; have hw3 := belOff hw2 k3 hw2.size (fun i hi => by have := h.br; omega); have hf3 := h1.drew.both t2 k2 r3 k3 hv3; have hst3 : W3.cell? ⟨w.heap.size, 2, none⟩ = some (.string p) := off_cell k3 (by have := k2.size; simp at this; omega) (by omega) hst2))
  all_goals
    go_wp2
    go_ret
    exact ⟨by simp, mb, v3, _, hf3, hw3, by omega⟩

set_option maxHeartbeats 8000000 in
set_option maxRecDepth 100000 in
theorem step_long (W0 w : World) (tb mb rb : Nat) (v : Value) (L F : Fls) (N : Int) (p b : ByteArray) (fv : Value) (h : Two w W0.heap.size tb mb rb v L) (hw : Below W0.heap.size W0 w) (hL : (L.length + 1) * 32 ≤ 140737488355328) (hp : p.size ≤ 281474976710656) (n1 : -9223372036854775808 ≤ N) (n2 : N ≤ 9223372036854775807) :
    Calls Try.prog 10 #[.pointer (some ⟨tb, 0, none⟩), .pointer (some ⟨rb, 0, none⟩), .agg #[.int .i64 4, .int .i64 N, .string p, .string b, fv]] w (Left2 W0 tb rb L F) := by
  have hsw := hw.size
  have h1 := h.alloc (.cells #[.int .i64 4, .int .i64 N, .string p, .string b, fv] 31)
  have hw1 := hw.alloc hsw (.cells #[.int .i64 4, .int .i64 N, .string p, .string b, fv] 31)
  obtain ⟨q0, q1, q2, q3, q4⟩ := box_cells w (.int .i64 4) (.int .i64 N) (.string p) (.string b) fv
  have hst := And.intro q1 q2
  have hx := h.t.ltM
  have hxr := h.r.ltR
  have hlz := longB_size N
  have hla := fun W => long_any N W n1 n2
  have hln := wrL_len (p := p) (b := longB N) (L := L)
  generalize longB N = lb at *
  have tok1 : True := trivial
  go_enter Try.func10, Try.ntmps10
  go_wp2
  go_region_held3 (fun W => W.cell? ⟨w.heap.size, 1, none⟩ = some (.int .i64 N) ∧ W.cell? ⟨w.heap.size, 2, none⟩ = some (.string p))
    (first | assumption | exact hst | exact hsta | exact hst2 | exact hstc | exact hst3)
    (first
      | (go_at_call 23; have _t := tok1; refine (hla _).mono ?_; rintro e Wa ⟨rfl, ba⟩; have ha := h1.drew.below ba; have hwa := hw1.drew.trans (ba.mono (by simp; omega)); have hsta : Wa.cell? ⟨w.heap.size, 1, none⟩ = some (.int .i64 N) ∧ Wa.cell? ⟨w.heap.size, 2, none⟩ = some (.string p) := ⟨below_cell ba (by simp) q1, below_cell ba (by simp) q2⟩; have za : w.heap.size < Wa.heap.size := (by have := ba.size; simp at this; omega); clear tok1)
      | (go_at_call 15; refine (write_any _ tb mb L p lb ha.t (by omega) hp (by omega)).mono ?_; rintro e W2 ⟨rfl, t2, k2⟩; have r2 := ha.rmid k2; have hw2 := belOff hwa k2 hwa.size (fun i hi => by have := h.bm; omega); have hst2 : W2.cell? ⟨w.heap.size, 1, none⟩ = some (.int .i64 N) ∧ W2.cell? ⟨w.heap.size, 2, none⟩ = some (.string p) := ⟨off_cell k2 za (by omega) hsta.1, off_cell k2 za (by omega) hsta.2⟩; have z2 := k2.size)
      | (go_at_call 23; refine (hla _).mono ?_; rintro e Wc ⟨rfl, bc⟩; have tc := t2.below bc t2.ltT t2.ltM; have rc := r2.below bc; have hwc := hw2.trans (bc.mono hw2.size); have kc : Off (fun k => k = mb) Wa Wc := k2.andThen (Off.of_below bc) (fun i hi => .inl hi); have hstc : Wc.cell? ⟨w.heap.size, 1, none⟩ = some (.int .i64 N) ∧ Wc.cell? ⟨w.heap.size, 2, none⟩ = some (.string p) := ⟨below_cell bc (by omega) hst2.1, below_cell bc (by omega) hst2.2⟩; have zc := bc.size)
      | (go_at_call 16; refine (rwrite_any _ rb v L p lb rc (fun j hj => (h.vs j hj).2.2) hL).mono ?_; rintro e W3 ⟨v3, rfl, r3, hv3, k3⟩; have hw3 := belOff hwc k3 hwc.size (fun i hi => by have := h.br; omega); have hf3 := ha.both tc kc r3 k3 hv3; have hst3 : W3.cell? ⟨w.heap.size, 1, none⟩ = some (.int .i64 N) ∧ W3.cell? ⟨w.heap.size, 2, none⟩ = some (.string p) := ⟨off_cell k3 (by omega) (by omega) hstc.1, off_cell k3 (by omega) (by omega) hstc.2⟩))
  all_goals
    go_wp2
    go_ret
    exact ⟨by simp, mb, v3, _, hf3, hw3, by omega⟩

set_option maxHeartbeats 8000000 in
set_option maxRecDepth 100000 in
theorem step_read (W0 w : World) (tb mb rb : Nat) (v : Value) (L F : Fls) (K N : Int) (p b : ByteArray) (fv : Value) (h : Two w W0.heap.size tb mb rb v L) (hw : Below W0.heap.size W0 w) (hL : (L.length + 1) * 32 ≤ 140737488355328) (hp : p.size ≤ 281474976710656)
    (k0 : K ≠ 0) (k1 : K ≠ 1) (k3 : K ≠ 3) (k4 : K ≠ 4) :
    Calls Try.prog 10 #[.pointer (some ⟨tb, 0, none⟩), .pointer (some ⟨rb, 0, none⟩), .agg #[.int .i64 K, .int .i64 N, .string p, .string b, fv]] w (Left2 W0 tb rb L F) := by
  have hsw := hw.size
  have b0 : (K == 0) = false := by simpa using k0
  have b1 : (K == 1) = false := by simpa using k1
  have b3 : (K == 3) = false := by simpa using k3
  have b4 : (K == 4) = false := by simpa using k4
  have h1 := h.alloc (.cells #[.int .i64 K, .int .i64 N, .string p, .string b, fv] 31)
  have hw1 := hw.alloc hsw (.cells #[.int .i64 K, .int .i64 N, .string p, .string b, fv] 31)
  obtain ⟨q0, q1, q2, q3, q4⟩ := box_cells w (.int .i64 K) (.int .i64 N) (.string p) (.string b) fv
  have hris := h.t.ris
  clear k0 k1 k3 k4
  go_enter Try.func10, Try.ntmps10
  go_wp2_with (first
    | (go_at_call 21; refine (read_any _ tb mb L p h1.t hp).mono ?_; rintro e W2 ⟨rfl, c2⟩; have h2 := h1.below c2; have hw2 := hw1.trans (c2.mono (by simp; omega)); have q22 := below_cell c2 (by simp) q2; have z2 : w.heap.size < W2.heap.size := (by have := c2.size; simp at this; omega))
    | (go_at_call 25; refine (rread_any _ rb v L p h2.r hris (by omega)).mono ?_; rintro e W3 ⟨rfl, n3, rfl⟩; have h3 := h2.drewN n3; have hw3 := below_drewN hw2 n3)
    | (go_at_call 19; refine (has_any _ tb mb L p h3.t hp).mono ?_; rintro e W4 ⟨rfl, c4⟩; have h4 := h3.below c4; have hw4 := hw3.trans (c4.mono hw3.size)))
  go_ret
  exact ⟨by simp, mb, v, L, h4, hw4, by omega⟩

end Go.Proofs.Ytoipggaepkedmaa
