/- Own text. A tree put into a place: the document's answer, its state between two rounds. -/
import Derived.Test.YtggahoefbcnaiabDoorT3
import Derived.Test.YtggahoefbcnaiabDoorT14
namespace Go.Proofs.YtggahoefbcnaiabDoor
open Go.RowKit
set_option linter.unusedVariables false
set_option linter.unusedSimpArgs false

theorem repls_len : ∀ (l : List Nd) (i : Nat) (m : Nd), (repls l i m).length = l.length
  | [], i, m => by rw [repls]
  | x :: l, i, m => by
    rw [repls]
    split
    · rfl
    · rw [List.length_cons, repls_len l, List.length_cons]
theorem repls_get : ∀ (l : List Nd) (i : Nat) (m : Nd) (k : Nat) (h : k < l.length), (repls l i m)[k]? = some (if sizes (l.take k) ≤ i ∧ i < sizes (l.take k) + l[k].size then l[k].repl (i - sizes (l.take k)) m else l[k])
  | x :: l, i, m, 0, h => by
    rw [repls]
    simp only [List.take_zero, sizes_nil, Nat.zero_le, true_and, Nat.zero_add, List.getElem_cons_zero, Nat.sub_zero]
    split <;> rfl
  | x :: l, i, m, k + 1, h => by
    have hk : k < l.length := by simpa using h
    have ih := repls_get l (i - x.size) m k hk
    rw [repls]
    simp only [List.take_succ_cons, sizes_cons, List.getElem_cons_succ]
    by_cases hx : i < x.size
    · rw [if_pos hx, List.getElem?_cons_succ, List.getElem?_eq_getElem hk, if_neg (by omega)]
    · rw [if_neg hx, List.getElem?_cons_succ, ih]
      by_cases h2 : sizes (l.take k) ≤ i - x.size ∧ i - x.size < sizes (l.take k) + l[k].size
      · rw [if_pos h2, if_pos (by omega), show i - (x.size + sizes (l.take k)) = i - x.size - sizes (l.take k) by omega]
      · rw [if_neg h2, if_neg (by omega)]
theorem repls_take (l : List Nd) (i : Nat) (m : Nd) (k : Nat) (h : k < l.length) {y : Nd} (hy : (if sizes (l.take k) ≤ i ∧ i < sizes (l.take k) + l[k].size then l[k].repl (i - sizes (l.take k)) m else l[k]) = y) : (repls l i m).take (k + 1) = (repls l i m).take k ++ [y] := by
  have h1 : k < (repls l i m).length := by rw [repls_len]; exact h
  have h2 := repls_get l i m k h
  rw [hy, List.getElem?_eq_getElem h1] at h2
  rw [List.take_succ_eq_append_getElem h1, Option.some.inj h2]

set_option maxRecDepth 100000 in
set_option maxHeartbeats 16000000 in
theorem rrepl_zero_any (m x : Nd) (zm : m.size ≤ 4194304) (w : World) (Sm S : Nat → Prop) (ax am : Option Addr) (cx cm : Nat) (hx : LAt w S (.slice ax x.ks.length cx) x.ks) (hm : LAt w Sm (.slice am m.ks.length cm) m.ks) :
    Calls Tryd.prog 9 #[x.v (.slice ax x.ks.length cx), .int .i64 0, m.v (.slice am m.ks.length cm)] w fun e w' => ∃ v', e = .returned (m.v v') ∧ LAt w' (fun b => w.heap.size ≤ b) v' m.ks ∧ Below w.heap.size w w' := by
  have C : Hid (∀ W, Below w.heap.size w W → Calls Tryd.prog 15 #[.agg #[Value.int IntKind.i64 m.k, Value.string m.t, Value.int IntKind.i64 m.n, Value.slice am m.ks.length cm]] W fun e w' => ∃ a c, e = .returned (.agg #[.int .i64 m.k, .string m.t, .int .i64 m.n, .slice a m.ks.length c]) ∧ LAt w' (fun b => W.heap.size ≤ b) (.slice a m.ks.length c) m.ks ∧ Below W.heap.size W w') := fun W b => (rcopy_any m W _ _ (hm.bel b) zm).mono (by rintro e w' ⟨v, rfl, l, bb⟩; obtain ⟨a, c, rfl⟩ := l.sl; exact ⟨a, c, rfl, l, bb⟩)
  clear hx
  unfold Nd.v
  go_enter Tryd.func9, Tryd.ntmps9
  go_wp2_with (go_at_call 15; refine (C.out _ (((bel_a _ _).alloc (by simp) _).alloc (by simp <;> omega) _)).mono ?_; rintro e W1 ⟨a1, c1, rfl, l1, b1⟩; have hsz := b1.size; have m2 := (b1.block (w.heap.size + 1 + 1) (by simp)).trans (hnew (w := ((w.alloc _).alloc _)) _ (by simp)); obtain ⟨⟨n0, n1, n2, n3⟩, ⟨g0, g1, g2, g3⟩⟩ := box4 m2)
  all_goals
    refine bodyPost_ret (res_nd Tryd.results9 (box4_set _ _ _ _ m2) rfl) rfl ⟨_, rfl, (l1.keep (by simp [World.setCell]) (fun b hb hlt => ?_)).mono (fun b hb => ?_), ?_⟩
    · have h1 : w.heap.size + 3 ≤ b := by simpa using hb
      rw [Below.heap_setCell _ _ _ _ (by simp; omega), Below.heap_setCell _ _ _ _ (by simp; omega), Below.heap_setCell _ _ _ _ (by simp; omega), Below.heap_setCell _ _ _ _ (by simp; omega)]
    · have h1 : w.heap.size + 3 ≤ b := by simpa using hb
      show w.heap.size ≤ b
      omega
    · have bel : Below w.heap.size w W1 := (((bel_a w _).alloc (by simp) _).alloc (by simp <;> omega) _).trans (b1.mono (by simp <;> omega))
      exact (((bel.setCell (by simp <;> omega) _).setCell (by simp <;> omega) _).setCell (by simp <;> omega) _).setCell (by simp <;> omega) _

/-- the answer's list so far. -/
structure Rst (w : World) (x m : Nd) (ax am : Option Addr) (cx cm : Nat) (R : List Nd) (wr : World) (k : Nat) (L : List (Nd × Value)) (vl : Value) : Prop where
  bel : Below w.heap.size w wr
  sz : w.heap.size + 4 ≤ wr.heap.size
  m0 : wr.heap[w.heap.size]? = some (.cells #[Value.int IntKind.i64 x.k, Value.string x.t, Value.int IntKind.i64 x.n, Value.slice ax x.ks.length cx] 24 (0, 0))
  m1 : wr.heap[w.heap.size + 1]? = some (.cells #[Value.int IntKind.i64 m.k, Value.string m.t, Value.int IntKind.i64 m.n, Value.slice am m.ks.length cm] 24 (0, 0))
  m2 : wr.heap[w.heap.size + 1 + 1]? = some (.cells #[Value.int IntKind.i64 0, Value.string { data := #[] }, Value.int IntKind.i64 0, Value.slice none 0 0] 24 (0, 0))
  m3 : wr.heap[w.heap.size + 1 + 1 + 1]? = some (.cells #[Value.int IntKind.i64 x.k, Value.string x.t, Value.int IntKind.i64 x.n, vl] 24 (0, 0))
  gr : Grow (w.heap.size + 4) wr vl L k
  HL : L.map (·.1) = R.take k
theorem Rst.go {w wr W1 : World} {x m : Nd} {ax am : Option Addr} {cx cm : Nat} {R : List Nd} {k : Nat} {L : List (Nd × Value)} {vl : Value} (h : Rst w x m ax am cx cm R wr k L vl) (b1 : Below wr.heap.size wr W1) : Rst w x m ax am cx cm R W1 k L vl := by
  have sz := h.sz
  exact ⟨h.bel.trans (b1.mono h.bel.size), Nat.le_trans sz b1.size, (b1.block _ (by omega)).trans h.m0, (b1.block _ (by omega)).trans h.m1, (b1.block _ (by omega)).trans h.m2, (b1.block _ (by omega)).trans h.m3, h.gr.bel b1, h.HL⟩
theorem Rst.aft {w W1 W' : World} {x m : Nd} {ax am : Option Addr} {cx cm : Nat} {R : List Nd} {k : Nat} {L : List (Nd × Value)} {vl : Value} (h : Rst w x m ax am cx cm R W1 k L vl) (b : Below W1.drew.heap.size W1.drew W') :
    W'.cell? ⟨w.heap.size + 1 + 1 + 1, 3, none⟩ = some vl ∧ (∀ o, (W'.alloc o).cell? ⟨w.heap.size + 1 + 1 + 1, 3, none⟩ = some vl) ∧ W'.frozen? ⟨w.heap.size + 1 + 1 + 1, 3, none⟩ = false ∧ W1.heap.size ≤ W'.heap.size ∧ W'.ownsRow (w.heap.size + 4) 24 4 vl k (rowN L) := by
  have sz := h.sz
  obtain ⟨⟨_, _, _, d3⟩, ⟨_, _, _, f3⟩⟩ := box4 h.m3
  have hlt : w.heap.size + 1 + 1 + 1 < W1.drew.heap.size := by show _ < W1.heap.size; omega
  have hc := (b.cell (p := ⟨w.heap.size + 1 + 1 + 1, 3, none⟩) hlt).trans d3
  refine ⟨hc, fun o => ((bel_a W' o).cell (p := ⟨w.heap.size + 1 + 1 + 1, 3, none⟩) (Nat.lt_of_lt_of_le hlt b.size)).trans hc, (b.frozen (p := ⟨w.heap.size + 1 + 1 + 1, 3, none⟩) hlt).trans f3, b.size, ?_⟩
  exact row_bel h.gr.own.drew b
theorem Rst.far {w W1 Wb W3 : World} {x m : Nd} {ax am : Option Addr} {cx cm : Nat} {R : List Nd} {k : Nat} {L : List (Nd × Value)} {vl : Value} (h : Rst w x m ax am cx cm R W1 k L vl) (hg : Wb.grownBy W3 vl.ownBlock) (b : Below W1.drew.heap.size W1.drew Wb) :
    W3.heap[w.heap.size]? = W1.heap[w.heap.size]? ∧ W3.heap[w.heap.size + 1]? = W1.heap[w.heap.size + 1]? ∧ W3.heap[w.heap.size + 1 + 1]? = W1.heap[w.heap.size + 1 + 1]? ∧ W3.heap[w.heap.size + 1 + 1 + 1]? = W1.heap[w.heap.size + 1 + 1 + 1]? ∧ Below w.heap.size w W3 := by
  have sz := h.sz
  have bel1 := h.bel
  have own := h.gr.own
  have hl := b.size
  have hl' : W1.heap.size ≤ Wb.heap.size := hl
  have ne : ∀ j, j < w.heap.size + 4 → some j ≠ vl.ownBlock := fun j hj e => by have := (row_lt own j e.symm).1; omega
  have key : ∀ j, j < w.heap.size + 4 → W3.heap[j]? = W1.heap[j]? := fun j hj => (hg.block j (by omega) (ne j hj)).trans (b.block j (by show j < W1.heap.size; omega))
  exact ⟨key _ (by omega), key _ (by omega), key _ (by omega), key _ (by omega), (bel1.drew.trans (b.mono bel1.size)).grown hg (by have := bel1.size; omega) (fun j e => by have := (row_lt own j e).1; omega)⟩
theorem Rst.far3 {w W1 Wb W3 : World} {x m : Nd} {ax am : Option Addr} {cx cm : Nat} {R : List Nd} {k : Nat} {L : List (Nd × Value)} {vl : Value} (h : Rst w x m ax am cx cm R W1 k L vl) (hg : Wb.grownBy W3 vl.ownBlock) (b : Below W1.drew.heap.size W1.drew Wb) :
    W3.cell? ⟨w.heap.size + 1 + 1 + 1, 3, none⟩ = some vl ∧ W3.frozen? ⟨w.heap.size + 1 + 1 + 1, 3, none⟩ = false := by
  obtain ⟨⟨_, _, _, k3⟩, ⟨_, _, _, l3⟩⟩ := box4 ((h.far hg b).2.2.2.1.trans h.m3)
  exact ⟨k3, l3⟩
theorem Rst.push {w W1 W2 W3 : World} {x m yk : Nd} {ax am : Option Addr} {cx cm gg cap : Nat} {R : List Nd} {k : Nat} {L : List (Nd × Value)} {vl v1 : Value} {o : Obj} (h : Rst w x m ax am cx cm R W1 k L vl) (b2 : Below W1.drew.heap.size W1.drew W2) (l1 : LAt W2 (fun b => W1.drew.heap.size ≤ b) v1 yk.ks)
    (hg : (W2.alloc o).grownBy W3 vl.ownBlock) (hat : vl.ownBlock = some gg ∨ gg = W2.heap.size + 1) (hown : W3.ownsRow (w.heap.size + 4) 24 4 (.slice (some ⟨gg, 0, none⟩) (k + 1) cap) (k + 1) (rowN L ++ [.int .i64 yk.k, .string yk.t, .int .i64 yk.n, v1])) (hR : R.take (k + 1) = R.take k ++ [yk]) :
    Rst w x m ax am cx cm R (W3.setCell ⟨w.heap.size + 1 + 1 + 1, 3, none⟩ (.slice (some ⟨gg, 0, none⟩) (k + 1) cap)) (k + 1) (L ++ [(yk, v1)]) (.slice (some ⟨gg, 0, none⟩) (k + 1) cap) := by
  have sz := h.sz
  have hs2 : W1.heap.size ≤ W2.heap.size := b2.size
  obtain ⟨j0, j1, j2, j3, hB3⟩ := h.far hg (b2.alloc b2.size _)
  have hsz4 : w.heap.size + 4 ≤ W3.heap.size := by have := hg.size; simp at this; omega
  refine ⟨hB3.setCell (by simp <;> omega) _, by simpa [World.setCell] using hsz4, (Below.heap_setCell W3 _ _ _ (by simp <;> omega)).trans (j0.trans h.m0), (Below.heap_setCell W3 _ _ _ (by simp <;> omega)).trans (j1.trans h.m1), (Below.heap_setCell W3 _ _ _ (by simp <;> omega)).trans (j2.trans h.m2), box4_set3 _ (j3.trans h.m3), h.gr.push sz ((Below.refl _ _).drew.trans b2) l1 hg hat hown (by simp) _, ?_⟩
  rw [hR, List.map_append, h.HL]; rfl
end Go.Proofs.YtggahoefbcnaiabDoor
