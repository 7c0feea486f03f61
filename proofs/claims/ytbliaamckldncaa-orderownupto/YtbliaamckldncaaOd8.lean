/- Own text. What the walk reaches; the examples (awake), given what the program's functions answer. -/
import Derived.Test.YtbliaamckldncaaOd7
namespace Go.Proofs.Ytbliaamckldncaa
open Go.RowKit Gph
set_option linter.unusedVariables false
set_option linter.unusedSimpArgs false

/-- a walk from a place enters just what can be reached. -/
theorem dfs_reach {G : List (List Nat)} (hG : Ok G) {x : Nat} (hx : x < G.length) (y : Nat) : on (dfs G G.length x (List.replicate G.length false) []).1 y ↔ Rch G x y := by
  obtain ⟨T, e, D⟩ := dfs_did hG G.length x (List.replicate G.length false) [] (by simp) hx (not_on_rep _ _) (by rw [off_rep]; omega)
  constructor
  · intro h
    rcases (D.mem y).1 h with h | h
    · exact absurd h (not_on_rep _ _)
    · obtain ⟨r, rfl, hr⟩ := D.reach y h; exact hr
  · intro h
    refine h (fun y => on (dfs G G.length x (List.replicate G.length false) []).1 y) ((D.mem x).2 (Or.inr (by simp))) (fun a b ha hb => ?_)
    rcases (D.mem a).1 ha with h | h
    · exact absurd h (not_on_rep _ _)
    · exact D.edge a h b hb
/-- which places stand in one part, reckoned. -/
def mutB (G : List (List Nat)) (x y : Nat) : Bool := isOn (dfs G G.length x (List.replicate G.length false) []).1 y && isOn (dfs G G.length y (List.replicate G.length false) []).1 x
theorem mutB_tells {G : List (List Nat)} (hG : Ok G) : Tells G (mutB G) := fun x y hx hy => by
  unfold mutB
  rw [Bool.and_eq_true, isOn_iff, isOn_iff, dfs_reach hG hx, dfs_reach hG hy]; rfl
theorem parts_of {E : List (List Int)} (hc : chk E = true) : PartsOf E (partsF (mutB (nE E)) E.length) := ⟨fun _ => ⟨_, mutB_tells (graph_of hc).2, rfl⟩, fun h => absurd hc h⟩
/-- the example's edges. -/
def exE : List (List Int) := [[1, 2], [2], [1], []]
theorem ex_chk : chk exE = true := by decide
theorem ex_parts {P : List (List Nat)} (h : PartsOf exE P) : P = [[0], [1, 2], [3]] := by
  rw [h.unique (parts_of ex_chk)]
  decide
theorem ex_order : ordL exE 0 = [2, 1, 0] := by decide
/-- what the program's functions are held to. -/
structure Prg : Prop where
  ck : ∀ (w : World) (v : Value) (E : List (List Int)), EAt w w.heap.size v E → E.length ≤ 1048576 → (∀ l ∈ E, l.length ≤ 1048576) → Calls Try.prog 9 #[v] w fun e w' => e = .returned (.int .i64 (chkN E)) ∧ Below w.heap.size w w'
  pt : ∀ (w : World) (v : Value) (E : List (List Int)), EAt w w.heap.size v E → E.length ≤ 1048576 → (∀ l ∈ E, l.length ≤ 1048576) → Calls Try.prog 12 #[v] w fun e w' => ∃ vo P, e = .returned vo ∧ PPt w' w.heap.size w'.heap.size vo P ∧ PartsOf E P ∧ Below w.heap.size w w'
  od : ∀ (w : World) (v : Value) (E : List (List Int)) (root : Int), EAt w w.heap.size v E → E.length ≤ 1048576 → (∀ l ∈ E, l.length ≤ 1048576) → Calls Try.prog 16 #[v, .int .i64 root] w fun e w' => ∃ vo, e = .returned vo ∧ Tl w' w.heap.size vo (ordL E root) ∧ Below w.heap.size w w'
theorem hnew {w : World} (o : Obj) {k : Nat} (h : k = w.heap.size) : (w.alloc o).heap[k]? = some o := by subst h; exact heap_alloc_new w o
theorem hold {w : World} (o : Obj) {k : Nat} {u : Option Obj} (h : k < w.heap.size) (hu : w.heap[k]? = u) : (w.alloc o).heap[k]? = u := (Below.heap_alloc w o k h).trans hu
/-- a list that is laid whole. -/
theorem lit_row {W : World} {g n : Nat} {cs : Array Value} {T : TypeId} (h : W.heap[g]? = some (.cells cs T (0, 0))) (hn : cs.size = n) : VAt W W.heap.size (.slice (some ⟨g, 0, none⟩) n n) cs.toList := by
  have hl : cs.toList.length = n := by simpa using hn
  refine ⟨⟨_, _, by rw [hl]⟩, fun h0 => ⟨g, 0, n, by rw [hl], (Array.getElem?_eq_some_iff.1 h).1, fun i hi => ?_⟩⟩
  rw [Nat.zero_add, cell_of_row W g i cs T (0, 0) h]
  simp at hi
  simp [hi]
theorem eat_cons {W : World} {v : Value} {vs : List Value} {E : List (List Int)} (hl : vs.length = E.length) (h : VAt W W.heap.size v vs) (k : ∀ i (h : i < E.length) (h' : i < vs.length), IAt W W.heap.size vs[i] E[i]) : EAt W W.heap.size v E := ⟨vs, hl, h, k⟩
theorem ex_lit (w : World) : EAt (((((w.alloc (Obj.cells #[Value.int IntKind.i64 1, Value.int IntKind.i64 2] 3)).alloc (Obj.cells #[Value.int IntKind.i64 2] 3)).alloc (Obj.cells #[Value.int IntKind.i64 1] 3)).alloc (Obj.cells #[] 3)).alloc (Obj.cells #[Value.slice (some { block := w.heap.size, off := 0 }) 2 2, Value.slice (some { block := w.heap.size + 1, off := 0 }) 1 1, Value.slice (some { block := w.heap.size + 1 + 1, off := 0 }) 1 1, Value.slice (some { block := w.heap.size + 1 + 1 + 1, off := 0 }) 0 0] 31)) (w.heap.size + 5) (.slice (some ⟨w.heap.size + 1 + 1 + 1 + 1, 0, none⟩) 4 4) exE := by
  obtain ⟨W, hW⟩ : ∃ W, (((((w.alloc (Obj.cells #[Value.int IntKind.i64 1, Value.int IntKind.i64 2] 3)).alloc (Obj.cells #[Value.int IntKind.i64 2] 3)).alloc (Obj.cells #[Value.int IntKind.i64 1] 3)).alloc (Obj.cells #[] 3)).alloc (Obj.cells #[Value.slice (some { block := w.heap.size, off := 0 }) 2 2, Value.slice (some { block := w.heap.size + 1, off := 0 }) 1 1, Value.slice (some { block := w.heap.size + 1 + 1, off := 0 }) 1 1, Value.slice (some { block := w.heap.size + 1 + 1 + 1, off := 0 }) 0 0] 31)) = W := ⟨_, rfl⟩
  have hs : W.heap.size = w.heap.size + 5 := by rw [← hW]; simp
  have h0 : W.heap[w.heap.size]? = some (.cells #[Value.int IntKind.i64 1, Value.int IntKind.i64 2] 3 (0, 0)) := by rw [← hW]; exact hold _ (by simp <;> omega) (hold _ (by simp <;> omega) (hold _ (by simp <;> omega) (hold _ (by simp <;> omega) (hnew _ (by simp)))))
  have h1 : W.heap[w.heap.size + 1]? = some (.cells #[Value.int IntKind.i64 2] 3 (0, 0)) := by rw [← hW]; exact hold _ (by simp <;> omega) (hold _ (by simp <;> omega) (hold _ (by simp <;> omega) (hnew _ (by simp))))
  have h2 : W.heap[w.heap.size + 1 + 1]? = some (.cells #[Value.int IntKind.i64 1] 3 (0, 0)) := by rw [← hW]; exact hold _ (by simp <;> omega) (hold _ (by simp <;> omega) (hnew _ (by simp)))
  have h3 : W.heap[w.heap.size + 1 + 1 + 1]? = some (.cells #[] 3 (0, 0)) := by rw [← hW]; exact hold _ (by simp <;> omega) (hnew _ (by simp))
  have h4 : W.heap[w.heap.size + 1 + 1 + 1 + 1]? = some (.cells #[Value.slice (some { block := w.heap.size, off := 0 }) 2 2, Value.slice (some { block := w.heap.size + 1, off := 0 }) 1 1, Value.slice (some { block := w.heap.size + 1 + 1, off := 0 }) 1 1, Value.slice (some { block := w.heap.size + 1 + 1 + 1, off := 0 }) 0 0] 31 (0, 0)) := by rw [← hW]; exact hnew _ (by simp)
  rw [hW, ← hs]
  refine eat_cons (vs := [_, _, _, _]) rfl (lit_row h4 rfl) (fun i hi hi' => ?_)
  match i, hi with
  | 0, _ => exact lit_row h0 rfl
  | 1, _ => exact lit_row h1 rfl
  | 2, _ => exact lit_row h2 rfl
  | 3, _ => exact lit_row h3 rfl
theorem ex_lit2 (w : World) : EAt ((((w.alloc (Obj.cells #[Value.int IntKind.i64 0] 3)).alloc (Obj.cells #[Value.int IntKind.i64 1, Value.int IntKind.i64 2] 3)).alloc (Obj.cells #[Value.int IntKind.i64 3] 3)).alloc (Obj.cells #[Value.slice (some { block := w.heap.size, off := 0 }) 1 1, Value.slice (some { block := w.heap.size + 1, off := 0 }) 2 2, Value.slice (some { block := w.heap.size + 1 + 1, off := 0 }) 1 1] 31)) (w.heap.size + 4) (.slice (some ⟨w.heap.size + 1 + 1 + 1, 0, none⟩) 3 3) [[0], [1, 2], [3]] := by
  obtain ⟨W, hW⟩ : ∃ W, ((((w.alloc (Obj.cells #[Value.int IntKind.i64 0] 3)).alloc (Obj.cells #[Value.int IntKind.i64 1, Value.int IntKind.i64 2] 3)).alloc (Obj.cells #[Value.int IntKind.i64 3] 3)).alloc (Obj.cells #[Value.slice (some { block := w.heap.size, off := 0 }) 1 1, Value.slice (some { block := w.heap.size + 1, off := 0 }) 2 2, Value.slice (some { block := w.heap.size + 1 + 1, off := 0 }) 1 1] 31)) = W := ⟨_, rfl⟩
  have hs : W.heap.size = w.heap.size + 4 := by rw [← hW]; simp
  have h0 : W.heap[w.heap.size]? = some (.cells #[Value.int IntKind.i64 0] 3 (0, 0)) := by rw [← hW]; exact hold _ (by simp <;> omega) (hold _ (by simp <;> omega) (hold _ (by simp <;> omega) (hnew _ (by simp))))
  have h1 : W.heap[w.heap.size + 1]? = some (.cells #[Value.int IntKind.i64 1, Value.int IntKind.i64 2] 3 (0, 0)) := by rw [← hW]; exact hold _ (by simp <;> omega) (hold _ (by simp <;> omega) (hnew _ (by simp)))
  have h2 : W.heap[w.heap.size + 1 + 1]? = some (.cells #[Value.int IntKind.i64 3] 3 (0, 0)) := by rw [← hW]; exact hold _ (by simp <;> omega) (hnew _ (by simp))
  have h3 : W.heap[w.heap.size + 1 + 1 + 1]? = some (.cells #[Value.slice (some { block := w.heap.size, off := 0 }) 1 1, Value.slice (some { block := w.heap.size + 1, off := 0 }) 2 2, Value.slice (some { block := w.heap.size + 1 + 1, off := 0 }) 1 1] 31 (0, 0)) := by rw [← hW]; exact hnew _ (by simp)
  rw [hW, ← hs]
  refine eat_cons (vs := [_, _, _]) rfl (lit_row h3 rfl) (fun i hi hi' => ?_)
  match i, hi with
  | 0, _ => exact lit_row h0 rfl
  | 1, _ => exact lit_row h1 rfl
  | 2, _ => exact lit_row h2 rfl
set_option maxRecDepth 100000 in
set_option maxHeartbeats 8000000 in
theorem awake_any (H : Prg) (w : World) : Calls Try.prog 14 #[] w fun e w' => e = .returned (.bool true) ∧ Below w.heap.size w w' := by
  go_enter Try.func14, Try.ntmps14
  go_wp2_with fail
  have E0 := ex_lit w
  obtain ⟨W0, hW0⟩ : ∃ W, (((((w.alloc (Obj.cells #[Value.int IntKind.i64 1, Value.int IntKind.i64 2] 3)).alloc (Obj.cells #[Value.int IntKind.i64 2] 3)).alloc (Obj.cells #[Value.int IntKind.i64 1] 3)).alloc (Obj.cells #[] 3)).alloc (Obj.cells #[Value.slice (some { block := w.heap.size, off := 0 }) 2 2, Value.slice (some { block := w.heap.size + 1, off := 0 }) 1 1, Value.slice (some { block := w.heap.size + 1 + 1, off := 0 }) 1 1, Value.slice (some { block := w.heap.size + 1 + 1 + 1, off := 0 }) 0 0] 31)) = W := ⟨_, rfl⟩
  have b0 : Below w.heap.size w W0 := by rw [← hW0]; exact (((((Below.refl _ _).alloc (Nat.le_refl _) _).alloc (by simp) _).alloc (by simp; omega) _).alloc (by simp; omega) _).alloc (by simp; omega) _
  have s0 : W0.heap.size = w.heap.size + 5 := by rw [← hW0]; simp
  rw [hW0] at E0 ⊢
  rw [← s0] at E0
  have S0 : Hid (W0.heap.size = w.heap.size + 5) := s0
  clear hW0 s0
  go_at_call 12
  refine (H.pt _ _ _ E0 (by decide) (by decide)).mono ?_
  rintro e W1 ⟨vo, P, rfl, hP, hPo, b1⟩
  obtain rfl := ex_parts hPo
  have E1 := E0.bel b1
  have bw1 := b0.trans (b1.mono b0.size)
  go_wp2_with fail
  have E2 := ex_lit2 W1
  obtain ⟨W2, hW2⟩ : ∃ W, ((((W1.alloc (Obj.cells #[Value.int IntKind.i64 0] 3)).alloc (Obj.cells #[Value.int IntKind.i64 1, Value.int IntKind.i64 2] 3)).alloc (Obj.cells #[Value.int IntKind.i64 3] 3)).alloc (Obj.cells #[Value.slice (some { block := W1.heap.size, off := 0 }) 1 1, Value.slice (some { block := W1.heap.size + 1, off := 0 }) 2 2, Value.slice (some { block := W1.heap.size + 1 + 1, off := 0 }) 1 1] 31)) = W := ⟨_, rfl⟩
  have b2 : Below W1.heap.size W1 W2 := by rw [← hW2]; exact ((((Below.refl _ _).alloc (Nat.le_refl _) _).alloc (by simp) _).alloc (by simp; omega) _).alloc (by simp; omega) _
  have s2 : W2.heap.size = W1.heap.size + 4 := by rw [← hW2]; simp
  rw [hW2] at E2 ⊢
  rw [← s2] at E2
  have z2 : W1.heap.size ≤ W2.heap.size := by omega
  have z1 := b1.size
  have z0 := b0.size
  have EP : EAt W2 W2.heap.size vo (toI [[0], [1, 2], [3]]) := (hP.eat.bel b2).mono z2
  have C2 := rsameAll_any EP E2 (Nat.le_refl _) (by decide) (by decide) (by decide) (by decide)
  have e2 : sameE (toI [[0], [1, 2], [3]]) [[0], [1, 2], [3]] = true := by decide
  rw [e2] at C2
  have bw2 := bw1.trans (b2.mono bw1.size)
  have E3 := (E1.bel (b2.mono z1))
  clear hW2 s2 e2
  go_at_call 11
  refine C2.mono ?_
  rintro e W3 ⟨rfl, b3⟩
  have bw3 := bw2.trans (b3.mono bw2.size)
  have z3 := b3.size
  have E4 := (E3.bel (b3.mono (by omega))).mono (show W0.heap.size ≤ W3.heap.size by omega)
  have z4 := bw3.size
  have CO := H.od W3 _ exE 0 E4 (by decide) (by decide)
  rw [ex_order] at CO
  have HC : Hid _ := CO
  clear CO
  go_wp2_with fail
  go_at_call 16
  refine (Calls.mono HC.out) ?_
  rintro e W4 ⟨v4, rfl, hT4, b4⟩
  have bw4 := bw3.trans (b4.mono bw3.size)
  have z5 := b4.size
  have E5 := (E4.bel b4).mono z5
  have hv4 : VAt W4 W4.heap.size v4 (ints [2, 1, 0]) := vat_row hT4
  clear HC E4
  go_wp2_with fail
  have L4 : IAt (W4.alloc (Obj.cells #[Value.int IntKind.i64 2, Value.int IntKind.i64 1, Value.int IntKind.i64 0] 3)) (W4.alloc (Obj.cells #[Value.int IntKind.i64 2, Value.int IntKind.i64 1, Value.int IntKind.i64 0] 3)).heap.size (.slice (some ⟨W4.heap.size, 0, none⟩) 3 3) [2, 1, 0] := lit_row (heap_alloc_new _ _) rfl
  obtain ⟨W5, hW5⟩ : ∃ W, W4.alloc (Obj.cells #[Value.int IntKind.i64 2, Value.int IntKind.i64 1, Value.int IntKind.i64 0] 3) = W := ⟨_, rfl⟩
  have b5 : Below W4.heap.size W4 W5 := by rw [← hW5]; exact (Below.refl _ _).alloc (Nat.le_refl _) _
  rw [hW5] at L4 ⊢
  have z6 := b5.size
  have C5 := rsame_any ((hv4.bel b5).mono z6) L4 (Nat.le_refl _) (by decide) (by decide)
  have e5 : sameI [2, 1, 0] [2, 1, 0] = true := by decide
  rw [e5] at C5
  have bw5 := bw4.trans (b5.mono bw4.size)
  have E6 := (E5.bel b5).mono z6
  clear hW5 e5
  go_at_call 15
  refine C5.mono ?_
  rintro e W6 ⟨rfl, b6⟩
  have bw6 := bw5.trans (b6.mono bw5.size)
  have CK := H.ck W6 _ exE ((E6.bel b6).mono b6.size) (by decide) (by decide)
  have e6 : chkN exE = 0 := by decide
  rw [e6] at CK
  have HC : Hid _ := CK
  clear CK e6
  go_wp2_with fail
  go_at_call 9
  refine (Calls.mono HC.out) ?_
  rintro e W7 ⟨rfl, b7⟩
  go_wp2
  go_ret
  exact ⟨rfl, bw6.trans (b7.mono bw6.size)⟩
end Go.Proofs.Ytbliaamckldncaa
