/- Own text. The document's parser over tokens in memory: where it stands, and what its small functions answer where no error was seen. The document's parser: what stands at a place, and passing over it. The document's parser: a number and a semicolon behind it, as an expression. The document's parser: a number and a semicolon behind it, as an expression: operators. The document's parser: Expr at a number; a default export. The document's parser: what a walk through a rule keeps; a default export. -/
import Derived.Test.YtadkmlcnmkdfiaaGreatDoorX9
import Derived.Test.YtadkmlcnmkdfiaaGreatDoorT3
import Derived.BigQuiet
import Derived.Deep.QuietTactic
namespace Go.Proofs.YtadkmlcnmkdfiaaGreatDoor
open Go.RowKit
set_option linter.unusedVariables false
set_option linter.unusedSimpArgs false

/-- all blocks but b are as they were. -/
structure Kpt (b : Nat) (w w' : World) : Prop where
  os : w'.os = w.os
  tape : w'.tape = w.tape
  output : w'.output = w.output
  size : w.heap.size ≤ w'.heap.size
  block : ∀ k, k < w.heap.size → k ≠ b → w'.heap[k]? = w.heap[k]?
theorem Kpt.refl (b : Nat) (w : World) : Kpt b w w := ⟨rfl, rfl, rfl, Nat.le_refl _, fun _ _ _ => rfl⟩
theorem Kpt.trans {b : Nat} {w w' w'' : World} (h : Kpt b w w') (k : Kpt b w' w'') : Kpt b w w'' :=
  ⟨k.os.trans h.os, k.tape.trans h.tape, k.output.trans h.output, Nat.le_trans h.size k.size, fun i hi hb => (k.block i (Nat.lt_of_lt_of_le hi h.size) hb).trans (h.block i hi hb)⟩
theorem Kpt.of {b : Nat} {w w' : World} (h : Below w.heap.size w w') : Kpt b w w' := ⟨h.os, h.tape, h.output, h.size, fun k hk _ => h.block k hk⟩
theorem Kpt.then {b : Nat} {w w' w'' : World} (h : Kpt b w w') (k : Below w'.heap.size w' w'') : Kpt b w w'' := h.trans (.of k)
theorem Kpt.set {b : Nat} {w w' : World} (h : Kpt b w w') (i : Nat) (v : Value) : Kpt b w (w'.setCell ⟨b, i, none⟩ v) :=
  h.trans ⟨rfl, rfl, rfl, by simp [World.setCell], fun k hk hb => Below.heap_setCell _ _ _ _ hb⟩
theorem Kpt.new {b : Nat} {w w' : World} (h : Kpt b w w') {n : Nat} (hn : w.heap.size ≤ n) (i : Nat) (v : Value) : Kpt b w (w'.setCell ⟨n, i, none⟩ v) :=
  ⟨h.os, h.tape, h.output, by simpa [World.setCell] using h.size, fun k hk hb => (Below.heap_setCell _ _ _ _ (by show k ≠ n; omega)).trans (h.block k hk hb)⟩
theorem Kpt.alloc {b : Nat} {w w' : World} (h : Kpt b w w') (o : Obj) : Kpt b w (w'.alloc o) := h.then ((Below.refl _ _).alloc (Nat.le_refl _) o)
theorem Kpt.below {B b : Nat} {w w' : World} (h : Kpt b w w') (hB : B ≤ b) (hs : B ≤ w.heap.size) : Below B w w' :=
  ⟨h.os, h.tape, h.output, h.size, fun k hk => h.block k (by omega) (by omega)⟩

abbrev Tq := Tk × Int
/-- tokens in the block g. -/
structure Tks (W : World) (g : Nat) (T : List Tq) : Prop where
  c : ∀ i (h : i < T.length), W.cell? ⟨g, i * 4, none⟩ = some (.int .i64 T[i].1.1) ∧ W.cell? ⟨g, i * 4 + 1, none⟩ = some (.string ⟨T[i].1.2.1.toArray⟩) ∧ W.cell? ⟨g, i * 4 + 2, none⟩ = some (.int .i64 T[i].1.2.2) ∧ W.cell? ⟨g, i * 4 + 3, none⟩ = some (.int .i64 T[i].2)
  lt : g < W.heap.size
theorem Tks.keep {W W' : World} {g : Nat} {T : List Tq} (h : Tks W g T) (hs : W.heap.size ≤ W'.heap.size) (e : W'.heap[g]? = W.heap[g]?) : Tks W' g T :=
  ⟨fun i hi => by
    obtain ⟨a, b, c, d⟩ := h.c i hi
    exact ⟨(World.cell?_of_block (a := ⟨g, _, none⟩) e).trans a, (World.cell?_of_block (a := ⟨g, _, none⟩) e).trans b, (World.cell?_of_block (a := ⟨g, _, none⟩) e).trans c, (World.cell?_of_block (a := ⟨g, _, none⟩) e).trans d⟩, Nat.lt_of_lt_of_le h.lt hs⟩
def tkAt (T : List Tq) (i : Nat) : Tq := (T[i]?).getD ((0, [], 0), 0)
/-- where the parser stands: its struct lies in the block b. -/
structure PS (W : World) (b g c : Nat) (T : List Tq) (a o : Nat) : Prop where
  blk : W.heap[b]? = some (.cells #[.slice (some ⟨g, 0, none⟩) T.length c, .int .i64 (a : Nat), .int .i64 (o : Nat), .int .i64 0, .int .i64 0] 125 (0, 0))
  tk : Tks W g T
  ne : g ≠ b
  ln : T.length ≤ 1048576
  la : a ≤ T.length
theorem t5 {w : World} {b : Nat} {p q r s u : Value} {t : TypeId} (h : w.heap[b]? = some (.cells #[p, q, r, s, u] t (0, 0))) :
    (w.cell? ⟨b, 0, none⟩ = some p ∧ w.cell? ⟨b, 1, none⟩ = some q ∧ w.cell? ⟨b, 2, none⟩ = some r ∧ w.cell? ⟨b, 3, none⟩ = some s ∧ w.cell? ⟨b, 4, none⟩ = some u) ∧ (w.frozen? ⟨b, 0, none⟩ = false ∧ w.frozen? ⟨b, 1, none⟩ = false ∧ w.frozen? ⟨b, 2, none⟩ = false ∧ w.frozen? ⟨b, 3, none⟩ = false ∧ w.frozen? ⟨b, 4, none⟩ = false) := by
  simp [World.cell?, World.frozen?, h]
theorem t5_set1 {w : World} {b : Nat} {p q r s u : Value} {t : TypeId} {fr : Nat × Nat} (q' : Value) (h : w.heap[b]? = some (.cells #[p, q, r, s, u] t fr)) :
    (w.setCell ⟨b, 1, none⟩ q').heap[b]? = some (.cells #[p, q', r, s, u] t fr) := by
  simp [World.setCell, Array.getElem?_modify, h]
theorem t5_set2 {w : World} {b : Nat} {p q r s u : Value} {t : TypeId} {fr : Nat × Nat} (q' : Value) (h : w.heap[b]? = some (.cells #[p, q, r, s, u] t fr)) :
    (w.setCell ⟨b, 2, none⟩ q').heap[b]? = some (.cells #[p, q, q', s, u] t fr) := by
  simp [World.setCell, Array.getElem?_modify, h]
theorem PS.lt {W : World} {b g c : Nat} {T : List Tq} {a o : Nat} (h : PS W b g c T a o) : b < W.heap.size := (Array.getElem?_eq_some_iff.1 h.blk).1
theorem PS.bel {W W' : World} {b g c : Nat} {T : List Tq} {a o : Nat} (h : PS W b g c T a o) (k : Below W.heap.size W W') : PS W' b g c T a o :=
  ⟨(k.block _ h.lt).trans h.blk, h.tk.keep k.size (k.block _ h.tk.lt), h.ne, h.ln, h.la⟩
theorem PS.set1 {W : World} {b g c : Nat} {T : List Tq} {a o : Nat} (h : PS W b g c T a o) (n : Nat) (hn : n ≤ T.length) : PS (W.setCell ⟨b, 1, none⟩ (.int .i64 (n : Nat))) b g c T n o :=
  ⟨t5_set1 _ h.blk, h.tk.keep (by simp [World.setCell]) (Below.heap_setCell _ _ _ _ h.ne), h.ne, h.ln, hn⟩
theorem PS.set2 {W : World} {b g c : Nat} {T : List Tq} {a o : Nat} (h : PS W b g c T a o) (n : Nat) : PS (W.setCell ⟨b, 2, none⟩ (.int .i64 (n : Nat))) b g c T a n :=
  ⟨t5_set2 _ h.blk, h.tk.keep (by simp [World.setCell]) (Below.heap_setCell _ _ _ _ h.ne), h.ne, h.ln, h.la⟩
theorem PS.out {W W' : World} {b g c : Nat} {T : List Tq} {a o : Nat} (h : PS W b g c T a o) (hs : W.heap.size ≤ W'.heap.size) (e : W'.heap[b]? = W.heap[b]?) (e2 : W'.heap[g]? = W.heap[g]?) : PS W' b g c T a o :=
  ⟨e.trans h.blk, h.tk.keep hs e2, h.ne, h.ln, h.la⟩
theorem PS.one {W : World} {b g c : Nat} {T : List Tq} {a o : Nat} (h : PS W b g c T a o) {n : Nat} (hn : W.heap.size ≤ n) {W' : World} (k : PS W' b g c T a o) (i : Nat) (v : Value) : PS (W'.setCell ⟨n, i, none⟩ v) b g c T a o :=
  k.out (by simp [World.setCell]) (Below.heap_setCell _ _ _ _ (by have := h.lt; show b ≠ n; omega)) (Below.heap_setCell _ _ _ _ (by have := h.tk.lt; show g ≠ n; omega))
abbrev pv5 (b : Nat) : Value := .pointer (some ⟨b, 0, none⟩)

/-- a token that is answered out of its cell. -/
theorem res_tk {fn : Func} {p : Nat} (h : fn.results = #[.cell p 92]) {W : World} {n : Nat} {a b c d : Value} {t : TypeId} {tmps : Array Value} (hb : W.heap[n]? = some (.cells #[a, b, c, d] t (0, 0))) (ht : tmps[p]?.getD undef = .pointer (some ⟨n, 0, none⟩)) :
    (results fn tmps).run Tryz.prog W = .ok (.agg #[a, b, c, d]) W := by
  obtain ⟨⟨c0, c1, c2, c3⟩, _⟩ := box4 hb
  simp [results, h, go_sem, ht, c0, c1, c2, c3]
def tqV (t : Tq) : Value := .agg #[.int .i64 t.1.1, .string ⟨t.1.2.1.toArray⟩, .int .i64 t.1.2.2, .int .i64 t.2]
theorem tk_lt {T : List Tq} {i : Nat} (h : i < T.length) : tkAt T i = T[i] := by unfold tkAt; rw [List.getElem?_eq_getElem h]; rfl
theorem tk_ge {T : List Tq} {i : Nat} (h : T.length ≤ i) : tkAt T i = ((0, [], 0), 0) := by unfold tkAt; rw [List.getElem?_eq_none h]; rfl
section
variable {W : World} {b g c : Nat} {T : List Tq} {a o : Nat}
theorem bel4 {B : Nat} {W X : World} (h : Below B W X) {n : Nat} (hn : B ≤ n) (p q r s : Value) : Below B W ((((X.setCell ⟨n, 0, none⟩ p).setCell ⟨n, 1, none⟩ q).setCell ⟨n, 2, none⟩ r).setCell ⟨n, 3, none⟩ s) :=
  (((h.setCell hn _).setCell hn _).setCell hn _).setCell hn _
set_option maxRecDepth 100000 in
set_option maxHeartbeats 4000000 in
theorem lookP_any (h : PS W b g c T a o) (k : Nat) (hk : k ≤ 4) : Calls Tryz.prog 103 #[.pointer (some ⟨b, 0, none⟩), .int .i64 (k : Nat)] W fun e w' => e = .returned (tqV (tkAt T (a + k))) ∧ Below W.heap.size W w' := by
  have ln := h.ln
  have la := h.la
  obtain ⟨wA, hwA⟩ : ∃ X, W.alloc (.cells #[.int .i64 0, .string ⟨#[]⟩, .int .i64 0, .int .i64 0] 92) = X := ⟨_, rfl⟩
  have m0 : wA.heap[W.heap.size]? = some (.cells #[.int .i64 0, .string ⟨#[]⟩, .int .i64 0, .int .i64 0] 92 (0, 0)) := by rw [← hwA]; exact hnew _ rfl
  have bA : Below W.heap.size W wA := by rw [← hwA]; exact bel_a _ _
  have hA := h.bel bA
  obtain ⟨⟨c0, c1, c2, c3, c4⟩, _⟩ := t5 hA.blk
  obtain ⟨⟨_, _, _, _⟩, _, _, _, _⟩ := box4 m0
  have HF : Hid (Below W.heap.size W wA) := bA
  have HM : Hid _ := m0
  by_cases hlt : a + k < T.length
  · obtain ⟨d0, d1, d2, d3⟩ := hA.tk.c _ hlt
    rw [tk_lt hlt]
    have hl1 : ¬ ((T.length : Nat) : Int) ≤ ((a : Nat) : Int) + ((k : Nat) : Int) := by omega
    have hl2 : ((a : Nat) : Int) + ((k : Nat) : Int) < ((T.length : Nat) : Int) := by omega
    generalize T[a + k] = x at *
    clear m0 bA hA h c2 c3 c4
    go_enter Tryz.func103, Tryz.ntmps103
    go_wp2
    go_region
    go_wp2
    try go_region
    try go_wp2
    refine bodyPost_ret (res_tk Tryz.results103 (box4_set _ _ _ _ HM.out) rfl) rfl ?_
    exact ⟨rfl, (bel4 HF.out (Nat.le_refl _) _ _ _ _).drew.drew⟩
  · rw [tk_ge (by omega)]
    have hl1 : ((T.length : Nat) : Int) ≤ ((a : Nat) : Int) + ((k : Nat) : Int) := by omega
    clear m0 bA hA h c2 c3 c4
    go_enter Tryz.func103, Tryz.ntmps103
    go_wp2
    go_region
    go_wp2
    try go_region
    try go_wp2
    refine bodyPost_ret (res_tk Tryz.results103 (box4_set _ _ _ _ HM.out) rfl) rfl ?_
    exact ⟨rfl, (bel4 HF.out (Nat.le_refl _) _ _ _ _).drew⟩
set_option maxRecDepth 100000 in
set_option maxHeartbeats 4000000 in
theorem tok_any (h : PS W b g c T a o) (k : Nat) (hk : k ≤ 4) : Calls Tryz.prog 70 #[.pointer (some ⟨b, 0, none⟩), .int .i64 (k : Nat)] W fun e w' => e = .returned (tqV (tkAt T (a + k))) ∧ Below W.heap.size W w' := by
  have ln := h.ln
  have la := h.la
  obtain ⟨wA, hwA⟩ : ∃ X, W.alloc (.cells #[.int .i64 0, .string ⟨#[]⟩, .int .i64 0, .int .i64 0] 92) = X := ⟨_, rfl⟩
  have m0 : wA.heap[W.heap.size]? = some (.cells #[.int .i64 0, .string ⟨#[]⟩, .int .i64 0, .int .i64 0] 92 (0, 0)) := by rw [← hwA]; exact hnew _ rfl
  have bA : Below W.heap.size W wA := by rw [← hwA]; exact bel_a _ _
  have hA := h.bel bA
  obtain ⟨⟨c0, c1, c2, c3, c4⟩, _⟩ := t5 hA.blk
  obtain ⟨⟨_, _, _, _⟩, _, _, _, _⟩ := box4 m0
  have HF : Hid (Below W.heap.size W wA) := bA
  have HM : Hid _ := m0
  by_cases hlt : a + k < T.length
  · obtain ⟨d0, d1, d2, d3⟩ := hA.tk.c _ hlt
    rw [tk_lt hlt]
    have hl2 : ((a : Nat) : Int) + ((k : Nat) : Int) < ((T.length : Nat) : Int) := by omega
    have hl3 : decide (((a : Nat) : Int) + ((k : Nat) : Int) < ((T.length : Nat) : Int)) = true := by simp; omega
    have hl4 : (0 : Int) ≤ ((a : Nat) : Int) + ((k : Nat) : Int) := by omega
    generalize T[a + k] = x at *
    clear m0 bA hA h c2 c3 c4
    go_enter Tryz.func70, Tryz.ntmps70
    go_wp2
    go_quiet (fail)
    go_wp2
    try go_region
    try go_wp2
    refine bodyPost_ret (res_tk Tryz.results70 (box4_set _ _ _ _ HM.out) rfl) rfl ?_
    exact ⟨rfl, bel4 (HF.out.trans ((drewN_below4 _ _).mono HF.out.size)) (Nat.le_refl _) _ _ _ _⟩
  · rw [tk_ge (by omega)]
    have hl3 : decide (((a : Nat) : Int) + ((k : Nat) : Int) < ((T.length : Nat) : Int)) = false := by simp; omega
    clear m0 bA hA h c2 c3 c4
    go_enter Tryz.func70, Tryz.ntmps70
    go_wp2
    go_quiet (fail)
    go_wp2
    try go_region
    try go_wp2
    refine bodyPost_ret (res_tk Tryz.results70 (box4_set _ _ _ _ HM.out) rfl) rfl ?_
    exact ⟨rfl, bel4 (HF.out.trans ((drewN_below4 _ _).mono HF.out.size)) (Nat.le_refl _) _ _ _ _⟩
end
end Go.Proofs.YtadkmlcnmkdfiaaGreatDoor
namespace Go.Proofs.YtadkmlcnmkdfiaaGreatDoor
open Go.RowKit
set_option linter.unusedVariables false
set_option linter.unusedSimpArgs false

def isB (t : Tq) (s : ByteArray) : Bool := (t.1.1 == 5 || t.1.1 == 2) && (t.1.2.1 == s.data.toList)
def kdB (k : Int) (t : Tq) (s : ByteArray) : Bool := (t.1.1 == k) && (t.1.2.1 == s.data.toList)
section
variable {W : World} {b g c : Nat} {T : List Tq} {a o : Nat}

set_option maxRecDepth 100000 in
set_option maxHeartbeats 4000000 in
theorem is_any (h : PS W b g c T a o) (s : ByteArray) : Calls Tryz.prog 67 #[.pointer (some ⟨b, 0, none⟩), .string s] W fun e w' => e = .returned (.bool (isB (tkAt T a) s)) ∧ Below W.heap.size W w' := by
  have C := lookP_any h 0 (by omega)
  rw [Nat.add_zero] at C
  clear h
  generalize tkAt T a = x at *
  obtain ⟨⟨k, l, n⟩, p⟩ := x
  have he := eq_bytes l s
  obtain ⟨Y, hY⟩ : ∃ Y : ByteArray, ⟨l.toArray⟩ = Y := ⟨_, rfl⟩
  simp only [tqV, hY] at C he
  unfold isB
  simp only
  generalize (l == s.data.toList) = q at *
  clear hY
  rcases Bool.eq_false_or_eq_true (k == 5) with h5 | h5
  · cases q
    all_goals
      go_enter Tryz.func67, Tryz.ntmps67
      go_wp2_with (go_at_call 103; refine C.mono ?_; rintro e W1 ⟨rfl, b1⟩)
      go_ret
      exact ⟨by simp [h5, he], b1.alloc b1.size _⟩
  · rcases Bool.eq_false_or_eq_true (k == 2) with h2 | h2
    · cases q
      all_goals
        go_enter Tryz.func67, Tryz.ntmps67
        go_wp2_with (go_at_call 103; refine C.mono ?_; rintro e W1 ⟨rfl, b1⟩)
        go_ret
        exact ⟨by simp [h5, h2, he], b1.alloc b1.size _⟩
    · go_enter Tryz.func67, Tryz.ntmps67
      go_wp2_with (go_at_call 103; refine C.mono ?_; rintro e W1 ⟨rfl, b1⟩)
      go_ret
      exact ⟨by simp [h5, h2, he], b1.alloc b1.size _⟩

set_option maxRecDepth 100000 in
set_option maxHeartbeats 4000000 in
theorem named_any (h : PS W b g c T a o) (j : Nat) (hj : j ≤ 4) (s : ByteArray) : Calls Tryz.prog 69 #[.pointer (some ⟨b, 0, none⟩), .int .i64 (j : Nat), .string s] W fun e w' => e = .returned (.bool (kdB 1 (tkAt T (a + j)) s)) ∧ Below W.heap.size W w' := by
  have C := tok_any h j hj
  clear h
  generalize tkAt T (a + j) = x at *
  obtain ⟨⟨k, l, n⟩, p⟩ := x
  have he := eq_bytes l s
  obtain ⟨Y, hY⟩ : ∃ Y : ByteArray, ⟨l.toArray⟩ = Y := ⟨_, rfl⟩
  simp only [tqV, hY] at C he
  unfold kdB
  simp only
  generalize (l == s.data.toList) = q at *
  clear hY
  rcases Bool.eq_false_or_eq_true (k == 1) with h5 | h5
  · cases q
    all_goals
      go_enter Tryz.func69, Tryz.ntmps69
      go_wp2_with (go_at_call 70; refine C.mono ?_; rintro e W1 ⟨rfl, b1⟩)
      go_ret
      exact ⟨by simp [h5, he], b1.alloc b1.size _⟩
  · go_enter Tryz.func69, Tryz.ntmps69
    go_wp2_with (go_at_call 70; refine C.mono ?_; rintro e W1 ⟨rfl, b1⟩)
    go_ret
    exact ⟨by simp [h5, he], b1.alloc b1.size _⟩

set_option maxRecDepth 100000 in
set_option maxHeartbeats 4000000 in
theorem sign_any (h : PS W b g c T a o) (j : Nat) (hj : j ≤ 4) (s : ByteArray) : Calls Tryz.prog 71 #[.pointer (some ⟨b, 0, none⟩), .int .i64 (j : Nat), .string s] W fun e w' => e = .returned (.bool (kdB 5 (tkAt T (a + j)) s)) ∧ Below W.heap.size W w' := by
  have C := tok_any h j hj
  clear h
  generalize tkAt T (a + j) = x at *
  obtain ⟨⟨k, l, n⟩, p⟩ := x
  have he := eq_bytes l s
  obtain ⟨Y, hY⟩ : ∃ Y : ByteArray, ⟨l.toArray⟩ = Y := ⟨_, rfl⟩
  simp only [tqV, hY] at C he
  unfold kdB
  simp only
  generalize (l == s.data.toList) = q at *
  clear hY
  rcases Bool.eq_false_or_eq_true (k == 5) with h5 | h5
  · cases q
    all_goals
      go_enter Tryz.func71, Tryz.ntmps71
      go_wp2_with (go_at_call 70; refine C.mono ?_; rintro e W1 ⟨rfl, b1⟩)
      go_ret
      exact ⟨by simp [h5, he], b1.alloc b1.size _⟩
  · go_enter Tryz.func71, Tryz.ntmps71
    go_wp2_with (go_at_call 70; refine C.mono ?_; rintro e W1 ⟨rfl, b1⟩)
    go_ret
    exact ⟨by simp [h5, he], b1.alloc b1.size _⟩


/-- one place on. -/
theorem PS.on {X : World} (h : PS X b g c T a o) (hl : a < T.length) : PS (X.setCell ⟨b, 1, none⟩ (.int .i64 ((a : Nat) + 1 : Int))) b g c T (a + 1) o := h.set1 (a + 1) (by omega)
theorem kp1 {W X : World} (h : Kpt b W X) (v : Value) : Kpt b W (X.setCell ⟨b, 1, none⟩ v) := h.set 1 v
set_option maxRecDepth 100000 in
set_option maxHeartbeats 4000000 in
theorem eat_no (h : PS W b g c T a o) (s : ByteArray) (hs : isB (tkAt T a) s = false) : Calls Tryz.prog 114 #[.pointer (some ⟨b, 0, none⟩), .string s] W fun e w' => e = .returned (.bool false) ∧ Below W.heap.size W w' := by
  have C := is_any h s
  rw [hs] at C
  obtain ⟨⟨c0, c1, c2, c3, c4⟩, _⟩ := t5 h.blk
  clear h
  go_enter Tryz.func114, Tryz.ntmps114
  go_wp2_with (go_at_call 67; refine C.mono ?_; rintro e W1 ⟨rfl, b1⟩)
  go_ret
  exact ⟨rfl, b1⟩
set_option maxRecDepth 100000 in
set_option maxHeartbeats 4000000 in
theorem eat_yes (h : PS W b g c T a o) (s : ByteArray) (hs : isB (tkAt T a) s = true) (hl : a < T.length) : Calls Tryz.prog 114 #[.pointer (some ⟨b, 0, none⟩), .string s] W fun e w' => e = .returned (.bool true) ∧ PS w' b g c T (a + 1) o ∧ Kpt b W w' := by
  have C := is_any h s
  rw [hs] at C
  have ln := h.ln
  obtain ⟨⟨c0, c1, c2, c3, c4⟩, _⟩ := t5 h.blk
  have H : Hid _ := h
  clear h
  go_enter Tryz.func114, Tryz.ntmps114
  go_wp2_with (go_at_call 67; refine C.mono ?_; rintro e W1 ⟨rfl, b1⟩; have h1 := H.out.bel b1; obtain ⟨⟨_, _, _, _, _⟩, _, _, _, _, _⟩ := t5 h1.blk)
  go_ret
  exact ⟨rfl, h1.on hl, kp1 (.of b1) _⟩
set_option maxRecDepth 100000 in
set_option maxHeartbeats 4000000 in
theorem want_yes (h : PS W b g c T a o) (s : ByteArray) (hs : isB (tkAt T a) s = true) (hl : a < T.length) : Calls Tryz.prog 104 #[.pointer (some ⟨b, 0, none⟩), .string s] W fun e w' => e = .returned (.tuple #[]) ∧ PS w' b g c T (a + 1) o ∧ Kpt b W w' := by
  have C := eat_yes h s hs hl
  clear h
  go_enter Tryz.func104, Tryz.ntmps104
  go_wp2_with (go_at_call 114; refine C.mono ?_; rintro e W1 ⟨rfl, h1, k1⟩)
  go_end0
  exact ⟨rfl, h1, k1⟩
set_option maxRecDepth 100000 in
set_option maxHeartbeats 4000000 in
theorem id_yes (h : PS W b g c T a o) {l : Bs} {n p : Int} (hx : tkAt T a = ((1, l, n), p)) (hl : a < T.length) : Calls Tryz.prog 105 #[.pointer (some ⟨b, 0, none⟩)] W fun e w' => e = .returned (.string ⟨l.toArray⟩) ∧ PS w' b g c T (a + 1) o ∧ Kpt b W w' := by
  have C := lookP_any h 0 (by omega)
  rw [Nat.add_zero, hx] at C
  have ln := h.ln
  have H : Hid _ := h
  clear h hx
  obtain ⟨Y, hY⟩ : ∃ Y : ByteArray, ⟨l.toArray⟩ = Y := ⟨_, rfl⟩
  simp only [tqV, hY] at C ⊢
  go_enter Tryz.func105, Tryz.ntmps105
  go_wp2_with fail
  go_at_call 103
  refine C.mono ?_
  rintro e W1 ⟨rfl, b1⟩
  have b2 := b1.alloc b1.size (.cells #[.int .i64 1, .string Y, .int .i64 n, .int .i64 p] 92)
  have h1 := H.out.bel b2
  have m1 := hnew (w := W1) (.cells #[.int .i64 1, .string Y, .int .i64 n, .int .i64 p] 92) rfl
  have nb : W1.heap.size ≠ b := by have := (H.out.bel b1).lt; omega
  have m2 := (Below.heap_setCell (W1.alloc (.cells #[.int .i64 1, .string Y, .int .i64 n, .int .i64 p] 92)) ⟨b, 1, none⟩ (.int .i64 ((a : Nat) + 1 : Int)) W1.heap.size nb).trans m1
  obtain ⟨⟨_, _, _, _, _⟩, _, _, _, _, _⟩ := t5 h1.blk
  obtain ⟨⟨_, _, _, _⟩, _⟩ := box4 m1
  obtain ⟨⟨_, _, _, _⟩, _⟩ := box4 m2
  have HK : Hid _ := h1.on hl
  have HL : Hid _ := kp1 (Kpt.of (b := b) b2) (.int .i64 ((a : Nat) + 1 : Int))
  clear h1 b2 b1 m1 m2 nb
  go_wp2
  go_ret
  exact ⟨rfl, HK.out, HL.out⟩
set_option maxRecDepth 100000 in
set_option maxHeartbeats 4000000 in
theorem prop_1 (h : PS W b g c T a o) {l : Bs} {n p : Int} (hx : tkAt T a = ((1, l, n), p)) (hl : a < T.length) : Calls Tryz.prog 108 #[.pointer (some ⟨b, 0, none⟩)] W fun e w' => e = .returned (.string ⟨l.toArray⟩) ∧ PS w' b g c T (a + 1) o ∧ Kpt b W w' := by
  have C := lookP_any h 0 (by omega)
  rw [Nat.add_zero, hx] at C
  have ln := h.ln
  have H : Hid _ := h
  clear h hx
  obtain ⟨Y, hY⟩ : ∃ Y : ByteArray, ⟨l.toArray⟩ = Y := ⟨_, rfl⟩
  simp only [tqV, hY] at C ⊢
  go_enter Tryz.func108, Tryz.ntmps108
  go_wp2_with fail
  go_at_call 103
  refine C.mono ?_
  rintro e W1 ⟨rfl, b1⟩
  have b2 := b1.alloc b1.size (.cells #[.int .i64 1, .string Y, .int .i64 n, .int .i64 p] 92)
  have h1 := H.out.bel b2
  have m1 := hnew (w := W1) (.cells #[.int .i64 1, .string Y, .int .i64 n, .int .i64 p] 92) rfl
  have nb : W1.heap.size ≠ b := by have := (H.out.bel b1).lt; omega
  have m2 := (Below.heap_setCell (W1.alloc (.cells #[.int .i64 1, .string Y, .int .i64 n, .int .i64 p] 92)) ⟨b, 1, none⟩ (.int .i64 ((a : Nat) + 1 : Int)) W1.heap.size nb).trans m1
  obtain ⟨⟨_, _, _, _, _⟩, _, _, _, _, _⟩ := t5 h1.blk
  obtain ⟨⟨_, _, _, _⟩, _⟩ := box4 m1
  obtain ⟨⟨_, _, _, _⟩, _⟩ := box4 m2
  have HK : Hid _ := h1.on hl
  have HL : Hid _ := kp1 (Kpt.of (b := b) b2) (.int .i64 ((a : Nat) + 1 : Int))
  clear h1 b2 b1 m1 m2 nb
  go_wp2
  go_ret
  exact ⟨rfl, HK.out, HL.out⟩
set_option maxRecDepth 100000 in
set_option maxHeartbeats 4000000 in
theorem prop_2 (h : PS W b g c T a o) {l : Bs} {n p : Int} (hx : tkAt T a = ((2, l, n), p)) (hl : a < T.length) : Calls Tryz.prog 108 #[.pointer (some ⟨b, 0, none⟩)] W fun e w' => e = .returned (.string ⟨l.toArray⟩) ∧ PS w' b g c T (a + 1) o ∧ Kpt b W w' := by
  have C := lookP_any h 0 (by omega)
  rw [Nat.add_zero, hx] at C
  have ln := h.ln
  have H : Hid _ := h
  clear h hx
  obtain ⟨Y, hY⟩ : ∃ Y : ByteArray, ⟨l.toArray⟩ = Y := ⟨_, rfl⟩
  simp only [tqV, hY] at C ⊢
  go_enter Tryz.func108, Tryz.ntmps108
  go_wp2_with fail
  go_at_call 103
  refine C.mono ?_
  rintro e W1 ⟨rfl, b1⟩
  have b2 := b1.alloc b1.size (.cells #[.int .i64 2, .string Y, .int .i64 n, .int .i64 p] 92)
  have h1 := H.out.bel b2
  have m1 := hnew (w := W1) (.cells #[.int .i64 2, .string Y, .int .i64 n, .int .i64 p] 92) rfl
  have nb : W1.heap.size ≠ b := by have := (H.out.bel b1).lt; omega
  have m2 := (Below.heap_setCell (W1.alloc (.cells #[.int .i64 2, .string Y, .int .i64 n, .int .i64 p] 92)) ⟨b, 1, none⟩ (.int .i64 ((a : Nat) + 1 : Int)) W1.heap.size nb).trans m1
  obtain ⟨⟨_, _, _, _, _⟩, _, _, _, _, _⟩ := t5 h1.blk
  obtain ⟨⟨_, _, _, _⟩, _⟩ := box4 m1
  obtain ⟨⟨_, _, _, _⟩, _⟩ := box4 m2
  have HK : Hid _ := h1.on hl
  have HL : Hid _ := kp1 (Kpt.of (b := b) b2) (.int .i64 ((a : Nat) + 1 : Int))
  clear h1 b2 b1 m1 m2 nb
  go_wp2
  go_ret
  exact ⟨rfl, HK.out, HL.out⟩
set_option maxRecDepth 100000 in
set_option maxHeartbeats 4000000 in
theorem text_any (h : PS W b g c T a o) {l : Bs} {n p : Int} (hx : tkAt T a = ((4, l, n), p)) (hl : a < T.length) : Calls Tryz.prog 113 #[.pointer (some ⟨b, 0, none⟩), .bool false] W fun e w' => e = .returned (.string ⟨l.toArray⟩) ∧ PS w' b g c T (a + 1) o ∧ Kpt b W w' := by
  have C := tok_any h 0 (by omega)
  rw [Nat.add_zero, hx] at C
  have ln := h.ln
  have H : Hid _ := h
  clear h hx
  obtain ⟨Y, hY⟩ : ∃ Y : ByteArray, ⟨l.toArray⟩ = Y := ⟨_, rfl⟩
  simp only [tqV, hY] at C ⊢
  go_enter Tryz.func113, Tryz.ntmps113
  go_wp2_with fail
  go_at_call 70
  refine C.mono ?_
  rintro e W1 ⟨rfl, b1⟩
  have b2 := b1.alloc b1.size (.cells #[.int .i64 4, .string Y, .int .i64 n, .int .i64 p] 92)
  have h1 := H.out.bel b2
  have m1 := hnew (w := W1) (.cells #[.int .i64 4, .string Y, .int .i64 n, .int .i64 p] 92) rfl
  have nb : W1.heap.size ≠ b := by have := (H.out.bel b1).lt; omega
  have m2 := (Below.heap_setCell (W1.alloc (.cells #[.int .i64 4, .string Y, .int .i64 n, .int .i64 p] 92)) ⟨b, 1, none⟩ (.int .i64 ((a : Nat) + 1 : Int)) W1.heap.size nb).trans m1
  obtain ⟨⟨_, _, _, _, _⟩, _, _, _, _, _⟩ := t5 h1.blk
  obtain ⟨⟨_, _, _, _⟩, _⟩ := box4 m1
  obtain ⟨⟨_, _, _, _⟩, _⟩ := box4 m2
  have HK : Hid _ := h1.on hl
  have HL : Hid _ := kp1 (Kpt.of (b := b) b2) (.int .i64 ((a : Nat) + 1 : Int))
  clear h1 b2 b1 m1 m2 nb
  go_wp2
  go_ret
  exact ⟨rfl, HK.out, HL.out⟩
set_option maxRecDepth 100000 in
set_option maxHeartbeats 4000000 in
theorem wantName_yes (h : PS W b g c T a o) (s : ByteArray) (hs : kdB 1 (tkAt T a) s = true) (hl : a < T.length) : Calls Tryz.prog 107 #[.pointer (some ⟨b, 0, none⟩), .string s] W fun e w' => e = .returned (.tuple #[]) ∧ PS w' b g c T (a + 1) o ∧ Kpt b W w' := by
  have C := named_any h 0 (by omega) s
  rw [Nat.add_zero, hs] at C
  have ln := h.ln
  obtain ⟨⟨c0, c1, c2, c3, c4⟩, _⟩ := t5 h.blk
  have H : Hid _ := h
  clear h
  go_enter Tryz.func107, Tryz.ntmps107
  go_wp2_with (go_at_call 69; refine C.mono ?_; rintro e W1 ⟨rfl, b1⟩; have h1 := H.out.bel b1; obtain ⟨⟨_, _, _, _, _⟩, _, _, _, _, _⟩ := t5 h1.blk)
  go_end0
  exact ⟨rfl, h1.on hl, kp1 (.of b1) _⟩
set_option maxRecDepth 100000 in
set_option maxHeartbeats 4000000 in
theorem enter_yes (h : PS W b g c T a o) (ho : o < 400) : Calls Tryz.prog 110 #[.pointer (some ⟨b, 0, none⟩)] W fun e w' => e = .returned (.bool true) ∧ PS w' b g c T a (o + 1) ∧ Kpt b W w' := by
  obtain ⟨⟨c0, c1, c2, c3, c4⟩, _, _, _, _, _⟩ := t5 h.blk
  have h400 : ¬ (400 : Int) ≤ ((o : Nat) : Int) := by omega
  have H : Hid _ := h
  clear h
  go_enter Tryz.func110, Tryz.ntmps110
  go_wp2
  go_ret
  exact ⟨rfl, H.out.set2 (o + 1), (Kpt.refl b W).set 2 _⟩
theorem nameN_any (s : ByteArray) (w : World) : Calls Tryz.prog 109 #[.string s] w fun e w' => e = .returned (.agg #[.int .i64 6, .string s, .int .i64 0, .slice none 0 0]) ∧ Below w.heap.size w w' := by
  go_enter Tryz.func109, Tryz.ntmps109
  go_wp2
  refine bodyPost_ret (res_nd Tryz.results109 (heap_alloc_new _ _) rfl) rfl ?_
  exact ⟨rfl, bel_a _ _⟩
end
end Go.Proofs.YtadkmlcnmkdfiaaGreatDoor
namespace Go.Proofs.YtadkmlcnmkdfiaaGreatDoor
open Go.RowKit
set_option linter.unusedVariables false
set_option linter.unusedSimpArgs false

section
variable {W : World} {b g c : Nat} {T : List Tq} {a o : Nat}
theorem Kpt.four {w w' : World} (h : Kpt b w w') {n : Nat} (hn : w.heap.size ≤ n) (p q r s : Value) : Kpt b w ((((w'.setCell ⟨n, 0, none⟩ p).setCell ⟨n, 1, none⟩ q).setCell ⟨n, 2, none⟩ r).setCell ⟨n, 3, none⟩ s) :=
  (((h.new hn 0 p).new hn 1 q).new hn 2 r).new hn 3 s
theorem PS.other {X : World} (h : PS X b g c T a o) {n : Nat} (hb : b ≠ n) (hg : g ≠ n) (i : Nat) (v : Value) : PS (X.setCell ⟨n, i, none⟩ v) b g c T a o :=
  h.out (by simp [World.setCell]) (Below.heap_setCell _ _ _ _ hb) (Below.heap_setCell _ _ _ _ hg)
theorem PS.four {X : World} (h : PS X b g c T a o) {n : Nat} (hb : b ≠ n) (hg : g ≠ n) (p q r s : Value) : PS ((((X.setCell ⟨n, 0, none⟩ p).setCell ⟨n, 1, none⟩ q).setCell ⟨n, 2, none⟩ r).setCell ⟨n, 3, none⟩ s) b g c T a o :=
  (((h.other hb hg 0 p).other hb hg 1 q).other hb hg 2 r).other hb hg 3 s
theorem Kpt.keep {w w' : World} (h : Kpt b w w') {k : Nat} (hk : k < w.heap.size) (hb : k ≠ b) {x : Option Obj} (e : w.heap[k]? = x) : w'.heap[k]? = x := (h.block k hk hb).trans e
def numV (n : Int) : Value := .agg #[.int .i64 1, .string ⟨#[]⟩, .int .i64 n, .slice none 0 0]
/-- what a rule answers of a number: the place behind it. -/
def NumR (W : World) (b g c : Nat) (T : List Tq) (a o : Nat) (n : Int) (e : Ending) (w' : World) : Prop := e = .returned (numV n) ∧ PS w' b g c T a o ∧ Kpt b W w'
abbrev zNd : Obj := .cells #[.int .i64 0, .string ⟨#[]⟩, .int .i64 0, .slice none 0 0] 25
set_option maxRecDepth 100000 in
set_option maxHeartbeats 4000000 in
theorem primary_num (h : PS W b g c T a o) {l : Bs} {n p : Int} (hx : tkAt T a = ((3, l, n), p)) (hl : a < T.length) : Calls Tryz.prog 189 #[.pointer (some ⟨b, 0, none⟩)] W (NumR W b g c T (a + 1) o n) := by
  have ln := h.ln
  obtain ⟨wA, hwA⟩ : ∃ X, W.alloc zNd = X := ⟨_, rfl⟩
  have m0 : wA.heap[W.heap.size]? = some zNd := by rw [← hwA]; exact hnew _ rfl
  have bA : Below W.heap.size W wA := by rw [← hwA]; exact bel_a _ _
  have sA : W.heap.size < wA.heap.size := (Array.getElem?_eq_some_iff.1 m0).1
  have hA := h.bel bA
  have C := lookP_any hA 0 (by omega)
  rw [Nat.add_zero, hx] at C
  obtain ⟨Y, hY⟩ : ∃ Y : ByteArray, ⟨l.toArray⟩ = Y := ⟨_, rfl⟩
  simp only [tqV, hY] at C
  have nb : b ≠ W.heap.size := by have := h.lt; omega
  have ng : g ≠ W.heap.size := by have := h.tk.lt; omega
  obtain ⟨⟨_, _, _, _, _⟩, _⟩ := t5 hA.blk
  have H : Hid _ := hA
  have HB : Hid _ := bA
  have HM : Hid (wA.heap[W.heap.size]? = some zNd) := m0
  have HS : Hid (W.heap.size < wA.heap.size) := sA
  clear h hA bA m0 sA hx
  go_enter Tryz.func189, Tryz.ntmps189
  go_wp2_with fail
  go_at_call 103
  refine C.mono ?_
  rintro e W1 ⟨rfl, b1⟩
  have b2 := b1.alloc b1.size (.cells #[.int .i64 3, .string Y, .int .i64 n, .int .i64 p] 92)
  have h1 := H.out.bel b2
  have m1 := hnew (w := W1) (.cells #[.int .i64 3, .string Y, .int .i64 n, .int .i64 p] 92) rfl
  have z1 := (b2.block _ HS.out).trans HM.out
  have nb1 : W1.heap.size ≠ b := by have := (H.out.bel b1).lt; omega
  have nr1 : W.heap.size ≠ b := fun e => nb e.symm
  have m2 := (Below.heap_setCell (W1.alloc (.cells #[.int .i64 3, .string Y, .int .i64 n, .int .i64 p] 92)) ⟨b, 1, none⟩ (.int .i64 ((a : Nat) + 1 : Int)) W1.heap.size nb1).trans m1
  have z2 := (Below.heap_setCell (W1.alloc (.cells #[.int .i64 3, .string Y, .int .i64 n, .int .i64 p] 92)) ⟨b, 1, none⟩ (.int .i64 ((a : Nat) + 1 : Int)) W.heap.size nr1).trans z1
  obtain ⟨⟨_, _, _, _, _⟩, _, _, _, _, _⟩ := t5 h1.blk
  obtain ⟨⟨_, _, _, _⟩, _⟩ := box4 m1
  obtain ⟨⟨_, _, _, _⟩, _⟩ := box4 m2
  obtain ⟨⟨_, _, _, _⟩, _, _, _, _⟩ := box4 z2
  have HK : Hid _ := (h1.on hl).four nb ng
  have HL : Hid _ := (kp1 (Kpt.of (b := b) (HB.out.trans (b2.mono (Nat.le_of_lt HS.out)))) (.int .i64 ((a : Nat) + 1 : Int))).four (Nat.le_refl _)
  have HZ : Hid _ := z2
  clear h1 b2 b1 m1 m2 nb z1 z2
  go_wp2
  refine bodyPost_ret (res_nd Tryz.results189 (box4_set _ _ _ _ HZ.out) rfl) rfl ?_
  exact ⟨rfl, HK.out _ _ _ _, HL.out _ _ _ _⟩
/-- a function whose answer is a tree: its cell, and the number that it holds. -/
structure Nst (W X : World) (b g c : Nat) (T : List Tq) (a o : Nat) (k : Nat) (n : Int) : Prop where
  ps : PS X b g c T a o
  kp : Kpt b W X
  r : X.heap[W.heap.size]? = some zNd
  m : X.heap[k]? = some (.cells #[.int .i64 1, .string ⟨#[]⟩, .int .i64 n, .slice none 0 0] 25 (0, 0))
theorem Nst.bel {W X Y : World} {k : Nat} {n : Int} (h : Nst W X b g c T a o k n) (B : Below X.heap.size X Y) : Nst W Y b g c T a o k n :=
  ⟨h.ps.bel B, h.kp.then B, (B.block _ (Array.getElem?_eq_some_iff.1 h.r).1).trans h.r, (B.block _ (Array.getElem?_eq_some_iff.1 h.m).1).trans h.m⟩
theorem Nst.end {W X : World} {k : Nat} {n : Int} (h : PS W b g c T a o) {a' o' : Nat} (hX : Nst W X b g c T a' o' k n) (p q r s : Value) : PS ((((X.setCell ⟨W.heap.size, 0, none⟩ p).setCell ⟨W.heap.size, 1, none⟩ q).setCell ⟨W.heap.size, 2, none⟩ r).setCell ⟨W.heap.size, 3, none⟩ s) b g c T a' o' ∧ Kpt b W ((((X.setCell ⟨W.heap.size, 0, none⟩ p).setCell ⟨W.heap.size, 1, none⟩ q).setCell ⟨W.heap.size, 2, none⟩ r).setCell ⟨W.heap.size, 3, none⟩ s) :=
  ⟨hX.ps.four (by have := h.lt; omega) (by have := h.tk.lt; omega) _ _ _ _, hX.kp.four (Nat.le_refl _) _ _ _ _⟩
/-- behind a call that answers a number, laid into a cell. -/
theorem Nst.of {W wA W1 : World} {n : Int} (h : PS W b g c T a o) {a' o' : Nat} (hA : W.alloc zNd = wA) (h1 : PS W1 b g c T a' o') (k1 : Kpt b wA W1) : Nst W (W1.alloc (.cells #[.int .i64 1, .string ⟨#[]⟩, .int .i64 n, .slice none 0 0] 25)) b g c T a' o' W1.heap.size n := by
  have bA : Below W.heap.size W wA := by rw [← hA]; exact bel_a _ _
  have sA : wA.heap.size = W.heap.size + 1 := by rw [← hA]; simp
  have m0 : wA.heap[W.heap.size]? = some zNd := by rw [← hA]; exact hnew _ rfl
  refine ⟨h1.bel (bel_a _ _), ((Kpt.of bA).trans k1).alloc _, hold _ (by have := k1.size; omega) (k1.keep (by omega) (by have := h.lt; omega) m0), hnew _ rfl⟩
set_option maxRecDepth 100000 in
set_option maxHeartbeats 4000000 in
theorem postfix_num (h : PS W b g c T a o) {l : Bs} {n p : Int} (hx : tkAt T a = ((3, l, n), p)) (hl : a < T.length) (e1 : isB (tkAt T (a + 1)) ⟨#[46]⟩ = false) (e2 : isB (tkAt T (a + 1)) ⟨#[91]⟩ = false) (e3 : isB (tkAt T (a + 1)) ⟨#[40]⟩ = false) : Calls Tryz.prog 187 #[.pointer (some ⟨b, 0, none⟩)] W (NumR W b g c T (a + 1) o n) := by
  obtain ⟨wA, hwA⟩ : ∃ X, W.alloc zNd = X := ⟨_, rfl⟩
  have C := primary_num (h.bel (by rw [← hwA]; exact bel_a W zNd : Below W.heap.size W wA)) hx hl
  have H : Hid _ := h
  have HA : Hid (W.alloc zNd = wA) := hwA
  clear h hx
  go_enter Tryz.func187, Tryz.ntmps187
  go_wp2_with fail
  go_at_call 189
  refine C.mono ?_
  rintro e W1 ⟨rfl, h1, k1⟩
  simp only [numV]
  have hX := Nst.of (n := n) H.out HA.out h1 k1
  have HX : Hid _ := hX
  obtain ⟨⟨_, _, _, _, _⟩, _⟩ := t5 hX.ps.blk
  clear h1 k1 hX C
  go_wp2
  generalize W1.alloc (.cells #[.int .i64 1, .string ⟨#[]⟩, .int .i64 n, .slice none 0 0] 25) = X at *
  go_loopw [] (fun wr => wr = X) (fun _ => 0)
  case atStart => rfl
  case round =>
    obtain rfl := hrel
    go_wp2_with fail
    go_at_call 114
    refine (eat_no HX.out.ps _ e1).mono ?_
    rintro e Y1 ⟨rfl, b1⟩
    have H1 : Hid _ := HX.out.bel b1
    go_wp2_with fail
    go_at_call 114
    refine (eat_no H1.out.ps _ e2).mono ?_
    rintro e Y2 ⟨rfl, b2⟩
    have H2 : Hid _ := H1.out.bel b2
    go_wp2_with fail
    go_at_call 114
    refine (eat_no H2.out.ps _ e3).mono ?_
    rintro e Y3 ⟨rfl, b3⟩
    have H3 : Hid _ := H2.out.bel b3
    obtain ⟨⟨_, _, _, _⟩, _⟩ := box4 H3.out.m
    obtain ⟨⟨_, _, _, _⟩, _, _, _, _⟩ := box4 H3.out.r
    clear b1 b2 b3
    go_wp2
    refine bodyPost_ret (res_nd Tryz.results187 (box4_set _ _ _ _ H3.out.r) rfl) rfl ?_
    obtain ⟨z1, z2⟩ := Nst.end H.out H3.out (.int .i64 1) (.string ⟨#[]⟩) (.int .i64 n) (.slice none 0 0)
    exact ⟨rfl, z1, z2⟩
end
end Go.Proofs.YtadkmlcnmkdfiaaGreatDoor
namespace Go.Proofs.YtadkmlcnmkdfiaaGreatDoor
open Go.RowKit
set_option linter.unusedVariables false
set_option linter.unusedSimpArgs false

section
variable {W : World} {b g c : Nat} {T : List Tq} {a o : Nat}
/-- what stands behind an operand, if nothing of the expression does. -/
structure EndT (t : Tq) : Prop where
  k : t.1.1 = 5
  e1 : isB t ⟨#[46]⟩ = false
  e2 : isB t ⟨#[91]⟩ = false
  e3 : isB t ⟨#[40]⟩ = false
  e4 : isB t ⟨#[63]⟩ = false
  e5 : isB t ⟨#[61]⟩ = false
  rk : ∀ w, Calls Tryz.prog 184 #[.string ⟨t.1.2.1.toArray⟩] w fun e w' => e = .returned (.int .i64 (-1)) ∧ w' = w
/-- a number at which no other rule begins. -/
structure NumT (t : Tq) (n : Int) : Prop where
  x : ∃ l p, t = ((3, l, n), p)
theorem NumT.no {t : Tq} {n : Int} (h : NumT t n) (s : ByteArray) : isB t s = false := by
  obtain ⟨l, p, rfl⟩ := h.x
  unfold isB
  simp
set_option maxRecDepth 100000 in
theorem fldT (x y z u : Value) (w : World) (i : Nat) (v : Value) (hi : #[x, y, z, u][i]? = some v) : (Instr.field 92 (.agg #[x, y, z, u]) i).run Tryz.prog w = .ok v w := by
  have : i < 4 := by simpa using (Array.getElem?_eq_some_iff.1 hi).1
  match i, this with
  | 0, _ => simp at hi; subst hi; rfl
  | 1, _ => simp at hi; subst hi; rfl
  | 2, _ => simp at hi; subst hi; rfl
  | 3, _ => simp at hi; subst hi; rfl
set_option maxRecDepth 100000 in
set_option maxHeartbeats 4000000 in
theorem unary_num (h : PS W b g c T a o) {n : Int} (hx : NumT (tkAt T a) n) (hl : a < T.length) (he : EndT (tkAt T (a + 1))) : Calls Tryz.prog 183 #[.pointer (some ⟨b, 0, none⟩)] W (NumR W b g c T (a + 1) o n) := by
  obtain ⟨wA, hwA⟩ : ∃ X, W.alloc zNd = X := ⟨_, rfl⟩
  have bA : Below W.heap.size W wA := by rw [← hwA]; exact bel_a W zNd
  have m0 : wA.heap[W.heap.size]? = some zNd := by rw [← hwA]; exact hnew _ rfl
  have sA : W.heap.size < wA.heap.size := (Array.getElem?_eq_some_iff.1 m0).1
  have hA := h.bel bA
  obtain ⟨l, p, hxx⟩ := hx.x
  have C := lookP_any hA 0 (by omega)
  rw [Nat.add_zero, hxx] at C
  obtain ⟨Y, hY⟩ : ∃ Y : ByteArray, ⟨l.toArray⟩ = Y := ⟨_, rfl⟩
  simp only [tqV, hY] at C
  have F1 := fun (w : World) => fldT (.int .i64 3) (.string Y) (.int .i64 n) (.int .i64 p) w 1 _ rfl
  have H : Hid _ := h
  have HA : Hid _ := hA
  have HB : Hid _ := bA
  have HM : Hid (wA.heap[W.heap.size]? = some zNd) := m0
  have HS : Hid (W.heap.size < wA.heap.size) := sA
  have nb : b ≠ W.heap.size := by have := h.lt; omega
  have ng : g ≠ W.heap.size := by have := h.tk.lt; omega
  clear h hA bA m0 sA
  go_enter Tryz.func183, Tryz.ntmps183
  go_wp2_with fail
  go_at_call 103
  refine C.mono ?_
  rintro e W1 ⟨rfl, b1⟩
  have h1 := HA.out.bel b1
  obtain ⟨⟨_, _, _, _, _⟩, _⟩ := t5 h1.blk
  go_wp2_with fail
  go_at_call 67
  refine (is_any h1 _).mono ?_
  rw [hx.no]
  rintro e W2 ⟨rfl, b2⟩
  have h2 := h1.bel b2
  go_wp2_with fail
  go_at_call 67
  refine (is_any h2 _).mono ?_
  rw [hx.no]
  rintro e W3 ⟨rfl, b3⟩
  have h3 := h2.bel b3
  go_wp2_with fail
  go_at_call 67
  refine (is_any h3 _).mono ?_
  rw [hx.no]
  rintro e W4 ⟨rfl, b4⟩
  have h4 := h3.bel b4
  go_wp2_with fail
  go_at_call 187
  refine (postfix_num h4 hxx hl he.e1 he.e2 he.e3).mono ?_
  rintro e W5 ⟨rfl, h5, k5⟩
  simp only [numV]
  have B := b1.trans ((b2.trans ((b3.trans (b4.mono b3.size)).mono b2.size)).mono b1.size)
  have z4 := (B.block _ HS.out).trans HM.out
  have z5 := k5.keep (by have := B.size; have := HS.out; omega) (fun e => nb e.symm) z4
  obtain ⟨⟨_, _, _, _⟩, _, _, _, _⟩ := box4 z5
  have HZ : Hid _ := z5
  have HK : Hid _ := h5.four nb ng (.int .i64 1) (.string ⟨#[]⟩) (.int .i64 n) (.slice none 0 0)
  have HL : Hid _ := (Kpt.four ((Kpt.of (b := b) (HB.out.trans (B.mono (Nat.le_of_lt HS.out)))).trans k5) (Nat.le_refl _)) (.int .i64 1) (.string ⟨#[]⟩) (.int .i64 n) (.slice none 0 0)
  clear B h1 h2 h3 h4 h5 z4 z5
  go_wp2
  refine bodyPost_ret (res_nd Tryz.results183 (box4_set _ _ _ _ HZ.out) rfl) rfl ?_
  exact ⟨rfl, HK.out, HL.out⟩
set_option maxRecDepth 100000 in
set_option maxHeartbeats 4000000 in
theorem binary_six (h : PS W b g c T a o) {n : Int} (hx : NumT (tkAt T a) n) (hl : a < T.length) (he : EndT (tkAt T (a + 1))) : Calls Tryz.prog 173 #[.pointer (some ⟨b, 0, none⟩), .int .i64 6] W (NumR W b g c T (a + 1) o n) := by
  obtain ⟨wA, hwA⟩ : ∃ X, W.alloc zNd = X := ⟨_, rfl⟩
  have bA : Below W.heap.size W wA := by rw [← hwA]; exact bel_a W zNd
  have m0 : wA.heap[W.heap.size]? = some zNd := by rw [← hwA]; exact hnew _ rfl
  have sA : W.heap.size < wA.heap.size := (Array.getElem?_eq_some_iff.1 m0).1
  have C := unary_num (h.bel bA) hx hl he
  have HB : Hid _ := bA
  have HM : Hid (wA.heap[W.heap.size]? = some zNd) := m0
  have HS : Hid (W.heap.size < wA.heap.size) := sA
  have nb : b ≠ W.heap.size := by have := h.lt; omega
  have ng : g ≠ W.heap.size := by have := h.tk.lt; omega
  clear h bA m0 sA
  go_enter Tryz.func173, Tryz.ntmps173
  go_wp2_with fail
  go_at_call 183
  refine C.mono ?_
  rintro e W5 ⟨rfl, h5, k5⟩
  simp only [numV]
  have z5 := k5.keep HS.out (fun e => nb e.symm) HM.out
  obtain ⟨⟨_, _, _, _⟩, _, _, _, _⟩ := box4 z5
  have HZ : Hid _ := z5
  have HK : Hid _ := h5.four nb ng (.int .i64 1) (.string ⟨#[]⟩) (.int .i64 n) (.slice none 0 0)
  have HL : Hid _ := (Kpt.four ((Kpt.of (b := b) HB.out).trans k5) (Nat.le_refl _)) (.int .i64 1) (.string ⟨#[]⟩) (.int .i64 n) (.slice none 0 0)
  clear h5 z5
  go_wp2
  refine bodyPost_ret (res_nd Tryz.results173 (box4_set _ _ _ _ HZ.out) rfl) rfl ?_
  exact ⟨rfl, HK.out, HL.out⟩
set_option maxRecDepth 100000 in
set_option maxHeartbeats 4000000 in
theorem binary_down (h : PS W b g c T a o) {n : Int} (he : EndT (tkAt T (a + 1))) (k : Nat) (hk : k < 6) (C : ∀ W, PS W b g c T a o → Calls Tryz.prog 173 #[.pointer (some ⟨b, 0, none⟩), .int .i64 ((k : Nat) + 1 : Int)] W (NumR W b g c T (a + 1) o n)) : Calls Tryz.prog 173 #[.pointer (some ⟨b, 0, none⟩), .int .i64 (k : Nat)] W (NumR W b g c T (a + 1) o n) := by
  obtain ⟨wA, hwA⟩ : ∃ X, W.alloc zNd = X := ⟨_, rfl⟩
  have bA : Below W.heap.size W wA := by rw [← hwA]; exact bel_a W zNd
  have CB := C wA (h.bel bA)
  have H : Hid _ := h
  have HA : Hid (W.alloc zNd = wA) := hwA
  have hk6 : (((k : Nat) : Int) == 6) = false := int_eqb (by omega)
  have hkr : ((-1 : Int) == ((k : Nat) : Int)) = false := int_eqb (by omega)
  clear h bA C
  go_enter Tryz.func173, Tryz.ntmps173
  go_wp2_with fail
  go_at_call 173
  refine CB.mono ?_
  rintro e W1 ⟨rfl, h1, k1⟩
  simp only [numV]
  have hX := Nst.of (n := n) H.out HA.out h1 k1
  have HX : Hid _ := hX
  obtain ⟨⟨_, _, _, _, _⟩, _⟩ := t5 hX.ps.blk
  clear h1 k1 hX CB
  go_wp2
  generalize W1.alloc (.cells #[.int .i64 1, .string ⟨#[]⟩, .int .i64 n, .slice none 0 0] 25) = X at *
  have hrk := he.rk
  have CL : ∀ Y, PS Y b g c T (a + 1) o → Calls Tryz.prog 103 #[.pointer (some ⟨b, 0, none⟩), .int .i64 0] Y fun e w' => e = .returned (tqV (tkAt T (a + 1))) ∧ Below Y.heap.size Y w' := fun Y hY => lookP_any hY 0 (by omega)
  have hk5 := he.k
  generalize tkAt T (a + 1) = y at *
  obtain ⟨⟨yk, yl, yn⟩, yp⟩ := y
  simp only at hk5 hrk
  subst hk5
  obtain ⟨Y, hY⟩ : ∃ Y : ByteArray, ⟨yl.toArray⟩ = Y := ⟨_, rfl⟩
  simp only [tqV, hY] at CL hrk
  have F0 := fun (w : World) => fldT (.int .i64 5) (.string Y) (.int .i64 yn) (.int .i64 yp) w 0 _ rfl
  have F1 := fun (w : World) => fldT (.int .i64 5) (.string Y) (.int .i64 yn) (.int .i64 yp) w 1 _ rfl
  have CL' : Hid _ := CL
  have RK' : Hid _ := hrk
  clear CL hrk he
  go_loopw [] (fun wr => wr = X) (fun _ => 0)
  case atStart => rfl
  case round =>
    obtain rfl := hrel
    go_wp2_with fail
    go_at_call 103
    refine (CL'.out _ HX.out.ps).mono ?_
    rintro e Y1 ⟨rfl, b1⟩
    have H1 : Hid _ := HX.out.bel b1
    go_wp2_with fail
    go_at_call 103
    refine (CL'.out _ H1.out.ps).mono ?_
    rintro e Y2 ⟨rfl, b2⟩
    have H2 : Hid _ := H1.out.bel b2
    go_wp2_with fail
    go_at_call 184
    refine (RK'.out _).mono ?_
    rintro e Y3 ⟨rfl, h3⟩
    obtain rfl := h3.symm
    obtain ⟨⟨_, _, _, _⟩, _⟩ := box4 H2.out.m
    obtain ⟨⟨_, _, _, _⟩, _, _, _, _⟩ := box4 H2.out.r
    clear b1 b2
    go_wp2
    refine bodyPost_ret (res_nd Tryz.results173 (box4_set _ _ _ _ H2.out.r) rfl) rfl ?_
    obtain ⟨z1, z2⟩ := Nst.end H.out H2.out (.int .i64 1) (.string ⟨#[]⟩) (.int .i64 n) (.slice none 0 0)
    exact ⟨rfl, z1, z2⟩
theorem binary_all (h : PS W b g c T a o) {n : Int} (hx : NumT (tkAt T a) n) (hl : a < T.length) (he : EndT (tkAt T (a + 1))) : Calls Tryz.prog 173 #[.pointer (some ⟨b, 0, none⟩), .int .i64 0] W (NumR W b g c T (a + 1) o n) :=
  binary_down h he 0 (by omega) fun W h => binary_down h he 1 (by omega) fun W h => binary_down h he 2 (by omega) fun W h => binary_down h he 3 (by omega) fun W h => binary_down h he 4 (by omega) fun W h => binary_down h he 5 (by omega) fun W h => binary_six h hx hl he
set_option maxRecDepth 100000 in
set_option maxHeartbeats 4000000 in
theorem cond_num (h : PS W b g c T a o) {n : Int} (hx : NumT (tkAt T a) n) (hl : a < T.length) (he : EndT (tkAt T (a + 1))) : Calls Tryz.prog 153 #[.pointer (some ⟨b, 0, none⟩)] W (NumR W b g c T (a + 1) o n) := by
  obtain ⟨wA, hwA⟩ : ∃ X, W.alloc zNd = X := ⟨_, rfl⟩
  have bA : Below W.heap.size W wA := by rw [← hwA]; exact bel_a W zNd
  have CB := binary_all (h.bel bA) hx hl he
  have H : Hid _ := h
  have HA : Hid (W.alloc zNd = wA) := hwA
  clear h bA
  go_enter Tryz.func153, Tryz.ntmps153
  go_wp2_with fail
  go_at_call 173
  refine CB.mono ?_
  rintro e W1 ⟨rfl, h1, k1⟩
  simp only [numV]
  have HX : Hid _ := Nst.of (n := n) H.out HA.out h1 k1
  clear h1 k1 CB
  go_wp2_with fail
  go_at_call 114
  refine (eat_no HX.out.ps _ he.e4).mono ?_
  rintro e Y2 ⟨rfl, b2⟩
  have H2 : Hid _ := HX.out.bel b2
  obtain ⟨⟨_, _, _, _⟩, _⟩ := box4 H2.out.m
  obtain ⟨⟨_, _, _, _⟩, _, _, _, _⟩ := box4 H2.out.r
  clear b2
  go_wp2
  refine bodyPost_ret (res_nd Tryz.results153 (box4_set _ _ _ _ H2.out.r) rfl) rfl ?_
  obtain ⟨z1, z2⟩ := Nst.end H.out H2.out (.int .i64 1) (.string ⟨#[]⟩) (.int .i64 n) (.slice none 0 0)
  exact ⟨rfl, z1, z2⟩
theorem arrow_no (h : PS W b g c T a o) (hs : isB (tkAt T a) ⟨#[40]⟩ = false) : Calls Tryz.prog 151 #[.pointer (some ⟨b, 0, none⟩)] W fun e w' => e = .returned (.bool false) ∧ Below W.heap.size W w' := by
  have C := is_any h ⟨#[40]⟩
  rw [hs] at C
  clear h
  go_enter Tryz.func151, Tryz.ntmps151
  go_wp2_with (go_at_call 67; refine C.mono ?_; rintro e W1 ⟨rfl, b1⟩)
  go_ret
  exact ⟨rfl, b1⟩
end
end Go.Proofs.YtadkmlcnmkdfiaaGreatDoor
namespace Go.Proofs.YtadkmlcnmkdfiaaGreatDoor
open Go.RowKit
set_option linter.unusedVariables false
set_option linter.unusedSimpArgs false

section
variable {W : World} {b g c : Nat} {T : List Tq} {a o : Nat}
set_option maxRecDepth 100000 in
set_option maxHeartbeats 4000000 in
theorem expr_num (h : PS W b g c T a o) {n : Int} (hx : NumT (tkAt T a) n) (hl : a < T.length) (ho : o < 400) (he : EndT (tkAt T (a + 1))) : Calls Tryz.prog 116 #[.pointer (some ⟨b, 0, none⟩)] W (NumR W b g c T (a + 1) o n) := by
  obtain ⟨wA, hwA⟩ : ∃ X, W.alloc zNd = X := ⟨_, rfl⟩
  have bA : Below W.heap.size W wA := by rw [← hwA]; exact bel_a W zNd
  have m0 : wA.heap[W.heap.size]? = some zNd := by rw [← hwA]; exact hnew _ rfl
  have sA : W.heap.size < wA.heap.size := (Array.getElem?_eq_some_iff.1 m0).1
  have C := enter_yes (h.bel bA) ho
  have nb : b ≠ W.heap.size := by have := h.lt; omega
  have ng : g ≠ W.heap.size := by have := h.tk.lt; omega
  have lb := h.lt
  have lg := h.tk.lt
  have HB : Hid _ := bA
  have HM : Hid (wA.heap[W.heap.size]? = some zNd) := m0
  have HS : Hid (W.heap.size < wA.heap.size) := sA
  clear h bA m0 sA
  go_enter Tryz.func116, Tryz.ntmps116
  go_wp2_with fail
  go_at_call 110
  refine C.mono ?_
  rintro e W1 ⟨rfl, h1, k1⟩
  have s1 := k1.size
  have z1 := k1.keep HS.out (fun e => nb e.symm) HM.out
  have hS1 := HS.out
  have h2 := h1.bel (bel_a W1 zNd)
  have z2 := hold zNd (by omega : W.heap.size < W1.heap.size) z1
  have m2 := hnew (w := W1) zNd rfl
  have HK2 : Hid (Kpt b W (W1.alloc zNd)) := ((Kpt.of HB.out).trans k1).alloc _
  go_wp2_with fail
  go_at_call 151
  refine (arrow_no h2 (hx.no _)).mono ?_
  rintro e W2 ⟨rfl, b2⟩
  have h3 := h2.bel b2
  have sz2 := b2.size
  have sz2 : W1.heap.size + 1 ≤ W2.heap.size := by simpa using sz2
  go_wp2_with fail
  go_at_call 153
  refine (cond_num h3 hx hl he).mono ?_
  rintro e W3 ⟨rfl, h4, k4⟩
  simp only [numV]
  have nk : W1.heap.size ≠ b := by omega
  have nkg : g ≠ W1.heap.size := by omega
  have z3 := k4.keep (by omega : W.heap.size < W2.heap.size) (fun e => nb e.symm) ((b2.block _ (by simp; omega)).trans z2)
  have m3 := k4.keep (by omega : W1.heap.size < W2.heap.size) nk ((b2.block _ (by simp)).trans m2)
  obtain ⟨⟨_, _, _, _⟩, _, _, _, _⟩ := box4 m3
  have HK4 := ((HK2.out.then b2).trans k4).four (show W.heap.size ≤ W1.heap.size by omega) (.int .i64 1) (.string ⟨#[]⟩) (.int .i64 n) (.slice none 0 0)
  have h5 := h4.four (fun e => nk e.symm) nkg (.int .i64 1) (.string ⟨#[]⟩) (.int .i64 n) (.slice none 0 0)
  have m4 := box4_set (.int .i64 1) (.string ⟨#[]⟩) (.int .i64 n) (.slice none 0 0) m3
  have z4 := ((((Below.heap_setCell (((W3.setCell ⟨W1.heap.size, 0, none⟩ (.int .i64 1)).setCell ⟨W1.heap.size, 1, none⟩ (.string ⟨#[]⟩)).setCell ⟨W1.heap.size, 2, none⟩ (.int .i64 n)) ⟨W1.heap.size, 3, none⟩ (.slice none 0 0) W.heap.size (by show W.heap.size ≠ W1.heap.size; omega)).trans (Below.heap_setCell _ _ _ _ (by show W.heap.size ≠ W1.heap.size; omega))).trans (Below.heap_setCell _ _ _ _ (by show W.heap.size ≠ W1.heap.size; omega))).trans (Below.heap_setCell _ _ _ _ (by show W.heap.size ≠ W1.heap.size; omega))).trans z3
  obtain ⟨W4, hW4⟩ : ∃ X, (((W3.setCell ⟨W1.heap.size, 0, none⟩ (.int .i64 1)).setCell ⟨W1.heap.size, 1, none⟩ (.string ⟨#[]⟩)).setCell ⟨W1.heap.size, 2, none⟩ (.int .i64 n)).setCell ⟨W1.heap.size, 3, none⟩ (.slice none 0 0) = X := ⟨_, rfl⟩
  rw [hW4] at HK4 h5 m4 z4
  obtain ⟨⟨_, _, _, _, _⟩, _⟩ := t5 h5.blk
  clear h1 h2 h3 h4 z1 z2 z3 m2 m3
  go_wp2_with fail
  go_at_call 67
  refine (is_any h5 _).mono ?_
  rw [he.e5]
  rintro e W5 ⟨rfl, b5⟩
  have h6 := h5.bel b5
  have z5 := (b5.block _ (Array.getElem?_eq_some_iff.1 z4).1).trans z4
  have m5 := (b5.block _ (Array.getElem?_eq_some_iff.1 m4).1).trans m4
  have h7 := h6.set2 o
  have z6 := (Below.heap_setCell W5 ⟨b, 2, none⟩ (.int .i64 (o : Nat)) W.heap.size (fun e => nb e.symm)).trans z5
  have m6 := (Below.heap_setCell W5 ⟨b, 2, none⟩ (.int .i64 (o : Nat)) W1.heap.size nk).trans m5
  have k7 := ((HK4.then b5).set 2 (.int .i64 (o : Nat)))
  obtain ⟨⟨_, _, _, _, _⟩, _, _, _, _, _⟩ := t5 h6.blk
  obtain ⟨⟨_, _, _, _⟩, _⟩ := box4 m6
  obtain ⟨⟨_, _, _, _⟩, _, _, _, _⟩ := box4 z6
  have HK : Hid _ := h7.four nb ng (.int .i64 1) (.string ⟨#[]⟩) (.int .i64 n) (.slice none 0 0)
  have HL : Hid _ := k7.four (Nat.le_refl _) (.int .i64 1) (.string ⟨#[]⟩) (.int .i64 n) (.slice none 0 0)
  have HZ : Hid _ := z6
  clear h5 h6 h7 z4 z5 z6 m4 m5 m6 k7 hW4
  go_wp2
  refine bodyPost_ret (res_nd Tryz.results116 (box4_set _ _ _ _ HZ.out) rfl) rfl ?_
  exact ⟨rfl, HK.out, HL.out⟩
end
end Go.Proofs.YtadkmlcnmkdfiaaGreatDoor
namespace Go.Proofs.YtadkmlcnmkdfiaaGreatDoor
open Go.RowKit
set_option linter.unusedVariables false
set_option linter.unusedSimpArgs false

section
variable {W : World} {b g c : Nat} {T : List Tq} {a o : Nat}
theorem is_no (h : PS W b g c T a o) (s : ByteArray) (hs : isB (tkAt T a) s = false) : Calls Tryz.prog 67 #[.pointer (some ⟨b, 0, none⟩), .string s] W fun e w' => e = .returned (.bool false) ∧ Below W.heap.size W w' := by
  have := is_any h s
  rwa [hs] at this
theorem is_yes (h : PS W b g c T a o) (s : ByteArray) (hs : isB (tkAt T a) s = true) : Calls Tryz.prog 67 #[.pointer (some ⟨b, 0, none⟩), .string s] W fun e w' => e = .returned (.bool true) ∧ Below W.heap.size W w' := by
  have := is_any h s
  rwa [hs] at this
theorem named_no (h : PS W b g c T a o) (s : ByteArray) (hs : kdB 1 (tkAt T a) s = false) : Calls Tryz.prog 69 #[.pointer (some ⟨b, 0, none⟩), .int .i64 0, .string s] W fun e w' => e = .returned (.bool false) ∧ Below W.heap.size W w' := by
  have := named_any h 0 (by omega) s
  rwa [Nat.add_zero, hs] at this
theorem named_yes (h : PS W b g c T a o) (s : ByteArray) (hs : kdB 1 (tkAt T a) s = true) : Calls Tryz.prog 69 #[.pointer (some ⟨b, 0, none⟩), .int .i64 0, .string s] W fun e w' => e = .returned (.bool true) ∧ Below W.heap.size W w' := by
  have := named_any h 0 (by omega) s
  rwa [Nat.add_zero, hs] at this
theorem tok_is (h : PS W b g c T a o) {t : Tq} (hs : tkAt T a = t) : Calls Tryz.prog 70 #[.pointer (some ⟨b, 0, none⟩), .int .i64 0] W fun e w' => e = .returned (.agg #[.int .i64 t.1.1, .string ⟨t.1.2.1.toArray⟩, .int .i64 t.1.2.2, .int .i64 t.2]) ∧ Below W.heap.size W w' := by
  have := tok_any h 0 (by omega)
  rwa [Nat.add_zero, hs] at this
/-- what a walk keeps: where the parser stands, and the blocks of the call's own that it knows. -/
structure Zst (W X : World) (b g c : Nat) (T : List Tq) (a o : Nat) (K : List (Nat × Obj)) : Prop where
  ps : PS X b g c T a o
  kp : Kpt b W X
  lb : b < W.heap.size
  lg : g < W.heap.size
  kn : ∀ p ∈ K, X.heap[p.1]? = some p.2 ∧ W.heap.size ≤ p.1
theorem Zst.begin (h : PS W b g c T a o) : Zst W W b g c T a o [] := ⟨h, Kpt.refl _ _, h.lt, h.tk.lt, by simp⟩
theorem Zst.bel {X Y : World} {K : List (Nat × Obj)} (h : Zst W X b g c T a o K) (B : Below X.heap.size X Y) : Zst W Y b g c T a o K :=
  ⟨h.ps.bel B, h.kp.then B, h.lb, h.lg, fun p hp => ⟨(B.block _ (Array.getElem?_eq_some_iff.1 (h.kn p hp).1).1).trans (h.kn p hp).1, (h.kn p hp).2⟩⟩
theorem Zst.go {X Y : World} {K : List (Nat × Obj)} {a' o' : Nat} (h : Zst W X b g c T a o K) (hY : PS Y b g c T a' o' ∧ Kpt b X Y) : Zst W Y b g c T a' o' K :=
  ⟨hY.1, h.kp.trans hY.2, h.lb, h.lg, fun p hp => ⟨hY.2.keep (Array.getElem?_eq_some_iff.1 (h.kn p hp).1).1 (by have := h.lb; have := (h.kn p hp).2; omega) (h.kn p hp).1, (h.kn p hp).2⟩⟩
theorem Zst.new {X : World} {K : List (Nat × Obj)} (h : Zst W X b g c T a o K) (ob : Obj) : Zst W (X.alloc ob) b g c T a o ((X.heap.size, ob) :: K) := by
  have := h.bel (bel_a X ob)
  refine ⟨this.ps, this.kp, h.lb, h.lg, fun p hp => ?_⟩
  rcases List.mem_cons.1 hp with rfl | hp
  · exact ⟨hnew _ rfl, h.kp.size⟩
  · exact this.kn p hp
theorem Zst.at {X : World} {K : List (Nat × Obj)} (h : Zst W X b g c T a o K) {k : Nat} {ob : Obj} (hk : (k, ob) ∈ K) : X.heap[k]? = some ob := (h.kn _ hk).1
/-- one place on. -/
theorem Zst.on {X : World} {K : List (Nat × Obj)} (h : Zst W X b g c T a o K) (hl : a < T.length) : Zst W (X.setCell ⟨b, 1, none⟩ (.int .i64 ((a : Nat) + 1 : Int))) b g c T (a + 1) o K :=
  h.go ⟨h.ps.on hl, (Kpt.refl b X).set 1 _⟩
/-- a cell of the walk's own is written: its block is told anew, the others stay. -/
theorem Zst.set {X : World} {K K' : List (Nat × Obj)} (h : Zst W X b g c T a o K) {k : Nat} (hk : W.heap.size ≤ k) {ob : Obj} {i : Nat} {v : Value} (hn : (X.setCell ⟨k, i, none⟩ v).heap[k]? = some ob) (hK : ∀ p ∈ K', p ∈ K ∧ p.1 ≠ k) : Zst W (X.setCell ⟨k, i, none⟩ v) b g c T a o ((k, ob) :: K') := by
  have lb := h.lb
  have lg := h.lg
  refine ⟨h.ps.other (by omega) (by omega) _ _, h.kp.new hk _ _, lb, lg, fun p hp => ?_⟩
  rcases List.mem_cons.1 hp with rfl | hp
  · exact ⟨hn, hk⟩
  · obtain ⟨q1, q2⟩ := hK p hp
    exact ⟨(Below.heap_setCell _ _ _ _ q2).trans (h.kn p q1).1, (h.kn p q1).2⟩
theorem Zst.set4 {X : World} {K K' : List (Nat × Obj)} (h : Zst W X b g c T a o K) {k : Nat} {p0 q0 r0 s0 : Value} (hk : (k, .cells #[p0, q0, r0, s0] 25 (0, 0)) ∈ K) (hK : ∀ p ∈ K', p ∈ K ∧ p.1 ≠ k) (p q r s : Value) : Zst W ((((X.setCell ⟨k, 0, none⟩ p).setCell ⟨k, 1, none⟩ q).setCell ⟨k, 2, none⟩ r).setCell ⟨k, 3, none⟩ s) b g c T a o ((k, .cells #[p, q, r, s] 25 (0, 0)) :: K') := by
  have lk := (h.kn _ hk).2
  have h0 := h.at hk
  have h1 := h.set (K' := K') (i := 0) (v := p) lk (ob := .cells #[p, q0, r0, s0] 25 (0, 0)) (by simp [World.setCell, Array.getElem?_modify, h0]) hK
  have h2 := h1.set (K' := K') (i := 1) (v := q) lk (ob := .cells #[p, q, r0, s0] 25 (0, 0)) (by have := h1.at (List.mem_cons_self ..); simp [World.setCell, Array.getElem?_modify] at this ⊢; simp [h0]) (fun x hx => ⟨List.mem_cons_of_mem _ hx, (hK x hx).2⟩)
  have h3 := h2.set (K' := K') (i := 2) (v := r) lk (ob := .cells #[p, q, r, s0] 25 (0, 0)) (by simp [World.setCell, Array.getElem?_modify, h0]) (fun x hx => ⟨List.mem_cons_of_mem _ hx, (hK x hx).2⟩)
  exact h3.set (K' := K') (i := 3) (v := s) lk (ob := .cells #[p, q, r, s] 25 (0, 0)) (by simp [World.setCell, Array.getElem?_modify, h0]) (fun x hx => ⟨List.mem_cons_of_mem _ hx, (hK x hx).2⟩)
/-- a tree in a list of its own. -/
theorem lat_one {X : World} {S : Nat → Prop} {k cap : Nat} {x : Nd} {kv : Value} {t : TypeId} (h : X.heap[k]? = some (.cells #[.int .i64 x.k, .string x.t, .int .i64 x.n, kv] t (0, 0))) (hS : S k) (hk : LAt X S kv x.ks) : LAt X S (.slice (some ⟨k, 0, none⟩) 1 cap) [x] := by
  obtain ⟨c, _⟩ := box4 h
  refine LAt.row k 0 cap [x] (fun _ => kv) hS (Array.getElem?_eq_some_iff.1 h).1 (fun i hi => ?_) (fun i hi => ?_)
  · obtain rfl : i = 0 := by simp at hi; exact hi
    simpa [Four] using c
  · obtain rfl : i = 0 := by simp at hi; exact hi
    simpa using hk
/-- what a rule answers: a tree in new memory, and the place behind. -/
def ItR (W : World) (b g c : Nat) (T : List Tq) (a o : Nat) (x : Nd) (e : Ending) (w' : World) : Prop := ∃ kv, e = .returned (x.v kv) ∧ LAt w' (fun k => W.heap.size ≤ k) kv x.ks ∧ PS w' b g c T a o ∧ Kpt b W w'
theorem LAt.kpt {X Y : World} {m : Nat} {v : Value} {ks : List Nd} (h : LAt X (fun k => m ≤ k) v ks) (k : Kpt b X Y) (hb : b < m) : LAt Y (fun k => m ≤ k) v ks :=
  h.keep k.size (fun j hj hl => k.block j hl (by have : m ≤ j := hj; omega))
theorem LAt.set {X : World} {m n i : Nat} {u v : Value} {ks : List Nd} (h : LAt X (fun k => m ≤ k) v ks) (hn : n < m) : LAt (X.setCell ⟨n, i, none⟩ u) (fun k => m ≤ k) v ks :=
  h.keep (by simp [World.setCell]) (fun j hj hl => Below.heap_setCell _ _ _ _ (by have : m ≤ j := hj; show j ≠ n; omega))
end
end Go.Proofs.YtadkmlcnmkdfiaaGreatDoor
