/- Own text. The document's parser over tokens in memory: where it stands, and what its small functions answer where no error was seen. The program's image of one tree, in linked modules. The program's image of one item, in linked modules. -/
import Derived.Test.YtpnljjcdlkjfhaaGreatDoorRv24
import Derived.Test.YtpnljjcdlkjfhaaGreatDoorRv02
import Derived.BigQuiet
import Derived.Deep.QuietTactic
import Derived.Test.YtpnljjcdlkjfhaaGreatDoorRv17
set_option linter.unusedVariables false
set_option linter.unusedSimpArgs false
namespace Go.Proofs.YtpnljjcdlkjfhaaGreatDoor
open Go.RowKit
/-- all blocks but b are as they were. -/
structure Kpt (b : Nat) (w w' : World) : Prop where
  os : w'.os = w.os
  tape : w'.tape = w.tape
  output : w'.output = w.output
  size : w.heap.size ≤ w'.heap.size
  block : ∀ k, k < w.heap.size → k ≠ b → w'.heap[k]? = w.heap[k]?
theorem Kpt.refl (b : Nat) (w : World) : Kpt b w w := ⟨rfl, rfl, rfl, Nat.le_refl _, fun _ _ _ => rfl⟩
theorem Kpt.trans {b : Nat} {w w' w'' : World} (h : Kpt b w w') (k : Kpt b w' w'') : Kpt b w w'' :=
  ⟨k.os.trans h.os, k.tape.trans h.tape, k.output.trans h.output, Nat.le_trans h.size k.size, fun i hi hb => (k.block i (Nat.lt_of_lt_of_le hi h.size) hb).trans (h.block i hi hb)⟩
theorem Kpt.of {b : Nat} {w w' : World} (h : Below w.heap.size w w') : Kpt b w w' := ⟨h.os, h.tape, h.output, h.size, fun k hk _ => h.block k hk⟩
theorem Kpt.then {b : Nat} {w w' w'' : World} (h : Kpt b w w') (k : Below w'.heap.size w' w'') : Kpt b w w'' := h.trans (.of k)
theorem Kpt.set {b : Nat} {w w' : World} (h : Kpt b w w') (i : Nat) (v : Value) : Kpt b w (w'.setCell ⟨b, i, none⟩ v) :=
  h.trans ⟨rfl, rfl, rfl, by simp [World.setCell], fun k hk hb => Below.heap_setCell _ _ _ _ hb⟩
theorem Kpt.new {b : Nat} {w w' : World} (h : Kpt b w w') {n : Nat} (hn : w.heap.size ≤ n) (i : Nat) (v : Value) : Kpt b w (w'.setCell ⟨n, i, none⟩ v) :=
  ⟨h.os, h.tape, h.output, by simpa [World.setCell] using h.size, fun k hk hb => (Below.heap_setCell _ _ _ _ (by show k ≠ n; omega)).trans (h.block k hk hb)⟩
theorem Kpt.alloc {b : Nat} {w w' : World} (h : Kpt b w w') (o : Obj) : Kpt b w (w'.alloc o) := h.then ((Below.refl _ _).alloc (Nat.le_refl _) o)
theorem Kpt.below {B b : Nat} {w w' : World} (h : Kpt b w w') (hB : B ≤ b) (hs : B ≤ w.heap.size) : Below B w w' :=
  ⟨h.os, h.tape, h.output, h.size, fun k hk => h.block k (by omega) (by omega)⟩

abbrev Tq := Tk × Int
/-- tokens in the block g. -/
structure Tks (W : World) (g : Nat) (T : List Tq) : Prop where
  c : ∀ i (h : i < T.length), W.cell? ⟨g, i * 4, none⟩ = some (.int .i64 T[i].1.1) ∧ W.cell? ⟨g, i * 4 + 1, none⟩ = some (.string ⟨T[i].1.2.1.toArray⟩) ∧ W.cell? ⟨g, i * 4 + 2, none⟩ = some (.int .i64 T[i].1.2.2) ∧ W.cell? ⟨g, i * 4 + 3, none⟩ = some (.int .i64 T[i].2)
  lt : g < W.heap.size
theorem Tks.keep {W W' : World} {g : Nat} {T : List Tq} (h : Tks W g T) (hs : W.heap.size ≤ W'.heap.size) (e : W'.heap[g]? = W.heap[g]?) : Tks W' g T :=
  ⟨fun i hi => by
    obtain ⟨a, b, c, d⟩ := h.c i hi
    exact ⟨(World.cell?_of_block (a := ⟨g, _, none⟩) e).trans a, (World.cell?_of_block (a := ⟨g, _, none⟩) e).trans b, (World.cell?_of_block (a := ⟨g, _, none⟩) e).trans c, (World.cell?_of_block (a := ⟨g, _, none⟩) e).trans d⟩, Nat.lt_of_lt_of_le h.lt hs⟩
def tkAt (T : List Tq) (i : Nat) : Tq := (T[i]?).getD ((0, [], 0), 0)
/-- where the parser stands: its struct lies in the block b. -/
structure PS (W : World) (b g c : Nat) (T : List Tq) (a o : Nat) : Prop where
  blk : W.heap[b]? = some (.cells #[.slice (some ⟨g, 0, none⟩) T.length c, .int .i64 (a : Nat), .int .i64 (o : Nat), .int .i64 0, .int .i64 0] 241 (0, 0))
  tk : Tks W g T
  ne : g ≠ b
  ln : T.length ≤ 1048576
  la : a ≤ T.length
theorem t5 {w : World} {b : Nat} {p q r s u : Value} {t : TypeId} (h : w.heap[b]? = some (.cells #[p, q, r, s, u] t (0, 0))) :
    (w.cell? ⟨b, 0, none⟩ = some p ∧ w.cell? ⟨b, 1, none⟩ = some q ∧ w.cell? ⟨b, 2, none⟩ = some r ∧ w.cell? ⟨b, 3, none⟩ = some s ∧ w.cell? ⟨b, 4, none⟩ = some u) ∧ (w.frozen? ⟨b, 0, none⟩ = false ∧ w.frozen? ⟨b, 1, none⟩ = false ∧ w.frozen? ⟨b, 2, none⟩ = false ∧ w.frozen? ⟨b, 3, none⟩ = false ∧ w.frozen? ⟨b, 4, none⟩ = false) := by
  simp [World.cell?, World.frozen?, h]
theorem t5_set1 {w : World} {b : Nat} {p q r s u : Value} {t : TypeId} {fr : Nat × Nat} (q' : Value) (h : w.heap[b]? = some (.cells #[p, q, r, s, u] t fr)) :
    (w.setCell ⟨b, 1, none⟩ q').heap[b]? = some (.cells #[p, q', r, s, u] t fr) := by
  simp [World.setCell, Array.getElem?_modify, h]
theorem t5_set2 {w : World} {b : Nat} {p q r s u : Value} {t : TypeId} {fr : Nat × Nat} (q' : Value) (h : w.heap[b]? = some (.cells #[p, q, r, s, u] t fr)) :
    (w.setCell ⟨b, 2, none⟩ q').heap[b]? = some (.cells #[p, q, q', s, u] t fr) := by
  simp [World.setCell, Array.getElem?_modify, h]
theorem PS.lt {W : World} {b g c : Nat} {T : List Tq} {a o : Nat} (h : PS W b g c T a o) : b < W.heap.size := (Array.getElem?_eq_some_iff.1 h.blk).1
theorem PS.bel {W W' : World} {b g c : Nat} {T : List Tq} {a o : Nat} (h : PS W b g c T a o) (k : Below W.heap.size W W') : PS W' b g c T a o :=
  ⟨(k.block _ h.lt).trans h.blk, h.tk.keep k.size (k.block _ h.tk.lt), h.ne, h.ln, h.la⟩
theorem PS.set1 {W : World} {b g c : Nat} {T : List Tq} {a o : Nat} (h : PS W b g c T a o) (n : Nat) (hn : n ≤ T.length) : PS (W.setCell ⟨b, 1, none⟩ (.int .i64 (n : Nat))) b g c T n o :=
  ⟨t5_set1 _ h.blk, h.tk.keep (by simp [World.setCell]) (Below.heap_setCell _ _ _ _ h.ne), h.ne, h.ln, hn⟩
theorem PS.set2 {W : World} {b g c : Nat} {T : List Tq} {a o : Nat} (h : PS W b g c T a o) (n : Nat) : PS (W.setCell ⟨b, 2, none⟩ (.int .i64 (n : Nat))) b g c T a n :=
  ⟨t5_set2 _ h.blk, h.tk.keep (by simp [World.setCell]) (Below.heap_setCell _ _ _ _ h.ne), h.ne, h.ln, h.la⟩
theorem PS.out {W W' : World} {b g c : Nat} {T : List Tq} {a o : Nat} (h : PS W b g c T a o) (hs : W.heap.size ≤ W'.heap.size) (e : W'.heap[b]? = W.heap[b]?) (e2 : W'.heap[g]? = W.heap[g]?) : PS W' b g c T a o :=
  ⟨e.trans h.blk, h.tk.keep hs e2, h.ne, h.ln, h.la⟩
theorem PS.one {W : World} {b g c : Nat} {T : List Tq} {a o : Nat} (h : PS W b g c T a o) {n : Nat} (hn : W.heap.size ≤ n) {W' : World} (k : PS W' b g c T a o) (i : Nat) (v : Value) : PS (W'.setCell ⟨n, i, none⟩ v) b g c T a o :=
  k.out (by simp [World.setCell]) (Below.heap_setCell _ _ _ _ (by have := h.lt; show b ≠ n; omega)) (Below.heap_setCell _ _ _ _ (by have := h.tk.lt; show g ≠ n; omega))
abbrev pv5 (b : Nat) : Value := .pointer (some ⟨b, 0, none⟩)

/-- a token that is answered out of its cell. -/
theorem res_tk {fn : Func} {p : Nat} (h : fn.results = #[.cell p 215]) {W : World} {n : Nat} {a b c d : Value} {t : TypeId} {tmps : Array Value} (hb : W.heap[n]? = some (.cells #[a, b, c, d] t (0, 0))) (ht : tmps[p]?.getD undef = .pointer (some ⟨n, 0, none⟩)) :
    (results fn tmps).run Tryz.prog W = .ok (.agg #[a, b, c, d]) W := by
  obtain ⟨⟨c0, c1, c2, c3⟩, _⟩ := box4 hb
  simp [results, h, go_sem, ht, c0, c1, c2, c3]
def tqV (t : Tq) : Value := .agg #[.int .i64 t.1.1, .string ⟨t.1.2.1.toArray⟩, .int .i64 t.1.2.2, .int .i64 t.2]
theorem tk_lt {T : List Tq} {i : Nat} (h : i < T.length) : tkAt T i = T[i] := by unfold tkAt; rw [List.getElem?_eq_getElem h]; rfl
theorem tk_ge {T : List Tq} {i : Nat} (h : T.length ≤ i) : tkAt T i = ((0, [], 0), 0) := by unfold tkAt; rw [List.getElem?_eq_none h]; rfl
section
variable {W : World} {b g c : Nat} {T : List Tq} {a o : Nat}
theorem bel4 {B : Nat} {W X : World} (h : Below B W X) {n : Nat} (hn : B ≤ n) (p q r s : Value) : Below B W ((((X.setCell ⟨n, 0, none⟩ p).setCell ⟨n, 1, none⟩ q).setCell ⟨n, 2, none⟩ r).setCell ⟨n, 3, none⟩ s) :=
  (((h.setCell hn _).setCell hn _).setCell hn _).setCell hn _
set_option maxRecDepth 100000 in
set_option maxHeartbeats 4000000 in
theorem lookP_any (h : PS W b g c T a o) (k : Nat) (hk : k ≤ 4) : Calls Tryz.prog 219 #[.pointer (some ⟨b, 0, none⟩), .int .i64 (k : Nat)] W fun e w' => e = .returned (tqV (tkAt T (a + k))) ∧ Below W.heap.size W w' := by
  have ln := h.ln
  have la := h.la
  obtain ⟨wA, hwA⟩ : ∃ X, W.alloc (.cells #[.int .i64 0, .string ⟨#[]⟩, .int .i64 0, .int .i64 0] 215) = X := ⟨_, rfl⟩
  have m0 : wA.heap[W.heap.size]? = some (.cells #[.int .i64 0, .string ⟨#[]⟩, .int .i64 0, .int .i64 0] 215 (0, 0)) := by rw [← hwA]; exact hnew _ rfl
  have bA : Below W.heap.size W wA := by rw [← hwA]; exact bel_a _ _
  have hA := h.bel bA
  obtain ⟨⟨c0, c1, c2, c3, c4⟩, _⟩ := t5 hA.blk
  obtain ⟨⟨_, _, _, _⟩, _, _, _, _⟩ := box4 m0
  have HF : Hid (Below W.heap.size W wA) := bA
  have HM : Hid _ := m0
  by_cases hlt : a + k < T.length
  · obtain ⟨d0, d1, d2, d3⟩ := hA.tk.c _ hlt
    rw [tk_lt hlt]
    have hl1 : ¬ ((T.length : Nat) : Int) ≤ ((a : Nat) : Int) + ((k : Nat) : Int) := by omega
    have hl2 : ((a : Nat) : Int) + ((k : Nat) : Int) < ((T.length : Nat) : Int) := by omega
    generalize T[a + k] = x at *
    clear m0 bA hA h c2 c3 c4
    go_enter Tryz.func219, Tryz.ntmps219
    go_wp2
    go_region
    go_wp2
    try go_region
    try go_wp2
    refine bodyPost_ret (res_tk Tryz.results219 (box4_set _ _ _ _ HM.out) rfl) rfl ?_
    exact ⟨rfl, (bel4 HF.out (Nat.le_refl _) _ _ _ _).drew.drew⟩
  · rw [tk_ge (by omega)]
    have hl1 : ((T.length : Nat) : Int) ≤ ((a : Nat) : Int) + ((k : Nat) : Int) := by omega
    clear m0 bA hA h c2 c3 c4
    go_enter Tryz.func219, Tryz.ntmps219
    go_wp2
    go_region
    go_wp2
    try go_region
    try go_wp2
    refine bodyPost_ret (res_tk Tryz.results219 (box4_set _ _ _ _ HM.out) rfl) rfl ?_
    exact ⟨rfl, (bel4 HF.out (Nat.le_refl _) _ _ _ _).drew⟩
set_option maxRecDepth 100000 in
set_option maxHeartbeats 4000000 in
theorem tok_any (h : PS W b g c T a o) (k : Nat) (hk : k ≤ 4) : Calls Tryz.prog 191 #[.pointer (some ⟨b, 0, none⟩), .int .i64 (k : Nat)] W fun e w' => e = .returned (tqV (tkAt T (a + k))) ∧ Below W.heap.size W w' := by
  have ln := h.ln
  have la := h.la
  obtain ⟨wA, hwA⟩ : ∃ X, W.alloc (.cells #[.int .i64 0, .string ⟨#[]⟩, .int .i64 0, .int .i64 0] 215) = X := ⟨_, rfl⟩
  have m0 : wA.heap[W.heap.size]? = some (.cells #[.int .i64 0, .string ⟨#[]⟩, .int .i64 0, .int .i64 0] 215 (0, 0)) := by rw [← hwA]; exact hnew _ rfl
  have bA : Below W.heap.size W wA := by rw [← hwA]; exact bel_a _ _
  have hA := h.bel bA
  obtain ⟨⟨c0, c1, c2, c3, c4⟩, _⟩ := t5 hA.blk
  obtain ⟨⟨_, _, _, _⟩, _, _, _, _⟩ := box4 m0
  have HF : Hid (Below W.heap.size W wA) := bA
  have HM : Hid _ := m0
  by_cases hlt : a + k < T.length
  · obtain ⟨d0, d1, d2, d3⟩ := hA.tk.c _ hlt
    rw [tk_lt hlt]
    have hl2 : ((a : Nat) : Int) + ((k : Nat) : Int) < ((T.length : Nat) : Int) := by omega
    have hl3 : decide (((a : Nat) : Int) + ((k : Nat) : Int) < ((T.length : Nat) : Int)) = true := by simp; omega
    have hl4 : (0 : Int) ≤ ((a : Nat) : Int) + ((k : Nat) : Int) := by omega
    generalize T[a + k] = x at *
    clear m0 bA hA h c2 c3 c4
    go_enter Tryz.func191, Tryz.ntmps191
    go_wp2
    go_quiet (fail)
    go_wp2
    try go_region
    try go_wp2
    refine bodyPost_ret (res_tk Tryz.results191 (box4_set _ _ _ _ HM.out) rfl) rfl ?_
    exact ⟨rfl, bel4 (HF.out.trans ((drewN_below4 _ _).mono HF.out.size)) (Nat.le_refl _) _ _ _ _⟩
  · rw [tk_ge (by omega)]
    have hl3 : decide (((a : Nat) : Int) + ((k : Nat) : Int) < ((T.length : Nat) : Int)) = false := by simp; omega
    clear m0 bA hA h c2 c3 c4
    go_enter Tryz.func191, Tryz.ntmps191
    go_wp2
    go_quiet (fail)
    go_wp2
    try go_region
    try go_wp2
    refine bodyPost_ret (res_tk Tryz.results191 (box4_set _ _ _ _ HM.out) rfl) rfl ?_
    exact ⟨rfl, bel4 (HF.out.trans ((drewN_below4 _ _).mono HF.out.size)) (Nat.le_refl _) _ _ _ _⟩
end
set_option maxRecDepth 100000 in
set_option maxHeartbeats 4000000 in
theorem place_zero (w : World) (v : Value) : Calls Tryz.prog 58 #[v, .int .i64 0] w fun e w' => e = .returned (.int .i64 1) ∧ w' = w := by
  go_enter Tryz.func58, Tryz.ntmps58
  go_wp2_with fail
  go_loopw [5, 8] (fun v i wr => v = .int .i64 1 ∧ i = .int .i64 0 ∧ wr = w) (fun _ i _ => 0)
  case atStart => exact ⟨rfl, rfl, rfl⟩
  case round =>
    obtain ⟨rfl, rfl, rfl⟩ := hrel
    go_wp2
    go_ret
    exact ⟨rfl, rfl⟩
/-- what one module is linked to, as far as its image asks. -/
structure LkAt (W : World) (gm gs g o c : Nat) (au : Option Addr) (cu : Nat) : Prop where
  m : W.cell? ⟨gm, 4, none⟩ = some (.slice (some ⟨g, o, none⟩) 1 c)
  s : W.cell? ⟨gs, 1, none⟩ = some (.slice au 0 cu)
theorem LkAt.lt {W : World} {gm gs g o c : Nat} {au : Option Addr} {cu : Nat} (h : LkAt W gm gs g o c au cu) : gm < W.heap.size ∧ gs < W.heap.size := ⟨World.block_lt_of_cell? W _ h.m, World.block_lt_of_cell? W _ h.s⟩
theorem LkAt.bel {W X : World} {gm gs g o c : Nat} {au : Option Addr} {cu : Nat} (h : LkAt W gm gs g o c au cu) (b : Below W.heap.size W X) : LkAt X gm gs g o c au cu :=
  ⟨(b.cell (p := ⟨gm, _, none⟩) h.lt.1).trans h.m, (b.cell (p := ⟨gs, _, none⟩) h.lt.2).trans h.s⟩
abbrev lkV (gm cm gs cs : Nat) (pe pf : Option Addr) (ne ce nf cf : Nat) : Value := .agg #[.slice (some ⟨gm, 0, none⟩) 1 cm, .slice (some ⟨gs, 0, none⟩) 1 cs, .slice pe ne ce, .slice pf nf cf]
section
variable {W : World} {gm gs g o c cu cm cs ne ce nf cf : Nat} {au pe pf : Option Addr}
set_option maxRecDepth 100000 in
set_option maxHeartbeats 4000000 in
theorem wItem (h : LkAt W gm gs g o c au cu) : Calls Tryz.prog 30 #[lkV gm cm gs cs pe pf ne ce nf cf, .int .i64 0, .int .i64 0] W fun e w' => e = .returned (.pointer (some ⟨g, o, none⟩)) ∧ Below W.heap.size W w' := by
  obtain ⟨l1, l2⟩ := h.lt
  obtain ⟨h1, h2⟩ := h
  go_enter Tryz.func30, Tryz.ntmps30
  go_wp2
  go_ret
  exact ⟨rfl, bel_a _ _⟩
/-- the reader, at a place. -/
def RBk (x0 x1 x2 x3 x5 x7 x8 : Value) (k : Nat) : Obj := .cells #[x0, x1, x2, x3, .int .i64 0, x5, .int .i64 k, x7, x8] 120
theorem box9 {w : World} {b : Nat} {p0 p1 p2 p3 p4 p5 p6 p7 p8 : Value} {t : TypeId} (h : w.heap[b]? = some (.cells #[p0, p1, p2, p3, p4, p5, p6, p7, p8] t (0, 0))) :
    (w.cell? ⟨b, 0, none⟩ = some p0 ∧ w.cell? ⟨b, 1, none⟩ = some p1 ∧ w.cell? ⟨b, 2, none⟩ = some p2 ∧ w.cell? ⟨b, 3, none⟩ = some p3 ∧ w.cell? ⟨b, 4, none⟩ = some p4 ∧ w.cell? ⟨b, 5, none⟩ = some p5 ∧ w.cell? ⟨b, 6, none⟩ = some p6 ∧ w.cell? ⟨b, 7, none⟩ = some p7 ∧ w.cell? ⟨b, 8, none⟩ = some p8) ∧ (∀ i, w.frozen? ⟨b, i, none⟩ = false) := by
  refine ⟨by simp [World.cell?, h], fun i => by simp [World.frozen?, h]⟩
theorem rb_set {X : World} {x0 x1 x2 x3 x5 x7 x8 : Value} {rb k : Nat} (h : X.heap[rb]? = some (RBk x0 x1 x2 x3 x5 x7 x8 k)) : (X.setCell ⟨rb, 6, none⟩ (.int .i64 ((k : Int) + 1))).heap[rb]? = some (RBk x0 x1 x2 x3 x5 x7 x8 (k + 1)) := by
  unfold RBk at *
  simp [World.setCell, Array.getElem?_modify, h]
theorem res_fd {fn : Func} {p : Nat} (h : fn.results = #[.cell p 112]) {W : World} {n : Nat} {a b c d : Value} {t : TypeId} {tmps : Array Value} (hb : W.heap[n]? = some (.cells #[a, b, c, d] t (0, 0))) (ht : tmps[p]?.getD undef = .pointer (some ⟨n, 0, none⟩)) :
    (results fn tmps).run Tryz.prog W = .ok (.agg #[a, b, c, d]) W := by
  obtain ⟨⟨c0, c1, c2, c3⟩, _⟩ := box4 hb
  simp [results, h, go_sem, ht, c0, c1, c2, c3]
theorem far4 {X : World} {r n : Nat} (h : r ≠ n) (p q s u : Value) : ((((X.setCell ⟨n, 0, none⟩ p).setCell ⟨n, 1, none⟩ q).setCell ⟨n, 2, none⟩ s).setCell ⟨n, 3, none⟩ u).heap[r]? = X.heap[r]? :=
  (((Below.heap_setCell _ _ _ _ h).trans (Below.heap_setCell _ _ _ _ h)).trans (Below.heap_setCell _ _ _ _ h)).trans (Below.heap_setCell _ _ _ _ h)
abbrev fdZ : Value := .agg #[.int .i64 0, .int .i64 0, .string ⟨#[]⟩, .bool false]
set_option maxRecDepth 100000 in
set_option maxHeartbeats 4000000 in
theorem read_leaf {x0 x1 x2 x3 x5 x7 x8 : Value} {rb k B g o c : Nat} {a : Option Addr} (h : N5At W g o a c) (hr : W.heap[rb]? = some (RBk x0 x1 x2 x3 x5 x7 x8 k)) (hB : B ≤ rb) (hg : g < B) (hk : k ≤ 100) :
    Calls Tryz.prog 59 #[.pointer (some ⟨rb, 0, none⟩), .pointer (some ⟨g, o, none⟩)] W fun e w' => e = .returned fdZ ∧ w'.heap[rb]? = some (RBk x0 x1 x2 x3 x5 x7 x8 (k + 1)) ∧ Kpt rb W w' := by
  have hrl := (Array.getElem?_eq_some_iff.1 hr).1
  obtain ⟨W0, hW0⟩ : ∃ X, (W.alloc (.cells #[.int .i64 0, .int .i64 0, .string ⟨#[]⟩, .bool false] 112)).setCell ⟨rb, 6, none⟩ (.int .i64 ((k : Int) + 1)) = X := ⟨_, rfl⟩
  have b0 : Below B W W0 := by rw [← hW0]; exact (((Below.refl _ _).alloc (by omega) _).setCell (by exact hB) _)
  have r0 : W0.heap[rb]? = some (RBk x0 x1 x2 x3 x5 x7 x8 (k + 1)) := by rw [← hW0]; exact rb_set (hold _ hrl hr)
  have m0 : W0.heap[W.heap.size]? = some (.cells #[.int .i64 0, .int .i64 0, .string ⟨#[]⟩, .bool false] 112) := by
    rw [← hW0, Below.heap_setCell _ _ _ _ (by simp; omega)]; exact hnew _ rfl
  have HM : Hid _ := m0
  have HR : Hid _ := r0
  have HB : Hid _ := b0
  have HP : Hid (Kpt rb W W0) := by rw [← hW0]; exact ((Kpt.refl rb W).alloc _).set 6 _
  have n0 := h.bel b0 hg
  obtain ⟨n1, n2, n3, n4⟩ := n0
  obtain ⟨p1, p2, p3, p4⟩ := h
  obtain ⟨⟨q0, q1, q2, q3, q4, q5, q6, q7, q8⟩, fz⟩ := box9 hr
  have f6 := fz 6
  clear r0 b0 m0 hr fz
  go_enter Tryz.func59, Tryz.ntmps59
  go_wp2_with fail
  go_loopw [40] (fun i wr => i = .int .i64 0 ∧ wr = W0) (fun i _ => 0)
  case atStart => exact ⟨rfl, rfl⟩
  case round =>
    obtain ⟨rfl, rfl⟩ := hrel
    clear hW0
    obtain ⟨⟨c0, c1, c2, c3⟩, _⟩ := box4 HM.out
    have hrw : rb ≠ W.heap.size := by omega
    go_wp2
    refine bodyPost_ret (res_fd Tryz.results59 (box4_set _ _ _ _ HM.out) rfl) rfl ⟨rfl, ?_, ?_⟩
    · exact (far4 hrw _ _ _ _).trans HR.out
    · exact (((HP.out.new (Nat.le_refl _) _ _).new (Nat.le_refl _) _ _).new (Nat.le_refl _) _ _).new (Nat.le_refl _) _ _
set_option maxRecDepth 100000 in
set_option maxHeartbeats 4000000 in
theorem hand_no (a b : Value) (W : World) : Calls Tryz.prog 92 #[a, b, fdZ] W fun e w' => e = .returned (.tuple #[]) ∧ Below W.heap.size W w' := by
  go_enter Tryz.func92, Tryz.ntmps92
  go_wp2
  go_end0
  exact ⟨rfl, bel_a _ _⟩
set_option maxRecDepth 100000 in
set_option maxHeartbeats 4000000 in
theorem read_d5 {x0 x1 x2 x3 x5 x7 x8 : Value} {rb B g o g2 o2 c2 c : Nat} {a : Option Addr} (h : D5At W g o g2 o2 c2 a c) (hr : W.heap[rb]? = some (RBk x0 x1 x2 x3 x5 x7 x8 1)) (hB : B ≤ rb) (hg : g < B) (hg2 : g2 < B) :
    Calls Tryz.prog 59 #[.pointer (some ⟨rb, 0, none⟩), .pointer (some ⟨g, o, none⟩)] W fun e w' => e = .returned fdZ ∧ Below B W w' := by
  have hrl := (Array.getElem?_eq_some_iff.1 hr).1
  obtain ⟨W0, hW0⟩ : ∃ X, (W.alloc (.cells #[.int .i64 0, .int .i64 0, .string ⟨#[]⟩, .bool false] 112)).setCell ⟨rb, 6, none⟩ (.int .i64 2) = X := ⟨_, rfl⟩
  have b0 : Below B W W0 := by rw [← hW0]; exact (((Below.refl _ _).alloc (by omega) _).setCell (by exact hB) _)
  have r0 : W0.heap[rb]? = some (RBk x0 x1 x2 x3 x5 x7 x8 2) := by rw [← hW0]; exact rb_set (hold _ hrl hr)
  have m0 : W0.heap[W.heap.size]? = some (.cells #[.int .i64 0, .int .i64 0, .string ⟨#[]⟩, .bool false] 112) := by
    rw [← hW0, Below.heap_setCell _ _ _ _ (by simp; omega)]; exact hnew _ rfl
  have s0 : W.heap.size < W0.heap.size := (Array.getElem?_eq_some_iff.1 m0).1
  have HM : Hid _ := m0
  have HR : Hid _ := r0
  have HB : Hid _ := b0
  have n0 := h.bel b0 hg hg2
  have HK : Hid (N5At W0 g2 o2 a c) := n0.kid
  have HD : Hid (∀ X, Below B W X → D5At X g o g2 o2 c2 a c) := fun X b => h.bel b hg hg2
  obtain ⟨n1, n2, n3, n4, _⟩ := n0
  obtain ⟨p1, p2, p3, p4, _⟩ := h
  obtain ⟨⟨q0, q1, q2, q3, q4, q5, q6, q7, q8⟩, fz⟩ := box9 hr
  have f6 := fz 6
  clear r0 b0 m0 hr fz
  go_enter Tryz.func59, Tryz.ntmps59
  go_wp2_with fail
  have HO : Hid (∀ X, Below B W X → D5At X g o g2 o2 c2 a c) := HD.out
  go_loopw [40] (fun i wr => ∃ k : Nat, i = .int .i64 (k : Nat) ∧ k ≤ 1 ∧ (k = 0 → wr = W0) ∧ wr.heap[W.heap.size]? = W0.heap[W.heap.size]? ∧ Below B W wr) (fun i _ => 1 - (intOf i).toNat)
  case atStart => exact ⟨0, rfl, by omega, fun _ => rfl, rfl, HB.out⟩
  case round =>
    obtain ⟨k, rfl, hk, h0, hm, hb⟩ := hrel
    clear hW0
    obtain rfl | rfl : k = 0 ∨ k = 1 := by omega
    · obtain rfl := h0 rfl
      clear h0 hm hb
      go_wp2_with fail
      go_at_call 59
      refine (read_leaf HK.out HR.out hB hg2 (by omega)).mono ?_
      rintro e W1 ⟨rfl, r1, k1⟩
      have hm1 : Hid (W1.heap[W.heap.size]? = wr.heap[W.heap.size]?) := k1.block _ s0 (by omega)
      have hb1 : Hid (Below B W W1) := HB.out.trans (k1.below hB (Nat.le_trans (by omega) HB.out.size))
      clear r1 k1
      go_wp2_with fail
      go_at_call 92
      refine (hand_no _ _ _).mono ?_
      rintro e W2 ⟨rfl, b2⟩
      have hs1 := hb1.out.size
      go_wp2
      have hs0 : W.heap.size < W1.heap.size := (Array.getElem?_eq_some_iff.1 (hm1.out.trans HM.out)).1
      exact ⟨⟨1, by simp, by omega, fun h => absurd h (by decide), (b2.block _ hs0).trans hm1.out, hb1.out.trans (b2.mono (by omega))⟩, by simp [intOf]⟩
    · have HM1 : Hid _ := hm.trans HM.out
      have HB1 : Hid _ := hb
      obtain ⟨⟨c0, c1, c2, c3⟩, _⟩ := box4 HM1.out
      obtain ⟨d0, d1, d2, d3, _⟩ := HO.out wr hb
      clear h0 hm hb
      go_wp2
      refine bodyPost_ret (res_fd Tryz.results59 (box4_set _ _ _ _ HM1.out) rfl) rfl ⟨rfl, ?_⟩
      exact (((HB1.out.setCell (by show B ≤ W.heap.size; omega) _).setCell (by show B ≤ W.heap.size; omega) _).setCell (by show B ≤ W.heap.size; omega) _).setCell (by show B ≤ W.heap.size; omega) _
end
theorem rb_set5 {X : World} {x0 x1 x2 x3 x5 x7 x8 : Value} {rb k : Nat} (h : X.heap[rb]? = some (RBk x0 x1 x2 x3 x5 x7 x8 k)) (v : Value) : (X.setCell ⟨rb, 5, none⟩ v).heap[rb]? = some (RBk x0 x1 x2 x3 v x7 x8 k) := by
  unfold RBk at *
  simp [World.setCell, Array.getElem?_modify, h]
section
variable {W : World} {gm gs g o c cu cm cs ne ce nf cf : Nat} {au pe pf : Option Addr}
set_option maxRecDepth 100000 in
set_option maxHeartbeats 4000000 in
theorem each_d5 (h : LkAt W gm gs g o c au cu) {gi g2 o2 c2 ca : Nat} {a : Option Addr} (hi : D5At W gi 0 g2 o2 c2 a ca) : Calls Tryz.prog 34 #[lkV gm cm gs cs pe pf ne ce nf cf, .int .i64 0, .int .i64 0, .pointer (some ⟨gi, 0, none⟩), .func (.func 35) #[] #[]] W fun e w' => e = .returned (.tuple #[]) ∧ Below W.heap.size W w' := by
  have HH : Hid (∀ X, Below W.heap.size W X → LkAt X gm gs g o c au cu) := fun X b => h.bel b
  have hl := hi.lt
  have hl2 := hi.kid.lt
  have HD : Hid (∀ X, Below W.heap.size W X → D5At X gi 0 g2 o2 c2 a ca) := fun X b => hi.bel b hl hl2
  obtain ⟨l1, l2⟩ := h.lt
  obtain ⟨W3, hW3⟩ : ∃ X, (((W.alloc (.cells #[.slice (some ⟨gm, 0, none⟩) 1 cm, .slice (some ⟨gs, 0, none⟩) 1 cs, .slice pe ne ce, .slice pf nf cf] 43)).alloc (.map #[] 0)).alloc (.cells #[.slice (some ⟨gm, 0, none⟩) 1 cm, .slice (some ⟨gs, 0, none⟩) 1 cs, .slice pe ne ce, .slice pf nf cf, .int .i64 0, .slice none 0 0, .int .i64 0, .func (.func 35) #[] #[], .map (some (W.heap.size + 1))] 120)) = X := ⟨_, rfl⟩
  have b3 : Below W.heap.size W W3 := by rw [← hW3]; exact ((bel_a W _).alloc (by simp <;> omega) _).alloc (by simp <;> omega) _
  have s3 : W3.heap.size = W.heap.size + 3 := by rw [← hW3]; simp
  have ml : W3.heap[W.heap.size]? = some (.cells #[.slice (some ⟨gm, 0, none⟩) 1 cm, .slice (some ⟨gs, 0, none⟩) 1 cs, .slice pe ne ce, .slice pf nf cf] 43 (0, 0)) := by
    rw [← hW3]; exact hold _ (by simp <;> omega) (hold _ (by simp <;> omega) (hnew _ rfl))
  have mr : W3.heap[W.heap.size + 1 + 1]? = some (RBk (.slice (some ⟨gm, 0, none⟩) 1 cm) (.slice (some ⟨gs, 0, none⟩) 1 cs) (.slice pe ne ce) (.slice pf nf cf) (.slice none 0 0) (.func (.func 35) #[] #[]) (.map (some (W.heap.size + 1))) 0) := by
    rw [← hW3]; exact hnew _ (by simp)
  obtain ⟨g1, g2'⟩ := h.bel b3
  obtain ⟨⟨c0, c1, c2, c3⟩, _⟩ := box4 ml
  obtain ⟨⟨q0, q1, q2, q3, q4, q5, q6, q7, q8⟩, fz⟩ := box9 mr
  have f5 := fz 5
  have f6 := fz 6
  have HB : Hid _ := b3
  have HR : Hid _ := mr
  have HS : Hid (W3.heap.size = W.heap.size + 3) := s3
  have HW : Hid _ := hW3
  have CP := place_zero
  clear h hi b3 mr ml fz s3
  have hmm := @run_makeMap Tryz.prog
  go_enter Tryz.func34, Tryz.ntmps34
  go_wp2_with fail
  go_at_call 58
  refine (CP _ _).mono ?_
  rintro e W4 ⟨rfl, rfl⟩
  go_wp2_with fail
  go_at_call 59
  have b5 := (HB.out.setCell (p := ⟨W.heap.size + 1 + 1, 5, none⟩) (by show W.heap.size ≤ W.heap.size + 1 + 1; omega) (.slice au 0 cu)).setCell (p := ⟨W.heap.size + 1 + 1, 6, none⟩) (by show W.heap.size ≤ W.heap.size + 1 + 1; omega) (.int .i64 1)
  refine (read_d5 (HD.out _ b5) (rb_set (rb_set5 HR.out _)) (B := W.heap.size) (by omega) hl hl2).mono ?_
  rintro e W5 ⟨rfl, b6⟩
  go_wp2
  go_end0
  exact ⟨rfl, b5.trans b6⟩
end
end Go.Proofs.YtpnljjcdlkjfhaaGreatDoor
