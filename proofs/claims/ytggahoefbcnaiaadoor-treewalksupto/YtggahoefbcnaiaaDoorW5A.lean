/- Own text. What goes over a tree tells all places and trees: what the law's walk needs. -/
import Derived.Test.YtggahoefbcnaiaaDoorW3
import Derived.Test.YtggahoefbcnaiaaDoorW4B
import Derived.Test.YtggahoefbcnaiaaDoorW4C
import Derived.Test.YtggahoefbcnaiaaDoorW4D
import Derived.Test.YtggahoefbcnaiaaDoorT7
namespace Go.Proofs.YtggahoefbcnaiaaDoor.Walks
open Go.RowKit
set_option linter.unusedVariables false
set_option linter.unusedSimpArgs false

theorem flat_allS (x : Nd) (w : World) (S : Nat → Prop) (v : Value) (hx : LAt w S v x.ks) (zx : x.size ≤ 4194304) :
    Calls Tryd.prog 20 #[x.v v, .slice none 0 0] w fun e w' => ∃ bl c, e = .returned (.slice (some ⟨bl, 0, none⟩) x.flat.length c) ∧ bl < w'.heap.size ∧ (∀ k (hk : k < x.flat.length), ∃ a' c', Four w' bl (k * 4) x.flat[k] (.slice a' x.flat[k].ks.length c') ∧ LAt w' S (.slice a' x.flat[k].ks.length c') x.flat[k].ks) ∧ Below w.heap.size w w' := by
  have h := flat_any x w (fun b => S b ∧ b < w.heap.size) v (.slice none 0 0) [] w.heap.size 0 (hx.mono' (fun b hb hS => ⟨hS, hb⟩)) (fun b hb => hb.2) (Nat.le_refl _) (World.ownsRow_nil ..) (by omega)
  refine h.mono ?_
  rintro e w' ⟨vl', M, rfl, own, hM, hk', gr, hat⟩
  have bel : Below w.heap.size w w' := (Below.refl _ w).grown gr (Nat.le_refl _) (fun j hj => by cases hj)
  have hlen : M.length = x.flat.length := by rw [← hM]; simp
  have hsz : x.flat.length = x.size := x.flat_len
  have hpos := x.size_pos
  rw [List.nil_append, Nat.zero_add, ← hsz, ← hlen] at own
  rcases own.2 with ⟨_, h0⟩ | ⟨g, cap, cur, rfl, hb, hg, _, _, hcs, htk⟩
  · omega
  · refine ⟨g, cap, by rw [hlen], (Array.getElem?_eq_some_iff.1 hg).1, fun k hk => ?_, bel⟩
    have hkM : k < M.length := by omega
    have hMk : M[k].1 = x.flat[k] := by
      have : (M.map (·.1))[k]? = some x.flat[k] := by rw [hM]; exact List.getElem?_eq_getElem hk
      simpa [List.getElem?_eq_getElem hkM] using this
    have lk := ((hk' M[k] (List.getElem_mem hkM)).mono (fun b hb => hb.1)).bel bel
    rw [hMk] at lk
    obtain ⟨a', c', e2⟩ := lk.sl
    refine ⟨a', c', ?_, by rw [← e2]; exact lk⟩
    have hf := rowN_get M k hkM
    rw [← htk] at hf
    have g1 : ∀ j, j < M.length * 4 → (cur.toList.take (M.length * 4))[j]? = cur[j]? := fun j hj => by rw [List.getElem?_take_of_lt hj]; simp
    rw [g1 _ (by omega), g1 _ (by omega), g1 _ (by omega), g1 _ (by omega), hMk, e2] at hf
    have cc : ∀ j, w'.cell? ⟨g, j, none⟩ = cur[j]? := fun j => cell_of_row w' g _ _ _ _ hg
    exact ⟨(cc _).trans hf.1, (cc _).trans hf.2.1, (cc _).trans hf.2.2.1, (cc _).trans hf.2.2.2⟩
theorem nilcmp (B : Nat) (W : World) : (binOp BinOp.eql 38 (Value.func (Fn.func 40) #[] #[Value.pointer (some { block := B, off := 0 })]) Value.nilFunc).run Tryd.prog W = .ok (.bool false) W := by
  first
  | rfl
  | (simp [binOp, go_sem, Tryd.underlying38]; done)
/-- but for one block nothing has turned. -/
structure But (p : Nat) (w w' : World) : Prop where
  os : w'.os = w.os
  tape : w'.tape = w.tape
  output : w'.output = w.output
  size : w.heap.size ≤ w'.heap.size
  block : ∀ b, b < w.heap.size → b ≠ p → w'.heap[b]? = w.heap[b]?
theorem But.refl (p : Nat) (w : World) : But p w w := ⟨rfl, rfl, rfl, Nat.le_refl _, fun _ _ _ => rfl⟩
theorem But.bel {p : Nat} {a b c : World} (h : But p a b) (k : Below a.heap.size b c) : But p a c := ⟨k.os.trans h.os, k.tape.trans h.tape, k.output.trans h.output, Nat.le_trans h.size k.size, fun j hj hn => (k.block j hj).trans (h.block j hj hn)⟩
theorem But.set {p : Nat} {a b : World} (h : But p a b) (v : Value) : But p a (b.setCell ⟨p, 0, none⟩ v) := ⟨h.os, h.tape, h.output, by have := h.size; simpa [World.setCell] using this, fun j hj hn => (Below.heap_setCell _ _ _ _ (by simpa using hn)).trans (h.block j hj hn)⟩
theorem But.below {p n : Nat} {a b : World} (h : But p a b) (hp : n ≤ p) (hn : n ≤ a.heap.size) : Below n a b := ⟨h.os, h.tape, h.output, h.size, fun j hj => h.block j (by omega) (by omega)⟩
theorem But.then {p : Nat} {a b c : World} (h : But p a b) (hb : Below b.heap.size b c) : But p a c := h.bel (hb.mono h.size)
theorem Sep.opW {w : World} {S : Nat → Prop} {v : Value} {ks : List Nd} (h : Sep w S v ks) : ∃ (a : Option Addr) (bl : Nat), v = .slice a ks.length ks.length ∧ (0 < ks.length → a = some ⟨bl, 0, none⟩ ∧ S bl ∧ ∃ cur, w.heap[bl]? = some (.cells cur 24 (0, 0)) ∧ cur.size = ks.length * 4) := by
  cases h with
  | nil => exact ⟨none, 0, rfl, fun h => absurd h (Nat.lt_irrefl _)⟩
  | row _ bl ks f T cur hn hS hT hTb hd hg hcs h4 hk => exact ⟨_, bl, rfl, fun _ => ⟨rfl, hS, cur, hg, hcs⟩⟩
/-- a bool that is answered out of its cell. -/
theorem res_b {fn : Func} {p : Nat} (h : fn.results = #[.cell p 4]) {W : World} {n : Nat} {u : Value} {tmps : Array Value} (hb : ∃ t, W.heap[n]? = some (.cells #[u] t (0, 0))) (ht : tmps[p]?.getD undef = .pointer (some ⟨n, 0, none⟩)) : (results fn tmps).run Tryd.prog W = .ok u W := by
  obtain ⟨d0, _⟩ := box1 hb
  simp [results, h, go_sem, ht, d0]
/-- what lies there when the loops begin. -/
structure WS (V : World) (x : Nd) (leave : Int) (p3 p4 p5 p6 p7 bl cap B n0 nA : Nat) : Prop where
  e3 : ∃ t, V.heap[p3]? = some (.cells #[.int .i64 leave] t (0, 0))
  e4 : ∃ t, V.heap[p4]? = some (.cells #[.bool false] t (0, 0))
  e5 : ∃ t, V.heap[p5]? = some (.cells #[.slice (some ⟨bl, 0, none⟩) x.flat.length cap] t (0, 0))
  e6 : ∃ t, V.heap[p6]? = some (.cells #[.func (.func 40) #[] #[.pointer (some ⟨B, 0, none⟩)]] t (0, 0))
  fl : ∀ k (hk : k < x.flat.length), ∃ a c, Four V bl (k * 4) x.flat[k] (.slice a x.flat[k].ks.length c) ∧ LAt V (fun b => b < n0) (.slice a x.flat[k].ks.length c) x.flat[k].ks
  hN : NAt V (fun b => nA ≤ b ∧ b ≤ B) B 0 x
theorem WS.keep {V V' : World} {x : Nd} {leave : Int} {p3 p4 p5 p6 p7 bl cap B n0 nA : Nat} (h : WS V x leave p3 p4 p5 p6 p7 bl cap B n0 nA) (ho : p3 < p7 ∧ p4 < p7 ∧ p5 < p7 ∧ p6 < p7 ∧ bl < p7 ∧ B < p7 ∧ n0 ≤ p7) (hs : V.heap.size ≤ V'.heap.size) (hk : ∀ c, c < p7 → V'.heap[c]? = V.heap[c]?) : WS V' x leave p3 p4 p5 p6 p7 bl cap B n0 nA := by
  refine ⟨box1_of h.e3 (hk _ (by omega)), box1_of h.e4 (hk _ (by omega)), box1_of h.e5 (hk _ (by omega)), box1_of h.e6 (hk _ (by omega)), fun k hk' => ?_, h.hN.keep hs (fun c hc => hk c (by omega))⟩
  obtain ⟨a, c, h1, h2⟩ := h.fl k hk'
  exact ⟨a, c, h1.of_block (hk _ (by omega)), h2.keep hs (fun b hb _ => hk b (by have : b < n0 := hb; omega))⟩
end Go.Proofs.YtggahoefbcnaiaaDoor.Walks
