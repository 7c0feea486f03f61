/- Own text. A copy of a tree: the document's answer. -/
import Derived.Test.YtpnljjcdlkjfhaaGreatDoorRv01
import Derived.Deep.AppendLies
import Derived.Deep.RegionLaw
import Derived.RangeFuncNested
import Derived.Shelf.Abstract
set_option linter.unusedVariables false
namespace Go.Proofs.YtpnljjcdlkjfhaaGreatDoor
open Go.RowKit
theorem LAt.mono' {w : World} {S T : Nat → Prop} {v : Value} {ks : List Nd} (h : LAt w S v ks) (hT : ∀ b, b < w.heap.size → S b → T b) : LAt w T v ks := by
  induction h with
  | nil a c => exact .nil a c
  | row bl o c ks f hS hl h4 hk ih => exact .row bl o c ks f (hT bl hl hS) hl h4 ih
theorem LAt.grown {w w' : World} {S : Nat → Prop} {v : Value} {ks : List Nd} {row : Option Nat} (h : LAt w S v ks) (hg : w.grownBy w' row) (hr : ∀ b, S b → row ≠ some b) : LAt w' S v ks :=
  h.keep hg.size (fun b hb hl => hg.block b hl (fun e => hr b hb e.symm))
theorem LAt.sl {w : World} {S : Nat → Prop} {v : Value} {ks : List Nd} (h : LAt w S v ks) : ∃ a c, v = .slice a ks.length c := by
  obtain ⟨a, c, _, _, _, e, _⟩ := h.op
  exact ⟨a, c, e⟩

/-- the cells of trees, one behind the other; with each the list of its kids. -/
def rowN (L : List (Nd × Value)) : List Value := L.flatMap fun p => [.int .i64 p.1.k, .string p.1.t, .int .i64 p.1.n, p.2]
theorem rowN_nil : rowN [] = [] := rfl
theorem rowN_cons (p : Nd × Value) (L : List (Nd × Value)) : rowN (p :: L) = .int .i64 p.1.k :: .string p.1.t :: .int .i64 p.1.n :: p.2 :: rowN L := rfl
theorem rowN_append (L M : List (Nd × Value)) : rowN (L ++ M) = rowN L ++ rowN M := by simp [rowN]
theorem rowN_length : ∀ L : List (Nd × Value), (rowN L).length = L.length * 4
  | [] => rfl
  | x :: F => by rw [rowN_cons]; simp [rowN_length F]; omega
theorem rowN_get : ∀ (F : List (Nd × Value)) (i : Nat) (h : i < F.length), (rowN F)[i * 4]? = some (.int .i64 F[i].1.k) ∧ (rowN F)[i * 4 + 1]? = some (.string F[i].1.t) ∧ (rowN F)[i * 4 + 2]? = some (.int .i64 F[i].1.n) ∧ (rowN F)[i * 4 + 3]? = some F[i].2
  | x :: F, 0, _ => by simp [rowN_cons]
  | x :: F, i + 1, h => by
    have := rowN_get F i (by simpa using h)
    rw [rowN_cons, show (i + 1) * 4 = i * 4 + 1 + 1 + 1 + 1 by omega]
    simpa using this
/-- what a row of trees that is owned holds. -/
theorem lat_of_row {w : World} {S : Nat → Prop} {base : Nat} {v : Value} {L : List (Nd × Value)} (h : w.ownsRow base 51 4 v L.length (rowN L)) (hk : ∀ p ∈ L, LAt w S p.2 p.1.ks) (hS : ∀ g, v.ownBlock = some g → S g) : LAt w S v (L.map (·.1)) := by
  rcases h.2 with ⟨rfl, h0⟩ | ⟨g, cap, cur, rfl, hb, hg, _, _, hcs, htk⟩
  · rw [List.length_eq_zero_iff.1 h0]; exact .nil _ _
  · have key : ∀ i (hi : i < (L.map (·.1)).length), Four w g (0 + i * 4) (L.map (·.1))[i] ((L[i]?.map (·.2)).getD default) := fun i hi => by
      have hi' : i < L.length := by simpa using hi
      have hf := rowN_get L i hi'
      rw [← htk] at hf
      have g1 : ∀ j, j < L.length * 4 → (cur.toList.take (L.length * 4))[j]? = cur[j]? := fun j hj => by rw [List.getElem?_take_of_lt hj]; simp
      rw [g1 _ (by omega), g1 _ (by omega), g1 _ (by omega), g1 _ (by omega)] at hf
      have c : ∀ j, w.cell? ⟨g, j, none⟩ = cur[j]? := fun j => cell_of_row w g _ _ _ _ hg
      simp only [List.getElem_map, List.getElem?_eq_getElem hi', Option.map_some, Option.getD_some, Nat.zero_add]
      exact ⟨(c _).trans hf.1, (c _).trans hf.2.1, (c _).trans hf.2.2.1, (c _).trans hf.2.2.2⟩
    have e : L.length = (L.map (·.1)).length := by simp
    rw [e]
    refine .row g 0 cap _ _ (hS g rfl) (Array.getElem?_eq_some_iff.1 hg).1 key (fun i hi => ?_)
    have hi' : i < L.length := by simpa using hi
    have := hk L[i] (List.getElem_mem hi')
    simpa [List.getElem?_eq_getElem hi'] using this

def zeroN : Value := .agg #[.int .i64 0, .string ByteArray.empty, .int .i64 0, .slice none 0 0]
theorem info_nd : (Tryz.prog.info? 51).map (fun i => (i.zero, i.size, i.bytes)) = some (some zeroN, 4, 56) := by kernel_rfl

theorem hnew {w : World} (o : Obj) {k : Nat} (h : k = w.heap.size) : (w.alloc o).heap[k]? = some o := by subst h; exact heap_alloc_new w o
theorem hold {w : World} (o : Obj) {k : Nat} {u : Option Obj} (h : k < w.heap.size) (hu : w.heap[k]? = u) : (w.alloc o).heap[k]? = u := (Below.heap_alloc w o k h).trans hu
/-- a call of a function within a region that draws. -/
theorem step_call {P : Program} {ops : Array Oper} {o : Oper} {a : Act} {w : World} {K : Act → World → Prop} {Q : Exit → Act → World → Prop} {E : Prop} (hg : o.guard = none) (f : FuncId) (xs : Array Operand) (ts : Array TypeId)
    (hop : o.op = .call { callee := .value (.func f), args := xs, argTypes := ts }) (vals : Array Value) (hv : xs.map a.eval = vals) (hent : ∀ args w, (callFunc f args).run P w = .ok (.enter f args) w)
    {R : Ending → World → Prop} (hc : Calls P f vals w R) (h : ∀ e w', R e w' → ∃ v, e = .returned v ∧ K (a.put o.dst v) w') :
    if Region.wanted o (yielded ops a.tmps) = true then Oper.wp P o a w K Q else E := by
  have hw : Region.wanted o (yielded ops a.tmps) = true := by simp [Region.wanted, hg]
  rw [if_pos hw]
  unfold Oper.wp
  have e : (execOp a.eval o).run P w = .ok (.enter f vals) w := by
    subst hv
    simp [execOp, hop, resolve, invoke, go_sem, hent]
  rw [e, Oper.upon_enter]
  refine hc.mono fun e w' hr => ?_
  obtain ⟨v, rfl, hk⟩ := h e w' hr
  exact hk

theorem grow_bel {a b : World} (h : Below a.heap.size a b) : a.grownBy b none := ⟨h.os, h.tape, h.output, h.size, fun k hk _ => h.block k hk⟩
theorem row_bel {w w' : World} {base : Nat} {e : TypeId} {size : Nat} {v : Value} {n : Nat} {xs : List Value} (h : w.ownsRow base e size v n xs) (b : Below w.heap.size w w') : w'.ownsRow base e size v n xs :=
  h.kept (grow_bel b) (by cases v.ownBlock <;> simp)
/-- the same, argument by argument. -/
theorem step_call1 {P : Program} {ops : Array Oper} {o : Oper} {a : Act} {w : World} {K : Act → World → Prop} {Q : Exit → Act → World → Prop} {E : Prop} (hg : o.guard = none) (f : FuncId) (x1 : Operand) (ts : Array TypeId)
    (hop : o.op = .call { callee := .value (.func f), args := #[x1], argTypes := ts }) (v1 : Value) (h1 : a.eval x1 = v1) (hent : ∀ args w, (callFunc f args).run P w = .ok (.enter f args) w)
    {R : Ending → World → Prop} (hc : Calls P f #[v1] w R) (h : ∀ e w', R e w' → ∃ v, e = .returned v ∧ K (a.put o.dst v) w') :
    if Region.wanted o (yielded ops a.tmps) = true then Oper.wp P o a w K Q else E := step_call hg f #[x1] ts hop #[v1] (by simp [h1]) hent hc h
theorem step_call2 {P : Program} {ops : Array Oper} {o : Oper} {a : Act} {w : World} {K : Act → World → Prop} {Q : Exit → Act → World → Prop} {E : Prop} (hg : o.guard = none) (f : FuncId) (x1 x2 : Operand) (ts : Array TypeId)
    (hop : o.op = .call { callee := .value (.func f), args := #[x1, x2], argTypes := ts }) (v1 v2 : Value) (h1 : a.eval x1 = v1) (h2 : a.eval x2 = v2) (hent : ∀ args w, (callFunc f args).run P w = .ok (.enter f args) w)
    {R : Ending → World → Prop} (hc : Calls P f #[v1, v2] w R) (h : ∀ e w', R e w' → ∃ v, e = .returned v ∧ K (a.put o.dst v) w') :
    if Region.wanted o (yielded ops a.tmps) = true then Oper.wp P o a w K Q else E := step_call hg f #[x1, x2] ts hop #[v1, v2] (by simp [h1, h2]) hent hc h
theorem step_call3 {P : Program} {ops : Array Oper} {o : Oper} {a : Act} {w : World} {K : Act → World → Prop} {Q : Exit → Act → World → Prop} {E : Prop} (hg : o.guard = none) (f : FuncId) (x1 x2 x3 : Operand) (ts : Array TypeId)
    (hop : o.op = .call { callee := .value (.func f), args := #[x1, x2, x3], argTypes := ts }) (v1 v2 v3 : Value) (h1 : a.eval x1 = v1) (h2 : a.eval x2 = v2) (h3 : a.eval x3 = v3) (hent : ∀ args w, (callFunc f args).run P w = .ok (.enter f args) w)
    {R : Ending → World → Prop} (hc : Calls P f #[v1, v2, v3] w R) (h : ∀ e w', R e w' → ∃ v, e = .returned v ∧ K (a.put o.dst v) w') :
    if Region.wanted o (yielded ops a.tmps) = true then Oper.wp P o a w K Q else E := step_call hg f #[x1, x2, x3] ts hop #[v1, v2, v3] (by simp [h1, h2, h3]) hent hc h

theorem row_lt {w : World} {base : Nat} {e : TypeId} {size : Nat} {v : Value} {n : Nat} {xs : List Value} (h : w.ownsRow base e size v n xs) : ∀ g, v.ownBlock = some g → base ≤ g ∧ g < w.heap.size := by
  rcases h.2 with ⟨rfl, h0⟩ | ⟨g, cap, cur, rfl, hb, hg, _⟩
  · intro g hg; cases hg
  · intro g' hg'; cases hg'; exact ⟨hb, (Array.getElem?_eq_some_iff.1 hg).1⟩
/-- a block of four cells. -/
theorem box4 {w : World} {b : Nat} {p q r s : Value} {t : TypeId} (h : w.heap[b]? = some (.cells #[p, q, r, s] t (0, 0))) :
    (w.cell? ⟨b, 0, none⟩ = some p ∧ w.cell? ⟨b, 1, none⟩ = some q ∧ w.cell? ⟨b, 2, none⟩ = some r ∧ w.cell? ⟨b, 3, none⟩ = some s) ∧ (w.frozen? ⟨b, 0, none⟩ = false ∧ w.frozen? ⟨b, 1, none⟩ = false ∧ w.frozen? ⟨b, 2, none⟩ = false ∧ w.frozen? ⟨b, 3, none⟩ = false) := by
  simp [World.cell?, World.frozen?, h]
theorem box4_set3 {w : World} {b : Nat} {p q r s : Value} {t : TypeId} {fr : Nat × Nat} (u : Value) (h : w.heap[b]? = some (.cells #[p, q, r, s] t fr)) : (w.setCell ⟨b, 3, none⟩ u).heap[b]? = some (.cells #[p, q, r, u] t fr) := by
  simp [World.setCell, Array.getElem?_modify, h]

theorem box4_set {w : World} {b : Nat} {p q r s : Value} {t : TypeId} {fr : Nat × Nat} (p' q' r' s' : Value) (h : w.heap[b]? = some (.cells #[p, q, r, s] t fr)) :
    ((((w.setCell ⟨b, 0, none⟩ p').setCell ⟨b, 1, none⟩ q').setCell ⟨b, 2, none⟩ r').setCell ⟨b, 3, none⟩ s').heap[b]? = some (.cells #[p', q', r', s'] t fr) := by
  simp [World.setCell, Array.getElem?_modify, h]
/-- a tree that is answered out of its cell. -/
theorem res_nd {fn : Func} {p : Nat} (h : fn.results = #[.cell p 51]) {W : World} {n : Nat} {a b c d : Value} {t : TypeId} {tmps : Array Value} (hb : W.heap[n]? = some (.cells #[a, b, c, d] t (0, 0))) (ht : tmps[p]?.getD undef = .pointer (some ⟨n, 0, none⟩)) :
    (results fn tmps).run Tryz.prog W = .ok (.agg #[a, b, c, d]) W := by
  obtain ⟨⟨c0, c1, c2, c3⟩, _⟩ := box4 hb
  simp [results, h, go_sem, ht, c0, c1, c2, c3]
/-- a list of trees that is being made: its own row, and its trees' lists elsewhere. -/
structure Grow (B : Nat) (w : World) (v : Value) (L : List (Nd × Value)) (k : Nat) : Prop where
  own : w.ownsRow B 51 4 v k (rowN L)
  kids : ∀ p ∈ L, LAt w (fun b => B ≤ b ∧ v.ownBlock ≠ some b) p.2 p.1.ks
theorem Grow.nil (B : Nat) (w : World) : Grow B w (.slice none 0 0) [] 0 := ⟨World.ownsRow_nil _ _ _ _, by simp⟩
theorem Grow.bel {B : Nat} {w w' : World} {v : Value} {L : List (Nd × Value)} {k : Nat} (h : Grow B w v L k) (b : Below w.heap.size w w') : Grow B w' v L k :=
  ⟨row_bel h.own b, fun p hp => (h.kids p hp).bel b⟩
theorem Grow.push {B k gg cap : Nat} {w W1 W3 : World} {v v1 : Value} {L : List (Nd × Value)} {x : Nd} {o : Obj} (h : Grow B w v L k) (hB : B ≤ w.heap.size) (b : Below w.heap.size w W1) (l1 : LAt W1 (fun b => w.heap.size ≤ b) v1 x.ks)
    (hg : (W1.alloc o).grownBy W3 v.ownBlock) (hat : v.ownBlock = some gg ∨ gg = W1.heap.size + 1) (hown : W3.ownsRow B 51 4 (.slice (some ⟨gg, 0, none⟩) (k + 1) cap) (k + 1) (rowN L ++ [.int .i64 x.k, .string x.t, .int .i64 x.n, v1])) {p : Addr} (hp : p.block < B) (u : Value) :
    Grow B (W3.setCell p u) (.slice (some ⟨gg, 0, none⟩) (k + 1) cap) (L ++ [(x, v1)]) (k + 1) := by
  have hs := b.size
  have hs3 : W1.heap.size + 1 ≤ W3.heap.size := by have := hg.size; simpa using this
  have hz : (W3.setCell p u).heap.size = W3.heap.size := by simp [World.setCell]
  have olt := row_lt h.own
  have blk : ∀ j, B ≤ j → j < W1.heap.size → v.ownBlock ≠ some j → (W3.setCell p u).heap[j]? = W1.heap[j]? := fun j h1 h2 h3 =>
    (Below.heap_setCell _ _ _ _ (by omega)).trans ((hg.block j (by simp; omega) (fun e => h3 e.symm)).trans (Below.heap_alloc _ _ _ h2))
  refine ⟨ownsRow_setCell_below (by rw [rowN_append]; exact hown) hp u, fun q hq => ?_⟩
  rcases List.mem_append.1 hq with hq | hq
  · have h1 : LAt w (fun b => (B ≤ b ∧ v.ownBlock ≠ some b) ∧ gg ≠ b) q.2 q.1.ks := (h.kids q hq).mono' (fun j hj hS => ⟨hS, fun e => by
      subst e
      rcases hat with e | e
      · exact hS.2 e
      · omega⟩)
    exact (h1.keep (by omega) (fun j hj hl => (blk j hj.1.1 (by omega) hj.1.2).trans (b.block j hl))).mono (fun j hj => ⟨hj.1.1, fun e => hj.2 (by cases e; rfl)⟩)
  · obtain rfl : q = (x, v1) := by simpa using hq
    have h1 : LAt W1 (fun b => w.heap.size ≤ b ∧ b < W1.heap.size) v1 x.ks := l1.mono' (fun j hj hS => ⟨hS, hj⟩)
    have ne : ∀ j, w.heap.size ≤ j → v.ownBlock ≠ some j := fun j hj e => by have := (olt j e).2; omega
    exact (h1.keep (by omega) (fun j hj hl => blk j (by omega) hl (ne j hj.1))).mono (fun j hj => ⟨by omega, fun e => by
      obtain rfl : gg = j := by simpa [Value.ownBlock] using e
      have h1 := hj.1
      have h2 := hj.2
      rcases hat with e | e
      · exact ne gg h1 e
      · omega⟩)
theorem Grow.lat {B k : Nat} {w : World} {v : Value} {L : List (Nd × Value)} {ks : List Nd} (h : Grow B w v L k) (e : L.map (·.1) = ks) : LAt w (fun b => B ≤ b) v ks := by
  subst e
  have hl : L.length = k := by have h1 := h.own.1; have h2 := rowN_length L; omega
  have own := h.own
  rw [← hl] at own
  exact lat_of_row own (fun p hp => (h.kids p hp).mono (fun b hb => hb.1)) (fun g hg => (row_lt own g hg).1)

end Go.Proofs.YtpnljjcdlkjfhaaGreatDoor
