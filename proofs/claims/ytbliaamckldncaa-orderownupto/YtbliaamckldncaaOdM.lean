/- Own text. A walk by states, in memory; its steps. -/
import Derived.Test.YtbliaamckldncaaOdH
import Derived.ScopeJumps
import Derived.WalkMore
namespace Go.Proofs.Ytbliaamckldncaa
open Go.RowKit Gph
set_option linter.unusedVariables false
set_option linter.unusedSimpArgs false

/-- looked-at numbers in a block of their own. -/
abbrev Nl (w : World) (base g n : Nat) (L : List Nat) : Prop := w.ownsRow base 3 1 (.slice (some ⟨g, 0, none⟩) n n) n (ints (nI L))
theorem Nl.len {w : World} {base g n : Nat} {L : List Nat} (h : Nl w base g n L) : L.length = n := by have := h.1; simpa [ints, nI] using this
theorem Nl.lt {w : World} {base g n : Nat} {L : List Nat} (h : Nl w base g n L) : base ≤ g ∧ g < w.heap.size := World.ownsRow.lt h g rfl
theorem Nl.at {w : World} {base g n : Nat} {L : List Nat} (h : Nl w base g n L) {y : Nat} (hy : y < n) : w.cell? ⟨g, y, none⟩ = some (.int .i64 (lk L y : Nat)) ∧ w.frozen? ⟨g, y, none⟩ = false := by
  have hl := h.len
  refine ⟨?_, World.ownsRow.frozenAt h y⟩
  rw [World.ownsRow.cellAt h y (by omega)]
  unfold ints nI lk
  rw [List.getElem?_map, List.getElem?_map, List.getElem?_eq_getElem (by omega)]
  rfl
theorem Nl.put {w : World} {base g n : Nat} {L : List Nat} (h : Nl w base g n L) (y k : Nat) : Nl (w.setCell ⟨g, y, none⟩ (.int .i64 (k : Nat))) base g n (L.set y k) ∧ w.grownBy (w.setCell ⟨g, y, none⟩ (.int .i64 (k : Nat))) (some g) := by
  obtain ⟨h1, h2⟩ := World.ownsRow.stored h y (.int .i64 (k : Nat))
  refine ⟨?_, h2⟩
  unfold Nl ints nI
  rw [List.map_set, List.map_set]
  exact h1
/-- a walk's struct. -/
def Stt (w : World) (q : Nat) (ve : Value) (ge gl n : Nat) (at_ : Int) (vo vt : Value) : Prop := w.heap[q]? = some (.cells #[ve, .slice (some ⟨ge, 0, none⟩) n n, .slice (some ⟨gl, 0, none⟩) n n, .int .i64 at_, vo, vt] 57)
theorem Stt.cells {w : World} {q : Nat} {ve : Value} {ge gl n : Nat} {at_ : Int} {vo vt : Value} (h : Stt w q ve ge gl n at_ vo vt) : w.cell? ⟨q, 0, none⟩ = some ve ∧ w.cell? ⟨q, 1, none⟩ = some (.slice (some ⟨ge, 0, none⟩) n n) ∧ w.cell? ⟨q, 2, none⟩ = some (.slice (some ⟨gl, 0, none⟩) n n) ∧ w.cell? ⟨q, 3, none⟩ = some (.int .i64 at_) ∧ w.cell? ⟨q, 4, none⟩ = some vo ∧ w.cell? ⟨q, 5, none⟩ = some vt ∧ (∀ i, w.frozen? ⟨q, i, none⟩ = false) ∧ q < w.heap.size := by
  refine ⟨?_, ?_, ?_, ?_, ?_, ?_, fun i => frozen_of_row w _ i _ _ h, (Array.getElem?_eq_some_iff.1 h).1⟩
  · rw [cell_of_row w _ 0 _ _ _ h]; rfl
  · rw [cell_of_row w _ 1 _ _ _ h]; rfl
  · rw [cell_of_row w _ 2 _ _ _ h]; rfl
  · rw [cell_of_row w _ 3 _ _ _ h]; rfl
  · rw [cell_of_row w _ 4 _ _ _ h]; rfl
  · rw [cell_of_row w _ 5 _ _ _ h]; rfl
theorem Stt.set3 {w : World} {q : Nat} {ve : Value} {ge gl n : Nat} {at_ : Int} {vo vt : Value} (h : Stt w q ve ge gl n at_ vo vt) (x : Int) : Stt (w.setCell ⟨q, 3, none⟩ (.int .i64 x)) q ve ge gl n x vo vt := heap_setCell_same w q 3 _ _ _ h
theorem Stt.set4 {w : World} {q : Nat} {ve : Value} {ge gl n : Nat} {at_ : Int} {vo vt : Value} (h : Stt w q ve ge gl n at_ vo vt) (x : Value) : Stt (w.setCell ⟨q, 4, none⟩ x) q ve ge gl n at_ x vt := heap_setCell_same w q 4 _ _ _ h
theorem Stt.set5 {w : World} {q : Nat} {ve : Value} {ge gl n : Nat} {at_ : Int} {vo vt : Value} (h : Stt w q ve ge gl n at_ vo vt) (x : Value) : Stt (w.setCell ⟨q, 5, none⟩ x) q ve ge gl n at_ vo x := heap_setCell_same w q 5 _ _ _ h
/-- a walk in memory: all of it from block lo on, each list in a block of its own. -/
structure Wk (w : World) (lo q : Nat) (ve : Value) (ge gl n : Nat) (at_ : Int) (S : List Bool) (L op td : List Nat) (vo vt : Value) : Prop where
  s : Stt w q ve ge gl n at_ vo vt
  hq : lo ≤ q
  fe : Fl w lo ge n S
  fl : Nl w lo gl n L
  ho : Tl w lo vo op
  ht : Tl w lo vt td
  d1 : q ≠ ge
  d2 : q ≠ gl
  d3 : ge ≠ gl
  ao : ∀ b, vo.ownBlock = some b → b ≠ q ∧ b ≠ ge ∧ b ≠ gl ∧ vt.ownBlock ≠ some b
  at' : ∀ b, vt.ownBlock = some b → b ≠ q ∧ b ≠ ge ∧ b ≠ gl
theorem heap_set_ne {w : World} {g i k : Nat} {v : Value} (h : k ≠ g) : (w.setCell ⟨g, i, none⟩ v).heap[k]? = w.heap[k]? := Below.heap_setCell _ _ _ _ h
theorem Wk.setAt {w : World} {lo q : Nat} {ve : Value} {ge gl n : Nat} {at_ : Int} {S : List Bool} {L op td : List Nat} {vo vt : Value} (h : Wk w lo q ve ge gl n at_ S L op td vo vt) (x : Int) : Wk (w.setCell ⟨q, 3, none⟩ (.int .i64 x)) lo q ve ge gl n x S L op td vo vt :=
  ⟨h.s.set3 x, h.hq, row_keep h.fe fun b hb => heap_set_ne (by cases hb; exact fun e => h.d1 e.symm), row_keep h.fl fun b hb => heap_set_ne (by cases hb; exact fun e => h.d2 e.symm), row_keep h.ho fun b hb => heap_set_ne (h.ao b hb).1, row_keep h.ht fun b hb => heap_set_ne (h.at' b hb).1, h.d1, h.d2, h.d3, h.ao, h.at'⟩
theorem Wk.setOn {w : World} {lo q : Nat} {ve : Value} {ge gl n : Nat} {at_ : Int} {S : List Bool} {L op td : List Nat} {vo vt : Value} (h : Wk w lo q ve ge gl n at_ S L op td vo vt) (y : Nat) : Wk (w.setCell ⟨ge, y, none⟩ (.bool true)) lo q ve ge gl n at_ (S.set y true) L op td vo vt :=
  ⟨(heap_set_ne h.d1).trans h.s, h.hq, (h.fe.put y).1, row_keep h.fl fun b hb => heap_set_ne (by cases hb; exact fun e => h.d3 e.symm), row_keep h.ho fun b hb => heap_set_ne (h.ao b hb).2.1, row_keep h.ht fun b hb => heap_set_ne (h.at' b hb).2.1, h.d1, h.d2, h.d3, h.ao, h.at'⟩
theorem Wk.setLk {w : World} {lo q : Nat} {ve : Value} {ge gl n : Nat} {at_ : Int} {S : List Bool} {L op td : List Nat} {vo vt : Value} (h : Wk w lo q ve ge gl n at_ S L op td vo vt) (y k : Nat) : Wk (w.setCell ⟨gl, y, none⟩ (.int .i64 (k : Nat))) lo q ve ge gl n at_ S (L.set y k) op td vo vt :=
  ⟨(heap_set_ne h.d2).trans h.s, h.hq, row_keep h.fe fun b hb => heap_set_ne (by cases hb; exact h.d3), (h.fl.put y k).1, row_keep h.ho fun b hb => heap_set_ne (h.ao b hb).2.2.1, row_keep h.ht fun b hb => heap_set_ne (h.at' b hb).2.2, h.d1, h.d2, h.d3, h.ao, h.at'⟩
theorem Wk.alloc {w : World} {lo q : Nat} {ve : Value} {ge gl n : Nat} {at_ : Int} {S : List Bool} {L op td : List Nat} {vo vt : Value} (h : Wk w lo q ve ge gl n at_ S L op td vo vt) (o : Obj) : Wk (w.alloc o) lo q ve ge gl n at_ S L op td vo vt :=
  ⟨(Below.heap_alloc w o q h.s.cells.2.2.2.2.2.2.2).trans h.s, h.hq, World.ownsRow.alloc h.fe o, World.ownsRow.alloc h.fl o, World.ownsRow.alloc h.ho o, World.ownsRow.alloc h.ht o, h.d1, h.d2, h.d3, h.ao, h.at'⟩
/-- one more on the way. -/
theorem Wk.push {w w' : World} {lo q : Nat} {ve : Value} {ge gl n : Nat} {at_ : Int} {S : List Bool} {L op td : List Nat} {vo vt : Value} {x gg cap H : Nat} (h : Wk w lo q ve ge gl n at_ S L op td vo vt) (hH : w.heap.size = H)
    (ho : w'.ownsRow lo 3 1 (.slice (some ⟨gg, 0, none⟩) (op.length + 1) cap) (op.length + 1) (ints (nI op) ++ [.int .i64 (x : Nat)])) (hg : w.grownBy w' vo.ownBlock) (ha : vo.ownBlock = some gg ∨ gg = H) (hl : gg < w'.heap.size) :
    Wk (w'.setCell ⟨q, 4, none⟩ (.slice (some ⟨gg, 0, none⟩) (op.length + 1) cap)) lo q ve ge gl n at_ S L (op ++ [x]) td (.slice (some ⟨gg, 0, none⟩) (op.length + 1) cap) vt := by
  have hqs := h.s.cells.2.2.2.2.2.2.2
  have hel := h.fe.lt.2
  have hll := h.fl.lt.2
  have htl : ∀ b, vt.ownBlock = some b → b < w.heap.size := fun b hb => (World.ownsRow.lt h.ht b hb).2
  have ng : gg ≠ q ∧ gg ≠ ge ∧ gg ≠ gl ∧ vt.ownBlock ≠ some gg := by
    rcases ha with ha | ha
    · exact h.ao gg ha
    · exact ⟨by omega, by omega, by omega, fun k => by have := htl gg k; omega⟩
  have kq : w'.heap[q]? = w.heap[q]? := hg.block q hqs (fun e => (h.ao q e.symm).1 rfl)
  refine ⟨Stt.set4 (vo := vo) (kq.trans h.s) _, h.hq, row_keep (row_keep h.fe fun b hb => ?_) fun b hb => heap_set_ne ?_, row_keep (row_keep h.fl fun b hb => ?_) fun b hb => heap_set_ne ?_, row_keep (Tl.add ho) fun b hb => heap_set_ne ?_, row_keep (row_keep h.ht fun b hb => ?_) fun b hb => heap_set_ne (h.at' b hb).1, h.d1, h.d2, h.d3, fun b hb => ?_, h.at'⟩
  · cases hb; exact hg.block ge hel (fun e => (h.ao ge e.symm).2.1 rfl)
  · cases hb; exact fun e => h.d1 e.symm
  · cases hb; exact hg.block gl hll (fun e => (h.ao gl e.symm).2.2.1 rfl)
  · cases hb; exact fun e => h.d2 e.symm
  · cases hb; exact ng.1
  · exact hg.block b (htl b hb) (fun e => (h.ao b e.symm).2.2.2 hb)
  · cases hb; exact ng
/-- one more told. -/
theorem Wk.told {w w' : World} {lo q : Nat} {ve : Value} {ge gl n : Nat} {at_ : Int} {S : List Bool} {L op td : List Nat} {vo vt : Value} {x gg cap H : Nat} (h : Wk w lo q ve ge gl n at_ S L op td vo vt) (hH : w.heap.size = H)
    (ho : w'.ownsRow lo 3 1 (.slice (some ⟨gg, 0, none⟩) (td.length + 1) cap) (td.length + 1) (ints (nI td) ++ [.int .i64 (x : Nat)])) (hg : w.grownBy w' vt.ownBlock) (ha : vt.ownBlock = some gg ∨ gg = H) (hl : gg < w'.heap.size) :
    Wk (w'.setCell ⟨q, 5, none⟩ (.slice (some ⟨gg, 0, none⟩) (td.length + 1) cap)) lo q ve ge gl n at_ S L op (td ++ [x]) vo (.slice (some ⟨gg, 0, none⟩) (td.length + 1) cap) := by
  have hqs := h.s.cells.2.2.2.2.2.2.2
  have hel := h.fe.lt.2
  have hll := h.fl.lt.2
  have hol : ∀ b, vo.ownBlock = some b → b < w.heap.size := fun b hb => (World.ownsRow.lt h.ho b hb).2
  have ng : gg ≠ q ∧ gg ≠ ge ∧ gg ≠ gl := by
    rcases ha with ha | ha
    · exact h.at' gg ha
    · exact ⟨by omega, by omega, by omega⟩
  have no : ∀ b, vo.ownBlock = some b → gg ≠ b := fun b hb e => by
    subst e
    rcases ha with ha | ha
    · exact (h.ao gg hb).2.2.2 ha
    · have := hol gg hb; omega
  have kq : w'.heap[q]? = w.heap[q]? := hg.block q hqs (fun e => (h.at' q e.symm).1 rfl)
  refine ⟨Stt.set5 (vt := vt) (kq.trans h.s) _, h.hq, row_keep (row_keep h.fe fun b hb => ?_) fun b hb => heap_set_ne ?_, row_keep (row_keep h.fl fun b hb => ?_) fun b hb => heap_set_ne ?_, row_keep (row_keep h.ho fun b hb => ?_) fun b hb => heap_set_ne (h.ao b hb).1, row_keep (Tl.add ho) fun b hb => heap_set_ne ?_, h.d1, h.d2, h.d3, fun b hb => ?_, fun b hb => ?_⟩
  · cases hb; exact hg.block ge hel (fun e => (h.at' ge e.symm).2.1 rfl)
  · cases hb; exact fun e => h.d1 e.symm
  · cases hb; exact hg.block gl hll (fun e => (h.at' gl e.symm).2.2 rfl)
  · cases hb; exact fun e => h.d2 e.symm
  · exact hg.block b (hol b hb) (fun e => (h.ao b hb).2.2.2 e.symm)
  · cases hb; exact ng.1
  · have := h.ao b hb
    exact ⟨this.1, this.2.1, this.2.2.1, fun e => by cases e; exact no _ hb rfl⟩
  · cases hb; exact ng
/-- one less on the way. -/
theorem Wk.pop {w : World} {lo q : Nat} {ve : Value} {ge gl n : Nat} {at_ : Int} {S : List Bool} {L op td : List Nat} {vt : Value} {x gg cap : Nat} (h : Wk w lo q ve ge gl n at_ S L (op ++ [x]) td (.slice (some ⟨gg, 0, none⟩) (op.length + 1) cap) vt) :
    Wk (w.setCell ⟨q, 4, none⟩ (.slice (some ⟨gg, 0, none⟩) op.length cap)) lo q ve ge gl n at_ S L op td (.slice (some ⟨gg, 0, none⟩) op.length cap) vt := by
  have hT := h.ho
  have e : (op ++ [x]).length = op.length + 1 := by simp
  unfold Tl at hT
  rw [e] at hT
  have hc := row_cut hT (k := op.length) (by omega)
  have etk : (ints (nI (op ++ [x]))).take (op.length * 1) = ints (nI op) := by simp [ints, nI]
  rw [etk] at hc
  refine ⟨h.s.set4 _, h.hq, row_keep h.fe fun b hb => heap_set_ne (by cases hb; exact fun e => h.d1 e.symm), row_keep h.fl fun b hb => heap_set_ne (by cases hb; exact fun e => h.d2 e.symm), row_keep hc fun b hb => heap_set_ne (by cases hb; exact (h.ao gg rfl).1), row_keep h.ht fun b hb => heap_set_ne (h.at' b hb).1, h.d1, h.d2, h.d3, fun b hb => by cases hb; exact h.ao gg rfl, h.at'⟩

/-- a block that is none of the walk's. -/
def Fgn (w : World) (ga q ge gl : Nat) (vo vt : Value) : Prop := ga < w.heap.size ∧ ga ≠ q ∧ ga ≠ ge ∧ ga ≠ gl ∧ vo.ownBlock ≠ some ga ∧ vt.ownBlock ≠ some ga
theorem Wk.drew {w : World} {lo q : Nat} {ve : Value} {ge gl n : Nat} {at_ : Int} {S : List Bool} {L op td : List Nat} {vo vt : Value} (h : Wk w lo q ve ge gl n at_ S L op td vo vt) : Wk w.drew lo q ve ge gl n at_ S L op td vo vt :=
  ⟨h.s, h.hq, row_keep h.fe fun b hb => rfl, row_keep h.fl fun b hb => rfl, row_keep h.ho fun b hb => rfl, row_keep h.ht fun b hb => rfl, h.d1, h.d2, h.d3, h.ao, h.at'⟩
end Go.Proofs.Ytbliaamckldncaa
