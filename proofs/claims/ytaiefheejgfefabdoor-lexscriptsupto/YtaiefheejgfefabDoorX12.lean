/- Own text. The document's Show. -/
import Derived.Test.YtaiefheejgfefabDoorXC
import Derived.Lib.AppendStr
import Derived.Laws.IdiomStrings
import Derived.Laws.BytesArg
namespace Go.Proofs.YtaiefheejgfefabDoor
open Go.RowKit
set_option linter.unusedVariables false

/-- v is a list of tokens, wherever it lies: at each place the way to it, and what lies there. -/
def TAt (w : World) (v : Value) (ts : List (Tk × Int)) : Prop := ∃ A c, v = .slice A ts.length c ∧ ∀ k (hk : k < ts.length), ∃ bl of,
    (∀ W, (Instr.indexAt 22 (.slice A ts.length c) (.int .i64 (k : Int))).run Tryd.prog W = .ok (.pointer (some ⟨bl, of + k * 4, none⟩)) W) ∧ bl < w.heap.size ∧
    w.cell? ⟨bl, of + k * 4, none⟩ = some (.int .i64 ts[k].1.1) ∧ w.cell? ⟨bl, of + k * 4 + 1, none⟩ = some (.string ⟨ts[k].1.2.1.toArray⟩) ∧
    w.cell? ⟨bl, of + k * 4 + 2, none⟩ = some (.int .i64 ts[k].1.2.2) ∧ w.cell? ⟨bl, of + k * 4 + 3, none⟩ = some (.int .i64 ts[k].2)
theorem TAt.below {B : Nat} {w w' : World} {v : Value} {ts : List (Tk × Int)} (h : TAt w v ts) (hb : Below B w w') (hB : w.heap.size ≤ B) : TAt w' v ts := by
  obtain ⟨A, c, h1, h2⟩ := h
  refine ⟨A, c, h1, fun k hk => ?_⟩
  obtain ⟨bl, of, q1, q2, q3, q4, q5, q6⟩ := h2 k hk
  have hlt : bl < B := by omega
  have hs := hb.size
  exact ⟨bl, of, q1, by omega, (hb.cell (p := ⟨bl, _, none⟩) hlt).trans q3, (hb.cell (p := ⟨bl, _, none⟩) hlt).trans q4, (hb.cell (p := ⟨bl, _, none⟩) hlt).trans q5, (hb.cell (p := ⟨bl, _, none⟩) hlt).trans q6⟩
theorem idx_tok (W : World) (bl of n c k : Nat) (hk : k < n) : (Instr.indexAt 22 (.slice (some ⟨bl, of, none⟩) n c) (.int .i64 (k : Int))).run Tryd.prog W = .ok (.pointer (some ⟨bl, of + k * 4, none⟩)) W := by
  have h1 : (0 : Int) ≤ (k : Int) := by omega
  have h2 : (k : Int) < (n : Int) := by omega
  go_simp
theorem rowT_at (ts : List (Tk × Int)) : ∀ (k : Nat) (hk : k < ts.length), (rowT ts)[k * 4]? = some (.int .i64 ts[k].1.1) ∧ (rowT ts)[k * 4 + 1]? = some (.string ⟨ts[k].1.2.1.toArray⟩) ∧ (rowT ts)[k * 4 + 2]? = some (.int .i64 ts[k].1.2.2) ∧ (rowT ts)[k * 4 + 3]? = some (.int .i64 ts[k].2) := by
  induction ts with
  | nil => intro k hk; simp at hk
  | cons t ts ih =>
    intro k hk
    have e : rowT (t :: ts) = tokCells t ++ rowT ts := by simp [rowT]
    rw [e]
    cases k with
    | zero => exact ⟨rfl, rfl, rfl, rfl⟩
    | succ k =>
      have hl : (tokCells t).length = 4 := rfl
      have := ih k (by simpa using hk)
      have sh : ∀ j, (tokCells t ++ rowT ts)[(k + 1) * 4 + j]? = (rowT ts)[k * 4 + j]? := fun j => by
        rw [List.getElem?_append_right (by rw [hl]; omega), hl]
        congr 1
        omega
      simp only [List.getElem_cons_succ]
      refine ⟨?_, ?_, ?_, ?_⟩
      · have := sh 0; simp only [Nat.add_zero] at this; rw [this]; exact (ih k (by simpa using hk)).1
      · rw [sh 1]; exact (ih k (by simpa using hk)).2.1
      · rw [sh 2]; exact (ih k (by simpa using hk)).2.2.1
      · rw [sh 3]; exact (ih k (by simpa using hk)).2.2.2
theorem tat_row {w : World} {base : Nat} {v : Value} {ts : List (Tk × Int)} (h : ToksAt w base v ts) : TAt w v ts := by
  by_cases h0 : ts.length = 0
  · obtain ⟨A, c, rfl⟩ := rowForm h
    exact ⟨A, c, rfl, fun k hk => by omega⟩
  · obtain ⟨g, c, rfl, hgb, hnc⟩ := rowSome h (by omega)
    have hlt := (h.lt g rfl).2
    refine ⟨_, c, rfl, fun k hk => ⟨g, 0, fun W => idx_tok W g 0 _ c k hk, hlt, ?_⟩⟩
    obtain ⟨r1, r2, r3, r4⟩ := rowT_at ts k hk
    rw [Nat.zero_add]
    refine ⟨?_, ?_, ?_, ?_⟩
    · rw [h.cellAt _ (by omega)]; exact r1
    · rw [h.cellAt _ (by omega)]; exact r2
    · rw [h.cellAt _ (by omega)]; exact r3
    · rw [h.cellAt _ (by omega)]; exact r4

def cells8 (l : Bs) : List Value := l.map fun b => .int .u8 b.toNat
theorem cells8_app (a b : Bs) : cells8 (a ++ b) = cells8 a ++ cells8 b := by simp [cells8]
abbrev Out (w : World) (base : Nat) (v : Value) (l : Bs) : Prop := w.ownsRow base 5 1 v l.length (cells8 l)
theorem out_str {w : World} {base : Nat} {v : Value} {l : Bs} {q : ByteArray} (h : w.ownsRow base 5 1 v (l.length + q.size) (cells8 l ++ Lib.strCells q)) : Out w base v (l ++ q.data.toList) := by
  have e1 : (l ++ q.data.toList).length = l.length + q.size := by rw [Lib.size_eq]; simp
  have e2 : cells8 (l ++ q.data.toList) = cells8 l ++ Lib.strCells q := by rw [cells8_app]; rfl
  unfold Out
  rw [e1, e2]
  exact h
theorem out_one {w : World} {base : Nat} {v : Value} {l : Bs} (h : w.ownsRow base 5 1 v (l.length + 1) (cells8 l ++ [.int .u8 32])) : Out w base v (l ++ [32]) := by
  have e1 : (l ++ [(32 : UInt8)]).length = l.length + 1 := by simp
  have e2 : cells8 (l ++ [32]) = cells8 l ++ [.int .u8 32] := by rw [cells8_app]; rfl
  unfold Out
  rw [e1, e2]
  exact h
theorem joinB_snoc : ∀ (ss : List Bs) (s : Bs), ss ≠ [] → joinB (ss ++ [s]) = joinB ss ++ 32 :: s
  | [a], s, _ => rfl
  | a :: b :: r, s, _ => by
    have := joinB_snoc (b :: r) s (by simp)
    show a ++ 32 :: joinB ((b :: r) ++ [s]) = (a ++ 32 :: joinB (b :: r)) ++ 32 :: s
    rw [this]
    simp
theorem textsL_snoc : ∀ (ts : List Tk) (t : Tk), textsL (ts ++ [t]) = match textsL ts, textL t with
    | some ss, some s => some (ss ++ [s])
    | _, _ => none
  | [], t => by
    simp only [List.nil_append, textsL]
    cases textL t <;> rfl
  | u :: ts, t => by
    simp only [List.cons_append, textsL]
    cases textL u with
    | none => rfl
    | some s =>
      simp only
      rw [textsL_snoc ts t]
      cases textsL ts with
      | none => rfl
      | some ss => cases textL t <;> rfl
theorem textsL_none : ∀ (ts us : List Tk), textsL ts = none → textsL (ts ++ us) = none
  | [], us, h => by cases h
  | t :: ts, us, h => by
    simp only [List.cons_append, textsL] at h ⊢
    cases ht : textL t with
    | none => rfl
    | some s =>
      rw [ht] at h
      simp only at h ⊢
      cases hs : textsL ts with
      | none => rw [textsL_none ts us hs]
      | some ss => rw [hs] at h; cases h

theorem info_byte : (Tryd.prog.info? 5).map (fun i => (i.zero, i.size, i.bytes)) = some (some (.int .u8 0), 1, 1) := by kernel_rfl
def kindsI (ts : List (Tk × Int)) : List Tk := ts.map Prod.fst

end Go.Proofs.YtaiefheejgfefabDoor
