/- Own text. The contract of Slice of package runes, where something lies between the places. The contract of Slice of package runes for all places. The contract of the document's Unquote: it says what the reader, rune by rune, says. The document's next token. The document's next token: numbers, texts. The document's next token: signs, and all together. The document's reader of blanks and notes. All tokens: how many bytes a token has; the list unfolds. The document's Lex. The program's package-level tables as they stand; its blanks, lines and notes. -/
import Derived.Test.YtfehmdfamndcaaaGreatDoorGm08
import Derived.Test.YtfehmdfamndcaaaGreatDoorGm11
import Derived.Deep.QuietTactic
import Derived.BigQuiet
import Derived.WalkSmall
import Derived.Test.YtfehmdfamndcaaaGreatDoorGm10
import Derived.Deep.RegionHeld3
import Derived.Maps.AppendAt
import Derived.Test.YtfehmdfamndcaaaGreatDoorShelf
import Derived.Lib.Index
import Derived.Shelf.Unicode.DecodeSlow
import Derived.Lib.LaidTab
namespace Go.Proofs.YtfehmdfamndcaaaGreatDoor
open Go.RowKit

/-- Where the part begins, as far as n runes have been seen. -/
def bgn (xs : Rns) (a size n : Nat) : Nat := if n ≤ a then size else offs xs a
theorem bgn_lo (xs : Rns) (a size n : Nat) (h : n ≤ a) : bgn xs a size n = size := by rw [bgn, if_pos h]
theorem bgn_hi (xs : Rns) (a size n : Nat) (h : a < n) : bgn xs a size n = offs xs a := by rw [bgn, if_neg (by omega)]
theorem bgn_step (xs : Rns) (a size n : Nat) (h : n ≠ a) : bgn xs a size (n + 1) = bgn xs a size n := by
  unfold bgn
  by_cases h1 : n ≤ a
  · rw [if_pos h1, if_pos (by omega)]
  · rw [if_neg h1, if_neg (by omega)]

/-- What a rune at hand says of the runes behind it. -/
theorem drop_facts (s : ByteArray) (n pos : Nat) (hp : pos < s.size) (h : scan (s.data.toList.drop pos) = (scan s.data.toList).drop n) (ho : pos = offs (scan s.data.toList) n) :
    n < (scan s.data.toList).length ∧ scan (s.data.toList.drop (pos + (decL (s.data.toList.drop pos)).2)) = (scan s.data.toList).drop (n + 1) ∧ pos + (decL (s.data.toList.drop pos)).2 = offs (scan s.data.toList) (n + 1) := by
  have hw := width_le s pos hp
  rw [scan_drop s pos hp] at h
  have hn : n < (scan s.data.toList).length := by
    refine Decidable.byContradiction fun hn => ?_
    have e : (scan s.data.toList).drop n = [] := List.drop_of_length_le (by omega)
    rw [e] at h
    exact absurd h (by simp)
  have hd := List.drop_eq_getElem_cons hn
  rw [hd] at h
  injection h with h1 h2
  refine ⟨hn, h2, ?_⟩
  rw [offs_succ _ n hn, ← ho, ← h1]
  simp only [List.length_take, List.length_drop, ← Lib.size_eq]
  omega

theorem extract_list (s : ByteArray) (a b : Nat) : s.extract a b = ⟨((s.data.toList.take b).drop a).toArray⟩ := by
  apply ByteArray.ext
  apply Array.ext'
  simp [ByteArray.data_extract]
  exact List.drop_take.symm
theorem part_extract (s : ByteArray) (a b : Nat) (h : a ≤ b) : s.extract (offs (scan s.data.toList) a) (offs (scan s.data.toList) b) = ⟨(part (scan s.data.toList) a b).toArray⟩ := by
  rw [extract_list, ← part_bytes _ a b h, scan_bytes]
theorem cloneS_any (s : ByteArray) (w : World) (hs : s.size ≤ 281474976710656) : Calls Tryz.prog 13 #[.string s] w fun e w' => e = .returned (.string s) ∧ Below w.heap.size w w' := by
  go_enter Tryz.func13, Tryz.ntmps13
  go_wp2_with (go_at_call 20; refine (Tryz.stringslite_Clone s _ hs).mono ?_; rintro e w' ⟨rfl, hb⟩)
  go_ret
  exact ⟨rfl, hb⟩

end Go.Proofs.YtfehmdfamndcaaaGreatDoor
namespace Go.Proofs.YtfehmdfamndcaaaGreatDoor
open Go.RowKit

def sliceZ (l : List UInt8) (f t : Int) : List UInt8 := part (scan l) (max f 0).toNat t.toNat

theorem ba_of_list {o : ByteArray} {l : List UInt8} (h : o.data.toList = l) : o = ⟨l.toArray⟩ := by
  subst h
  cases o
  simp
theorem part_le (xs : Rns) (a b : Nat) : (part xs a b).length ≤ (bytesOf xs).length := by
  have e : bytesOf xs = bytesOf (xs.take b) ++ bytesOf (xs.drop b) := by rw [← bytesOf_append, List.take_append_drop]
  have e2 : bytesOf (xs.take b) = bytesOf ((xs.take b).take a) ++ part xs a b := by rw [part, ← bytesOf_append, List.take_append_drop]
  rw [e, e2]
  simp only [List.length_append]
  omega
theorem bytesOf_take_le (xs : Rns) (k : Nat) : (bytesOf (xs.take k)).length ≤ (bytesOf xs).length := by
  have e : bytesOf xs = bytesOf (xs.take k) ++ bytesOf (xs.drop k) := by rw [← bytesOf_append, List.take_append_drop]
  rw [e, List.length_append]
  omega
theorem bytesOf_mem_le (xs : Rns) (k : Nat) (h : k < xs.length) : (xs[k]).2.length ≤ (bytesOf xs).length := by
  have h1 := offs_succ xs k h
  have h2 := bytesOf_take_le xs (k + 1)
  unfold offs at h1
  omega
end Go.Proofs.YtfehmdfamndcaaaGreatDoor
namespace Go.Proofs.YtfehmdfamndcaaaGreatDoor
open Go.RowKit

/-- What is carried from round to round: so far what has been said, and where. -/
def UnqAt2 (w : World) (L : List UInt8) (N : Nat) (q : Nat) (wr : World) (i : Nat) (v : Value) : Prop :=
  ∃ u : Unq, wr.ownsRowF w.heap.size 5 1 v u.said.length (Lib.byteCells u.said) ∧ Below w.heap.size w wr ∧ unqS (scan (L.drop i)) u i = unquoteL L ∧ u.st = 1 ∧ u.q = (q : Int) ∧ 1 ≤ i ∧ i ≤ N ∧ u.said.length ≤ i

theorem dec_low (l : List UInt8) (h : atL l 0 < 128) : decL l = (atL l 0, 1) := by rw [decL, if_pos h]

theorem slice_run (s : ByteArray) (i n : Nat) (h : i + n ≤ s.size) (W : World) : (Instr.slice 9 (.string s) (some (.int .i64 (i : Int))) (some (.int .i64 ((i : Int) + (n : Int)))) none).run Tryz.prog W = .ok (.string (s.extract i (i + n))) W := by
  rw [run_slice_string W _ _ _ _ _ _ Tryz.underlying9 (by omega) (by omega) (by omega)]
  have e1 : ((i : Int)).toNat = i := by omega
  have e2 : ((i : Int) + (n : Int)).toNat = i + n := by omega
  rw [e1, e2]
theorem unq2_mk {w W3 : World} {L : List UInt8} {N q i : Nat} {v' : Value} {u u' : Unq} {tb : ByteArray} (hown : W3.ownsRowF w.heap.size 5 1 v' (u.said.length + tb.size) (Lib.byteCells u.said ++ Lib.strCells tb)) (hb : Below w.heap.size w W3)
    (hun : unqS (scan (L.drop i)) u' i = unquoteL L) (hst : u'.st = 1) (huq : u'.q = (q : Int)) (h1 : 1 ≤ i) (hN : i ≤ N) (hsaid : u'.said = u.said ++ tb.data.toList) (hlen : u.said.length + tb.size ≤ i) : UnqAt2 w L N q W3 i v' := by
  have hl : u'.said.length = u.said.length + tb.size := by rw [hsaid, List.length_append, ← Lib.size_eq]
  refine ⟨u', ?_, hb, hun, hst, huq, h1, hN, by omega⟩
  rw [hl, hsaid, Lib.byteCells_append, ← Lib.strCells_eq]
  exact hown

end Go.Proofs.YtfehmdfamndcaaaGreatDoor
namespace Go.Proofs.YtfehmdfamndcaaaGreatDoor
open Go.RowKit
set_option linter.unusedVariables false

def tokV (t : Tk) (a : Int) : Value := .agg #[.int .i64 t.1, .string ⟨t.2.1.toArray⟩, .int .i64 t.2.2, .int .i64 a]

theorem four_of {W1 : World} {n : Nat} {a b c d : Value} {t : TypeId} (hb : W1.heap[n]? = some (.cells #[a, b, c, d] t)) :
    (W1.cell? ⟨n, 0, none⟩ = some a ∧ W1.cell? ⟨n, 1, none⟩ = some b ∧ W1.cell? ⟨n, 2, none⟩ = some c ∧ W1.cell? ⟨n, 3, none⟩ = some d) ∧
    (W1.frozen? ⟨n, 0, none⟩ = false ∧ W1.frozen? ⟨n, 1, none⟩ = false ∧ W1.frozen? ⟨n, 2, none⟩ = false ∧ W1.frozen? ⟨n, 3, none⟩ = false) := by
  refine ⟨⟨?_, ?_, ?_, ?_⟩, ?_, ?_, ?_, ?_⟩
  · rw [cell_of_row W1 _ 0 _ _ _ hb]; rfl
  · rw [cell_of_row W1 _ 1 _ _ _ hb]; rfl
  · rw [cell_of_row W1 _ 2 _ _ _ hb]; rfl
  · rw [cell_of_row W1 _ 3 _ _ _ hb]; rfl
  · exact frozen_of_row W1 _ 0 _ _ hb
  · exact frozen_of_row W1 _ 1 _ _ hb
  · exact frozen_of_row W1 _ 2 _ _ hb
  · exact frozen_of_row W1 _ 3 _ _ hb
theorem four_set {W : World} {n : Nat} {a b c d x y z u : Value} {t : TypeId} (hb : W.heap[n]? = some (.cells #[a, b, c, d] t)) :
    ((((W.setCell ⟨n, 0, none⟩ x).setCell ⟨n, 1, none⟩ y).setCell ⟨n, 2, none⟩ z).setCell ⟨n, 3, none⟩ u).heap[n]? = some (.cells #[x, y, z, u] t) := by
  have h1 := heap_setCell_same W n 0 _ t x hb
  have h2 := heap_setCell_same _ n 1 _ t y h1
  have h3 := heap_setCell_same _ n 2 _ t z h2
  have h4 := heap_setCell_same _ n 3 _ t u h3
  exact h4
theorem four_below {B : Nat} {w W : World} {n : Nat} {x y z u : Value} (hb : Below B w W) (hn : B ≤ n) : Below B w ((((W.setCell ⟨n, 0, none⟩ x).setCell ⟨n, 1, none⟩ y).setCell ⟨n, 2, none⟩ z).setCell ⟨n, 3, none⟩ u) :=
  (((hb.setCell hn _).setCell hn _).setCell hn _).setCell hn _
theorem four_new {w W1 : World} {o : Obj} (hb : Below (w.alloc o).heap.size (w.alloc o) W1) : W1.heap[w.heap.size]? = some o := by
  rw [hb.block _ (by simp)]
  exact heap_alloc_new w o
theorem cut_list (s : ByteArray) (k : Nat) : s.extract 0 k = ⟨(s.data.toList.take k).toArray⟩ := by
  apply ByteArray.ext
  apply Array.toList_inj.1
  rw [ByteArray.data_extract, Array.toList_extract, List.extract_eq_take_drop]
  simp

end Go.Proofs.YtfehmdfamndcaaaGreatDoor
namespace Go.Proofs.YtfehmdfamndcaaaGreatDoor
open Go.RowKit
set_option linter.unusedVariables false

def nextRes (n : Nx) (e : Ending) : Prop := match n with
  | .ok x => e = .returned (.tuple #[tokV x.1 0, .int .i64 (x.2 : Nat), .int .i64 0])
  | .error c => ∃ t : Tk, e = .returned (.tuple #[tokV t 0, .int .i64 0, .int .i64 (c : Nat)])

theorem sign_at {l : Bs} {g : Bs} : g.isPrefixOf l = (decide (g.length ≤ l.length) && (l.take g.length == g)) := by
  rw [Bool.eq_iff_iff, List.isPrefixOf_iff_prefix]
  simp only [Bool.and_eq_true, decide_eq_true_eq, beq_iff_eq]
  constructor
  · rintro ⟨t, ht⟩
    rw [← ht]
    simp
  · rintro ⟨h1, h2⟩
    exact ⟨l.drop g.length, by conv => lhs; lhs; rw [← h2]
                               exact List.take_append_drop _ _⟩
theorem find_step {α : Type} {p : α → Bool} {l : List α} {k : Nat} {x : α} (hk : l[k]? = some x) (h : ∀ y ∈ l.take k, p y = false) (hx : p x = true) : l.find? p = some x := by
  induction l generalizing k with
  | nil => simp at hk
  | cons y r ih =>
    cases k with
    | zero =>
      have : y = x := by simpa using hk
      subst this
      simp [hx]
    | succ k =>
      have h0 := h y (by simp)
      simp only [List.find?_cons, h0]
      exact ih (by simpa using hk) (fun z hz => h z (by simp [hz]))
theorem find_none {α : Type} {p : α → Bool} {l : List α} (h : ∀ y ∈ l, p y = false) : l.find? p = none := by
  rw [List.find?_eq_none]
  intro y hy
  simp [h y hy]

end Go.Proofs.YtfehmdfamndcaaaGreatDoor
namespace Go.Proofs.YtfehmdfamndcaaaGreatDoor
open Go.RowKit
set_option linter.unusedVariables false

theorem same_row {w w' : World} {base : Nat} {e : TypeId} {size : Nat} {v : Value} {n : Nat} {xs : List Value} (h : w.ownsRow base e size v n xs) (hh : w'.heap = w.heap) : w'.ownsRow base e size v n xs := by
  unfold World.ownsRow at *
  rw [hh]
  exact h
theorem row_eq {W : World} {n m : Nat} {e : TypeId} {k c : Nat} {xs : List Value} (ho : W.ownsRow n e 1 (.slice (some ⟨n, 0, none⟩) k c) k xs) (h : n = m) : W.ownsRow m e 1 (.slice (some ⟨m, 0, none⟩) k c) k xs := h ▸ ho
theorem heap_at {W W' : World} {n : Nat} {o : Obj} (h : W'.heap = W.heap) (hb : W.heap[n]? = some o) : W'.heap[n]? = some o := by rw [h]; exact hb
theorem drewN_below4 (w : World) (n : Nat) : Below w.heap.size w (w.drewN n) := ⟨rfl, rfl, rfl, Nat.le_refl _, fun _ _ => rfl⟩

end Go.Proofs.YtfehmdfamndcaaaGreatDoor
namespace Go.Proofs.YtfehmdfamndcaaaGreatDoor
open Go.RowKit
set_option linter.unusedVariables false

theorem ret_ib2 {k : IntKind} {a c : Int} {b d : Bool} (h : a = c) (h2 : b = d) : Ending.returned (.tuple #[.int k a, .bool b]) = .returned (.tuple #[.int k c, .bool d]) := by rw [h, h2]

end Go.Proofs.YtfehmdfamndcaaaGreatDoor
namespace Go.Proofs.YtfehmdfamndcaaaGreatDoor
set_option linter.unusedVariables false

theorem unqS_len : ∀ (m : Nat) (l : Bs) (u : Unq) (pos : Nat) (t : Bs) (n : Nat), l.length ≤ m → unqS (scan l) u pos = some (t, n) → pos + 1 ≤ n ∧ n ≤ pos + l.length
  | m, [], u, pos, t, n, _, h => by rw [scan_nil] at h; cases h
  | 0, c :: r, u, pos, t, n, hm, h => by simp at hm
  | m + 1, c :: r, u, pos, t, n, hm, h => by
    have hne : (c :: r) ≠ [] := by simp
    have hw := decL_width (c :: r)
    have hle := decL_le (c :: r) hne
    cases hs : strayL (c :: r)
    · cases hu : stepU u (decL (c :: r)).1 with
      | none => rw [unqS_none _ hne hs u pos hu] at h; cases h
      | some u' =>
        by_cases h5 : u'.st = 5
        · rw [unqS_end _ hne hs u u' pos hu h5] at h
          cases h
          exact ⟨Nat.le_refl _, by simp⟩
        · rw [unqS_more _ hne hs u u' pos hu h5] at h
          have ih := unqS_len m _ u' _ t n (by simp only [List.length_drop]; simp only [List.length_cons] at hm ⊢; omega) h
          simp only [List.length_drop] at ih
          omega
    · rw [unqS_stray _ hne hs u pos] at h; cases h
theorem unquoteL_len {l t : Bs} {n : Nat} (h : unquoteL l = some (t, n)) : 1 ≤ n ∧ n ≤ l.length := by
  have := unqS_len l.length l _ 0 t n (Nat.le_refl _) h
  omega

theorem digsL_le (l : Bs) : (digsL l).length ≤ l.length := (List.takeWhile_sublist _).length_le
theorem digsL_pos {l : Bs} (hl : l ≠ []) (h : digC (atL l 0) = true) : 1 ≤ (digsL l).length := by
  cases l with
  | nil => exact absurd rfl hl
  | cons c r =>
    have : digC c.toNat = true := by simpa [atL] using h
    simp [digsL, this]
theorem signsL_pos : ∀ g ∈ signsL, 1 ≤ g.length := by decide

theorem next_len {l : Bs} {sc : Bool} {x : Tk × Nat} (hl : l ≠ []) (h : nextL l sc = .ok x) : 1 ≤ x.2 ∧ x.2 ≤ l.length := by
  unfold nextL at h
  split at h
  · rename_i h1
    cases h
    exact ⟨h1, nameL_le l sc⟩
  · split at h
    · rename_i h2
      unfold numbL at h
      split at h
      · cases h
      · split at h
        · cases h
        · cases h
          exact ⟨digsL_pos hl h2, digsL_le l⟩
    · split at h
      · unfold unqNx at h
        split at h
        · rename_i y hy
          cases h
          exact unquoteL_len (t := y.1) (n := y.2) hy
        · cases h
      · unfold signNx at h
        split at h
        · rename_i g hg
          cases h
          have hm := List.mem_of_find?_eq_some hg
          have hp := List.find?_some hg
          exact ⟨signsL_pos g hm, (List.isPrefixOf_iff_prefix.1 hp).length_le⟩
        · cases h

theorem lexF_more : ∀ (f g a : Nat) (l : Bs) (sc : Bool), l.length < f → l.length < g → lexF f a l sc = lexF g a l sc
  | f + 1, g + 1, a, l, sc, hf, hg => by
    unfold lexF
    split
    · rfl
    · split
      · rfl
      · rename_i hne
        cases hx : nextL (l.drop (pastL l).1) sc with
        | error e => rfl
        | ok x =>
          have hl := next_len hne hx
          have hp := pastL_le l
          simp only [List.length_drop] at hl
          simp only
          rw [lexF_more f g _ _ sc (by simp; omega) (by simp; omega)]
theorem lexL_eq (a : Nat) (l : Bs) (sc : Bool) : lexL a l sc =
    if (pastL l).2 = false then .error (a + (pastL l).1, 40)
    else if l.drop (pastL l).1 = [] then .ok []
    else match nextL (l.drop (pastL l).1) sc with
      | .error e => .error (a + (pastL l).1, e)
      | .ok x => consL (x.1, a + (pastL l).1) (lexL (a + (pastL l).1 + x.2) (l.drop ((pastL l).1 + x.2)) sc) := by
  conv => lhs; unfold lexL lexF
  split
  · rfl
  · split
    · rfl
    · rename_i hne
      cases hx : nextL (l.drop (pastL l).1) sc with
      | error e => rfl
      | ok x =>
        have hl := next_len hne hx
        have hp := pastL_le l
        simp only [List.length_drop] at hl
        simp only
        unfold lexL
        rw [lexF_more l.length ((l.drop ((pastL l).1 + x.2)).length + 1) _ _ sc (by simp; omega) (by omega)]

def preL (d : List (Tk × Nat)) : Lx → Lx
  | .error e => .error e
  | .ok ts => .ok (d ++ ts)
theorem preL_nil (x : Lx) : preL [] x = x := by cases x <;> rfl
theorem preL_cons (d : List (Tk × Nat)) (t : Tk × Nat) (x : Lx) : preL d (consL t x) = preL (d ++ [t]) x := by
  cases x
  · rfl
  · simp [preL, consL]

end Go.Proofs.YtfehmdfamndcaaaGreatDoor
namespace Go.Proofs.YtfehmdfamndcaaaGreatDoor
open Go.RowKit
set_option linter.unusedVariables false

def tokCells (x : Tk × Int) : List Value := [.int .i64 x.1.1, .string ⟨x.1.2.1.toArray⟩, .int .i64 x.1.2.2, .int .i64 x.2]
def rowT (ts : List (Tk × Int)) : List Value := ts.flatMap tokCells
theorem rowT_length (ts : List (Tk × Int)) : (rowT ts).length = ts.length * 4 := by
  induction ts with
  | nil => rfl
  | cons t ts ih =>
    unfold rowT at *
    rw [List.flatMap_cons, List.length_append, ih, List.length_cons]
    simp [tokCells]
    omega
theorem rowT_snoc (ts : List (Tk × Int)) (x : Tk × Int) : rowT (ts ++ [x]) = rowT ts ++ tokCells x := by simp [rowT]
abbrev ToksAt (w : World) (base : Nat) (v : Value) (ts : List (Tk × Int)) : Prop := w.ownsRow base 118 4 v ts.length (rowT ts)
/-- places as numbers. -/
def ints (ts : List (Tk × Nat)) : List (Tk × Int) := ts.map fun x => (x.1, (x.2 : Int))
theorem ints_length (ts : List (Tk × Nat)) : (ints ts).length = ts.length := by simp [ints]
theorem ints_snoc (ts : List (Tk × Nat)) (x : Tk × Nat) : ints (ts ++ [x]) = ints ts ++ [(x.1, (x.2 : Int))] := by simp [ints]

theorem info_tok : (Tryz.prog.info? 118).map (fun i => (i.zero, i.size, i.bytes)) = some (some (.agg #[.int .i64 0, .string ByteArray.empty, .int .i64 0, .int .i64 0]), 4, 40) := by kernel_rfl
theorem add_plain (b o n : Nat) : (⟨b, o, none⟩ : Addr).add n = ⟨b, o + n, none⟩ := by
  unfold Addr.add
  split
  · rename_i h; subst h; rfl
  · rfl
theorem cells_new (w : World) (cs : Array Value) (t : TypeId) : ∀ j u, cs.toList[j]? = some u → (w.alloc (.cells cs t)).cell? ((⟨w.heap.size, 0, none⟩ : Addr).add j) = some u := by
  intro j u h
  rw [add_plain, cell_of_row _ _ (0 + j) cs t (0, 0) (heap_alloc_new w _)]
  simpa using h
theorem cells_new2 (w : World) (cs : Array Value) (t : TypeId) (n : Nat) (hn : n = w.heap.size) : ∀ j u, cs.toList[j]? = some u → (w.alloc (.cells cs t)).cell? ((⟨n, 0, none⟩ : Addr).add j) = some u := by
  subst hn
  exact cells_new w cs t
theorem toks_app {w : World} {base : Nat} {v : Value} {ts : List (Tk × Int)} {x : Tk × Int} (h : w.ownsRow base 118 4 v (ts.length + 1) (rowT ts ++ tokCells x)) : ToksAt w base v (ts ++ [x]) := by
  have e1 : (ts ++ [x]).length = ts.length + 1 := by simp
  unfold ToksAt
  rw [e1, rowT_snoc]
  exact h

theorem next_err {l : Bs} {sc : Bool} {c : Nat} (h : nextL l sc = .error c) : c = 40 ∨ c = 41 := by
  unfold nextL at h
  split at h
  · cases h
  · split at h
    · unfold numbL at h
      split at h
      · cases h; exact .inl rfl
      · split at h
        · cases h; exact .inr rfl
        · cases h
    · split at h
      · unfold unqNx at h
        split at h
        · cases h
        · cases h; exact .inl rfl
      · unfold signNx at h
        split at h
        · cases h
        · cases h; exact .inl rfl

def lexRes (r : Lx) (base : Nat) (e : Ending) (w' : World) : Prop := match r with
  | .ok ts => ∃ v, e = .returned (.tuple #[v, .int .i64 0, .int .i64 0]) ∧ ToksAt w' base v (ints ts)
  | .error x => e = .returned (.tuple #[.slice none 0 0, .int .i64 (x.1 : Nat), .int .i64 (x.2 : Nat)])

end Go.Proofs.YtfehmdfamndcaaaGreatDoor
namespace Go.Proofs.YtfehmdfamndcaaaGreatDoor
open Go.RowKit
set_option linter.unusedVariables false

/-- all package-level variables that are read lie below B. -/
def Over (B : Nat) : Prop := 2 < B ∧ 3 < B ∧ 4 < B ∧ 1 < B ∧ 0 < B
theorem Over.mono {B B' : Nat} (h : Over B) (hb : B ≤ B') : Over B' := by
  obtain ⟨b, c, d, e, f⟩ := h
  exact ⟨by omega, by omega, by omega, by omega, by omega⟩

/-- the package-level variables hold what their initialisers lay. -/
structure Env (w : World) : Prop where
  utf : Lib.Utf8Tabs 2 3 w
  wrd : ∃ t fr, w.heap[4]? = some (.cells (textCells wordsL).toArray t fr)
  sgn : ∃ t fr, w.heap[1]? = some (.cells (textCells signsL).toArray t fr)
  len : ∃ m, w.cell? ⟨0, 0, none⟩ = some (.int .i64 m)
theorem Env.over {w : World} (h : Env w) : Over w.heap.size := by
  obtain ⟨t, fr, hw⟩ := h.wrd
  obtain ⟨t2, fr2, hg⟩ := h.sgn
  obtain ⟨m, hm⟩ := h.len
  exact ⟨World.block_lt_of_cell? w _ (h.utf.1 0 (by omega)), World.block_lt_of_cell? w _ (h.utf.2 0 (by omega)).1, (Array.getElem?_eq_some_iff.1 hw).1, (Array.getElem?_eq_some_iff.1 hg).1, World.block_lt_of_cell? w _ hm⟩
theorem Env.keep {B : Nat} {w w' : World} (h : Env w) (hb : Below B w w') (ho : Over B) : Env w' := by
  obtain ⟨o2, o3, o4, o5, o6⟩ := ho
  obtain ⟨t, fr, hw⟩ := h.wrd
  obtain ⟨t2, fr2, hg⟩ := h.sgn
  obtain ⟨m, hm⟩ := h.len
  exact ⟨⟨fun c hc => (hb.cell (p := ⟨2, c, none⟩) o2).trans (h.utf.1 c hc), fun i hi => ⟨(hb.cell (p := ⟨3, 2 * i, none⟩) o3).trans (h.utf.2 i hi).1, (hb.cell (p := ⟨3, 2 * i + 1, none⟩) o3).trans (h.utf.2 i hi).2⟩⟩, ⟨t, fr, (hb.block _ o4).trans hw⟩, ⟨t2, fr2, (hb.block _ o5).trans hg⟩, ⟨m, (hb.cell (p := ⟨0, 0, none⟩) o6).trans hm⟩⟩
theorem env_below {w w' : World} (h : Env w) (hb : Below w.heap.size w w') : Env w' := h.keep hb h.over

theorem blank_any (b : Int) (w : World) : Calls Tryz.prog 86 #[.int .u8 b] w fun e w' => e = .returned (.bool (decide (b = 9 ∨ b = 10 ∨ b = 13 ∨ b = 32))) ∧ w' = w := by
  go_enter Tryz.func86, Tryz.ntmps86
  go_wp2
  all_goals go_ret
  all_goals (refine ⟨ret_bool ?_, rfl⟩; rw [Bool.eq_iff_iff]; simp; try omega)

theorem indexByte_line : ∀ l : Bs, (Lib.indexByte l 10 = -1 ∧ lineL l = l.length) ∨ Lib.indexByte l 10 = (lineL l : Int)
  | [] => .inl ⟨rfl, rfl⟩
  | c :: r => by
    unfold Lib.indexByte lineL
    by_cases hc : c = 10
    · subst hc; exact .inr (by simp)
    · have hb : (c == 10) = false := by simpa using hc
      rw [hb, if_neg hc]
      rcases indexByte_line r with ⟨h1, h2⟩ | h1
      · rw [h1, h2]; exact .inl ⟨by simp, rfl⟩
      · have : ¬ (lineL r : Int) = -1 := by omega
        rw [h1]
        exact .inr (by simp [this])

theorem lineSize_any (s : ByteArray) (w : World) : Calls Tryz.prog 87 #[.string s] w fun e w' => e = .returned (.int .i64 (lineL s.data.toList : Nat)) ∧ w' = w := by
  have hib := fun W => Tryz.strings_IndexByte s 10 W
  rw [show (10 : Int).toNat.toUInt8 = 10 from rfl] at hib
  have hle := lineL_le s.data.toList
  rcases indexByte_line s.data.toList with ⟨h1, h2⟩ | h1
  · rw [h1] at hib
    have h3 : Hid (lineL s.data.toList = s.size) := by show _ = _; rw [h2, Lib.size_eq]
    clear h1 h2 hle
    go_enter Tryz.func87, Tryz.ntmps87
    go_wp2_with (go_at_call 116; refine (hib _).mono ?_; rintro e W ⟨rfl, rfl⟩)
    go_ret
    exact ⟨by rw [h3.out]; rfl, rfl⟩
  · rw [h1] at hib
    generalize lineL s.data.toList = k at *
    have h2 : ¬ (k : Int) < 0 := by omega
    go_enter Tryz.func87, Tryz.ntmps87
    go_wp2_with (go_at_call 116; refine (hib _).mono ?_; rintro e W ⟨rfl, rfl⟩)
    go_ret
    exact ⟨rfl, rfl⟩

theorem index_note : ∀ l : Bs, (Lib.index l [42, 47] = -1 ∧ noteL l = none) ∨ ∃ k : Nat, Lib.index l [42, 47] = (k : Int) ∧ noteL l = some (k + 2)
  | [] => .inl ⟨rfl, rfl⟩
  | c :: r => by
    unfold Lib.index noteL
    by_cases hc : c = 42 ∧ r.head? = some 47
    · rw [if_pos hc]
      obtain ⟨rfl, h2⟩ := hc
      cases r with
      | nil => simp at h2
      | cons d r =>
        have : d = 47 := by simpa using h2
        subst this
        exact .inr ⟨0, by simp, rfl⟩
    · rw [if_neg hc]
      have hp : ([42, 47] : Bs).isPrefixOf (c :: r) = false := by
        cases r with
        | nil => simp [List.isPrefixOf]
        | cons d r =>
          simp only [List.isPrefixOf]
          by_cases h1 : c = 42
          · have h2 : ¬ d = 47 := fun e => hc ⟨h1, by rw [e]; rfl⟩
            have : ((47 : UInt8) == d) = false := by simpa using fun e => h2 e.symm
            simp [this]
          · have : ((42 : UInt8) == c) = false := by simpa using fun e => h1 e.symm
            simp [this]
      rw [hp]
      rcases index_note r with ⟨h1, h2⟩ | ⟨k, h1, h2⟩
      · rw [h1, h2]; exact .inl ⟨by simp, rfl⟩
      · rw [h1, h2]
        have : ¬ (k : Int) = -1 := by omega
        exact .inr ⟨k + 1, by simp [this], by simp⟩

/-- the note that begins here: how many bytes, and whether it ends. -/
def noteN (l : Bs) : Nat := match noteL (l.drop 2) with | none => 0 | some k => k + 2
def noteB (l : Bs) : Bool := (noteL (l.drop 2)).isSome
theorem noteSize_any (s : ByteArray) (w : World) (he : Env w) (hs : s.size < 4294967281) (h2 : 2 ≤ s.size) : Calls Tryz.prog 88 #[.string s] w fun e w' => e = .returned (.tuple #[.int .i64 (noteN s.data.toList : Nat), .bool (noteB s.data.toList)]) ∧ w' = w := by
  obtain ⟨m, hm⟩ := he.len
  have hxl : (s.extract 2 s.size).data.toList = s.data.toList.drop 2 := drop_extract s 2
  have hxs : (s.extract 2 s.size).size < 4294967281 := by rw [Lib.size_eq, hxl, List.length_drop, ← Lib.size_eq]; omega
  have hix := Tryz.strings_Index (s.extract 2 s.size) ⟨#[42, 47]⟩ m w hxs hm
  rw [hxl, show (⟨#[42, 47]⟩ : ByteArray).data.toList = [42, 47] from rfl] at hix
  have hsr := drop_run s 2 h2
  rw [show ((2 : Nat) : Int) = 2 from rfl] at hsr
  have hnl := noteL_le (s.data.toList.drop 2)
  rw [List.length_drop, ← Lib.size_eq] at hnl
  clear hxl hxs
  generalize s.extract 2 s.size = X at *
  unfold noteN noteB
  rcases index_note (s.data.toList.drop 2) with ⟨h1, h3⟩ | ⟨k, h1, h3⟩
  · rw [h1] at hix
    rw [h3]
    clear h1 h3
    go_enter Tryz.func88, Tryz.ntmps88
    go_wp2_with (go_at_call 117; refine hix.mono ?_; rintro e W ⟨rfl, rfl⟩)
    go_ret2
    exact ⟨rfl, rfl⟩
  · rw [h1] at hix
    have hb := hnl _ h3
    rw [h3]
    clear h1 h3 hnl
    have h4 : ¬ (k : Int) < 0 := by omega
    go_enter Tryz.func88, Tryz.ntmps88
    go_wp2_with (go_at_call 117; refine hix.mono ?_; rintro e W ⟨rfl, rfl⟩)
    go_ret2
    exact ⟨ret_ib (by simp; omega) rfl, rfl⟩

/-- may a name begin with the rune? -/
def begB (r : Int) (sc : Bool) : Bool := letterB r || r == 95 || (r == 36 && sc)
theorem begins_own (b : Nat) (r : Int) (sc : Bool) (w : World) (hc : w.cell? ⟨b, 2, none⟩ = some (.bool sc)) : Calls Tryz.prog 119 #[.pointer (some ⟨b, 0, none⟩), .int .i32 r] w fun e w' => e = .returned (.bool (begB r sc)) ∧ w' = w := by
  have hl := fun W => letter_any r W
  unfold begB
  cases hlb : letterB r
  · rw [hlb] at hl
    go_enter Tryz.func119, Tryz.ntmps119
    go_wp2_with (go_at_call 133; refine (hl _).mono ?_; rintro e W ⟨rfl, rfl⟩)
    all_goals go_ret
    all_goals (refine ⟨ret_bool ?_, rfl⟩; simp_all)
  · rw [hlb] at hl
    go_enter Tryz.func119, Tryz.ntmps119
    go_wp2_with (go_at_call 133; refine (hl _).mono ?_; rintro e W ⟨rfl, rfl⟩)
    go_ret
    exact ⟨rfl, rfl⟩

theorem word_load {w : World} (h : Env w) : (Instr.loadAt 181 (.pointer (some ⟨4, 0, none⟩))).run Tryz.prog w = .ok (.agg (textCells wordsL).toArray) w := by
  obtain ⟨t, fr, hw⟩ := h.wrd
  simp only [Instr.loadAt, Instr.sureAddr, Sem.run_bind, Sem.run_pure, Result.andThen_ok]
  exact run_loadVar_row w _ t _ _ fr _ hw Tryz.underlying181 rfl (by kernel_rfl)
theorem sign_load {w : World} (h : Env w) : (Instr.loadAt 175 (.pointer (some ⟨1, 0, none⟩))).run Tryz.prog w = .ok (.agg (textCells signsL).toArray) w := by
  obtain ⟨t, fr, hw⟩ := h.sgn
  simp only [Instr.loadAt, Instr.sureAddr, Sem.run_bind, Sem.run_pure, Result.andThen_ok]
  exact run_loadVar_row w _ t _ _ fr _ hw Tryz.underlying175 rfl (by kernel_rfl)
theorem index_row {P : Program} (W : World) (t e : TypeId) (n : Nat) (l : List Bs) (k : Nat) (q : Bs) (h : P.underlying t = some (.array n e)) (hn : l.length = n) (hq : l[k]? = some q) (h1 : (isAgg e).run P W = .ok false W) (hz : (sizeOf e).run P W = .ok 1 W) :
    (Instr.index t (.agg (textCells l).toArray) (.int .i64 (k : Int))).run P W = .ok (.string ⟨q.toArray⟩) W := by
  have hk : k < n := by rw [← hn]; exact (List.getElem?_eq_some_iff.1 hq).1
  have hk2 : (k : Int) < (n : Int) := by omega
  have hv : (textCells l)[k]? = some (.string ⟨q.toArray⟩) := by simp [textCells, hq]
  simp [Instr.index, run_underlying h, asIntOf, go_sem, h1, hz, hv]
  intro hc
  omega
end Go.Proofs.YtfehmdfamndcaaaGreatDoor
