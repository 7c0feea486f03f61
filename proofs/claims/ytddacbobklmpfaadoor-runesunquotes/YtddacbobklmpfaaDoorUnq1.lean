/- The reader of texts in quotes, rune by rune: its steps as plain mathematics, and how it lies in memory. -/
import Derived.Test.YtddacbobklmpfaaDoorQuote
namespace Go.Proofs.YtddacbobklmpfaaDoor
open Go.RowKit

/-- Where the reader stands, which quote began, what has been said, and the number at hand with its digits. -/
structure Unq where
  st : Int
  q : Int
  num : Nat
  dig : Nat
  said : List UInt8
def Unq.say (u : Unq) (r : Int) : Unq := { u with said := u.said ++ Lib.encodeRune r, st := 1 }
def Unq.to (u : Unq) (x : Int) : Unq := { u with st := x }
def stepFirst (u : Unq) (r : Int) : Option Unq := if r = 34 ∨ r = 39 then some { u with st := 1, q := r } else none
def stepInside (u : Unq) (r : Int) : Option Unq :=
  if r = 10 ∨ r = 13 then none else if r = u.q then some (u.to 5) else if r = 92 then some (u.to 2) else some (u.say r)
def stepEscaped (u : Unq) (r : Int) : Option Unq :=
  if r = 110 then some (u.say 10) else if r = 116 then some (u.say 9) else if r = 34 ∨ r = 39 ∨ r = 92 then some (u.say r) else if r = 117 then some (u.to 3) else none
def stepNumbered (u : Unq) (r : Int) : Option Unq := if r = 123 then some { u with st := 4, num := 0, dig := 0 } else none
def stepCounting (u : Unq) (r : Int) : Option Unq :=
  if r = 125 then (if u.dig = 0 ∨ Lib.validRune (u.num : Int) = false then none else some (u.say u.num))
  else if hexv r < 0 ∨ u.dig = 6 then none else some { u with num := u.num * 16 + (hexv r).toNat, dig := u.dig + 1 }
def stepU (u : Unq) (r : Int) : Option Unq :=
  if u.st = 0 then stepFirst u r else if u.st = 1 then stepInside u r else if u.st = 2 then stepEscaped u r else if u.st = 3 then stepNumbered u r else if u.st = 4 then stepCounting u r else none

def Unq.ok (u : Unq) : Prop := 0 ≤ u.st ∧ u.st ≤ 5 ∧ u.dig ≤ 6 ∧ u.num < 16 ^ u.dig

/-- The reader in the block b: five cells, and the bytes that have been said in a row of its own. -/
def IsUnq (b : Nat) (u : Unq) (w : World) : Prop :=
  ∃ a c, w.heap[b]? = some (.cells #[.int .i64 u.st, .int .i32 u.q, .slice a u.said.length c, .int .i32 (u.num : Int), .int .i64 (u.dig : Int)] 59 (0, 0)) ∧ w.ownsRowF (b + 1) 5 1 (.slice a u.said.length c) u.said.length (Lib.byteCells u.said)

def UnqPost (b : Nat) (o : Option Unq) (w : World) (e : Ending) (w' : World) : Prop :=
  Below b w w' ∧ match o with
    | none => e = .returned (.bool false)
    | some u' => e = .returned (.bool true) ∧ IsUnq b u' w' ∧ Lib.OthersKept 5 (some b) w w'
theorem unqPost_none {b : Nat} {o : Option Unq} {w w' : World} {e : Ending} (h : o = none) (he : e = .returned (.bool false)) (hb : Below b w w') : UnqPost b o w e w' := by
  subst h; exact ⟨hb, he⟩
theorem unqPost_some {b : Nat} {o : Option Unq} {u' : Unq} {w w' : World} {e : Ending} (h : o = some u') (he : e = .returned (.bool true)) (hb : Below b w w') (hi : IsUnq b u' w') (hk : Lib.OthersKept 5 (some b) w w') : UnqPost b o w e w' := by
  subst h; exact ⟨hb, he, hi, hk⟩

theorem IsUnq.lt {b : Nat} {u : Unq} {w : World} (h : IsUnq b u w) : b < w.heap.size := by
  obtain ⟨a, c, hb, _⟩ := h
  exact (Array.getElem?_eq_some_iff.1 hb).1
theorem ownsRowF_slice {w : World} {B : Nat} {e : TypeId} {v : Value} {n : Nat} {xs : List Value} (h : w.ownsRowF B e 1 v n xs) : ∃ a c, v = .slice a n c := by
  rcases h.2 with ⟨rfl, rfl⟩ | ⟨g, cap, cur, fz, rfl, _⟩
  · exact ⟨_, _, rfl⟩
  · exact ⟨_, _, rfl⟩
theorem row_ne {w : World} {b : Nat} {e : TypeId} {v : Value} {n : Nat} {xs : List Value} (h : w.ownsRowF (b + 1) e 1 v n xs) : v.ownBlock ≠ some b := by
  intro hv
  have := (h.lt b hv).1
  omega
theorem row_setCell {w : World} {b i : Nat} {e : TypeId} {v x : Value} {n : Nat} {xs : List Value} (h : w.ownsRowF (b + 1) e 1 v n xs) : (w.setCell ⟨b, i, none⟩ x).ownsRowF (b + 1) e 1 v n xs :=
  h.kept (row := some b) ⟨rfl, rfl, rfl, by simp [World.setCell], fun k _ hk => Below.heap_setCell _ _ _ _ (fun e => hk (by simp [e]))⟩ (Or.inr (row_ne h))

theorem IsUnq.cells {b : Nat} {u : Unq} {w : World} (h : IsUnq b u w) : ∃ a c, w.cell? ⟨b, 0, none⟩ = some (.int .i64 u.st) ∧ w.cell? ⟨b, 1, none⟩ = some (.int .i32 u.q) ∧ w.cell? ⟨b, 2, none⟩ = some (.slice a u.said.length c) ∧ w.cell? ⟨b, 3, none⟩ = some (.int .i32 (u.num : Int)) ∧ w.cell? ⟨b, 4, none⟩ = some (.int .i64 (u.dig : Int)) ∧ w.ownsRowF (b + 1) 5 1 (.slice a u.said.length c) u.said.length (Lib.byteCells u.said) := by
  obtain ⟨a, c, hb, ho⟩ := h
  exact ⟨a, c, by simp [World.cell?, hb], by simp [World.cell?, hb], by simp [World.cell?, hb], by simp [World.cell?, hb], by simp [World.cell?, hb], ho⟩
theorem IsUnq.free {b : Nat} {u : Unq} {w : World} (h : IsUnq b u w) (i : Nat) : w.frozen? ⟨b, i, none⟩ = false := by
  obtain ⟨a, c, hb, _⟩ := h
  simp [World.frozen?, hb]

theorem IsUnq.set0 {b : Nat} {u : Unq} {w : World} (h : IsUnq b u w) (x : Int) : IsUnq b { u with st := x } (w.setCell ⟨b, 0, none⟩ (.int .i64 x)) := by
  obtain ⟨a, c, hb, ho⟩ := h
  exact ⟨a, c, by simp [World.setCell, Array.getElem?_modify, hb], row_setCell ho⟩
theorem IsUnq.set1 {b : Nat} {u : Unq} {w : World} (h : IsUnq b u w) (x : Int) : IsUnq b { u with q := x } (w.setCell ⟨b, 1, none⟩ (.int .i32 x)) := by
  obtain ⟨a, c, hb, ho⟩ := h
  exact ⟨a, c, by simp [World.setCell, Array.getElem?_modify, hb], row_setCell ho⟩
theorem IsUnq.set3 {b : Nat} {u : Unq} {w : World} (h : IsUnq b u w) (x : Nat) : IsUnq b { u with num := x } (w.setCell ⟨b, 3, none⟩ (.int .i32 (x : Int))) := by
  obtain ⟨a, c, hb, ho⟩ := h
  exact ⟨a, c, by simp [World.setCell, Array.getElem?_modify, hb], row_setCell ho⟩
theorem IsUnq.set4 {b : Nat} {u : Unq} {w : World} (h : IsUnq b u w) (x : Nat) : IsUnq b { u with dig := x } (w.setCell ⟨b, 4, none⟩ (.int .i64 (x : Int))) := by
  obtain ⟨a, c, hb, ho⟩ := h
  exact ⟨a, c, by simp [World.setCell, Array.getElem?_modify, hb], row_setCell ho⟩

theorem keep_set {b i : Nat} {w w' : World} {x : Value} (h : Lib.OthersKept 5 (some b) w w') : Lib.OthersKept 5 (some b) w (w'.setCell ⟨b, i, none⟩ x) := h.setCell _ rfl _
theorem below_set {b i : Nat} {w w' : World} {x : Value} (h : Below b w w') : Below b w (w'.setCell ⟨b, i, none⟩ x) := h.setCell (Nat.le_refl _) _

theorem unq_said {b : Nat} {u : Unq} {w : World} {a a1 : Option Addr} {n c c1 m : Nat} {said : List UInt8} (hb : w.heap[b]? = some (.cells #[.int .i64 u.st, .int .i32 u.q, .slice a n c, .int .i32 (u.num : Int), .int .i64 (u.dig : Int)] 59 (0, 0)))
    (ho : w.ownsRowF (b + 1) 5 1 (.slice a1 m c1) m (Lib.byteCells said)) (hm : m = said.length) : IsUnq b { u with said := said } (w.setCell ⟨b, 2, none⟩ (.slice a1 m c1)) := by
  subst hm
  exact ⟨a1, c1, by simp [World.setCell, Array.getElem?_modify, hb], row_setCell ho⟩

set_option maxHeartbeats 1000000 in
theorem say_any (b : Nat) (u : Unq) (r : Int) (w : World) (hr0 : -2147483648 ≤ r) (hr1 : r ≤ 2147483647) (hI : IsUnq b u w) (hl : u.said.length + 4 ≤ 140737488355328) :
    Calls Tryd.prog 49 #[.pointer (some ⟨b, 0, none⟩), .int .i32 r] w fun e w' => e = .returned (.tuple #[]) ∧ Below b w w' ∧ IsUnq b (u.say r) w' ∧ Lib.OthersKept 5 (some b) w w' := by
  have hlt := hI.lt
  have hfr := hI.free
  obtain ⟨a, c, hb, ho⟩ := hI
  have h0 : w.cell? ⟨b, 0, none⟩ = some (.int .i64 u.st) := by simp [World.cell?, hb]
  have h2 : w.cell? ⟨b, 2, none⟩ = some (.slice a u.said.length c) := by simp [World.cell?, hb]
  go_enter Tryd.func49, Tryd.ntmps49
  go_wp2_with (go_at_call 39; refine (Tryd.utf8_AppendRune_row (b + 1) _ _ _ _ hr0 hr1 _ ho hl (by omega)).mono ?_)
  rintro e w1 ⟨v', rfl, ho1, o, hg⟩
  obtain ⟨m, hm⟩ : ∃ m, m = u.said.length + (Lib.runeCells r).length := ⟨_, rfl⟩
  rw [← hm, ← Lib.byteCells_encodeRune, ← Lib.byteCells_append] at ho1
  have hlen : m = (u.said ++ Lib.encodeRune r).length := by rw [List.length_append, hm, Lib.runeCells_length]
  clear hm
  obtain ⟨a1, c1, rfl⟩ := ownsRowF_slice ho1
  have hb1 : w1.heap[b]? = w.heap[b]? := (hg.block b (by simp; omega) (fun e => row_ne ho e.symm)).trans (Below.heap_alloc w o b hlt)
  rw [hb] at hb1
  have hfr1 : ∀ i, w1.frozen? ⟨b, i, none⟩ = false := fun i => by simp [World.frozen?, hb1]
  have h01 : w1.cell? ⟨b, 0, none⟩ = some (.int .i64 u.st) := by simp [World.cell?, hb1]
  have h21 : w1.cell? ⟨b, 2, none⟩ = some (.slice a u.said.length c) := by simp [World.cell?, hb1]
  clear hb h0 h2 hfr
  have hk1 : Lib.OthersKept 5 (some b) w w1 := by
    refine ((Lib.OthersKept.refl _ _ _).alloc o).grown hg ?_
    intro g hgg
    obtain ⟨cc, fz, hcc⟩ := Lib.ownsRowF_kind ho g hgg
    exact ⟨cc, fz, (Below.heap_alloc w o g (ho.lt g hgg).2).trans hcc⟩
  have hbl : Below b w w1 := ((Below.refl b w).alloc (by omega) o).grown hg (by simp; omega) (fun k hk => by have := (ho.lt k hk).1; omega)
  have HIU : Hid (IsUnq b (u.say r) ((w1.setCell ⟨b, 2, none⟩ (.slice a1 m c1)).setCell ⟨b, 0, none⟩ (.int .i64 1))) := (unq_said (u := u) hb1 ho1 hlen).set0 1
  clear ho1 hlen
  go_wp2
  go_end0
  exact ⟨rfl, below_set (below_set hbl), HIU.out, keep_set (keep_set hk1)⟩
end Go.Proofs.YtddacbobklmpfaaDoor
