/- Own text. The reader of texts in quotes, rune by rune: its steps as plain mathematics, and how it lies in memory. The contracts of the reader's steps: what each rune does to it. The contract of Unquote of package runes: what the text in quotes says with which a text begins, or that there is none. -/
import Derived.Lib.Small
import Derived.Test.YtadkmlcnmkdfiaaGreatDoorQuote
namespace Go.Proofs.YtadkmlcnmkdfiaaGreatDoor
open Go.RowKit

/-- Where the reader stands, which quote began, what has been said, and the number at hand with its digits. -/
structure Unq where
  st : Int
  q : Int
  num : Nat
  dig : Nat
  said : List UInt8
def Unq.say (u : Unq) (r : Int) : Unq := { u with said := u.said ++ Lib.encodeRune r, st := 1 }
def Unq.to (u : Unq) (x : Int) : Unq := { u with st := x }
def stepFirst (u : Unq) (r : Int) : Option Unq := if r = 34 ∨ r = 39 then some { u with st := 1, q := r } else none
def stepInside (u : Unq) (r : Int) : Option Unq :=
  if r = 10 ∨ r = 13 then none else if r = u.q then some (u.to 5) else if r = 92 then some (u.to 2) else some (u.say r)
def stepEscaped (u : Unq) (r : Int) : Option Unq :=
  if r = 110 then some (u.say 10) else if r = 116 then some (u.say 9) else if r = 34 ∨ r = 39 ∨ r = 92 then some (u.say r) else if r = 117 then some (u.to 3) else none
def stepNumbered (u : Unq) (r : Int) : Option Unq := if r = 123 then some { u with st := 4, num := 0, dig := 0 } else none
def stepCounting (u : Unq) (r : Int) : Option Unq :=
  if r = 125 then (if u.dig = 0 ∨ Lib.validRune (u.num : Int) = false then none else some (u.say u.num))
  else if hexv r < 0 ∨ u.dig = 6 then none else some { u with num := u.num * 16 + (hexv r).toNat, dig := u.dig + 1 }
def stepU (u : Unq) (r : Int) : Option Unq :=
  if u.st = 0 then stepFirst u r else if u.st = 1 then stepInside u r else if u.st = 2 then stepEscaped u r else if u.st = 3 then stepNumbered u r else if u.st = 4 then stepCounting u r else none

def Unq.ok (u : Unq) : Prop := 0 ≤ u.st ∧ u.st ≤ 5 ∧ u.dig ≤ 6 ∧ u.num < 16 ^ u.dig

theorem ownsRowF_slice {w : World} {B : Nat} {e : TypeId} {v : Value} {n : Nat} {xs : List Value} (h : w.ownsRowF B e 1 v n xs) : ∃ a c, v = .slice a n c := by
  rcases h.2 with ⟨rfl, rfl⟩ | ⟨g, cap, cur, fz, rfl, _⟩
  · exact ⟨_, _, rfl⟩
  · exact ⟨_, _, rfl⟩
theorem row_ne {w : World} {b : Nat} {e : TypeId} {v : Value} {n : Nat} {xs : List Value} (h : w.ownsRowF (b + 1) e 1 v n xs) : v.ownBlock ≠ some b := by
  intro hv
  have := (h.lt b hv).1
  omega
theorem row_setCell {w : World} {b i : Nat} {e : TypeId} {v x : Value} {n : Nat} {xs : List Value} (h : w.ownsRowF (b + 1) e 1 v n xs) : (w.setCell ⟨b, i, none⟩ x).ownsRowF (b + 1) e 1 v n xs :=
  h.kept (row := some b) ⟨rfl, rfl, rfl, by simp [World.setCell], fun k _ hk => Below.heap_setCell _ _ _ _ (fun e => hk (by simp [e]))⟩ (Or.inr (row_ne h))

theorem keep_set {b i : Nat} {w w' : World} {x : Value} (h : Lib.OthersKept 5 (some b) w w') : Lib.OthersKept 5 (some b) w (w'.setCell ⟨b, i, none⟩ x) := h.setCell _ rfl _
theorem below_set {b i : Nat} {w w' : World} {x : Value} (h : Below b w w') : Below b w (w'.setCell ⟨b, i, none⟩ x) := h.setCell (Nat.le_refl _) _

end Go.Proofs.YtadkmlcnmkdfiaaGreatDoor
namespace Go.Proofs.YtadkmlcnmkdfiaaGreatDoor
open Go.RowKit

theorem pow_dig (n : Nat) (h : n ≤ 5) : 16 ^ n ≤ 1048576 := Nat.le_trans (Nat.pow_le_pow_right (by omega) h) (by decide)
theorem pow_dig6 (n : Nat) (h : n ≤ 6) : 16 ^ n ≤ 16777216 := Nat.le_trans (Nat.pow_le_pow_right (by omega) h) (by decide)

end Go.Proofs.YtadkmlcnmkdfiaaGreatDoor
namespace Go.Proofs.YtadkmlcnmkdfiaaGreatDoor
open Go.RowKit

/-- How many bytes have been read that nothing stands for yet. -/
def Unq.pend (u : Unq) : Nat := if u.st = 2 then 1 else if u.st = 3 then 2 else if u.st = 4 then 3 + u.dig else 0
theorem enc_small (r : Int) (h0 : 0 ≤ r) (h1 : r ≤ 127) : (Lib.encodeRune r).length = 1 := by rw [Lib.encodeRune, Lib.encodeRuneZ_one h0 h1]; rfl
theorem stepU_ok (u u' : Unq) (r : Int) (n : Nat) (h : stepU u r = some u') (hok : u.ok) (hn1 : 1 ≤ n) (hrn : (Lib.encodeRune r).length ≤ n) : u'.ok ∧ u'.said.length + u'.pend ≤ u.said.length + u.pend + n := by
  obtain ⟨h0, h5, hd, hn⟩ := hok
  have hsay : ∀ x : Int, (Lib.encodeRune x).length ≤ u.pend + n → (u.say x).ok ∧ (u.say x).said.length + (u.say x).pend ≤ u.said.length + u.pend + n := by
    intro x hx
    refine ⟨⟨by simp [Unq.say], by simp [Unq.say], hd, hn⟩, ?_⟩
    have hp : (u.say x).pend = 0 := by simp [Unq.pend, Unq.say]
    rw [hp]
    simp only [Unq.say, List.length_append]
    omega
  unfold stepU at h
  split at h
  · unfold stepFirst at h
    split at h
    · cases h
      refine ⟨⟨by simp, by simp, hd, hn⟩, ?_⟩
      simp [Unq.pend]
      omega
    · cases h
  · split at h
    · rename_i hs1
      have hp : u.pend = 0 := by simp [Unq.pend, hs1]
      unfold stepInside at h
      repeat' split at h
      all_goals cases h
      · refine ⟨⟨by simp [Unq.to], by simp [Unq.to], hd, hn⟩, ?_⟩
        simp [Unq.pend, Unq.to]
        omega
      · refine ⟨⟨by simp [Unq.to], by simp [Unq.to], hd, hn⟩, ?_⟩
        rw [hp]
        simp [Unq.pend, Unq.to]
        omega
      · exact hsay r (by omega)
    · split at h
      · rename_i hs2
        have hp : u.pend = 1 := by simp [Unq.pend, hs2]
        unfold stepEscaped at h
        repeat' split at h
        all_goals cases h
        · exact hsay 10 (by rw [enc_small 10 (by omega) (by omega)]; omega)
        · exact hsay 9 (by rw [enc_small 9 (by omega) (by omega)]; omega)
        · exact hsay r (by omega)
        · refine ⟨⟨by simp [Unq.to], by simp [Unq.to], hd, hn⟩, ?_⟩
          rw [hp]
          simp [Unq.pend, Unq.to]
          omega
      · split at h
        · rename_i hs3
          have hp : u.pend = 2 := by simp [Unq.pend, hs3]
          unfold stepNumbered at h
          split at h
          · cases h
            refine ⟨⟨by simp, by simp, by simp, by simp⟩, ?_⟩
            rw [hp]
            simp [Unq.pend]
            omega
          · cases h
        · split at h
          · rename_i hs4
            have hp : u.pend = 3 + u.dig := by simp [Unq.pend, hs4]
            unfold stepCounting at h
            split at h
            · split at h
              · cases h
              · rename_i hnn
                cases h
                have hl := Lib.runeCells_le (u.num : Int)
                rw [Lib.runeCells_length] at hl
                exact hsay _ (by omega)
            · split at h
              · cases h
              · rename_i hne
                cases h
                have hr := hexv_range r
                refine ⟨⟨h0, h5, ?_, ?_⟩, ?_⟩
                · show u.dig + 1 ≤ 6
                  omega
                · show u.num * 16 + (hexv r).toNat < 16 ^ (u.dig + 1)
                  rw [Nat.pow_succ]
                  omega
                · rw [hp]
                  simp [Unq.pend, hs4]
                  omega
          · cases h

def Unq.start : Unq := { st := 0, q := 0, num := 0, dig := 0, said := [] }
/-- What the runes of a text say from a state of the reader on; the place is that of the first of them. -/
def unqS : List (Nat × List UInt8) → Unq → Nat → Option (List UInt8 × Nat)
  | [], _, _ => none
  | x :: xs, u, pos => if strayP x then none else match stepU u x.1 with
    | none => none
    | some u' => if u'.st = 5 then some (u'.said, pos + 1) else unqS xs u' (pos + x.2.length)
/-- What a text in quotes says, and how many bytes it has. -/
def unquoteL (l : List UInt8) : Option (List UInt8 × Nat) := unqS (scan l) Unq.start 0
def unqRes : Option (List UInt8 × Nat) → Ending
  | none => .returned (.tuple #[.string ⟨#[]⟩, .int .i64 0, .int .i64 10])
  | some x => .returned (.tuple #[.string ⟨x.1.toArray⟩, .int .i64 (x.2 : Int), .int .i64 0])

theorem unqS_stray (l : List UInt8) (h : l ≠ []) (hs : strayL l = true) (u : Unq) (pos : Nat) : unqS (scan l) u pos = none := by
  rw [scan_cons l h, unqS, ← strayL_eq l h, hs]; rfl
theorem unqS_none (l : List UInt8) (h : l ≠ []) (hs : strayL l = false) (u : Unq) (pos : Nat) (hu : stepU u (decL l).1 = none) : unqS (scan l) u pos = none := by
  rw [scan_cons l h, unqS, ← strayL_eq l h, hs, hu]; rfl
theorem unqS_end (l : List UInt8) (h : l ≠ []) (hs : strayL l = false) (u u' : Unq) (pos : Nat) (hu : stepU u (decL l).1 = some u') (h5 : u'.st = 5) : unqS (scan l) u pos = some (u'.said, pos + 1) := by
  rw [scan_cons l h, unqS, ← strayL_eq l h, hs, hu]
  simp [h5]
theorem unqS_more (l : List UInt8) (h : l ≠ []) (hs : strayL l = false) (u u' : Unq) (pos : Nat) (hu : stepU u (decL l).1 = some u') (h5 : u'.st ≠ 5) : unqS (scan l) u pos = unqS (scan (l.drop (decL l).2)) u' (pos + (decL l).2) := by
  have := decL_le l h
  rw [scan_cons l h, unqS, ← strayL_eq l h, hs, hu]
  simp [h5, Nat.min_eq_left this]

theorem conv_row {w : World} {B n c : Nat} {a : Option Addr} {l : List UInt8} (h : w.ownsRowF B 5 1 (.slice a n c) n (Lib.byteCells l)) :
    (convert 147 9 (.slice a n c)).run Tryz.prog w = .ok (.string ⟨l.toArray⟩) w := by
  have hn : n = l.length := by have := h.1; rw [Lib.byteCells_length] at this; omega
  rcases h.2 with ⟨hv, h0⟩ | ⟨g, cap, cur, fz, hv, _⟩
  · cases hv
    have hl : l = [] := List.eq_nil_of_length_eq_zero (by omega)
    subst hl
    exact run_convert_bytes_nil w 147 5 Tryz.underlying147 Tryz.underlying5 _ _ 9 Tryz.underlying9
  · cases hv
    subst hn
    refine run_convert_bytes_back w _ _ 5 _ _ l Tryz.underlying147 Tryz.underlying5 Tryz.underlying9 ?_
    intro j hj
    refine h.cells (g := g) rfl j _ ?_
    simp [Lib.byteCells, List.getElem?_eq_getElem hj]

end Go.Proofs.YtadkmlcnmkdfiaaGreatDoor
