/- Own text. The parts of a graph: mathematics; lists of lists that are being made; the document's Parts. -/
import Derived.Test.YtbliaamckldncaaOd3
import Derived.Deep.AppendLies
namespace Go.Proofs.Ytbliaamckldncaa
open Go.RowKit Gph
set_option linter.unusedVariables false

/-- each can be reached from the other one. -/
def Mut (G : List (List Nat)) (x y : Nat) : Prop := Rch G x y ∧ Rch G y x
theorem Mut.symm {G : List (List Nat)} {x y : Nat} (h : Mut G x y) : Mut G y x := ⟨h.2, h.1⟩
theorem Mut.trans {G : List (List Nat)} {x y z : Nat} (h : Mut G x y) (k : Mut G y z) : Mut G x z := ⟨h.1.trans k.1, k.2.trans h.2⟩
theorem Mut.refl {G : List (List Nat)} (x : Nat) : Mut G x x := ⟨Rch.refl x, Rch.refl x⟩
/-- it says of any two places whether they are in one part. -/
def Tells (G : List (List Nat)) (m : Nat → Nat → Bool) : Prop := ∀ x y, x < G.length → y < G.length → (m x y = true ↔ Mut G x y)
/-- the least of its part. -/
def hd (m : Nat → Nat → Bool) (i : Nat) : Bool := (List.range i).all fun j => !(m j i)
def part (m : Nat → Nat → Bool) (n i : Nat) : List Nat := (List.range n).filter fun k => decide (i ≤ k) && m i k
def partsF (m : Nat → Nat → Bool) (n : Nat) : List (List Nat) := ((List.range n).filter (hd m)).map (part m n)
theorem partsF_congr {G : List (List Nat)} {m m' : Nat → Nat → Bool} (h : Tells G m) (h' : Tells G m') : partsF m G.length = partsF m' G.length := by
  have e : ∀ x y, x < G.length → y < G.length → m x y = m' x y := fun x y hx hy => by
    have a := h x y hx hy
    have b := h' x y hx hy
    cases p : m x y <;> cases q : m' x y <;> simp_all
  have e1 : ∀ i ∈ List.range G.length, hd m i = hd m' i := fun i hi => by
    unfold hd
    have hi' := List.mem_range.1 hi
    rw [Bool.eq_iff_iff, List.all_eq_true, List.all_eq_true]
    exact ⟨fun h j hj => by rw [← e j i (by have := List.mem_range.1 hj; omega) hi']; exact h j hj, fun h j hj => by rw [e j i (by have := List.mem_range.1 hj; omega) hi']; exact h j hj⟩
  unfold partsF
  rw [List.filter_congr e1]
  refine List.map_congr_left fun i hi => ?_
  have hi' := List.mem_range.1 (List.mem_filter.1 hi).1
  unfold part
  exact List.filter_congr fun k hk => by rw [e i k hi' (List.mem_range.1 hk)]
theorem hd_iff {m : Nat → Nat → Bool} {i : Nat} : hd m i = true ↔ ∀ j, j < i → m j i = false := by
  unfold hd
  rw [List.all_eq_true]
  exact ⟨fun h j hj => by simpa using h j (List.mem_range.2 hj), fun h j hj => by simp [h j (List.mem_range.1 hj)]⟩
/-- a place stands in the part of a least one. -/
theorem hd_ex {G : List (List Nat)} {m : Nat → Nat → Bool} (h : Tells G m) : ∀ i, i < G.length → ∃ j, j ≤ i ∧ hd m j = true ∧ m j i = true := by
  intro i
  induction i using Nat.strongRecOn with
  | _ i ih =>
    intro hi
    cases q : hd m i with
    | true => exact ⟨i, Nat.le_refl _, q, (h i i hi hi).2 (Mut.refl i)⟩
    | false =>
      have : ∃ j, j < i ∧ m j i = true := by
        refine Classical.byContradiction fun hn => ?_
        have : hd m i = true := hd_iff.2 fun j hj => by
          cases e : m j i with
          | false => rfl
          | true => exact absurd ⟨j, hj, e⟩ hn
        rw [q] at this; cases this
      obtain ⟨j, hj, e⟩ := this
      obtain ⟨k, hk, k1, k2⟩ := ih j hj (by omega)
      exact ⟨k, by omega, k1, (h k i (by omega) hi).2 (((h k j (by omega) (by omega)).1 k2).trans ((h j i (by omega) hi).1 e))⟩
/-- told: in the part of a least place ahead. -/
theorem told_iff {G : List (List Nat)} {m : Nat → Nat → Bool} (h : Tells G m) {i : Nat} (hi : i < G.length) : (∃ j, j < i ∧ hd m j = true ∧ m j i = true) ↔ hd m i = false := by
  constructor
  · rintro ⟨j, hj, _, e⟩
    cases q : hd m i with
    | false => rfl
    | true => rw [hd_iff.1 q j hj] at e; cases e
  · intro q
    obtain ⟨j, hj, h1, h2⟩ := hd_ex h i hi
    rcases Nat.lt_or_eq_of_le hj with hj | rfl
    · exact ⟨j, hj, h1, h2⟩
    · rw [q] at h1; cases h1
theorem filter_range_succ {p : Nat → Bool} (k : Nat) : (List.range (k + 1)).filter p = (List.range k).filter p ++ (if p k = true then [k] else []) := by
  rw [List.range_succ, List.filter_append]
  congr 1
  by_cases h : p k = true
  · rw [if_pos h]; simp [h]
  · rw [if_neg h]; simp [h]

/-- flags in rows, kept. -/
theorem row_bel {w w' : World} {base : Nat} {e : TypeId} {size : Nat} {v : Value} {n : Nat} {xs : List Value} (h : w.ownsRow base e size v n xs) (b : Below w.heap.size w w') : w'.ownsRow base e size v n xs :=
  h.kept (row := none) ⟨b.os, b.tape, b.output, b.size, fun k hk _ => b.block k hk⟩ (by cases v.ownBlock <;> simp)
theorem row_off {w w' : World} {base g : Nat} {e : TypeId} {size : Nat} {v : Value} {n : Nat} {xs : List Value} (h : w.ownsRow base e size v n xs) (k : w.grownBy w' (some g)) (hg : g < base) : w'.ownsRow base e size v n xs :=
  h.kept k (by cases hv : v.ownBlock with | none => exact Or.inl rfl | some q => have := (World.ownsRow.lt h q hv).1; exact Or.inr (by intro e; injection e; omega))
theorem info_bs : (Try.prog.info? 51).map (fun i => (i.zero, i.size, i.bytes)) = some (some (.slice none 0 0), 1, 24) := by kernel_rfl
theorem info_is : (Try.prog.info? 31).map (fun i => (i.zero, i.size, i.bytes)) = some (some (.slice none 0 0), 1, 24) := by kernel_rfl
def nils (n : Nat) : Array Value := madeCells (Value.slice none 0 0).cells n
theorem make_bs (n : Nat) (hn : n ≤ 4194304) (W : World) : (Instr.makeSlice 50 (.int .i64 (n : Nat)) (.int .i64 (n : Nat))).run Try.prog W = .ok (.slice (some ⟨W.heap.size, 0, none⟩) n n) (W.alloc (.cells (nils n) 51)) := by
  obtain ⟨i0, hi0, hz0, hz1, hz2⟩ := info_parts info_bs
  have h := run_make (P := Try.prog) W 50 51 i0 (.slice none 0 0) Try.underlying50 hi0 hz0 .i64 .i64 n n (by omega) (by omega) (by rw [hz2]; omega) (by omega)
  rw [hz1] at h
  simpa [nils] using h
theorem nils_row {w : World} {base n : Nat} (hb : base ≤ w.heap.size) (hn : n ≤ 4194304) : (w.alloc (.cells (nils n) 51)).ownsRow base 51 1 (.slice (some ⟨w.heap.size, 0, none⟩) n n) n (nils n).toList :=
  World.ownsRow_lit (base := base) (e := 51) (size := 1) w (nils n) n hb (by unfold maxLen; omega) (by unfold nils; rw [size_madeCells]; omega)
/-- for each place, up to the k-th, what can be reached from it. -/
structure AllT (w : World) (G : List (List Nat)) (base ga k : Nat) (A : Nat → List Bool) (gs : Nat → Nat) : Prop where
  row : ∃ cs, w.ownsRow base 51 1 (.slice (some ⟨ga, 0, none⟩) G.length G.length) G.length cs ∧ ∀ j, j < k → cs[j]? = some (.slice (some ⟨gs j, 0, none⟩) G.length G.length)
  fl : ∀ j, j < k → Fl w (ga + 1) (gs j) G.length (A j)
  spec : ∀ j, j < k → ∀ y, on (A j) y ↔ Rch G j y
theorem AllT.bel {w w' : World} {G : List (List Nat)} {base ga k : Nat} {A : Nat → List Bool} {gs : Nat → Nat} (h : AllT w G base ga k A gs) (b : Below w.heap.size w w') : AllT w' G base ga k A gs := by
  obtain ⟨cs, h1, h2⟩ := h.row
  exact ⟨⟨cs, row_bel h1 b, h2⟩, fun j hj => row_bel (h.fl j hj) b, h.spec⟩
/-- the next one is laid in. -/
theorem AllT.next {w : World} {G : List (List Nat)} {base ga k g : Nat} {A : Nat → List Bool} {gs : Nat → Nat} {S : List Bool} (h : AllT w G base ga k A gs) (hk : k < G.length) (hF : Fl w (ga + 1) g G.length S) (hs : ∀ y, on S y ↔ Rch G k y) :
    AllT (w.setCell ⟨ga, k, none⟩ (.slice (some ⟨g, 0, none⟩) G.length G.length)) G base ga (k + 1) (fun j => if j = k then S else A j) (fun j => if j = k then g else gs j) := by
  obtain ⟨cs, h1, h2⟩ := h.row
  obtain ⟨h3, h4⟩ := World.ownsRow.stored h1 k (.slice (some ⟨g, 0, none⟩) G.length G.length)
  have hl : cs.length = G.length := by have := h1.1; omega
  refine ⟨⟨_, h3, fun j hj => ?_⟩, fun j hj => ?_, fun j hj => ?_⟩
  · by_cases e : j = k
    · subst e; rw [if_pos rfl, List.getElem?_set_self (by omega)]
    · rw [if_neg e, List.getElem?_set_ne (fun h => e h.symm)]; exact h2 j (by omega)
  · by_cases e : j = k
    · subst e; rw [if_pos rfl, if_pos rfl]; exact row_off hF h4 (by omega)
    · rw [if_neg e, if_neg e]; exact row_off (h.fl j (by omega)) h4 (by omega)
  · by_cases e : j = k
    · subst e; rw [if_pos rfl]; exact hs
    · rw [if_neg e]; exact h.spec j (by omega)
/-- what is read there. -/
theorem AllT.at {w : World} {G : List (List Nat)} {base ga : Nat} {A : Nat → List Bool} {gs : Nat → Nat} (h : AllT w G base ga G.length A gs) {x y : Nat} (hx : x < G.length) (hy : y < G.length) :
    w.cell? ⟨ga, x, none⟩ = some (.slice (some ⟨gs x, 0, none⟩) G.length G.length) ∧ w.cell? ⟨gs x, y, none⟩ = some (.bool (isOn (A x) y)) := by
  obtain ⟨cs, h1, h2⟩ := h.row
  exact ⟨by rw [World.ownsRow.cellAt h1 x (by omega)]; exact h2 x hx, ((h.fl x hx).at hy).1⟩
theorem AllT.lt {w : World} {G : List (List Nat)} {base ga k : Nat} {A : Nat → List Bool} {gs : Nat → Nat} (h : AllT w G base ga k A gs) : ga < w.heap.size := by
  obtain ⟨cs, h1, h2⟩ := h.row
  exact (World.ownsRow.lt h1 ga rfl).2
theorem AllT.tells {w : World} {G : List (List Nat)} {base ga : Nat} {A : Nat → List Bool} {gs : Nat → Nat} (h : AllT w G base ga G.length A gs) : Tells G (fun x y => isOn (A x) y && isOn (A y) x) := fun x y hx hy => by
  rw [Bool.and_eq_true, isOn_iff, isOn_iff, h.spec x hx, h.spec y hy]; rfl
end Go.Proofs.Ytbliaamckldncaa
