/- Own text. The document's heap: one thing of it changed (memory only). -/
import Derived.Test.YtlijplbaefaeaaaDoorVb3
import Derived.Test.YtlijplbaefaeaaaDoorVa1
namespace Go.Proofs.YtlijplbaefaeaaaDoor
open Go.RowKit
set_option linter.unusedVariables false
set_option linter.unusedSimpArgs false

theorem row_apart {W : World} {B B' : Nat} {e e' : TypeId} {s s' : Nat} {v v' : Value} {n n' : Nat} {xs xs' : List Value} (h : W.ownsRow B e s v n xs) (h' : W.ownsRow B' e' s' v' n' xs') (ne : e ≠ e') {b : Nat} (hb : v.ownBlock = some b) : v'.ownBlock ≠ some b := by
  intro hb'
  rcases h.2 with ⟨rfl, _⟩ | ⟨g, cap, cur, rfl, _, hg, _⟩
  · cases hb
  rcases h'.2 with ⟨rfl, _⟩ | ⟨g', cap', cur', rfl, _, hg', _⟩
  · cases hb'
  cases hb
  cases hb'
  rw [hg] at hg'
  injection hg' with q
  injection q with _ q _
  exact ne q
theorem row_block {W : World} {B : Nat} {e : TypeId} {s : Nat} {v : Value} {n : Nat} {xs : List Value} (h : W.ownsRow B e s v n xs) {b : Nat} {cs : Array Value} {t : TypeId} {z : Nat × Nat} (m : W.heap[b]? = some (.cells cs t z)) (ne : e ≠ t) : v.ownBlock ≠ some b := by
  intro hb
  rcases h.2 with ⟨rfl, _⟩ | ⟨g, cap, cur, rfl, _, hg, _⟩
  · cases hb
  cases hb
  rw [hg] at m
  injection m with q
  injection q with _ q _
  exact ne q
theorem HpAt.upd {hb : Nat} {H : Hp} {vt : Value} {V : List Pv} {W W' : World} (h : HpAt hb H vt V W) {m : Nat} (hm : m < H.length) (h2 : m < V.length) (t : Th) (p : Pv) (c : W'.heap[hb]? = W.heap[hb]?)
    (ht : W'.ownsRow 0 77 3 vt H.length (thV (H.set m t) (V.set m p)))
    (hk : ∀ i (hi : i < V.length), i ≠ m → ∀ b, V[i].1.ownBlock = some b ∨ V[i].2.ownBlock = some b → W'.heap[b]? = W.heap[b]?)
    (hn : W'.ownsRow 0 9 1 p.1 t.nm.length (t.nm.map .string)) (hl : W'.ownsRow 0 23 3 p.2 t.ls.length (t.ls.flatMap Vl.cs))
    (f1 : ∀ b, p.1.ownBlock = some b → V[m].1.ownBlock = some b ∨ W.heap.size ≤ b) (f2 : ∀ b, p.2.ownBlock = some b → V[m].2.ownBlock = some b ∨ W.heap.size ≤ b) (ok : t.ob = true → t.nm.length = t.ls.length) :
    HpAt hb (H.set m t) vt (V.set m p) W' := by
  have hlen := h.len
  refine ⟨c.trans h.h, by simpa using hlen, by simpa using ht, fun i h1 h2' => ?_, fun i h1 h2' => ?_, fun i j hi hj ne b => ?_, fun i j hi hj ne b => ?_, fun u hu => ?_⟩
  · by_cases e : m = i
    · subst e
      simpa using hn
    · simp only [List.getElem_set, if_neg e]
      simp only [List.length_set] at h1 h2'
      exact row_same (h.n i h1 h2') (fun g q => hk i h2' (fun w => e w.symm) g (.inl q))
  · by_cases e : m = i
    · subst e
      simpa using hl
    · simp only [List.getElem_set, if_neg e]
      simp only [List.length_set] at h1 h2'
      exact row_same (h.l i h1 h2') (fun g q => hk i h2' (fun w => e w.symm) g (.inr q))
  · simp only [List.length_set] at hi hj
    simp only [List.getElem_set]
    by_cases e : m = i
    · subst e
      rw [if_pos rfl, if_neg ne]
      intro q r
      rcases f1 b q with q | q
      · exact h.an m j hi hj ne b q r
      · have := ((h.n j (by omega) hj).lt b r).2
        omega
    · rw [if_neg e]
      by_cases e' : m = j
      · subst e'
        rw [if_pos rfl]
        intro q r
        rcases f1 b r with r | r
        · exact h.an i m hi hj ne b q r
        · have := ((h.n i (by omega) hi).lt b q).2
          omega
      · rw [if_neg e']
        exact h.an i j hi hj ne b
  · simp only [List.length_set] at hi hj
    simp only [List.getElem_set]
    by_cases e : m = i
    · subst e
      rw [if_pos rfl, if_neg ne]
      intro q r
      rcases f2 b q with q | q
      · exact h.al m j hi hj ne b q r
      · have := ((h.l j (by omega) hj).lt b r).2
        omega
    · rw [if_neg e]
      by_cases e' : m = j
      · subst e'
        rw [if_pos rfl]
        intro q r
        rcases f2 b r with r | r
        · exact h.al i m hi hj ne b q r
        · have := ((h.l i (by omega) hi).lt b q).2
          omega
      · rw [if_neg e']
        exact h.al i j hi hj ne b
  · rcases List.mem_or_eq_of_mem_set hu with hu | rfl
    · exact h.ok u hu
    · exact ok
/-- the blocks of a heap that is changed so. -/
theorem Hs.upd {hb : Nat} {vt : Value} {V : List Pv} {N m : Nat} (h2 : m < V.length) {p : Pv} (f1 : ∀ b, p.1.ownBlock = some b → V[m].1.ownBlock = some b ∨ N ≤ b) (f2 : ∀ b, p.2.ownBlock = some b → V[m].2.ownBlock = some b ∨ N ≤ b) : ∀ b, Hs hb vt (V.set m p) b → Hs hb vt V b ∨ N ≤ b := by
  rintro b (e | e | ⟨q, hq, e⟩)
  · exact .inl (.inl e)
  · exact .inl (.inr (.inl e))
  · rcases List.mem_or_eq_of_mem_set hq with hq | rfl
    · exact .inl (.inr (.inr ⟨q, hq, e⟩))
    · rcases e with e | e
      · exact (f1 b e).imp (fun e => .inr (.inr ⟨_, List.getElem_mem h2, .inl e⟩)) id
      · exact (f2 b e).imp (fun e => .inr (.inr ⟨_, List.getElem_mem h2, .inr e⟩)) id
/-- three cells of a row of things. -/
theorem row_set3 {w : World} {g cap : Nat} {H : Hp} {V : List Pv} {m : Nat} (h : w.ownsRow 0 77 3 (.slice (some ⟨g, 0, none⟩) H.length cap) H.length (thV H V)) (hm : m < H.length) (h2 : m < V.length) (t : Th) (p : Pv) :
    (((w.setCell ⟨g, m * 3, none⟩ (.bool t.ob)).setCell ⟨g, m * 3 + 1, none⟩ p.1).setCell ⟨g, m * 3 + 2, none⟩ p.2).ownsRow 0 77 3 (.slice (some ⟨g, 0, none⟩) H.length cap) H.length (thV (H.set m t) (V.set m p)) := by
  rw [thV_set H V m t p hm h2]
  exact (((h.stored _ _).1.stored _ _).1.stored _ _).1
theorem al_cell {X : World} {a : Addr} {v : Value} (o : Obj) (c : X.cell? a = some v) : (X.alloc o).cell? a = some v := by
  refine (World.cell?_of_block (a := a) ?_).trans c
  by_cases h : a.block < X.heap.size
  · exact Below.heap_alloc X o _ h
  · unfold World.cell? at c
    rw [Array.getElem?_eq_none (by omega)] at c
    simp at c
theorem set_self {α : Type} (l : List α) (i : Nat) (h : i < l.length) : l.set i l[i] = l := by simp
end Go.Proofs.YtlijplbaefaeaaaDoor
