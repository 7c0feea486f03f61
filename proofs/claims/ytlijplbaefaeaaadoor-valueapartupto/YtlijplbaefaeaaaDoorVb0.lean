/- Own text. The document's heap in memory. -/
import Derived.Test.YtlijplbaefaeaaaDoorVa4
namespace Go.Proofs.YtlijplbaefaeaaaDoor
open Go.RowKit
set_option linter.unusedVariables false
set_option linter.unusedSimpArgs false

abbrev Pv := Value × Value
def thC (t : Th) (p : Pv) : List Value := [.bool t.ob, p.1, p.2]
def thV : Hp → List Pv → List Value
  | t :: H, p :: V => thC t p ++ thV H V
  | _, _ => []
theorem thV_len : ∀ (H : Hp) (V : List Pv), V.length = H.length → (thV H V).length = H.length * 3
  | [], _, _ => by simp [thV]
  | t :: H, [], h => by simp at h
  | t :: H, p :: V, h => by
    rw [thV, List.length_append, thV_len H V (by simpa using h), List.length_cons]
    simp [thC]
    omega
theorem thV_get : ∀ (H : Hp) (V : List Pv) (i : Nat) (h1 : i < H.length) (h2 : i < V.length) (j : Nat), j < 3 → (thV H V)[i * 3 + j]? = (thC H[i] V[i])[j]?
  | t :: H, p :: V, 0, h1, h2, j, hj => by
    rw [thV, List.getElem?_append_left (by simp [thC]; omega)]
    simp
  | t :: H, p :: V, i + 1, h1, h2, j, hj => by
    rw [thV, List.getElem?_append_right (by simp [thC]; omega)]
    have := thV_get H V i (by simpa using h1) (by simpa using h2) j hj
    rw [show (i + 1) * 3 + j - (thC t p).length = i * 3 + j by simp [thC]; omega, this]
    rfl
theorem thV_app : ∀ (H : Hp) (V : List Pv) (t : Th) (p : Pv), V.length = H.length → thV (H ++ [t]) (V ++ [p]) = thV H V ++ thC t p
  | [], [], t, p, _ => by simp [thV]
  | [], q :: V, t, p, h => by simp at h
  | u :: H, [], t, p, h => by simp at h
  | u :: H, q :: V, t, p, h => by
    rw [List.cons_append, List.cons_append, thV, thV, thV_app H V t p (by simpa using h), List.append_assoc]
theorem thV_set : ∀ (H : Hp) (V : List Pv) (i : Nat) (t : Th) (p : Pv), i < H.length → i < V.length → thV (H.set i t) (V.set i p) = (((thV H V).set (i * 3) (.bool t.ob)).set (i * 3 + 1) p.1).set (i * 3 + 2) p.2
  | u :: H, q :: V, 0, t, p, _, _ => by simp [thV, thC]
  | u :: H, q :: V, i + 1, t, p, h1, h2 => by
    rw [List.set_cons_succ, List.set_cons_succ, thV, thV, thV_set H V i t p (by simpa using h1) (by simpa using h2)]
    rw [show (i + 1) * 3 = i * 3 + 3 by omega]
    simp [thC]
/-- the blocks of a heap. -/
def Hs (hb : Nat) (vt : Value) (V : List Pv) (b : Nat) : Prop := b = hb ∨ vt.ownBlock = some b ∨ ∃ p ∈ V, p.1.ownBlock = some b ∨ p.2.ownBlock = some b
structure HpAt (hb : Nat) (H : Hp) (vt : Value) (V : List Pv) (W : World) : Prop where
  h : W.heap[hb]? = some (.cells #[vt] 34 (0, 0))
  len : V.length = H.length
  t : W.ownsRow 0 77 3 vt H.length (thV H V)
  n : ∀ i (h1 : i < H.length) (h2 : i < V.length), W.ownsRow 0 9 1 V[i].1 H[i].nm.length (H[i].nm.map .string)
  l : ∀ i (h1 : i < H.length) (h2 : i < V.length), W.ownsRow 0 23 3 V[i].2 H[i].ls.length (H[i].ls.flatMap Vl.cs)
  an : ∀ i j (hi : i < V.length) (hj : j < V.length), i ≠ j → ∀ b, V[i].1.ownBlock = some b → V[j].1.ownBlock ≠ some b
  al : ∀ i j (hi : i < V.length) (hj : j < V.length), i ≠ j → ∀ b, V[i].2.ownBlock = some b → V[j].2.ownBlock ≠ some b
  ok : ∀ t ∈ H, t.ob = true → t.nm.length = t.ls.length
theorem row_same {W W' : World} {B : Nat} {e : TypeId} {size : Nat} {v : Value} {n : Nat} {xs : List Value} (h : W.ownsRow B e size v n xs) (k : ∀ g, v.ownBlock = some g → W'.heap[g]? = W.heap[g]?) : W'.ownsRow B e size v n xs := by
  refine ⟨h.1, ?_⟩
  rcases h.2 with hn | ⟨g, cap, cur, rfl, hb, hg, r⟩
  · exact .inl hn
  · exact .inr ⟨g, cap, cur, rfl, hb, (k g rfl).trans hg, r⟩
theorem HpAt.keep {hb : Nat} {H : Hp} {vt : Value} {V : List Pv} {W W' : World} (h : HpAt hb H vt V W) (k : ∀ b, Hs hb vt V b → W'.heap[b]? = W.heap[b]?) : HpAt hb H vt V W' :=
  ⟨(k hb (.inl rfl)).trans h.h, h.len, row_same h.t (fun g e => k g (.inr (.inl e))), fun i h1 h2 => row_same (h.n i h1 h2) (fun g e => k g (.inr (.inr ⟨V[i], List.getElem_mem h2, .inl e⟩))), fun i h1 h2 => row_same (h.l i h1 h2) (fun g e => k g (.inr (.inr ⟨V[i], List.getElem_mem h2, .inr e⟩))), h.an, h.al, h.ok⟩
theorem HpAt.lt {hb : Nat} {H : Hp} {vt : Value} {V : List Pv} {W : World} (h : HpAt hb H vt V W) : ∀ b, Hs hb vt V b → b < W.heap.size := by
  rintro b (rfl | e | ⟨p, hp, e | e⟩)
  · exact glt h.h
  · exact (h.t.lt b e).2
  · obtain ⟨i, hi, rfl⟩ := List.mem_iff_getElem.1 hp
    exact ((h.n i (by have := h.len; omega) hi).lt b e).2
  · obtain ⟨i, hi, rfl⟩ := List.mem_iff_getElem.1 hp
    exact ((h.l i (by have := h.len; omega) hi).lt b e).2
def dAt (W : World) (hb : Nat) (H : Hp) (S : Nat → Prop) : Prop := ∃ vt V, HpAt hb H vt V W ∧ ∀ b, S b ↔ Hs hb vt V b
theorem dAt.keep {W W' : World} {hb : Nat} {H : Hp} {S : Nat → Prop} (h : dAt W hb H S) (k : ∀ b, S b → W'.heap[b]? = W.heap[b]?) : dAt W' hb H S := by
  obtain ⟨vt, V, h, e⟩ := h
  exact ⟨vt, V, h.keep (fun b hb' => k b ((e b).2 hb')), e⟩
theorem dAt.lt {W : World} {hb : Nat} {H : Hp} {S : Nat → Prop} (h : dAt W hb H S) : ∀ b, S b → b < W.heap.size := by
  obtain ⟨vt, V, h, e⟩ := h
  exact fun b hb' => h.lt b ((e b).1 hb')
/-- what is read of a heap. -/
theorem HpAt.cell {hb : Nat} {H : Hp} {vt : Value} {V : List Pv} {W : World} (h : HpAt hb H vt V W) : W.cell? ⟨hb, 0, none⟩ = some vt ∧ W.frozen? ⟨hb, 0, none⟩ = false := by simp [World.cell?, World.frozen?, h.h]
theorem vform {w : World} {base : Nat} {e : TypeId} {size : Nat} {v : Value} {n : Nat} {xs : List Value} (h : w.ownsRow base e size v n xs) : ∃ A c, v = .slice A n c := by
  rcases h.2 with ⟨rfl, rfl⟩ | ⟨g, cap, cur, rfl, _⟩
  · exact ⟨none, 0, rfl⟩
  · exact ⟨_, cap, rfl⟩
theorem HpAt.thing {hb : Nat} {H : Hp} {vt : Value} {V : List Pv} {W : World} (h : HpAt hb H vt V W) {i : Nat} (hi : i < H.length) : ∃ (g c : Nat) (h2 : i < V.length), vt = .slice (some ⟨g, 0, none⟩) H.length c ∧ (W.cell? ⟨g, i * 3, none⟩ = some (.bool H[i].ob) ∧ W.cell? ⟨g, i * 3 + 1, none⟩ = some V[i].1 ∧ W.cell? ⟨g, i * 3 + 2, none⟩ = some V[i].2) ∧ (∀ j, W.frozen? ⟨g, j, none⟩ = false) ∧ g < W.heap.size := by
  have h2 : i < V.length := by have := h.len; omega
  obtain ⟨g, c, e, _, hg⟩ := h.t.form (by omega)
  have ht := h.t
  rw [e] at ht
  have cc := fun j (hj : j < 3) => (ht.cellAt (i * 3 + j) (by omega)).trans (thV_get H V i hi h2 j hj)
  exact ⟨g, c, h2, e, ⟨cc 0 (by omega), cc 1 (by omega), cc 2 (by omega)⟩, fun j => ht.frozenAt j, hg⟩
end Go.Proofs.YtlijplbaefaeaaaDoor
