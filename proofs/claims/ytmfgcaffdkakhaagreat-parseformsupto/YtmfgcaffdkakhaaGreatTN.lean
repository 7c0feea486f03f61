/- Own text. Trees in memory of their own, each list apart from all others; Copy of package tree. The walk over all places of a tree. A loop over what goes over a tree: from the iterator's own contract to the statement. Copy of package tree. Size and At of package tree. A tree with another in one of its places, in memory. Replace of package tree. A tree in a cell of its own. -/
import Derived.Test.YtmfgcaffdkakhaaGreatT3
import Derived.Test.YtmfgcaffdkakhaaGreatShelf
import Derived.Laws.MakeOwn
import Derived.RangeFuncNested
import Derived.RangeFuncBound
import Derived.RangeFuncCalls
import Derived.RangeFuncLeaves
import Derived.Shelf.Abstract
import Derived.Shelf.RegionOpen
import Derived.OwnWalkIn
import Derived.TacticsInMore
import Derived.LoopNIn
import Derived.LoopIn
import Derived.Laws.EntriesVeiled
namespace Go.Proofs.YtmfgcaffdkakhaaGreat
open Go.RowKit
set_option linter.unusedVariables false

/-- no text of a tree is too long. -/
def Nd.tx (x : Nd) : Prop := ∀ y ∈ x.flat, y.t.size ≤ 4194304
theorem flats_mem : ∀ {l : List Nd} {x y : Nd}, x ∈ l → y ∈ x.flat → y ∈ flats l
  | z :: l, x, y, h, hy => by
    rw [flats_cons]
    rcases List.mem_cons.1 h with rfl | h
    · exact List.mem_append_left _ hy
    · exact List.mem_append_right _ (flats_mem h hy)
theorem Nd.tx_kid {x y : Nd} (h : x.tx) (hy : y ∈ x.ks) : y.tx := fun z hz => h z (by rw [x.flat_eq]; exact List.mem_cons_of_mem _ (flats_mem hy hz))
theorem Nd.tx_own {x : Nd} (h : x.tx) : x.t.size ≤ 4194304 := h x (by rw [x.flat_eq]; exact List.mem_cons_self)

/-- v is a list of these trees in memory of its own: each list of theirs is apart from all others; all lie in blocks of S. -/
inductive Sep (w : World) : (Nat → Prop) → Value → List Nd → Prop
  | nil (S : Nat → Prop) : Sep w S (.slice none 0 0) []
  | row (S : Nat → Prop) (bl : Nat) (ks : List Nd) (f : Nat → Value) (T : Nat → Nat → Prop) (cur : Array Value) (hn : 0 < ks.length) (hS : S bl) (hT : ∀ i b, T i b → S b) (hTb : ∀ i, ¬ T i bl) (hd : ∀ i j b, i ≠ j → T i b → ¬ T j b)
      (hg : w.heap[bl]? = some (.cells cur 27 (0, 0))) (hcs : cur.size = ks.length * 4) (h4 : ∀ i (h : i < ks.length), Four w bl (i * 4) ks[i] (f i)) (hk : ∀ i (h : i < ks.length), Sep w (T i) (f i) ks[i].ks) :
      Sep w S (.slice (some ⟨bl, 0, none⟩) ks.length ks.length) ks

theorem Sep.lat {w : World} {S : Nat → Prop} {v : Value} {ks : List Nd} (h : Sep w S v ks) : LAt w S v ks := by
  induction h with
  | nil S => exact .nil _ _
  | row S bl ks f T cur hn hS hT hTb hd hg hcs h4 hk ih =>
    exact .row bl 0 _ ks f hS (Array.getElem?_eq_some_iff.1 hg).1 (fun i hi => by rw [Nat.zero_add]; exact h4 i hi) (fun i hi => (ih i hi).mono (hT i))
theorem Sep.keep {w w' : World} {S : Nat → Prop} {v : Value} {ks : List Nd} (h : Sep w S v ks) (hb : ∀ b, S b → b < w.heap.size → w'.heap[b]? = w.heap[b]?) : Sep w' S v ks := by
  induction h with
  | nil S => exact .nil _
  | row S bl ks f T cur hn hS hT hTb hd hg hcs h4 hk ih =>
    have e := hb bl hS (Array.getElem?_eq_some_iff.1 hg).1
    exact .row S bl ks f T cur hn hS hT hTb hd (e.trans hg) hcs (fun i hi => (h4 i hi).of_block e) (fun i hi => ih i hi (fun b hT' hl => hb b (hT i b hT') hl))
theorem Sep.mono {w : World} {S S' : Nat → Prop} {v : Value} {ks : List Nd} (h : Sep w S v ks) (hS' : ∀ b, S b → S' b) : Sep w S' v ks := by
  cases h with
  | nil => exact .nil _
  | row _ bl ks f T cur hn hS hT hTb hd hg hcs h4 hk => exact .row _ bl ks f T cur hn (hS' bl hS) (fun i b h => hS' b (hT i b h)) hTb hd hg hcs h4 hk
theorem Sep.sl {w : World} {S : Nat → Prop} {v : Value} {ks : List Nd} (h : Sep w S v ks) : ∃ a c, v = .slice a ks.length c := h.lat.sl

/-- k kids of a list have been copied: the list at bl, the kids' own lists one behind the other. -/
structure Half (w : World) (bl : Nat) (ks : List Nd) (k : Nat) (f : Nat → Value) (g : Nat → Nat) : Prop where
  row : ∃ cur, w.heap[bl]? = some (.cells cur 27 (0, 0)) ∧ cur.size = ks.length * 4
  lo : bl < g 0
  up : ∀ i, i < k → g i ≤ g (i + 1)
  hi : g k ≤ w.heap.size
  four : ∀ i (h : i < ks.length), i < k → Four w bl (i * 4) ks[i] (f i)
  kid : ∀ i (h : i < ks.length), i < k → Sep w (fun b => g i ≤ b ∧ b < g (i + 1)) (f i) ks[i].ks
theorem Half.mono_g {w : World} {bl : Nat} {ks : List Nd} {k : Nat} {f : Nat → Value} {g : Nat → Nat} (h : Half w bl ks k f g) : ∀ {i j : Nat}, i ≤ j → j ≤ k → g i ≤ g j := by
  intro i j hij hjk
  induction j with
  | zero => obtain rfl : i = 0 := by omega
            exact Nat.le_refl _
  | succ j ih =>
    by_cases e : i = j + 1
    · subst e; exact Nat.le_refl _
    · exact Nat.le_trans (ih (by omega) (by omega)) (h.up j (by omega))
theorem Half.bel {w w' : World} {bl : Nat} {ks : List Nd} {k : Nat} {f : Nat → Value} {g : Nat → Nat} (h : Half w bl ks k f g) (b : Below w.heap.size w w') : Half w' bl ks k f g := by
  obtain ⟨cur, hc, hs⟩ := h.row
  have hl := (Array.getElem?_eq_some_iff.1 hc).1
  exact ⟨⟨cur, (b.block bl hl).trans hc, hs⟩, h.lo, h.up, Nat.le_trans h.hi b.size, fun i hi hk => (h.four i hi hk).of_block (b.block bl hl), fun i hi hk => (h.kid i hi hk).keep (fun j _ hj => b.block j hj)⟩
theorem set4_block {W : World} {bl o : Nat} {cur : Array Value} {t : TypeId} {fr : Nat × Nat} (p q r s : Value) (h : W.heap[bl]? = some (.cells cur t fr)) :
    ((((W.setCell ⟨bl, o, none⟩ p).setCell ⟨bl, o + 1, none⟩ q).setCell ⟨bl, o + 2, none⟩ r).setCell ⟨bl, o + 3, none⟩ s).heap[bl]? = some (.cells ((((cur.setIfInBounds o p).setIfInBounds (o + 1) q).setIfInBounds (o + 2) r).setIfInBounds (o + 3) s) t fr) := by
  simp [World.setCell, Array.getElem?_modify, h]
theorem set4_other {W : World} {bl o b : Nat} (p q r s : Value) (h : b ≠ bl) :
    ((((W.setCell ⟨bl, o, none⟩ p).setCell ⟨bl, o + 1, none⟩ q).setCell ⟨bl, o + 2, none⟩ r).setCell ⟨bl, o + 3, none⟩ s).heap[b]? = W.heap[b]? := by
  rw [Below.heap_setCell _ _ _ _ h, Below.heap_setCell _ _ _ _ h, Below.heap_setCell _ _ _ _ h, Below.heap_setCell _ _ _ _ h]
theorem set4_size {W : World} {bl o : Nat} (p q r s : Value) : ((((W.setCell ⟨bl, o, none⟩ p).setCell ⟨bl, o + 1, none⟩ q).setCell ⟨bl, o + 2, none⟩ r).setCell ⟨bl, o + 3, none⟩ s).heap.size = W.heap.size := by simp [World.setCell]
theorem set4_cell {W : World} {bl o n : Nat} {cur : Array Value} {t : TypeId} {fr : Nat × Nat} (p q r s : Value) (h : W.heap[bl]? = some (.cells cur t fr)) (j : Nat) :
    ((((W.setCell ⟨bl, o, none⟩ p).setCell ⟨bl, o + 1, none⟩ q).setCell ⟨bl, o + 2, none⟩ r).setCell ⟨bl, o + 3, none⟩ s).cell? ⟨bl, j, none⟩ = ((((cur.setIfInBounds o p).setIfInBounds (o + 1) q).setIfInBounds (o + 2) r).setIfInBounds (o + 3) s)[j]? :=
  cell_of_row _ bl _ _ _ _ (set4_block p q r s h)
theorem Half.next {w W3 : World} {bl : Nat} {ks : List Nd} {k : Nat} {f : Nat → Value} {g : Nat → Nat} {v : Value} (h : Half w bl ks k f g) (b : Below w.heap.size w W3) (hk : k < ks.length) (hv : Sep W3 (fun b => w.heap.size ≤ b ∧ b < W3.heap.size) v ks[k].ks) :
    Half ((((W3.setCell ⟨bl, k * 4, none⟩ (.int .i64 ks[k].k)).setCell ⟨bl, k * 4 + 1, none⟩ (.string ks[k].t)).setCell ⟨bl, k * 4 + 2, none⟩ (.int .i64 ks[k].n)).setCell ⟨bl, k * 4 + 3, none⟩ v) bl ks (k + 1) (fun i => if i = k then v else f i) (fun i => if i = k + 1 then W3.heap.size else g i) := by
  obtain ⟨cur, hc, hs⟩ := h.row
  have hl := (Array.getElem?_eq_some_iff.1 hc).1
  have hc3 : W3.heap[bl]? = some (.cells cur 27 (0, 0)) := (b.block bl hl).trans hc
  have sz3 := b.size
  have hi3 := h.hi
  have lo3 := h.lo
  have gk : bl < g k := Nat.lt_of_lt_of_le lo3 (h.mono_g (Nat.zero_le k) (Nat.le_refl k))
  refine ⟨⟨_, set4_block _ _ _ _ hc3, by simpa using hs⟩, ?_, ?_, ?_, ?_, ?_⟩
  · simpa using lo3
  · intro i hi
    by_cases e : i = k
    · subst e; simp; omega
    · have := h.up i (by omega)
      simp only [show ¬ i = k + 1 by omega, if_false, show ¬ i + 1 = k + 1 by omega]
      exact this
  · rw [set4_size]; simp
  · intro i hi hik
    have C := fun j => set4_cell (o := k * 4) (n := 0) (.int .i64 ks[k].k) (.string ks[k].t) (.int .i64 ks[k].n) v hc3 j
    by_cases e : i = k
    · subst e
      simp only [if_true]
      refine ⟨?_, ?_, ?_, ?_⟩ <;> (rw [C]; simp only [Array.getElem?_setIfInBounds, Array.size_setIfInBounds, hs]) <;> simp <;> omega
    · simp only [e, if_false]
      have h0 := (h.four i hi (by omega)).of_block (b.block bl hl)
      have D : ∀ j, W3.cell? ⟨bl, j, none⟩ = cur[j]? := fun j => cell_of_row W3 bl _ _ _ _ hc3
      have key : ∀ j, j < k * 4 → (((((cur.setIfInBounds (k * 4) (.int .i64 ks[k].k)).setIfInBounds (k * 4 + 1) (.string ks[k].t)).setIfInBounds (k * 4 + 2) (.int .i64 ks[k].n)).setIfInBounds (k * 4 + 3) v)[j]? : Option Value) = cur[j]? := fun j hj => by
        simp only [Array.getElem?_setIfInBounds]
        rw [if_neg (by omega), if_neg (by omega), if_neg (by omega), if_neg (by omega)]
      refine ⟨?_, ?_, ?_, ?_⟩
      · rw [C, key _ (by omega), ← D]; exact h0.1
      · rw [C, key _ (by omega), ← D]; exact h0.2.1
      · rw [C, key _ (by omega), ← D]; exact h0.2.2.1
      · rw [C, key _ (by omega), ← D]; exact h0.2.2.2
  · intro i hi hik
    by_cases e : i = k
    · subst e
      simp only [if_true, show ¬ i = i + 1 by omega, if_false]
      refine (hv.keep (fun j hj hlt => set4_other _ _ _ _ ?_)).mono (fun j hj => ⟨?_, hj.2⟩)
      · have := hj.1; omega
      · have := hj.1; omega
    · simp only [e, if_false, show ¬ i = k + 1 by omega, show ¬ i + 1 = k + 1 by omega]
      refine (h.kid i hi (by omega)).keep (fun j hj hlt => (set4_other _ _ _ _ ?_).trans (b.block j hlt))
      have := hj.1
      have := h.mono_g (i := 0) (j := i) (by omega) (by omega)
      omega
end Go.Proofs.YtmfgcaffdkakhaaGreat
namespace Go.Proofs.YtmfgcaffdkakhaaGreat
open Go.RowKit
set_option linter.unusedVariables false
attribute [local go_sem] Oper.semAt_some

/-- in the cells from ⟨b, o⟩ on lies the tree x, its lists in blocks of T. -/
def NAt (w : World) (T : Nat → Prop) (b o : Nat) (x : Nd) : Prop := ∃ v, T b ∧ Four w b o x v ∧ LAt w T v x.ks
theorem NAt.keep {w w' : World} {T : Nat → Prop} {b o : Nat} {x : Nd} (h : NAt w T b o x) (hs : w.heap.size ≤ w'.heap.size) (e : ∀ c, T c → w'.heap[c]? = w.heap[c]?) : NAt w' T b o x := by
  obtain ⟨v, h1, h2, h3⟩ := h
  exact ⟨v, h1, h2.of_block (e b h1), h3.keep hs (fun c hc _ => e c hc)⟩

/-- the place k of the tree x at ⟨b, o⟩ is y, at ⟨b', o'⟩. -/
inductive PlT (w : World) : Nat → Nat → Nd → Nat → Nat → Nat → Nd → Prop
  | here (b o : Nat) (x : Nd) : PlT w b o x 0 b o x
  | kid (b o : Nat) (x : Nd) (bl ol c i : Nat) (hi : i < x.ks.length) (hc : w.cell? ⟨b, o + 3, none⟩ = some (.slice (some ⟨bl, ol, none⟩) x.ks.length c)) (k b' o' : Nat) (y : Nd) (h : PlT w bl (ol + i * 4) x.ks[i] k b' o' y) : PlT w b o x (1 + sizes (x.ks.take i) + k) b' o' y
theorem PlT.snoc {w : World} {b o : Nat} {x : Nd} {k b' o' : Nat} {y : Nd} (h : PlT w b o x k b' o' y) {bl ol c i : Nat} (hi : i < y.ks.length) (hc : w.cell? ⟨b', o' + 3, none⟩ = some (.slice (some ⟨bl, ol, none⟩) y.ks.length c)) :
    PlT w b o x (k + (1 + sizes (y.ks.take i))) bl (ol + i * 4) y.ks[i] := by
  induction h with
  | here b o x =>
    have := PlT.kid b o x bl ol c i hi hc 0 _ _ _ (.here _ _ _)
    simpa using this
  | kid b o x bl' ol' c' i' hi' hc' k b' o' y h ih =>
    rw [Nat.add_assoc]
    exact .kid b o x bl' ol' c' i' hi' hc' _ _ _ _ (ih hi hc)
theorem flats_get : ∀ (l : List Nd) (i k : Nat) (hi : i < l.length), k < l[i].size → (flats l)[sizes (l.take i) + k]? = l[i].flat[k]?
  | x :: l, 0, k, hi, hk => by
    rw [flats_cons, List.take_zero, sizes_nil, Nat.zero_add]
    simp only [List.getElem_cons_zero] at hk ⊢
    exact List.getElem?_append_left (by rw [x.flat_len]; exact hk)
  | x :: l, i + 1, k, hi, hk => by
    rw [flats_cons, List.take_succ_cons, sizes_cons]
    simp only [List.getElem_cons_succ] at hk ⊢
    rw [List.getElem?_append_right (by rw [x.flat_len]; omega), x.flat_len, show x.size + sizes (l.take i) + k - x.size = sizes (l.take i) + k by omega]
    exact flats_get l i k (by simpa using hi) hk
theorem PlT.flat {w : World} {b o : Nat} {x : Nd} {k b' o' : Nat} {y : Nd} (h : PlT w b o x k b' o' y) : x.flat[k]? = some y := by
  induction h with
  | here b o x => rw [x.flat_eq]; rfl
  | kid b o x bl ol c i hi hc k b' o' y h ih =>
    have hk : k < x.ks[i].size := by rw [← x.ks[i].flat_len]; exact (List.getElem?_eq_some_iff.1 ih).1
    rw [x.flat_eq, show 1 + sizes (x.ks.take i) + k = (sizes (x.ks.take i) + k) + 1 by omega, List.getElem?_cons_succ, flats_get _ _ _ hi hk]
    exact ih

end Go.Proofs.YtmfgcaffdkakhaaGreat
namespace Go.Proofs.YtmfgcaffdkakhaaGreat
open Go.RowKit
set_option linter.unusedVariables false
end Go.Proofs.YtmfgcaffdkakhaaGreat
namespace Go.Proofs.YtmfgcaffdkakhaaGreat
open Go.RowKit
set_option linter.unusedVariables false
end Go.Proofs.YtmfgcaffdkakhaaGreat
namespace Go.Proofs.YtmfgcaffdkakhaaGreat
open Go.RowKit
set_option linter.unusedVariables false
attribute [local go_sem] Oper.semAt_some

theorem flats_elim : ∀ {l : List Nd} {y : Nd}, y ∈ flats l → ∃ x ∈ l, y ∈ x.flat
  | [], y, h => by rw [flats_nil] at h; cases h
  | x :: l, y, h => by
    rw [flats_cons] at h
    rcases List.mem_append.1 h with h | h
    · exact ⟨x, by simp, h⟩
    · obtain ⟨z, hz, hy⟩ := flats_elim h
      exact ⟨z, by simp [hz], hy⟩
/-- what the walk over the places of a tree tells. -/
def PG (w0 : World) (T : Nat → Prop) (b0 o0 : Nat) (x0 : Nd) (k lo : Nat) (args : Array Value) (W : World) : Prop :=
  ∃ b o y, args = #[.int .i64 (k : Nat), .pointer (some ⟨b, o, none⟩)] ∧ PlT w0 b0 o0 x0 k b o y ∧ NAt w0 T b o y ∧ (∀ c, T c → W.heap[c]? = w0.heap[c]?) ∧ lo = W.heap.size
end Go.Proofs.YtmfgcaffdkakhaaGreat
namespace Go.Proofs.YtmfgcaffdkakhaaGreat
open Go.RowKit
set_option linter.unusedVariables false
theorem Sep.op {w : World} {S : Nat → Prop} {v : Value} {ks : List Nd} (h : Sep w S v ks) : (v = .slice none 0 0 ∧ ks = []) ∨ ∃ (bl : Nat) (f : Nat → Value) (T : Nat → Nat → Prop) (cur : Array Value), v = .slice (some ⟨bl, 0, none⟩) ks.length ks.length ∧ 0 < ks.length ∧ S bl ∧ (∀ i b, T i b → S b) ∧ (∀ i, ¬ T i bl) ∧ (∀ i j b, i ≠ j → T i b → ¬ T j b) ∧
    w.heap[bl]? = some (.cells cur 27 (0, 0)) ∧ cur.size = ks.length * 4 ∧ (∀ i (h : i < ks.length), Four w bl (i * 4) ks[i] (f i)) ∧ (∀ i (h : i < ks.length), Sep w (T i) (f i) ks[i].ks) := by
  cases h with
  | nil => exact .inl ⟨rfl, rfl⟩
  | row _ bl ks f T cur hn hS hT hTb hd hg hcs hf4 hk => exact .inr ⟨bl, f, T, cur, rfl, hn, hS, hT, hTb, hd, hg, hcs, hf4, hk⟩
/-- the block of a place. -/
theorem PlT.block {w : World} {b o : Nat} {x : Nd} {k b' o' : Nat} {y : Nd} (h : PlT w b o x k b' o' y) : ∀ {S : Nat → Prop} {v : Value}, Sep w S v x.ks → Four w b o x v → (b' = b ∧ o' = o) ∨ (S b' ∧ ∃ cur, w.heap[b']? = some (.cells cur 27 (0, 0)) ∧ o' + 4 ≤ cur.size) := by
  induction h with
  | here b o x => intro S v _ _; exact .inl ⟨rfl, rfl⟩
  | kid b o x bl ol c i hi hc k b' o' y h ih =>
    intro S v hs h4
    have e := h4.2.2.2.symm.trans hc
    rcases hs.op with ⟨_, h0⟩ | ⟨bl', f, T, cur, rfl, hn, hS, hT, hTb, hd, hg, hcs, hf4, hk⟩
    · simp [h0] at hi
    · simp only [Option.some.injEq, Value.slice.injEq, Addr.mk.injEq] at e
      obtain ⟨⟨rfl, rfl, _⟩, _, _⟩ := e
      simp only [Nat.zero_add] at ih
      rcases ih (hk i hi) (hf4 i hi) with ⟨rfl, rfl⟩ | ⟨h1, h2⟩
      · exact .inr ⟨hS, cur, hg, by rw [hcs]; omega⟩
      · exact .inr ⟨hT i _ h1, h2⟩

end Go.Proofs.YtmfgcaffdkakhaaGreat
namespace Go.Proofs.YtmfgcaffdkakhaaGreat
open Go.RowKit
set_option linter.unusedVariables false
attribute [local go_sem] Oper.semAt_some
end Go.Proofs.YtmfgcaffdkakhaaGreat
namespace Go.Proofs.YtmfgcaffdkakhaaGreat
open Go.RowKit
set_option linter.unusedVariables false

/-- a tree in a cell of its own. -/
structure Bx (W : World) (p : Nat) (x : Nd) (a : Option Addr) (c : Nat) : Prop where
  h : W.heap[p]? = some (.cells #[.int .i64 x.k, .string x.t, .int .i64 x.n, .slice a x.ks.length c] 27 (0, 0))
theorem Bx.bel {W W' : World} {p : Nat} {x : Nd} {a : Option Addr} {c : Nat} (h : Bx W p x a c) (b : Below W.heap.size W W') : Bx W' p x a c := ⟨(b.block p (Array.getElem?_eq_some_iff.1 h.h).1).trans h.h⟩
theorem Bx.new (W : World) (x : Nd) (a : Option Addr) (c : Nat) : Bx (W.alloc (Obj.cells #[.int .i64 x.k, .string x.t, .int .i64 x.n, .slice a x.ks.length c] 27)) W.heap.size x a c := ⟨hnew _ rfl⟩
theorem Bx.cs {W : World} {p : Nat} {x : Nd} {a : Option Addr} {c : Nat} (h : Bx W p x a c) : W.cell? ⟨p, 0, none⟩ = some (.int .i64 x.k) ∧ W.cell? ⟨p, 1, none⟩ = some (.string x.t) ∧ W.cell? ⟨p, 2, none⟩ = some (.int .i64 x.n) ∧ W.cell? ⟨p, 3, none⟩ = some (.slice a x.ks.length c) := (box4 h.h).1
theorem Bx.fr {W : World} {p : Nat} {x : Nd} {a : Option Addr} {c : Nat} (h : Bx W p x a c) : W.frozen? ⟨p, 0, none⟩ = false ∧ W.frozen? ⟨p, 1, none⟩ = false ∧ W.frozen? ⟨p, 2, none⟩ = false ∧ W.frozen? ⟨p, 3, none⟩ = false := (box4 h.h).2
theorem Bx.lt {W : World} {p : Nat} {x : Nd} {a : Option Addr} {c : Nat} (h : Bx W p x a c) : p < W.heap.size := (Array.getElem?_eq_some_iff.1 h.h).1
end Go.Proofs.YtmfgcaffdkakhaaGreat
