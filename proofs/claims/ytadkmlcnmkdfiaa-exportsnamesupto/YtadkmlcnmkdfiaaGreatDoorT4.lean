/- Own text. Trees in memory of their own, each list apart from all others; Copy of package tree. -/
import Derived.Test.YtadkmlcnmkdfiaaGreatDoorT3
import Derived.Test.YtadkmlcnmkdfiaaGreatDoorShelf
import Derived.Laws.MakeOwn
namespace Go.Proofs.YtadkmlcnmkdfiaaGreatDoor
open Go.RowKit
set_option linter.unusedVariables false

/-- no text of a tree is too long. -/
def Nd.tx (x : Nd) : Prop := ∀ y ∈ x.flat, y.t.size ≤ 4194304
theorem flats_mem : ∀ {l : List Nd} {x y : Nd}, x ∈ l → y ∈ x.flat → y ∈ flats l
  | z :: l, x, y, h, hy => by
    rw [flats_cons]
    rcases List.mem_cons.1 h with rfl | h
    · exact List.mem_append_left _ hy
    · exact List.mem_append_right _ (flats_mem h hy)
theorem Nd.tx_kid {x y : Nd} (h : x.tx) (hy : y ∈ x.ks) : y.tx := fun z hz => h z (by rw [x.flat_eq]; exact List.mem_cons_of_mem _ (flats_mem hy hz))
theorem Nd.tx_own {x : Nd} (h : x.tx) : x.t.size ≤ 4194304 := h x (by rw [x.flat_eq]; exact List.mem_cons_self)

/-- v is a list of these trees in memory of its own: each list of theirs is apart from all others; all lie in blocks of S. -/
inductive Sep (w : World) : (Nat → Prop) → Value → List Nd → Prop
  | nil (S : Nat → Prop) : Sep w S (.slice none 0 0) []
  | row (S : Nat → Prop) (bl : Nat) (ks : List Nd) (f : Nat → Value) (T : Nat → Nat → Prop) (cur : Array Value) (hn : 0 < ks.length) (hS : S bl) (hT : ∀ i b, T i b → S b) (hTb : ∀ i, ¬ T i bl) (hd : ∀ i j b, i ≠ j → T i b → ¬ T j b)
      (hg : w.heap[bl]? = some (.cells cur 25 (0, 0))) (hcs : cur.size = ks.length * 4) (h4 : ∀ i (h : i < ks.length), Four w bl (i * 4) ks[i] (f i)) (hk : ∀ i (h : i < ks.length), Sep w (T i) (f i) ks[i].ks) :
      Sep w S (.slice (some ⟨bl, 0, none⟩) ks.length ks.length) ks

theorem Sep.lat {w : World} {S : Nat → Prop} {v : Value} {ks : List Nd} (h : Sep w S v ks) : LAt w S v ks := by
  induction h with
  | nil S => exact .nil _ _
  | row S bl ks f T cur hn hS hT hTb hd hg hcs h4 hk ih =>
    exact .row bl 0 _ ks f hS (Array.getElem?_eq_some_iff.1 hg).1 (fun i hi => by rw [Nat.zero_add]; exact h4 i hi) (fun i hi => (ih i hi).mono (hT i))
theorem Sep.keep {w w' : World} {S : Nat → Prop} {v : Value} {ks : List Nd} (h : Sep w S v ks) (hb : ∀ b, S b → b < w.heap.size → w'.heap[b]? = w.heap[b]?) : Sep w' S v ks := by
  induction h with
  | nil S => exact .nil _
  | row S bl ks f T cur hn hS hT hTb hd hg hcs h4 hk ih =>
    have e := hb bl hS (Array.getElem?_eq_some_iff.1 hg).1
    exact .row S bl ks f T cur hn hS hT hTb hd (e.trans hg) hcs (fun i hi => (h4 i hi).of_block e) (fun i hi => ih i hi (fun b hT' hl => hb b (hT i b hT') hl))
/-- what is no cells may turn. -/
theorem Sep.keepC {w w' : World} {S : Nat → Prop} {v : Value} {ks : List Nd} (h : Sep w S v ks) (hb : ∀ b cur t, S b → w.heap[b]? = some (.cells cur t (0, 0)) → w'.heap[b]? = w.heap[b]?) : Sep w' S v ks := by
  induction h with
  | nil S => exact .nil _
  | row S bl ks f T cur hn hS hT hTb hd hg hcs h4 hk ih =>
    have e := hb bl _ _ hS hg
    exact .row S bl ks f T cur hn hS hT hTb hd (e.trans hg) hcs (fun i hi => (h4 i hi).of_block e) (fun i hi => ih i hi (fun b c t hT' hl => hb b c t (hT i b hT') hl))
theorem Sep.mono {w : World} {S S' : Nat → Prop} {v : Value} {ks : List Nd} (h : Sep w S v ks) (hS' : ∀ b, S b → S' b) : Sep w S' v ks := by
  cases h with
  | nil => exact .nil _
  | row _ bl ks f T cur hn hS hT hTb hd hg hcs h4 hk => exact .row _ bl ks f T cur hn (hS' bl hS) (fun i b h => hS' b (hT i b h)) hTb hd hg hcs h4 hk
theorem Sep.sl {w : World} {S : Nat → Prop} {v : Value} {ks : List Nd} (h : Sep w S v ks) : ∃ a c, v = .slice a ks.length c := h.lat.sl

theorem clone_anyT (s : ByteArray) (w : World) (hs : s.size ≤ 281474976710656) : Calls Tryz.prog 34 #[.string s] w fun e w' => e = .returned (.string s) ∧ Below w.heap.size w w' := by
  go_enter Tryz.func34, Tryz.ntmps34
  go_wp2_with (go_at_call 58; refine (Tryz.stringslite_Clone s _ hs).mono ?_; rintro e w' ⟨rfl, hb⟩)
  go_ret
  exact ⟨rfl, hb⟩

/-- k kids of a list have been copied: the list at bl, the kids' own lists one behind the other. -/
structure Half (w : World) (bl : Nat) (ks : List Nd) (k : Nat) (f : Nat → Value) (g : Nat → Nat) : Prop where
  row : ∃ cur, w.heap[bl]? = some (.cells cur 25 (0, 0)) ∧ cur.size = ks.length * 4
  lo : bl < g 0
  up : ∀ i, i < k → g i ≤ g (i + 1)
  hi : g k ≤ w.heap.size
  four : ∀ i (h : i < ks.length), i < k → Four w bl (i * 4) ks[i] (f i)
  kid : ∀ i (h : i < ks.length), i < k → Sep w (fun b => g i ≤ b ∧ b < g (i + 1)) (f i) ks[i].ks
theorem Half.mono_g {w : World} {bl : Nat} {ks : List Nd} {k : Nat} {f : Nat → Value} {g : Nat → Nat} (h : Half w bl ks k f g) : ∀ {i j : Nat}, i ≤ j → j ≤ k → g i ≤ g j := by
  intro i j hij hjk
  induction j with
  | zero => obtain rfl : i = 0 := by omega
            exact Nat.le_refl _
  | succ j ih =>
    by_cases e : i = j + 1
    · subst e; exact Nat.le_refl _
    · exact Nat.le_trans (ih (by omega) (by omega)) (h.up j (by omega))
theorem Half.bel {w w' : World} {bl : Nat} {ks : List Nd} {k : Nat} {f : Nat → Value} {g : Nat → Nat} (h : Half w bl ks k f g) (b : Below w.heap.size w w') : Half w' bl ks k f g := by
  obtain ⟨cur, hc, hs⟩ := h.row
  have hl := (Array.getElem?_eq_some_iff.1 hc).1
  exact ⟨⟨cur, (b.block bl hl).trans hc, hs⟩, h.lo, h.up, Nat.le_trans h.hi b.size, fun i hi hk => (h.four i hi hk).of_block (b.block bl hl), fun i hi hk => (h.kid i hi hk).keep (fun j _ hj => b.block j hj)⟩
theorem Half.sep {w : World} {bl : Nat} {ks : List Nd} {f : Nat → Value} {g : Nat → Nat} (h : Half w bl ks ks.length f g) (hn : 0 < ks.length) : Sep w (fun b => bl ≤ b ∧ b < w.heap.size) (.slice (some ⟨bl, 0, none⟩) ks.length ks.length) ks := by
  obtain ⟨cur, hc, hs⟩ := h.row
  have hl := (Array.getElem?_eq_some_iff.1 hc).1
  have lo := h.lo
  refine .row _ bl ks f (fun i b => i < ks.length ∧ g i ≤ b ∧ b < g (i + 1)) cur hn ⟨Nat.le_refl _, hl⟩ ?_ ?_ ?_ hc hs (fun i hi => h.four i hi hi) (fun i hi => (h.kid i hi hi).mono (fun b hb => ⟨hi, hb⟩))
  · rintro i b ⟨h1, h2, h3⟩
    have := h.mono_g (i := 0) (j := i) (by omega) (by omega)
    have := h.mono_g (i := i + 1) (j := ks.length) (by omega) (by omega)
    have := h.hi
    exact ⟨by omega, by omega⟩
  · rintro i ⟨h1, h2, h3⟩
    have := h.mono_g (i := 0) (j := i) (by omega) (by omega)
    omega
  · rintro i j b hij ⟨h1, h2, h3⟩ ⟨h4, h5, h6⟩
    by_cases hlt : i < j
    · have := h.mono_g (i := i + 1) (j := j) (by omega) (by omega)
      omega
    · have := h.mono_g (i := j + 1) (j := i) (by omega) (by omega)
      omega
/-- a place of a row that is there. -/
theorem row_cells {w : World} {bl n : Nat} {cur : Array Value} {t : TypeId} (h : w.heap[bl]? = some (.cells cur t (0, 0))) (hs : cur.size = n) {j : Nat} (hj : j < n) : (∃ u, w.cell? ⟨bl, j, none⟩ = some u) ∧ w.frozen? ⟨bl, j, none⟩ = false := by
  subst hs
  exact ⟨⟨cur[j], by simp [World.cell?, h, hj]⟩, by simp [World.frozen?, h]⟩
theorem set4_block {W : World} {bl o : Nat} {cur : Array Value} {t : TypeId} {fr : Nat × Nat} (p q r s : Value) (h : W.heap[bl]? = some (.cells cur t fr)) :
    ((((W.setCell ⟨bl, o, none⟩ p).setCell ⟨bl, o + 1, none⟩ q).setCell ⟨bl, o + 2, none⟩ r).setCell ⟨bl, o + 3, none⟩ s).heap[bl]? = some (.cells ((((cur.setIfInBounds o p).setIfInBounds (o + 1) q).setIfInBounds (o + 2) r).setIfInBounds (o + 3) s) t fr) := by
  simp [World.setCell, Array.getElem?_modify, h]
theorem set4_other {W : World} {bl o b : Nat} (p q r s : Value) (h : b ≠ bl) :
    ((((W.setCell ⟨bl, o, none⟩ p).setCell ⟨bl, o + 1, none⟩ q).setCell ⟨bl, o + 2, none⟩ r).setCell ⟨bl, o + 3, none⟩ s).heap[b]? = W.heap[b]? := by
  rw [Below.heap_setCell _ _ _ _ h, Below.heap_setCell _ _ _ _ h, Below.heap_setCell _ _ _ _ h, Below.heap_setCell _ _ _ _ h]
theorem set4_size {W : World} {bl o : Nat} (p q r s : Value) : ((((W.setCell ⟨bl, o, none⟩ p).setCell ⟨bl, o + 1, none⟩ q).setCell ⟨bl, o + 2, none⟩ r).setCell ⟨bl, o + 3, none⟩ s).heap.size = W.heap.size := by simp [World.setCell]
theorem set4_cell {W : World} {bl o n : Nat} {cur : Array Value} {t : TypeId} {fr : Nat × Nat} (p q r s : Value) (h : W.heap[bl]? = some (.cells cur t fr)) (j : Nat) :
    ((((W.setCell ⟨bl, o, none⟩ p).setCell ⟨bl, o + 1, none⟩ q).setCell ⟨bl, o + 2, none⟩ r).setCell ⟨bl, o + 3, none⟩ s).cell? ⟨bl, j, none⟩ = ((((cur.setIfInBounds o p).setIfInBounds (o + 1) q).setIfInBounds (o + 2) r).setIfInBounds (o + 3) s)[j]? :=
  cell_of_row _ bl _ _ _ _ (set4_block p q r s h)
theorem Half.next {w W3 : World} {bl : Nat} {ks : List Nd} {k : Nat} {f : Nat → Value} {g : Nat → Nat} {v : Value} (h : Half w bl ks k f g) (b : Below w.heap.size w W3) (hk : k < ks.length) (hv : Sep W3 (fun b => w.heap.size ≤ b ∧ b < W3.heap.size) v ks[k].ks) :
    Half ((((W3.setCell ⟨bl, k * 4, none⟩ (.int .i64 ks[k].k)).setCell ⟨bl, k * 4 + 1, none⟩ (.string ks[k].t)).setCell ⟨bl, k * 4 + 2, none⟩ (.int .i64 ks[k].n)).setCell ⟨bl, k * 4 + 3, none⟩ v) bl ks (k + 1) (fun i => if i = k then v else f i) (fun i => if i = k + 1 then W3.heap.size else g i) := by
  obtain ⟨cur, hc, hs⟩ := h.row
  have hl := (Array.getElem?_eq_some_iff.1 hc).1
  have hc3 : W3.heap[bl]? = some (.cells cur 25 (0, 0)) := (b.block bl hl).trans hc
  have sz3 := b.size
  have hi3 := h.hi
  have lo3 := h.lo
  have gk : bl < g k := Nat.lt_of_lt_of_le lo3 (h.mono_g (Nat.zero_le k) (Nat.le_refl k))
  refine ⟨⟨_, set4_block _ _ _ _ hc3, by simpa using hs⟩, ?_, ?_, ?_, ?_, ?_⟩
  · simpa using lo3
  · intro i hi
    by_cases e : i = k
    · subst e; simp; omega
    · have := h.up i (by omega)
      simp only [show ¬ i = k + 1 by omega, if_false, show ¬ i + 1 = k + 1 by omega]
      exact this
  · rw [set4_size]; simp
  · intro i hi hik
    have C := fun j => set4_cell (o := k * 4) (n := 0) (.int .i64 ks[k].k) (.string ks[k].t) (.int .i64 ks[k].n) v hc3 j
    by_cases e : i = k
    · subst e
      simp only [if_true]
      refine ⟨?_, ?_, ?_, ?_⟩ <;> (rw [C]; simp only [Array.getElem?_setIfInBounds, Array.size_setIfInBounds, hs]) <;> simp <;> omega
    · simp only [e, if_false]
      have h0 := (h.four i hi (by omega)).of_block (b.block bl hl)
      have D : ∀ j, W3.cell? ⟨bl, j, none⟩ = cur[j]? := fun j => cell_of_row W3 bl _ _ _ _ hc3
      have key : ∀ j, j < k * 4 → (((((cur.setIfInBounds (k * 4) (.int .i64 ks[k].k)).setIfInBounds (k * 4 + 1) (.string ks[k].t)).setIfInBounds (k * 4 + 2) (.int .i64 ks[k].n)).setIfInBounds (k * 4 + 3) v)[j]? : Option Value) = cur[j]? := fun j hj => by
        simp only [Array.getElem?_setIfInBounds]
        rw [if_neg (by omega), if_neg (by omega), if_neg (by omega), if_neg (by omega)]
      refine ⟨?_, ?_, ?_, ?_⟩
      · rw [C, key _ (by omega), ← D]; exact h0.1
      · rw [C, key _ (by omega), ← D]; exact h0.2.1
      · rw [C, key _ (by omega), ← D]; exact h0.2.2.1
      · rw [C, key _ (by omega), ← D]; exact h0.2.2.2
  · intro i hi hik
    by_cases e : i = k
    · subst e
      simp only [if_true, show ¬ i = i + 1 by omega, if_false]
      refine (hv.keep (fun j hj hlt => set4_other _ _ _ _ ?_)).mono (fun j hj => ⟨?_, hj.2⟩)
      · have := hj.1; omega
      · have := hj.1; omega
    · simp only [e, if_false, show ¬ i = k + 1 by omega, show ¬ i + 1 = k + 1 by omega]
      refine (h.kid i hi (by omega)).keep (fun j hj hlt => (set4_other _ _ _ _ ?_).trans (b.block j hlt))
      have := hj.1
      have := h.mono_g (i := 0) (j := i) (by omega) (by omega)
      omega
end Go.Proofs.YtadkmlcnmkdfiaaGreatDoor
