/- Own text. Trees in memory of their own, each list apart from all others; Copy of package tree. A tree as it is read. -/
import Derived.Test.YtfehmdfamndcaaaGreatDoorGm01
import Derived.Test.YtfehmdfamndcaaaGreatDoorShelf
import Derived.Laws.MakeOwn
import Derived.Test.YtfehmdfamndcaaaGreatDoorRows
import Derived.ProofKit
import Derived.OpenShut
import Derived.JoinedCond
import Derived.SizedLaws
import Derived.Carry
import Derived.Deep.Slices
namespace Go.Proofs.YtfehmdfamndcaaaGreatDoor
open Go.RowKit
set_option linter.unusedVariables false

/-- no text of a tree is too long. -/
def Nd.tx (x : Nd) : Prop := ∀ y ∈ x.flat, y.t.size ≤ 4194304
theorem flats_mem : ∀ {l : List Nd} {x y : Nd}, x ∈ l → y ∈ x.flat → y ∈ flats l
  | z :: l, x, y, h, hy => by
    rw [flats_cons]
    rcases List.mem_cons.1 h with rfl | h
    · exact List.mem_append_left _ hy
    · exact List.mem_append_right _ (flats_mem h hy)
theorem Nd.tx_kid {x y : Nd} (h : x.tx) (hy : y ∈ x.ks) : y.tx := fun z hz => h z (by rw [x.flat_eq]; exact List.mem_cons_of_mem _ (flats_mem hy hz))
theorem Nd.tx_own {x : Nd} (h : x.tx) : x.t.size ≤ 4194304 := h x (by rw [x.flat_eq]; exact List.mem_cons_self)

/-- v is a list of these trees in memory of its own: each list of theirs is apart from all others; all lie in blocks of S. -/
inductive Sep (w : World) : (Nat → Prop) → Value → List Nd → Prop
  | nil (S : Nat → Prop) : Sep w S (.slice none 0 0) []
  | row (S : Nat → Prop) (bl : Nat) (ks : List Nd) (f : Nat → Value) (T : Nat → Nat → Prop) (cur : Array Value) (hn : 0 < ks.length) (hS : S bl) (hT : ∀ i b, T i b → S b) (hTb : ∀ i, ¬ T i bl) (hd : ∀ i j b, i ≠ j → T i b → ¬ T j b)
      (hg : w.heap[bl]? = some (.cells cur 62 (0, 0))) (hcs : cur.size = ks.length * 4) (h4 : ∀ i (h : i < ks.length), Four w bl (i * 4) ks[i] (f i)) (hk : ∀ i (h : i < ks.length), Sep w (T i) (f i) ks[i].ks) :
      Sep w S (.slice (some ⟨bl, 0, none⟩) ks.length ks.length) ks

theorem Sep.lat {w : World} {S : Nat → Prop} {v : Value} {ks : List Nd} (h : Sep w S v ks) : LAt w S v ks := by
  induction h with
  | nil S => exact .nil _ _
  | row S bl ks f T cur hn hS hT hTb hd hg hcs h4 hk ih =>
    exact .row bl 0 _ ks f hS (Array.getElem?_eq_some_iff.1 hg).1 (fun i hi => by rw [Nat.zero_add]; exact h4 i hi) (fun i hi => (ih i hi).mono (hT i))
theorem Sep.keep {w w' : World} {S : Nat → Prop} {v : Value} {ks : List Nd} (h : Sep w S v ks) (hb : ∀ b, S b → b < w.heap.size → w'.heap[b]? = w.heap[b]?) : Sep w' S v ks := by
  induction h with
  | nil S => exact .nil _
  | row S bl ks f T cur hn hS hT hTb hd hg hcs h4 hk ih =>
    have e := hb bl hS (Array.getElem?_eq_some_iff.1 hg).1
    exact .row S bl ks f T cur hn hS hT hTb hd (e.trans hg) hcs (fun i hi => (h4 i hi).of_block e) (fun i hi => ih i hi (fun b hT' hl => hb b (hT i b hT') hl))
/-- what is no cells may turn. -/
theorem Sep.keepC {w w' : World} {S : Nat → Prop} {v : Value} {ks : List Nd} (h : Sep w S v ks) (hb : ∀ b cur t, S b → w.heap[b]? = some (.cells cur t (0, 0)) → w'.heap[b]? = w.heap[b]?) : Sep w' S v ks := by
  induction h with
  | nil S => exact .nil _
  | row S bl ks f T cur hn hS hT hTb hd hg hcs h4 hk ih =>
    have e := hb bl _ _ hS hg
    exact .row S bl ks f T cur hn hS hT hTb hd (e.trans hg) hcs (fun i hi => (h4 i hi).of_block e) (fun i hi => ih i hi (fun b c t hT' hl => hb b c t (hT i b hT') hl))
theorem Sep.mono {w : World} {S S' : Nat → Prop} {v : Value} {ks : List Nd} (h : Sep w S v ks) (hS' : ∀ b, S b → S' b) : Sep w S' v ks := by
  cases h with
  | nil => exact .nil _
  | row _ bl ks f T cur hn hS hT hTb hd hg hcs h4 hk => exact .row _ bl ks f T cur hn (hS' bl hS) (fun i b h => hS' b (hT i b h)) hTb hd hg hcs h4 hk
theorem Sep.sl {w : World} {S : Nat → Prop} {v : Value} {ks : List Nd} (h : Sep w S v ks) : ∃ a c, v = .slice a ks.length c := h.lat.sl

theorem clone_anyT (s : ByteArray) (w : World) (hs : s.size ≤ 281474976710656) : Calls Tryz.prog 13 #[.string s] w fun e w' => e = .returned (.string s) ∧ Below w.heap.size w w' := by
  go_enter Tryz.func13, Tryz.ntmps13
  go_wp2_with (go_at_call 20; refine (Tryz.stringslite_Clone s _ hs).mono ?_; rintro e w' ⟨rfl, hb⟩)
  go_ret
  exact ⟨rfl, hb⟩

/-- k kids of a list have been copied: the list at bl, the kids' own lists one behind the other. -/
structure Half (w : World) (bl : Nat) (ks : List Nd) (k : Nat) (f : Nat → Value) (g : Nat → Nat) : Prop where
  row : ∃ cur, w.heap[bl]? = some (.cells cur 62 (0, 0)) ∧ cur.size = ks.length * 4
  lo : bl < g 0
  up : ∀ i, i < k → g i ≤ g (i + 1)
  hi : g k ≤ w.heap.size
  four : ∀ i (h : i < ks.length), i < k → Four w bl (i * 4) ks[i] (f i)
  kid : ∀ i (h : i < ks.length), i < k → Sep w (fun b => g i ≤ b ∧ b < g (i + 1)) (f i) ks[i].ks
theorem Half.mono_g {w : World} {bl : Nat} {ks : List Nd} {k : Nat} {f : Nat → Value} {g : Nat → Nat} (h : Half w bl ks k f g) : ∀ {i j : Nat}, i ≤ j → j ≤ k → g i ≤ g j := by
  intro i j hij hjk
  induction j with
  | zero => obtain rfl : i = 0 := by omega
            exact Nat.le_refl _
  | succ j ih =>
    by_cases e : i = j + 1
    · subst e; exact Nat.le_refl _
    · exact Nat.le_trans (ih (by omega) (by omega)) (h.up j (by omega))
theorem Half.bel {w w' : World} {bl : Nat} {ks : List Nd} {k : Nat} {f : Nat → Value} {g : Nat → Nat} (h : Half w bl ks k f g) (b : Below w.heap.size w w') : Half w' bl ks k f g := by
  obtain ⟨cur, hc, hs⟩ := h.row
  have hl := (Array.getElem?_eq_some_iff.1 hc).1
  exact ⟨⟨cur, (b.block bl hl).trans hc, hs⟩, h.lo, h.up, Nat.le_trans h.hi b.size, fun i hi hk => (h.four i hi hk).of_block (b.block bl hl), fun i hi hk => (h.kid i hi hk).keep (fun j _ hj => b.block j hj)⟩
theorem Half.sep {w : World} {bl : Nat} {ks : List Nd} {f : Nat → Value} {g : Nat → Nat} (h : Half w bl ks ks.length f g) (hn : 0 < ks.length) : Sep w (fun b => bl ≤ b ∧ b < w.heap.size) (.slice (some ⟨bl, 0, none⟩) ks.length ks.length) ks := by
  obtain ⟨cur, hc, hs⟩ := h.row
  have hl := (Array.getElem?_eq_some_iff.1 hc).1
  have lo := h.lo
  refine .row _ bl ks f (fun i b => i < ks.length ∧ g i ≤ b ∧ b < g (i + 1)) cur hn ⟨Nat.le_refl _, hl⟩ ?_ ?_ ?_ hc hs (fun i hi => h.four i hi hi) (fun i hi => (h.kid i hi hi).mono (fun b hb => ⟨hi, hb⟩))
  · rintro i b ⟨h1, h2, h3⟩
    have := h.mono_g (i := 0) (j := i) (by omega) (by omega)
    have := h.mono_g (i := i + 1) (j := ks.length) (by omega) (by omega)
    have := h.hi
    exact ⟨by omega, by omega⟩
  · rintro i ⟨h1, h2, h3⟩
    have := h.mono_g (i := 0) (j := i) (by omega) (by omega)
    omega
  · rintro i j b hij ⟨h1, h2, h3⟩ ⟨h4, h5, h6⟩
    by_cases hlt : i < j
    · have := h.mono_g (i := i + 1) (j := j) (by omega) (by omega)
      omega
    · have := h.mono_g (i := j + 1) (j := i) (by omega) (by omega)
      omega
/-- a place of a row that is there. -/
theorem row_cells {w : World} {bl n : Nat} {cur : Array Value} {t : TypeId} (h : w.heap[bl]? = some (.cells cur t (0, 0))) (hs : cur.size = n) {j : Nat} (hj : j < n) : (∃ u, w.cell? ⟨bl, j, none⟩ = some u) ∧ w.frozen? ⟨bl, j, none⟩ = false := by
  subst hs
  exact ⟨⟨cur[j], by simp [World.cell?, h, hj]⟩, by simp [World.frozen?, h]⟩
theorem set4_block {W : World} {bl o : Nat} {cur : Array Value} {t : TypeId} {fr : Nat × Nat} (p q r s : Value) (h : W.heap[bl]? = some (.cells cur t fr)) :
    ((((W.setCell ⟨bl, o, none⟩ p).setCell ⟨bl, o + 1, none⟩ q).setCell ⟨bl, o + 2, none⟩ r).setCell ⟨bl, o + 3, none⟩ s).heap[bl]? = some (.cells ((((cur.setIfInBounds o p).setIfInBounds (o + 1) q).setIfInBounds (o + 2) r).setIfInBounds (o + 3) s) t fr) := by
  simp [World.setCell, Array.getElem?_modify, h]
theorem set4_other {W : World} {bl o b : Nat} (p q r s : Value) (h : b ≠ bl) :
    ((((W.setCell ⟨bl, o, none⟩ p).setCell ⟨bl, o + 1, none⟩ q).setCell ⟨bl, o + 2, none⟩ r).setCell ⟨bl, o + 3, none⟩ s).heap[b]? = W.heap[b]? := by
  rw [Below.heap_setCell _ _ _ _ h, Below.heap_setCell _ _ _ _ h, Below.heap_setCell _ _ _ _ h, Below.heap_setCell _ _ _ _ h]
theorem set4_size {W : World} {bl o : Nat} (p q r s : Value) : ((((W.setCell ⟨bl, o, none⟩ p).setCell ⟨bl, o + 1, none⟩ q).setCell ⟨bl, o + 2, none⟩ r).setCell ⟨bl, o + 3, none⟩ s).heap.size = W.heap.size := by simp [World.setCell]
theorem set4_cell {W : World} {bl o n : Nat} {cur : Array Value} {t : TypeId} {fr : Nat × Nat} (p q r s : Value) (h : W.heap[bl]? = some (.cells cur t fr)) (j : Nat) :
    ((((W.setCell ⟨bl, o, none⟩ p).setCell ⟨bl, o + 1, none⟩ q).setCell ⟨bl, o + 2, none⟩ r).setCell ⟨bl, o + 3, none⟩ s).cell? ⟨bl, j, none⟩ = ((((cur.setIfInBounds o p).setIfInBounds (o + 1) q).setIfInBounds (o + 2) r).setIfInBounds (o + 3) s)[j]? :=
  cell_of_row _ bl _ _ _ _ (set4_block p q r s h)
theorem Half.next {w W3 : World} {bl : Nat} {ks : List Nd} {k : Nat} {f : Nat → Value} {g : Nat → Nat} {v : Value} (h : Half w bl ks k f g) (b : Below w.heap.size w W3) (hk : k < ks.length) (hv : Sep W3 (fun b => w.heap.size ≤ b ∧ b < W3.heap.size) v ks[k].ks) :
    Half ((((W3.setCell ⟨bl, k * 4, none⟩ (.int .i64 ks[k].k)).setCell ⟨bl, k * 4 + 1, none⟩ (.string ks[k].t)).setCell ⟨bl, k * 4 + 2, none⟩ (.int .i64 ks[k].n)).setCell ⟨bl, k * 4 + 3, none⟩ v) bl ks (k + 1) (fun i => if i = k then v else f i) (fun i => if i = k + 1 then W3.heap.size else g i) := by
  obtain ⟨cur, hc, hs⟩ := h.row
  have hl := (Array.getElem?_eq_some_iff.1 hc).1
  have hc3 : W3.heap[bl]? = some (.cells cur 62 (0, 0)) := (b.block bl hl).trans hc
  have sz3 := b.size
  have hi3 := h.hi
  have lo3 := h.lo
  have gk : bl < g k := Nat.lt_of_lt_of_le lo3 (h.mono_g (Nat.zero_le k) (Nat.le_refl k))
  refine ⟨⟨_, set4_block _ _ _ _ hc3, by simpa using hs⟩, ?_, ?_, ?_, ?_, ?_⟩
  · simpa using lo3
  · intro i hi
    by_cases e : i = k
    · subst e; simp; omega
    · have := h.up i (by omega)
      simp only [show ¬ i = k + 1 by omega, if_false, show ¬ i + 1 = k + 1 by omega]
      exact this
  · rw [set4_size]; simp
  · intro i hi hik
    have C := fun j => set4_cell (o := k * 4) (n := 0) (.int .i64 ks[k].k) (.string ks[k].t) (.int .i64 ks[k].n) v hc3 j
    by_cases e : i = k
    · subst e
      simp only [if_true]
      refine ⟨?_, ?_, ?_, ?_⟩ <;> (rw [C]; simp only [Array.getElem?_setIfInBounds, Array.size_setIfInBounds, hs]) <;> simp <;> omega
    · simp only [e, if_false]
      have h0 := (h.four i hi (by omega)).of_block (b.block bl hl)
      have D : ∀ j, W3.cell? ⟨bl, j, none⟩ = cur[j]? := fun j => cell_of_row W3 bl _ _ _ _ hc3
      have key : ∀ j, j < k * 4 → (((((cur.setIfInBounds (k * 4) (.int .i64 ks[k].k)).setIfInBounds (k * 4 + 1) (.string ks[k].t)).setIfInBounds (k * 4 + 2) (.int .i64 ks[k].n)).setIfInBounds (k * 4 + 3) v)[j]? : Option Value) = cur[j]? := fun j hj => by
        simp only [Array.getElem?_setIfInBounds]
        rw [if_neg (by omega), if_neg (by omega), if_neg (by omega), if_neg (by omega)]
      refine ⟨?_, ?_, ?_, ?_⟩
      · rw [C, key _ (by omega), ← D]; exact h0.1
      · rw [C, key _ (by omega), ← D]; exact h0.2.1
      · rw [C, key _ (by omega), ← D]; exact h0.2.2.1
      · rw [C, key _ (by omega), ← D]; exact h0.2.2.2
  · intro i hi hik
    by_cases e : i = k
    · subst e
      simp only [if_true, show ¬ i = i + 1 by omega, if_false]
      refine (hv.keep (fun j hj hlt => set4_other _ _ _ _ ?_)).mono (fun j hj => ⟨?_, hj.2⟩)
      · have := hj.1; omega
      · have := hj.1; omega
    · simp only [e, if_false, show ¬ i = k + 1 by omega, show ¬ i + 1 = k + 1 by omega]
      refine (h.kid i hi (by omega)).keep (fun j hj hlt => (set4_other _ _ _ _ ?_).trans (b.block j hlt))
      have := hj.1
      have := h.mono_g (i := 0) (j := i) (by omega) (by omega)
      omega
end Go.Proofs.YtfehmdfamndcaaaGreatDoor
namespace Go.Proofs.YtfehmdfamndcaaaGreatDoor
open Go.ChangeShapes Go.WideShapes Go.ChangeAt Go.RowKit
set_option linter.unusedVariables false
set_option linter.unusedSimpArgs false

theorem bulk_slice {H : Type} (l r : List (DataW H)) : Rows.uptoBulk (.slice l r) = Rows.uptoBulkAll l + Rows.uptoBulkAll r + 1 := by simp [Rows.uptoBulk]
theorem bulk_agg {H : Type} (l : List (DataW H)) : Rows.uptoBulk (.agg l) = Rows.uptoBulkAll l + 1 := by simp [Rows.uptoBulk]
theorem bulk_text {H : Type} (l : List UInt8) : Rows.uptoBulk (.lit (.string l) : DataW H) = l.length + 1 := by simp [Rows.uptoBulk]
theorem bulk_mem {H : Type} : ∀ {l : List (DataW H)} {d : DataW H}, d ∈ l → Rows.uptoBulk d ≤ Rows.uptoBulkAll l
  | x :: r, d, h => by
    simp only [Rows.uptoBulkAll]
    rcases List.mem_cons.1 h with rfl | h
    · omega
    · have := bulk_mem h; omega
theorem bulk_sizes {H : Type} (D : Nat → DataW H) (q : Nat → Nd) : ∀ l : List Nat, (∀ i ∈ l, (q i).size ≤ Rows.uptoBulk (D i)) → sizes (l.map q) ≤ Rows.uptoBulkAll (l.map D)
  | [], _ => by simp [sizes_nil]
  | i :: l, h => by
    have h1 := h i (by simp)
    have h2 := bulk_sizes D q l (fun j hj => h j (by simp [hj]))
    simp only [List.map_cons, sizes_cons, Rows.uptoBulkAll] at h2 ⊢
    omega
theorem under_nd : Tryz.prog.underlying 62 = some (.struct #[{ name := "Kind", type := 3, offset := 0, embedded := false, tag := "", pkgPath := "", byteOffset := 0 }, { name := "Text", type := 9, offset := 1, embedded := false, tag := "", pkgPath := "", byteOffset := 8 }, { name := "N", type := 3, offset := 2, embedded := false, tag := "", pkgPath := "", byteOffset := 24 }, { name := "Kids", type := 60, offset := 3, embedded := false, tag := "", pkgPath := "", byteOffset := 32 }]) := by kernel_rfl
theorem cells_nd : Tryz.prog.cellsOf 62 = 4 := by kernel_rfl
theorem cells_i : Tryz.prog.cellsOf 3 = 1 := by kernel_rfl
theorem cells_s : Tryz.prog.cellsOf 9 = 1 := by kernel_rfl
theorem cells_l : Tryz.prog.cellsOf 60 = 1 := by kernel_rfl
theorem addr_none {w : World} {a : Addr} {v : Value} (h : w.cell? a = some v) : a = ⟨a.block, a.off, none⟩ := by
  unfold World.cell? at h
  split at h
  · split at h
    · cases h
    · rename_i hs
      obtain ⟨b, o, s⟩ := a
      cases s with
      | none => rfl
      | some _ => simp at hs
  · cases h

theorem addN_plain (b o n : Nat) : (⟨b, o, none⟩ : Addr).add n = ⟨b, o + n, none⟩ := by
  unfold Addr.add
  split
  · rename_i h; simp_all
  · rfl

set_option maxRecDepth 100000 in
theorem nd_open {H : Type} {enc : TypeId × Value → H} {W : World} : ∀ (B : Nat) {n : Nat} {cs : List Value} {d : DataW H} {ps : List MemPlace}, Rows.uptoBulk d ≤ B → DataW.trod enc Tryz.prog W 0 (fun _ => true) true n 62 cs = some (d, ps) →
    ∃ (x : Nd) (v : Value), cs = [.int .i64 x.k, .string x.t, .int .i64 x.n, v] ∧ LAt W (fun b => b < W.heap.size) v x.ks ∧ x.size ≤ Rows.uptoBulk d ∧ ∀ y ∈ x.flat, y.t.size ≤ Rows.uptoBulk d := by
  intro B
  induction B with
  | zero =>
    intro n cs d ps hB h
    obtain ⟨xs, m, _, hxy, _⟩ := DataW.trod_struct under_nd h
    have hd : d = .agg (xs.map (·.1)) := congrArg Prod.fst hxy
    rw [hd, bulk_agg] at hB
    omega
  | succ B ih =>
    intro n cs d ps hB h
    obtain ⟨xs, m, _, hxy, hcl, hxl, hf⟩ := DataW.trod_struct under_nd h
    rw [cells_nd] at hcl
    match cs, hcl with
    | [u0, u1, u2, u3], _ =>
      match xs, hxl with
      | [y0, y1, y2, y3], _ =>
        have g0 : DataW.trod enc Tryz.prog W 0 (fun _ => true) true m 3 [u0] = some y0 := by simpa [cells_i] using hf 0 _ rfl
        have g1 : DataW.trod enc Tryz.prog W 0 (fun _ => true) true m 9 [u1] = some y1 := by simpa [cells_s] using hf 1 _ rfl
        have g2 : DataW.trod enc Tryz.prog W 0 (fun _ => true) true m 3 [u2] = some y2 := by simpa [cells_i] using hf 2 _ rfl
        have g3 : DataW.trod enc Tryz.prog W 0 (fun _ => true) true m 60 [u3] = some y3 := by simpa [cells_l] using hf 3 _ rfl
        obtain ⟨z0, e0, _, _⟩ := DataW.trod_int Tryz.underlying3 g0
        obtain ⟨s1, e1, x1, _⟩ := DataW.trod_string Tryz.underlying9 g1
        obtain ⟨z2, e2, _, _⟩ := DataW.trod_int Tryz.underlying3 g2
        simp only [List.cons.injEq, and_true] at e0 e1 e2
        subst e0 e1 e2
        have hd : d = .agg [y0.1, y1.1, y2.1, y3.1] := by simpa using congrArg Prod.fst hxy
        have hbk : Rows.uptoBulk d = Rows.uptoBulk y0.1 + (s1.data.toList.length + 1) + Rows.uptoBulk y2.1 + Rows.uptoBulk y3.1 + 1 := by
          rw [hd, bulk_agg, x1]
          simp only [Rows.uptoBulkAll, bulk_text]
          omega
        rw [hbk] at hB
        have hs1 : s1.size = s1.data.toList.length := Lib.size_eq s1
        rcases Deep.open_slice Tryz.underlying60 g3 with ⟨h0, hx⟩ | ⟨a, len, cap, mm, nn, D, Pl, h0, _, hl, hm, hmm, hx, hc⟩
        · simp only [List.cons.injEq, and_true] at h0
          subst h0
          refine ⟨.mk z0 s1 z2 [], _, rfl, .nil _ _, ?_, ?_⟩
          · rw [Nd.size_eq]; simp only [Nd.ks, sizes_nil]; omega
          · intro y hy
            rw [Nd.flat_eq] at hy
            simp only [Nd.ks, flats_nil, List.mem_cons, List.not_mem_nil, or_false] at hy
            subst hy
            show s1.size ≤ _
            omega
        · simp only [List.cons.injEq, and_true] at h0
          subst h0
          have hm2 : mm = cap := by rw [hmm]; simp
          subst hm2
          have hd3 : y3.1 = .slice ((List.range len).map D) ((List.range (mm - len)).map fun j => D (len + j)) := by rw [hx]
          have hb3 : Rows.uptoBulk y3.1 = Rows.uptoBulkAll ((List.range len).map D) + Rows.uptoBulkAll ((List.range (mm - len)).map fun j => D (len + j)) + 1 := by rw [hd3, bulk_slice]
          have hea : 0 < len → a = ⟨a.block, a.off, none⟩ := fun h0 => by
            obtain ⟨cs', h1, h2⟩ := hc 0 (by omega)
            rw [cells_nd] at h1
            obtain ⟨_, hlen, hcell⟩ := World.cells?_some h1
            have hle : Rows.uptoBulk (D 0) ≤ Rows.uptoBulkAll ((List.range len).map D) := bulk_mem (List.mem_map.2 ⟨0, List.mem_range.2 h0, rfl⟩)
            obtain ⟨x, v, e, _⟩ := ih (by omega) h2
            subst e
            have c0 := hcell 0 (by omega)
            simp only [Nat.zero_mul, Addr.add, if_true, List.getElem?_cons_zero] at c0
            exact addr_none c0
          have each : ∀ i, i < len → ∃ q : Nd × Value, (Four W a.block (a.off + i * 4) q.1 q.2 ∧ a = ⟨a.block, a.off, none⟩) ∧ LAt W (fun b => b < W.heap.size) q.2 q.1.ks ∧ q.1.size ≤ Rows.uptoBulk (D i) ∧ ∀ y ∈ q.1.flat, y.t.size ≤ Rows.uptoBulk (D i) := fun i hi => by
            obtain ⟨cs', h1, h2⟩ := hc i (by omega)
            rw [cells_nd] at h1
            obtain ⟨_, hlen, hcell⟩ := World.cells?_some h1
            have hle : Rows.uptoBulk (D i) ≤ Rows.uptoBulkAll ((List.range len).map D) := bulk_mem (List.mem_map.2 ⟨i, List.mem_range.2 hi, rfl⟩)
            obtain ⟨x, v, e, hv, hsz, ht⟩ := ih (by omega) h2
            subst e
            have c0 := hcell 0 (by omega)
            have c1 := hcell 1 (by omega)
            have c2 := hcell 2 (by omega)
            have c3 := hcell 3 (by omega)
            simp only [List.getElem?_cons_zero, List.getElem?_cons_succ] at c0 c1 c2 c3
            have ea := hea (by omega)
            refine ⟨(x, v), ⟨?_, ea⟩, hv, hsz, ht⟩
            rw [ea] at c0 c1 c2 c3
            simp only [addN_plain, Nat.add_zero] at c0 c1 c2 c3
            exact ⟨c0, c1, c2, c3⟩
          obtain ⟨q, hq⟩ := @Deep.choose_lt (Nd × Value) ⟨(.mk 0 ByteArray.empty 0 [], default)⟩ len _ each
          have hks : ∀ i (hi : i < ((List.range len).map fun i => (q i).1).length), ((List.range len).map fun i => (q i).1)[i] = (q i).1 := fun i hi => by simp
          have hkl : ((List.range len).map fun i => (q i).1).length = len := by simp
          refine ⟨.mk z0 s1 z2 ((List.range len).map fun i => (q i).1), _, rfl, ?_, ?_, ?_⟩
          · show LAt W _ (.slice (some a) len mm) ((List.range len).map fun i => (q i).1)
            by_cases hz : len = 0
            · subst hz
              exact .nil _ _
            · obtain ⟨⟨f4, ea⟩, _⟩ := hq 0 (by omega)
              rw [ea]
              have := LAt.row (w := W) (S := fun b => b < W.heap.size) a.block a.off mm ((List.range len).map fun i => (q i).1) (fun i => (q i).2) f4.lt f4.lt (fun i hi => by rw [hks i hi]; exact (hq i (by simpa using hi)).1.1) (fun i hi => by rw [hks i hi]; exact (hq i (by simpa using hi)).2.1)
              rwa [hkl] at this
          · rw [Nd.size_eq]
            have := bulk_sizes D (fun i => (q i).1) (List.range len) (fun i hi => (hq i (List.mem_range.1 hi)).2.2.1)
            simp only [Nd.ks]
            omega
          · intro y hy
            rw [Nd.flat_eq] at hy
            rcases List.mem_cons.1 hy with rfl | hy
            · show s1.size ≤ _
              omega
            · have : ∃ i, i < len ∧ y ∈ (q i).1.flat := by
                have hgen : ∀ l : List Nat, y ∈ flats (l.map fun i => (q i).1) → ∃ i ∈ l, y ∈ (q i).1.flat := fun l => by
                  induction l with
                  | nil => intro h; rw [List.map_nil, flats_nil] at h; cases h
                  | cons j l ihl =>
                    intro h
                    rw [List.map_cons, flats_cons] at h
                    rcases List.mem_append.1 h with h | h
                    · exact ⟨j, by simp, h⟩
                    · obtain ⟨i, hi, hy⟩ := ihl h
                      exact ⟨i, by simp [hi], hy⟩
                obtain ⟨i, hi, hyi⟩ := hgen _ hy
                exact ⟨i, List.mem_range.1 hi, hyi⟩
              obtain ⟨i, hi, hyi⟩ := this
              have h1 := (hq i hi).2.2.2 y hyi
              have h2 : Rows.uptoBulk (D i) ≤ Rows.uptoBulkAll ((List.range len).map D) := bulk_mem (List.mem_map.2 ⟨i, List.mem_range.2 hi, rfl⟩)
              omega

set_option maxRecDepth 100000 in
theorem open_node {H : Type} {enc : TypeId × Value → H} {W : World} {base : Nat} {v : Value} {d : DataW H} {ps : List MemPlace} (hv : Value.okWide Tryz.prog W .any base 62 v) (h : DataW.Trod enc Tryz.prog W 0 (fun _ => true) true 62 v d ps) :
    ∃ (x : Nd) (u : Value), v = x.v u ∧ LAt W (fun b => b < W.heap.size) u x.ks ∧ x.size ≤ Rows.uptoBulk d ∧ ∀ y ∈ x.flat, y.t.size ≤ Rows.uptoBulk d := by
  obtain ⟨cs, rfl, hs⟩ := okWide_struct under_nd hv
  obtain ⟨fuel, h⟩ := h
  obtain ⟨x, u, e, h1, h2, h3⟩ := nd_open _ (Nat.le_refl _) h
  refine ⟨x, u, ?_, h1, h2, h3⟩
  have e2 : cs.toList = [.int .i64 x.k, .string x.t, .int .i64 x.n, u] := by simpa [Value.cells] using e
  unfold Nd.v
  congr 1
  exact Array.toList_inj.1 e2
end Go.Proofs.YtfehmdfamndcaaaGreatDoor
