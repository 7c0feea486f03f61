/- Own text. GraphRequests: the walk. Trees in memory of their own, each list apart from all others; Copy of package tree. GraphRequests: the walk. -/
import Derived.Test.YtdpajlopdgapeaaGreatDoorGm48
import Derived.Test.YtdpajlopdgapeaaGreatDoorGm02
import Derived.Test.YtdpajlopdgapeaaGreatDoorShelf
import Derived.Laws.MakeOwn
namespace Go.Proofs.YtdpajlopdgapeaaGreatDoor
open Go.RowKit Go.MapKept
set_option linter.unusedVariables false
set_option linter.unusedSimpArgs false

theorem rq_same (W : World) (a : Rq) : (binOp .neq 31 (.agg #[.string a.t, .bool a.ty, .int .i64 (a.it : Nat), .int .i64 a.tg]) (.agg #[.string a.t, .bool a.ty, .int .i64 (a.it : Nat), .int .i64 a.tg])).run Tryz.prog W = .ok (.bool false) W := by
  rw [rq_neq]
  simp
theorem rq_cells {w : World} {B g cap : Nat} {L : List Rq} (h : w.ownsRow B 31 4 (.slice (some ⟨g, 0, none⟩) L.length cap) L.length (rqL L)) {k : Nat} (hk : k < L.length) :
    w.cell? ⟨g, k * 4, none⟩ = some (.string L[k].t) ∧ w.cell? ⟨g, k * 4 + 1, none⟩ = some (.bool L[k].ty) ∧ w.cell? ⟨g, k * 4 + 2, none⟩ = some (.int .i64 (L[k].it : Nat)) ∧ w.cell? ⟨g, k * 4 + 3, none⟩ = some (.int .i64 L[k].tg) := by
  have cl : ∀ j, j < 4 → w.cell? ⟨g, k * 4 + j, none⟩ = L[k].cs[j]? := fun j hj => by
    rw [World.ownsRow.cellAt h _ (by omega), rqL_get L k hk j hj]
  exact ⟨cl 0 (by omega), cl 1 (by omega), cl 2 (by omega), cl 3 (by omega)⟩
set_option maxRecDepth 100000 in
set_option maxHeartbeats 1000000 in
theorem reqs_same {w : World} {B B' : Nat} {v v' : Value} {L : List Rq} (h : RqO w B v L) (h' : RqO w B' v' L) (hl : L.length ≤ 4194304) :
    Calls Tryz.prog 7 #[v, v'] w fun e w' => e = .returned (.bool true) ∧ Below w.heap.size w w' := by
  obtain ⟨a, c, rfl⟩ := Pa.row_form h
  obtain ⟨a', c', rfl⟩ := Pa.row_form h'
  have NG := rq_guard
  go_enter Tryz.func7, Tryz.ntmps7
  go_wp2
  go_loopw [5] (fun i wr => ∃ (k : Nat), i = .int .i64 (k : Nat) ∧ k ≤ L.length ∧ Below w.heap.size w wr) (fun i _ => L.length - (intOf i).toNat)
  case atStart => exact ⟨0, rfl, by omega, Below.refl _ _⟩
  case round =>
    obtain ⟨k, rfl, hk, bel⟩ := hrel
    by_cases hkl : k < L.length
    · have r1 := row_bel h bel
      have r2 := row_bel h' bel
      obtain ⟨g, q, e1, _, _⟩ := Pa.row_some r1 (by omega)
      obtain ⟨g', q', e2, _, _⟩ := Pa.row_some r2 (by omega)
      simp only [Value.slice.injEq, true_and] at e1 e2
      obtain ⟨rfl, rfl⟩ := e1
      obtain ⟨rfl, rfl⟩ := e2
      obtain ⟨u0, u1, u2, u3⟩ := rq_cells r1 hkl
      obtain ⟨v0, v1, v2, v3⟩ := rq_cells r2 hkl
      have NQ := fun W => rq_same W L[k]
      have bd := bel.drew
      clear r1 r2 h h'
      generalize L[k] = q at *
      go_wp2
      go_region
      go_wp2
      go_roundw
      case rel => exact ⟨k + 1, by simp, by omega, bd⟩
      case measure => simp [intOf]; omega
    · go_wp2
      go_ret
      exact ⟨rfl, bel⟩
end Go.Proofs.YtdpajlopdgapeaaGreatDoor
namespace Go.Proofs.YtdpajlopdgapeaaGreatDoor
open Go.RowKit
set_option linter.unusedVariables false

/-- no text of a tree is too long. -/
def Nd.tx (x : Nd) : Prop := ∀ y ∈ x.flat, y.t.size ≤ 4194304
theorem flats_mem : ∀ {l : List Nd} {x y : Nd}, x ∈ l → y ∈ x.flat → y ∈ flats l
  | z :: l, x, y, h, hy => by
    rw [flats_cons]
    rcases List.mem_cons.1 h with rfl | h
    · exact List.mem_append_left _ hy
    · exact List.mem_append_right _ (flats_mem h hy)
theorem Nd.tx_kid {x y : Nd} (h : x.tx) (hy : y ∈ x.ks) : y.tx := fun z hz => h z (by rw [x.flat_eq]; exact List.mem_cons_of_mem _ (flats_mem hy hz))
theorem Nd.tx_own {x : Nd} (h : x.tx) : x.t.size ≤ 4194304 := h x (by rw [x.flat_eq]; exact List.mem_cons_self)

/-- v is a list of these trees in memory of its own: each list of theirs is apart from all others; all lie in blocks of S. -/
inductive Sep (w : World) : (Nat → Prop) → Value → List Nd → Prop
  | nil (S : Nat → Prop) : Sep w S (.slice none 0 0) []
  | row (S : Nat → Prop) (bl : Nat) (ks : List Nd) (f : Nat → Value) (T : Nat → Nat → Prop) (cur : Array Value) (hn : 0 < ks.length) (hS : S bl) (hT : ∀ i b, T i b → S b) (hTb : ∀ i, ¬ T i bl) (hd : ∀ i j b, i ≠ j → T i b → ¬ T j b)
      (hg : w.heap[bl]? = some (.cells cur 24 (0, 0))) (hcs : cur.size = ks.length * 4) (h4 : ∀ i (h : i < ks.length), Four w bl (i * 4) ks[i] (f i)) (hk : ∀ i (h : i < ks.length), Sep w (T i) (f i) ks[i].ks) :
      Sep w S (.slice (some ⟨bl, 0, none⟩) ks.length ks.length) ks

theorem Sep.lat {w : World} {S : Nat → Prop} {v : Value} {ks : List Nd} (h : Sep w S v ks) : LAt w S v ks := by
  induction h with
  | nil S => exact .nil _ _
  | row S bl ks f T cur hn hS hT hTb hd hg hcs h4 hk ih =>
    exact .row bl 0 _ ks f hS (Array.getElem?_eq_some_iff.1 hg).1 (fun i hi => by rw [Nat.zero_add]; exact h4 i hi) (fun i hi => (ih i hi).mono (hT i))
theorem Sep.keep {w w' : World} {S : Nat → Prop} {v : Value} {ks : List Nd} (h : Sep w S v ks) (hb : ∀ b, S b → b < w.heap.size → w'.heap[b]? = w.heap[b]?) : Sep w' S v ks := by
  induction h with
  | nil S => exact .nil _
  | row S bl ks f T cur hn hS hT hTb hd hg hcs h4 hk ih =>
    have e := hb bl hS (Array.getElem?_eq_some_iff.1 hg).1
    exact .row S bl ks f T cur hn hS hT hTb hd (e.trans hg) hcs (fun i hi => (h4 i hi).of_block e) (fun i hi => ih i hi (fun b hT' hl => hb b (hT i b hT') hl))
/-- what is no cells may turn. -/
theorem Sep.keepC {w w' : World} {S : Nat → Prop} {v : Value} {ks : List Nd} (h : Sep w S v ks) (hb : ∀ b cur t, S b → w.heap[b]? = some (.cells cur t (0, 0)) → w'.heap[b]? = w.heap[b]?) : Sep w' S v ks := by
  induction h with
  | nil S => exact .nil _
  | row S bl ks f T cur hn hS hT hTb hd hg hcs h4 hk ih =>
    have e := hb bl _ _ hS hg
    exact .row S bl ks f T cur hn hS hT hTb hd (e.trans hg) hcs (fun i hi => (h4 i hi).of_block e) (fun i hi => ih i hi (fun b c t hT' hl => hb b c t (hT i b hT') hl))
theorem Sep.mono {w : World} {S S' : Nat → Prop} {v : Value} {ks : List Nd} (h : Sep w S v ks) (hS' : ∀ b, S b → S' b) : Sep w S' v ks := by
  cases h with
  | nil => exact .nil _
  | row _ bl ks f T cur hn hS hT hTb hd hg hcs h4 hk => exact .row _ bl ks f T cur hn (hS' bl hS) (fun i b h => hS' b (hT i b h)) hTb hd hg hcs h4 hk
theorem Sep.sl {w : World} {S : Nat → Prop} {v : Value} {ks : List Nd} (h : Sep w S v ks) : ∃ a c, v = .slice a ks.length c := h.lat.sl

theorem clone_anyT (s : ByteArray) (w : World) (hs : s.size ≤ 281474976710656) : Calls Tryz.prog 16 #[.string s] w fun e w' => e = .returned (.string s) ∧ Below w.heap.size w w' := by
  go_enter Tryz.func16, Tryz.ntmps16
  go_wp2_with (go_at_call 26; refine (Tryz.stringslite_Clone s _ hs).mono ?_; rintro e w' ⟨rfl, hb⟩)
  go_ret
  exact ⟨rfl, hb⟩

/-- k kids of a list have been copied: the list at bl, the kids' own lists one behind the other. -/
structure Half (w : World) (bl : Nat) (ks : List Nd) (k : Nat) (f : Nat → Value) (g : Nat → Nat) : Prop where
  row : ∃ cur, w.heap[bl]? = some (.cells cur 24 (0, 0)) ∧ cur.size = ks.length * 4
  lo : bl < g 0
  up : ∀ i, i < k → g i ≤ g (i + 1)
  hi : g k ≤ w.heap.size
  four : ∀ i (h : i < ks.length), i < k → Four w bl (i * 4) ks[i] (f i)
  kid : ∀ i (h : i < ks.length), i < k → Sep w (fun b => g i ≤ b ∧ b < g (i + 1)) (f i) ks[i].ks
theorem Half.mono_g {w : World} {bl : Nat} {ks : List Nd} {k : Nat} {f : Nat → Value} {g : Nat → Nat} (h : Half w bl ks k f g) : ∀ {i j : Nat}, i ≤ j → j ≤ k → g i ≤ g j := by
  intro i j hij hjk
  induction j with
  | zero => obtain rfl : i = 0 := by omega
            exact Nat.le_refl _
  | succ j ih =>
    by_cases e : i = j + 1
    · subst e; exact Nat.le_refl _
    · exact Nat.le_trans (ih (by omega) (by omega)) (h.up j (by omega))
theorem Half.bel {w w' : World} {bl : Nat} {ks : List Nd} {k : Nat} {f : Nat → Value} {g : Nat → Nat} (h : Half w bl ks k f g) (b : Below w.heap.size w w') : Half w' bl ks k f g := by
  obtain ⟨cur, hc, hs⟩ := h.row
  have hl := (Array.getElem?_eq_some_iff.1 hc).1
  exact ⟨⟨cur, (b.block bl hl).trans hc, hs⟩, h.lo, h.up, Nat.le_trans h.hi b.size, fun i hi hk => (h.four i hi hk).of_block (b.block bl hl), fun i hi hk => (h.kid i hi hk).keep (fun j _ hj => b.block j hj)⟩
theorem Half.sep {w : World} {bl : Nat} {ks : List Nd} {f : Nat → Value} {g : Nat → Nat} (h : Half w bl ks ks.length f g) (hn : 0 < ks.length) : Sep w (fun b => bl ≤ b ∧ b < w.heap.size) (.slice (some ⟨bl, 0, none⟩) ks.length ks.length) ks := by
  obtain ⟨cur, hc, hs⟩ := h.row
  have hl := (Array.getElem?_eq_some_iff.1 hc).1
  have lo := h.lo
  refine .row _ bl ks f (fun i b => i < ks.length ∧ g i ≤ b ∧ b < g (i + 1)) cur hn ⟨Nat.le_refl _, hl⟩ ?_ ?_ ?_ hc hs (fun i hi => h.four i hi hi) (fun i hi => (h.kid i hi hi).mono (fun b hb => ⟨hi, hb⟩))
  · rintro i b ⟨h1, h2, h3⟩
    have := h.mono_g (i := 0) (j := i) (by omega) (by omega)
    have := h.mono_g (i := i + 1) (j := ks.length) (by omega) (by omega)
    have := h.hi
    exact ⟨by omega, by omega⟩
  · rintro i ⟨h1, h2, h3⟩
    have := h.mono_g (i := 0) (j := i) (by omega) (by omega)
    omega
  · rintro i j b hij ⟨h1, h2, h3⟩ ⟨h4, h5, h6⟩
    by_cases hlt : i < j
    · have := h.mono_g (i := i + 1) (j := j) (by omega) (by omega)
      omega
    · have := h.mono_g (i := j + 1) (j := i) (by omega) (by omega)
      omega
/-- a place of a row that is there. -/
theorem row_cells {w : World} {bl n : Nat} {cur : Array Value} {t : TypeId} (h : w.heap[bl]? = some (.cells cur t (0, 0))) (hs : cur.size = n) {j : Nat} (hj : j < n) : (∃ u, w.cell? ⟨bl, j, none⟩ = some u) ∧ w.frozen? ⟨bl, j, none⟩ = false := by
  subst hs
  exact ⟨⟨cur[j], by simp [World.cell?, h, hj]⟩, by simp [World.frozen?, h]⟩
theorem set4_block {W : World} {bl o : Nat} {cur : Array Value} {t : TypeId} {fr : Nat × Nat} (p q r s : Value) (h : W.heap[bl]? = some (.cells cur t fr)) :
    ((((W.setCell ⟨bl, o, none⟩ p).setCell ⟨bl, o + 1, none⟩ q).setCell ⟨bl, o + 2, none⟩ r).setCell ⟨bl, o + 3, none⟩ s).heap[bl]? = some (.cells ((((cur.setIfInBounds o p).setIfInBounds (o + 1) q).setIfInBounds (o + 2) r).setIfInBounds (o + 3) s) t fr) := by
  simp [World.setCell, Array.getElem?_modify, h]
theorem set4_other {W : World} {bl o b : Nat} (p q r s : Value) (h : b ≠ bl) :
    ((((W.setCell ⟨bl, o, none⟩ p).setCell ⟨bl, o + 1, none⟩ q).setCell ⟨bl, o + 2, none⟩ r).setCell ⟨bl, o + 3, none⟩ s).heap[b]? = W.heap[b]? := by
  rw [Below.heap_setCell _ _ _ _ h, Below.heap_setCell _ _ _ _ h, Below.heap_setCell _ _ _ _ h, Below.heap_setCell _ _ _ _ h]
theorem set4_size {W : World} {bl o : Nat} (p q r s : Value) : ((((W.setCell ⟨bl, o, none⟩ p).setCell ⟨bl, o + 1, none⟩ q).setCell ⟨bl, o + 2, none⟩ r).setCell ⟨bl, o + 3, none⟩ s).heap.size = W.heap.size := by simp [World.setCell]
theorem set4_cell {W : World} {bl o n : Nat} {cur : Array Value} {t : TypeId} {fr : Nat × Nat} (p q r s : Value) (h : W.heap[bl]? = some (.cells cur t fr)) (j : Nat) :
    ((((W.setCell ⟨bl, o, none⟩ p).setCell ⟨bl, o + 1, none⟩ q).setCell ⟨bl, o + 2, none⟩ r).setCell ⟨bl, o + 3, none⟩ s).cell? ⟨bl, j, none⟩ = ((((cur.setIfInBounds o p).setIfInBounds (o + 1) q).setIfInBounds (o + 2) r).setIfInBounds (o + 3) s)[j]? :=
  cell_of_row _ bl _ _ _ _ (set4_block p q r s h)
theorem Half.next {w W3 : World} {bl : Nat} {ks : List Nd} {k : Nat} {f : Nat → Value} {g : Nat → Nat} {v : Value} (h : Half w bl ks k f g) (b : Below w.heap.size w W3) (hk : k < ks.length) (hv : Sep W3 (fun b => w.heap.size ≤ b ∧ b < W3.heap.size) v ks[k].ks) :
    Half ((((W3.setCell ⟨bl, k * 4, none⟩ (.int .i64 ks[k].k)).setCell ⟨bl, k * 4 + 1, none⟩ (.string ks[k].t)).setCell ⟨bl, k * 4 + 2, none⟩ (.int .i64 ks[k].n)).setCell ⟨bl, k * 4 + 3, none⟩ v) bl ks (k + 1) (fun i => if i = k then v else f i) (fun i => if i = k + 1 then W3.heap.size else g i) := by
  obtain ⟨cur, hc, hs⟩ := h.row
  have hl := (Array.getElem?_eq_some_iff.1 hc).1
  have hc3 : W3.heap[bl]? = some (.cells cur 24 (0, 0)) := (b.block bl hl).trans hc
  have sz3 := b.size
  have hi3 := h.hi
  have lo3 := h.lo
  have gk : bl < g k := Nat.lt_of_lt_of_le lo3 (h.mono_g (Nat.zero_le k) (Nat.le_refl k))
  refine ⟨⟨_, set4_block _ _ _ _ hc3, by simpa using hs⟩, ?_, ?_, ?_, ?_, ?_⟩
  · simpa using lo3
  · intro i hi
    by_cases e : i = k
    · subst e; simp; omega
    · have := h.up i (by omega)
      simp only [show ¬ i = k + 1 by omega, if_false, show ¬ i + 1 = k + 1 by omega]
      exact this
  · rw [set4_size]; simp
  · intro i hi hik
    have C := fun j => set4_cell (o := k * 4) (n := 0) (.int .i64 ks[k].k) (.string ks[k].t) (.int .i64 ks[k].n) v hc3 j
    by_cases e : i = k
    · subst e
      simp only [if_true]
      refine ⟨?_, ?_, ?_, ?_⟩ <;> (rw [C]; simp only [Array.getElem?_setIfInBounds, Array.size_setIfInBounds, hs]) <;> simp <;> omega
    · simp only [e, if_false]
      have h0 := (h.four i hi (by omega)).of_block (b.block bl hl)
      have D : ∀ j, W3.cell? ⟨bl, j, none⟩ = cur[j]? := fun j => cell_of_row W3 bl _ _ _ _ hc3
      have key : ∀ j, j < k * 4 → (((((cur.setIfInBounds (k * 4) (.int .i64 ks[k].k)).setIfInBounds (k * 4 + 1) (.string ks[k].t)).setIfInBounds (k * 4 + 2) (.int .i64 ks[k].n)).setIfInBounds (k * 4 + 3) v)[j]? : Option Value) = cur[j]? := fun j hj => by
        simp only [Array.getElem?_setIfInBounds]
        rw [if_neg (by omega), if_neg (by omega), if_neg (by omega), if_neg (by omega)]
      refine ⟨?_, ?_, ?_, ?_⟩
      · rw [C, key _ (by omega), ← D]; exact h0.1
      · rw [C, key _ (by omega), ← D]; exact h0.2.1
      · rw [C, key _ (by omega), ← D]; exact h0.2.2.1
      · rw [C, key _ (by omega), ← D]; exact h0.2.2.2
  · intro i hi hik
    by_cases e : i = k
    · subst e
      simp only [if_true, show ¬ i = i + 1 by omega, if_false]
      refine (hv.keep (fun j hj hlt => set4_other _ _ _ _ ?_)).mono (fun j hj => ⟨?_, hj.2⟩)
      · have := hj.1; omega
      · have := hj.1; omega
    · simp only [e, if_false, show ¬ i = k + 1 by omega, show ¬ i + 1 = k + 1 by omega]
      refine (h.kid i hi (by omega)).keep (fun j hj hlt => (set4_other _ _ _ _ ?_).trans (b.block j hlt))
      have := hj.1
      have := h.mono_g (i := 0) (j := i) (by omega) (by omega)
      omega
end Go.Proofs.YtdpajlopdgapeaaGreatDoor
namespace Go.Proofs.YtdpajlopdgapeaaGreatDoor.GrR
open Go.RowKit Go.MapKept
set_option linter.unusedVariables false
set_option linter.unusedSimpArgs false

set_option maxRecDepth 100000 in
set_option maxHeartbeats 16000000 in
theorem walk (x : Nd) (vx : Value) (w : World) (hx : LAt w (fun b => b < w.heap.size) vx x.ks) (zx : x.size ≤ 1048576) (tx : ∀ z ∈ x.flat, z.t.size ≤ 1048576) (he : Env w) :
    Calls Tryz.prog 3 #[x.v vx] w fun e w' => e = .returned (.bool true) ∧ Below w.heap.size w w' := by
  have ho := he.over
  have zk : x.ks.length ≤ 1048576 := by have := sizes_len x.ks; rw [x.size_eq] at zx; omega
  have zt : ∀ y ∈ x.ks, y.t.size ≤ 1048576 := fun y hy => tx y (by rw [x.flat_eq]; exact List.mem_cons_of_mem _ (flats_mem hy (by rw [y.flat_eq]; exact List.mem_cons_self)))
  have zl : (reqsL x).length ≤ 1048576 := Nat.le_trans (reqsL_len x) zk
  obtain ⟨ax, cx, rfl⟩ := hx.sl
  obtain ⟨L, hL⟩ : ∃ L, reqsL x = L := ⟨_, rfl⟩
  have C3 : Hid (∀ W, Below w.heap.size w W → Calls Tryz.prog 5 #[.agg #[Value.int IntKind.i64 x.k, Value.string x.t, Value.int IntKind.i64 x.n, Value.slice ax x.ks.length cx]] W fun e w' => ∃ a c, e = .returned (.agg #[.int .i64 x.k, .string x.t, .int .i64 x.n, .slice a x.ks.length c]) ∧ LAt w' (fun b => W.heap.size ≤ b) (.slice a x.ks.length c) x.ks ∧ Below W.heap.size W w') := fun W b => (rcopy_any x W _ _ (hx.bel b) (by omega)).mono (by rintro e w' ⟨v, rfl, l, bb⟩; obtain ⟨a, c, rfl⟩ := l.sl; exact ⟨a, c, rfl, l, bb⟩)
  have CP : Hid (∀ W S a c, LAt W S (.slice a x.ks.length c) x.ks → Calls Tryz.prog 6 #[.agg #[.int .i64 x.k, .string x.t, .int .i64 x.n, .slice a x.ks.length c]] W fun e w' => ∃ a' c', e = .returned (.slice a' L.length c') ∧ RqO w' W.heap.size (.slice a' L.length c') L ∧ Below W.heap.size W w') := fun W S a c l => by
    rw [← hL]
    exact (preq_any x W S _ l (by omega) (fun y hy => by have := zt y hy; omega)).mono (by rintro e w' ⟨v, rfl, r, bb⟩; obtain ⟨a', c', rfl⟩ := Pa.row_form r; exact ⟨a', c', rfl, r, bb⟩)
  have CR : Hid (∀ W, Below w.heap.size w W → Calls Tryz.prog 8 #[.agg #[.int .i64 x.k, .string x.t, .int .i64 x.n, .slice ax x.ks.length cx]] W fun e w' => ∃ a' c', e = .returned (.slice a' L.length c') ∧ RqO w' W.heap.size (.slice a' L.length c') L ∧ Below W.heap.size W w') := fun W b => by
    rw [← hL]
    exact (rreq_any x W _ _ (hx.bel b) (by omega)).mono (by rintro e w' ⟨v, rfl, r, bb⟩; obtain ⟨a', c', rfl⟩ := Pa.row_form r; exact ⟨a', c', rfl, r, bb⟩)
  have C6 : Hid (∀ W S a c, Below w.heap.size w W → LAt W S (.slice a x.ks.length c) x.ks → Calls Tryz.prog 9 #[.agg #[.int .i64 x.k, .string x.t, .int .i64 x.n, .slice a x.ks.length c], .agg #[Value.int IntKind.i64 x.k, Value.string x.t, Value.int IntKind.i64 x.n, Value.slice ax x.ks.length cx]] W fun e w' => e = .returned (.bool true) ∧ Below W.heap.size W w') := fun W S a c b l => (rsame_any x x W _ _ _ _ l (hx.bel b) (by omega) (by omega)).mono (by rintro e w' ⟨b, rfl, hb, bb⟩; exact ⟨by rw [hb.2 rfl], bb⟩)
  have CS : Hid (∀ W, Below w.heap.size w W → Calls Tryz.prog 10 #[] W fun e w' => e = .returned (.bool true) ∧ Below W.heap.size W w') := fun W b => sure_any W (env_below he b) (ho.mono b.size)
  have zL : L.length ≤ 1048576 := by rw [← hL]; exact zl
  clear hL zl zt zk tx he ho zx
  unfold Nd.v
  obtain ⟨W0, hW0⟩ : ∃ X, w.alloc (Obj.cells #[Value.int IntKind.i64 x.k, Value.string x.t, Value.int IntKind.i64 x.n, Value.slice ax x.ks.length cx] 24) = X := ⟨_, rfl⟩
  have b0 : Below w.heap.size w W0 := by rw [← hW0]; exact (Below.refl _ _).alloc (Nat.le_refl _) _
  have m0 : W0.heap[w.heap.size]? = some (.cells #[Value.int IntKind.i64 x.k, Value.string x.t, Value.int IntKind.i64 x.n, Value.slice ax x.ks.length cx] 24 (0, 0)) := by rw [← hW0]; exact hnew _ rfl
  have l0 : w.heap.size < W0.heap.size := (Array.getElem?_eq_some_iff.1 m0).1
  obtain ⟨⟨e0, e1, e2, e3⟩, _⟩ := box4 m0
  go_enter Tryz.func3, Tryz.ntmps3
  go_wp2_with fail
  go_at_call 5
  refine (C3.out W0 b0).mono ?_
  rintro e W1 ⟨am, cm, rfl, lm, b1⟩
  clear e0 e1 e2 e3 hW0 C3
  obtain ⟨W2, hW2⟩ : ∃ X, W1.alloc (Obj.cells #[Value.int IntKind.i64 x.k, Value.string x.t, Value.int IntKind.i64 x.n, Value.slice am x.ks.length cm] 24) = X := ⟨_, rfl⟩
  have b2 : Below W1.heap.size W1 W2 := by rw [← hW2]; exact (Below.refl _ _).alloc (Nat.le_refl _) _
  have m2 : W2.heap[W1.heap.size]? = some (.cells #[Value.int IntKind.i64 x.k, Value.string x.t, Value.int IntKind.i64 x.n, Value.slice am x.ks.length cm] 24 (0, 0)) := by rw [← hW2]; exact hnew _ rfl
  have l2 : W1.heap.size < W2.heap.size := (Array.getElem?_eq_some_iff.1 m2).1
  have d2 : Below W0.heap.size W0 W2 := b1.trans (b2.mono b1.size)
  have s2 := d2.size
  have lm2 := lm.bel b2
  have cs : Hid (∀ X, Below W2.heap.size W2 X → ((X.cell? ⟨w.heap.size, 0, none⟩ = some (.int .i64 x.k) ∧ X.cell? ⟨w.heap.size, 1, none⟩ = some (.string x.t) ∧ X.cell? ⟨w.heap.size, 2, none⟩ = some (.int .i64 x.n) ∧ X.cell? ⟨w.heap.size, 3, none⟩ = some (.slice ax x.ks.length cx)) ∧ (X.cell? ⟨W1.heap.size, 0, none⟩ = some (.int .i64 x.k) ∧ X.cell? ⟨W1.heap.size, 1, none⟩ = some (.string x.t) ∧ X.cell? ⟨W1.heap.size, 2, none⟩ = some (.int .i64 x.n) ∧ X.cell? ⟨W1.heap.size, 3, none⟩ = some (.slice am x.ks.length cm)))) := fun X b => ⟨(box4 ((b.block _ (by omega)).trans ((d2.block _ l0).trans m0))).1, (box4 ((b.block _ l2).trans m2)).1⟩
  have up : Hid (∀ X, Below W2.heap.size W2 X → Below w.heap.size w X) := fun X b => b0.trans ((d2.trans (b.mono d2.size)).mono b0.size)
  have lt : Hid (∀ X, Below W2.heap.size W2 X → LAt X (fun b => W0.heap.size ≤ b) (.slice am x.ks.length cm) x.ks) := fun X b => lm2.bel b
  clear lm lm2 m0 m2 hx
  obtain ⟨⟨e0, e1, e2, e3⟩, f0, f1, f2, f3⟩ := cs.out W2 (Below.refl _ _)
  go_wp2_with fail
  go_at_call 6
  refine (CP.out W2 _ _ _ (lt.out W2 (Below.refl _ _))).mono ?_
  rintro e W3 ⟨aa, ca, rfl, ra, b3⟩
  clear e0 e1 e2 e3 f0 f1 f2 f3 hW2
  obtain ⟨⟨e0, e1, e2, e3⟩, f0, f1, f2, f3⟩ := cs.out W3 b3
  go_wp2_with fail
  go_at_call 8
  refine (CR.out W3 (up.out W3 b3)).mono ?_
  rintro e W4 ⟨ab, cb, rfl, rb, b4⟩
  clear e0 e1 e2 e3 f0 f1 f2 f3
  have c4 : Below W2.heap.size W2 W4 := b3.trans (b4.mono b3.size)
  have ra4 := row_bel ra b4
  go_wp2_with fail
  go_at_call 7
  refine (reqs_same ra4 rb (by omega)).mono ?_
  rintro e W5 ⟨rfl, b5⟩
  have c5 : Below W2.heap.size W2 W5 := c4.trans (b5.mono c4.size)
  have ra5 := row_bel ra4 b5
  obtain ⟨⟨e0, e1, e2, e3⟩, f0, f1, f2, f3⟩ := cs.out W5 c5
  go_wp2_with fail
  go_at_call 9
  refine (C6.out W5 _ _ _ (up.out W5 c5) (lt.out W5 c5)).mono ?_
  rintro e W6 ⟨rfl, b6⟩
  have c6 : Below W2.heap.size W2 W6 := c5.trans (b6.mono c5.size)
  have ra6 := row_bel ra5 b6
  clear e0 e1 e2 e3 f0 f1 f2 f3 ra ra4 ra5 rb
  go_wp2
  go_loopw [6] (fun i wr => ∃ (k : Nat) (M : List Value), i = .int .i64 (k : Nat) ∧ k ≤ L.length ∧ Below W2.heap.size W2 wr ∧ wr.ownsRow W2.heap.size 31 4 (.slice aa L.length ca) L.length M) (fun i _ => L.length - (intOf i).toNat)
  case atStart => exact ⟨0, _, rfl, by omega, c6, ra6⟩
  case round =>
    obtain ⟨k, M, rfl, hk, bel, row⟩ := hrel
    clear ra6 c6
    by_cases hkl : k < L.length
    · obtain ⟨g, q, e1, hgB, _⟩ := Pa.row_some row (by omega)
      simp only [Value.slice.injEq, true_and] at e1
      obtain ⟨rfl, rfl⟩ := e1
      have z0 := World.ownsRow.frozenAt row (k * 4)
      have z1 : ∃ u, wr.cell? ⟨g, k * 4, none⟩ = some u := by
        have hM := row.1
        refine ⟨M[k * 4]'(by omega), ?_⟩
        rw [World.ownsRow.cellAt row _ (by omega)]
        exact List.getElem?_eq_getElem _
      obtain ⟨u, z1⟩ := z1
      have st := World.ownsRow.stored row (k * 4) (.string ⟨#[115, 112, 111, 105, 108, 116]⟩)
      have bs : Below W2.heap.size W2 (wr.setCell ⟨g, k * 4, none⟩ (.string ⟨#[115, 112, 111, 105, 108, 116]⟩)) := bel.setCell (p := ⟨g, k * 4, none⟩) hgB _
      go_wp2
      go_roundw
      case rel => exact ⟨k + 1, _, by simp, by omega, bs, st.1⟩
      case measure => simp [intOf]; omega
    · have B0 : Below W2.heap.size W2 wr.drew := bel.drew
      have nx : Hid (∀ X Y, Below W2.heap.size W2 X → Below X.heap.size X Y → Below W2.heap.size W2 Y) := fun X Y b b' => b.trans (b'.mono b.size)
      clear row b1 b2 b3 b4 b5 b6 c4 c5
      go_wp2_with fail
      go_region_held3 (fun X => (X.cell? ⟨w.heap.size, 0, none⟩ = some (.int .i64 x.k) ∧ X.cell? ⟨w.heap.size, 1, none⟩ = some (.string x.t) ∧ X.cell? ⟨w.heap.size, 2, none⟩ = some (.int .i64 x.n) ∧ X.cell? ⟨w.heap.size, 3, none⟩ = some (.slice ax x.ks.length cx)) ∧ (X.cell? ⟨W1.heap.size, 0, none⟩ = some (.int .i64 x.k) ∧ X.cell? ⟨W1.heap.size, 1, none⟩ = some (.string x.t) ∧ X.cell? ⟨W1.heap.size, 2, none⟩ = some (.int .i64 x.n) ∧ X.cell? ⟨W1.heap.size, 3, none⟩ = some (.slice am x.ks.length cm)))
        (first | assumption | exact cs.out _ B4 | exact cs.out _ B3 | exact cs.out _ B2 | exact cs.out _ B1 | exact cs.out _ B0)
        (first
          | (go_at_call 6; refine (CP.out _ _ _ _ (lt.out _ B0)).mono ?_; rintro e X1 ⟨a1, k1, rfl, r1, j1⟩; have B1 := nx.out _ _ B0 j1)
          | (go_at_call 8; refine (CR.out _ (up.out _ B1)).mono ?_; rintro e X2 ⟨a2, k2, rfl, r2, j2⟩; have B2 := nx.out _ _ B1 j2; have r1' := row_bel r1 j2)
          | (go_at_call 7; refine (reqs_same r1' r2 (by omega)).mono ?_; rintro e X3 ⟨rfl, j3⟩; have B3 := nx.out _ _ B2 j3)
          | (go_at_call 10; refine (CS.out _ (up.out _ B3)).mono ?_; rintro e X4 ⟨rfl, j4⟩; have B4 := nx.out _ _ B3 j4))
      all_goals
        go_wp2
        go_ret
        exact ⟨rfl, up.out _ B4⟩
end Go.Proofs.YtdpajlopdgapeaaGreatDoor.GrR
