/- Own text. Trees in memory of their own, each list apart from all others; Copy of package tree. The program's names: digits in an array. -/
import Derived.Test.YtpnljjcdlkjfhaaGreatDoorRv02
import Derived.Test.YtpnljjcdlkjfhaaGreatDoorShelf
import Derived.Laws.MakeOwn
import Derived.Test.YtpnljjcdlkjfhaaGreatDoorRv01
set_option linter.unusedVariables false
namespace Go.Proofs.YtpnljjcdlkjfhaaGreatDoor
open Go.RowKit
/-- no text of a tree is too long. -/
def Nd.tx (x : Nd) : Prop := ∀ y ∈ x.flat, y.t.size ≤ 4194304
theorem flats_mem : ∀ {l : List Nd} {x y : Nd}, x ∈ l → y ∈ x.flat → y ∈ flats l
  | z :: l, x, y, h, hy => by
    rw [flats_cons]
    rcases List.mem_cons.1 h with rfl | h
    · exact List.mem_append_left _ hy
    · exact List.mem_append_right _ (flats_mem h hy)
theorem Nd.tx_kid {x y : Nd} (h : x.tx) (hy : y ∈ x.ks) : y.tx := fun z hz => h z (by rw [x.flat_eq]; exact List.mem_cons_of_mem _ (flats_mem hy hz))
theorem Nd.tx_own {x : Nd} (h : x.tx) : x.t.size ≤ 4194304 := h x (by rw [x.flat_eq]; exact List.mem_cons_self)

/-- v is a list of these trees in memory of its own: each list of theirs is apart from all others; all lie in blocks of S. -/
inductive Sep (w : World) : (Nat → Prop) → Value → List Nd → Prop
  | nil (S : Nat → Prop) : Sep w S (.slice none 0 0) []
  | row (S : Nat → Prop) (bl : Nat) (ks : List Nd) (f : Nat → Value) (T : Nat → Nat → Prop) (cur : Array Value) (hn : 0 < ks.length) (hS : S bl) (hT : ∀ i b, T i b → S b) (hTb : ∀ i, ¬ T i bl) (hd : ∀ i j b, i ≠ j → T i b → ¬ T j b)
      (hg : w.heap[bl]? = some (.cells cur 51 (0, 0))) (hcs : cur.size = ks.length * 4) (h4 : ∀ i (h : i < ks.length), Four w bl (i * 4) ks[i] (f i)) (hk : ∀ i (h : i < ks.length), Sep w (T i) (f i) ks[i].ks) :
      Sep w S (.slice (some ⟨bl, 0, none⟩) ks.length ks.length) ks

theorem Sep.lat {w : World} {S : Nat → Prop} {v : Value} {ks : List Nd} (h : Sep w S v ks) : LAt w S v ks := by
  induction h with
  | nil S => exact .nil _ _
  | row S bl ks f T cur hn hS hT hTb hd hg hcs h4 hk ih =>
    exact .row bl 0 _ ks f hS (Array.getElem?_eq_some_iff.1 hg).1 (fun i hi => by rw [Nat.zero_add]; exact h4 i hi) (fun i hi => (ih i hi).mono (hT i))
theorem Sep.keep {w w' : World} {S : Nat → Prop} {v : Value} {ks : List Nd} (h : Sep w S v ks) (hb : ∀ b, S b → b < w.heap.size → w'.heap[b]? = w.heap[b]?) : Sep w' S v ks := by
  induction h with
  | nil S => exact .nil _
  | row S bl ks f T cur hn hS hT hTb hd hg hcs h4 hk ih =>
    have e := hb bl hS (Array.getElem?_eq_some_iff.1 hg).1
    exact .row S bl ks f T cur hn hS hT hTb hd (e.trans hg) hcs (fun i hi => (h4 i hi).of_block e) (fun i hi => ih i hi (fun b hT' hl => hb b (hT i b hT') hl))
/-- what is no cells may turn. -/
theorem Sep.keepC {w w' : World} {S : Nat → Prop} {v : Value} {ks : List Nd} (h : Sep w S v ks) (hb : ∀ b cur t, S b → w.heap[b]? = some (.cells cur t (0, 0)) → w'.heap[b]? = w.heap[b]?) : Sep w' S v ks := by
  induction h with
  | nil S => exact .nil _
  | row S bl ks f T cur hn hS hT hTb hd hg hcs h4 hk ih =>
    have e := hb bl _ _ hS hg
    exact .row S bl ks f T cur hn hS hT hTb hd (e.trans hg) hcs (fun i hi => (h4 i hi).of_block e) (fun i hi => ih i hi (fun b c t hT' hl => hb b c t (hT i b hT') hl))
theorem Sep.mono {w : World} {S S' : Nat → Prop} {v : Value} {ks : List Nd} (h : Sep w S v ks) (hS' : ∀ b, S b → S' b) : Sep w S' v ks := by
  cases h with
  | nil => exact .nil _
  | row _ bl ks f T cur hn hS hT hTb hd hg hcs h4 hk => exact .row _ bl ks f T cur hn (hS' bl hS) (fun i b h => hS' b (hT i b h)) hTb hd hg hcs h4 hk
theorem Sep.sl {w : World} {S : Nat → Prop} {v : Value} {ks : List Nd} (h : Sep w S v ks) : ∃ a c, v = .slice a ks.length c := h.lat.sl

theorem clone_anyT (s : ByteArray) (w : World) (hs : s.size ≤ 281474976710656) : Calls Tryz.prog 17 #[.string s] w fun e w' => e = .returned (.string s) ∧ Below w.heap.size w w' := by
  go_enter Tryz.func17, Tryz.ntmps17
  go_wp2_with (go_at_call 27; refine (Tryz.stringslite_Clone s _ hs).mono ?_; rintro e w' ⟨rfl, hb⟩)
  go_ret
  exact ⟨rfl, hb⟩

/-- k kids of a list have been copied: the list at bl, the kids' own lists one behind the other. -/
structure Half (w : World) (bl : Nat) (ks : List Nd) (k : Nat) (f : Nat → Value) (g : Nat → Nat) : Prop where
  row : ∃ cur, w.heap[bl]? = some (.cells cur 51 (0, 0)) ∧ cur.size = ks.length * 4
  lo : bl < g 0
  up : ∀ i, i < k → g i ≤ g (i + 1)
  hi : g k ≤ w.heap.size
  four : ∀ i (h : i < ks.length), i < k → Four w bl (i * 4) ks[i] (f i)
  kid : ∀ i (h : i < ks.length), i < k → Sep w (fun b => g i ≤ b ∧ b < g (i + 1)) (f i) ks[i].ks
theorem Half.mono_g {w : World} {bl : Nat} {ks : List Nd} {k : Nat} {f : Nat → Value} {g : Nat → Nat} (h : Half w bl ks k f g) : ∀ {i j : Nat}, i ≤ j → j ≤ k → g i ≤ g j := by
  intro i j hij hjk
  induction j with
  | zero => obtain rfl : i = 0 := by omega
            exact Nat.le_refl _
  | succ j ih =>
    by_cases e : i = j + 1
    · subst e; exact Nat.le_refl _
    · exact Nat.le_trans (ih (by omega) (by omega)) (h.up j (by omega))
theorem Half.bel {w w' : World} {bl : Nat} {ks : List Nd} {k : Nat} {f : Nat → Value} {g : Nat → Nat} (h : Half w bl ks k f g) (b : Below w.heap.size w w') : Half w' bl ks k f g := by
  obtain ⟨cur, hc, hs⟩ := h.row
  have hl := (Array.getElem?_eq_some_iff.1 hc).1
  exact ⟨⟨cur, (b.block bl hl).trans hc, hs⟩, h.lo, h.up, Nat.le_trans h.hi b.size, fun i hi hk => (h.four i hi hk).of_block (b.block bl hl), fun i hi hk => (h.kid i hi hk).keep (fun j _ hj => b.block j hj)⟩
theorem Half.sep {w : World} {bl : Nat} {ks : List Nd} {f : Nat → Value} {g : Nat → Nat} (h : Half w bl ks ks.length f g) (hn : 0 < ks.length) : Sep w (fun b => bl ≤ b ∧ b < w.heap.size) (.slice (some ⟨bl, 0, none⟩) ks.length ks.length) ks := by
  obtain ⟨cur, hc, hs⟩ := h.row
  have hl := (Array.getElem?_eq_some_iff.1 hc).1
  have lo := h.lo
  refine .row _ bl ks f (fun i b => i < ks.length ∧ g i ≤ b ∧ b < g (i + 1)) cur hn ⟨Nat.le_refl _, hl⟩ ?_ ?_ ?_ hc hs (fun i hi => h.four i hi hi) (fun i hi => (h.kid i hi hi).mono (fun b hb => ⟨hi, hb⟩))
  · rintro i b ⟨h1, h2, h3⟩
    have := h.mono_g (i := 0) (j := i) (by omega) (by omega)
    have := h.mono_g (i := i + 1) (j := ks.length) (by omega) (by omega)
    have := h.hi
    exact ⟨by omega, by omega⟩
  · rintro i ⟨h1, h2, h3⟩
    have := h.mono_g (i := 0) (j := i) (by omega) (by omega)
    omega
  · rintro i j b hij ⟨h1, h2, h3⟩ ⟨h4, h5, h6⟩
    by_cases hlt : i < j
    · have := h.mono_g (i := i + 1) (j := j) (by omega) (by omega)
      omega
    · have := h.mono_g (i := j + 1) (j := i) (by omega) (by omega)
      omega
/-- a place of a row that is there. -/
theorem row_cells {w : World} {bl n : Nat} {cur : Array Value} {t : TypeId} (h : w.heap[bl]? = some (.cells cur t (0, 0))) (hs : cur.size = n) {j : Nat} (hj : j < n) : (∃ u, w.cell? ⟨bl, j, none⟩ = some u) ∧ w.frozen? ⟨bl, j, none⟩ = false := by
  subst hs
  exact ⟨⟨cur[j], by simp [World.cell?, h, hj]⟩, by simp [World.frozen?, h]⟩
theorem set4_block {W : World} {bl o : Nat} {cur : Array Value} {t : TypeId} {fr : Nat × Nat} (p q r s : Value) (h : W.heap[bl]? = some (.cells cur t fr)) :
    ((((W.setCell ⟨bl, o, none⟩ p).setCell ⟨bl, o + 1, none⟩ q).setCell ⟨bl, o + 2, none⟩ r).setCell ⟨bl, o + 3, none⟩ s).heap[bl]? = some (.cells ((((cur.setIfInBounds o p).setIfInBounds (o + 1) q).setIfInBounds (o + 2) r).setIfInBounds (o + 3) s) t fr) := by
  simp [World.setCell, Array.getElem?_modify, h]
theorem set4_other {W : World} {bl o b : Nat} (p q r s : Value) (h : b ≠ bl) :
    ((((W.setCell ⟨bl, o, none⟩ p).setCell ⟨bl, o + 1, none⟩ q).setCell ⟨bl, o + 2, none⟩ r).setCell ⟨bl, o + 3, none⟩ s).heap[b]? = W.heap[b]? := by
  rw [Below.heap_setCell _ _ _ _ h, Below.heap_setCell _ _ _ _ h, Below.heap_setCell _ _ _ _ h, Below.heap_setCell _ _ _ _ h]
theorem set4_size {W : World} {bl o : Nat} (p q r s : Value) : ((((W.setCell ⟨bl, o, none⟩ p).setCell ⟨bl, o + 1, none⟩ q).setCell ⟨bl, o + 2, none⟩ r).setCell ⟨bl, o + 3, none⟩ s).heap.size = W.heap.size := by simp [World.setCell]
theorem set4_cell {W : World} {bl o n : Nat} {cur : Array Value} {t : TypeId} {fr : Nat × Nat} (p q r s : Value) (h : W.heap[bl]? = some (.cells cur t fr)) (j : Nat) :
    ((((W.setCell ⟨bl, o, none⟩ p).setCell ⟨bl, o + 1, none⟩ q).setCell ⟨bl, o + 2, none⟩ r).setCell ⟨bl, o + 3, none⟩ s).cell? ⟨bl, j, none⟩ = ((((cur.setIfInBounds o p).setIfInBounds (o + 1) q).setIfInBounds (o + 2) r).setIfInBounds (o + 3) s)[j]? :=
  cell_of_row _ bl _ _ _ _ (set4_block p q r s h)
theorem Half.next {w W3 : World} {bl : Nat} {ks : List Nd} {k : Nat} {f : Nat → Value} {g : Nat → Nat} {v : Value} (h : Half w bl ks k f g) (b : Below w.heap.size w W3) (hk : k < ks.length) (hv : Sep W3 (fun b => w.heap.size ≤ b ∧ b < W3.heap.size) v ks[k].ks) :
    Half ((((W3.setCell ⟨bl, k * 4, none⟩ (.int .i64 ks[k].k)).setCell ⟨bl, k * 4 + 1, none⟩ (.string ks[k].t)).setCell ⟨bl, k * 4 + 2, none⟩ (.int .i64 ks[k].n)).setCell ⟨bl, k * 4 + 3, none⟩ v) bl ks (k + 1) (fun i => if i = k then v else f i) (fun i => if i = k + 1 then W3.heap.size else g i) := by
  obtain ⟨cur, hc, hs⟩ := h.row
  have hl := (Array.getElem?_eq_some_iff.1 hc).1
  have hc3 : W3.heap[bl]? = some (.cells cur 51 (0, 0)) := (b.block bl hl).trans hc
  have sz3 := b.size
  have hi3 := h.hi
  have lo3 := h.lo
  have gk : bl < g k := Nat.lt_of_lt_of_le lo3 (h.mono_g (Nat.zero_le k) (Nat.le_refl k))
  refine ⟨⟨_, set4_block _ _ _ _ hc3, by simpa using hs⟩, ?_, ?_, ?_, ?_, ?_⟩
  · simpa using lo3
  · intro i hi
    by_cases e : i = k
    · subst e; simp; omega
    · have := h.up i (by omega)
      simp only [show ¬ i = k + 1 by omega, if_false, show ¬ i + 1 = k + 1 by omega]
      exact this
  · rw [set4_size]; simp
  · intro i hi hik
    have C := fun j => set4_cell (o := k * 4) (n := 0) (.int .i64 ks[k].k) (.string ks[k].t) (.int .i64 ks[k].n) v hc3 j
    by_cases e : i = k
    · subst e
      simp only [if_true]
      refine ⟨?_, ?_, ?_, ?_⟩ <;> (rw [C]; simp only [Array.getElem?_setIfInBounds, Array.size_setIfInBounds, hs]) <;> simp <;> omega
    · simp only [e, if_false]
      have h0 := (h.four i hi (by omega)).of_block (b.block bl hl)
      have D : ∀ j, W3.cell? ⟨bl, j, none⟩ = cur[j]? := fun j => cell_of_row W3 bl _ _ _ _ hc3
      have key : ∀ j, j < k * 4 → (((((cur.setIfInBounds (k * 4) (.int .i64 ks[k].k)).setIfInBounds (k * 4 + 1) (.string ks[k].t)).setIfInBounds (k * 4 + 2) (.int .i64 ks[k].n)).setIfInBounds (k * 4 + 3) v)[j]? : Option Value) = cur[j]? := fun j hj => by
        simp only [Array.getElem?_setIfInBounds]
        rw [if_neg (by omega), if_neg (by omega), if_neg (by omega), if_neg (by omega)]
      refine ⟨?_, ?_, ?_, ?_⟩
      · rw [C, key _ (by omega), ← D]; exact h0.1
      · rw [C, key _ (by omega), ← D]; exact h0.2.1
      · rw [C, key _ (by omega), ← D]; exact h0.2.2.1
      · rw [C, key _ (by omega), ← D]; exact h0.2.2.2
  · intro i hi hik
    by_cases e : i = k
    · subst e
      simp only [if_true, show ¬ i = i + 1 by omega, if_false]
      refine (hv.keep (fun j hj hlt => set4_other _ _ _ _ ?_)).mono (fun j hj => ⟨?_, hj.2⟩)
      · have := hj.1; omega
      · have := hj.1; omega
    · simp only [e, if_false, show ¬ i = k + 1 by omega, show ¬ i + 1 = k + 1 by omega]
      refine (h.kid i hi (by omega)).keep (fun j hj hlt => (set4_other _ _ _ _ ?_).trans (b.block j hlt))
      have := hj.1
      have := h.mono_g (i := 0) (j := i) (by omega) (by omega)
      omega
set_option linter.unusedSimpArgs false
/-- the array behind i rounds: the lowest i digits. -/
structure DgA (W : World) (b n i : Nat) : Prop where
  ar : ∃ c, W.heap[b]? = some (.cells c 56 (0, 0)) ∧ c.size = 19
  lo : ∀ j, j < 19 → 19 ≤ j + i → W.cell? ⟨b, j, none⟩ = some (.int .u8 (48 + ((n / 10 ^ (18 - j) % 10 : Nat) : Int)))
theorem DgA.cell {W : World} {b n i : Nat} (h : DgA W b n i) (j : Nat) (hj : j < 19) : ∃ v, W.cell? ⟨b, j, none⟩ = some v := by
  obtain ⟨c, hb, hc⟩ := h.ar
  exact ⟨c[j], by simp [World.cell?, hb, Array.getElem?_eq_getElem (show j < c.size by omega)]⟩
theorem DgA.free {W : World} {b n i : Nat} (h : DgA W b n i) (j : Nat) : W.frozen? ⟨b, j, none⟩ = false := by
  obtain ⟨c, hb, hc⟩ := h.ar
  simp [World.frozen?, hb]
theorem DgA.lt {W : World} {b n i : Nat} (h : DgA W b n i) : b < W.heap.size := by
  obtain ⟨c, hb, hc⟩ := h.ar
  exact (Array.getElem?_eq_some_iff.1 hb).1
theorem DgA.step {W : World} {b n k q : Nat} (h : DgA W b n k) (hk : k < 19) (hq : n / 10 ^ k = q) : DgA (W.setCell ⟨b, 18 - k, none⟩ (.int .u8 (48 + (q : Int) % 10))) b n (k + 1) := by
  obtain ⟨c, hb, hc⟩ := h.ar
  refine ⟨⟨c.setIfInBounds (18 - k) (.int .u8 (48 + (q : Int) % 10)), ?_, by simp [hc]⟩, fun j h1 h2 => ?_⟩
  · have := heap_setCell_same W b (18 - k) c _ (.int .u8 (48 + (q : Int) % 10)) hb
    rw [this]
  · by_cases e : j = 18 - k
    · subst e
      rw [show 18 - (18 - k) = k by omega, hq]
      obtain ⟨v, hv⟩ := h.cell (18 - k) (by omega)
      rw [World.cell?_setCell_same' _ _ _ (by rw [hv]; rfl)]
      simp
    · rw [World.cell?_setCell_other _ _ _ _ (show (⟨b, 18 - k, none⟩ : Addr) ≠ ⟨b, j, none⟩ from fun h => e (by injection h with _ h _; exact h.symm))]
      exact h.lo j h1 (by omega)
/-- what the array says, from a place on. -/
theorem DgA.out {W : World} {b n : Nat} (h : DgA W b n 19) (hn : n ≤ 9223372036854775807) (w : World) : ∀ j (hj : j < (dgL n).length), W.cell? ⟨b, 19 - (dgL n).length + j, none⟩ = some (.int .u8 (dgL n)[j].toNat) := by
  intro j hj
  have hl := dgL_pow 18 n (by omega)
  rw [h.lo _ (by omega) (by omega), dgL_get n j hj]
  have e : 18 - (19 - (dgL n).length + j) = (dgL n).length - 1 - j := by omega
  rw [e]
  have : ∀ d : Nat, d < 10 → ((48 : Int) + (d : Int)) = (((48 + d.toUInt8 : UInt8).toNat : Nat) : Int) := by decide
  rw [this _ (Nat.mod_lt _ (by omega))]
set_option maxRecDepth 100000 in
set_option maxHeartbeats 4000000 in
theorem digP_any (n : Nat) (w : World) (hn : n ≤ 9223372036854775807) : Calls Tryz.prog 19 #[.int .i64 (n : Nat)] w fun e w' => e = .returned (.string ⟨(dgL n).toArray⟩) ∧ Below w.heap.size w w' := by
  go_enter Tryz.func19, Tryz.ntmps19
  go_wp2_with fail
  obtain ⟨W0, hW0⟩ : ∃ W, w.alloc (Obj.cells #[.int .u8 0, .int .u8 0, .int .u8 0, .int .u8 0, .int .u8 0, .int .u8 0, .int .u8 0, .int .u8 0, .int .u8 0, .int .u8 0, .int .u8 0, .int .u8 0, .int .u8 0, .int .u8 0, .int .u8 0, .int .u8 0, .int .u8 0, .int .u8 0, .int .u8 0] 56) = W := ⟨_, rfl⟩
  have d0 : DgA W0 w.heap.size n 0 := ⟨⟨_, by rw [← hW0]; exact hnew _ rfl, rfl⟩, fun j h1 h2 => by omega⟩
  have b0 : Below w.heap.size w W0 := by rw [← hW0]; exact bel_a _ _
  rw [hW0]
  clear hW0
  obtain ⟨b, hb⟩ : ∃ b, w.heap.size = b := ⟨_, rfl⟩
  have HB0 : Hid (w.heap.size = b) := hb
  rw [hb] at d0 b0 ⊢
  clear hb
  go_loopw [0, 4, 7] (fun vn vf vi wr => ∃ k : Nat, k ≤ 19 ∧ vi = .int .i64 (k : Nat) ∧ vn = .int .i64 ((n / 10 ^ k : Nat) : Int) ∧ vf = .int .i64 ((19 - lnD n k : Nat) : Int) ∧ Hid (DgA wr b n k) ∧ Below b w wr) (fun _ _ vi _ => 19 - (intOf vi).toNat)
  case atStart => exact ⟨0, by omega, rfl, by simp, by rw [lnD_zero]; rfl, d0, b0⟩
  case round =>
    obtain ⟨k, hk, rfl, rfl, rfl, HD, bel⟩ := hrel
    by_cases hlt : k < 19
    · obtain ⟨v, hc⟩ := HD.out.cell (18 - k) (by omega)
      have hf := HD.out.free (18 - k)
      have hkl : ((k : Nat) : Int) < 19 := by omega
      have hi1 : (0 : Int) ≤ 18 - (k : Int) := by omega
      obtain ⟨q, hq⟩ : ∃ q, n / 10 ^ k = q := ⟨_, rfl⟩
      have HQ : Hid (n / 10 ^ k = q) := hq
      obtain ⟨f, hff⟩ : ∃ f, 19 - lnD n k = f := ⟨_, rfl⟩
      have HF : Hid (19 - lnD n k = f) := hff
      rw [hq, hff]
      have hq2 : q ≤ 9223372036854775807 := by rw [← hq]; exact Nat.le_trans (Nat.div_le_self _ _) hn
      have HN : Hid (n ≤ 9223372036854775807) := hn
      clear hq hff hn
      have hfr : f ≤ 18 := by have := (lnD_le n k).1; have := HF.out; omega
      have HS : Hid _ := HD.out.step hlt HQ.out
      have HB : Hid (Below b w (wr.setCell ⟨b, 18 - k, none⟩ (.int .u8 (48 + (q : Int) % 10)))) := bel.setCell (Nat.le_refl _) _
      have HV : Hid ((Value.int IntKind.i64 ((q : Int) / 10)) = .int .i64 ((n / 10 ^ (k + 1) : Nat) : Int)) := by
        show _ = _
        rw [Nat.pow_succ, ← Nat.div_div_eq_div_mul, HQ.out]
        simp
      have HA : Hid (q % 10 = 0 → (Value.int IntKind.i64 f) = .int .i64 ((19 - lnD n (k + 1) : Nat) : Int)) := fun h => by
        rw [lnD_same n k (by rw [HQ.out]; exact h), HF.out]
      have HC : Hid (q % 10 ≠ 0 → (Value.int IntKind.i64 (18 - (k : Int))) = .int .i64 ((19 - lnD n (k + 1) : Nat) : Int)) := fun h => by
        rw [lnD_more n k (by rw [HQ.out]; exact h)]
        congr 1
        omega
      clear bel HD
      go_wp2
      all_goals rename_i hz
      · exact ⟨⟨k + 1, by omega, by simp, HV.out, HC.out (by rw [bne_iff_ne] at hz; omega), HS, HB.out⟩, by simp [intOf]; omega⟩
      · exact ⟨⟨k + 1, by omega, by simp, HV.out, HA.out (by rw [bne_eq_false_iff_eq] at hz; omega), HS, HB.out⟩, by simp [intOf]; omega⟩
    · obtain rfl : k = 19 := by omega
      rw [lnD_all n hn]
      have hl0 : 1 ≤ (dgL n).length := by rw [← lnD_all n hn]; exact (lnD_le n 19).1
      have hl1 : (dgL n).length ≤ 19 := dgL_pow 18 n (by omega)
      obtain ⟨l, hl⟩ : ∃ l, (dgL n).length = l := ⟨_, rfl⟩
      rw [hl]
      rw [hl] at hl0 hl1
      have hi2 : ((19 - l : Nat) : Int) ≤ 19 := by omega
      have hcv : (convert 57 9 (.slice (some ⟨b, 19 - l, none⟩) (19 - (19 - l)) (19 - (19 - l)))).run Tryz.prog wr = .ok (.string ⟨(dgL n).toArray⟩) wr := by
        have e1 : 19 - (19 - l) = ((dgL n).map fun x : UInt8 => ((x.toNat : Nat) : Int)).length := by simp; omega
        have := run_convert_bytes_arg (P := Tryz.prog) (w := wr) 57 5 Tryz.underlying57 Tryz.underlying5 b (19 - l) (19 - (19 - l)) (19 - (19 - l)) ((dgL n).map fun x : UInt8 => ((x.toNat : Nat) : Int)) e1.symm (fun j hj => by
          have hj2 : j < (dgL n).length := by omega
          have := HD.out.out hn wr j hj2
          rw [hl] at this
          rw [this, List.getD_eq_getElem?_getD, List.getElem?_map, List.getElem?_eq_getElem hj2]
          rfl) 9 Tryz.underlying9
        rw [this]
        have : strOfNums ((dgL n).map fun x : UInt8 => ((x.toNat : Nat) : Int)) = ⟨(dgL n).toArray⟩ := by
          unfold strOfNums
          rw [List.map_map]
          congr 2
          conv => rhs; rw [← List.map_id (dgL n)]
          refine List.map_congr_left fun x _ => ?_
          simp
        rw [this]
      have HB : Hid _ := bel
      clear hlt hk hl hn d0 b0 HD bel
      obtain ⟨s, hs⟩ : ∃ s : ByteArray, (⟨(dgL n).toArray⟩ : ByteArray) = s := ⟨_, rfl⟩
      have HS : Hid ((⟨(dgL n).toArray⟩ : ByteArray) = s) := hs
      rw [hs] at hcv
      clear hs
      go_wp2
      go_ret
      exact ⟨by rw [HS.out]; rfl, by rw [HB0.out]; exact HB.out⟩
set_option maxRecDepth 100000 in
set_option maxHeartbeats 4000000 in
theorem spaceP_any (m : Int) (w : World) (h0 : -9223372036854775808 ≤ m) (h1 : m ≤ 9223372036854775807) :
    Calls Tryz.prog 9 #[.int .i64 m] w fun e w' => e = .returned (.string ⟨(nmL m []).toArray⟩) ∧ Below w.heap.size w w' := by
  by_cases h : m < 0
  · have HR : Hid (nmL m [] = []) := if_pos h
    go_enter Tryz.func9, Tryz.ntmps9
    go_wp2
    go_ret
    exact ⟨by rw [HR.out]; rfl, Below.refl _ _⟩
  · obtain ⟨n, rfl⟩ : ∃ n : Nat, m = n := ⟨m.toNat, by omega⟩
    have C := digP_any n w (by omega)
    have hz := dgL_pow 18 n (by omega)
    have HR : Hid (⟨#[36]⟩ ++ ⟨(dgL n).toArray⟩ = (⟨(nmL n []).toArray⟩ : ByteArray)) := by
      show _ = _
      unfold nmL
      rw [if_neg h]
      apply ByteArray.ext
      simp
    have hd2 : 1 + (dgL n).length ≤ 9223372036854775807 := by omega
    go_enter Tryz.func9, Tryz.ntmps9
    go_wp2_with fail
    go_at_call 19
    refine C.mono ?_
    rintro e W1 ⟨rfl, b1⟩
    go_wp2
    go_ret
    exact ⟨by rw [← HR.out]; rfl, b1⟩
theorem nmL_len (m : Int) (s : List UInt8) (h1 : m ≤ 9223372036854775807) : (nmL m s).length ≤ s.length + 20 := by
  unfold nmL
  split
  · simp
  · have := dgL_pow 18 m.toNat (by omega)
    simp
    omega
theorem nmL_app (m : Int) (s : List UInt8) (h : ¬ m < 0) : nmL m s = s ++ nmL m [] := by
  unfold nmL
  rw [if_neg h, if_neg h]
  rfl
set_option maxRecDepth 100000 in
set_option maxHeartbeats 4000000 in
theorem nameP_any (m : Int) (s : ByteArray) (w : World) (h0 : -9223372036854775808 ≤ m) (h1 : m ≤ 9223372036854775807) (hs : s.size ≤ 1125899906842624) :
    Calls Tryz.prog 7 #[.int .i64 m, .string s] w fun e w' => e = .returned (.string ⟨(nmL m s.data.toList).toArray⟩) ∧ Below w.heap.size w w' := by
  by_cases h : m < 0
  · have HR : Hid (nmL m s.data.toList = []) := if_pos h
    go_enter Tryz.func7, Tryz.ntmps7
    go_wp2
    go_ret
    exact ⟨by rw [HR.out]; rfl, Below.refl _ _⟩
  · have C := spaceP_any m w h0 h1
    have hz := nmL_len m [] h1
    have HR : Hid (s ++ ⟨(nmL m []).toArray⟩ = (⟨(nmL m s.data.toList).toArray⟩ : ByteArray)) := by
      show _ = _
      rw [nmL_app m s.data.toList h]
      apply ByteArray.ext
      simp
    simp only [List.length_nil] at hz
    have hd2 : s.size + (nmL m []).length ≤ 9223372036854775807 := by omega
    go_enter Tryz.func7, Tryz.ntmps7
    go_wp2_with fail
    go_at_call 9
    refine C.mono ?_
    rintro e W1 ⟨rfl, b1⟩
    go_wp2
    go_ret
    exact ⟨by rw [← HR.out]; rfl, b1⟩
end Go.Proofs.YtpnljjcdlkjfhaaGreatDoor
