/- Own text. The document's linker at one module: what is held on the way. -/
import Derived.Test.YtpnljjcdlkjfhaaGreatDoorRv38
import Derived.Test.YtpnljjcdlkjfhaaGreatDoorRv40
set_option linter.unusedVariables false
set_option linter.unusedSimpArgs false
namespace Go.Proofs.YtpnljjcdlkjfhaaGreatDoor
open Go.RowKit
theorem info_scR : (Tryz.prog.info? 98).map (fun i => (i.zero, i.size, i.bytes)) = some (some (.agg #[.slice none 0 0, .slice none 0 0]), 2, 48) := by kernel_rfl
theorem info_esR : (Tryz.prog.info? 106).map (fun i => (i.zero, i.size, i.bytes)) = some (some (.agg #[.slice none 0 0, .slice none 0 0, .slice none 0 0, .slice none 0 0]), 4, 96) := by kernel_rfl
theorem info_fsR : (Tryz.prog.info? 108).map (fun i => (i.zero, i.size, i.bytes)) = some (some (.slice none 0 0), 1, 24) := by kernel_rfl
/-- one scope in memory. -/
structure ScAt (W : World) (B gs gt ct : Nat) : Prop where
  s0 : W.cell? ⟨gs, 0, none⟩ = some (.slice (some ⟨gt, 0, none⟩) 1 ct)
  s1 : W.cell? ⟨gs, 1, none⟩ = some (.slice none 0 0)
  lo : B ≤ gs
theorem ScAt.lt {W : World} {B gs gt ct : Nat} (h : ScAt W B gs gt ct) : gs < W.heap.size := World.block_lt_of_cell? W _ h.s0
theorem ScAt.keep {W X : World} {B gs gt ct : Nat} (h : ScAt W B gs gt ct) (e : ∀ k, B ≤ k → k < W.heap.size → X.heap[k]? = W.heap[k]?) : ScAt X B gs gt ct := by
  have em := e gs h.lo h.lt
  exact ⟨(World.cell?_of_block (a := ⟨gs, _, none⟩) em).trans h.s0, (World.cell?_of_block (a := ⟨gs, _, none⟩) em).trans h.s1, h.lo⟩
theorem ScAt.mono {W : World} {B B' gs gt ct : Nat} (h : ScAt W B gs gt ct) (hb : B' ≤ B) : ScAt W B' gs gt ct := ⟨h.s0, h.s1, Nat.le_trans hb h.lo⟩
/-- the entries of one module in memory. -/
structure EsAt (W : World) (B gE ge ce : Nat) : Prop where
  n0 : W.cell? ⟨gE, 0, none⟩ = some (.slice none 0 0)
  n1 : W.cell? ⟨gE, 1, none⟩ = some (.slice (some ⟨ge, 0, none⟩) 1 ce)
  n2 : W.cell? ⟨gE, 2, none⟩ = some (.slice none 0 0)
  n3 : W.cell? ⟨gE, 3, none⟩ = some (.slice none 0 0)
  en : E5At W B ge
  lo : B ≤ gE
theorem EsAt.lt {W : World} {B gE ge ce : Nat} (h : EsAt W B gE ge ce) : gE < W.heap.size := World.block_lt_of_cell? W _ h.n0
theorem EsAt.keep {W X : World} {B gE ge ce : Nat} (h : EsAt W B gE ge ce) (e : ∀ k, B ≤ k → k < W.heap.size → X.heap[k]? = W.heap[k]?) : EsAt X B gE ge ce := by
  have em := e gE h.lo h.lt
  exact ⟨(World.cell?_of_block (a := ⟨gE, _, none⟩) em).trans h.n0, (World.cell?_of_block (a := ⟨gE, _, none⟩) em).trans h.n1, (World.cell?_of_block (a := ⟨gE, _, none⟩) em).trans h.n2, (World.cell?_of_block (a := ⟨gE, _, none⟩) em).trans h.n3, h.en.keep e, h.lo⟩
theorem EsAt.mono {W : World} {B B' gE ge ce : Nat} (h : EsAt W B gE ge ce) (hb : B' ≤ B) : EsAt W B' gE ge ce := ⟨h.n0, h.n1, h.n2, h.n3, h.en.mono hb, Nat.le_trans hb h.lo⟩
theorem ln_of {W : World} {B gm gs gE g o c gt ct ge ce : Nat} (m : MdAt W 0 gm g o c) (s : ScAt W B gs gt ct) (e : EsAt W B gE ge ce) : LnAt W gm gs gE g o c gt ct ge ce :=
  ⟨m, s.s0, s.s1, e.n0, e.n1, e.n2, e.n3, e.en.mono (Nat.zero_le _)⟩
theorem md_old {W X : World} {gm g o c : Nat} (h : MdAt W 0 gm g o c) (e : ∀ k, k < W.heap.size → X.heap[k]? = W.heap[k]?) : MdAt X 0 gm g o c := h.keep fun k _ hk => e k hk
abbrev lkO (a b c d : Value) : Obj := .cells #[a, b, c, d] 43
theorem lk_set1 {w : World} {n : Nat} {a b c d : Value} (h : w.heap[n]? = some (lkO a b c d)) (x : Value) : (w.setCell ⟨n, 1, none⟩ x).heap[n]? = some (lkO a x c d) := by simp [World.setCell, Array.getElem?_modify, h]
theorem lk_set2 {w : World} {n : Nat} {a b c d : Value} (h : w.heap[n]? = some (lkO a b c d)) (x : Value) : (w.setCell ⟨n, 2, none⟩ x).heap[n]? = some (lkO a b x d) := by simp [World.setCell, Array.getElem?_modify, h]
theorem lk_set3 {w : World} {n : Nat} {a b c d : Value} (h : w.heap[n]? = some (lkO a b c d)) (x : Value) : (w.setCell ⟨n, 3, none⟩ x).heap[n]? = some (lkO a b c x) := by simp [World.setCell, Array.getElem?_modify, h]
/-- what is held between the linker's steps: b the first of its boxes. -/
structure LkS (W X : World) (gm cm : Nat) (s e f : Value) : Prop where
  kp : Kpt (W.heap.size + 1 + 1) W X
  g : X.heap[W.heap.size]? = some (.cells #[.slice (some ⟨gm, 0, none⟩) 1 cm] 38 (0, 0))
  z : X.heap[W.heap.size + 1]? = some (lkO (.slice none 0 0) (.slice none 0 0) (.slice none 0 0) (.slice none 0 0))
  l : X.heap[W.heap.size + 1 + 1]? = some (lkO (.slice (some ⟨gm, 0, none⟩) 1 cm) s e f)
theorem LkS.lt {W X : World} {gm cm : Nat} {s e f : Value} (h : LkS W X gm cm s e f) : W.heap.size + 1 + 1 < X.heap.size := (Array.getElem?_eq_some_iff.1 h.l).1
theorem LkS.bel {W X Y : World} {gm cm : Nat} {s e f : Value} (h : LkS W X gm cm s e f) (b : Below X.heap.size X Y) : LkS W Y gm cm s e f := by
  have := h.lt
  exact ⟨h.kp.then b, (b.block _ (by omega)).trans h.g, (b.block _ (by omega)).trans h.z, (b.block _ (by omega)).trans h.l⟩
theorem LkS.md {W X : World} {gm cm g o c : Nat} {s e f : Value} (h : LkS W X gm cm s e f) (m : MdAt W 0 gm g o c) : MdAt X 0 gm g o c := md_old m fun k hk => h.kp.block k hk (by omega)
theorem LkS.set1 {W X : World} {gm cm : Nat} {s e f : Value} (h : LkS W X gm cm s e f) (v : Value) : LkS W (X.setCell ⟨W.heap.size + 1 + 1, 1, none⟩ v) gm cm v e f :=
  ⟨h.kp.set 1 v, (Below.heap_setCell _ _ _ _ (by show W.heap.size ≠ W.heap.size + 1 + 1; omega)).trans h.g, (Below.heap_setCell _ _ _ _ (by show W.heap.size + 1 ≠ W.heap.size + 1 + 1; omega)).trans h.z, lk_set1 h.l v⟩
theorem LkS.set2 {W X : World} {gm cm : Nat} {s e f : Value} (h : LkS W X gm cm s e f) (v : Value) : LkS W (X.setCell ⟨W.heap.size + 1 + 1, 2, none⟩ v) gm cm s v f :=
  ⟨h.kp.set 2 v, (Below.heap_setCell _ _ _ _ (by show W.heap.size ≠ W.heap.size + 1 + 1; omega)).trans h.g, (Below.heap_setCell _ _ _ _ (by show W.heap.size + 1 ≠ W.heap.size + 1 + 1; omega)).trans h.z, lk_set2 h.l v⟩
theorem LkS.set3 {W X : World} {gm cm : Nat} {s e f : Value} (h : LkS W X gm cm s e f) (v : Value) : LkS W (X.setCell ⟨W.heap.size + 1 + 1, 3, none⟩ v) gm cm s e v :=
  ⟨h.kp.set 3 v, (Below.heap_setCell _ _ _ _ (by show W.heap.size ≠ W.heap.size + 1 + 1; omega)).trans h.g, (Below.heap_setCell _ _ _ _ (by show W.heap.size + 1 ≠ W.heap.size + 1 + 1; omega)).trans h.z, lk_set3 h.l v⟩
/-- the cells that the linker reads. -/
theorem LkS.cells {W X : World} {gm cm : Nat} {s e f : Value} (h : LkS W X gm cm s e f) :
    X.cell? ⟨W.heap.size, 0, none⟩ = some (.slice (some ⟨gm, 0, none⟩) 1 cm) ∧ (X.cell? ⟨W.heap.size + 1 + 1, 0, none⟩ = some (.slice (some ⟨gm, 0, none⟩) 1 cm) ∧ X.cell? ⟨W.heap.size + 1 + 1, 1, none⟩ = some s ∧ X.cell? ⟨W.heap.size + 1 + 1, 2, none⟩ = some e ∧ X.cell? ⟨W.heap.size + 1 + 1, 3, none⟩ = some f) ∧ (∀ i, X.frozen? ⟨W.heap.size + 1 + 1, i, none⟩ = false) :=
  ⟨by simp [World.cell?, h.g], (box4 h.l).1, fun i => by simp [World.frozen?, h.l]⟩
theorem boxTwo {w : World} {b : Nat} {p q : Value} {t : TypeId} (h : w.heap[b]? = some (.cells #[p, q] t (0, 0))) : w.cell? ⟨b, 0, none⟩ = some p ∧ w.cell? ⟨b, 1, none⟩ = some q := by simp [World.cell?, h]
theorem new_row {B n g : Nat} (h : (Value.slice none 0 0).ownBlock = some g ∨ g = n) (hb : B ≤ n) : B ≤ g := by
  rcases h with h | h
  · cases h
  · omega
theorem own_at {W : World} {base g n cap size : Nat} {e : TypeId} {xs : List Value} (h : W.ownsRow base e size (.slice (some ⟨g, 0, none⟩) n cap) n xs) {j : Nat} {u : Value} (hj : xs[j]? = some u) : W.cell? ⟨g, j, none⟩ = some u := by
  have := h.cells (g := g) rfl j u hj
  rw [Vf.addP, Nat.zero_add] at this
  exact this
theorem sc_row {W : World} {B base g n cap gt ct : Nat} {e : TypeId} (h : W.ownsRow base e 2 (.slice (some ⟨g, 0, none⟩) n cap) n ([] ++ [.slice (some ⟨gt, 0, none⟩) 1 ct, .slice none 0 0])) (hb : B ≤ g) : ScAt W B g gt ct := ⟨own_at h (j := 0) rfl, own_at h (j := 1) rfl, hb⟩
theorem es_row {W : World} {B base g n cap ge ce : Nat} {e : TypeId} (h : W.ownsRow base e 4 (.slice (some ⟨g, 0, none⟩) n cap) n ([] ++ [.slice none 0 0, .slice (some ⟨ge, 0, none⟩) 1 ce, .slice none 0 0, .slice none 0 0])) (he : E5At W B ge) (hb : B ≤ g) : EsAt W B g ge ce := ⟨own_at h (j := 0) rfl, own_at h (j := 1) rfl, own_at h (j := 2) rfl, own_at h (j := 3) rfl, he, hb⟩
theorem res_lk {fn : Func} {p q r s : Nat} (h : fn.results = #[.cell p 43, .tmp q, .tmp r, .tmp s]) {W : World} {n : Nat} {a b c d u v y : Value} {t : TypeId} {tmps : Array Value} (hb : W.heap[n]? = some (.cells #[a, b, c, d] t (0, 0))) (ht : tmps[p]?.getD undef = .pointer (some ⟨n, 0, none⟩)) (hq : tmps[q]?.getD undef = u) (hr : tmps[r]?.getD undef = v) (hs : tmps[s]?.getD undef = y) :
    (results fn tmps).run Tryz.prog W = .ok (.tuple #[.agg #[a, b, c, d], u, v, y]) W := by
  obtain ⟨⟨c0, c1, c2, c3⟩, _⟩ := box4 hb
  simp [results, h, go_sem, ht, c0, c1, c2, c3, hq, hr, hs]
end Go.Proofs.YtpnljjcdlkjfhaaGreatDoor
