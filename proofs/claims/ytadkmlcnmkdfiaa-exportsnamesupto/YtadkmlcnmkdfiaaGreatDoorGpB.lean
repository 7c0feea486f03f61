/- Own text. What asks, in memory: its book, its states, its way. What asks: an answer is handed on. What asks: a question is ended, or opened. What asks: a question that was never asked. Entries cut out of their list. What asks: a question that was never asked: the walk. What asks: a question; the innermost open one goes on. What asks: the innermost open question goes on. What asks: the innermost open question goes on: the walks. What an export leads to: resolve, Resolve. -/
import Derived.Test.YtadkmlcnmkdfiaaGreatDoorGpA
import Derived.Deep.AppendLies
import Derived.Deep.DeepCutAuto
import Derived.Shelf.Strconv.Clone
import Derived.Deep.LoopGhost
namespace Go.Proofs.YtadkmlcnmkdfiaaGreatDoor
open Go.RowKit Xp
set_option linter.unusedVariables false
set_option linter.unusedSimpArgs false

/-- a row cut shorter. -/
theorem row_cut {w : World} {base : Nat} {e : TypeId} {size g cap n k : Nat} {xs : List Value} (h : w.ownsRow base e size (.slice (some ⟨g, 0, none⟩) n cap) n xs) (hk : k ≤ n) : w.ownsRow base e size (.slice (some ⟨g, 0, none⟩) k cap) k (xs.take (k * size)) := by
  obtain ⟨h1, h2⟩ := h
  have hm : k * size ≤ n * size := Nat.mul_le_mul_right _ hk
  refine ⟨by rw [List.length_take, h1]; omega, ?_⟩
  rcases h2 with ⟨h0, _⟩ | ⟨g', cap', cur, hv, hg, hh, hn, hcap, hsz, htake⟩
  · cases h0
  · cases hv
    refine .inr ⟨g, cap, cur, rfl, hg, hh, by omega, hcap, hsz, ?_⟩
    rw [← htake, List.take_take, Nat.min_eq_left hm]
theorem row_some {w : World} {base : Nat} {e : TypeId} {size : Nat} {v : Value} {n : Nat} {xs : List Value} (h : w.ownsRow base e size v n xs) (hn : 0 < n) : ∃ g c, v = .slice (some ⟨g, 0, none⟩) n c ∧ base ≤ g ∧ n ≤ c := by
  rcases h.2 with ⟨rfl, rfl⟩ | ⟨g, cap, cur, rfl, h1, h2, h3, _⟩
  · omega
  · exact ⟨_, _, rfl, h1, h3⟩
theorem row_form {w : World} {base : Nat} {e : TypeId} {size : Nat} {v : Value} {n : Nat} {xs : List Value} (h : w.ownsRow base e size v n xs) : ∃ A c, v = .slice A n c := by
  rcases h.2 with ⟨rfl, rfl⟩ | ⟨g, cap, cur, rfl, _⟩
  · exact ⟨_, _, rfl⟩
  · exact ⟨_, _, rfl⟩
theorem row_keep {w w' : World} {base : Nat} {e : TypeId} {size : Nat} {v : Value} {n : Nat} {xs : List Value} (h : w.ownsRow base e size v n xs) (k : ∀ b, v.ownBlock = some b → w'.heap[b]? = w.heap[b]?) : w'.ownsRow base e size v n xs := by
  refine ⟨h.1, ?_⟩
  rcases h.2 with hn | ⟨g, cap, cur, rfl, hb, hg, rest⟩
  · exact .inl hn
  · exact .inr ⟨g, cap, cur, rfl, hb, (k g rfl).trans hg, rest⟩
theorem row_cellsX {w : World} {base : Nat} {e : TypeId} {size : Nat} {v : Value} {n : Nat} {xs : List Value} (h : w.ownsRow base e size v n xs) {b : Nat} (hb : v.ownBlock = some b) : ∃ cur, w.heap[b]? = some (.cells cur e (0, 0)) := by
  rcases h.2 with ⟨rfl, _⟩ | ⟨g, cap, cur, rfl, _, hg, _⟩
  · cases hb
  · have : g = b := by simpa [Value.ownBlock] using hb
    subst this
    exact ⟨cur, hg⟩
def frC (fr : Fr) (vl : Value) : List Value := [.int .i64 fr.q.1, .string fr.q.2, vl, .string fr.name, .bool fr.ty, .int .i64 fr.fd.k, .int .i64 fr.fd.mod, .string fr.fd.name, .bool fr.fd.ty]
def rowC (op : List (Fr × Value)) : List Value := op.flatMap fun p => frC p.1 p.2
theorem rowC_len : ∀ (op : List (Fr × Value)), (rowC op).length = op.length * 9
  | [] => rfl
  | p :: op => by
    have := rowC_len op
    unfold rowC at this ⊢
    rw [List.flatMap_cons, List.length_append, this]
    simp [frC]
    omega
theorem rowC_app (a b : List (Fr × Value)) : rowC (a ++ b) = rowC a ++ rowC b := by simp [rowC]
theorem rowC_one (p : Fr × Value) : rowC [p] = frC p.1 p.2 := by simp [rowC]
theorem rowC_at (i : List (Fr × Value)) (p : Fr × Value) (j : Nat) : (rowC (i ++ [p]))[i.length * 9 + j]? = (frC p.1 p.2)[j]? := by
  rw [rowC_app, rowC_one, List.getElem?_append_right (by rw [rowC_len]; omega), rowC_len]
  congr 1
  omega
theorem rowC_take (i : List (Fr × Value)) (p : Fr × Value) : (rowC (i ++ [p])).take (i.length * 9) = rowC i := by
  rw [rowC_app, ← rowC_len i, List.take_left']
  rfl
theorem rowC_fd (i : List (Fr × Value)) (fr : Fr) (vl : Value) (j : Fnd) : ((((rowC (i ++ [(fr, vl)])).set (i.length * 9 + 5) (.int .i64 j.k)).set (i.length * 9 + 6) (.int .i64 j.mod)).set (i.length * 9 + 7) (.string j.name)).set (i.length * 9 + 8) (.bool j.ty) = rowC (i ++ [({ fr with fd := j }, vl)]) := by
  rw [rowC_app, rowC_app, rowC_one, rowC_one]
  simp only [← rowC_len i]
  rw [List.set_append_right _ _ (by omega), List.set_append_right _ _ (by omega), List.set_append_right _ _ (by omega), List.set_append_right _ _ (by omega)]
  simp [frC]
theorem rowC_left (i : List (Fr × Value)) (fr : Fr) (vl vl' : Value) (l : List En) : (rowC (i ++ [(fr, vl)])).set (i.length * 9 + 2) vl' = rowC (i ++ [({ fr with left := l }, vl')]) := by
  rw [rowC_app, rowC_app, rowC_one, rowC_one]
  simp only [← rowC_len i]
  rw [List.set_append_right _ _ (by omega)]
  simp [frC]

/-- where all of it lies. -/
structure Cx where
  w0 : World
  v : Value
  L : List Es
  n0 : ByteArray
  a : Nat
  bk : Nat
  mS : Nat
  mA : Nat
  mG : Nat
  fg : Nat → Prop
  fw : World
abbrev Cx.B (c : Cx) : Nat := c.w0.heap.size
abbrev Cx.U (c : Cx) : List Qn := Uni c.L (Nms c.L c.n0)
def stO (S : St) : Qn → Option Nat := fun q => if S q = 0 then none else some (S q)
def aC (c : Cx) (vo : Value) (ans : Fnd) : Array Value := #[.pointer (some ⟨c.bk, 0, none⟩), .map (some c.mS), vo, .int .i64 ans.k, .int .i64 ans.mod, .string ans.name, .bool ans.ty]
/-- what stays as it is. -/
structure Cx.ok (c : Cx) : Prop where
  ms : MsAt c.w0 c.B c.v c.L
  hL : c.L.length ≤ 1048576
  hE : ∀ e ∈ c.L, e.own.length ≤ 1048576 ∧ e.oth.length ≤ 1048576 ∧ e.st.length ≤ 1048576
  hU : c.U.length ≤ 274877906944
  la : c.B ≤ c.a
  lb : c.B ≤ c.bk
  lS : c.B ≤ c.mS
  lA : c.B ≤ c.mA
  lG : c.B ≤ c.mG
  ab : c.a ≠ c.bk
  sa : c.mS ≠ c.mA
  sg : c.mS ≠ c.mG
  fa : ¬ c.fg c.a
  fS : ¬ c.fg c.mS
  fA : ¬ c.fg c.mA
  fG : ¬ c.fg c.mG
structure FrOk (c : Cx) (p : Fr × Value) : Prop where
  k : p.1.fd.k ≠ 3
  n : p.1.name ∈ Nms c.L c.n0
  e : EnAt c.w0 c.B p.2 p.1.left
  l : p.1.left.length ≤ 1048576
/-- blocks that are none of its, as they were. -/
def FK (c : Cx) (W : World) : Prop := ∀ j, c.fg j → W.heap[j]? = c.fw.heap[j]? ∧ j < W.heap.size
theorem FK.keep {c : Cx} {W W' : World} (h : FK c W) (k : ∀ j, c.fg j → j < W.heap.size → W'.heap[j]? = W.heap[j]?) : FK c W' := fun j hj => by
  obtain ⟨h1, h2⟩ := h j hj
  have e := k j hj h2
  refine ⟨e.trans h1, ?_⟩
  rw [Array.getElem?_eq_getElem h2] at e
  exact (Array.getElem?_eq_some_iff.1 e).1
structure Ak (c : Cx) (W : World) (S : St) (op : List (Fr × Value)) (ans : Fnd) (vo : Value) : Prop where
  b : Below c.B c.w0 W
  blk : W.heap[c.a]? = some (.cells (aC c vo ans) 111 (0, 0))
  book : ∃ A, Bk W c.bk c.mA c.mG c.v c.L A
  st : ∃ n, MF (fun _ => True) qv (fun x : Nat => .int .i64 (x : Nat)) W c.mS n (stO S)
  s2 : ∀ q, S q ≤ 2
  row : W.ownsRow c.B 145 9 vo op.length (rowC op)
  wf : ∀ p ∈ op, FrOk c p
  room : op.length + un c.U S ≤ c.U.length
  own : ∀ b, vo.ownBlock = some b → b ≠ c.a ∧ b ≠ c.bk
  fk : FK c W
  ownf : ∀ b, vo.ownBlock = some b → ¬ c.fg b
section
variable {c : Cx} {W W' : World} {S : St} {op : List (Fr × Value)} {ans : Fnd} {vo : Value}
theorem Ak.nmap (h : Ak c W S op ans vo) : ∀ b, (b = c.a ∨ b = c.bk ∨ vo.ownBlock = some b) → b ≠ c.mS ∧ b ≠ c.mA ∧ b ≠ c.mG := fun b hb => by
  have hc : ∃ cs t fr, W.heap[b]? = some (.cells cs t fr) := by
    rcases hb with rfl | rfl | hb
    · exact ⟨_, _, _, h.blk⟩
    · obtain ⟨A, k⟩ := h.book; exact ⟨_, _, _, k.blk⟩
    · obtain ⟨cur, k⟩ := row_cellsX h.row hb; exact ⟨_, _, _, k⟩
  obtain ⟨cs, t, fr, hc⟩ := hc
  refine ⟨fun e => ?_, fun e => ?_, fun e => ?_⟩
  · obtain ⟨n, es, cl, k, _⟩ := h.st; rw [← e, hc] at k; cases k
  · obtain ⟨A, k⟩ := h.book; obtain ⟨n, es, cl, k, _⟩ := k.asked; rw [← e, hc] at k; cases k
  · obtain ⟨A, k⟩ := h.book; obtain ⟨n, g, ⟨es, cl, k, _⟩, _⟩ := k.given; rw [← e, hc] at k; cases k
theorem Ak.lts (h : Ak c W S op ans vo) : c.a < W.heap.size ∧ c.bk < W.heap.size ∧ c.mS < W.heap.size ∧ c.mA < W.heap.size ∧ c.mG < W.heap.size ∧ ∀ b, vo.ownBlock = some b → b < W.heap.size := by
  obtain ⟨A, k⟩ := h.book
  obtain ⟨n, k'⟩ := h.st
  exact ⟨(Array.getElem?_eq_some_iff.1 h.blk).1, k.lt.1, k'.lt, k.lt.2.1, k.lt.2.2, fun b hb => (World.ownsRow.lt h.row b hb).2⟩
theorem Ak.keep (h : Ak c W S op ans vo) (b : Below c.B c.w0 W') (ka : W'.heap[c.a]? = W.heap[c.a]?) (kb : W'.heap[c.bk]? = W.heap[c.bk]?) (kS : W'.heap[c.mS]? = W.heap[c.mS]?) (kA : W'.heap[c.mA]? = W.heap[c.mA]?) (kG : W'.heap[c.mG]? = W.heap[c.mG]?) (ko : ∀ b, vo.ownBlock = some b → W'.heap[b]? = W.heap[b]?) (kf : ∀ j, c.fg j → j < W.heap.size → W'.heap[j]? = W.heap[j]?) : Ak c W' S op ans vo := by
  obtain ⟨A, k⟩ := h.book
  obtain ⟨n, k'⟩ := h.st
  exact ⟨b, ka.trans h.blk, ⟨A, k.keep kb kA kG⟩, ⟨n, k'.keep kS⟩, h.s2, row_keep h.row ko, h.wf, h.room, h.own, h.fk.keep kf, h.ownf⟩
theorem Ak.hB (h : Ak c W S op ans vo) : c.B ≤ W.heap.size := h.b.size
theorem Ak.bel (h : Ak c W S op ans vo) (b : Below W.heap.size W W') : Ak c W' S op ans vo := by
  obtain ⟨h1, h2, h3, h4, h5, h6⟩ := h.lts
  exact h.keep (h.b.trans (b.mono h.hB)) (b.block _ h1) (b.block _ h2) (b.block _ h3) (b.block _ h4) (b.block _ h5) (fun b' hb => b.block _ (h6 b' hb)) (fun j _ hj => b.block j hj)
theorem Ak.drew (h : Ak c W S op ans vo) : Ak c W.drew S op ans vo := h.bel ((Below.refl _ _).drew)
theorem t7 {w : World} {b : Nat} {x0 x1 x2 x3 x4 x5 x6 : Value} {t : TypeId} (h : w.heap[b]? = some (.cells #[x0, x1, x2, x3, x4, x5, x6] t (0, 0))) :
    (w.cell? ⟨b, 0, none⟩ = some x0 ∧ w.cell? ⟨b, 1, none⟩ = some x1 ∧ w.cell? ⟨b, 2, none⟩ = some x2 ∧ w.cell? ⟨b, 3, none⟩ = some x3 ∧ w.cell? ⟨b, 4, none⟩ = some x4 ∧ w.cell? ⟨b, 5, none⟩ = some x5 ∧ w.cell? ⟨b, 6, none⟩ = some x6) ∧ (w.frozen? ⟨b, 2, none⟩ = false ∧ w.frozen? ⟨b, 3, none⟩ = false ∧ w.frozen? ⟨b, 4, none⟩ = false ∧ w.frozen? ⟨b, 5, none⟩ = false ∧ w.frozen? ⟨b, 6, none⟩ = false) := by
  simp [World.cell?, World.frozen?, h]
/-- the same without its way. -/
structure Ah (c : Cx) (W : World) (S : St) (ans : Fnd) (vo : Value) : Prop where
  b : Below c.B c.w0 W
  blk : W.heap[c.a]? = some (.cells (aC c vo ans) 111 (0, 0))
  book : ∃ A, Bk W c.bk c.mA c.mG c.v c.L A
  st : ∃ n, MF (fun _ => True) qv (fun x : Nat => .int .i64 (x : Nat)) W c.mS n (stO S)
  s2 : ∀ q, S q ≤ 2
  fk : FK c W
theorem Ak.ah (h : Ak c W S op ans vo) : Ah c W S ans vo := ⟨h.b, h.blk, h.book, h.st, h.s2, h.fk⟩
theorem Ah.nmap (h : Ah c W S ans vo) : c.a ≠ c.mS ∧ c.a ≠ c.mA ∧ c.a ≠ c.mG := by
  refine ⟨fun e => ?_, fun e => ?_, fun e => ?_⟩
  · obtain ⟨n, es, cl, k, _⟩ := h.st; rw [← e, h.blk] at k; cases k
  · obtain ⟨A, k⟩ := h.book; obtain ⟨n, es, cl, k, _⟩ := k.asked; rw [← e, h.blk] at k; cases k
  · obtain ⟨A, k⟩ := h.book; obtain ⟨n, g, ⟨es, cl, k, _⟩, _⟩ := k.given; rw [← e, h.blk] at k; cases k
theorem Ah.keep (h : Ah c W S ans vo) (b : Below c.B c.w0 W') (ka : W'.heap[c.a]? = W.heap[c.a]?) (kb : W'.heap[c.bk]? = W.heap[c.bk]?) (kS : W'.heap[c.mS]? = W.heap[c.mS]?) (kA : W'.heap[c.mA]? = W.heap[c.mA]?) (kG : W'.heap[c.mG]? = W.heap[c.mG]?) (kf : ∀ j, c.fg j → j < W.heap.size → W'.heap[j]? = W.heap[j]?) : Ah c W' S ans vo := by
  obtain ⟨A, k⟩ := h.book
  obtain ⟨n, k'⟩ := h.st
  exact ⟨b, ka.trans h.blk, ⟨A, k.keep kb kA kG⟩, ⟨n, k'.keep kS⟩, h.s2, h.fk.keep kf⟩
/-- the whole answer is given. -/
theorem Ah.answer (hk : c.ok) (h : Ah c W S ans vo) (f : Fnd) : Ak c (((((W.setCell ⟨c.a, 3, none⟩ (.int .i64 f.k)).setCell ⟨c.a, 4, none⟩ (.int .i64 f.mod)).setCell ⟨c.a, 5, none⟩ (.string f.name)).setCell ⟨c.a, 6, none⟩ (.bool f.ty)).setCell ⟨c.a, 2, none⟩ (.slice none 0 0)) S [] f (.slice none 0 0) := by
  have na := h.nmap
  have sm : ∀ k, k ≠ c.a → (((((W.setCell ⟨c.a, 3, none⟩ (.int .i64 f.k)).setCell ⟨c.a, 4, none⟩ (.int .i64 f.mod)).setCell ⟨c.a, 5, none⟩ (.string f.name)).setCell ⟨c.a, 6, none⟩ (.bool f.ty)).setCell ⟨c.a, 2, none⟩ (.slice none 0 0)).heap[k]? = W.heap[k]? := fun k hk => by
    rw [Below.heap_setCell _ _ _ _ hk, Below.heap_setCell _ _ _ _ hk, Below.heap_setCell _ _ _ _ hk, Below.heap_setCell _ _ _ _ hk, Below.heap_setCell _ _ _ _ hk]
  obtain ⟨A, k⟩ := h.book
  obtain ⟨n, k'⟩ := h.st
  have hblk := h.blk
  refine ⟨?_, ?_, ⟨A, k.keep (sm _ hk.ab.symm) (sm _ (fun e => na.2.1 e.symm)) (sm _ (fun e => na.2.2 e.symm))⟩, ⟨n, k'.keep (sm _ (fun e => na.1 e.symm))⟩, h.s2, World.ownsRow_nil _ _ _ _, by simp, by have := un_le c.U S; simpa using this, (fun b hb => by cases hb), h.fk.keep (fun j hj _ => sm j (fun e => hk.fa (by rw [← e]; exact hj))), (fun b hb => by cases hb)⟩
  · exact ((((h.b.setCell hk.la _).setCell hk.la _).setCell hk.la _).setCell hk.la _).setCell hk.la _
  · unfold aC at hblk ⊢
    simp [World.setCell, Array.getElem?_modify, hblk]
theorem Ak.answer (hk : c.ok) (h : Ak c W S op ans vo) (f : Fnd) : Ak c (((((W.setCell ⟨c.a, 3, none⟩ (.int .i64 f.k)).setCell ⟨c.a, 4, none⟩ (.int .i64 f.mod)).setCell ⟨c.a, 5, none⟩ (.string f.name)).setCell ⟨c.a, 6, none⟩ (.bool f.ty)).setCell ⟨c.a, 2, none⟩ (.slice none 0 0)) S [] f (.slice none 0 0) := h.ah.answer hk f
/-- stores into a block that is none of all these. -/
theorem Ak.set (h : Ak c W S op ans vo) {p : Addr} (hp : c.B ≤ p.block) (hn : p.block ≠ c.a ∧ p.block ≠ c.bk ∧ p.block ≠ c.mS ∧ p.block ≠ c.mA ∧ p.block ≠ c.mG ∧ vo.ownBlock ≠ some p.block) (hf : ¬ c.fg p.block) (u : Value) : Ak c (W.setCell p u) S op ans vo :=
  h.keep (h.b.setCell hp u) (Below.heap_setCell _ _ _ _ (fun e => hn.1 e.symm)) (Below.heap_setCell _ _ _ _ (fun e => hn.2.1 e.symm)) (Below.heap_setCell _ _ _ _ (fun e => hn.2.2.1 e.symm)) (Below.heap_setCell _ _ _ _ (fun e => hn.2.2.2.1 e.symm)) (Below.heap_setCell _ _ _ _ (fun e => hn.2.2.2.2.1 e.symm)) (fun b hb => Below.heap_setCell _ _ _ _ (fun e => hn.2.2.2.2.2 (by rw [← e]; exact hb))) (fun j hj _ => Below.heap_setCell _ _ _ _ (fun e => hf (by rw [← e]; exact hj)))
theorem Ak.farf (h : Ak c W S op ans vo) {n : Nat} (hn : W.heap.size ≤ n) : ¬ c.fg n := fun e => by have := (h.fk n e).2; omega
theorem Ak.far (h : Ak c W S op ans vo) {n : Nat} (hn : W.heap.size ≤ n) : n ≠ c.a ∧ n ≠ c.bk ∧ n ≠ c.mS ∧ n ≠ c.mA ∧ n ≠ c.mG ∧ vo.ownBlock ≠ some n := by
  obtain ⟨h1, h2, h3, h4, h5, h6⟩ := h.lts
  exact ⟨by omega, by omega, by omega, by omega, by omega, fun e => by have := h6 n e; omega⟩
end
end Go.Proofs.YtadkmlcnmkdfiaaGreatDoor
namespace Go.Proofs.YtadkmlcnmkdfiaaGreatDoor
open Go.RowKit Xp
set_option linter.unusedVariables false
set_option linter.unusedSimpArgs false

def stk (op : List (Fr × Value)) : List Fr := (op.map Prod.fst).reverse
theorem stk_app (i : List (Fr × Value)) (p : Fr × Value) : stk (i ++ [p]) = p.1 :: stk i := by simp [stk]
/-- what an answer that is handed on comes to. -/
structure HandR (S : St) (op : List (Fr × Value)) (f : Fnd) (op' : List (Fr × Value)) (ans' : Fnd) : Prop where
  v : ∀ ask, VV ask S (stk op') ans' = handV ask S (stk op) f
  l : lefts (stk op') ≤ lefts (stk op)
theorem HandR.nil (S : St) (f : Fnd) : HandR S [] f [] f := ⟨fun ask => rfl, Nat.le_refl _⟩
theorem HandR.amb (S : St) (i : List (Fr × Value)) (fr : Fr) (vl : Value) (f : Fnd) (h : (joined fr.fd f).k = 3) : HandR S (i ++ [(fr, vl)]) f [] (joined fr.fd f) := by
  refine ⟨fun ask => ?_, ?_⟩
  · rw [stk_app, handV_cons, if_pos h]; rfl
  · simp [lefts, stk]
theorem HandR.on (S : St) (i : List (Fr × Value)) (fr : Fr) (vl : Value) (f a : Fnd) (h : (joined fr.fd f).k ≠ 3) : HandR S (i ++ [(fr, vl)]) f (i ++ [({ fr with fd := joined fr.fd f }, vl)]) a := by
  refine ⟨fun ask => ?_, ?_⟩
  · rw [stk_app, stk_app, handV_cons, if_neg h]; rfl
  · rw [stk_app, stk_app]; simp [lefts]
set_option maxRecDepth 100000 in
set_option maxHeartbeats 8000000 in
theorem hand_nil {c : Cx} (hk : c.ok) {W : World} {S : St} {ans : Fnd} {vo : Value} (h : Ak c W S [] ans vo) (f : Fnd) :
    Calls Tryz.prog 82 #[.pointer (some ⟨c.a, 0, none⟩), .agg #[.int .i64 f.k, .int .i64 f.mod, .string f.name, .bool f.ty]] W fun e w' => e = .returned (.tuple #[]) ∧ ∃ op' ans' vo', Ak c w' S op' ans' vo' ∧ HandR S [] f op' ans' := by
  have hA := h.bel ((Below.refl _ W).alloc (Nat.le_refl _) (.cells #[.int .i64 f.k, .int .i64 f.mod, .string f.name, .bool f.ty] 41))
  have m0 := heap_alloc_new W (.cells #[.int .i64 f.k, .int .i64 f.mod, .string f.name, .bool f.ty] 41)
  obtain ⟨wA, hwA⟩ : ∃ X, W.alloc (.cells #[.int .i64 f.k, .int .i64 f.mod, .string f.name, .bool f.ty] 41) = X := ⟨_, rfl⟩
  rw [hwA] at hA m0
  have hb := hA.blk
  unfold aC at hb
  obtain ⟨ad, cap, rfl⟩ : ∃ ad cap, vo = .slice ad 0 cap := by obtain ⟨A, k, e⟩ := row_form h.row; exact ⟨A, k, e⟩
  have fin := hA.answer hk f
  have HF : Hid _ := fin
  clear fin
  obtain ⟨⟨_, _, _, _, _, _, _⟩, _, _, _, _, _⟩ := t7 hb
  obtain ⟨⟨_, _, _, _⟩, _, _, _, _⟩ := t4 m0
  go_enter Tryz.func82, Tryz.ntmps82
  go_wp2
  go_end0
  exact ⟨rfl, _, _, _, HF.out, HandR.nil S f⟩
set_option maxRecDepth 100000 in
set_option maxHeartbeats 8000000 in
theorem hand_on {c : Cx} (hk : c.ok) {W : World} {S : St} {i : List (Fr × Value)} {fr : Fr} {vl : Value} {ans : Fnd} {vo : Value} (h : Ak c W S (i ++ [(fr, vl)]) ans vo) (f : Fnd) :
    Calls Tryz.prog 82 #[.pointer (some ⟨c.a, 0, none⟩), .agg #[.int .i64 f.k, .int .i64 f.mod, .string f.name, .bool f.ty]] W fun e w' => e = .returned (.tuple #[]) ∧ ∃ op' ans' vo', Ak c w' S op' ans' vo' ∧ HandR S (i ++ [(fr, vl)]) f op' ans' := by
  have hA := h.bel ((Below.refl _ W).alloc (Nat.le_refl _) (.cells #[.int .i64 f.k, .int .i64 f.mod, .string f.name, .bool f.ty] 41))
  have m0 := heap_alloc_new W (.cells #[.int .i64 f.k, .int .i64 f.mod, .string f.name, .bool f.ty] 41)
  obtain ⟨wA, hwA⟩ : ∃ X, W.alloc (.cells #[.int .i64 f.k, .int .i64 f.mod, .string f.name, .bool f.ty] 41) = X := ⟨_, rfl⟩
  have sA : wA.heap.size = W.heap.size + 1 := by rw [← hwA]; simp
  rw [hwA] at hA m0
  have hb := hA.blk
  unfold aC at hb
  have hrow := hA.row
  have hlen : (i ++ [(fr, vl)]).length = i.length + 1 := by simp
  rw [hlen] at hrow
  obtain ⟨g, cap, rfl, hg, hcap⟩ := row_some hrow (by omega)
  have hroom : i.length + 1 ≤ 274877906944 := by have := h.room; rw [hlen] at this; have := hk.hU; omega
  have cell : ∀ j, j < 9 → wA.cell? ⟨g, i.length * 9 + j, none⟩ = (frC fr vl)[j]? := fun j hj => by
    rw [World.ownsRow.cellAt hrow _ (by omega), rowC_at]
  have x5 := cell 5 (by omega)
  have x6 := cell 6 (by omega)
  have x7 := cell 7 (by omega)
  have x8 := cell 8 (by omega)
  simp only [frC, List.getElem?_cons_succ, List.getElem?_cons_zero] at x5 x6 x7 x8
  clear cell
  have CJ := fun w => joined_any w fr.fd f
  have HJ : Hid _ := CJ
  clear CJ
  generalize hj : joined fr.fd f = j at *
  have HJE : Hid (joined fr.fd f = j) := hj
  clear hj
  have hlt1 : ((i.length : Nat) : Int) < ((i.length : Nat) : Int) + 1 := by omega
  have hge : ((0 : Int)) ≤ ((i.length : Nat) : Int) := by omega
  have hroom' : ((i.length : Nat) : Int) + 1 ≤ 274877906944 := by omega
  obtain ⟨⟨_, _, _, _, _, _, _⟩, _, _, _, _, _⟩ := t7 hb
  obtain ⟨⟨_, _, _, _⟩, _, _, _, _⟩ := t4 m0
  have HK : Hid (∀ X, Below wA.heap.size wA X → Ak c X S (i ++ [(fr, vl)]) ans (.slice (some ⟨g, 0, none⟩) (i.length + 1) cap) ∧ X.heap[W.heap.size]? = some (.cells #[.int .i64 f.k, .int .i64 f.mod, .string f.name, .bool f.ty] 41 (0, 0))) := fun X b => ⟨hA.bel b, (b.block _ (by omega)).trans m0⟩
  clear sA hlen
  go_enter Tryz.func82, Tryz.ntmps82
  go_wp2_with fail
  go_region_with (go_at_call 130; refine (HJ.out _).mono ?_; rintro ex W1 ⟨rfl, b1⟩; obtain ⟨k1, n1⟩ := HK.out W1 (show Below wA.heap.size wA W1 from ⟨b1.os, b1.tape, b1.output, b1.size, b1.block⟩); obtain ⟨⟨_, _, _, _⟩, _, _, _, _⟩ := t4 n1)
  all_goals
    have hfar := h.far (Nat.le_refl W.heap.size)
    have hff := h.farf (Nat.le_refl W.heap.size)
    have k2 := (((k1.set (p := ⟨W.heap.size, 0, none⟩) h.hB hfar hff (.int .i64 j.k)).set (p := ⟨W.heap.size, 1, none⟩) h.hB hfar hff (.int .i64 j.mod)).set (p := ⟨W.heap.size, 2, none⟩) h.hB hfar hff (.string j.name)).set (p := ⟨W.heap.size, 3, none⟩) h.hB hfar hff (.bool j.ty)
    have n2 := t4_set (.int .i64 j.k) (.int .i64 j.mod) (.string j.name) (.bool j.ty) n1
    obtain ⟨W2, hW2⟩ : ∃ X, (((W1.setCell ⟨W.heap.size, 0, none⟩ (.int .i64 j.k)).setCell ⟨W.heap.size, 1, none⟩ (.int .i64 j.mod)).setCell ⟨W.heap.size, 2, none⟩ (.string j.name)).setCell ⟨W.heap.size, 3, none⟩ (.bool j.ty) = X := ⟨_, rfl⟩
    rw [hW2] at k2 n2
    have hro := k2.row
    have hlen2 : (i ++ [(fr, vl)]).length = i.length + 1 := by simp
    rw [hlen2] at hro
    have yc : ∀ q, q < 9 → W2.cell? ⟨g, i.length * 9 + q, none⟩ = (frC fr vl)[q]? := fun q hq => by
      rw [World.ownsRow.cellAt hro _ (by omega), rowC_at]
    have y5 := yc 5 (by omega)
    have y6 := yc 6 (by omega)
    have y7 := yc 7 (by omega)
    have y8 := yc 8 (by omega)
    simp only [frC, List.getElem?_cons_succ, List.getElem?_cons_zero] at y5 y6 y7 y8
    have z5 := World.ownsRow.frozenAt hro (i.length * 9 + 5)
    have z6 := World.ownsRow.frozenAt hro (i.length * 9 + 6)
    have z7 := World.ownsRow.frozenAt hro (i.length * 9 + 7)
    have z8 := World.ownsRow.frozenAt hro (i.length * 9 + 8)
    have hgW : g ≠ W.heap.size := fun e => hfar.2.2.2.2.2 (by rw [e]; rfl)
    have hga := k2.own g rfl
    have hgm := k2.nmap g (Or.inr (Or.inr rfl))
    obtain ⟨W3, hW3⟩ : ∃ X, ((((W2.setCell ⟨g, i.length * 9 + 5, none⟩ (.int .i64 j.k)).setCell ⟨g, i.length * 9 + 5 + 1, none⟩ (.int .i64 j.mod)).setCell ⟨g, i.length * 9 + 5 + 2, none⟩ (.string j.name)).setCell ⟨g, i.length * 9 + 5 + 3, none⟩ (.bool j.ty)).drew = X := ⟨_, rfl⟩
    have sm : ∀ q, q ≠ g → W3.heap[q]? = W2.heap[q]? := fun q hq => by
      rw [← hW3]
      show (World.setCell _ _ _).heap[q]? = _
      rw [Below.heap_setCell _ _ _ _ hq, Below.heap_setCell _ _ _ _ hq, Below.heap_setCell _ _ _ _ hq, Below.heap_setCell _ _ _ _ hq]
    have b3 : Below c.B c.w0 W3 := by
      rw [← hW3]
      exact ((((k2.b.setCell hg _).setCell hg _).setCell hg _).setCell hg _).drew
    have a3 : Ah c W3 S ans (.slice (some ⟨g, 0, none⟩) (i.length + 1) cap) := k2.ah.keep b3 (sm _ (fun e => hga.1 e.symm)) (sm _ (fun e => hga.2 e.symm)) (sm _ (fun e => hgm.1 e.symm)) (sm _ (fun e => hgm.2.1 e.symm)) (sm _ (fun e => hgm.2.2 e.symm)) (fun j hj _ => sm j (fun e => k2.ownf g rfl (by rw [← e]; exact hj)))
    have n3 := (sm _ (fun e => hgW e.symm)).trans n2
    have r3 : W3.ownsRow c.B 145 9 (.slice (some ⟨g, 0, none⟩) (i.length + 1) cap) (i.length + 1) (rowC (i ++ [({ fr with fd := j }, vl)])) := by
      rw [← hW3, ← rowC_fd]
      exact (World.ownsRow.stored (World.ownsRow.stored (World.ownsRow.stored (World.ownsRow.stored hro _ _).1 _ _).1 _ _).1 _ _).1
    have HA3 : Hid (Ah c W3 S ans (.slice (some ⟨g, 0, none⟩) (i.length + 1) cap)) := a3
    have HR3 : Hid (W3.ownsRow c.B 145 9 (.slice (some ⟨g, 0, none⟩) (i.length + 1) cap) (i.length + 1) (rowC (i ++ [({ fr with fd := j }, vl)]))) := r3
    have hb2 := k2.blk
    unfold aC at hb2
    obtain ⟨⟨_, _, _, _, _, _, _⟩, _, _, _, _, _⟩ := t7 hb2
    obtain ⟨⟨_, _, _, _⟩, _, _, _, _⟩ := t4 n2
    have HN3 : Hid _ := n3
    clear n3 r3 a3 sm yc
    go_wp2_with fail
    try rw [hW2]
    go_region
    try rw [hW3]
    obtain ⟨⟨_, _, _, _⟩, _, _, _, _⟩ := t4 HN3.out
    have hb3 := HA3.out.blk
    unfold aC at hb3
    obtain ⟨⟨_, _, _, _, _, _, _⟩, _, _, _, _, _⟩ := t7 hb3
    have HP3 : Hid _ := HA3.out.answer hk j
    by_cases h3 : j.k = 3
    · have h3' : (j.k == 3) = true := by simp [h3]
      have H3 : Hid (j.k = 3) := h3
      clear h3
      go_wp2
      go_end0
      refine ⟨rfl, _, _, _, HP3.out, ?_⟩
      rw [← HJE.out]
      exact HandR.amb S i fr vl f (by rw [HJE.out]; exact H3.out)
    · have h3' : (j.k == 3) = false := by simp [h3]
      have H3 : Hid (j.k ≠ 3) := h3
      clear h3
      clear hroom hroom' hcap hlt1 hge hlen2 hW2 hW3 hwA
      go_wp2
      go_end0
      refine ⟨rfl, i ++ [({ fr with fd := j }, vl)], ans, .slice (some ⟨g, 0, none⟩) (i.length + 1) cap, ?_, ?_⟩
      · refine ⟨HA3.out.b, HA3.out.blk, HA3.out.book, HA3.out.st, HA3.out.s2, ?_, fun p hp => ?_, ?_, k2.own, HA3.out.fk, k2.ownf⟩
        · have e : (i ++ [(({ fr with fd := j } : Fr), vl)]).length = i.length + 1 := by simp
          rw [e]
          exact HR3.out
        · rcases List.mem_append.1 hp with hp | hp
          · exact k2.wf p (by simp [hp])
          · simp only [List.mem_singleton] at hp
            subst hp
            have := k2.wf (fr, vl) (by simp)
            exact ⟨H3.out, this.n, this.e, this.l⟩
        · have := k2.room
          simpa using this
      · rw [← HJE.out]
        exact HandR.on S i fr vl f ans (by rw [HJE.out]; exact H3.out)
theorem hand_any {c : Cx} (hk : c.ok) {W : World} {S : St} {op : List (Fr × Value)} {ans : Fnd} {vo : Value} (h : Ak c W S op ans vo) (f : Fnd) :
    Calls Tryz.prog 82 #[.pointer (some ⟨c.a, 0, none⟩), .agg #[.int .i64 f.k, .int .i64 f.mod, .string f.name, .bool f.ty]] W fun e w' => e = .returned (.tuple #[]) ∧ ∃ op' ans' vo', Ak c w' S op' ans' vo' ∧ HandR S op f op' ans' := by
  rcases List.eq_nil_or_concat op with rfl | ⟨i, p, rfl⟩
  · exact hand_nil hk h f
  · obtain ⟨fr, vl⟩ := p
    rw [List.concat_eq_append] at h ⊢
    exact hand_on hk h f
end Go.Proofs.YtadkmlcnmkdfiaaGreatDoor
namespace Go.Proofs.YtadkmlcnmkdfiaaGreatDoor
open Go.RowKit Xp
set_option linter.unusedVariables false
set_option linter.unusedSimpArgs false

theorem under_S : Tryz.prog.underlying 108 = some (.map 69 3) := by kernel_rfl
abbrev SM (W : World) (m n : Nat) (S : St) : Prop := MF (fun _ => True) qv (fun x : Nat => .int .i64 (x : Nat)) W m n (stO S)
theorem upd_st (S : St) (q : Qn) {k : Nat} (hk : k ≠ 0) : upd (stO S) q k = stO (S.set q k) := by
  funext p
  unfold upd stO St.set
  by_cases e : p = q
  · simp [e, hk]
  · simp [e]
theorem s_look {W : World} {m n : Nat} {S : St} (h : SM W m n S) (q : Qn) : (Instr.lookup 108 (.map (some m)) (.agg #[.int .i64 q.1, .string q.2]) false).run Tryz.prog W = .ok (.int .i64 (S q : Nat)) W := by
  have := h.look keyQ under_S (zeroI W) q trivial false
  rw [show qv q = .agg #[.int .i64 q.1, .string q.2] from rfl] at this
  rw [this]
  unfold stO
  by_cases e : S q = 0
  · simp [e]
  · simp [e]
section
variable {c : Cx} {W W' : World} {S S' : St} {op : List (Fr × Value)} {ans : Fnd} {vo : Value}
theorem Ak.state (hk : c.ok) (h : Ak c W S op ans vo) (gr : W.grownBy W' (some c.mS)) {n : Nat} (hm : SM W' c.mS n S') (h2 : ∀ q, S' q ≤ 2) (hr : op.length + un c.U S' ≤ c.U.length) : Ak c W' S' op ans vo := by
  obtain ⟨h1, h2', h3, h4, h5, h6⟩ := h.lts
  obtain ⟨A, k⟩ := h.book
  have ne : ∀ b, b ≠ c.mS → some b ≠ some c.mS := fun b e e' => e (by injection e')
  exact ⟨h.b.trans (grown_bel gr hk.lS h.hB), (gr.block _ h1 (ne _ (h.nmap c.a (Or.inl rfl)).1)).trans h.blk, ⟨A, k.keep (gr.block _ h2' (ne _ (h.nmap c.bk (Or.inr (Or.inl rfl))).1)) (gr.block _ h4 (ne _ hk.sa.symm)) (gr.block _ h5 (ne _ hk.sg.symm))⟩, ⟨n, hm⟩, h2, row_keep h.row fun b hb => gr.block _ (h6 b hb) (ne _ (h.nmap b (Or.inr (Or.inr hb))).1), h.wf, hr, h.own, h.fk.keep (fun j hj hl => gr.block j hl (ne j (fun e => hk.fS (by rw [← e]; exact hj)))), h.ownf⟩
end
theorem set_le2 {S : St} (h : ∀ q, S q ≤ 2) (q : Qn) {k : Nat} (hk : k ≤ 2) : ∀ p, S.set q k p ≤ 2 := fun p => by
  unfold St.set
  split
  · exact hk
  · exact h p
set_option maxRecDepth 100000 in
set_option maxHeartbeats 8000000 in
theorem end_any {c : Cx} (hk : c.ok) {W : World} {S : St} {op : List (Fr × Value)} {ans : Fnd} {vo : Value} (h : Ak c W S op ans vo) (q : Qn) (f : Fnd) :
    Calls Tryz.prog 84 #[.pointer (some ⟨c.a, 0, none⟩), .agg #[.int .i64 q.1, .string q.2], .agg #[.int .i64 f.k, .int .i64 f.mod, .string f.name, .bool f.ty]] W fun e w' => e = .returned (.tuple #[]) ∧ ∃ op' ans' vo', Ak c w' (S.set q 2) op' ans' vo' ∧ HandR (S.set q 2) op f op' ans' := by
  obtain ⟨wA, hwA⟩ : ∃ X, (W.alloc (.cells #[.int .i64 q.1, .string q.2] 69)).alloc (.cells #[.int .i64 f.k, .int .i64 f.mod, .string f.name, .bool f.ty] 41) = X := ⟨_, rfl⟩
  have bA : Below W.heap.size W wA := by rw [← hwA]; exact ((Below.refl _ _).alloc (Nat.le_refl _) _).alloc (by simp) _
  have sA : wA.heap.size = W.heap.size + 1 + 1 := by rw [← hwA]; simp
  have m0 : wA.heap[W.heap.size]? = some (.cells #[.int .i64 q.1, .string q.2] 69 (0, 0)) := by rw [← hwA, Below.heap_alloc _ _ _ (by simp)]; exact heap_alloc_new W _
  have m1 : wA.heap[W.heap.size + 1]? = some (.cells #[.int .i64 f.k, .int .i64 f.mod, .string f.name, .bool f.ty] 41 (0, 0)) := by rw [← hwA]; exact hnewX _ (by simp)
  have hA := h.bel bA
  have hfar := h.far (Nat.le_succ W.heap.size)
  have hb := hA.blk
  unfold aC at hb
  obtain ⟨n, hst⟩ := hA.st
  obtain ⟨W2, hrun, hmf, hgr⟩ := MF.update (w := wA.drew) (hst.keep rfl) keyQ under_S q trivial (2 : Nat)
  rw [upd_st S q (by decide)] at hmf
  unfold qv at hrun
  have hrun' : (Instr.mapUpdate 108 (.map (some c.mS)) (.agg #[.int .i64 q.1, .string q.2]) (.int .i64 2)).run Tryz.prog wA.drew = .ok () W2 := hrun
  clear hrun
  have k2 : Ak c W2 (S.set q 2) op ans vo := hA.drew.state hk hgr hmf (set_le2 h.s2 q (by decide)) (by have := un_mono (le_set S q (n := 2) (by decide)) c.U; have := h.room; omega)
  have n1 : W2.heap[W.heap.size + 1]? = some (.cells #[.int .i64 f.k, .int .i64 f.mod, .string f.name, .bool f.ty] 41 (0, 0)) := (hgr.block _ (by show _ < wA.heap.size; omega) (fun e => hfar.2.2.1 (by injection e))).trans m1
  have C := hand_any hk k2 f
  obtain ⟨⟨_, _, _, _, _, _, _⟩, _, _, _, _, _⟩ := t7 hb
  obtain ⟨⟨_, _⟩, _, _⟩ := t2 m0
  obtain ⟨⟨_, _, _, _⟩, _, _, _, _⟩ := t4 n1
  clear sA
  go_enter Tryz.func84, Tryz.ntmps84
  go_wp2_with fail
  go_region
  go_wp2_with (go_at_call 82; refine C.mono ?_; rintro ex W3 ⟨rfl, op', ans', vo', k3, r3⟩)
  go_end0
  exact ⟨rfl, op', ans', vo', k3, r3⟩
theorem info_op : (Tryz.prog.info? 145).map (fun i => (i.zero, i.size, i.bytes)) = some (some (.agg #[.int .i64 0, .string ⟨#[]⟩, .slice none 0 0, .string ⟨#[]⟩, .bool false, .int .i64 0, .int .i64 0, .string ⟨#[]⟩, .bool false]), 9, 112) := by kernel_rfl
theorem under_ops : Tryz.prog.underlying 109 = some (.slice 145) := by kernel_rfl
theorem t9 {w : World} {b : Nat} {x0 x1 x2 x3 x4 x5 x6 x7 x8 : Value} {t : TypeId} (h : w.heap[b]? = some (.cells #[x0, x1, x2, x3, x4, x5, x6, x7, x8] t (0, 0))) :
    w.cell? ⟨b, 0, none⟩ = some x0 ∧ w.cell? ⟨b, 1, none⟩ = some x1 ∧ w.cell? ⟨b, 2, none⟩ = some x2 ∧ w.cell? ⟨b, 3, none⟩ = some x3 ∧ w.cell? ⟨b, 4, none⟩ = some x4 ∧ w.cell? ⟨b, 5, none⟩ = some x5 ∧ w.cell? ⟨b, 6, none⟩ = some x6 ∧ w.cell? ⟨b, 7, none⟩ = some x7 ∧ w.cell? ⟨b, 8, none⟩ = some x8 := by
  simp [World.cell?, h]
/-- one more on the way. -/
theorem Ak.push {c : Cx} (hk : c.ok) {W W' : World} {S : St} {op : List (Fr × Value)} {ans : Fnd} {vo : Value} {p : Fr × Value} {g cap H : Nat} (h : Ak c W S op ans vo) (hp : FrOk c p) (hr : op.length + 1 + un c.U S ≤ c.U.length) (hH : W.heap.size = H)
    (ho : W'.ownsRow c.B 145 9 (.slice (some ⟨g, 0, none⟩) (op.length + 1) cap) (op.length + 1) (rowC op ++ frC p.1 p.2)) (gr : W.grownBy W' vo.ownBlock) (ha : vo.ownBlock = some g ∨ g = H) :
    ((∃ u, W'.cell? ⟨c.a, 2, none⟩ = some u) ∧ W'.frozen? ⟨c.a, 2, none⟩ = false) ∧ Ak c (W'.setCell ⟨c.a, 2, none⟩ (.slice (some ⟨g, 0, none⟩) (op.length + 1) cap)) S (op ++ [p]) ans (.slice (some ⟨g, 0, none⟩) (op.length + 1) cap) := by
  obtain ⟨h1, h2, h3, h4, h5, h6⟩ := h.lts
  have na := h.nmap c.a (Or.inl rfl)
  have keepB : ∀ b, b < W.heap.size → vo.ownBlock ≠ some b → W'.heap[b]? = W.heap[b]? := fun b hb hn => gr.block b hb (fun e => hn e.symm)
  have ka : W'.heap[c.a]? = W.heap[c.a]? := keepB _ h1 (fun e => (h.own _ e).1 rfl)
  have ng : g ≠ c.a ∧ g ≠ c.bk ∧ g ≠ c.mS ∧ g ≠ c.mA ∧ g ≠ c.mG := by
    rcases ha with ha | ha
    · have := h.nmap g (Or.inr (Or.inr ha)); exact ⟨(h.own g ha).1, (h.own g ha).2, this.1, this.2.1, this.2.2⟩
    · exact ⟨by omega, by omega, by omega, by omega, by omega⟩
  have blk := ka.trans h.blk
  obtain ⟨A, k⟩ := h.book
  obtain ⟨n, k'⟩ := h.st
  have nm : ∀ b, b = c.mS ∨ b = c.mA ∨ b = c.mG → vo.ownBlock ≠ some b := fun b hb e => by
    have := h.nmap b (Or.inr (Or.inr e))
    rcases hb with rfl | rfl | rfl
    · exact this.1 rfl
    · exact this.2.1 rfl
    · exact this.2.2 rfl
  have B' : Below c.B c.w0 W' := by
    refine h.b.trans ⟨gr.os, gr.tape, gr.output, gr.size, fun b hb => keepB b (Nat.lt_of_lt_of_le hb h.hB) (fun e => ?_)⟩
    have := (World.ownsRow.lt h.row b e).1
    omega
  refine ⟨?_, B'.setCell hk.la _, ?_, ⟨A, k.keep ?_ ?_ ?_⟩, ⟨n, k'.keep ?_⟩, h.s2, ?_, fun x hx => ?_, ?_, fun b hb => ?_, ?_, fun b hb => ?_⟩
  · unfold aC at blk
    exact ⟨⟨_, (t7 blk).1.2.2.1⟩, (t7 blk).2.1⟩
  · unfold aC at blk ⊢
    simp [World.setCell, Array.getElem?_modify, blk]
  · exact (Below.heap_setCell _ _ _ _ hk.ab.symm).trans (keepB _ h2 (fun e => (h.own _ e).2 rfl))
  · exact (Below.heap_setCell _ _ _ _ (fun e => na.2.1 e.symm)).trans (keepB _ h4 (nm _ (by simp)))
  · exact (Below.heap_setCell _ _ _ _ (fun e => na.2.2 e.symm)).trans (keepB _ h5 (nm _ (by simp)))
  · exact (Below.heap_setCell _ _ _ _ (fun e => na.1 e.symm)).trans (keepB _ h3 (nm _ (by simp)))
  · rw [rowC_app, rowC_one, show (op ++ [p]).length = op.length + 1 by simp]
    exact row_keep ho fun b hb => Below.heap_setCell _ _ _ _ (by cases hb; exact ng.1)
  · rcases List.mem_append.1 hx with hx | hx
    · exact h.wf x hx
    · simp only [List.mem_singleton] at hx; subst hx; exact hp
  · simpa using hr
  · cases hb; exact ⟨ng.1, ng.2.1⟩
  · exact h.fk.keep (fun j hj hl => (Below.heap_setCell _ _ _ _ (fun e => hk.fa (by have e2 : j = c.a := e; rw [← e2]; exact hj))).trans (keepB j hl (fun e => h.ownf j e hj)))
  · cases hb
    rcases ha with ha | ha
    · exact h.ownf _ ha
    · exact fun e => by have := (h.fk g e).2; omega
set_option maxRecDepth 100000 in
set_option maxHeartbeats 8000000 in
theorem begin_any {c : Cx} (hk : c.ok) {W : World} {S : St} {op : List (Fr × Value)} {ans : Fnd} {vo : Value} (h : Ak c W S op ans vo) (fr : Fr) (vl : Value) (hfr : FrOk c (fr, vl)) (hu : fr.q ∈ c.U) (hS : S fr.q = 0) (h1 : vl.oneCell' = true) :
    Calls Tryz.prog 132 #[.pointer (some ⟨c.a, 0, none⟩), .agg #[.int .i64 fr.q.1, .string fr.q.2, vl, .string fr.name, .bool fr.ty, .int .i64 fr.fd.k, .int .i64 fr.fd.mod, .string fr.fd.name, .bool fr.fd.ty]] W fun e w' => e = .returned (.tuple #[]) ∧ (∃ vo', Ak c w' (S.set fr.q 1) (op ++ [(fr, vl)]) ans vo') ∧ ∀ k, k < W.heap.size → k ≠ c.a → k ≠ c.mS → vo.ownBlock ≠ some k → w'.heap[k]? = W.heap[k]? := by
  obtain ⟨i0, hi, hz0, hz1, hz2⟩ := info_parts info_op
  obtain ⟨wA, hwA⟩ : ∃ X, W.alloc (.cells #[.int .i64 fr.q.1, .string fr.q.2, vl, .string fr.name, .bool fr.ty, .int .i64 fr.fd.k, .int .i64 fr.fd.mod, .string fr.fd.name, .bool fr.fd.ty] 145) = X := ⟨_, rfl⟩
  have bA : Below W.heap.size W wA := by rw [← hwA]; exact (Below.refl _ _).alloc (Nat.le_refl _) _
  have sA : wA.heap.size = W.heap.size + 1 := by rw [← hwA]; simp
  have m0 : wA.heap[W.heap.size]? = some (.cells #[.int .i64 fr.q.1, .string fr.q.2, vl, .string fr.name, .bool fr.ty, .int .i64 fr.fd.k, .int .i64 fr.fd.mod, .string fr.fd.name, .bool fr.fd.ty] 145 (0, 0)) := by rw [← hwA]; exact heap_alloc_new W _
  have hA := h.bel bA
  have hfar := h.far (Nat.le_refl W.heap.size)
  have hb := hA.blk
  unfold aC at hb
  obtain ⟨n, hst⟩ := hA.st
  obtain ⟨W2, hrun, hmf, hgr⟩ := MF.update (w := wA.drew) (hst.keep rfl) keyQ under_S fr.q trivial (1 : Nat)
  rw [upd_st S fr.q (by decide)] at hmf
  unfold qv at hrun
  have hrun' : (Instr.mapUpdate 108 (.map (some c.mS)) (.agg #[.int .i64 fr.q.1, .string fr.q.2]) (.int .i64 1)).run Tryz.prog wA.drew = .ok () W2 := hrun
  clear hrun
  have hun := un_lt (le_set S fr.q (n := 1) (by decide)) hS (by rw [St.set_self]; decide) hu
  have hro := h.room
  have hUl := hk.hU
  have k2 : Ak c W2 (S.set fr.q 1) op ans vo := hA.drew.state hk hgr hmf (set_le2 h.s2 fr.q (by decide)) (by omega)
  have n0 : W2.heap[W.heap.size]? = some (.cells #[.int .i64 fr.q.1, .string fr.q.2, vl, .string fr.name, .bool fr.ty, .int .i64 fr.fd.k, .int .i64 fr.fd.mod, .string fr.fd.name, .bool fr.fd.ty] 145 (0, 0)) := (hgr.block _ (by show _ < wA.heap.size; omega) (fun e => hfar.2.2.1 (by injection e))).trans m0
  have hb2 := k2.blk
  unfold aC at hb2
  have hopl : op.length + 1 ≤ 274877906944 := by omega
  have HF : Hid (∀ (W3 : World) (g cap : Nat), W3.ownsRow c.B 145 9 (.slice (some ⟨g, 0, none⟩) (op.length + 1) cap) (op.length + 1) (rowC op ++ [.int .i64 fr.q.1, .string fr.q.2, vl, .string fr.name, .bool fr.ty, .int .i64 fr.fd.k, .int .i64 fr.fd.mod, .string fr.fd.name, .bool fr.fd.ty]) → (W2.alloc (.cells #[.int .i64 fr.q.1, .string fr.q.2, vl, .string fr.name, .bool fr.ty, .int .i64 fr.fd.k, .int .i64 fr.fd.mod, .string fr.fd.name, .bool fr.fd.ty] 145)).drew.grownBy W3 vo.ownBlock → (vo.ownBlock = some g ∨ g = W2.heap.size + 1) → ((∃ u, W3.cell? ⟨c.a, 2, none⟩ = some u) ∧ W3.frozen? ⟨c.a, 2, none⟩ = false) ∧ Ak c (W3.setCell ⟨c.a, 2, none⟩ (.slice (some ⟨g, 0, none⟩) (op.length + 1) cap)) (S.set fr.q 1) (op ++ [(fr, vl)]) ans (.slice (some ⟨g, 0, none⟩) (op.length + 1) cap)) := fun W3 g cap r1 r2 r3 =>
    Ak.push hk ((k2.bel ((Below.refl _ _).alloc (Nat.le_refl _) _)).drew) hfr (by omega) (by show (W2.alloc _).heap.size = _; simp) r1 r2 r3
  have HW : Hid (∀ (W3 : World) (u : Value), (W2.alloc (.cells #[.int .i64 fr.q.1, .string fr.q.2, vl, .string fr.name, .bool fr.ty, .int .i64 fr.fd.k, .int .i64 fr.fd.mod, .string fr.fd.name, .bool fr.fd.ty] 145)).drew.grownBy W3 vo.ownBlock → ∀ k, k < W.heap.size → k ≠ c.a → k ≠ c.mS → vo.ownBlock ≠ some k → (W3.setCell ⟨c.a, 2, none⟩ u).heap[k]? = W.heap[k]?) := fun W3 u r2 k hk1 ha hm hv => by
    have hs2 : wA.heap.size ≤ W2.heap.size := hgr.size
    rw [Below.heap_setCell _ _ _ _ ha]
    refine (r2.block k (by show k < (W2.alloc _).heap.size; simp; omega) (fun e => hv e.symm)).trans ?_
    refine (Below.heap_alloc W2 _ k (by omega)).trans ?_
    exact (hgr.block k (by show k < wA.heap.size; omega) (fun e => hm (by injection e))).trans (bA.block k hk1)
  have ho1 := (World.ownsRow.alloc k2.row (.cells #[.int .i64 fr.q.1, .string fr.q.2, vl, .string fr.name, .bool fr.ty, .int .i64 fr.fd.k, .int .i64 fr.fd.mod, .string fr.fd.name, .bool fr.fd.ty] 145)).drew
  have ca : ∀ o, (W2.alloc o).cell? ⟨c.a, 2, none⟩ = some vo := fun o => by
    have := ((k2.bel ((Below.refl _ _).alloc (Nat.le_refl _) o)).blk)
    unfold aC at this
    exact (t7 this).1.2.2.1
  have hsB : c.B ≤ W2.heap.size := k2.hB
  obtain ⟨⟨_, _, _, _, _, _, _⟩, _, _, _, _, _⟩ := t7 hb
  obtain ⟨⟨_, _, _, _, _, _, _⟩, _, _, _, _, _⟩ := t7 hb2
  obtain ⟨_, _, _, _, _, _, _, _, _⟩ := t9 m0
  obtain ⟨_, _, _, _, _, _, _, _, _⟩ := t9 n0
  have hone : ∀ u ∈ ([.int .i64 fr.q.1, .string fr.q.2, vl, .string fr.name, .bool fr.ty, .int .i64 fr.fd.k, .int .i64 fr.fd.mod, .string fr.fd.name, .bool fr.fd.ty] : List Value), u.oneCell' = true := by
    intro u hu
    simp only [List.mem_cons, List.not_mem_nil, or_false] at hu
    rcases hu with rfl | rfl | rfl | rfl | rfl | rfl | rfl | rfl | rfl <;> first | exact h1 | rfl
  clear sA hro hun hUl
  go_enter Tryz.func132, Tryz.ntmps132
  go_wp2_with fail
  go_region
  go_wp2_with fail
  go_region_law (first
    | (refine step_append_lies _ (by rfl) _ _ _ (by rfl) c.B 145 i0 _ 9 112 under_ops hi hz0 hz1 hz2 rfl (by omega) _ op.length (rowC op) (by rfl) ho1 ⟨W2.heap.size, 0, none⟩ 1 1 [.int .i64 fr.q.1, .string fr.q.2, vl, .string fr.name, .bool fr.ty, .int .i64 fr.fd.k, .int .i64 fr.fd.mod, .string fr.fd.name, .bool fr.fd.ty] (by rfl) (by rfl) (World.news_of_block (cs := #[.int .i64 fr.q.1, .string fr.q.2, vl, .string fr.name, .bool fr.ty, .int .i64 fr.fd.k, .int .i64 fr.fd.mod, .string fr.fd.name, .bool fr.fd.ty]) (t := 145) (fr := (0, 0)) (heap_alloc_new W2 _)) hone (by omega) (by unfold maxLen; omega) (by omega) (by simp; omega) (W2.heap.size + 1) (by simp) ?_
       intro gg cap W3 r1 r2 r3 r4
       obtain ⟨⟨⟨u4, x1⟩, x2⟩, x3⟩ := HF.out W3 gg cap r1 r2 r3
       have x4 := HW.out W3 (.slice (some ⟨gg, 0, none⟩) (op.length + 1) cap) r2))
  all_goals
    go_wp2
    go_end0
    exact ⟨rfl, ⟨_, x3⟩, x4⟩
end Go.Proofs.YtadkmlcnmkdfiaaGreatDoor
namespace Go.Proofs.YtadkmlcnmkdfiaaGreatDoor
open Go.RowKit Xp
set_option linter.unusedVariables false
set_option linter.unusedSimpArgs false

theorem find_fx {α : Type} {p : α → Bool} {l : List α} {i : Nat} (h : l.findIdx? p = some i) : ∃ hi : i < l.length, l.find? p = some l[i] := by
  obtain ⟨hi, h1, h2⟩ := List.findIdx?_eq_some_iff_getElem.1 h
  exact ⟨hi, List.find?_eq_some_iff_getElem.2 ⟨h1, i, hi, rfl, fun j hj => by simpa using h2 j hj⟩⟩
theorem find_fn {α : Type} {p : α → Bool} {l : List α} (h : l.findIdx? p = none) : l.find? p = none := List.find?_eq_none.2 fun x hx => by rw [List.findIdx?_eq_none_iff.1 h x hx]; decide
theorem first_own {e : Es} {m : Int} {n : ByteArray} {i : Nat} (h : plc e n = some (true, i)) : ∃ hi : i < e.own.length, first e (m, n) = .val ⟨1, m, e.own[i].here, e.own[i].ty⟩ := by
  unfold plc at h
  cases h1 : e.own.findIdx? (fun x => x.there == n) with
  | some k =>
    rw [h1] at h
    simp only [Option.some.injEq, Prod.mk.injEq, true_and] at h
    subst h
    obtain ⟨hi, hf⟩ := find_fx h1
    exact ⟨hi, by unfold first; rw [hf]⟩
  | none =>
    rw [h1] at h
    cases h2 : e.oth.findIdx? (fun x => x.here == n) <;> simp [h2] at h
theorem first_oth {e : Es} {m : Int} {n : ByteArray} {i : Nat} (h : plc e n = some (false, i)) : ∃ hi : i < e.oth.length, first e (m, n) = if e.oth[i].there = star then .val ⟨2, e.oth[i].mod, mt, e.oth[i].ty⟩ else .go [e.oth[i]] e.oth[i].there e.oth[i].ty := by
  unfold plc at h
  cases h1 : e.own.findIdx? (fun x => x.there == n) with
  | some k => rw [h1] at h; simp at h
  | none =>
    rw [h1] at h
    cases h2 : e.oth.findIdx? (fun x => x.here == n) with
    | none => simp [h2] at h
    | some k =>
      rw [h2] at h
      simp only [Option.some.injEq, Prod.mk.injEq, true_and] at h
      subst h
      obtain ⟨hi, hf⟩ := find_fx h2
      exact ⟨hi, by unfold first; rw [find_fn h1, hf]⟩
theorem first_no {e : Es} {m : Int} {n : ByteArray} (h : plc e n = none) : first e (m, n) = if n = dflt then .val fd0 else .go e.st n false := by
  unfold plc at h
  cases h1 : e.own.findIdx? (fun x => x.there == n) with
  | some k => rw [h1] at h; simp at h
  | none =>
    rw [h1] at h
    cases h2 : e.oth.findIdx? (fun x => x.here == n) with
    | some k => simp [h2] at h
    | none => unfold first; rw [find_fn h1, find_fn h2]
/-- what a question comes to. -/
structure AskR (c : Cx) (S : St) (op : List (Fr × Value)) (q : Qn) (S' : St) (op' : List (Fr × Value)) (ans' : Fnd) : Prop where
  v : VV (Xp.ask c.L c.n0) S' (stk op') ans' = handV (Xp.ask c.L c.n0) (Xp.ask c.L c.n0 S q).2 (stk op) (Xp.ask c.L c.n0 S q).1
  m : mu c.U 1048578 S' (stk op') ≤ mu c.U 1048578 S (stk op)
theorem AskR.hand {c : Cx} {S : St} {op : List (Fr × Value)} {q : Qn} {v : Fnd} {S' : St} (h : Xp.ask c.L c.n0 S q = (v, S')) {op' : List (Fr × Value)} {ans' : Fnd} (r : HandR S' op v op' ans') : AskR c S op q S' op' ans' := by
  refine ⟨by rw [r.v, h], ?_⟩
  have hle : Le S S' := by have := askI_le c.L c.n0 S q; rwa [h] at this
  exact Nat.add_le_add (Nat.mul_le_mul_right _ (un_mono hle c.U)) r.l
theorem AskR.opens {c : Cx} {S : St} {op : List (Fr × Value)} {q : Qn} (hq : q.2 ∈ Nms c.L c.n0) (h0 : 0 ≤ q.1) {e : Es} (he : c.L[q.1.toNat]? = some e) (hS : S q = 0) {left : List En} {name : ByteArray} {ty : Bool} (hf : first e q = .go left name ty) (hl : left.length ≤ 1048576) (vl : Value) (ans : Fnd) :
    AskR c S op q (S.set q 1) (op ++ [(⟨q, left, name, ty, fd0⟩, vl)]) ans := by
  refine ⟨?_, ?_⟩
  · rw [stk_app]
    exact Xp.opens hq h0 he hS hf (stk op)
  · have := un_lt (le_set S q (n := 1) (by decide)) hS (by rw [St.set_self]; decide) (mem_uni h0 (List.getElem?_eq_some_iff.1 he).1 hq : q ∈ c.U)
    rw [stk_app]
    unfold mu lefts
    simp only [List.map_cons, List.sum_cons]
    have h3 : (un c.U (S.set q 1) + 1) * 1048578 ≤ un c.U S * 1048578 := Nat.mul_le_mul_right _ this
    rw [Nat.add_mul] at h3
    omega
theorem Ak.ofx {c : Cx} (hk : c.ok) {W W' : World} {S : St} {op : List (Fr × Value)} {ans : Fnd} {vo : Value} (h : Ak c W S op ans vo) (o : Ofx c.mA c.mG W W') (hb : ∃ A, Bk W' c.bk c.mA c.mG c.v c.L A) : Ak c W' S op ans vo := by
  obtain ⟨h1, h2, h3, h4, h5, h6⟩ := h.lts
  obtain ⟨n, k'⟩ := h.st
  have na := h.nmap c.a (Or.inl rfl)
  exact ⟨h.b.trans (o.below hk.lA hk.lG h.hB), (o.block _ h1 na.2.1 na.2.2).trans h.blk, hb, ⟨n, k'.keep (o.block _ h3 hk.sa hk.sg)⟩, h.s2, row_keep h.row fun b hb => (by have := h.nmap b (Or.inr (Or.inr hb)); exact o.block _ (h6 b hb) this.2.1 this.2.2), h.wf, h.room, h.own, h.fk.keep (fun j hj hl => o.block j hl (fun e => hk.fA (by rw [← e]; exact hj)) (fun e => hk.fG (by rw [← e]; exact hj))), h.ownf⟩
/-- find, of what asks. -/
theorem find_ak {c : Cx} (hk : c.ok) {W : World} {S : St} {op : List (Fr × Value)} {ans : Fnd} {vo : Value} (h : Ak c W S op ans vo) {m : Nat} (hm : m < c.L.length) (nm : ByteArray) :
    Calls Tryz.prog 131 #[.pointer (some ⟨c.bk, 0, none⟩), .agg #[.int .i64 (m : Nat), .string nm]] W fun e w' => e = .returned (.tuple #[.agg #[.bool ((plc c.L[m] nm).getD (false, 0)).1, .int .i64 (((plc c.L[m] nm).getD (false, 0)).2 : Nat)], .bool (plc c.L[m] nm).isSome]) ∧ Ak c w' S op ans vo ∧ Ofx c.mA c.mG W w' := by
  obtain ⟨A, k⟩ := h.book
  have hE := hk.hE c.L[m] (List.getElem_mem hm)
  refine (find_any k (hk.ms.bel h.b) hk.lA hk.lG hk.hL hm hE.1 hE.2.1 nm).mono ?_
  rintro e w' ⟨h1, h2, h3⟩
  exact ⟨h1, h.ofx hk h3 h2, h3⟩
end Go.Proofs.YtadkmlcnmkdfiaaGreatDoor
namespace Go.Proofs.YtadkmlcnmkdfiaaGreatDoor
open Go.RowKit Xp
set_option linter.unusedVariables false
set_option linter.unusedSimpArgs false

theorem under_ens : Tryz.prog.underlying 30 = some (.slice 49) := by kernel_rfl
theorem size_en (W : World) : (sizeOf 49).run Tryz.prog W = .ok 5 W := by kernel_rfl
theorem slice_one (W : World) {b o n c i : Nat} (h : i + 1 ≤ c) : (Instr.slice 30 (.slice (some ⟨b, o, none⟩) n c) (some (.int .i64 (i : Nat))) (some (.int .i64 ((i : Nat) + 1))) none).run Tryz.prog W = .ok (.slice (some ⟨b, o + i * 5, none⟩) 1 (c - i)) W := by
  have h1 : (0 : Int) ≤ (i : Nat) + 1 ∧ ((i : Nat) : Int) + 1 ≤ (c : Nat) := by omega
  have h2 : ((i : Nat) : Int) ≤ ((((i : Nat) : Int) + 1).toNat : Nat) := by omega
  have h3 : (((i : Nat) : Int) + 1).toNat = i + 1 := by omega
  have h4 : ¬ c = i := by omega
  simp [Instr.slice, Instr.sliceBounds, Instr.sliceBound, run_underlying under_ens, size_en, Result.andThen, asIntOf, h1, h2, h3, h4, Addr.add]
theorem slice_tail (W : World) {b o n c : Nat} (hn : 0 < n) : (Instr.slice 30 (.slice (some ⟨b, o, none⟩) n c) (some (.int .i64 1)) none none).run Tryz.prog W = .ok (.slice (if c = 1 then some ⟨b, o, none⟩ else some ⟨b, o + 5, none⟩) (n - 1) (c - 1)) W := by
  have h1 : (1 : Int) ≤ (n : Nat) := by omega
  by_cases hc : c = 1
  · subst hc
    simp [Instr.slice, Instr.sliceBounds, Instr.sliceBound, run_underlying under_ens, size_en, Result.andThen, asIntOf, h1, Addr.add]
  · simp [Instr.slice, Instr.sliceBounds, Instr.sliceBound, run_underlying under_ens, size_en, Result.andThen, asIntOf, h1, Addr.add, hc]
end Go.Proofs.YtadkmlcnmkdfiaaGreatDoor
namespace Go.Proofs.YtadkmlcnmkdfiaaGreatDoor
open Go.RowKit Xp
set_option linter.unusedVariables false
set_option linter.unusedSimpArgs false

set_option maxRecDepth 100000 in
set_option maxHeartbeats 16000000 in
theorem askFirst_any {c : Cx} (hk : c.ok) {W : World} {S : St} {op : List (Fr × Value)} {ans : Fnd} {vo : Value} (h : Ak c W S op ans vo) {m : Nat} (hm : m < c.L.length) (nm : ByteArray) (hn : nm ∈ Nms c.L c.n0) (hS : S ((m : Int), nm) = 0) :
    Calls Tryz.prog 83 #[.pointer (some ⟨c.a, 0, none⟩), .agg #[.int .i64 (m : Nat), .string nm]] W fun e w' => e = .returned (.tuple #[]) ∧ ∃ S' op' ans' vo', Ak c w' S' op' ans' vo' ∧ AskR c S op ((m : Int), nm) S' op' ans' := by
  obtain ⟨wA, hwA⟩ : ∃ X, W.alloc (.cells #[.int .i64 (m : Nat), .string nm] 69) = X := ⟨_, rfl⟩
  have bA : Below W.heap.size W wA := by rw [← hwA]; exact (Below.refl _ _).alloc (Nat.le_refl _) _
  have sA : wA.heap.size = W.heap.size + 1 := by rw [← hwA]; simp
  have m0 : wA.heap[W.heap.size]? = some (.cells #[.int .i64 (m : Nat), .string nm] 69 (0, 0)) := by rw [← hwA]; exact heap_alloc_new W _
  have hA := h.bel bA
  have hL := hk.hL
  have hE := hk.hE c.L[m] (List.getElem_mem hm)
  obtain ⟨b, o, cp, hv, hbB, hf⟩ := hk.ms.cl (by omega)
  obtain ⟨v0, v1, v2, v3, hd⟩ := hf m hm
  clear hf
  have hb := hA.blk
  unfold aC at hb
  obtain ⟨A, hbook⟩ := hA.book
  have hbb := hbook.blk
  rw [hv] at hbb
  have hdA := hd.bel hA.b hbB
  have d0 := hdA.c0
  have d1 := hdA.c1
  have d2 := hdA.c2
  have d3 := hdA.c3
  obtain ⟨e, he⟩ : ∃ e, c.L[m] = e := ⟨_, rfl⟩
  have HE : Hid (c.L[m]? = some e) := by show _ = _; rw [List.getElem?_eq_getElem hm, he]
  have CF : Hid (∀ X, Ak c X S op ans vo → Calls Tryz.prog 131 #[.pointer (some ⟨c.bk, 0, none⟩), .agg #[.int .i64 (m : Nat), .string nm]] X fun e' w' => e' = .returned (.tuple #[.agg #[.bool ((plc e nm).getD (false, 0)).1, .int .i64 (((plc e nm).getD (false, 0)).2 : Nat)], .bool (plc e nm).isSome]) ∧ Ak c w' S op ans vo ∧ Ofx c.mA c.mG X w') := fun X hX => by
    have := find_ak hk hX hm nm
    rwa [he] at this
  rw [he] at hE hd
  obtain ⟨a0, c0, e0⟩ := EnAt.op hd.a0
  obtain ⟨a1, c1, e1⟩ := EnAt.op hd.a1
  obtain ⟨a2, c2, e2⟩ := EnAt.op hd.a2
  obtain ⟨a3, c3, e3⟩ := EnAt.op hd.a3
  subst e0 e1 e2 e3
  have HD : Hid (MdAt c.w0 c.B b (o + m * 4) e (.slice a0 e.imp.length c0) (.slice a1 e.own.length c1) (.slice a2 e.oth.length c2) (.slice a3 e.st.length c3)) := hd
  have HH : Hid (Ak c W S op ans vo) := h
  have HAk : Hid (∀ X, Below wA.heap.size wA X → Ak c X S op ans vo) := fun X bX => hA.bel bX
  have hsz := h.far (Nat.le_refl W.heap.size)
  have HM : Hid (∀ X, Ofx c.mA c.mG wA X → X.heap[W.heap.size]? = some (.cells #[.int .i64 (m : Nat), .string nm] 69 (0, 0))) := fun X k => (k.block _ (by omega) hsz.2.2.2.1 hsz.2.2.2.2.1).trans m0
  have hfar2 := h.far (Nat.le_succ W.heap.size)
  have HB : Hid (W.heap.size < wA.heap.size ∧ wA.heap.size ≠ c.mA ∧ wA.heap.size ≠ c.mG) := ⟨by omega, by rw [sA]; exact hfar2.2.2.2.1, by rw [sA]; exact hfar2.2.2.2.2.1⟩
  have hmL : ((m : Nat) : Int) < ((c.L.length : Nat) : Int) := by omega
  have hz : Below wA.heap.size wA (wA.alloc (.cells #[.slice none 0 0, .slice none 0 0, .slice none 0 0, .slice none 0 0] 32)) := (Below.refl _ _).alloc (Nat.le_refl _) _
  have hZ := hA.bel hz
  have zb := hZ.blk
  unfold aC at zb
  obtain ⟨A', hbook'⟩ := hZ.book
  have zbb := hbook'.blk
  rw [hv] at zbb
  have hdZ := hd.bel hZ.b hbB
  have z0 := hdZ.c0
  have z1 := hdZ.c1
  have z2 := hdZ.c2
  have z3 := hdZ.c3
  have zm := (hz.block _ (by omega)).trans m0
  obtain ⟨⟨_, _, _, _, _, _, _⟩, _, _, _, _, _⟩ := t7 zb
  obtain ⟨⟨_, _, _⟩, _, _, _⟩ := t3 zbb
  obtain ⟨⟨_, _⟩, _, _⟩ := t2 zm
  clear he hd hdA hbook sA hsz hfar2 hdZ hbook' hZ hz zm zbb zb
  obtain ⟨⟨_, _, _, _, _, _, _⟩, _, _, _, _, _⟩ := t7 hb
  obtain ⟨⟨_, _, _⟩, _, _, _⟩ := t3 hbb
  obtain ⟨⟨_, _⟩, _, _⟩ := t2 m0
  go_enter Tryz.func83, Tryz.ntmps83
  go_upto_region 1 with fail
  go_cut [4] (fun u4 X => u4 = .pointer (some ⟨wA.heap.size, 0, none⟩) ∧ X = (wA.alloc (.cells #[.slice a0 e.imp.length c0, .slice a1 e.own.length c1, .slice a2 e.oth.length c2, .slice a3 e.st.length c3] 32)).drew)
  case first =>
    go_region
    all_goals
      go_wp2_with fail
      go_meet
      exact ⟨rfl, rfl⟩
  case rest =>
    obtain ⟨rfl, rfl⟩ := hcut
    obtain ⟨wB, hwB⟩ : ∃ X, (wA.alloc (.cells #[.slice a0 e.imp.length c0, .slice a1 e.own.length c1, .slice a2 e.oth.length c2, .slice a3 e.st.length c3] 32)).drew = X := ⟨_, rfl⟩
    have bB : Below wA.heap.size wA wB := by rw [← hwB]; exact ((Below.refl _ _).alloc (Nat.le_refl _) _).drew
    have nB : wB.heap[wA.heap.size]? = some (.cells #[.slice a0 e.imp.length c0, .slice a1 e.own.length c1, .slice a2 e.oth.length c2, .slice a3 e.st.length c3] 32 (0, 0)) := by rw [← hwB]; exact heap_alloc_new wA _
    have sB : wB.heap.size = wA.heap.size + 1 := by rw [← hwB]; show (wA.alloc _).heap.size = _; simp
    rw [hwB]
    clear hwB
    have kB := HAk.out _ bB
    have qB := HM.out _ (Ofx.bel bB)
    have hsB := HB.out
    have HX : Hid (∀ X, Ofx c.mA c.mG wB X → X.heap[W.heap.size]? = some (.cells #[.int .i64 (m : Nat), .string nm] 69 (0, 0)) ∧ X.heap[wA.heap.size]? = some (.cells #[.slice a0 e.imp.length c0, .slice a1 e.own.length c1, .slice a2 e.oth.length c2, .slice a3 e.st.length c3] 32 (0, 0))) := fun X k =>
      ⟨HM.out _ ((Ofx.bel bB).trans k), (k.block _ (by omega) hsB.2.1 hsB.2.2).trans nB⟩
    have kb := kB.blk
    unfold aC at kb
    have kz := kB.bel ((Below.refl _ wB).alloc (Nat.le_refl _) (.cells #[.bool false, .int .i64 0] 185))
    have kzb := kz.blk
    unfold aC at kzb
    have qz := (Below.heap_alloc wB (.cells #[.bool false, .int .i64 0] 185) _ (by omega)).trans qB
    obtain ⟨⟨_, _, _, _, _, _, _⟩, _, _, _, _, _⟩ := t7 kb
    obtain ⟨⟨_, _⟩, _, _⟩ := t2 qB
    obtain ⟨⟨_, _, _, _, _, _, _⟩, _, _, _, _, _⟩ := t7 kzb
    obtain ⟨⟨_, _⟩, _, _⟩ := t2 qz
    have hfB := kB.far (Nat.le_refl wB.heap.size)
    have hfF := kB.farf (Nat.le_refl wB.heap.size)
    obtain ⟨r, hr⟩ : ∃ r, plc e nm = r := ⟨_, rfl⟩
    have HR : Hid (plc e nm = r) := hr
    rw [hr] at CF
    clear hr
    have hq1 : W.heap.size ≠ wB.heap.size := by omega
    have hq2 : wA.heap.size ≠ wB.heap.size := by omega
    have hq3 : W.heap.size ≤ wB.heap.size := by omega
    clear sB
    go_upto_region 2 with fail
    go_cut [5, 6] (fun u5 u6 X => ∃ p, u5 = .pointer (some ⟨p, 0, none⟩) ∧ W.heap.size ≤ p ∧ u6 = .bool r.isSome ∧ X.heap[p]? = some (.cells #[.bool (r.getD (false, 0)).1, .int .i64 ((r.getD (false, 0)).2 : Nat)] 185 (0, 0)) ∧ Ak c X S op ans vo ∧ X.heap[W.heap.size]? = some (.cells #[.int .i64 (m : Nat), .string nm] 69 (0, 0)) ∧ X.heap[wA.heap.size]? = some (.cells #[.slice a0 e.imp.length c0, .slice a1 e.own.length c1, .slice a2 e.oth.length c2, .slice a3 e.st.length c3] 32 (0, 0)))
    case first =>
      go_region_with (first
        | (go_at_call 131; refine (CF.out _ kB.drew).mono ?_; rintro ex W2 ⟨rfl, k2, o2⟩; obtain ⟨x1, x2⟩ := HX.out W2 ⟨o2.os, o2.tape, o2.output, o2.size, o2.block⟩)
        | (go_at_call 131; refine (CF.out _ kz.drew).mono ?_; rintro ex W2 ⟨rfl, k2, o2⟩; have o3 : Ofx c.mA c.mG wB W2 := ((Ofx.bel ((Below.refl _ wB).alloc (Nat.le_refl _) (.cells #[.bool false, .int .i64 0] 185))).drew).trans o2; obtain ⟨x1, x2⟩ := HX.out W2 o3; have x3 := (o2.block wB.heap.size (by show _ < (wB.alloc _).heap.size; simp) hfB.2.2.2.1 hfB.2.2.2.2.1).trans (heap_alloc_new wB (.cells #[.bool false, .int .i64 0] 185)); obtain ⟨⟨_, _⟩, _, _⟩ := t2 x3))
      all_goals
        go_wp2_with fail
        go_meet
        first
          | exact ⟨_, rfl, Nat.le_of_lt (Array.getElem?_eq_some_iff.1 x1).1, rfl, heap_alloc_new W2 _, k2.bel ((Below.refl _ _).alloc (Nat.le_refl _) _), (Below.heap_alloc W2 _ _ (Array.getElem?_eq_some_iff.1 x1).1).trans x1, (Below.heap_alloc W2 _ _ (Array.getElem?_eq_some_iff.1 x2).1).trans x2⟩
          | exact ⟨_, rfl, hq3, rfl, t2_set _ _ x3, (k2.set (p := ⟨wB.heap.size, 0, none⟩) kB.hB hfB hfF _).set (p := ⟨wB.heap.size, 1, none⟩) kB.hB hfB hfF _, ((Below.heap_setCell _ _ _ _ hq1).trans (Below.heap_setCell _ _ _ _ hq1)).trans x1, ((Below.heap_setCell _ _ _ _ hq2).trans (Below.heap_setCell _ _ _ _ hq2)).trans x2⟩
    case rest =>
      obtain ⟨p, rfl, hWp, rfl, xp, kX, xq, xe⟩ := hcut
      have HP : Hid (wB = wB) := rfl
      clear kB kz qB qz kb kzb nB bB hfB hfF hb hbb m0 d0 d1 d2 d3 z0 z1 z2 z3 hA bA hwA CF
      obtain ⟨⟨_, _⟩, _, _⟩ := t2 xp
      obtain ⟨⟨_, _⟩, _, _⟩ := t2 xq
      obtain ⟨⟨_, _, _, _⟩, _, _, _, _⟩ := t4 xe
      have hlk := fun o => Below.heap_alloc wc o
      have HEe := HE.out
      cases r with
      | some pr =>
        obtain ⟨ow, i⟩ := pr
        cases ow with
        | true =>
          obtain ⟨hi, hf⟩ := first_own (m := (m : Int)) HR.out
          obtain ⟨b1, o1, c', ee, hb1, hcel⟩ := EnAt.cl (HD.out.a1.bel kX.b) (by omega)
          obtain ⟨rfl, rfl⟩ : a1 = some ⟨b1, o1, none⟩ ∧ c1 = c' := by cases ee; exact ⟨rfl, rfl⟩
          obtain ⟨f1, f2, f3, f4, f5⟩ := hcel i hi
          have hii : ((i : Nat) : Int) < ((e.own.length : Nat) : Int) := by omega
          have HF : Hid (first e ((m : Int), nm) = .val ⟨1, (m : Int), e.own[i].here, e.own[i].ty⟩) := hf
          generalize e.own[i] = x at *
          have kY := kX.bel ((Below.refl _ _).alloc (Nat.le_refl _) (.cells #[.string x.here, .string x.there, .int .i64 x.mod, .bool x.ty, .int .i64 x.item] 49))
          have C := end_any hk kY ((m : Int), nm) ⟨1, (m : Int), x.here, x.ty⟩
          have yq := (hlk (.cells #[.string x.here, .string x.there, .int .i64 x.mod, .bool x.ty, .int .i64 x.item] 49) _ (Array.getElem?_eq_some_iff.1 xq).1).trans xq
          obtain ⟨⟨_, _⟩, _, _⟩ := t2 yq
          clear hcel hlk
          go_wp2_with (go_at_call 84; refine C.mono ?_; rintro ex W3 ⟨rfl, op', ans', vo', k3, r3⟩)
          go_end0
          exact ⟨rfl, _, op', ans', vo', k3, AskR.hand (opens_val hn (by simp) HEe hS HF.out) r3⟩
        | false =>
          obtain ⟨hi, hf⟩ := first_oth (m := (m : Int)) HR.out
          obtain ⟨b1, o1, c', ee, hb1, hcel⟩ := EnAt.cl (HD.out.a2.bel kX.b) (by omega)
          obtain ⟨rfl, rfl⟩ : a2 = some ⟨b1, o1, none⟩ ∧ c2 = c' := by cases ee; exact ⟨rfl, rfl⟩
          obtain ⟨f1, f2, f3, f4, f5⟩ := hcel i hi
          have hii : ((i : Nat) : Int) < ((e.oth.length : Nat) : Int) := by omega
          have hio : e.oth.length ≤ 1048576 := hE.2.1
          have hcc := HD.out.a2.cp _ _ _ rfl
          have hic : ((i : Nat) : Int) + 1 ≤ ((c2 : Nat) : Int) := by omega
          have hic' : ((i : Nat) : Int) ≤ ((i : Nat) : Int) + 1 := by omega
          have HO : Hid (EnAt c.w0 c.B (.slice (some ⟨b1, o1 + i * 5, none⟩) 1 (c2 - i)) [e.oth[i]]) := EnAt.one HD.out.a2 hi
          have HF : Hid (first e ((m : Int), nm) = if e.oth[i].there = star then .val ⟨2, e.oth[i].mod, mt, e.oth[i].ty⟩ else .go [e.oth[i]] e.oth[i].there e.oth[i].ty) := hf
          have HN : Hid (e.oth[i].there ∈ Nms c.L c.n0) := List.mem_cons_of_mem _ (List.mem_flatMap.2 ⟨e, List.mem_of_getElem? HEe, List.mem_map.2 ⟨e.oth[i], List.getElem_mem hi, rfl⟩⟩)
          generalize e.oth[i] = x at *
          have kY := kX.bel ((Below.refl _ _).alloc (Nat.le_refl _) (.cells #[.string x.here, .string x.there, .int .i64 x.mod, .bool x.ty, .int .i64 x.item] 49))
          have yq := (hlk (.cells #[.string x.here, .string x.there, .int .i64 x.mod, .bool x.ty, .int .i64 x.item] 49) _ (Array.getElem?_eq_some_iff.1 xq).1).trans xq
          have ye := (hlk (.cells #[.string x.here, .string x.there, .int .i64 x.mod, .bool x.ty, .int .i64 x.item] 49) _ (Array.getElem?_eq_some_iff.1 xe).1).trans xe
          have yp := (hlk (.cells #[.string x.here, .string x.there, .int .i64 x.mod, .bool x.ty, .int .i64 x.item] 49) _ (Array.getElem?_eq_some_iff.1 xp).1).trans xp
          obtain ⟨⟨_, _⟩, _, _⟩ := t2 yq
          obtain ⟨⟨_, _⟩, _, _⟩ := t2 yp
          obtain ⟨⟨_, _, _, _⟩, _, _, _, _⟩ := t4 ye
          clear hcel hlk hcc
          by_cases hs : x.there = star
          · have hs' : (x.there.toList == [42]) = true := by rw [show ([42] : List UInt8) = star.toList by rw [ByteArray.toList_eq]; rfl, ← beq_toListBytes, ba_eq]; exact decide_eq_true hs
            have HF2 : Hid (first e ((m : Int), nm) = .val ⟨2, x.mod, mt, x.ty⟩) := by show _ = _; rw [HF.out, if_pos hs]
            clear HF hs
            have C := end_any hk kY ((m : Int), nm) ⟨2, x.mod, ⟨#[]⟩, x.ty⟩
            go_wp2_with (go_at_call 84; refine C.mono ?_; rintro ex W3 ⟨rfl, op', ans', vo', k3, r3⟩)
            go_end0
            exact ⟨rfl, _, op', ans', vo', k3, AskR.hand (opens_val hn (by simp) HEe hS HF2.out) r3⟩
          · have hs' : (x.there.toList == [42]) = false := by rw [show ([42] : List UInt8) = star.toList by rw [ByteArray.toList_eq]; rfl, ← beq_toListBytes, ba_eq]; exact decide_eq_false hs
            have HF2 : Hid (first e ((m : Int), nm) = .go [x] x.there x.ty) := by show _ = _; rw [HF.out, if_neg hs]
            clear HF hs
            have C := begin_any hk kY.drew ⟨((m : Int), nm), [x], x.there, x.ty, fd0⟩ (.slice (some ⟨b1, o1 + i * 5, none⟩) 1 (c2 - i)) ⟨(by decide : (0 : Int) ≠ 3), HN.out, HO.out, by simp⟩ (mem_uni (by simp) (by simpa using hm) hn) hS rfl
            have hwr : IntKind.i64.wrap (((i : Nat) : Int) + 1) = ((i : Nat) : Int) + 1 := (by rw [IntKind.wrap_i64]; omega)
            have hsl := fun W' => slice_one W' (b := b1) (o := o1) (n := e.oth.length) (c := c2) (i := i) (by omega)
            have mE := heap_alloc_new wc (.cells #[.string x.here, .string x.there, .int .i64 x.mod, .bool x.ty, .int .i64 x.item] 49)
            have hpl : p < wc.heap.size := (Array.getElem?_eq_some_iff.1 xp).1
            have HF3 := HH.out.far (Nat.le_refl W.heap.size)
            have HST : Hid (∀ X : World, (∀ k, (k = W.heap.size ∨ k = wA.heap.size ∨ k = p ∨ k = wc.heap.size) → X.heap[k]? = (wc.alloc (.cells #[.string x.here, .string x.there, .int .i64 x.mod, .bool x.ty, .int .i64 x.item] 49)).heap[k]?) → (X.cell? ⟨W.heap.size, 0, none⟩ = some (.int .i64 (m : Nat)) ∧ X.cell? ⟨W.heap.size, 1, none⟩ = some (.string nm) ∧ X.cell? ⟨wA.heap.size, 2, none⟩ = some (.slice (some ⟨b1, o1, none⟩) e.oth.length c2) ∧ X.cell? ⟨p, 1, none⟩ = some (.int .i64 (i : Nat)) ∧ X.cell? ⟨wc.heap.size, 1, none⟩ = some (.string x.there) ∧ X.cell? ⟨wc.heap.size, 3, none⟩ = some (.bool x.ty))) := fun X hX => by
              have g1 := (hX _ (Or.inl rfl)).trans yq
              have g2 := (hX _ (Or.inr (Or.inl rfl))).trans ye
              have g3 := (hX _ (Or.inr (Or.inr (Or.inl rfl)))).trans yp
              have g4 := (hX _ (Or.inr (Or.inr (Or.inr rfl)))).trans mE
              exact ⟨(t2 g1).1.1, (t2 g1).1.2, (t4 g2).1.2.2.1, (t2 g3).1.2, by simp [World.cell?, g4], by simp [World.cell?, g4]⟩
            have hst0 := HST.out (wc.alloc (.cells #[.string x.here, .string x.there, .int .i64 x.mod, .bool x.ty, .int .i64 x.item] 49)).drew (fun k _ => rfl)
            have HFR : Hid (∀ k, (k = W.heap.size ∨ k = wA.heap.size ∨ k = p ∨ k = wc.heap.size) → k < (wc.alloc (.cells #[.string x.here, .string x.there, .int .i64 x.mod, .bool x.ty, .int .i64 x.item] 49)).heap.size ∧ k ≠ c.a ∧ k ≠ c.mS ∧ vo.ownBlock ≠ some k) := fun k hk' => by
              have l1 := (Array.getElem?_eq_some_iff.1 xq).1
              have l2 := (Array.getElem?_eq_some_iff.1 xe).1
              have l3 := HB.out.1
              have hkW : W.heap.size ≤ k ∧ k < wc.heap.size + 1 := by rcases hk' with rfl | rfl | rfl | rfl <;> omega
              have := HH.out.far hkW.1
              exact ⟨by simp; omega, this.1, this.2.2.1, this.2.2.2.2.2⟩
            go_wp2_with fail
            go_region_held3 (fun X => X.cell? ⟨W.heap.size, 0, none⟩ = some (.int .i64 (m : Nat)) ∧ X.cell? ⟨W.heap.size, 1, none⟩ = some (.string nm) ∧ X.cell? ⟨wA.heap.size, 2, none⟩ = some (.slice (some ⟨b1, o1, none⟩) e.oth.length c2) ∧ X.cell? ⟨p, 1, none⟩ = some (.int .i64 (i : Nat)) ∧ X.cell? ⟨wc.heap.size, 1, none⟩ = some (.string x.there) ∧ X.cell? ⟨wc.heap.size, 3, none⟩ = some (.bool x.ty))
              (first | assumption | exact hst0 | exact hst3)
              (first
                | (go_at_call 132; refine C.mono ?_; rintro ex W3 ⟨rfl, ⟨vo', k3⟩, fr3⟩; have hst3 := HST.out W3 (fun k hk' => fr3 k (HFR.out k hk').1 (HFR.out k hk').2.1 (HFR.out k hk').2.2.1 (HFR.out k hk').2.2.2)))
            all_goals
              go_wp2
              go_end0
              exact ⟨rfl, _, _, ans, vo', k3, AskR.opens hn (by simp) HEe hS HF2.out (by simp) _ _⟩
      | none =>
        have hf := first_no (m := (m : Int)) HR.out
        by_cases hs : nm = dflt
        · have hs' : (nm.toList == [100, 101, 102, 97, 117, 108, 116]) = true := by rw [show ([100, 101, 102, 97, 117, 108, 116] : List UInt8) = dflt.toList by rw [ByteArray.toList_eq]; rfl, ← beq_toListBytes, ba_eq]; exact decide_eq_true hs
          have HF2 : Hid (first e ((m : Int), nm) = .val fd0) := by show _ = _; rw [hf, if_pos hs]
          clear hf hs
          have C := end_any hk kX ((m : Int), nm) ⟨0, 0, ⟨#[]⟩, false⟩
          go_wp2_with (go_at_call 84; refine C.mono ?_; rintro ex W3 ⟨rfl, op', ans', vo', k3, r3⟩)
          go_end0
          exact ⟨rfl, _, op', ans', vo', k3, AskR.hand (opens_val hn (by simp) HEe hS HF2.out) r3⟩
        · have hs' : (nm.toList == [100, 101, 102, 97, 117, 108, 116]) = false := by rw [show ([100, 101, 102, 97, 117, 108, 116] : List UInt8) = dflt.toList by rw [ByteArray.toList_eq]; rfl, ← beq_toListBytes, ba_eq]; exact decide_eq_false hs
          have HF2 : Hid (first e ((m : Int), nm) = .go e.st nm false) := by show _ = _; rw [hf, if_neg hs]
          clear hf hs
          have C := begin_any hk kX ⟨((m : Int), nm), e.st, nm, false, fd0⟩ (.slice a3 e.st.length c3) ⟨(by decide : (0 : Int) ≠ 3), hn, HD.out.a3, hE.2.2⟩ (mem_uni (by simp) (by simpa using hm) hn) hS rfl
          go_wp2_with (go_at_call 132; refine C.mono ?_; rintro ex W3 ⟨rfl, ⟨vo', k3⟩, _⟩)
          go_end0
          exact ⟨rfl, _, _, ans, vo', k3, AskR.opens hn (by simp) HEe hS HF2.out hE.2.2 _ _⟩
end Go.Proofs.YtadkmlcnmkdfiaaGreatDoor
namespace Go.Proofs.YtadkmlcnmkdfiaaGreatDoor
open Go.RowKit Xp
set_option linter.unusedVariables false
set_option linter.unusedSimpArgs false

set_option maxRecDepth 100000 in
set_option maxHeartbeats 16000000 in
theorem ask_any {c : Cx} (hk : c.ok) {W : World} {S : St} {op : List (Fr × Value)} {ans : Fnd} {vo : Value} (h : Ak c W S op ans vo) (q : Qn) (hn : q.2 ∈ Nms c.L c.n0) :
    Calls Tryz.prog 56 #[.pointer (some ⟨c.a, 0, none⟩), .agg #[.int .i64 q.1, .string q.2]] W fun e w' => e = .returned (.tuple #[]) ∧ ∃ S' op' ans' vo', Ak c w' S' op' ans' vo' ∧ AskR c S op q S' op' ans' := by
  obtain ⟨wA, hwA⟩ : ∃ X, W.alloc (.cells #[.int .i64 q.1, .string q.2] 69) = X := ⟨_, rfl⟩
  have bA : Below W.heap.size W wA := by rw [← hwA]; exact (Below.refl _ _).alloc (Nat.le_refl _) _
  have m0 : wA.heap[W.heap.size]? = some (.cells #[.int .i64 q.1, .string q.2] 69 (0, 0)) := by rw [← hwA]; exact heap_alloc_new W _
  have hA := h.bel bA
  have hb := hA.blk
  unfold aC at hb
  obtain ⟨A, hbook⟩ := hA.book
  have hbb := hbook.blk
  obtain ⟨ad, cp, hv⟩ := hk.ms.op
  rw [hv] at hbb
  have CH := has_any (w := wA.drew) hbb hk.hL q.1
  obtain ⟨⟨_, _, _, _, _, _, _⟩, _, _, _, _, _⟩ := t7 hb
  obtain ⟨⟨_, _⟩, _, _⟩ := t2 m0
  cases hq : hasB c.L.length q.1 with
  | false =>
    rw [hq] at CH
    have HO : Hid (Xp.ask c.L c.n0 S q = (fd0, S)) := ask_out hn (by unfold hasB at hq; simp at hq; omega)
    clear hq
    have C := hand_any hk hA.drew ⟨0, 0, ⟨#[]⟩, false⟩
    go_enter Tryz.func56, Tryz.ntmps56
    go_wp2_with fail
    go_region_with (go_at_call 60; refine CH.mono ?_; rintro ex W2 ⟨rfl, hW⟩; obtain rfl := hW.symm)
    all_goals
      go_wp2_with (go_at_call 82; refine C.mono ?_; rintro ex W3 ⟨rfl, op', ans', vo', k3, r3⟩)
      refine bodyPost_ret (results_none rfl _ _ _) rfl ?_
      exact ⟨rfl, _, op', ans', vo', k3, AskR.hand HO.out r3⟩
  | true =>
    rw [hq] at CH
    obtain ⟨q1, hq1, hm⟩ : ∃ m : Nat, q.1 = (m : Int) ∧ m < c.L.length := by
      unfold hasB at hq; simp at hq; exact ⟨q.1.toNat, by omega, by omega⟩
    clear hq
    obtain ⟨qm, nm⟩ := q
    simp only at hq1 hn CH m0
    subst hq1
    obtain ⟨n, hst⟩ := hA.st
    have LK := s_look (hst.keep (w' := wA.drew.drew) rfl) ((q1 : Int), nm)
    have hs2 := h.s2 ((q1 : Int), nm)
    obtain ⟨⟨_, _⟩, _, _⟩ := t2 m0
    rcases (by omega : S ((q1 : Int), nm) = 0 ∨ S ((q1 : Int), nm) = 1 ∨ S ((q1 : Int), nm) = 2) with e0 | e0 | e0
    · rw [e0] at LK
      have LK' : (Instr.lookup 108 (.map (some c.mS)) (.agg #[.int .i64 (q1 : Nat), .string nm]) false).run Tryz.prog wA.drew.drew = .ok (.int .i64 0) wA.drew.drew := LK
      clear LK
      have HC := askFirst_any hk hA.drew.drew hm nm hn e0
      clear hs2
      have HE0 : Hid _ := e0
      clear e0
      go_enter Tryz.func56, Tryz.ntmps56
      go_wp2_with fail
      go_region_with (go_at_call 60; refine CH.mono ?_; rintro ex W2 ⟨rfl, hW⟩; obtain rfl := hW.symm)
      all_goals
        go_wp2_with fail
        go_region
      all_goals
        go_wp2_with (go_at_call 83; refine HC.mono ?_; rintro ex W3 ⟨rfl, S', op', ans', vo', k3, r3⟩)
        go_end0
        exact ⟨rfl, S', op', ans', vo', k3, r3⟩
    · rw [e0] at LK
      have LK' : (Instr.lookup 108 (.map (some c.mS)) (.agg #[.int .i64 (q1 : Nat), .string nm]) false).run Tryz.prog wA.drew.drew = .ok (.int .i64 1) wA.drew.drew := LK
      clear LK
      have HO : Hid (Xp.ask c.L c.n0 S ((q1 : Int), nm) = (circ, S)) := ask_open hn (by simp) (by simpa using hm) e0
      have C := hand_any hk hA.drew.drew ⟨4, 0, ⟨#[]⟩, false⟩
      clear hs2
      have HE0 : Hid _ := e0
      clear e0
      go_enter Tryz.func56, Tryz.ntmps56
      go_wp2_with fail
      go_region_with (go_at_call 60; refine CH.mono ?_; rintro ex W2 ⟨rfl, hW⟩; obtain rfl := hW.symm)
      all_goals
        go_wp2_with fail
        go_region
      all_goals
        go_wp2_with (go_at_call 82; refine C.mono ?_; rintro ex W3 ⟨rfl, op', ans', vo', k3, r3⟩)
        go_end0
        exact ⟨rfl, _, op', ans', vo', k3, AskR.hand HO.out r3⟩
    · rw [e0] at LK
      have LK' : (Instr.lookup 108 (.map (some c.mS)) (.agg #[.int .i64 (q1 : Nat), .string nm]) false).run Tryz.prog wA.drew.drew = .ok (.int .i64 2) wA.drew.drew := LK
      clear LK
      have HO : Hid (Xp.ask c.L c.n0 S ((q1 : Int), nm) = (fd0, S)) := ask_was hn (by simp) (by simpa using hm) e0
      have C := hand_any hk hA.drew.drew ⟨0, 0, ⟨#[]⟩, false⟩
      clear hs2
      have HE0 : Hid _ := e0
      clear e0
      go_enter Tryz.func56, Tryz.ntmps56
      go_wp2_with fail
      go_region_with (go_at_call 60; refine CH.mono ?_; rintro ex W2 ⟨rfl, hW⟩; obtain rfl := hW.symm)
      all_goals
        go_wp2_with fail
        go_region
      all_goals
        go_wp2_with (go_at_call 82; refine C.mono ?_; rintro ex W3 ⟨rfl, op', ans', vo', k3, r3⟩)
        go_end0
        exact ⟨rfl, _, op', ans', vo', k3, AskR.hand HO.out r3⟩
end Go.Proofs.YtadkmlcnmkdfiaaGreatDoor
namespace Go.Proofs.YtadkmlcnmkdfiaaGreatDoor
open Go.RowKit Xp
set_option linter.unusedVariables false
set_option linter.unusedSimpArgs false

/-- one step. -/
structure StepR (c : Cx) (S : St) (op : List (Fr × Value)) (ans : Fnd) (S' : St) (op' : List (Fr × Value)) (ans' : Fnd) : Prop where
  v : VV (Xp.ask c.L c.n0) S' (stk op') ans' = VV (Xp.ask c.L c.n0) S (stk op) ans
  m : mu c.U 1048578 S' (stk op') < mu c.U 1048578 S (stk op)
theorem StepR.next {c : Cx} {S : St} {i : List (Fr × Value)} {q : Qn} {e : En} {l : List En} {name : ByteArray} {ty : Bool} {fd ans : Fnd} {vl vl' : Value} {S' : St} {op' : List (Fr × Value)} {ans' : Fnd} (r : AskR c S (i ++ [(⟨q, l, name, ty, fd⟩, vl')]) (e.mod, name) S' op' ans') : StepR c S (i ++ [(⟨q, e :: l, name, ty, fd⟩, vl)]) ans S' op' ans' := by
  refine ⟨?_, ?_⟩
  · rw [r.v, stk_app, stk_app]
    exact (cont_next (Xp.ask c.L c.n0) S q e l name ty fd (stk i)).symm
  · refine Nat.lt_of_le_of_lt r.m ?_
    rw [stk_app, stk_app]
    unfold mu lefts
    simp only [List.map_cons, List.sum_cons, List.length_cons]
    omega
theorem StepR.endd {c : Cx} {S : St} {i : List (Fr × Value)} {q : Qn} {name : ByteArray} {ty : Bool} {fd ans : Fnd} {vl : Value} {op' : List (Fr × Value)} {ans' : Fnd} (h3 : fd.k ≠ 3) (r : HandR (S.set q 2) i (clo ty fd) op' ans') : StepR c S (i ++ [(⟨q, [], name, ty, fd⟩, vl)]) ans (S.set q 2) op' ans' := by
  refine ⟨?_, ?_⟩
  · rw [r.v, stk_app]
    exact (cont_end (Xp.ask c.L c.n0) S q name ty fd h3 (stk i)).symm
  · have h1 := un_mono (le_set S q (n := 2) (by decide)) c.U
    have h2 := r.l
    rw [stk_app]
    unfold mu lefts at *
    simp only [List.map_cons, List.sum_cons, List.length_nil]
    have := Nat.mul_le_mul_right 1048578 h1
    omega
theorem Ak.left {c : Cx} {W : World} {S : St} {i : List (Fr × Value)} {fr : Fr} {vl : Value} {ans : Fnd} {g n cap : Nat} (h : Ak c W S (i ++ [(fr, vl)]) ans (.slice (some ⟨g, 0, none⟩) n cap)) (vl' : Value) (l : List En) (he : EnAt c.w0 c.B vl' l) (hl : l.length ≤ 1048576) :
    Ak c (W.setCell ⟨g, i.length * 9 + 2, none⟩ vl') S (i ++ [({ fr with left := l }, vl')]) ans (.slice (some ⟨g, 0, none⟩) n cap) := by
  have hlen : (i ++ [(fr, vl)]).length = i.length + 1 := by simp
  have hr := h.row
  obtain ⟨A', c', e⟩ := row_form hr
  have hn : n = (i ++ [(fr, vl)]).length := by cases e; rfl
  subst hn
  have hg := World.ownsRow.lt hr g rfl
  have hga := h.own g rfl
  have hgm := h.nmap g (Or.inr (Or.inr rfl))
  have k := h.ah.keep (W' := W.setCell ⟨g, i.length * 9 + 2, none⟩ vl') (h.b.setCell hg.1 _) (Below.heap_setCell _ _ _ _ (fun e => hga.1 e.symm)) (Below.heap_setCell _ _ _ _ (fun e => hga.2 e.symm)) (Below.heap_setCell _ _ _ _ (fun e => hgm.1 e.symm)) (Below.heap_setCell _ _ _ _ (fun e => hgm.2.1 e.symm)) (Below.heap_setCell _ _ _ _ (fun e => hgm.2.2 e.symm)) (fun j hj _ => Below.heap_setCell _ _ _ _ (fun e => h.ownf g rfl (by have e2 : j = g := e; rw [← e2]; exact hj)))
  refine ⟨k.b, k.blk, k.book, k.st, k.s2, ?_, fun p hp => ?_, ?_, h.own, k.fk, h.ownf⟩
  · rw [← rowC_left i fr vl vl' l]
    have := (World.ownsRow.stored hr (i.length * 9 + 2) vl').1
    simpa using this
  · rcases List.mem_append.1 hp with hp | hp
    · exact h.wf p (by simp [hp])
    · simp only [List.mem_singleton] at hp
      subst hp
      have := h.wf (fr, vl) (by simp)
      exact ⟨this.k, this.n, he, hl⟩
  · have := h.room
    simpa using this
/-- one less on the way. -/
theorem Ak.pop {c : Cx} (hk : c.ok) {W : World} {S : St} {i : List (Fr × Value)} {p : Fr × Value} {ans : Fnd} {g n cap : Nat} (h : Ak c W S (i ++ [p]) ans (.slice (some ⟨g, 0, none⟩) n cap)) :
    Ak c (W.setCell ⟨c.a, 2, none⟩ (.slice (some ⟨g, 0, none⟩) i.length cap)) S i ans (.slice (some ⟨g, 0, none⟩) i.length cap) := by
  have hlen : (i ++ [p]).length = i.length + 1 := by simp
  have hr := h.row
  obtain ⟨A', c', e⟩ := row_form hr
  have hn : n = (i ++ [p]).length := by cases e; rfl
  subst hn
  have hga := h.own g rfl
  have na := h.nmap c.a (Or.inl rfl)
  obtain ⟨A, k⟩ := h.book
  obtain ⟨m, k'⟩ := h.st
  have hblk := h.blk
  refine ⟨h.b.setCell hk.la _, ?_, ⟨A, k.keep (Below.heap_setCell _ _ _ _ hk.ab.symm) (Below.heap_setCell _ _ _ _ (fun e => na.2.1 e.symm)) (Below.heap_setCell _ _ _ _ (fun e => na.2.2 e.symm))⟩, ⟨m, k'.keep (Below.heap_setCell _ _ _ _ (fun e => na.1 e.symm))⟩, h.s2, ?_, fun x hx => h.wf x (by simp [hx]), ?_, fun b hb => h.own b hb, h.fk.keep (fun j hj _ => Below.heap_setCell _ _ _ _ (fun e => hk.fa (by have e2 : j = c.a := e; rw [← e2]; exact hj))), fun b hb => h.ownf b hb⟩
  · unfold aC at hblk ⊢
    simp [World.setCell, Array.getElem?_modify, hblk]
  · have := row_cut hr (k := i.length) (by simp)
    rw [rowC_take] at this
    exact row_keep this fun b hb => Below.heap_setCell _ _ _ _ (by cases hb; exact hga.1)
  · have := h.room
    rw [hlen] at this
    omega
end Go.Proofs.YtadkmlcnmkdfiaaGreatDoor
namespace Go.Proofs.YtadkmlcnmkdfiaaGreatDoor
open Go.RowKit Xp
set_option linter.unusedVariables false
set_option linter.unusedSimpArgs false

theorem size_op (W : World) : (sizeOf 145).run Tryz.prog W = .ok 9 W := by kernel_rfl
theorem slice_open (W : World) {g n cap k : Nat} (h : k ≤ cap) (h0 : 0 < cap) : (Instr.slice 109 (.slice (some ⟨g, 0, none⟩) n cap) none (some (.int .i64 (k : Nat))) none).run Tryz.prog W = .ok (.slice (some ⟨g, 0, none⟩) k cap) W := by
  have h1 : ((k : Nat) : Int) ≤ (cap : Nat) := by omega
  have h4 : ¬ cap = 0 := by omega
  simp [Instr.slice, Instr.sliceBounds, Instr.sliceBound, run_underlying under_ops, size_op, Result.andThen, asIntOf, h1, h, h4, Addr.add]
set_option maxRecDepth 100000 in
set_option maxHeartbeats 16000000 in
theorem goOn_next {c : Cx} (hk : c.ok) {W : World} {S : St} {i : List (Fr × Value)} {q : Qn} {e : En} {l : List En} {name : ByteArray} {ty : Bool} {fd ans : Fnd} {vl vo : Value} (h : Ak c W S (i ++ [(⟨q, e :: l, name, ty, fd⟩, vl)]) ans vo) :
    Calls Tryz.prog 57 #[.pointer (some ⟨c.a, 0, none⟩)] W fun x w' => x = .returned (.tuple #[]) ∧ ∃ S' op' ans' vo', Ak c w' S' op' ans' vo' ∧ StepR c S (i ++ [(⟨q, e :: l, name, ty, fd⟩, vl)]) ans S' op' ans' := by
  have hlen : (i ++ [((⟨q, e :: l, name, ty, fd⟩ : Fr), vl)]).length = i.length + 1 := by simp
  have hrow := h.row
  rw [hlen] at hrow
  obtain ⟨g, cap, rfl, hg, hcap⟩ := row_some hrow (by omega)
  have hroom : i.length + 1 ≤ 274877906944 := by have := h.room; rw [hlen] at this; have := hk.hU; omega
  have hfr := h.wf (⟨q, e :: l, name, ty, fd⟩, vl) (by simp)
  obtain ⟨b, o, cc, ee, hbB, hf⟩ := EnAt.cl hfr.e (by simp)
  simp only [List.length_cons] at ee
  subst ee
  have hl1 : l.length + 1 ≤ 1048576 := hfr.l
  have cell : ∀ (X : World) (hX : Ak c X S (i ++ [(⟨q, e :: l, name, ty, fd⟩, .slice (some ⟨b, o, none⟩) (l.length + 1) cc)]) ans (.slice (some ⟨g, 0, none⟩) (i.length + 1) cap)) (j : Nat), j < 9 → X.cell? ⟨g, i.length * 9 + j, none⟩ = (frC ⟨q, e :: l, name, ty, fd⟩ (.slice (some ⟨b, o, none⟩) (l.length + 1) cc))[j]? ∧ X.frozen? ⟨g, i.length * 9 + j, none⟩ = false := fun X hX j hj => by
    have hr := hX.row
    rw [show (i ++ [((⟨q, e :: l, name, ty, fd⟩ : Fr), (.slice (some ⟨b, o, none⟩) (l.length + 1) cc : Value))]).length = i.length + 1 by simp] at hr
    exact ⟨by rw [World.ownsRow.cellAt hr _ (by omega), rowC_at], World.ownsRow.frozenAt hr _⟩
  have hEt := EnAt.tail hfr.e
  have hZ := h.bel ((Below.refl _ W).alloc (Nat.le_refl _) (.cells #[.int .i64 0, .string ⟨#[]⟩] 69))
  have hQ := h.bel ((Below.refl _ W).alloc (Nat.le_refl _) (.cells #[.int .i64 e.mod, .string name] 69))
  have x2 := (cell W h 2 (by omega)).1
  have x3 := (cell W h 3 (by omega)).1
  have z2 := (cell _ hZ 2 (by omega)).1
  have z3 := (cell _ hZ 3 (by omega)).1
  obtain ⟨y2, y2'⟩ := cell _ hQ 2 (by omega)
  simp only [frC, List.getElem?_cons_succ, List.getElem?_cons_zero] at x2 x3 z2 z3 y2
  have f0 := (hf 0 (by simp)).2.2.1
  simp only [Nat.zero_mul, Nat.add_zero, List.getElem_cons_zero] at f0
  have fW : ∀ X, Ak c X S (i ++ [(⟨q, e :: l, name, ty, fd⟩, .slice (some ⟨b, o, none⟩) (l.length + 1) cc)]) ans (.slice (some ⟨g, 0, none⟩) (i.length + 1) cap) → X.cell? ⟨b, o + 2, none⟩ = some (.int .i64 e.mod) := fun X hX => (World.cell?_of_block (a := ⟨b, o + 2, none⟩) (hX.b.block b hbB)).trans f0
  have f1 := fW W h
  have f2 := fW _ hZ
  have hb := h.blk
  have hbZ := hZ.blk
  have hbQ := hQ.blk
  unfold aC at hb hbZ hbQ
  have hlt1 : ((i.length : Nat) : Int) < ((i.length : Nat) : Int) + 1 := by omega
  have hge : ((0 : Int)) ≤ ((i.length : Nat) : Int) := by omega
  have hroom' : ((i.length : Nat) : Int) + 1 ≤ 274877906944 := by omega
  have hl1' : ((l.length : Nat) : Int) + 1 ≤ 1048576 := by omega
  have hl0 : (0 : Int) < ((l.length : Nat) : Int) + 1 := by omega
  have hsl := fun X => slice_tail X (b := b) (o := o) (n := l.length + 1) (c := cc) (by omega)
  simp only [Nat.add_sub_cancel] at hsl
  obtain ⟨vt, hvt⟩ : ∃ v, (.slice (if cc = 1 then some ⟨b, o, none⟩ else some ⟨b, o + 5, none⟩) l.length (cc - 1) : Value) = v := ⟨_, rfl⟩
  have hone : ∃ ad n c', vt = .slice ad n c' := ⟨_, _, _, hvt.symm⟩
  rw [hvt] at hsl hEt
  obtain ⟨ad, n', c', rfl⟩ := hone
  clear hvt
  have k2 := hQ.left (.slice ad n' c') l hEt (by omega)
  have mq := heap_alloc_new W (.cells #[.int .i64 e.mod, .string name] 69)
  have hgW : W.heap.size ≠ g := fun e' => (h.far (Nat.le_refl W.heap.size)).2.2.2.2.2 (by rw [← e']; rfl)
  have nq : ((W.alloc (.cells #[.int .i64 e.mod, .string name] 69)).setCell ⟨g, i.length * 9 + 2, none⟩ (.slice ad n' c')).heap[W.heap.size]? = some (.cells #[.int .i64 e.mod, .string name] 69 (0, 0)) := (Below.heap_setCell _ _ _ _ hgW).trans mq
  have C := ask_any hk k2.drew (e.mod, name) hfr.n
  obtain ⟨⟨_, _, _, _, _, _, _⟩, _, _, _, _, _⟩ := t7 hb
  obtain ⟨⟨_, _, _, _, _, _, _⟩, _, _, _, _, _⟩ := t7 hbZ
  obtain ⟨⟨_, _, _, _, _, _, _⟩, _, _, _, _, _⟩ := t7 hbQ
  obtain ⟨⟨_, _⟩, _, _⟩ := t2 nq
  clear cell fW hf hlen hEt
  go_enter Tryz.func57, Tryz.ntmps57
  go_wp2_with fail
  go_region
  all_goals
    clear hroom hroom' hlt1 hge hcap hl1 hl1' hl0
    go_wp2_with (go_at_call 56; refine C.mono ?_; rintro ex W3 ⟨rfl, S', op', ans', vo', k3, r3⟩)
    refine bodyPost_ret (results_none rfl _ _ _) rfl ?_
    exact ⟨rfl, S', op', ans', vo', k3, StepR.next r3⟩
set_option maxRecDepth 100000 in
set_option maxHeartbeats 16000000 in
theorem goOn_end {c : Cx} (hk : c.ok) {W : World} {S : St} {i : List (Fr × Value)} {q : Qn} {name : ByteArray} {ty : Bool} {fd ans : Fnd} {vl vo : Value} (h : Ak c W S (i ++ [(⟨q, [], name, ty, fd⟩, vl)]) ans vo) :
    Calls Tryz.prog 57 #[.pointer (some ⟨c.a, 0, none⟩)] W fun x w' => x = .returned (.tuple #[]) ∧ ∃ S' op' ans' vo', Ak c w' S' op' ans' vo' ∧ StepR c S (i ++ [(⟨q, [], name, ty, fd⟩, vl)]) ans S' op' ans' := by
  have hlen : (i ++ [((⟨q, [], name, ty, fd⟩ : Fr), vl)]).length = i.length + 1 := by simp
  have hrow := h.row
  rw [hlen] at hrow
  obtain ⟨g, cap, rfl, hg, hcap⟩ := row_some hrow (by omega)
  have hroom : i.length + 1 ≤ 274877906944 := by have := h.room; rw [hlen] at this; have := hk.hU; omega
  have hfr := h.wf (⟨q, [], name, ty, fd⟩, vl) (by simp)
  obtain ⟨ad0, cc, ee⟩ := EnAt.op hfr.e
  simp only [List.length_nil] at ee
  subst ee
  have HK3 : Hid (fd.k ≠ 3) := hfr.k
  have HC : Hid (∀ (X : World) (hX : Ak c X S (i ++ [(⟨q, [], name, ty, fd⟩, .slice ad0 0 cc)]) ans (.slice (some ⟨g, 0, none⟩) (i.length + 1) cap)), (X.cell? ⟨g, i.length * 9, none⟩ = some (.int .i64 q.1) ∧ X.cell? ⟨g, i.length * 9 + 1, none⟩ = some (.string q.2) ∧ X.cell? ⟨g, i.length * 9 + 2, none⟩ = some (.slice ad0 0 cc) ∧ X.cell? ⟨g, i.length * 9 + 4, none⟩ = some (.bool ty) ∧ X.cell? ⟨g, i.length * 9 + 5, none⟩ = some (.int .i64 fd.k) ∧ X.cell? ⟨g, i.length * 9 + 6, none⟩ = some (.int .i64 fd.mod) ∧ X.cell? ⟨g, i.length * 9 + 7, none⟩ = some (.string fd.name) ∧ X.cell? ⟨g, i.length * 9 + 8, none⟩ = some (.bool fd.ty))) := fun X hX => by
    have hr := hX.row
    rw [show (i ++ [((⟨q, [], name, ty, fd⟩ : Fr), (.slice ad0 0 cc : Value))]).length = i.length + 1 by simp] at hr
    have cl : ∀ j, j < 9 → X.cell? ⟨g, i.length * 9 + j, none⟩ = (frC ⟨q, [], name, ty, fd⟩ (.slice ad0 0 cc))[j]? := fun j hj => by rw [World.ownsRow.cellAt hr _ (by omega), rowC_at]
    exact ⟨cl 0 (by omega), cl 1 (by omega), cl 2 (by omega), cl 4 (by omega), cl 5 (by omega), cl 6 (by omega), cl 7 (by omega), cl 8 (by omega)⟩
  have HA : Hid (∀ X, Below W.heap.size W X → Ak c X S (i ++ [(⟨q, [], name, ty, fd⟩, .slice ad0 0 cc)]) ans (.slice (some ⟨g, 0, none⟩) (i.length + 1) cap)) := fun X b => h.bel b
  obtain ⟨x0, x1, x2, x4, x5, x6, x7, x8⟩ := HC.out W h
  have hb := h.blk
  unfold aC at hb
  have hlt1 : ((i.length : Nat) : Int) < ((i.length : Nat) : Int) + 1 := by omega
  have hge : ((0 : Int)) ≤ ((i.length : Nat) : Int) := by omega
  have hroom' : ((i.length : Nat) : Int) + 1 ≤ 274877906944 := by omega
  have hsl := fun X => slice_open X (g := g) (n := i.length + 1) (cap := cap) (k := i.length) (by omega) (by omega)
  have CL := fun X => leads_any X fd
  have HL : Hid _ := CL
  clear CL
  obtain ⟨⟨_, _, _, _, _, _, _⟩, _, _, _, _, _⟩ := t7 hb
  have HH : Hid (Ak c W S (i ++ [(⟨q, [], name, ty, fd⟩, .slice ad0 0 cc)]) ans (.slice (some ⟨g, 0, none⟩) (i.length + 1) cap)) := h
  clear hlen
  go_enter Tryz.func57, Tryz.ntmps57
  obtain ⟨_, _, _, _, _, _, _, _⟩ := HC.out _ (HA.out (W.alloc (.cells #[.int .i64 0, .string ⟨#[]⟩] 69)) ((Below.refl _ W).alloc (Nat.le_refl _) _))
  obtain ⟨_, _, _, _, _, _, _, _⟩ := HC.out _ (HA.out (W.alloc (.cells #[.int .i64 0, .int .i64 0, .string ⟨#[]⟩, .bool false] 41)) ((Below.refl _ W).alloc (Nat.le_refl _) _))
  obtain ⟨_, _, _, _, _, _, _, _⟩ := HC.out _ (HA.out ((W.alloc (.cells #[.int .i64 0, .string ⟨#[]⟩] 69)).alloc (.cells #[.int .i64 0, .int .i64 0, .string ⟨#[]⟩, .bool false] 41)) (((Below.refl _ W).alloc (Nat.le_refl _) _).alloc (by simp) _))
  obtain ⟨_, _, _, _, _, _, _, _⟩ := HC.out _ (HA.out ((W.alloc (.cells #[.int .i64 0, .int .i64 0, .string ⟨#[]⟩, .bool false] 41)).alloc (.cells #[.int .i64 0, .string ⟨#[]⟩] 69)) (((Below.refl _ W).alloc (Nat.le_refl _) _).alloc (by simp) _))
  obtain ⟨_, _, _, _, _, _, _, _⟩ := HC.out _ (HA.out (W.alloc (.cells #[.int .i64 q.1, .string q.2] 69)) ((Below.refl _ W).alloc (Nat.le_refl _) _))
  obtain ⟨_, _, _, _, _, _, _, _⟩ := HC.out _ (HA.out (W.alloc (.cells #[.int .i64 fd.k, .int .i64 fd.mod, .string fd.name, .bool fd.ty] 41)) ((Below.refl _ W).alloc (Nat.le_refl _) _))
  obtain ⟨_, _, _, _, _, _, _, _⟩ := HC.out _ (HA.out ((W.alloc (.cells #[.int .i64 q.1, .string q.2] 69)).alloc (.cells #[.int .i64 0, .int .i64 0, .string ⟨#[]⟩, .bool false] 41)) (((Below.refl _ W).alloc (Nat.le_refl _) _).alloc (by simp) _))
  obtain ⟨_, _, _, _, _, _, _, _⟩ := HC.out _ (HA.out ((W.alloc (.cells #[.int .i64 0, .int .i64 0, .string ⟨#[]⟩, .bool false] 41)).alloc (.cells #[.int .i64 q.1, .string q.2] 69)) (((Below.refl _ W).alloc (Nat.le_refl _) _).alloc (by simp) _))
  obtain ⟨_, _, _, _, _, _, _, _⟩ := HC.out _ (HA.out ((W.alloc (.cells #[.int .i64 0, .string ⟨#[]⟩] 69)).alloc (.cells #[.int .i64 fd.k, .int .i64 fd.mod, .string fd.name, .bool fd.ty] 41)) (((Below.refl _ W).alloc (Nat.le_refl _) _).alloc (by simp) _))
  obtain ⟨_, _, _, _, _, _, _, _⟩ := HC.out _ (HA.out ((W.alloc (.cells #[.int .i64 fd.k, .int .i64 fd.mod, .string fd.name, .bool fd.ty] 41)).alloc (.cells #[.int .i64 0, .string ⟨#[]⟩] 69)) (((Below.refl _ W).alloc (Nat.le_refl _) _).alloc (by simp) _))
  go_upto_region 6 with fail
  go_cut [5, 6] (fun u5 u6 X => ∃ p r, u5 = .pointer (some ⟨p, 0, none⟩) ∧ u6 = .pointer (some ⟨r, 0, none⟩) ∧ p ≠ r ∧ W.heap.size ≤ p ∧ W.heap.size ≤ r ∧ Below W.heap.size W X ∧ X.heap[p]? = some (.cells #[.int .i64 q.1, .string q.2] 69 (0, 0)) ∧ X.heap[r]? = some (.cells #[.int .i64 fd.k, .int .i64 fd.mod, .string fd.name, .bool fd.ty] 41 (0, 0)))
  case first =>
    go_region
    all_goals
      go_wp2_with fail
      go_meet
      first
        | exact ⟨W.heap.size, W.heap.size + 1, rfl, rfl, by omega, by omega, by omega, ((((Below.refl _ W).alloc (Nat.le_refl _) _).alloc (by simp) _).drew), (Below.heap_alloc _ _ _ (by simp)).trans (heap_alloc_new W _), hnewX _ (by simp)⟩
        | exact ⟨W.heap.size + 1, W.heap.size, rfl, rfl, by omega, by omega, by omega, ((((Below.refl _ W).alloc (Nat.le_refl _) _).alloc (by simp) _).drew), hnewX _ (by simp), (Below.heap_alloc _ _ _ (by simp)).trans (heap_alloc_new W _)⟩
  case rest =>
    obtain ⟨p, r, rfl, rfl, hpr, hp, hr, bX, mp, mr⟩ := hcut
    have kX := HA.out _ bX
    obtain ⟨y0, y1, y2, y4, y5, y6, y7, y8⟩ := HC.out _ kX
    have hbX := kX.blk
    unfold aC at hbX
    have hrl := (Array.getElem?_eq_some_iff.1 mr).1
    have hpl := (Array.getElem?_eq_some_iff.1 mp).1
    have hfr := HH.out.far hr
    obtain ⟨⟨_, _⟩, _, _⟩ := t2 mp
    obtain ⟨⟨_, _, _, _⟩, _, _, _, _⟩ := t4 mr
    -- behind the type is set
    have HY : Hid (∀ (X : World) (t : Bool), Below wc.heap.size wc X → Ak c (X.setCell ⟨r, 3, none⟩ (.bool t)) S (i ++ [(⟨q, [], name, ty, fd⟩, .slice ad0 0 cc)]) ans (.slice (some ⟨g, 0, none⟩) (i.length + 1) cap) ∧ (X.setCell ⟨r, 3, none⟩ (.bool t)).heap[p]? = some (.cells #[.int .i64 q.1, .string q.2] 69 (0, 0)) ∧ (X.setCell ⟨r, 3, none⟩ (.bool t)).heap[r]? = some (.cells #[.int .i64 fd.k, .int .i64 fd.mod, .string fd.name, .bool t] 41 (0, 0))) := fun X t b =>
      ⟨((kX.bel b).set (p := ⟨r, 3, none⟩) (Nat.le_trans HH.out.hB hr) hfr (HH.out.farf hr) _), (Below.heap_setCell _ _ _ _ hpr).trans ((b.block _ hpl).trans mp), t4_set3 _ ((b.block _ hrl).trans mr)⟩
    clear hroom hroom' hlt1 hge
    have HQ : Hid (∀ (X : World) (t : Bool), (clo ty fd).ty = t → Below wc.heap.size wc X → Calls Tryz.prog 84 #[.pointer (some ⟨c.a, 0, none⟩), .agg #[.int .i64 q.1, .string q.2], .agg #[.int .i64 fd.k, .int .i64 fd.mod, .string fd.name, .bool t]] ((X.setCell ⟨r, 3, none⟩ (.bool t)).setCell ⟨c.a, 2, none⟩ (.slice (some ⟨g, 0, none⟩) i.length cap)) fun x w' => x = .returned (.tuple #[]) ∧ ∃ S' op' ans' vo', Ak c w' S' op' ans' vo' ∧ StepR c S (i ++ [(⟨q, [], name, ty, fd⟩, .slice ad0 0 cc)]) ans S' op' ans') := fun X t ht b => by
      subst ht
      refine (end_any hk ((HY.out X _ b).1.pop hk) q (clo ty fd)).mono ?_
      rintro x w' ⟨h1, op', ans', vo', h2, h3⟩
      exact ⟨h1, _, op', ans', vo', h2, StepR.endd HK3.out h3⟩
    have HZ : Hid (∀ (X : World) (t : Bool), Below wc.heap.size wc X → ((X.setCell ⟨r, 3, none⟩ (.bool t)).setCell ⟨c.a, 2, none⟩ (.slice (some ⟨g, 0, none⟩) i.length cap)).heap[p]? = some (.cells #[.int .i64 q.1, .string q.2] 69 (0, 0)) ∧ ((X.setCell ⟨r, 3, none⟩ (.bool t)).setCell ⟨c.a, 2, none⟩ (.slice (some ⟨g, 0, none⟩) i.length cap)).heap[r]? = some (.cells #[.int .i64 fd.k, .int .i64 fd.mod, .string fd.name, .bool t] 41 (0, 0))) := fun X t b =>
      ⟨(Below.heap_setCell _ _ _ _ (HH.out.far hp).1).trans (HY.out X t b).2.1, (Below.heap_setCell _ _ _ _ hfr.1).trans (HY.out X t b).2.2⟩
    have HX7 : Hid (∀ (X : World) (t : Bool), Below wc.heap.size wc X → (X.setCell ⟨r, 3, none⟩ (.bool t)).heap[c.a]? = some (.cells (aC c (.slice (some ⟨g, 0, none⟩) (i.length + 1) cap) ans) 111 (0, 0))) := fun X t b => (HY.out X t b).1.blk
    have HBL : Hid (∀ X, Below wc.heap.size wc X → X.heap[r]? = some (.cells #[.int .i64 fd.k, .int .i64 fd.mod, .string fd.name, .bool fd.ty] 41 (0, 0))) := fun X b => (b.block _ hrl).trans mr
    cases ht : fd.ty with
    | true =>
      have hq := HQ.out wc true (by simp [clo, ht]) (Below.refl _ _)
      obtain ⟨z1, z2⟩ := HZ.out wc true (Below.refl _ _)
      have z3 := HX7.out wc true (Below.refl _ _)
      unfold aC at z3
      obtain ⟨⟨_, _⟩, _, _⟩ := t2 z1
      obtain ⟨⟨_, _, _, _⟩, _, _, _, _⟩ := t4 z2
      obtain ⟨⟨_, _, _, _, _, _, _⟩, _, _, _, _, _⟩ := t7 z3
      go_wp2_with (go_at_call 84; refine hq.mono ?_; rintro ex W3 ⟨rfl, S', op', ans', vo', k3, r3⟩)
      go_end0
      exact ⟨rfl, S', op', ans', vo', k3, r3⟩
    | false =>
      cases ty with
      | false =>
        have hq := HQ.out wc false (by simp [clo, ht]) (Below.refl _ _)
        obtain ⟨z1, z2⟩ := HZ.out wc false (Below.refl _ _)
        have z3 := HX7.out wc false (Below.refl _ _)
        unfold aC at z3
        obtain ⟨⟨_, _⟩, _, _⟩ := t2 z1
        obtain ⟨⟨_, _, _, _⟩, _, _, _, _⟩ := t4 z2
        obtain ⟨⟨_, _, _, _, _, _, _⟩, _, _, _, _, _⟩ := t7 z3
        go_wp2_with (go_at_call 84; refine hq.mono ?_; rintro ex W3 ⟨rfl, S', op', ans', vo', k3, r3⟩)
        go_end0
        exact ⟨rfl, S', op', ans', vo', k3, r3⟩
      | true =>
        obtain ⟨lv, hlv⟩ : ∃ b, leads fd = b := ⟨_, rfl⟩
        have HLV : Hid (leads fd = lv) := hlv
        have CL := HL.out wc
        rw [hlv, ht] at CL
        clear hlv
        go_wp2_with fail
        go_at_call 40
        refine CL.mono ?_
        rintro ex W2 ⟨rfl, b2⟩
        have hq := HQ.out W2 lv (by simp [clo, ht, HLV.out]) b2
        obtain ⟨z1, z2⟩ := HZ.out W2 lv b2
        have z3 := HX7.out W2 lv b2
        unfold aC at z3
        obtain ⟨⟨_, _⟩, _, _⟩ := t2 z1
        obtain ⟨⟨_, _, _, _⟩, _, _, _, _⟩ := t4 z2
        obtain ⟨⟨_, _, _, _, _, _, _⟩, _, _, _, _, _⟩ := t7 z3
        obtain ⟨⟨_, _, _, _⟩, _, _, _, _⟩ := t4 (HBL.out _ b2)
        go_wp2_with (go_at_call 84; refine hq.mono ?_; rintro ex W3 ⟨rfl, S', op', ans', vo', k3, r3⟩)
        go_end0
        exact ⟨rfl, S', op', ans', vo', k3, r3⟩
end Go.Proofs.YtadkmlcnmkdfiaaGreatDoor
namespace Go.Proofs.YtadkmlcnmkdfiaaGreatDoor
open Go.RowKit Xp
set_option linter.unusedVariables false
set_option linter.unusedSimpArgs false

theorem goOn_any {c : Cx} (hk : c.ok) {W : World} {S : St} {op : List (Fr × Value)} {ans : Fnd} {vo : Value} (h : Ak c W S op ans vo) (hne : op ≠ []) :
    Calls Tryz.prog 57 #[.pointer (some ⟨c.a, 0, none⟩)] W fun x w' => x = .returned (.tuple #[]) ∧ ∃ S' op' ans' vo', Ak c w' S' op' ans' vo' ∧ StepR c S op ans S' op' ans' := by
  rcases List.eq_nil_or_concat op with rfl | ⟨i, p, rfl⟩
  · exact absurd rfl hne
  · obtain ⟨⟨q, left, name, ty, fd⟩, vl⟩ := p
    rw [List.concat_eq_append] at h ⊢
    cases left with
    | nil => exact goOn_end hk h
    | cons e l => exact goOn_next hk h
def st0 : St := fun _ => 0
/-- what an export leads to. -/
def rsv (L : List Es) (q : Qn) : Fnd := (Xp.ask L q.2 st0 q).1
theorem t4v {w : World} {b : Nat} {p q r s : Value} {t : TypeId} (h : w.heap[b]? = some (.cells #[p, q, r, s] t (0, 0))) : w.cell? ⟨b, 0, none⟩ = some p ∧ w.cell? ⟨b, 1, none⟩ = some q ∧ w.cell? ⟨b, 2, none⟩ = some r ∧ w.cell? ⟨b, 3, none⟩ = some s := (t4 h).1
set_option maxRecDepth 100000 in
set_option maxHeartbeats 16000000 in
theorem resolve_any {w0 W : World} {bk mA mG : Nat} {v : Value} {L : List Es} {A : Int → Option Int} (hv : MsAt w0 w0.heap.size v L) (b0 : Below w0.heap.size w0 W) (hb : Bk W bk mA mG v L A) (lb : w0.heap.size ≤ bk) (lA : w0.heap.size ≤ mA) (lG : w0.heap.size ≤ mG)
    (hL : L.length ≤ 1048576) (hE : ∀ e ∈ L, e.own.length ≤ 1048576 ∧ e.oth.length ≤ 1048576 ∧ e.st.length ≤ 1048576) (q : Qn) (hU : (Uni L (Nms L q.2)).length ≤ 274877906944) :
    Calls Tryz.prog 33 #[.pointer (some ⟨bk, 0, none⟩), .agg #[.int .i64 q.1, .string q.2]] W fun e w' => e = .returned (.agg #[.int .i64 (rsv L q).k, .int .i64 (rsv L q).mod, .string (rsv L q).name, .bool (rsv L q).ty]) ∧ (∃ A', Bk w' bk mA mG v L A') ∧ Below w0.heap.size w0 w' ∧ ∀ j, j < W.heap.size → j ≠ mA → j ≠ mG → w'.heap[j]? = W.heap[j]? := by
  obtain ⟨hl1, hl2, hl3⟩ := hb.lt
  obtain ⟨w1, hw1⟩ : ∃ X, (W.alloc (.cells #[.int .i64 q.1, .string q.2] 69)).alloc (.cells #[.int .i64 0, .int .i64 0, .string ⟨#[]⟩, .bool false] 41) = X := ⟨_, rfl⟩
  have s1 : w1.heap.size = W.heap.size + 1 + 1 := by rw [← hw1]; simp
  have b1 : Below W.heap.size W w1 := by rw [← hw1]; exact ((Below.refl _ _).alloc (Nat.le_refl _) _).alloc (by simp) _
  have m0 : w1.heap[W.heap.size]? = some (.cells #[.int .i64 q.1, .string q.2] 69 (0, 0)) := by rw [← hw1, Below.heap_alloc _ _ _ (by simp)]; exact heap_alloc_new W _
  have m1 : w1.heap[W.heap.size + 1]? = some (.cells #[.int .i64 0, .int .i64 0, .string ⟨#[]⟩, .bool false] 41 (0, 0)) := by rw [← hw1]; exact hnewX _ (by simp)
  obtain ⟨w3, hw3⟩ : ∃ X, (w1.alloc (.map #[] 0)).alloc (.cells #[.pointer (some ⟨bk, 0, none⟩), .map (some w1.heap.size), .slice none 0 0, .int .i64 0, .int .i64 0, .string ⟨#[]⟩, .bool false] 111) = X := ⟨_, rfl⟩
  have s3 : w3.heap.size = w1.heap.size + 1 + 1 := by rw [← hw3]; simp
  have b3 : Below w1.heap.size w1 w3 := by rw [← hw3]; exact ((Below.refl _ _).alloc (Nat.le_refl _) _).alloc (by simp) _
  have mS : MF (fun _ => True) qv (fun x : Nat => .int .i64 (x : Nat)) w3 w1.heap.size 0 (stO st0) := by
    have h1 : MF (fun _ => True) qv (fun x : Nat => .int .i64 (x : Nat)) (w1.alloc (.map #[] 0)) w1.heap.size 0 (fun _ => none) := MF.nil w1
    have h2 := h1.keep (w' := w3) (by rw [← hw3, Below.heap_alloc _ _ _ (by simp)])
    exact h2
  have ma : w3.heap[w1.heap.size + 1]? = some (.cells #[.pointer (some ⟨bk, 0, none⟩), .map (some w1.heap.size), .slice none 0 0, .int .i64 0, .int .i64 0, .string ⟨#[]⟩, .bool false] 111 (0, 0)) := by rw [← hw3]; exact hnewX _ (by simp)
  have hz := b0.size
  obtain ⟨c, hc⟩ : ∃ c : Cx, c = ⟨w0, v, L, q.2, w1.heap.size + 1, bk, w1.heap.size, mA, mG, fun j => j = W.heap.size + 1 ∨ (j < W.heap.size ∧ j ≠ mA ∧ j ≠ mG), w1⟩ := ⟨_, rfl⟩
  have hk : c.ok := by
    subst hc
    exact ⟨hv, hL, hE, hU, by show w0.heap.size ≤ w1.heap.size + 1; omega, lb, by show w0.heap.size ≤ w1.heap.size; omega, lA, lG, by show w1.heap.size + 1 ≠ bk; omega, by show w1.heap.size ≠ mA; omega, by show w1.heap.size ≠ mG; omega, by show ¬ (w1.heap.size + 1 = W.heap.size + 1 ∨ (w1.heap.size + 1 < W.heap.size ∧ w1.heap.size + 1 ≠ mA ∧ w1.heap.size + 1 ≠ mG)); omega, by show ¬ (w1.heap.size = W.heap.size + 1 ∨ (w1.heap.size < W.heap.size ∧ w1.heap.size ≠ mA ∧ w1.heap.size ≠ mG)); omega, by show ¬ (mA = W.heap.size + 1 ∨ (mA < W.heap.size ∧ mA ≠ mA ∧ mA ≠ mG)); omega, by show ¬ (mG = W.heap.size + 1 ∨ (mG < W.heap.size ∧ mG ≠ mA ∧ mG ≠ mG)); omega⟩
  have hA : Ak c w3 st0 [] fd0 (.slice none 0 0) := by
    subst hc
    refine ⟨(b0.trans (b1.mono hz)).trans (b3.mono (by omega)), ma, ⟨A, (hb.bel b1).bel b3⟩, ⟨0, mS⟩, fun _ => by simp [st0], World.ownsRow_nil _ _ _ _, by simp, by have := un_le (Uni L (Nms L q.2)) st0; simpa using this, (fun b h => by cases h), (fun j hj => by have hj' : j = W.heap.size + 1 ∨ (j < W.heap.size ∧ j ≠ mA ∧ j ≠ mG) := hj; exact ⟨b3.block j (by omega), by omega⟩), (fun b h => by cases h)⟩
  have n0 : w3.heap[W.heap.size]? = some (.cells #[.int .i64 q.1, .string q.2] 69 (0, 0)) := (b3.block _ (by omega)).trans m0
  have C := ask_any hk hA q (by subst hc; simp [Nms])
  have ca : c.a = w1.heap.size + 1 := by rw [hc]
  have cf : c.fw = w1 := by rw [hc]
  have HFR : Hid (∀ (X : World) (S : St) (op : List (Fr × Value)) (ans : Fnd) (vo : Value), Ak c X S op ans vo → ∀ j, j < W.heap.size → j ≠ mA → j ≠ mG → X.heap[j]? = W.heap[j]?) := fun X S op ans vo hX j h1 h2 h3 => by
    have h4 := (hX.fk j (by rw [hc]; exact Or.inr ⟨h1, h2, h3⟩)).1
    rw [cf] at h4
    exact h4.trans (b1.block j h1)
  have HV : Hid (rsv L q = handV (Xp.ask c.L c.n0) (Xp.ask c.L c.n0 st0 q).2 (stk []) (Xp.ask c.L c.n0 st0 q).1) := by subst hc; rfl
  have HBK : Hid (∀ (X : World) (S : St) (op : List (Fr × Value)) (ans : Fnd) (vo : Value), Ak c X S op ans vo → (∃ A', Bk X bk mA mG v L A') ∧ Below w0.heap.size w0 X) := fun X S op ans vo hX => by
    have h1 := hX.book
    have h2 := hX.b
    subst hc
    exact ⟨h1, h2⟩
  have HW0 : Hid (w0.heap.size ≤ W.heap.size) := hz
  have HQ : Hid (∀ (X : World) (S : St) (op : List (Fr × Value)) (ans : Fnd) (vo : Value), Ak c X S op ans vo → X.heap[w1.heap.size + 1]? = some (.cells (aC c vo ans) 111 (0, 0)) ∧ X.heap[W.heap.size + 1]? = some (.cells #[.int .i64 0, .int .i64 0, .string ⟨#[]⟩, .bool false] 41 (0, 0))) := fun X S op ans vo hX => by
    have h1 := hX.blk
    have h2 := (hX.fk (W.heap.size + 1) (by rw [hc]; exact Or.inl rfl)).1
    rw [ca] at h1
    rw [cf] at h2
    exact ⟨h1, h2.trans m1⟩
  have HG : Hid (∀ (X : World) (S : St) (op : List (Fr × Value)) (ans : Fnd) (vo : Value), Ak c X S op ans vo → op ≠ [] → Calls Tryz.prog 57 #[.pointer (some ⟨w1.heap.size + 1, 0, none⟩)] X fun x w' => x = .returned (.tuple #[]) ∧ ∃ S' op' ans' vo', Ak c w' S' op' ans' vo' ∧ StepR c S op ans S' op' ans') := fun X S op ans vo hX hne => by
    have := goOn_any hk hX hne
    rwa [ca] at this
  have HLN : Hid (∀ (X : World) (S : St) (op : List (Fr × Value)) (ans : Fnd) (vo : Value), Ak c X S op ans vo → op.length ≤ 274877906944) := fun X S op ans vo hX => by
    have := hX.room
    have := hk.hU
    omega
  rw [ca] at C
  have HSZ : Hid (∀ (X : World), Below w0.heap.size w0 X → ∀ p q x y, Below w0.heap.size w0 ((((X.setCell ⟨W.heap.size + 1, 0, none⟩ p).setCell ⟨W.heap.size + 1, 1, none⟩ q).setCell ⟨W.heap.size + 1, 2, none⟩ x).setCell ⟨W.heap.size + 1, 3, none⟩ y)) := fun X b p q x y => by
    have h1 : w0.heap.size ≤ W.heap.size + 1 := by omega
    exact (((b.setCell h1 _).setCell h1 _).setCell h1 _).setCell h1 _
  have HBS : Hid (∀ (X : World) (A' : Int → Option Int), Bk X bk mA mG v L A' → ∀ p q x y, Bk ((((X.setCell ⟨W.heap.size + 1, 0, none⟩ p).setCell ⟨W.heap.size + 1, 1, none⟩ q).setCell ⟨W.heap.size + 1, 2, none⟩ x).setCell ⟨W.heap.size + 1, 3, none⟩ y) bk mA mG v L A') := fun X A' k p q x y => by
    have sm : ∀ b, b < W.heap.size → ((((X.setCell ⟨W.heap.size + 1, 0, none⟩ p).setCell ⟨W.heap.size + 1, 1, none⟩ q).setCell ⟨W.heap.size + 1, 2, none⟩ x).setCell ⟨W.heap.size + 1, 3, none⟩ y).heap[b]? = X.heap[b]? := fun b hb => by
      have hn : b ≠ W.heap.size + 1 := by omega
      rw [Below.heap_setCell _ _ _ _ hn, Below.heap_setCell _ _ _ _ hn, Below.heap_setCell _ _ _ _ hn, Below.heap_setCell _ _ _ _ hn]
    exact k.keep (sm _ hl1) (sm _ hl2) (sm _ hl3)
  obtain ⟨⟨_, _⟩, _, _⟩ := t2 n0
  have hmm := @run_makeMap Tryz.prog
  clear hk hA ma mS m0 m1 s1 s3 b1 b3 hb b0 hv hE hU cf ca hz lb lA lG
  go_enter Tryz.func33, Tryz.ntmps33
  go_wp2_with fail
  go_at_call 56
  refine C.mono ?_
  rintro ex W4 ⟨rfl, S1, op1, ans1, vo1, k1, r1⟩
  go_wp2_with fail
  go_loopg [18] (mu c.U 1048578 S1 (stk op1)) (fun gk u18 wr => ∃ (S : St) (op : List (Fr × Value)) (ans : Fnd) (vo : Value), Ak c wr S op ans vo ∧ Hid (VV (Xp.ask c.L c.n0) S (stk op) ans = rsv L q) ∧ Hid (mu c.U 1048578 S (stk op) ≤ gk))
  case atStart => exact ⟨S1, op1, ans1, vo1, k1, by show _ = _; rw [r1.v, HV.out], Nat.le_refl _⟩
  case round =>
    obtain ⟨S, op, ans, vo, hX, hv, hm⟩ := hrel
    obtain ⟨x1, x2⟩ := HQ.out _ _ _ _ _ hX
    unfold aC at x1
    have hol := HLN.out _ _ _ _ _ hX
    obtain ⟨ad, cap, rfl⟩ := row_form hX.row
    obtain ⟨⟨_, _, _, _, _, _, _⟩, _, _, _, _, _⟩ := t7 x1
    obtain ⟨⟨_, _, _, _⟩, _, _, _, _⟩ := t4 x2
    by_cases hne : op = []
    · subst hne
      have HVA : Hid (ans = rsv L q) := hv.out
      obtain ⟨⟨A', hB'⟩, hbel⟩ := HBK.out _ _ _ _ _ hX
      have HFX : Hid _ := HFR.out _ _ _ _ _ hX
      clear hol
      go_wp2
      refine bodyPost_ret (res_f4 Tryz.results33 (t4_set _ _ _ _ x2) rfl) rfl ?_
      refine ⟨by rw [← HVA.out], ⟨A', HBS.out _ _ hB' _ _ _ _⟩, HSZ.out _ hbel _ _ _ _, fun j h1 h2 h3 => ?_⟩
      have hn : j ≠ W.heap.size + 1 := by omega
      rw [Below.heap_setCell _ _ _ _ hn, Below.heap_setCell _ _ _ _ hn, Below.heap_setCell _ _ _ _ hn, Below.heap_setCell _ _ _ _ hn]
      exact HFX.out j h1 h2 h3
    · have hpos : (0 : Int) < ((op.length : Nat) : Int) := by have := List.length_pos_iff.2 hne; omega
      have CG := HG.out _ _ _ _ _ hX hne
      clear hne hol
      go_wp2_with (go_at_call 57; refine CG.mono ?_; rintro ex W5 ⟨rfl, S', op', ans', vo', k5, r5⟩)
      have hlt := r5.m
      have hmo := hm.out
      go_roundg (gk - 1)
      case rel => exact ⟨S', op', ans', vo', k5, by show _ = _; rw [r5.v]; exact hv.out, by show _ ≤ _; omega⟩
      case measure => omega
end Go.Proofs.YtadkmlcnmkdfiaaGreatDoor
