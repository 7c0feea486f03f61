/- Own text. The document's Resolve: what was asked, as a list; mathematics and memory. The document's Resolve: stars, if what they ask is known. -/
import Derived.Test.YtadkmlcnmkdfiaaGreatDoorGpC
namespace Go.Proofs.YtadkmlcnmkdfiaaGreatDoor
open Go.RowKit Xp
set_option linter.unusedVariables false
set_option linter.unusedSimpArgs false

/-- what was asked, as a list. -/
def stA (A : List (Qn × Bool)) : St := fun q => match A.find? (fun x => decide (x.1 = q)) with
  | none => 0
  | some x => if x.2 then 1 else 2
theorem stA_none {A : List (Qn × Bool)} {q : Qn} (h : ∀ x ∈ A, x.1 ≠ q) : stA A q = 0 := by
  have : A.find? (fun x => decide (x.1 = q)) = none := List.find?_eq_none.2 fun x hx => by simpa using h x hx
  unfold stA; rw [this]
theorem stA_some {A : List (Qn × Bool)} {k : Nat} (hk : k < A.length) (h : ∀ j (hj : j < A.length), j < k → A[j].1 ≠ A[k].1) : stA A A[k].1 = if A[k].2 then 1 else 2 := by
  have : A.find? (fun x => decide (x.1 = A[k].1)) = some A[k] := List.find?_eq_some_iff_getElem.2 ⟨by simp, k, hk, rfl, fun j hj => by simpa using h j (by omega) hj⟩
  unfold stA; rw [this]
theorem stA_zero {A : List (Qn × Bool)} {q : Qn} (h : stA A q = 0) : ∀ x ∈ A, x.1 ≠ q := fun x hx e => by
  unfold stA at h
  cases hf : A.find? (fun x => decide (x.1 = q)) with
  | none => exact absurd (List.find?_eq_none.1 hf x hx) (by simp [e])
  | some y => rw [hf] at h; simp only at h; split at h <;> cases h
theorem stA_push {A : List (Qn × Bool)} {q : Qn} (h : stA A q = 0) : stA (A ++ [(q, true)]) = (stA A).set q 1 := by
  funext p
  unfold stA St.set
  rw [List.find?_append]
  by_cases e : p = q
  · subst e
    have : A.find? (fun x => decide (x.1 = p)) = none := List.find?_eq_none.2 fun x hx => by simpa using stA_zero h x hx
    simp [this]
  · have e' : ¬ q = p := fun e2 => e e2.symm
    cases hf : A.find? (fun x => decide (x.1 = p)) <;> simp [hf, e, e']
theorem stA_close {A B : List (Qn × Bool)} {q : Qn} (h : ∀ x ∈ A, x.1 ≠ q) : stA (A ++ (q, false) :: B) = (stA (A ++ (q, true) :: B)).set q 2 := by
  funext p
  unfold stA St.set
  simp only [List.find?_append]
  by_cases e : p = q
  · subst e
    have : A.find? (fun x => decide (x.1 = p)) = none := List.find?_eq_none.2 fun x hx => by simpa using h x hx
    simp [this]
  · have e' : ¬ q = p := fun e2 => e e2.symm
    cases hf : A.find? (fun x => decide (x.1 = p)) <;> simp [hf, e, e']
theorem stA_le2 (A : List (Qn × Bool)) : ∀ q, stA A q ≤ 2 := fun q => by
  unfold stA
  split
  · omega
  · split <;> omega
/-- answers are of five kinds. -/
def Five (v : Fnd) : Prop := v = fd0 ∨ v.k = 1 ∨ v.k = 2 ∨ v = amb ∨ v = circ
theorem five_ask (L : List Es) (n0 : ByteArray) (S : St) (q : Qn) : Five (Xp.ask L n0 S q).1 := by
  refine ask_all Five (Or.inl rfl) (by simp [Five]) (by simp [Five]) (fun e he q v hf => ?_) (fun a b ha hb => ?_) (fun t v hv => ?_) _ _ _
  · unfold first at hf
    split at hf
    · cases hf; simp [Five]
    · split at hf
      · split at hf
        · cases hf; simp [Five]
        · cases hf
      · split at hf
        · cases hf; simp [Five]
        · cases hf
  · rcases ha with rfl | h | h | rfl | rfl
    · exact Or.inl rfl
    · exact Or.inr (Or.inl h)
    · exact Or.inr (Or.inr (Or.inl h))
    · exact Or.inr (Or.inr (Or.inr (Or.inl rfl)))
    · exact Or.inr (Or.inr (Or.inr (Or.inr rfl)))
  · rcases hv with rfl | h | h | rfl | rfl
    · exact Or.inl (by cases t <;> rfl)
    · exact Or.inr (Or.inl h)
    · exact Or.inr (Or.inr (Or.inl h))
    · exact Or.inr (Or.inr (Or.inr (Or.inl (by cases t <;> rfl))))
    · exact Or.inr (Or.inr (Or.inr (Or.inr (by cases t <;> rfl))))
/-- what the document's stars hold so far. -/
def encB (best : Fnd) (ci : Bool) : Fnd := if best.k = 0 then (if ci then circ else fd0) else best
theorem enc_amb (best : Fnd) (ci : Bool) : joined (encB best ci) amb = amb := joined_amb _
theorem enc_none (best : Fnd) (ci : Bool) : joined (encB best ci) fd0 = encB best ci := by unfold joined; simp [fd0]
theorem enc_circ (best : Fnd) (ci : Bool) (hb : best.k = 0 ∨ leads best = true) : joined (encB best ci) circ = encB best true := by
  rcases hb with h | h
  · unfold encB
    simp only [h, if_true]
    cases ci <;> simp [joined, circ, fd0, leads]
  · have h0 : best.k ≠ 0 := fun e => by simp [leads, e] at h
    unfold encB
    simp only [h0, if_false]
    unfold joined
    simp [h, circ]
theorem enc_first (best f : Fnd) (ci : Bool) (hb : best.k = 0) (hf : leads f = true) : joined (encB best ci) f = encB f ci := by
  have h0 : f.k ≠ 0 := fun e => by simp [leads, e] at hf
  have h4 : f.k ≠ 4 := fun e => by simp [leads, e] at hf
  unfold encB
  simp only [hb, if_true, h0, if_false]
  unfold joined
  cases ci <;> simp [h0, h4, circ, fd0, leads]
theorem enc_same (best f : Fnd) (ci : Bool) (hb : leads best = true) (hf : leads f = true) (h : best.k = f.k ∧ best.mod = f.mod ∧ best.name = f.name) : joined (encB best ci) f = encB { best with ty := best.ty && f.ty } ci := by
  have h0 : best.k ≠ 0 := fun e => by simp [leads, e] at hb
  have h0' : f.k ≠ 0 := fun e => by simp [leads, e] at hf
  have h4 : f.k ≠ 4 := fun e => by simp [leads, e] at hf
  unfold encB
  simp only [h0, if_false]
  unfold joined
  rw [if_neg (by simp [h0', h4]), if_neg (by simp [hb]), if_pos h]
theorem enc_other (best f : Fnd) (ci : Bool) (hb : leads best = true) (hf : leads f = true) (h : ¬ (best.k = f.k ∧ best.mod = f.mod ∧ best.name = f.name)) : joined (encB best ci) f = amb := by
  have h0 : best.k ≠ 0 := fun e => by simp [leads, e] at hb
  have h0' : f.k ≠ 0 := fun e => by simp [leads, e] at hf
  have h4 : f.k ≠ 4 := fun e => by simp [leads, e] at hf
  unfold encB
  simp only [h0, if_false]
  unfold joined
  rw [if_neg (by simp [h0', h4]), if_neg (by simp [hb]), if_neg h]
theorem enc_end (best : Fnd) (ci : Bool) : encB best ci = if best.k = 0 ∧ ci = true then circ else (if best.k = 0 then fd0 else best) := by
  unfold encB
  by_cases h : best.k = 0 <;> cases ci <;> simp [h]
theorem enc_k3 (best : Fnd) (ci : Bool) (hb : best.k = 0 ∨ leads best = true) : (encB best ci).k ≠ 3 := by
  rcases hb with h | h
  · unfold encB; cases ci <;> simp [h, circ, fd0]
  · have h0 : best.k ≠ 0 := fun e => by simp [leads, e] at h
    have h3 : best.k ≠ 3 := fun e => by simp [leads, e] at h
    unfold encB; simp [h0, h3]

def askC (A : List (Qn × Bool)) : List Value := A.flatMap fun x => [.int .i64 x.1.1, .string x.1.2, .bool x.2]
theorem askC_len : ∀ (A : List (Qn × Bool)), (askC A).length = A.length * 3
  | [] => rfl
  | p :: A => by
    have := askC_len A
    unfold askC at this ⊢
    rw [List.flatMap_cons, List.length_append, this]
    simp
    omega
theorem askC_app (A B : List (Qn × Bool)) : askC (A ++ B) = askC A ++ askC B := by simp [askC]
theorem askC_at {A : List (Qn × Bool)} {k : Nat} (hk : k < A.length) {j : Nat} (hj : j < 3) : (askC A)[k * 3 + j]? = ([.int .i64 A[k].1.1, .string A[k].1.2, .bool A[k].2] : List Value)[j]? := by
  have e : A = A.take k ++ A[k] :: A.drop (k + 1) := by simp
  have l : (A.take k).length = k := by simp; omega
  conv => lhs; rw [e, askC_app]
  rw [List.getElem?_append_right (by rw [askC_len, l]; omega), askC_len, l]
  unfold askC
  rw [List.flatMap_cons, show k * 3 + j - k * 3 = j by omega, List.getElem?_append_left (by simpa using hj)]
/-- the document's walk in memory. -/
structure RWk (W : World) (lo wk : Nat) (v : Value) (A : List (Qn × Bool)) (va : Value) : Prop where
  blk : W.heap[wk]? = some (.cells #[v, va] 74 (0, 0))
  row : W.ownsRow lo 114 3 va A.length (askC A)
  ne : va.ownBlock ≠ some wk
  lo : lo ≤ wk
structure Fx (wk : Nat) (va : Value) (W W' : World) : Prop where
  os : W'.os = W.os
  tape : W'.tape = W.tape
  output : W'.output = W.output
  size : W.heap.size ≤ W'.heap.size
  block : ∀ k, k < W.heap.size → k ≠ wk → va.ownBlock ≠ some k → W'.heap[k]? = W.heap[k]?
theorem Fx.bel {wk : Nat} {va : Value} {W W' : World} (h : Below W.heap.size W W') : Fx wk va W W' := ⟨h.os, h.tape, h.output, h.size, fun k hk _ _ => h.block k hk⟩
/-- the row behind may be a new one. -/
theorem Fx.trans {wk : Nat} {va vb : Value} {a b c : World} (h : Fx wk va a b) (k : Fx wk vb b c) (hv : ∀ i, vb.ownBlock = some i → va.ownBlock = some i ∨ a.heap.size ≤ i) : Fx wk va a c :=
  ⟨k.os.trans h.os, k.tape.trans h.tape, k.output.trans h.output, Nat.le_trans h.size k.size, fun i hi h1 h2 => (k.block i (Nat.lt_of_lt_of_le hi h.size) h1 (fun e => by
    rcases hv i e with e' | e'
    · exact h2 e'
    · omega)).trans (h.block i hi h1 h2)⟩
theorem RWk.lt {W : World} {lo wk : Nat} {v : Value} {A : List (Qn × Bool)} {va : Value} (h : RWk W lo wk v A va) : wk < W.heap.size := (Array.getElem?_eq_some_iff.1 h.blk).1
theorem RWk.bel {W W' : World} {lo wk : Nat} {v : Value} {A : List (Qn × Bool)} {va : Value} (h : RWk W lo wk v A va) (b : Below W.heap.size W W') : RWk W' lo wk v A va :=
  ⟨(b.block _ h.lt).trans h.blk, row_keep h.row fun i hi => b.block _ (World.ownsRow.lt h.row i hi).2, h.ne, h.lo⟩
theorem RWk.below {W W' : World} {lo wk : Nat} {v : Value} {A : List (Qn × Bool)} {va : Value} (h : RWk W lo wk v A va) (f : Fx wk va W W') (hl : lo ≤ W.heap.size) : Below lo W W' :=
  ⟨f.os, f.tape, f.output, f.size, fun k hk => f.block k (by omega) (by have := h.lo; omega) (fun e => by have := (World.ownsRow.lt h.row k e).1; omega)⟩
end Go.Proofs.YtadkmlcnmkdfiaaGreatDoor
namespace Go.Proofs.YtadkmlcnmkdfiaaGreatDoor
open Go.RowKit Xp
set_option linter.unusedVariables false
set_option linter.unusedSimpArgs false

/-- what the document's walk stands on. -/
structure RC where
  w0 : World
  v : Value
  L : List Es
  n0 : ByteArray
  lo : Nat
  wk : Nat
structure RC.ok (c : RC) : Prop where
  ms : MsAt c.w0 c.w0.heap.size c.v c.L
  l0 : c.w0.heap.size ≤ c.lo
  hL : c.L.length ≤ 1048576
  hE : ∀ e ∈ c.L, e.own.length ≤ 1048576 ∧ e.oth.length ≤ 1048576 ∧ e.st.length ≤ 1048576
  hU : (Uni c.L (Nms c.L c.n0)).length ≤ 274877906944
abbrev RC.U (c : RC) : List Qn := Uni c.L (Nms c.L c.n0)
/-- a walk that goes on from there. -/
structure RS (c : RC) (W : World) (A : List (Qn × Bool)) (va : Value) : Prop where
  b : Below c.w0.heap.size c.w0 W
  w : RWk W c.lo c.wk c.v A va
  nd : (A.map Prod.fst).Nodup
  sub : ∀ x ∈ A, x.1 ∈ c.U
  lo : c.lo ≤ W.heap.size
theorem RS.bel {c : RC} {W W' : World} {A : List (Qn × Bool)} {va : Value} (h : RS c W A va) (b : Below W.heap.size W W') : RS c W' A va := ⟨h.b.trans (b.mono h.b.size), h.w.bel b, h.nd, h.sub, Nat.le_trans h.lo b.size⟩
/-- what an asking leaves. -/
structure RA (c : RC) (W W' : World) (A : List (Qn × Bool)) (va : Value) (S' : St) : Prop where
  h : ∃ B va', RS c W' (A ++ B) va' ∧ stA (A ++ B) = S' ∧ (∀ x ∈ B, x.2 = false) ∧ Fx c.wk va W W' ∧ ∀ i, va'.ownBlock = some i → va.ownBlock = some i ∨ W.heap.size ≤ i
def AskC (c : RC) (n : Nat) : Prop := ∀ (W : World) (A : List (Qn × Bool)) (va : Value) (q : Qn), RS c W A va → un c.U (stA A) ≤ n → q.2 ∈ Nms c.L c.n0 →
  Calls Tryz.prog 35 #[.pointer (some ⟨c.wk, 0, none⟩), .int .i64 q.1, .string q.2] W fun e w' => e = .returned (.agg #[.int .i64 (Xp.ask c.L c.n0 (stA A) q).1.k, .int .i64 (Xp.ask c.L c.n0 (stA A) q).1.mod, .string (Xp.ask c.L c.n0 (stA A) q).1.name, .bool (Xp.ask c.L c.n0 (stA A) q).1.ty]) ∧ RA c W w' A va (Xp.ask c.L c.n0 (stA A) q).2
theorem frG_drop {ask : St → Qn → Fnd × St} {name : ByteArray} {l : List En} {k : Nat} (hk : k < l.length) (S : St) (v : Fnd) : frG ask name S (l.drop k) v = if (joined v (ask S (l[k].mod, name)).1).k = 3 then (joined v (ask S (l[k].mod, name)).1, (ask S (l[k].mod, name)).2) else frG ask name (ask S (l[k].mod, name)).2 (l.drop (k + 1)) (joined v (ask S (l[k].mod, name)).1) := by
  rw [List.drop_eq_getElem_cons hk]
  rfl
theorem RA.refl {c : RC} {W W' : World} {A : List (Qn × Bool)} {va : Value} (h : RS c W A va) (b : Below W.heap.size W W') : RA c W W' A va (stA A) :=
  ⟨[], va, by simpa using h.bel b, by simp, by simp, Fx.bel b, fun i hi => Or.inl hi⟩
theorem hs1 {w : World} {b k : Nat} (h : k ≠ b) (s : Value) : (w.setCell ⟨b, 3, none⟩ s).heap[k]? = w.heap[k]? := Below.heap_setCell _ _ _ _ h
theorem hs4 {w : World} {b k : Nat} (h : k ≠ b) (p q r s : Value) : ((((w.setCell ⟨b, 0, none⟩ p).setCell ⟨b, 1, none⟩ q).setCell ⟨b, 2, none⟩ r).setCell ⟨b, 3, none⟩ s).heap[k]? = w.heap[k]? := by
  rw [Below.heap_setCell _ _ _ _ h, Below.heap_setCell _ _ _ _ h, Below.heap_setCell _ _ _ _ h, Below.heap_setCell _ _ _ _ h]
theorem t1c {w : World} {b : Nat} {p q r s : Value} {t : TypeId} {fr : Nat × Nat} {p' : Value} (h : w.heap[b]? = some (.cells #[p, q, r, s] t fr)) : (w.setCell ⟨b, 0, none⟩ p').heap[b]? = some (.cells #[p', q, r, s] t fr) := by simp [World.setCell, Array.getElem?_modify, h]
theorem t2c {w : World} {b : Nat} {p q r s : Value} {t : TypeId} {fr : Nat × Nat} {p' q' : Value} (h : w.heap[b]? = some (.cells #[p, q, r, s] t fr)) : ((w.setCell ⟨b, 0, none⟩ p').setCell ⟨b, 1, none⟩ q').heap[b]? = some (.cells #[p', q', r, s] t fr) := by simp [World.setCell, Array.getElem?_modify, h]
theorem t3c {w : World} {b : Nat} {p q r s : Value} {t : TypeId} {fr : Nat × Nat} {p' q' r' : Value} (h : w.heap[b]? = some (.cells #[p, q, r, s] t fr)) : (((w.setCell ⟨b, 0, none⟩ p').setCell ⟨b, 1, none⟩ q').setCell ⟨b, 2, none⟩ r').heap[b]? = some (.cells #[p', q', r', s] t fr) := by simp [World.setCell, Array.getElem?_modify, h]
set_option maxRecDepth 100000 in
set_option maxHeartbeats 16000000 in
theorem stars_step {c : RC} (hk : c.ok) {n : Nat} (H : AskC c n) {W : World} {A : List (Qn × Bool)} {va : Value} (h : RS c W A va) (hn : un c.U (stA A) ≤ n) {vl : Value} {l : List En} (hl : EnAt c.w0 c.w0.heap.size vl l) (hll : l.length ≤ 1048576) (name : ByteArray) (hnm : name ∈ Nms c.L c.n0) :
    Calls Tryz.prog 85 #[.pointer (some ⟨c.wk, 0, none⟩), vl, .string name] W fun e w' => e = .returned (.agg #[.int .i64 (frG (Xp.ask c.L c.n0) name (stA A) l fd0).1.k, .int .i64 (frG (Xp.ask c.L c.n0) name (stA A) l fd0).1.mod, .string (frG (Xp.ask c.L c.n0) name (stA A) l fd0).1.name, .bool (frG (Xp.ask c.L c.n0) name (stA A) l fd0).1.ty]) ∧ RA c W w' A va (frG (Xp.ask c.L c.n0) name (stA A) l fd0).2 := by
  obtain ⟨ad, cp, rfl⟩ := EnAt.op hl
  obtain ⟨res, hres⟩ : ∃ r, frG (Xp.ask c.L c.n0) name (stA A) l fd0 = r := ⟨_, rfl⟩
  have HR : Hid (frG (Xp.ask c.L c.n0) name (stA A) (l.drop 0) (encB fd0 false) = res) := hres
  rw [hres]
  clear hres
  obtain ⟨wA, hwA⟩ : ∃ X, (W.alloc (.cells #[.int .i64 0, .int .i64 0, .string ⟨#[]⟩, .bool false] 41)).alloc (.cells #[.int .i64 0, .int .i64 0, .string ⟨#[]⟩, .bool false] 41) = X := ⟨_, rfl⟩
  have bA : Below W.heap.size W wA := by rw [← hwA]; exact ((Below.refl _ _).alloc (Nat.le_refl _) _).alloc (by simp) _
  have sA : wA.heap.size = W.heap.size + 1 + 1 := by rw [← hwA]; simp
  have m0 : wA.heap[W.heap.size]? = some (.cells #[.int .i64 0, .int .i64 0, .string ⟨#[]⟩, .bool false] 41 (0, 0)) := by rw [← hwA, Below.heap_alloc _ _ _ (by simp)]; exact heap_alloc_new W _
  have m1 : wA.heap[W.heap.size + 1]? = some (.cells #[.int .i64 0, .int .i64 0, .string ⟨#[]⟩, .bool false] 41 (0, 0)) := by rw [← hwA]; exact hnewX _ (by simp)
  have HRA : Hid (RA c W wA A va (stA A)) := RA.refl h bA
  -- one more is asked
  have HC : Hid (∀ (X : World) (S : St) (m : Int), RA c W X A va S → un c.U S ≤ n → Calls Tryz.prog 35 #[.pointer (some ⟨c.wk, 0, none⟩), .int .i64 m, .string name] X fun e w' => e = .returned (.agg #[.int .i64 (Xp.ask c.L c.n0 S (m, name)).1.k, .int .i64 (Xp.ask c.L c.n0 S (m, name)).1.mod, .string (Xp.ask c.L c.n0 S (m, name)).1.name, .bool (Xp.ask c.L c.n0 S (m, name)).1.ty]) ∧ RA c W w' A va (Xp.ask c.L c.n0 S (m, name)).2 ∧ ∀ k, W.heap.size ≤ k → k < X.heap.size → (∃ cs t fr, X.heap[k]? = some (.cells cs t fr) ∧ t = 41) → w'.heap[k]? = X.heap[k]?) := fun X S m hX hu => by
    obtain ⟨B, vb, r1, r2, r3, r4, r5⟩ := hX
    subst r2
    refine (H X (A ++ B) vb (m, name) r1 hu hnm).mono ?_
    rintro e w' ⟨h1, B', vc, k1, k2, k3, k4, k5⟩
    refine ⟨h1, ⟨B ++ B', vc, by rw [← List.append_assoc]; exact k1, by rw [← List.append_assoc]; exact k2, fun x hx => ?_, r4.trans k4 r5, fun i hi => ?_⟩, fun k hk1 hk2 hk3 => ?_⟩
    · rcases List.mem_append.1 hx with hx | hx
      · exact r3 x hx
      · exact k3 x hx
    · rcases k5 i hi with e' | e'
      · exact r5 i e'
      · exact Or.inr (Nat.le_trans r4.size e')
    · refine k4.block k hk2 (fun e' => ?_) (fun e' => ?_)
      · have := h.w.lt; omega
      · obtain ⟨cs, t, fr, hc, ht⟩ := hk3
        obtain ⟨cur, hcur⟩ := row_cellsX r1.w.row e'
        rw [hc] at hcur
        cases hcur
        exact absurd ht (by decide)
  have HW : Hid (W.heap.size + 1 + 1 ≤ wA.heap.size) := by show _ ≤ _; omega
  have HE : Hid (∀ X S, RA c W X A va S → Below c.w0.heap.size c.w0 X) := fun X S hX => by
    obtain ⟨B, vb, r1, _⟩ := hX
    exact r1.b
  have HRS : Hid (∀ X S, RA c W X A va S → W.heap.size ≤ X.heap.size) := fun X S hX => by
    obtain ⟨B, vb, r1, r2, r3, r4, r5⟩ := hX
    exact r4.size
  -- stores into blocks of its own
  have HSet : Hid (∀ (X : World) (S : St) (k j : Nat) (u : Value), RA c W X A va S → (k = W.heap.size ∨ k = W.heap.size + 1) → (∃ cs, X.heap[k]? = some (.cells cs 41 (0, 0))) → RA c W (X.setCell ⟨k, j, none⟩ u) A va S) := fun X S k j u hX hk' hc => by
    obtain ⟨B, vb, r1, r2, r3, r4, r5⟩ := hX
    obtain ⟨cs, hc⟩ := hc
    have hkW : W.heap.size ≤ k := by omega
    have hne : k ≠ c.wk := fun e => by have := h.w.lt; omega
    have hvb : vb.ownBlock ≠ some k := fun e => by
      obtain ⟨cur, hcur⟩ := row_cellsX r1.w.row e
      rw [hc] at hcur
      simp at hcur
    refine ⟨B, vb, ⟨r1.b.setCell (by show c.w0.heap.size ≤ k; have := h.b.size; omega) _, ⟨(Below.heap_setCell _ _ _ _ (fun e => hne e.symm)).trans r1.w.blk, row_keep r1.w.row fun b hb => Below.heap_setCell _ _ _ _ (fun e => hvb (by rw [show some k = some b by rw [e]]; exact hb)), r1.w.ne, r1.w.lo⟩, r1.nd, r1.sub, by simpa [World.setCell] using r1.lo⟩, r2, r3, ⟨r4.os, r4.tape, r4.output, by simpa [World.setCell] using r4.size, fun i hi h1 h2 => (Below.heap_setCell _ _ _ _ (by show i ≠ k; omega)).trans (r4.block i hi h1 h2)⟩, r5⟩
  have HAl : Hid (∀ (X : World) (S : St) (o : Obj), RA c W X A va S → RA c W (X.alloc o) A va S) := fun X S o hX => by
    obtain ⟨B, vb, r1, r2, r3, r4, r5⟩ := hX
    have bx : Below X.heap.size X (X.alloc o) := (Below.refl _ _).alloc (Nat.le_refl _) _
    exact ⟨B, vb, r1.bel bx, r2, r3, r4.trans (vb := vb) (Fx.bel bx) r5, r5⟩
  have HU : Hid (un c.U (stA A) ≤ n) := hn
  have hll' : ((l.length : Nat) : Int) ≤ 1048576 := by omega
  clear sA hn
  have HwA : Hid (_ = wA) := hwA
  have HM : Hid (_ ∧ _) := ⟨m0, m1⟩
  clear hwA m0 m1
  go_enter Tryz.func85, Tryz.ntmps85
  go_wp2
  go_loopw [8, 9, 10] (fun u8 u9 u10 wr => ∃ (k : Nat) (ci : Bool) (best : Fnd) (S : St), u9 = .int .i64 (k : Nat) ∧ u8 = .bool ci ∧ k ≤ l.length ∧ Hid (best = fd0 ∨ leads best = true) ∧ wr.heap[W.heap.size]? = some (.cells #[.int .i64 0, .int .i64 0, .string ⟨#[]⟩, .bool false] 41 (0, 0)) ∧ wr.heap[W.heap.size + 1]? = some (.cells #[.int .i64 best.k, .int .i64 best.mod, .string best.name, .bool best.ty] 41 (0, 0)) ∧ RA c W wr A va S ∧ Hid (un c.U S ≤ n) ∧ Hid (frG (Xp.ask c.L c.n0) name S (l.drop k) (encB best ci) = res)) (fun _ u9 _ _ => l.length - (intOf u9).toNat)
  case atStart => 
    rw [HwA.out]
    exact ⟨0, false, fd0, stA A, rfl, rfl, by omega, Or.inl rfl, HM.out.1, HM.out.2, HRA.out, HU.out, HR.out⟩
  case round =>
    obtain ⟨k, ci, best, S, rfl, rfl, hkl, hb, n0, n1, hX, hu, hr⟩ := hrel
    by_cases hlt : k < l.length
    · obtain ⟨b, o, c', ee, hb1, hcel⟩ := EnAt.cl (hl.bel (HE.out _ _ hX)) (by omega)
      obtain ⟨rfl, rfl⟩ : ad = some ⟨b, o, none⟩ ∧ cp = c' := by cases ee; exact ⟨rfl, rfl⟩
      obtain ⟨f1, f2, f3, f4, f5⟩ := hcel k hlt
      have hr1 := hr.out
      rw [frG_drop hlt] at hr1
      have C := HC.out _ S l[k].mod hX hu.out
      have h5 := five_ask c.L c.n0 S (l[k].mod, name)
      have hu2 : un c.U (Xp.ask c.L c.n0 S (l[k].mod, name)).2 ≤ n := Nat.le_trans (un_mono (askI_le c.L c.n0 S (l[k].mod, name)) c.U) hu.out
      generalize Xp.ask c.L c.n0 S (l[k].mod, name) = r at *
      generalize l[k] = x at *
      obtain ⟨f, S'⟩ := r
      simp only at hr1 C h5 hu2
      have HU2 : Hid (un c.U S' ≤ n) := hu2
      have HR1 : Hid _ := hr1
      have H5 : Hid (Five f) := h5
      clear hr1 hcel h5 hu2 hu hr
      obtain ⟨fk, fm, fn, ft⟩ := f
      obtain ⟨bk, bm, bn, bt⟩ := best
      simp only at C n1
      have hw0 := (Array.getElem?_eq_some_iff.1 n0).1
      have hw1 := (Array.getElem?_eq_some_iff.1 n1).1
      have HP : Hid (∀ w' : World, (∀ k, W.heap.size ≤ k → k < wr.heap.size → (∃ cs t fr, wr.heap[k]? = some (.cells cs t fr) ∧ t = 41) → w'.heap[k]? = wr.heap[k]?) → w'.heap[W.heap.size]? = wr.heap[W.heap.size]? ∧ w'.heap[W.heap.size + 1]? = wr.heap[W.heap.size + 1]?) := fun (w' : World) hp => ⟨hp _ (Nat.le_refl _) hw0 ⟨_, _, _, n0, rfl⟩, hp _ (by omega) hw1 ⟨_, _, _, n1, rfl⟩⟩
      have HN : Hid (_ ∧ _) := ⟨n0, n1⟩
      clear n0 n1 hw0 hw1
      rcases H5.out with hf | hf | hf | hf | hf
      · obtain ⟨rfl, rfl, rfl, rfl⟩ : fk = 0 ∧ fm = 0 ∧ fn = ⟨#[]⟩ ∧ ft = false := by cases hf; exact ⟨rfl, rfl, rfl, rfl⟩
        have HRES : Hid (frG (Xp.ask c.L c.n0) name S' (l.drop (k + 1)) (encB ⟨bk, bm, bn, bt⟩ ci) = res) := by
          have := HR1.out
          rw [show (⟨0, 0, ⟨#[]⟩, false⟩ : Fnd) = fd0 from rfl, enc_none, if_neg (enc_k3 _ _ (by rcases hb.out with e | e; left; rw [e]; rfl; right; exact e))] at this
          exact this
        clear HR1 hf
        go_wp2_with fail
        go_at_call 35
        refine C.mono ?_
        rintro ex W1 ⟨rfl, hX1, hp1⟩
        obtain ⟨p0, p1⟩ := HP.out _ hp1
        have n0 := p0.trans HN.out.1
        have n1 := p1.trans HN.out.2
        have hX2 := HAl.out _ _ (.cells #[.int .i64 0, .int .i64 0, .string ⟨#[]⟩, .bool false] 41) hX1
        have n0' := (Below.heap_alloc W1 (.cells #[.int .i64 0, .int .i64 0, .string ⟨#[]⟩, .bool false] 41) _ (Array.getElem?_eq_some_iff.1 n0).1).trans n0
        have n1' := (Below.heap_alloc W1 (.cells #[.int .i64 0, .int .i64 0, .string ⟨#[]⟩, .bool false] 41) _ (Array.getElem?_eq_some_iff.1 n1).1).trans n1
        obtain ⟨⟨_, _, _, _⟩, _, _, _, _⟩ := t4 n0'
        obtain ⟨⟨_, _, _, _⟩, _, _, _, _⟩ := t4 n1'
        clear p0 p1 n0 n1 hX1 hp1 C
        go_wp2
        go_roundw
        case rel => exact ⟨k + 1, ci, ⟨bk, bm, bn, bt⟩, S', by simp, rfl, by omega, hb, n0', n1', hX2, HU2.out, by show _ = _; exact HRES.out⟩
        case measure => simp [intOf]; omega

      · simp only at hf
        subst hf
        have hlf : leads ⟨1, fm, fn, ft⟩ = true := rfl
        rcases (by rcases hb.out with e | e; left; cases e; exact ⟨rfl, rfl, rfl, rfl⟩; right; unfold leads at e; simpa using e : (bk = 0 ∧ bm = 0 ∧ bn = ⟨#[]⟩ ∧ bt = false) ∨ (bk = 1 ∨ bk = 2)) with ⟨rfl, rfl, rfl, rfl⟩ | rfl | rfl
        · have HRES : Hid (frG (Xp.ask c.L c.n0) name S' (l.drop (k + 1)) (encB ⟨1, fm, fn, ft⟩ ci) = res) := by
            have := HR1.out
            rw [enc_first _ _ ci rfl hlf, if_neg (enc_k3 _ _ (Or.inr hlf))] at this
            exact this
          clear HR1
          go_wp2_with fail
          go_at_call 35
          refine C.mono ?_
          rintro ex W1 ⟨rfl, hX1, hp1⟩
          obtain ⟨p0, p1⟩ := HP.out _ hp1
          have n0 := p0.trans HN.out.1
          have n1 := p1.trans HN.out.2
          have hX2 := HAl.out _ _ (.cells #[.int .i64 1, .int .i64 fm, .string fn, .bool ft] 41) hX1
          have n0' := (Below.heap_alloc W1 (.cells #[.int .i64 1, .int .i64 fm, .string fn, .bool ft] 41) _ (Array.getElem?_eq_some_iff.1 n0).1).trans n0
          have n1' := (Below.heap_alloc W1 (.cells #[.int .i64 1, .int .i64 fm, .string fn, .bool ft] 41) _ (Array.getElem?_eq_some_iff.1 n1).1).trans n1
          obtain ⟨⟨_, _, _, _⟩, _, _, _, _⟩ := t4 n0'
          obtain ⟨⟨_, _, _, _⟩, _, _, _, _⟩ := t4 n1'
          have hne : W.heap.size ≠ W.heap.size + 1 := by omega
          clear p0 p1 n0 n1 hX1 hp1 C
          go_wp2
          go_roundw
          case rel => exact ⟨k + 1, ci, ⟨1, fm, fn, ft⟩, S', by simp, rfl, by omega, Or.inr hlf, (hs4 hne _ _ _ _).trans n0', t4_set _ _ _ _ n1', HSet.out _ _ _ _ _ (HSet.out _ _ _ _ _ (HSet.out _ _ _ _ _ (HSet.out _ _ _ _ _ hX2 (Or.inr rfl) ⟨_, n1'⟩) (Or.inr rfl) ⟨_, t1c n1'⟩) (Or.inr rfl) ⟨_, t2c n1'⟩) (Or.inr rfl) ⟨_, t3c n1'⟩, HU2.out, HRES.out⟩
          case measure => simp [intOf]; omega
        · by_cases hm : bm = fm
          · subst hm
            by_cases hnn : bn = fn
            · subst hnn
              have HRES : Hid (frG (Xp.ask c.L c.n0) name S' (l.drop (k + 1)) (encB ⟨1, bm, bn, bt && ft⟩ ci) = res) := by
                have := HR1.out
                rw [enc_same ⟨1, bm, bn, bt⟩ ⟨1, bm, bn, ft⟩ ci rfl hlf ⟨rfl, rfl, rfl⟩, if_neg (enc_k3 _ _ (Or.inr rfl))] at this
                exact this
              clear HR1
              cases bt
              all_goals
                go_wp2_with fail
                go_at_call 35
                refine C.mono ?_
                rintro ex W1 ⟨rfl, hX1, hp1⟩
                obtain ⟨p0, p1⟩ := HP.out _ hp1
                have n0 := p0.trans HN.out.1
                have n1 := p1.trans HN.out.2
                have hX2 := HAl.out _ _ (.cells #[.int .i64 1, .int .i64 bm, .string bn, .bool ft] 41) hX1
                have n0' := (Below.heap_alloc W1 (.cells #[.int .i64 1, .int .i64 bm, .string bn, .bool ft] 41) _ (Array.getElem?_eq_some_iff.1 n0).1).trans n0
                have n1' := (Below.heap_alloc W1 (.cells #[.int .i64 1, .int .i64 bm, .string bn, .bool ft] 41) _ (Array.getElem?_eq_some_iff.1 n1).1).trans n1
                obtain ⟨⟨_, _, _, _⟩, _, _, _, _⟩ := t4 n0'
                obtain ⟨⟨_, _, _, _⟩, _, _, _, _⟩ := t4 n1'
                have hne : W.heap.size ≠ W.heap.size + 1 := by omega
                clear p0 p1 n0 n1 hX1 hp1 C
                go_wp2
                go_roundw
                case rel => exact ⟨k + 1, ci, _, S', by simp, rfl, by omega, Or.inr rfl, (hs1 hne _).trans n0', t4_set3 _ n1', HSet.out _ _ _ _ _ hX2 (Or.inr rfl) ⟨_, n1'⟩, HU2.out, HRES.out⟩
                case measure => simp [intOf]; omega
            · have HRES : Hid (res = (amb, S')) := by
                have := HR1.out
                rw [enc_other _ _ ci rfl hlf (fun e => hnn e.2.2), if_pos (show amb.k = 3 from rfl)] at this
                exact this.symm
              clear HR1
              have hnn' : (bn.toList == fn.toList) = false := by rw [← beq_toListBytes, ba_eq]; exact decide_eq_false hnn
              go_wp2_with fail
              go_at_call 35
              refine C.mono ?_
              rintro ex W1 ⟨rfl, hX1, hp1⟩
              obtain ⟨p0, p1⟩ := HP.out _ hp1
              have n0 := p0.trans HN.out.1
              have n1 := p1.trans HN.out.2
              have hX2 := HAl.out _ _ (.cells #[.int .i64 1, .int .i64 bm, .string fn, .bool ft] 41) hX1
              have n0' := (Below.heap_alloc W1 (.cells #[.int .i64 1, .int .i64 bm, .string fn, .bool ft] 41) _ (Array.getElem?_eq_some_iff.1 n0).1).trans n0
              have n1' := (Below.heap_alloc W1 (.cells #[.int .i64 1, .int .i64 bm, .string fn, .bool ft] 41) _ (Array.getElem?_eq_some_iff.1 n1).1).trans n1
              obtain ⟨⟨_, _, _, _⟩, _, _, _, _⟩ := t4 n0'
              obtain ⟨⟨_, _, _, _⟩, _, _, _, _⟩ := t4 n1'
              have hne : W.heap.size ≠ W.heap.size + 1 := by omega
              clear p0 p1 n0 n1 hX1 hp1 C
              go_wp2
              refine bodyPost_ret (res_f4 Tryz.results85 (t4_set _ _ _ _ n0') rfl) rfl ?_
              refine ⟨by rw [HRES.out]; rfl, ?_⟩
              rw [HRES.out]
              exact HSet.out _ _ _ _ _ (HSet.out _ _ _ _ _ (HSet.out _ _ _ _ _ (HSet.out _ _ _ _ _ hX2 (Or.inl rfl) ⟨_, n0'⟩) (Or.inl rfl) ⟨_, t1c n0'⟩) (Or.inl rfl) ⟨_, t2c n0'⟩) (Or.inl rfl) ⟨_, t3c n0'⟩
          · have HRES : Hid (res = (amb, S')) := by
              have := HR1.out
              rw [enc_other _ _ ci rfl hlf (fun e => hm e.2.1), if_pos (show amb.k = 3 from rfl)] at this
              exact this.symm
            clear HR1
            have hm' : (bm == fm) = false := by simp [hm]
            go_wp2_with fail
            go_at_call 35
            refine C.mono ?_
            rintro ex W1 ⟨rfl, hX1, hp1⟩
            obtain ⟨p0, p1⟩ := HP.out _ hp1
            have n0 := p0.trans HN.out.1
            have n1 := p1.trans HN.out.2
            have hX2 := HAl.out _ _ (.cells #[.int .i64 1, .int .i64 fm, .string fn, .bool ft] 41) hX1
            have n0' := (Below.heap_alloc W1 (.cells #[.int .i64 1, .int .i64 fm, .string fn, .bool ft] 41) _ (Array.getElem?_eq_some_iff.1 n0).1).trans n0
            have n1' := (Below.heap_alloc W1 (.cells #[.int .i64 1, .int .i64 fm, .string fn, .bool ft] 41) _ (Array.getElem?_eq_some_iff.1 n1).1).trans n1
            obtain ⟨⟨_, _, _, _⟩, _, _, _, _⟩ := t4 n0'
            obtain ⟨⟨_, _, _, _⟩, _, _, _, _⟩ := t4 n1'
            have hne : W.heap.size ≠ W.heap.size + 1 := by omega
            clear p0 p1 n0 n1 hX1 hp1 C
            go_wp2
            refine bodyPost_ret (res_f4 Tryz.results85 (t4_set _ _ _ _ n0') rfl) rfl ?_
            refine ⟨by rw [HRES.out]; rfl, ?_⟩
            rw [HRES.out]
            exact HSet.out _ _ _ _ _ (HSet.out _ _ _ _ _ (HSet.out _ _ _ _ _ (HSet.out _ _ _ _ _ hX2 (Or.inl rfl) ⟨_, n0'⟩) (Or.inl rfl) ⟨_, t1c n0'⟩) (Or.inl rfl) ⟨_, t2c n0'⟩) (Or.inl rfl) ⟨_, t3c n0'⟩
        · have HRES : Hid (res = (amb, S')) := by
            have := HR1.out
            rw [enc_other _ _ ci rfl hlf (by simp), if_pos (show amb.k = 3 from rfl)] at this
            exact this.symm
          clear HR1
          go_wp2_with fail
          go_at_call 35
          refine C.mono ?_
          rintro ex W1 ⟨rfl, hX1, hp1⟩
          obtain ⟨p0, p1⟩ := HP.out _ hp1
          have n0 := p0.trans HN.out.1
          have n1 := p1.trans HN.out.2
          have hX2 := HAl.out _ _ (.cells #[.int .i64 1, .int .i64 fm, .string fn, .bool ft] 41) hX1
          have n0' := (Below.heap_alloc W1 (.cells #[.int .i64 1, .int .i64 fm, .string fn, .bool ft] 41) _ (Array.getElem?_eq_some_iff.1 n0).1).trans n0
          have n1' := (Below.heap_alloc W1 (.cells #[.int .i64 1, .int .i64 fm, .string fn, .bool ft] 41) _ (Array.getElem?_eq_some_iff.1 n1).1).trans n1
          obtain ⟨⟨_, _, _, _⟩, _, _, _, _⟩ := t4 n0'
          obtain ⟨⟨_, _, _, _⟩, _, _, _, _⟩ := t4 n1'
          have hne : W.heap.size ≠ W.heap.size + 1 := by omega
          clear p0 p1 n0 n1 hX1 hp1 C
          go_wp2
          refine bodyPost_ret (res_f4 Tryz.results85 (t4_set _ _ _ _ n0') rfl) rfl ?_
          refine ⟨by rw [HRES.out]; rfl, ?_⟩
          rw [HRES.out]
          exact HSet.out _ _ _ _ _ (HSet.out _ _ _ _ _ (HSet.out _ _ _ _ _ (HSet.out _ _ _ _ _ hX2 (Or.inl rfl) ⟨_, n0'⟩) (Or.inl rfl) ⟨_, t1c n0'⟩) (Or.inl rfl) ⟨_, t2c n0'⟩) (Or.inl rfl) ⟨_, t3c n0'⟩
      · simp only at hf
        subst hf
        have hlf : leads ⟨2, fm, fn, ft⟩ = true := rfl
        rcases (by rcases hb.out with e | e; left; cases e; exact ⟨rfl, rfl, rfl, rfl⟩; right; unfold leads at e; simpa using e : (bk = 0 ∧ bm = 0 ∧ bn = ⟨#[]⟩ ∧ bt = false) ∨ (bk = 1 ∨ bk = 2)) with ⟨rfl, rfl, rfl, rfl⟩ | rfl | rfl
        · have HRES : Hid (frG (Xp.ask c.L c.n0) name S' (l.drop (k + 1)) (encB ⟨2, fm, fn, ft⟩ ci) = res) := by
            have := HR1.out
            rw [enc_first _ _ ci rfl hlf, if_neg (enc_k3 _ _ (Or.inr hlf))] at this
            exact this
          clear HR1
          go_wp2_with fail
          go_at_call 35
          refine C.mono ?_
          rintro ex W1 ⟨rfl, hX1, hp1⟩
          obtain ⟨p0, p1⟩ := HP.out _ hp1
          have n0 := p0.trans HN.out.1
          have n1 := p1.trans HN.out.2
          have hX2 := HAl.out _ _ (.cells #[.int .i64 2, .int .i64 fm, .string fn, .bool ft] 41) hX1
          have n0' := (Below.heap_alloc W1 (.cells #[.int .i64 2, .int .i64 fm, .string fn, .bool ft] 41) _ (Array.getElem?_eq_some_iff.1 n0).1).trans n0
          have n1' := (Below.heap_alloc W1 (.cells #[.int .i64 2, .int .i64 fm, .string fn, .bool ft] 41) _ (Array.getElem?_eq_some_iff.1 n1).1).trans n1
          obtain ⟨⟨_, _, _, _⟩, _, _, _, _⟩ := t4 n0'
          obtain ⟨⟨_, _, _, _⟩, _, _, _, _⟩ := t4 n1'
          have hne : W.heap.size ≠ W.heap.size + 1 := by omega
          clear p0 p1 n0 n1 hX1 hp1 C
          go_wp2
          go_roundw
          case rel => exact ⟨k + 1, ci, ⟨2, fm, fn, ft⟩, S', by simp, rfl, by omega, Or.inr hlf, (hs4 hne _ _ _ _).trans n0', t4_set _ _ _ _ n1', HSet.out _ _ _ _ _ (HSet.out _ _ _ _ _ (HSet.out _ _ _ _ _ (HSet.out _ _ _ _ _ hX2 (Or.inr rfl) ⟨_, n1'⟩) (Or.inr rfl) ⟨_, t1c n1'⟩) (Or.inr rfl) ⟨_, t2c n1'⟩) (Or.inr rfl) ⟨_, t3c n1'⟩, HU2.out, HRES.out⟩
          case measure => simp [intOf]; omega
        · have HRES : Hid (res = (amb, S')) := by
            have := HR1.out
            rw [enc_other _ _ ci rfl hlf (by simp), if_pos (show amb.k = 3 from rfl)] at this
            exact this.symm
          clear HR1
          go_wp2_with fail
          go_at_call 35
          refine C.mono ?_
          rintro ex W1 ⟨rfl, hX1, hp1⟩
          obtain ⟨p0, p1⟩ := HP.out _ hp1
          have n0 := p0.trans HN.out.1
          have n1 := p1.trans HN.out.2
          have hX2 := HAl.out _ _ (.cells #[.int .i64 2, .int .i64 fm, .string fn, .bool ft] 41) hX1
          have n0' := (Below.heap_alloc W1 (.cells #[.int .i64 2, .int .i64 fm, .string fn, .bool ft] 41) _ (Array.getElem?_eq_some_iff.1 n0).1).trans n0
          have n1' := (Below.heap_alloc W1 (.cells #[.int .i64 2, .int .i64 fm, .string fn, .bool ft] 41) _ (Array.getElem?_eq_some_iff.1 n1).1).trans n1
          obtain ⟨⟨_, _, _, _⟩, _, _, _, _⟩ := t4 n0'
          obtain ⟨⟨_, _, _, _⟩, _, _, _, _⟩ := t4 n1'
          have hne : W.heap.size ≠ W.heap.size + 1 := by omega
          clear p0 p1 n0 n1 hX1 hp1 C
          go_wp2
          refine bodyPost_ret (res_f4 Tryz.results85 (t4_set _ _ _ _ n0') rfl) rfl ?_
          refine ⟨by rw [HRES.out]; rfl, ?_⟩
          rw [HRES.out]
          exact HSet.out _ _ _ _ _ (HSet.out _ _ _ _ _ (HSet.out _ _ _ _ _ (HSet.out _ _ _ _ _ hX2 (Or.inl rfl) ⟨_, n0'⟩) (Or.inl rfl) ⟨_, t1c n0'⟩) (Or.inl rfl) ⟨_, t2c n0'⟩) (Or.inl rfl) ⟨_, t3c n0'⟩
        · by_cases hm : bm = fm
          · subst hm
            by_cases hnn : bn = fn
            · subst hnn
              have HRES : Hid (frG (Xp.ask c.L c.n0) name S' (l.drop (k + 1)) (encB ⟨2, bm, bn, bt && ft⟩ ci) = res) := by
                have := HR1.out
                rw [enc_same ⟨2, bm, bn, bt⟩ ⟨2, bm, bn, ft⟩ ci rfl hlf ⟨rfl, rfl, rfl⟩, if_neg (enc_k3 _ _ (Or.inr rfl))] at this
                exact this
              clear HR1
              cases bt
              all_goals
                go_wp2_with fail
                go_at_call 35
                refine C.mono ?_
                rintro ex W1 ⟨rfl, hX1, hp1⟩
                obtain ⟨p0, p1⟩ := HP.out _ hp1
                have n0 := p0.trans HN.out.1
                have n1 := p1.trans HN.out.2
                have hX2 := HAl.out _ _ (.cells #[.int .i64 2, .int .i64 bm, .string bn, .bool ft] 41) hX1
                have n0' := (Below.heap_alloc W1 (.cells #[.int .i64 2, .int .i64 bm, .string bn, .bool ft] 41) _ (Array.getElem?_eq_some_iff.1 n0).1).trans n0
                have n1' := (Below.heap_alloc W1 (.cells #[.int .i64 2, .int .i64 bm, .string bn, .bool ft] 41) _ (Array.getElem?_eq_some_iff.1 n1).1).trans n1
                obtain ⟨⟨_, _, _, _⟩, _, _, _, _⟩ := t4 n0'
                obtain ⟨⟨_, _, _, _⟩, _, _, _, _⟩ := t4 n1'
                have hne : W.heap.size ≠ W.heap.size + 1 := by omega
                clear p0 p1 n0 n1 hX1 hp1 C
                go_wp2
                go_roundw
                case rel => exact ⟨k + 1, ci, _, S', by simp, rfl, by omega, Or.inr rfl, (hs1 hne _).trans n0', t4_set3 _ n1', HSet.out _ _ _ _ _ hX2 (Or.inr rfl) ⟨_, n1'⟩, HU2.out, HRES.out⟩
                case measure => simp [intOf]; omega
            · have HRES : Hid (res = (amb, S')) := by
                have := HR1.out
                rw [enc_other _ _ ci rfl hlf (fun e => hnn e.2.2), if_pos (show amb.k = 3 from rfl)] at this
                exact this.symm
              clear HR1
              have hnn' : (bn.toList == fn.toList) = false := by rw [← beq_toListBytes, ba_eq]; exact decide_eq_false hnn
              go_wp2_with fail
              go_at_call 35
              refine C.mono ?_
              rintro ex W1 ⟨rfl, hX1, hp1⟩
              obtain ⟨p0, p1⟩ := HP.out _ hp1
              have n0 := p0.trans HN.out.1
              have n1 := p1.trans HN.out.2
              have hX2 := HAl.out _ _ (.cells #[.int .i64 2, .int .i64 bm, .string fn, .bool ft] 41) hX1
              have n0' := (Below.heap_alloc W1 (.cells #[.int .i64 2, .int .i64 bm, .string fn, .bool ft] 41) _ (Array.getElem?_eq_some_iff.1 n0).1).trans n0
              have n1' := (Below.heap_alloc W1 (.cells #[.int .i64 2, .int .i64 bm, .string fn, .bool ft] 41) _ (Array.getElem?_eq_some_iff.1 n1).1).trans n1
              obtain ⟨⟨_, _, _, _⟩, _, _, _, _⟩ := t4 n0'
              obtain ⟨⟨_, _, _, _⟩, _, _, _, _⟩ := t4 n1'
              have hne : W.heap.size ≠ W.heap.size + 1 := by omega
              clear p0 p1 n0 n1 hX1 hp1 C
              go_wp2
              refine bodyPost_ret (res_f4 Tryz.results85 (t4_set _ _ _ _ n0') rfl) rfl ?_
              refine ⟨by rw [HRES.out]; rfl, ?_⟩
              rw [HRES.out]
              exact HSet.out _ _ _ _ _ (HSet.out _ _ _ _ _ (HSet.out _ _ _ _ _ (HSet.out _ _ _ _ _ hX2 (Or.inl rfl) ⟨_, n0'⟩) (Or.inl rfl) ⟨_, t1c n0'⟩) (Or.inl rfl) ⟨_, t2c n0'⟩) (Or.inl rfl) ⟨_, t3c n0'⟩
          · have HRES : Hid (res = (amb, S')) := by
              have := HR1.out
              rw [enc_other _ _ ci rfl hlf (fun e => hm e.2.1), if_pos (show amb.k = 3 from rfl)] at this
              exact this.symm
            clear HR1
            have hm' : (bm == fm) = false := by simp [hm]
            go_wp2_with fail
            go_at_call 35
            refine C.mono ?_
            rintro ex W1 ⟨rfl, hX1, hp1⟩
            obtain ⟨p0, p1⟩ := HP.out _ hp1
            have n0 := p0.trans HN.out.1
            have n1 := p1.trans HN.out.2
            have hX2 := HAl.out _ _ (.cells #[.int .i64 2, .int .i64 fm, .string fn, .bool ft] 41) hX1
            have n0' := (Below.heap_alloc W1 (.cells #[.int .i64 2, .int .i64 fm, .string fn, .bool ft] 41) _ (Array.getElem?_eq_some_iff.1 n0).1).trans n0
            have n1' := (Below.heap_alloc W1 (.cells #[.int .i64 2, .int .i64 fm, .string fn, .bool ft] 41) _ (Array.getElem?_eq_some_iff.1 n1).1).trans n1
            obtain ⟨⟨_, _, _, _⟩, _, _, _, _⟩ := t4 n0'
            obtain ⟨⟨_, _, _, _⟩, _, _, _, _⟩ := t4 n1'
            have hne : W.heap.size ≠ W.heap.size + 1 := by omega
            clear p0 p1 n0 n1 hX1 hp1 C
            go_wp2
            refine bodyPost_ret (res_f4 Tryz.results85 (t4_set _ _ _ _ n0') rfl) rfl ?_
            refine ⟨by rw [HRES.out]; rfl, ?_⟩
            rw [HRES.out]
            exact HSet.out _ _ _ _ _ (HSet.out _ _ _ _ _ (HSet.out _ _ _ _ _ (HSet.out _ _ _ _ _ hX2 (Or.inl rfl) ⟨_, n0'⟩) (Or.inl rfl) ⟨_, t1c n0'⟩) (Or.inl rfl) ⟨_, t2c n0'⟩) (Or.inl rfl) ⟨_, t3c n0'⟩
      · obtain ⟨rfl, rfl, rfl, rfl⟩ : fk = 3 ∧ fm = 0 ∧ fn = ⟨#[]⟩ ∧ ft = false := by cases hf; exact ⟨rfl, rfl, rfl, rfl⟩
        have HRES : Hid (res = (amb, S')) := by
          have := HR1.out
          rw [show (⟨3, 0, ⟨#[]⟩, false⟩ : Fnd) = amb from rfl, enc_amb, if_pos (show amb.k = 3 from rfl)] at this
          exact this.symm
        clear HR1 hf
        go_wp2_with fail
        go_at_call 35
        refine C.mono ?_
        rintro ex W1 ⟨rfl, hX1, hp1⟩
        obtain ⟨p0, p1⟩ := HP.out _ hp1
        have n0 := p0.trans HN.out.1
        have n1 := p1.trans HN.out.2
        have hX2 := HAl.out _ _ (.cells #[.int .i64 3, .int .i64 0, .string ⟨#[]⟩, .bool false] 41) hX1
        have n0' := (Below.heap_alloc W1 (.cells #[.int .i64 3, .int .i64 0, .string ⟨#[]⟩, .bool false] 41) _ (Array.getElem?_eq_some_iff.1 n0).1).trans n0
        have n1' := (Below.heap_alloc W1 (.cells #[.int .i64 3, .int .i64 0, .string ⟨#[]⟩, .bool false] 41) _ (Array.getElem?_eq_some_iff.1 n1).1).trans n1
        obtain ⟨⟨_, _, _, _⟩, _, _, _, _⟩ := t4 n0'
        obtain ⟨⟨_, _, _, _⟩, _, _, _, _⟩ := t4 n1'
        clear p0 p1 n0 n1 hX1 hp1 C
        go_wp2
        refine bodyPost_ret (res_f4 Tryz.results85 (t4_set _ _ _ _ n0') rfl) rfl ?_
        refine ⟨by rw [HRES.out]; rfl, ?_⟩
        rw [HRES.out]
        exact HSet.out _ _ _ _ _ (HSet.out _ _ _ _ _ (HSet.out _ _ _ _ _ (HSet.out _ _ _ _ _ hX2 (Or.inl rfl) ⟨_, n0'⟩) (Or.inl rfl) ⟨_, t1c n0'⟩) (Or.inl rfl) ⟨_, t2c n0'⟩) (Or.inl rfl) ⟨_, t3c n0'⟩

      · obtain ⟨rfl, rfl, rfl, rfl⟩ : fk = 4 ∧ fm = 0 ∧ fn = ⟨#[]⟩ ∧ ft = false := by cases hf; exact ⟨rfl, rfl, rfl, rfl⟩
        have HRES : Hid (frG (Xp.ask c.L c.n0) name S' (l.drop (k + 1)) (encB ⟨bk, bm, bn, bt⟩ true) = res) := by
          have hbb : (⟨bk, bm, bn, bt⟩ : Fnd).k = 0 ∨ leads ⟨bk, bm, bn, bt⟩ = true := by rcases hb.out with e | e; left; rw [e]; rfl; right; exact e
          have := HR1.out
          rw [show (⟨4, 0, ⟨#[]⟩, false⟩ : Fnd) = circ from rfl, enc_circ _ _ hbb, if_neg (enc_k3 _ _ hbb)] at this
          exact this
        clear HR1 hf
        go_wp2_with fail
        go_at_call 35
        refine C.mono ?_
        rintro ex W1 ⟨rfl, hX1, hp1⟩
        obtain ⟨p0, p1⟩ := HP.out _ hp1
        have n0 := p0.trans HN.out.1
        have n1 := p1.trans HN.out.2
        have hX2 := HAl.out _ _ (.cells #[.int .i64 4, .int .i64 0, .string ⟨#[]⟩, .bool false] 41) hX1
        have n0' := (Below.heap_alloc W1 (.cells #[.int .i64 4, .int .i64 0, .string ⟨#[]⟩, .bool false] 41) _ (Array.getElem?_eq_some_iff.1 n0).1).trans n0
        have n1' := (Below.heap_alloc W1 (.cells #[.int .i64 4, .int .i64 0, .string ⟨#[]⟩, .bool false] 41) _ (Array.getElem?_eq_some_iff.1 n1).1).trans n1
        obtain ⟨⟨_, _, _, _⟩, _, _, _, _⟩ := t4 n0'
        obtain ⟨⟨_, _, _, _⟩, _, _, _, _⟩ := t4 n1'
        clear p0 p1 n0 n1 hX1 hp1 C
        go_wp2
        go_roundw
        case rel => exact ⟨k + 1, true, ⟨bk, bm, bn, bt⟩, S', by simp, rfl, by omega, hb, n0', n1', hX2, HU2.out, by show _ = _; exact HRES.out⟩
        case measure => simp [intOf]; omega

    · have hd : l.drop k = [] := List.drop_eq_nil_of_le (by omega)
      have hr1 := hr.out
      rw [hd] at hr1
      have HRES : Hid (res = (encB best ci, S)) := hr1.symm
      clear hr hr1 hd
      obtain ⟨⟨_, _, _, _⟩, _, _, _, _⟩ := t4 n0
      obtain ⟨⟨_, _, _, _⟩, _, _, _, _⟩ := t4 n1
      have HXX : Hid (∀ p q x y, RA c W ((((wr.setCell ⟨W.heap.size, 0, none⟩ p).setCell ⟨W.heap.size, 1, none⟩ q).setCell ⟨W.heap.size, 2, none⟩ x).setCell ⟨W.heap.size, 3, none⟩ y) A va S) := fun p q x y => HSet.out _ _ _ _ _ (HSet.out _ _ _ _ _ (HSet.out _ _ _ _ _ (HSet.out _ _ _ _ _ hX (Or.inl rfl) ⟨_, n0⟩) (Or.inl rfl) ⟨_, t1c n0⟩) (Or.inl rfl) ⟨_, t2c n0⟩) (Or.inl rfl) ⟨_, t3c n0⟩
      have hlt' : ¬ ((k : Nat) : Int) < ((l.length : Nat) : Int) := by omega
      rcases hb.out with rfl | hlb
      · have e0 : fd0 = ⟨0, 0, ⟨#[]⟩, false⟩ := rfl
        rw [e0] at *
        cases ci with
        | true =>
          go_wp2
          refine bodyPost_ret (res_f4 Tryz.results85 (t4_set _ _ _ _ n0) rfl) rfl ?_
          rw [HRES.out]
          exact ⟨rfl, HXX.out _ _ _ _⟩
        | false =>
          go_wp2
          refine bodyPost_ret (res_f4 Tryz.results85 (t4_set _ _ _ _ n0) rfl) rfl ?_
          rw [HRES.out]
          exact ⟨rfl, HXX.out _ _ _ _⟩
      · have h0 : best.k ≠ 0 := fun e => by simp [leads, e] at hlb
        have h0' : (best.k == 0) = false := by simp [h0]
        have HEB : Hid (encB best ci = best) := by show _ = _; unfold encB; rw [if_neg h0]
        clear hlb h0
        go_wp2
        refine bodyPost_ret (res_f4 Tryz.results85 (t4_set _ _ _ _ n0) rfl) rfl ?_
        rw [HRES.out, HEB.out]
        exact ⟨rfl, HXX.out _ _ _ _⟩
end Go.Proofs.YtadkmlcnmkdfiaaGreatDoor
