/- Own text. The document's Resolve: what was asked, as a list; mathematics and memory. One star more to a module more: mathematics. One star more: what the contracts answer. One star more: lists that are copied, in memory. One star more: the walk of the statement. -/
import Derived.Test.YtpmbacidijfjjaaGreatDoorGpC
import Derived.Test.YtpmbacidijfjjaaGreatDoorGpH
import Derived.Test.YtpmbacidijfjjaaGreatDoorGpI
import Derived.Deep.Onto
namespace Go.Proofs.YtpmbacidijfjjaaGreatDoor
open Go.RowKit Xp
set_option linter.unusedVariables false
set_option linter.unusedSimpArgs false

/-- what was asked, as a list. -/
def stA (A : List (Qn × Bool)) : St := fun q => match A.find? (fun x => decide (x.1 = q)) with
  | none => 0
  | some x => if x.2 then 1 else 2
theorem stA_none {A : List (Qn × Bool)} {q : Qn} (h : ∀ x ∈ A, x.1 ≠ q) : stA A q = 0 := by
  have : A.find? (fun x => decide (x.1 = q)) = none := List.find?_eq_none.2 fun x hx => by simpa using h x hx
  unfold stA; rw [this]
theorem stA_some {A : List (Qn × Bool)} {k : Nat} (hk : k < A.length) (h : ∀ j (hj : j < A.length), j < k → A[j].1 ≠ A[k].1) : stA A A[k].1 = if A[k].2 then 1 else 2 := by
  have : A.find? (fun x => decide (x.1 = A[k].1)) = some A[k] := List.find?_eq_some_iff_getElem.2 ⟨by simp, k, hk, rfl, fun j hj => by simpa using h j (by omega) hj⟩
  unfold stA; rw [this]
theorem stA_zero {A : List (Qn × Bool)} {q : Qn} (h : stA A q = 0) : ∀ x ∈ A, x.1 ≠ q := fun x hx e => by
  unfold stA at h
  cases hf : A.find? (fun x => decide (x.1 = q)) with
  | none => exact absurd (List.find?_eq_none.1 hf x hx) (by simp [e])
  | some y => rw [hf] at h; simp only at h; split at h <;> cases h
theorem stA_push {A : List (Qn × Bool)} {q : Qn} (h : stA A q = 0) : stA (A ++ [(q, true)]) = (stA A).set q 1 := by
  funext p
  unfold stA St.set
  rw [List.find?_append]
  by_cases e : p = q
  · subst e
    have : A.find? (fun x => decide (x.1 = p)) = none := List.find?_eq_none.2 fun x hx => by simpa using stA_zero h x hx
    simp [this]
  · have e' : ¬ q = p := fun e2 => e e2.symm
    cases hf : A.find? (fun x => decide (x.1 = p)) <;> simp [hf, e, e']
theorem stA_close {A B : List (Qn × Bool)} {q : Qn} (h : ∀ x ∈ A, x.1 ≠ q) : stA (A ++ (q, false) :: B) = (stA (A ++ (q, true) :: B)).set q 2 := by
  funext p
  unfold stA St.set
  simp only [List.find?_append]
  by_cases e : p = q
  · subst e
    have : A.find? (fun x => decide (x.1 = p)) = none := List.find?_eq_none.2 fun x hx => by simpa using h x hx
    simp [this]
  · have e' : ¬ q = p := fun e2 => e e2.symm
    cases hf : A.find? (fun x => decide (x.1 = p)) <;> simp [hf, e, e']
theorem stA_le2 (A : List (Qn × Bool)) : ∀ q, stA A q ≤ 2 := fun q => by
  unfold stA
  split
  · omega
  · split <;> omega
/-- answers are of five kinds. -/
def Five (v : Fnd) : Prop := v = fd0 ∨ v.k = 1 ∨ v.k = 2 ∨ v = amb ∨ v = circ
theorem five_ask (L : List Es) (n0 : ByteArray) (S : St) (q : Qn) : Five (Xp.ask L n0 S q).1 := by
  refine ask_all Five (Or.inl rfl) (by simp [Five]) (by simp [Five]) (fun e he q v hf => ?_) (fun a b ha hb => ?_) (fun t v hv => ?_) _ _ _
  · unfold first at hf
    split at hf
    · cases hf; simp [Five]
    · split at hf
      · split at hf
        · cases hf; simp [Five]
        · cases hf
      · split at hf
        · cases hf; simp [Five]
        · cases hf
  · rcases ha with rfl | h | h | rfl | rfl
    · exact Or.inl rfl
    · exact Or.inr (Or.inl h)
    · exact Or.inr (Or.inr (Or.inl h))
    · exact Or.inr (Or.inr (Or.inr (Or.inl rfl)))
    · exact Or.inr (Or.inr (Or.inr (Or.inr rfl)))
  · rcases hv with rfl | h | h | rfl | rfl
    · exact Or.inl (by cases t <;> rfl)
    · exact Or.inr (Or.inl h)
    · exact Or.inr (Or.inr (Or.inl h))
    · exact Or.inr (Or.inr (Or.inr (Or.inl (by cases t <;> rfl))))
    · exact Or.inr (Or.inr (Or.inr (Or.inr (by cases t <;> rfl))))
/-- what the document's stars hold so far. -/
def encB (best : Fnd) (ci : Bool) : Fnd := if best.k = 0 then (if ci then circ else fd0) else best
theorem enc_amb (best : Fnd) (ci : Bool) : joined (encB best ci) amb = amb := joined_amb _
theorem enc_none (best : Fnd) (ci : Bool) : joined (encB best ci) fd0 = encB best ci := by unfold joined; simp [fd0]
theorem enc_circ (best : Fnd) (ci : Bool) (hb : best.k = 0 ∨ leads best = true) : joined (encB best ci) circ = encB best true := by
  rcases hb with h | h
  · unfold encB
    simp only [h, if_true]
    cases ci <;> simp [joined, circ, fd0, leads]
  · have h0 : best.k ≠ 0 := fun e => by simp [leads, e] at h
    unfold encB
    simp only [h0, if_false]
    unfold joined
    simp [h, circ]
theorem enc_first (best f : Fnd) (ci : Bool) (hb : best.k = 0) (hf : leads f = true) : joined (encB best ci) f = encB f ci := by
  have h0 : f.k ≠ 0 := fun e => by simp [leads, e] at hf
  have h4 : f.k ≠ 4 := fun e => by simp [leads, e] at hf
  unfold encB
  simp only [hb, if_true, h0, if_false]
  unfold joined
  cases ci <;> simp [h0, h4, circ, fd0, leads]
theorem enc_same (best f : Fnd) (ci : Bool) (hb : leads best = true) (hf : leads f = true) (h : best.k = f.k ∧ best.mod = f.mod ∧ best.name = f.name) : joined (encB best ci) f = encB { best with ty := best.ty && f.ty } ci := by
  have h0 : best.k ≠ 0 := fun e => by simp [leads, e] at hb
  have h0' : f.k ≠ 0 := fun e => by simp [leads, e] at hf
  have h4 : f.k ≠ 4 := fun e => by simp [leads, e] at hf
  unfold encB
  simp only [h0, if_false]
  unfold joined
  rw [if_neg (by simp [h0', h4]), if_neg (by simp [hb]), if_pos h]
theorem enc_other (best f : Fnd) (ci : Bool) (hb : leads best = true) (hf : leads f = true) (h : ¬ (best.k = f.k ∧ best.mod = f.mod ∧ best.name = f.name)) : joined (encB best ci) f = amb := by
  have h0 : best.k ≠ 0 := fun e => by simp [leads, e] at hb
  have h0' : f.k ≠ 0 := fun e => by simp [leads, e] at hf
  have h4 : f.k ≠ 4 := fun e => by simp [leads, e] at hf
  unfold encB
  simp only [h0, if_false]
  unfold joined
  rw [if_neg (by simp [h0', h4]), if_neg (by simp [hb]), if_neg h]
theorem enc_end (best : Fnd) (ci : Bool) : encB best ci = if best.k = 0 ∧ ci = true then circ else (if best.k = 0 then fd0 else best) := by
  unfold encB
  by_cases h : best.k = 0 <;> cases ci <;> simp [h]
theorem enc_k3 (best : Fnd) (ci : Bool) (hb : best.k = 0 ∨ leads best = true) : (encB best ci).k ≠ 3 := by
  rcases hb with h | h
  · unfold encB; cases ci <;> simp [h, circ, fd0]
  · have h0 : best.k ≠ 0 := fun e => by simp [leads, e] at h
    have h3 : best.k ≠ 3 := fun e => by simp [leads, e] at h
    unfold encB; simp [h0, h3]

def askC (A : List (Qn × Bool)) : List Value := A.flatMap fun x => [.int .i64 x.1.1, .string x.1.2, .bool x.2]
theorem askC_len : ∀ (A : List (Qn × Bool)), (askC A).length = A.length * 3
  | [] => rfl
  | p :: A => by
    have := askC_len A
    unfold askC at this ⊢
    rw [List.flatMap_cons, List.length_append, this]
    simp
    omega
theorem askC_app (A B : List (Qn × Bool)) : askC (A ++ B) = askC A ++ askC B := by simp [askC]
theorem askC_at {A : List (Qn × Bool)} {k : Nat} (hk : k < A.length) {j : Nat} (hj : j < 3) : (askC A)[k * 3 + j]? = ([.int .i64 A[k].1.1, .string A[k].1.2, .bool A[k].2] : List Value)[j]? := by
  have e : A = A.take k ++ A[k] :: A.drop (k + 1) := by simp
  have l : (A.take k).length = k := by simp; omega
  conv => lhs; rw [e, askC_app]
  rw [List.getElem?_append_right (by rw [askC_len, l]; omega), askC_len, l]
  unfold askC
  rw [List.flatMap_cons, show k * 3 + j - k * 3 = j by omega, List.getElem?_append_left (by simpa using hj)]
/-- the document's walk in memory. -/
structure RWk (W : World) (lo wk : Nat) (v : Value) (A : List (Qn × Bool)) (va : Value) : Prop where
  blk : W.heap[wk]? = some (.cells #[v, va] 74 (0, 0))
  row : W.ownsRow lo 114 3 va A.length (askC A)
  ne : va.ownBlock ≠ some wk
  lo : lo ≤ wk
structure Fx (wk : Nat) (va : Value) (W W' : World) : Prop where
  os : W'.os = W.os
  tape : W'.tape = W.tape
  output : W'.output = W.output
  size : W.heap.size ≤ W'.heap.size
  block : ∀ k, k < W.heap.size → k ≠ wk → va.ownBlock ≠ some k → W'.heap[k]? = W.heap[k]?
theorem Fx.bel {wk : Nat} {va : Value} {W W' : World} (h : Below W.heap.size W W') : Fx wk va W W' := ⟨h.os, h.tape, h.output, h.size, fun k hk _ _ => h.block k hk⟩
/-- the row behind may be a new one. -/
theorem Fx.trans {wk : Nat} {va vb : Value} {a b c : World} (h : Fx wk va a b) (k : Fx wk vb b c) (hv : ∀ i, vb.ownBlock = some i → va.ownBlock = some i ∨ a.heap.size ≤ i) : Fx wk va a c :=
  ⟨k.os.trans h.os, k.tape.trans h.tape, k.output.trans h.output, Nat.le_trans h.size k.size, fun i hi h1 h2 => (k.block i (Nat.lt_of_lt_of_le hi h.size) h1 (fun e => by
    rcases hv i e with e' | e'
    · exact h2 e'
    · omega)).trans (h.block i hi h1 h2)⟩
theorem RWk.lt {W : World} {lo wk : Nat} {v : Value} {A : List (Qn × Bool)} {va : Value} (h : RWk W lo wk v A va) : wk < W.heap.size := (Array.getElem?_eq_some_iff.1 h.blk).1
theorem RWk.bel {W W' : World} {lo wk : Nat} {v : Value} {A : List (Qn × Bool)} {va : Value} (h : RWk W lo wk v A va) (b : Below W.heap.size W W') : RWk W' lo wk v A va :=
  ⟨(b.block _ h.lt).trans h.blk, row_keep h.row fun i hi => b.block _ (World.ownsRow.lt h.row i hi).2, h.ne, h.lo⟩
theorem RWk.below {W W' : World} {lo wk : Nat} {v : Value} {A : List (Qn × Bool)} {va : Value} (h : RWk W lo wk v A va) (f : Fx wk va W W') (hl : lo ≤ W.heap.size) : Below lo W W' :=
  ⟨f.os, f.tape, f.output, f.size, fun k hk => f.block k (by omega) (by have := h.lo; omega) (fun e => by have := (World.ownsRow.lt h.row k e).1; omega)⟩
end Go.Proofs.YtpmbacidijfjjaaGreatDoor
namespace Go.Proofs.YtpmbacidijfjjaaGreatDoor
open Xp
set_option linter.unusedVariables false
set_option linter.unusedSimpArgs false
namespace Xp

/-- the same binding. -/
def Sim (a b : Fnd) : Prop := a.k = b.k ∧ a.mod = b.mod ∧ a.name = b.name
theorem Sim.refl (a : Fnd) : Sim a a := ⟨rfl, rfl, rfl⟩
theorem Sim.symm {a b : Fnd} (h : Sim a b) : Sim b a := ⟨h.1.symm, h.2.1.symm, h.2.2.symm⟩
theorem Sim.trans {a b c : Fnd} (h : Sim a b) (k : Sim b c) : Sim a c := ⟨h.1.trans k.1, h.2.1.trans k.2.1, h.2.2.trans k.2.2⟩
theorem Sim.leads {a b : Fnd} (h : Sim a b) : leads a = leads b := by unfold Xp.leads; rw [h.1]
theorem sim_ty (a : Fnd) (t : Bool) : Sim { a with ty := t } a := ⟨rfl, rfl, rfl⟩
theorem lead_k0 {a : Fnd} (h : leads a = true) : a.k ≠ 0 := fun e => by simp [leads, e] at h
theorem lead_k4 {a : Fnd} (h : leads a = true) : a.k ≠ 4 := fun e => by simp [leads, e] at h
theorem lead_k3 {a : Fnd} (h : leads a = true) : a.k ≠ 3 := fun e => by simp [leads, e] at h
theorem joined_r0 {a b : Fnd} (h : b.k = 0) : joined a b = a := by unfold joined; simp [h]
theorem joined_c {a b : Fnd} (h : b.k = 4) (ha : leads a = true) : joined a b = a := by unfold joined; simp [h, ha]
theorem joined_nl {a b : Fnd} (h : b.k ≠ 0) (ha : leads a = false) : joined a b = b := by unfold joined; rw [if_neg (by simp [h, ha]), if_pos ha]
theorem joined_s {a b : Fnd} (ha : leads a = true) (hb : leads b = true) (h : Sim a b) : joined a b = { a with ty := a.ty && b.ty } := by
  unfold joined; rw [if_neg (by simp [lead_k0 hb, lead_k4 hb]), if_neg (by simp [ha]), if_pos (show a.k = b.k ∧ a.mod = b.mod ∧ a.name = b.name from h)]
theorem joined_n {a b : Fnd} (ha : leads a = true) (hb : leads b = true) (h : ¬ Sim a b) : joined a b = amb := by
  unfold joined; rw [if_neg (by simp [lead_k0 hb, lead_k4 hb]), if_neg (by simp [ha]), if_neg (show ¬ (a.k = b.k ∧ a.mod = b.mod ∧ a.name = b.name) from h)]
theorem clo_sim (t : Bool) (v : Fnd) : Sim (clo t v) v := ⟨rfl, rfl, rfl⟩
def K4 (b : Fnd) : Prop := b.k = 0 ∨ b.k = 4 ∨ leads b = true ∨ b = amb
theorem K4.of {v : Fnd} (h : Five v) : K4 v := by
  rcases h with rfl | h | h | rfl | rfl
  · exact Or.inl rfl
  · exact Or.inr (Or.inr (Or.inl (by simp [leads, h])))
  · exact Or.inr (Or.inr (Or.inl (by simp [leads, h])))
  · exact Or.inr (Or.inr (Or.inr rfl))
  · exact Or.inr (Or.inl rfl)
theorem k4_ask (L : List Es) (f : Nat) (S : St) (q : Qn) : K4 (askF L f S q).1 := by
  refine K4.of (ask_all Five (Or.inl rfl) (by simp [Five]) (by simp [Five]) (fun e he q v hf => ?_) (fun a b ha hb => ?_) (fun t v hv => ?_) _ _ _)
  · unfold first at hf
    split at hf
    · cases hf; simp [Five]
    · split at hf
      · split at hf
        · cases hf; simp [Five]
        · cases hf
      · split at hf
        · cases hf; simp [Five]
        · cases hf
  · rcases ha with rfl | h | h | rfl | rfl
    · exact Or.inl rfl
    · exact Or.inr (Or.inl h)
    · exact Or.inr (Or.inr (Or.inl h))
    · exact Or.inr (Or.inr (Or.inr (Or.inl rfl)))
    · exact Or.inr (Or.inr (Or.inr (Or.inr rfl)))
  · rcases hv with rfl | h | h | rfl | rfl
    · exact Or.inl (by cases t <;> rfl)
    · exact Or.inr (Or.inl h)
    · exact Or.inr (Or.inr (Or.inl h))
    · exact Or.inr (Or.inr (Or.inr (Or.inl (by cases t <;> rfl))))
    · exact Or.inr (Or.inr (Or.inr (Or.inr (by cases t <;> rfl))))
/-- once it leads, it leads there, or is ambiguous. -/
theorem frG_keep {ask : St → Qn → Fnd × St} (hk : ∀ S q, K4 (ask S q).1) (name : ByteArray) : ∀ (l : List En) (S : St) (v : Fnd), leads v = true → (frG ask name S l v).1 = amb ∨ (leads (frG ask name S l v).1 = true ∧ Sim (frG ask name S l v).1 v)
  | [], S, v, hv => Or.inr ⟨hv, Sim.refl v⟩
  | e :: l, S, v, hv => by
    unfold frG
    simp only []
    rcases hk S (e.mod, name) with h | h | h | h
    · rw [joined_r0 h, if_neg (lead_k3 hv)]; exact frG_keep hk name l _ v hv
    · rw [joined_c h hv, if_neg (lead_k3 hv)]; exact frG_keep hk name l _ v hv
    · by_cases hs : Sim v (ask S (e.mod, name)).1
      · rw [joined_s hv h hs, if_neg (lead_k3 (a := { v with ty := v.ty && (ask S (e.mod, name)).1.ty }) hv)]
        rcases frG_keep hk name l (ask S (e.mod, name)).2 { v with ty := v.ty && (ask S (e.mod, name)).1.ty } hv with h1 | ⟨h1, h2⟩
        · exact Or.inl h1
        · exact Or.inr ⟨h1, h2.trans (sim_ty _ _)⟩
      · rw [joined_n hv h hs]; exact Or.inl rfl
    · rw [h, joined_amb]; exact Or.inl rfl
theorem frG_app (ask : St → Qn → Fnd × St) (name : ByteArray) (z : En) : ∀ (l : List En) (S : St) (v : Fnd), v.k ≠ 3 → frG ask name S (l ++ [z]) v = if (frG ask name S l v).1.k = 3 then frG ask name S l v else frG ask name (frG ask name S l v).2 [z] (frG ask name S l v).1
  | [], S, v, hv => by
    rw [List.nil_append, show frG ask name S [] v = (v, S) from rfl, if_neg hv]
  | e :: l, S, v, hv => by
    rw [List.cons_append]
    simp only [frG]
    by_cases h : (joined v (ask S (e.mod, name)).1).k = 3
    · simp [h]
    · simp only [h, if_false]
      exact frG_app ask name z l _ _ h

/-- modules, and the same with one more. -/
structure Wy where
  L : List Es
  M : List Es
  mod : Nat
  nm : ByteArray
  e : Es
  z : En
  E : Es
  N : Fnd
structure Wy.ok (c : Wy) : Prop where
  hl : c.mod < c.L.length
  he : c.L[c.mod]? = some c.e
  hM : ∀ m, m < c.L.length → m ≠ c.mod → c.M[m]? = c.L[m]?
  hm : c.M[c.mod]? = some ⟨c.e.imp, c.e.own, c.e.oth, c.e.st ++ [c.z]⟩
  hn : c.M[c.L.length]? = some c.E
  ho : ∀ m, c.L.length < m → c.M[m]? = none
  hz : c.z.mod = (c.L.length : Nat)
  e1 : first c.E ((c.L.length : Nat), c.nm) = .val c.N
  e2 : ∀ x, x ≠ c.nm → first c.E ((c.L.length : Nat), x) = .val fd0 ∨ first c.E ((c.L.length : Nat), x) = .go [] x false
  hN : leads c.N = true
abbrev Wy.n (c : Wy) : Int := (c.L.length : Nat)
structure Ag (c : Wy) (S S' : St) : Prop where
  a : ∀ q : Qn, q.1 ≠ c.n → S' q = S q
  b : ∀ x, S' (c.n, x) ≠ 1
  o : S ((c.mod : Nat), c.nm) ≠ 0
def HR (N v v' : Fnd) : Prop := leads v' = true ∧ Sim v' N ∧ (leads v = true → Sim v N)
/-- how far the two have come: from a state S0 of the second one on. -/
def Rl (c : Wy) (S0 : St) (r r' : Fnd × St) : Prop :=
  (r'.1 = amb ∧ (r.1 = amb ∨ (leads r.1 = true ∧ ¬ Sim r.1 c.N))) ∨
  (Ag c r.2 r'.2 ∧ ((r'.1 = r.1 ∧ r'.2 (c.n, c.nm) = S0 (c.n, c.nm)) ∨ (S0 (c.n, c.nm) = 0 ∧ r'.2 (c.n, c.nm) ≠ 0 ∧ r.1.k ≠ 3 ∧ HR c.N r.1 r'.1)))
theorem Ag.set {c : Wy} {S S' : St} (h : Ag c S S') {q : Qn} (hq : q.1 ≠ c.n) {k : Nat} (hk : k ≠ 0) : Ag c (S.set q k) (S'.set q k) ∧ ∀ x, S'.set q k (c.n, x) = S' (c.n, x) := by
  have hx : ∀ x, S'.set q k (c.n, x) = S' (c.n, x) := fun x => St.set_ne _ _ (fun e => hq (by rw [← e]))
  refine ⟨⟨fun p hp => ?_, fun x => by rw [hx]; exact h.b x, ?_⟩, hx⟩
  · unfold St.set
    split
    · rfl
    · exact h.a p hp
  · unfold St.set
    split
    · exact hk
    · exact h.o
/-- the module more. -/
theorem ask_more {c : Wy} (hc : c.ok) (f : Nat) {S S' : St} (h : Ag c S S') (x : ByteArray) : Rl c S' (askF c.L f S (c.n, x)) (askF c.M f S' (c.n, x)) ∧ (x ≠ c.nm → (askF c.M f S' (c.n, x)).1 = fd0 ∧ Ag c S (askF c.M f S' (c.n, x)).2 ∧ (askF c.M f S' (c.n, x)).2 (c.n, c.nm) = S' (c.n, c.nm)) := by
  have hL : askF c.L f S (c.n, x) = (fd0, S) := by
    cases f with
    | zero => rfl
    | succ f =>
      show stepF c.L _ S _ = _
      unfold stepF
      rw [if_pos (by show (0 : Int) ≤ ((c.L.length : Nat) : Int); omega)]
      have : c.L[(c.n, x).1.toNat]? = none := by show c.L[((c.L.length : Nat) : Int).toNat]? = none; simp
      rw [this]
  rw [hL]
  cases f with
  | zero =>
    refine ⟨Or.inr ⟨h, Or.inl ⟨rfl, rfl⟩⟩, fun _ => ⟨rfl, h, rfl⟩⟩
  | succ f =>
    have hM : askF c.M (f + 1) S' (c.n, x) = if S' (c.n, x) ≠ 0 then (fd0, S') else match first c.E (c.n, x) with
        | .val v => (v, S'.set (c.n, x) 2)
        | .go left name ty => let r := frG (askF c.M f) name (S'.set (c.n, x) 1) left fd0; (clo ty r.1, r.2.set (c.n, x) 2) := by
      show stepF c.M _ S' _ = _
      unfold stepF
      rw [if_pos (by show (0 : Int) ≤ ((c.L.length : Nat) : Int); omega)]
      have : c.M[(c.n, x).1.toNat]? = some c.E := by show c.M[((c.L.length : Nat) : Int).toNat]? = some c.E; rw [show ((c.L.length : Nat) : Int).toNat = c.L.length by simp]; exact hc.hn
      rw [this]
      have hb := h.b x
      by_cases h0 : S' (c.n, x) = 0
      · simp only [h0, Nat.zero_ne_one, if_false, ne_eq, not_true_eq_false]
        cases first c.E (c.n, x) <;> rfl
      · simp only [hb, h0, if_false, ne_eq, not_false_eq_true, if_true]
    rw [hM]
    have ag : Ag c S (S'.set (c.n, x) 2) := ⟨fun q hq => by rw [St.set_ne _ _ (fun e => hq (by rw [e]))]; exact h.a q hq, fun y => by unfold St.set; split; exact (by decide); exact h.b y, h.o⟩
    by_cases h0 : S' (c.n, x) = 0
    · rw [if_neg (by simp [h0])]
      by_cases hx : x = c.nm
      · subst hx
        rw [show first c.E (c.n, c.nm) = .val c.N from hc.e1]
        simp only []
        exact ⟨Or.inr ⟨ag, Or.inr ⟨h0, by show (S'.set (c.n, c.nm) 2) (c.n, c.nm) ≠ 0; rw [St.set_self]; decide, by show fd0.k ≠ 3; decide, hc.hN, Sim.refl _, fun e => by cases e⟩⟩, fun e => absurd rfl e⟩
      · have hne : (S'.set (c.n, x) 2) (c.n, c.nm) = S' (c.n, c.nm) := St.set_ne _ _ (fun e => hx (by injection e with _ e; exact e.symm))
        have hs : ∀ k, (S'.set (c.n, x) k).set (c.n, x) 2 = S'.set (c.n, x) 2 := fun k => by funext p; unfold St.set; split <;> simp_all
        rcases hc.e2 x hx with e | e
        · rw [show first c.E (c.n, x) = .val fd0 from e]
          exact ⟨Or.inr ⟨ag, Or.inl ⟨rfl, hne⟩⟩, fun _ => ⟨rfl, ag, hne⟩⟩
        · rw [show first c.E (c.n, x) = .go [] x false from e]
          simp only [frG, hs]
          have : clo false fd0 = fd0 := rfl
          rw [this]
          exact ⟨Or.inr ⟨ag, Or.inl ⟨rfl, hne⟩⟩, fun _ => ⟨rfl, ag, hne⟩⟩
    · rw [if_pos h0]
      exact ⟨Or.inr ⟨h, Or.inl ⟨rfl, rfl⟩⟩, fun _ => ⟨rfl, h, rfl⟩⟩
/-- one after the other. -/
theorem fr_sim {c : Wy} (hc : c.ok) {f : Nat} (ih : ∀ S S' q, Ag c S S' → Rl c S' (askF c.L f S q) (askF c.M f S' q)) (name : ByteArray) (S0 : St) : ∀ (l : List En) (S S' : St) (v v' : Fnd), v.k ≠ 3 → v'.k ≠ 3 → Rl c S0 (v, S) (v', S') → Rl c S0 (frG (askF c.L f) name S l v) (frG (askF c.M f) name S' l v')
  | [], S, S', v, v', _, _, h => h
  | e :: l, S, S', v, v', h3, h3', h => by
    rcases h with ⟨h1, _⟩ | ⟨ag, h⟩
    · exact absurd (by rw [show v' = amb from h1]; rfl) h3'
    have r := ih S S' (e.mod, name) ag
    have kL := k4_ask c.L f S (e.mod, name)
    simp only [frG]
    generalize askF c.L f S (e.mod, name) = a at *
    generalize askF c.M f S' (e.mod, name) = a' at *
    obtain ⟨a, T⟩ := a
    obtain ⟨a', T'⟩ := a'
    simp only at r kL h ag ⊢
    -- the second one ends
    have stop : ∀ (j : Fnd), leads j = true → ¬ Sim j c.N → j.k ≠ 3 → Rl c S0 (frG (askF c.L f) name T l j) (amb, T') := fun j hj hs _ => by
      rcases frG_keep (k4_ask c.L f) name l T j hj with k | ⟨k1, k2⟩
      · exact Or.inl ⟨rfl, Or.inl k⟩
      · exact Or.inl ⟨rfl, Or.inr ⟨k1, fun e => hs (k2.symm.trans e)⟩⟩
    have go : ∀ (j j' : Fnd), Rl c S0 (j, T) (j', T') → Rl c S0 (if j.k = 3 then (j, T) else frG (askF c.L f) name T l j) (if j'.k = 3 then (j', T') else frG (askF c.M f) name T' l j') := fun j j' hj => by
      by_cases k : j.k = 3
      · by_cases k' : j'.k = 3
        · rw [if_pos k, if_pos k']; exact hj
        · rcases hj with ⟨h1, _⟩ | ⟨_, ⟨h1, _⟩ | ⟨_, _, h1, _⟩⟩
          · exact absurd (by rw [show j' = amb from h1]; rfl) k'
          · exact absurd (by rw [show j' = j from h1]; exact k) k'
          · exact absurd k h1
      · by_cases k' : j'.k = 3
        · rcases hj with ⟨h1, h2 | ⟨h2, h4⟩⟩ | ⟨_, ⟨h1, _⟩ | ⟨_, _, _, h1, _⟩⟩
          · exact absurd (by rw [show j = amb from h2]; rfl) k
          · rw [if_neg k, if_pos k', show j' = amb from h1]
            exact stop j h2 h4 k
          · exact absurd (by rw [← (show j' = j from h1)]; exact k') k
          · exact absurd k' (lead_k3 h1)
        · rw [if_neg k, if_neg k']
          exact fr_sim hc ih name S0 l T T' j j' k k' hj
    refine go _ _ ?_
    rcases r with ⟨r1, r2⟩ | ⟨ag2, r⟩
    · -- the second one's is ambiguous
      obtain rfl : a' = amb := r1
      rw [joined_amb]
      rcases r2 with r2 | ⟨r2, r4⟩
      · obtain rfl : a = amb := r2
        rw [joined_amb]
        exact Or.inl ⟨rfl, Or.inl rfl⟩
      · refine Or.inl ⟨rfl, ?_⟩
        by_cases hv : leads v = true
        · by_cases hs : Sim v a
          · rw [joined_s hv r2 hs]
            exact Or.inr ⟨hv, fun e => r4 (hs.symm.trans ((sim_ty _ _).symm.trans e))⟩
          · rw [joined_n hv r2 hs]; exact Or.inl rfl
        · rw [joined_nl (lead_k0 r2) (by simpa using hv)]
          exact Or.inr ⟨r2, r4⟩
    · rcases h with ⟨h1, h2⟩ | ⟨h1, h2, h4, hr⟩
      · obtain rfl : v' = v := h1
        rcases r with ⟨r1, r2⟩ | ⟨r1, r2, r4, rr⟩
        · obtain rfl : a' = a := r1
          exact Or.inr ⟨ag2, Or.inl ⟨rfl, r2.trans h2⟩⟩
        · obtain ⟨q1, q2, q3⟩ := rr
          have hz : S0 (c.n, c.nm) = 0 := h2.symm.trans r1
          by_cases hv : leads v' = true
          · by_cases hs : Sim v' c.N
            · have e' : joined v' a' = { v' with ty := v'.ty && a'.ty } := joined_s hv q1 (hs.trans q2.symm)
              rw [e']
              rcases kL with k | k | k | k
              · rw [joined_r0 k]; exact Or.inr ⟨ag2, Or.inr ⟨hz, r2, h3, hv, (sim_ty _ _).trans hs, fun _ => hs⟩⟩
              · rw [joined_c k hv]; exact Or.inr ⟨ag2, Or.inr ⟨hz, r2, h3, hv, (sim_ty _ _).trans hs, fun _ => hs⟩⟩
              · rw [joined_s hv k (hs.trans (q3 k).symm)]; exact Or.inr ⟨ag2, Or.inr ⟨hz, r2, h3, hv, (sim_ty _ _).trans hs, fun _ => (sim_ty _ _).trans hs⟩⟩
              · exact absurd (by rw [k]; rfl) r4
            · rw [joined_n hv q1 (fun e => hs (e.trans q2))]
              refine Or.inl ⟨rfl, ?_⟩
              rcases kL with k | k | k | k
              · rw [joined_r0 k]; exact Or.inr ⟨hv, hs⟩
              · rw [joined_c k hv]; exact Or.inr ⟨hv, hs⟩
              · rw [joined_n hv k (fun e => hs (e.trans (q3 k)))]; exact Or.inl rfl
              · exact absurd (by rw [k]; rfl) r4
          · have hv' : leads v' = false := by simpa using hv
            rw [joined_nl (lead_k0 q1) hv']
            have : (joined v' a).k ≠ 3 ∧ (leads (joined v' a) = true → Sim (joined v' a) c.N) := by
              by_cases k : a.k = 0
              · rw [joined_r0 k]; exact ⟨h3, fun e => absurd e hv⟩
              · rw [joined_nl k hv']; exact ⟨r4, q3⟩
            exact Or.inr ⟨ag2, Or.inr ⟨hz, r2, this.1, q1, q2, this.2⟩⟩
      · obtain ⟨q1, q2, q3⟩ := hr
        rcases r with ⟨r1, r2⟩ | ⟨r1, _⟩
        · obtain rfl : a' = a := r1
          have h2' : T' (c.n, c.nm) ≠ 0 := by rw [show T' (c.n, c.nm) = S' (c.n, c.nm) from r2]; exact h2
          rcases kL with k | k | k | k
          · rw [joined_r0 k, joined_r0 k]; exact Or.inr ⟨ag2, Or.inr ⟨h1, h2', h3, q1, q2, q3⟩⟩
          · rw [joined_c k q1]
            by_cases hv : leads v = true
            · rw [joined_c k hv]; exact Or.inr ⟨ag2, Or.inr ⟨h1, h2', h3, q1, q2, q3⟩⟩
            · rw [joined_nl (by rw [k]; decide) (by simpa using hv)]
              exact Or.inr ⟨ag2, Or.inr ⟨h1, h2', by rw [k]; decide, q1, q2, fun e => absurd k (lead_k4 e)⟩⟩
          · by_cases hs : Sim a' c.N
            · rw [joined_s q1 k (q2.trans hs.symm)]
              by_cases hv : leads v = true
              · rw [joined_s hv k ((q3 hv).trans hs.symm)]; exact Or.inr ⟨ag2, Or.inr ⟨h1, h2', h3, q1, (sim_ty _ _).trans q2, fun _ => (sim_ty _ _).trans (q3 hv)⟩⟩
              · rw [joined_nl (lead_k0 k) (by simpa using hv)]
                exact Or.inr ⟨ag2, Or.inr ⟨h1, h2', lead_k3 k, q1, (sim_ty _ _).trans q2, fun _ => hs⟩⟩
            · rw [joined_n q1 k (fun e => hs (e.symm.trans q2))]
              refine Or.inl ⟨rfl, ?_⟩
              by_cases hv : leads v = true
              · rw [joined_n hv k (fun e => hs (e.symm.trans (q3 hv)))]; exact Or.inl rfl
              · rw [joined_nl (lead_k0 k) (by simpa using hv)]; exact Or.inr ⟨k, hs⟩
          · obtain rfl : a' = amb := k
            rw [joined_amb, joined_amb]
            exact Or.inl ⟨rfl, Or.inl rfl⟩
        · exact absurd r1 h2
/-- the two, question by question. -/
theorem ask_sim {c : Wy} (hc : c.ok) : ∀ (f : Nat) (S S' : St) (q : Qn), Ag c S S' → Rl c S' (askF c.L f S q) (askF c.M f S' q)
  | 0, S, S', q, h => Or.inr ⟨h, Or.inl ⟨rfl, rfl⟩⟩
  | f + 1, S, S', q, h => by
    have ih := ask_sim hc f
    by_cases hn : q.1 = c.n
    · obtain ⟨m, x⟩ := q
      obtain rfl : m = c.n := hn
      exact (ask_more hc (f + 1) h x).1
    have hS := h.a q hn
    show Rl c S' (stepF c.L (askF c.L f) S q) (stepF c.M (askF c.M f) S' q)
    unfold stepF
    by_cases h0 : 0 ≤ q.1
    rotate_left
    · rw [if_neg h0, if_neg h0]; exact Or.inr ⟨h, Or.inl ⟨rfl, rfl⟩⟩
    rw [if_pos h0, if_pos h0]
    by_cases hl : q.1.toNat < c.L.length
    rotate_left
    · have hlt : c.L.length < q.1.toNat := by
        have : q.1 ≠ ((c.L.length : Nat) : Int) := hn
        omega
      rw [List.getElem?_eq_none (by omega), hc.ho _ hlt]
      exact Or.inr ⟨h, Or.inl ⟨rfl, rfl⟩⟩
    rw [hS]
    obtain ⟨e, he⟩ : ∃ e, c.L[q.1.toNat]? = some e := ⟨_, List.getElem?_eq_getElem hl⟩
    rw [he]
    -- a star more, or none
    obtain ⟨e', he', hown, hoth, hst⟩ : ∃ e', c.M[q.1.toNat]? = some e' ∧ e'.own = e.own ∧ e'.oth = e.oth ∧ (e'.st = e.st ∨ (q.1 = ((c.mod : Nat) : Int) ∧ e'.st = e.st ++ [c.z])) := by
      by_cases hm : q.1.toNat = c.mod
      · have : e = c.e := by rw [hm, hc.he] at he; injection he with he; exact he.symm
        subst this
        exact ⟨⟨c.e.imp, c.e.own, c.e.oth, c.e.st ++ [c.z]⟩, by rw [hm]; exact hc.hm, rfl, rfl, Or.inr ⟨by omega, rfl⟩⟩
      · exact ⟨e, by rw [hc.hM _ hl hm]; exact he, rfl, rfl, Or.inl rfl⟩
    rw [he']
    simp only []
    by_cases s1 : S q = 1
    · rw [if_pos s1, if_pos s1]; exact Or.inr ⟨h, Or.inl ⟨rfl, rfl⟩⟩
    rw [if_neg s1, if_neg s1]
    by_cases s0 : S q = 0
    rotate_left
    · rw [if_pos s0, if_pos s0]; exact Or.inr ⟨h, Or.inl ⟨rfl, rfl⟩⟩
    rw [if_neg (by simp [s0]), if_neg (by simp [s0])]
    obtain ⟨ag1, hx1⟩ := h.set (k := 1) hn (by decide)
    have fin : ∀ (ty : Bool) (r r' : Fnd × St), Rl c S' r r' → Rl c S' (clo ty r.1, r.2.set q 2) (clo ty r'.1, r'.2.set q 2) := fun ty r r' hr => by
      rcases hr with ⟨a, b⟩ | ⟨ag, b⟩
      · refine Or.inl ⟨by show clo ty r'.1 = amb; rw [a]; cases ty <;> rfl, ?_⟩
        rcases b with b | ⟨b1, b2⟩
        · exact Or.inl (by show clo ty r.1 = amb; rw [b]; cases ty <;> rfl)
        · exact Or.inr ⟨((clo_sim ty r.1).leads).trans b1, fun e => b2 ((clo_sim ty r.1).symm.trans e)⟩
      · obtain ⟨ag2, hx2⟩ := ag.set (k := 2) hn (by decide)
        refine Or.inr ⟨ag2, ?_⟩
        rcases b with ⟨b1, b2⟩ | ⟨b1, b2, b3, b4, b5, b6⟩
        · exact Or.inl ⟨by show clo ty r'.1 = clo ty r.1; rw [b1], (hx2 _).trans b2⟩
        · exact Or.inr ⟨b1, by show (r'.2.set q 2) (c.n, c.nm) ≠ 0; rw [hx2]; exact b2, b3, ((clo_sim ty r'.1).leads).trans b4, (clo_sim ty r'.1).trans b5, fun e => (clo_sim ty r.1).trans (b6 (((clo_sim ty r.1).leads).symm.trans e))⟩
    have st : ∀ (l : List En) (name : ByteArray), Rl c S' (frG (askF c.L f) name (S.set q 1) l fd0) (frG (askF c.M f) name (S'.set q 1) l fd0) := fun l name =>
      fr_sim hc ih name S' l _ _ fd0 fd0 (by decide) (by decide) (Or.inr ⟨ag1, Or.inl ⟨rfl, hx1 _⟩⟩)
    have hf : ∀ v, first e q = .val v → first e' q = .val v := fun v hv => by
      unfold first at hv ⊢
      rw [hown, hoth]
      split at hv
      · exact hv
      · split at hv
        · split at hv
          · rename_i hs; rw [if_pos hs]; exact hv
          · cases hv
        · split at hv
          · rename_i hs; rw [if_pos hs]; exact hv
          · cases hv
    cases hfe : first e q with
    | val v =>
      rw [hf v hfe]
      simp only []
      obtain ⟨ag2, hx2⟩ := h.set (k := 2) hn (by decide)
      exact Or.inr ⟨ag2, Or.inl ⟨rfl, hx2 _⟩⟩
    | go left name ty =>
      have hfe' : first e' q = .go left name ty ∨ (q.1 = ((c.mod : Nat) : Int) ∧ name = q.2 ∧ first e' q = .go (left ++ [c.z]) name ty) := by
        unfold first at hfe ⊢
        rw [hown, hoth]
        split at hfe
        · cases hfe
        · split at hfe
          · split at hfe
            · cases hfe
            · rename_i hns
              rw [if_neg hns]; exact Or.inl hfe
          · split at hfe
            · cases hfe
            · rename_i hns
              rw [if_neg hns]
              cases hfe
              rcases hst with hst | ⟨hq, hst⟩
              · rw [hst]; exact Or.inl rfl
              · rw [hst]; exact Or.inr ⟨hq, rfl, rfl⟩
      rcases hfe' with hfe' | ⟨hq, hnq, hfe'⟩
      · rw [hfe']
        exact fin ty _ _ (st left name)
      · rw [hfe']
        simp only []
        have hne : name ≠ c.nm := fun e => h.o (by rw [← e, hnq, ← hq]; exact s0)
        refine fin ty _ _ ?_
        rw [frG_app _ _ _ _ _ _ (by decide)]
        have h1 := st left name
        generalize frG (askF c.L f) name (S.set q 1) left fd0 = r at *
        generalize frG (askF c.M f) name (S'.set q 1) left fd0 = r' at *
        by_cases k : r'.1.k = 3
        · rw [if_pos k]; exact h1
        · rw [if_neg k]
          rcases h1 with ⟨h1, _⟩ | ⟨ag, h1⟩
          · exact absurd (by rw [h1]; rfl) k
          · obtain ⟨m1, m2, m3⟩ := (ask_more hc f ag name).2 hne
            have e1 : frG (askF c.M f) name r'.2 [c.z] r'.1 = (r'.1, (askF c.M f r'.2 (c.n, name)).2) := by
              simp only [frG, hc.hz]
              rw [show askF c.M f r'.2 (((c.L.length : Nat) : Int), name) = askF c.M f r'.2 (c.n, name) from rfl, m1, joined_r0 rfl, if_neg k]
            rw [e1]
            refine Or.inr ⟨m2, ?_⟩
            rcases h1 with ⟨b1, b2⟩ | ⟨b1, b2, b3⟩
            · exact Or.inl ⟨b1, m3.trans b2⟩
            · exact Or.inr ⟨b1, by show (askF c.M f r'.2 (c.n, name)).2 _ ≠ 0; rw [m3]; exact b2, b3⟩
def Z0 : St := fun _ => 0
/-- what a module with one star more answers. -/
theorem ways {c : Wy} (hc : c.ok) (h1 : c.e.own.find? (fun x => x.there == c.nm) = none) (h2 : c.e.oth.find? (fun x => x.here == c.nm) = none) (h3 : c.nm ≠ dflt) (F : Nat) (hF : 1 ≤ F) {f g : Fnd} (hf : f = (askF c.L (F + 1) Z0 (((c.mod : Nat) : Int), c.nm)).1) (hg : g = (askF c.M (F + 1) Z0 (((c.mod : Nat) : Int), c.nm)).1) (hl : leads f = true) :
    (¬ Sim f c.N → g = amb) ∧ (Sim f c.N → Sim g f) := by
  have hq : (((c.mod : Nat) : Int), c.nm).1 ≠ c.n := by show ((c.mod : Nat) : Int) ≠ ((c.L.length : Nat) : Int); have := hc.hl; omega
  have cl : ∀ v : Fnd, clo false v = v := fun v => by unfold clo; simp
  have f1 : first c.e (((c.mod : Nat) : Int), c.nm) = .go c.e.st c.nm false := by unfold first; rw [h1, h2]; simp [h3]
  have f2 : first ⟨c.e.imp, c.e.own, c.e.oth, c.e.st ++ [c.z]⟩ (((c.mod : Nat) : Int), c.nm) = .go (c.e.st ++ [c.z]) c.nm false := by unfold first; rw [h1, h2]; simp [h3]
  have eL : f = (frG (askF c.L F) c.nm (Z0.set (((c.mod : Nat) : Int), c.nm) 1) c.e.st fd0).1 := by
    rw [hf]
    show (stepF c.L (askF c.L F) _ _).1 = _
    unfold stepF
    rw [if_pos (by show (0 : Int) ≤ ((c.mod : Nat) : Int); omega), show (((c.mod : Nat) : Int), c.nm).1.toNat = c.mod by simp, hc.he]
    simp only [f1, cl]
    rfl
  have eM : g = (frG (askF c.M F) c.nm (Z0.set (((c.mod : Nat) : Int), c.nm) 1) (c.e.st ++ [c.z]) fd0).1 := by
    rw [hg]
    show (stepF c.M (askF c.M F) _ _).1 = _
    unfold stepF
    rw [if_pos (by show (0 : Int) ≤ ((c.mod : Nat) : Int); omega), show (((c.mod : Nat) : Int), c.nm).1.toNat = c.mod by simp, hc.hm]
    simp only [f2, cl]
    rfl
  have ag : Ag c (Z0.set (((c.mod : Nat) : Int), c.nm) 1) (Z0.set (((c.mod : Nat) : Int), c.nm) 1) := by
    refine ⟨fun _ _ => rfl, fun x => ?_, by rw [St.set_self]; decide⟩
    rw [St.set_ne _ _ (fun e => hq (by rw [← e]))]; show (0 : Nat) ≠ 1; decide
  have z0 : (Z0.set (((c.mod : Nat) : Int), c.nm) 1) (c.n, c.nm) = 0 := (St.set_ne _ _ (fun e => hq (by rw [← e]))).trans rfl
  have r := fr_sim hc (ask_sim hc F) c.nm (Z0.set (((c.mod : Nat) : Int), c.nm) 1) c.e.st (Z0.set (((c.mod : Nat) : Int), c.nm) 1) (Z0.set (((c.mod : Nat) : Int), c.nm) 1) fd0 fd0 (by decide) (by decide) (Or.inr ⟨ag, Or.inl ⟨rfl, rfl⟩⟩)
  rw [frG_app _ _ _ _ _ _ (by decide)] at eM
  generalize frG (askF c.L F) c.nm (Z0.set (((c.mod : Nat) : Int), c.nm) 1) c.e.st fd0 = a at *
  generalize frG (askF c.M F) c.nm (Z0.set (((c.mod : Nat) : Int), c.nm) 1) c.e.st fd0 = b at *
  subst eL
  rcases r with ⟨r1, r2⟩ | ⟨ag2, r⟩
  · have hgb : g = amb := by rw [eM, if_pos (by rw [r1]; rfl)]; exact r1
    rcases r2 with r2 | ⟨_, r2⟩
    · rw [r2] at hl; cases hl
    · exact ⟨fun _ => hgb, fun e => absurd e r2⟩
  · have hone : ∀ (T : St), (frG (askF c.M F) c.nm T [c.z] b.1).1 = joined b.1 (askF c.M F T (c.n, c.nm)).1 := fun T => by
      simp only [frG, hc.hz]
      split <;> rfl
    have hl3 : b.1.k ≠ 3 := by
      rcases r with ⟨r1, _⟩ | ⟨_, _, _, r1, _⟩
      · rw [r1]; exact lead_k3 hl
      · exact lead_k3 r1
    rw [if_neg hl3, hone] at eM
    obtain ⟨F, rfl⟩ : ∃ k, F = k + 1 := ⟨F - 1, by omega⟩
    have hM : (askF c.M (F + 1) b.2 (c.n, c.nm)).1 = if b.2 (c.n, c.nm) ≠ 0 then fd0 else c.N := by
      show (stepF c.M _ b.2 _).1 = _
      unfold stepF
      rw [if_pos (by show (0 : Int) ≤ ((c.L.length : Nat) : Int); omega)]
      have : c.M[(c.n, c.nm).1.toNat]? = some c.E := by show c.M[((c.L.length : Nat) : Int).toNat]? = some c.E; rw [show ((c.L.length : Nat) : Int).toNat = c.L.length by simp]; exact hc.hn
      rw [this]
      simp only [ag2.b c.nm, if_false]
      by_cases h0 : b.2 (c.n, c.nm) = 0
      · simp only [h0, ne_eq, not_true_eq_false, if_false, show first c.E (c.n, c.nm) = .val c.N from hc.e1]
      · simp only [h0, ne_eq, not_false_eq_true, if_true]
    rw [hM] at eM
    rcases r with ⟨r1, r2⟩ | ⟨_, r2, _, q1, q2, q3⟩
    · rw [if_neg (by rw [r2, z0]; simp), r1] at eM
      constructor
      · intro hs; rw [eM]; exact joined_n hl hc.hN hs
      · intro hs; rw [eM, joined_s hl hc.hN hs]; exact sim_ty _ _
    · rw [if_pos r2, joined_r0 rfl] at eM
      have hs := q3 hl
      exact ⟨fun e => absurd hs e, fun _ => by rw [eM]; exact q2.trans hs.symm⟩
end Xp
end Go.Proofs.YtpmbacidijfjjaaGreatDoor
namespace Go.Proofs.YtpmbacidijfjjaaGreatDoor.Way
open Go.RowKit Xp
set_option linter.unusedVariables false
set_option linter.unusedSimpArgs false

/-- what holds of all answers, as they stand for a module that there is. -/
theorem ask_alls {L : List Es} (P : Fnd → Prop) (h0 : P fd0) (hc : P circ) (ha : P amb) (hv : ∀ q e v, 0 ≤ q.1 → L[q.1.toNat]? = some e → first e q = .val v → P v) (hj : ∀ a b : Fnd, P a → P b → P { a with ty := a.ty && b.ty }) (hl : ∀ t v, P v → P (clo t v)) : ∀ (f : Nat) (S : St) (q : Qn), P (askF L f S q).1
  | 0, S, q => h0
  | f + 1, S, q => by
    have ih := ask_alls P h0 hc ha hv hj hl f
    have jn : ∀ a b, P a → P b → P (joined a b) := fun a b pa pb => by
      unfold joined
      split
      · exact pa
      · split
        · exact pb
        · split
          · exact hj a b pa pb
          · exact ha
    have fr : ∀ (name : ByteArray) (l : List En) (S : St) (v : Fnd), P v → P (frG (askF L f) name S l v).1 := by
      intro name l
      induction l with
      | nil => intro S v hv; exact hv
      | cons e l ihl =>
        intro S v hv
        unfold frG
        simp only []
        split
        · exact jn _ _ hv (ih _ _)
        · exact ihl _ _ (jn _ _ hv (ih _ _))
    show P (stepF L (askF L f) S q).1
    unfold stepF
    split
    · rename_i hq0
      split
      · exact h0
      · rename_i e he
        split
        · exact hc
        · split
          · exact h0
          · split
            · rename_i v hfv; exact hv q e v hq0 he hfv
            · exact hl _ _ (fr _ _ _ _ h0)
    · exact h0
theorem rsv_far {L : List Es} {n : ByteArray} {m : Int} {F : Nat} (h : (Uni L (Nms L n)).length < F) : rsv L (m, n) = (askF L F st0 (m, n)).1 := by
  show (askF L (fuel L n) st0 (m, n)).1 = _
  rw [ask_enough L n (Uni L (Nms L n)).length (fuel L n) F (by unfold fuel; omega) h st0 (m, n) (un_le _ _) (by simp [Nms])]
theorem first_val {e : Es} {q : Qn} {v : Fnd} (h : first e q = .val v) : (v.k = 1 → v.mod = q.1) ∧ (v.k = 2 → v.name = Xp.mt) := by
  unfold first at h
  split at h
  · cases h; exact ⟨fun _ => rfl, fun h => by simp at h⟩
  · split at h
    · split at h
      · cases h; exact ⟨fun h => by simp at h, fun _ => rfl⟩
      · cases h
    · split at h
      · cases h; exact ⟨fun h => by simp [fd0] at h, fun h => by simp [fd0] at h⟩
      · cases h
theorem rsv_mod {L : List Es} {q : Qn} : ((rsv L q).k = 1 → (rsv L q).mod < (L.length : Nat)) ∧ ((rsv L q).k = 2 → (rsv L q).name = Xp.mt) := by
  refine ask_alls (L := L) (fun v => (v.k = 1 → v.mod < (L.length : Nat)) ∧ (v.k = 2 → v.name = Xp.mt)) (by simp [fd0]) (by simp [circ]) (by simp [amb]) (fun q e v h0 he hf => ?_) (fun a b ha _ => ha) (fun t v hv => hv) _ _ _
  obtain ⟨a, b⟩ := first_val hf
  refine ⟨fun h => ?_, b⟩
  rw [a h]
  have := (List.getElem?_eq_some_iff.1 he).1
  omega
/-- a list with one module more, and one star more to it. -/
def more (L : List Es) (m : Nat) (e E : Es) : List Es := (L.set m ⟨e.imp, e.own, e.oth, e.st ++ [⟨⟨#[]⟩, ⟨#[]⟩, (L.length : Nat), false, 0⟩]⟩) ++ [E]
theorem more_ok {L : List Es} {m : Nat} {nm : ByteArray} {e E : Es} {N : Fnd} (hm : m < L.length) (he : L[m] = e) (h1 : first E ((L.length : Nat), nm) = .val N) (h2 : ∀ x, x ≠ nm → first E ((L.length : Nat), x) = .val fd0 ∨ first E ((L.length : Nat), x) = .go [] x false) (h3 : leads N = true) : (Wy.mk L (more L m e E) m nm e ⟨⟨#[]⟩, ⟨#[]⟩, (L.length : Nat), false, 0⟩ E N).ok := by
  have hl : (L.set m ⟨e.imp, e.own, e.oth, e.st ++ [⟨⟨#[]⟩, ⟨#[]⟩, (L.length : Nat), false, 0⟩]⟩).length = L.length := by simp
  refine ⟨hm, by show L[m]? = some e; rw [List.getElem?_eq_getElem hm, he], fun j hj hne => ?_, ?_, ?_, fun j hj => ?_, rfl, h1, h2, h3⟩
  · show (more L m e E)[j]? = L[j]?
    unfold more
    rw [List.getElem?_append_left (by rw [hl]; exact hj), List.getElem?_set_ne (fun e => hne e.symm)]
  · show (more L m e E)[m]? = _
    unfold more
    rw [List.getElem?_append_left (by rw [hl]; exact hm), List.getElem?_set_self hm]
  · show (more L m e E)[L.length]? = _
    unfold more
    rw [List.getElem?_append_right (by rw [hl]; exact Nat.le_refl _), hl]
    simp
  · show (more L m e E)[j]? = none
    have hj' : L.length < j := hj
    unfold more
    exact List.getElem?_eq_none (by rw [List.length_append, hl]; simp; omega)
def ownE1 (nm : ByteArray) : Es := ⟨[], [⟨nm, nm, -1, false, 0⟩], [], []⟩
def othE1 (nm : ByteArray) (m : Int) : Es := ⟨[], [], [⟨nm, star, m, false, 0⟩], []⟩
theorem own_first (nm : ByteArray) (n : Int) : first (ownE1 nm) (n, nm) = .val ⟨1, n, nm, false⟩ := by
  have : (nm == nm) = true := by rw [ba_eq]; simp
  unfold first ownE1
  simp only [List.find?_cons, this]
theorem own_else {nm x : ByteArray} (n : Int) (h : x ≠ nm) : first (ownE1 nm) (n, x) = .val fd0 ∨ first (ownE1 nm) (n, x) = .go [] x false := by
  have : (nm == x) = false := by rw [ba_eq]; exact decide_eq_false (fun e => h e.symm)
  unfold first ownE1
  simp only [List.find?_cons, List.find?_nil, this]
  split <;> simp
theorem oth_first (nm : ByteArray) (n m : Int) : first (othE1 nm m) (n, nm) = .val ⟨2, m, Xp.mt, false⟩ := by
  have : (nm == nm) = true := by rw [ba_eq]; simp
  unfold first othE1
  simp only [List.find?_cons, List.find?_nil, this, if_true]
theorem oth_else {nm x : ByteArray} (n m : Int) (h : x ≠ nm) : first (othE1 nm m) (n, x) = .val fd0 ∨ first (othE1 nm m) (n, x) = .go [] x false := by
  have : (nm == x) = false := by rw [ba_eq]; exact decide_eq_false (fun e => h e.symm)
  unfold first othE1
  simp only [List.find?_cons, List.find?_nil, this]
  split <;> simp
theorem more_eq {L : List Es} {m : Nat} {nm : ByteArray} {e E : Es} {N : Fnd} (hm : m < L.length) (he : L[m] = e) (h1 : first E ((L.length : Nat), nm) = .val N) (h2 : ∀ x, x ≠ nm → first E ((L.length : Nat), x) = .val fd0 ∨ first E ((L.length : Nat), x) = .go [] x false) (h3 : leads N = true)
    (g1 : e.own.find? (fun x => x.there == nm) = none) (g2 : e.oth.find? (fun x => x.here == nm) = none) (g3 : nm ≠ dflt) (hl : leads (rsv L ((m : Nat), nm)) = true) :
    (¬ Sim (rsv L ((m : Nat), nm)) N → rsv (more L m e E) ((m : Nat), nm) = amb) ∧ (Sim (rsv L ((m : Nat), nm)) N → Sim (rsv (more L m e E) ((m : Nat), nm)) (rsv L ((m : Nat), nm))) := by
  have hok := more_ok hm he h1 h2 h3
  exact Xp.ways hok g1 g2 g3 ((Uni L (Nms L nm)).length + (Uni (more L m e E) (Nms (more L m e E) nm)).length + 1) (by omega) (rsv_far (by omega)) (rsv_far (by omega)) hl
/-- the two answers that the statement asks for. -/
theorem ans_own {L : List Es} {m : Nat} {nm : ByteArray} {e : Es} (hm : m < L.length) (he : L[m] = e) (g1 : e.own.find? (fun x => x.there == nm) = none) (g2 : e.oth.find? (fun x => x.here == nm) = none) (g3 : nm ≠ dflt) (hl : leads (rsv L ((m : Nat), nm)) = true) : (rsv (more L m e (ownE1 nm)) ((m : Nat), nm)).k = 3 := by
  have h := (more_eq hm he (own_first nm _) (fun x hx => own_else _ hx) rfl g1 g2 g3 hl).1 (fun hs => by
    have h1 : (rsv L ((m : Nat), nm)).k = 1 := hs.1
    have h2 : (rsv L ((m : Nat), nm)).mod = (L.length : Nat) := hs.2.1
    have := (rsv_mod (L := L) (q := ((m : Nat), nm))).1 h1
    omega)
  rw [h]
  rfl
theorem ans_oth1 {L : List Es} {m : Nat} {nm : ByteArray} {e : Es} (hm : m < L.length) (he : L[m] = e) (g1 : e.own.find? (fun x => x.there == nm) = none) (g2 : e.oth.find? (fun x => x.here == nm) = none) (g3 : nm ≠ dflt) (hk : (rsv L ((m : Nat), nm)).k = 1) : (rsv (more L m e (othE1 nm (rsv L ((m : Nat), nm)).mod)) ((m : Nat), nm)).k = 3 := by
  have h := (more_eq hm he (oth_first nm _ (rsv L ((m : Nat), nm)).mod) (fun x hx => oth_else _ _ hx) rfl g1 g2 g3 (by unfold leads; rw [hk]; rfl)).1 (fun hs => by
    have h1 : (rsv L ((m : Nat), nm)).k = 2 := hs.1
    omega)
  rw [h]
  rfl
theorem ans_oth2 {L : List Es} {m : Nat} {nm : ByteArray} {e : Es} (hm : m < L.length) (he : L[m] = e) (g1 : e.own.find? (fun x => x.there == nm) = none) (g2 : e.oth.find? (fun x => x.here == nm) = none) (g3 : nm ≠ dflt) (hk : (rsv L ((m : Nat), nm)).k = 2) : (rsv (more L m e (othE1 nm (rsv L ((m : Nat), nm)).mod)) ((m : Nat), nm)).k = 2 ∧ (rsv (more L m e (othE1 nm (rsv L ((m : Nat), nm)).mod)) ((m : Nat), nm)).mod = (rsv L ((m : Nat), nm)).mod := by
  have h := (more_eq hm he (oth_first nm _ (rsv L ((m : Nat), nm)).mod) (fun x hx => oth_else _ _ hx) rfl g1 g2 g3 (by unfold leads; rw [hk]; rfl)).2 ⟨hk, rfl, rsv_mod.2 hk⟩
  exact ⟨h.1.trans hk, h.2.1⟩
end Go.Proofs.YtpmbacidijfjjaaGreatDoor.Way
namespace Go.Proofs.YtpmbacidijfjjaaGreatDoor.Way
open Go.RowKit Xp
set_option linter.unusedVariables false
set_option linter.unusedSimpArgs false

theorem flat_len {k : Nat} : ∀ {X : List (List Value)}, (∀ x ∈ X, x.length = k) → X.flatten.length = X.length * k
  | [], _ => by simp
  | a :: X, h => by rw [List.flatten_cons, List.length_append, flat_len fun x hx => h x (by simp [hx]), h a (by simp), List.length_cons, Nat.add_one_mul]; omega
theorem flat_at {k : Nat} {X : List (List Value)} (hk : ∀ x ∈ X, x.length = k) {i j : Nat} (hi : i < X.length) (hj : j < k) : X.flatten[i * k + j]? = X[i][j]? := by
  have e : X = X.take i ++ X[i] :: X.drop (i + 1) := by simp
  have l1 : (X.take i).length = i := by simp; omega
  have e2 : X.flatten = (X.take i).flatten ++ (X[i] ++ (X.drop (i + 1)).flatten) := (congrArg List.flatten e).trans (by rw [List.flatten_append, List.flatten_cons])
  have hf := flat_len (X := X.take i) fun x hx => hk x (List.mem_of_mem_take hx)
  rw [e2, List.getElem?_append_right (by rw [hf, l1]; omega), hf, l1, show i * k + j - i * k = j by omega, List.getElem?_append_left (by rw [hk _ (List.getElem_mem hi)]; exact hj)]
theorem flat_cells {w : World} {B k b o c : Nat} {X : List (List Value)} (hk : ∀ x ∈ X, x.length = k) (hk0 : 0 < k) (h : RowAt w B (.slice (some ⟨b, o, none⟩) X.length c) k X) : ∀ j u, X.flatten[j]? = some u → w.cell? ((⟨b, o, none⟩ : Addr).add j) = some u := fun j u hu => by
  have hj := (List.getElem?_eq_some_iff.1 hu).1
  rw [flat_len hk] at hj
  have h0 : 0 < X.length := by rcases Nat.eq_zero_or_pos X.length with e | e; rw [e] at hj; omega; exact e
  obtain ⟨b', o', c', e, _, hc⟩ := h.c h0
  simp only [Value.slice.injEq, Option.some.injEq, Addr.mk.injEq] at e
  obtain ⟨⟨rfl, rfl, _⟩, _, _⟩ := e
  have hi : j / k < X.length := Nat.div_lt_of_lt_mul (by rw [Nat.mul_comm]; exact hj)
  have hr : j % k < k := Nat.mod_lt _ hk0
  have ej : j / k * k + j % k = j := by rw [Nat.mul_comm]; exact Nat.div_add_mod j k
  rw [← ej, flat_at hk hi hr] at hu
  have := hc (j / k) hi (j % k) u hu
  rw [add_plain, ← ej, ← Nat.add_assoc]
  exact this
theorem ms_flat {w : World} {B : Nat} {v : Value} {L : List Es} (h : MsAt w B v L) (h0 : 0 < L.length) : ∃ (b o c : Nat) (X : List (List Value)), v = .slice (some ⟨b, o, none⟩) L.length c ∧ b < B ∧ X.length = L.length ∧ (∀ x ∈ X, x.length = 4) ∧ (∀ j u, X.flatten[j]? = some u → w.cell? ((⟨b, o, none⟩ : Addr).add j) = some u) ∧ (∀ u ∈ X.flatten, u.oneCell' = true) ∧ ∀ i (h : i < L.length) (h' : i < X.length), ∃ a b c d, X[i] = [a, b, c, d] ∧ EnAt w B a L[i].imp ∧ EnAt w B b L[i].own ∧ EnAt w B c L[i].oth ∧ EnAt w B d L[i].st := by
  obtain ⟨X, hl, hr, hx⟩ := h.h
  obtain ⟨b, o, c, e, hb, _⟩ := hr.c (by omega)
  have hk : ∀ x ∈ X, x.length = 4 := fun x hxm => by
    obtain ⟨i, hi, rfl⟩ := List.getElem_of_mem hxm
    obtain ⟨a, b, c, d, e, _⟩ := hx i (by omega) hi
    rw [e]; rfl
  refine ⟨b, o, c, X, by rw [e, hl], hb, hl, hk, flat_cells hk (by omega) (by rw [e] at hr; exact hr), fun u hu => ?_, hx⟩
  obtain ⟨x, hxm, hux⟩ := List.mem_flatten.1 hu
  obtain ⟨i, hi, rfl⟩ := List.getElem_of_mem hxm
  obtain ⟨a, b, c, d, e, k0, k1, k2, k3⟩ := hx i (by omega) hi
  rw [e] at hux
  obtain ⟨_, _, rfl⟩ := k0.op
  obtain ⟨_, _, rfl⟩ := k1.op
  obtain ⟨_, _, rfl⟩ := k2.op
  obtain ⟨_, _, rfl⟩ := k3.op
  simp only [List.mem_cons, List.not_mem_nil, or_false] at hux
  rcases hux with rfl | rfl | rfl | rfl <;> rfl
theorem en_flat {w : World} {B : Nat} {b o c : Nat} {l : List En} (h : EnAt w B (.slice (some ⟨b, o, none⟩) l.length c) l) : (∀ j u, (l.flatMap En.cs)[j]? = some u → w.cell? ((⟨b, o, none⟩ : Addr).add j) = some u) ∧ (∀ u ∈ l.flatMap En.cs, u.oneCell' = true) ∧ (l.flatMap En.cs).length = l.length * 5 := by
  have hk : ∀ x ∈ l.map En.cs, x.length = 5 := fun x hx => by obtain ⟨q, _, rfl⟩ := List.mem_map.1 hx; rfl
  have e : l.flatMap En.cs = (l.map En.cs).flatten := rfl
  rw [e]
  refine ⟨flat_cells hk (by omega) (by rw [List.length_map]; exact h), fun u hu => ?_, by rw [flat_len hk, List.length_map]⟩
  obtain ⟨x, hx, hux⟩ := List.mem_flatten.1 hu
  obtain ⟨q, _, rfl⟩ := List.mem_map.1 hx
  simp only [En.cs, List.mem_cons, List.not_mem_nil, or_false] at hux
  rcases hux with rfl | rfl | rfl | rfl | rfl <;> rfl
/-- the copied list, with one star more and one module more. -/
theorem ms_more {W w : World} {B g cap m : Nat} {X : List (List Value)} {L : List Es} {e E : Es} {v p0 p1 p2 p3 : Value} (hB : Below W.heap.size W w) (hl : X.length = L.length) (hk : ∀ x ∈ X, x.length = 4)
    (hx : ∀ i (h : i < L.length) (h' : i < X.length), ∃ a b c d, X[i] = [a, b, c, d] ∧ EnAt W W.heap.size a L[i].imp ∧ EnAt W W.heap.size b L[i].own ∧ EnAt W W.heap.size c L[i].oth ∧ EnAt W W.heap.size d L[i].st) (hm : m < L.length) (he : L[m] = e)
    (hrow : w.ownsRow B 32 4 (.slice (some ⟨g, 0, none⟩) (L.length + 1) cap) (L.length + 1) (X.flatten.set (m * 4 + 3) v ++ [p0, p1, p2, p3]))
    (hst : EnAt w w.heap.size v (e.st ++ [⟨⟨#[]⟩, ⟨#[]⟩, (L.length : Nat), false, 0⟩])) (h0 : EnAt w w.heap.size p0 E.imp) (h1 : EnAt w w.heap.size p1 E.own) (h2 : EnAt w w.heap.size p2 E.oth) (h3 : EnAt w w.heap.size p3 E.st) :
    MsAt w w.heap.size (.slice (some ⟨g, 0, none⟩) (L.length + 1) cap) (more L m e E) := by
  have tr : ∀ {u : Value} {l : List En}, EnAt W W.heap.size u l → EnAt w w.heap.size u l := fun h => (h.bel hB).mono hB.size
  have hml : (more L m e E).length = L.length + 1 := by simp [more]
  obtain ⟨ma, mb, mcc, md, em, k0, k1, k2, k3⟩ := hx m hm (by omega)
  have hXl : (X.set m [ma, mb, mcc, v] ++ [[p0, p1, p2, p3]]).length = L.length + 1 := by simp [hl]
  have hsl : (X.set m [ma, mb, mcc, v]).length = L.length := by simp [hl]
  refine ⟨X.set m [ma, mb, mcc, v] ++ [[p0, p1, p2, p3]], by rw [hXl, hml], ⟨⟨_, _, by rw [hXl]⟩, fun _ => ⟨g, 0, cap, by rw [hXl], (World.ownsRow.lt hrow g rfl).2, fun i hi j u hu => ?_⟩, fun ad n c e' => ?_⟩, fun i hi hi' => ?_⟩
  · have hfl : (X.flatten.set (m * 4 + 3) v).length = L.length * 4 := by rw [List.length_set, flat_len hk, hl]
    by_cases hin : i < L.length
    · rw [List.getElem_append_left (by rw [hsl]; exact hin)] at hu
      have hj : j < 4 := by
        have := (List.getElem?_eq_some_iff.1 hu).1
        by_cases him : i = m
        · subst him; rw [List.getElem_set_self] at this; exact this
        · rw [List.getElem_set_ne (fun e => him e.symm), hk _ (List.getElem_mem _)] at this; exact this
      rw [Nat.zero_add, World.ownsRow.cellAt hrow _ (by omega), List.getElem?_append_left (by rw [hfl]; omega)]
      by_cases him : i = m
      · subst him
        rw [List.getElem_set_self] at hu
        have hf := flat_at hk (i := i) (by omega) hj
        rw [em] at hf
        by_cases hj3 : j = 3
        · subst hj3
          rw [List.getElem?_set_self (by rw [flat_len hk, hl]; omega)]
          exact hu
        · rw [List.getElem?_set_ne (by omega), hf, ← hu]
          have hj' : j = 0 ∨ j = 1 ∨ j = 2 := by omega
          rcases hj' with rfl | rfl | rfl <;> rfl
      · rw [List.getElem_set_ne (fun e => him e.symm)] at hu
        rw [List.getElem?_set_ne (by omega), flat_at hk (by omega) hj]
        exact hu
    · have hie : i = L.length := by rw [hXl] at hi; omega
      subst hie
      rw [List.getElem_append_right (by rw [hsl]; exact Nat.le_refl _)] at hu
      simp only [hsl, Nat.sub_self, List.getElem_cons_zero] at hu
      have hj : j < 4 := (List.getElem?_eq_some_iff.1 hu).1
      rw [Nat.zero_add, World.ownsRow.cellAt hrow _ (by omega), List.getElem?_append_right (by rw [hfl]; omega), hfl, show L.length * 4 + j - L.length * 4 = j by omega]
      exact hu
  · cases e'
    rcases hrow.2 with ⟨e2, _⟩ | ⟨g', cap', cur, e2, _, _, hn, _⟩
    · cases e2
    · simp only [Value.slice.injEq] at e2
      omega
  · by_cases hin : i < L.length
    · have e1 : (X.set m [ma, mb, mcc, v] ++ [[p0, p1, p2, p3]])[i] = (X.set m [ma, mb, mcc, v])[i]'(by rw [hsl]; exact hin) := List.getElem_append_left (by rw [hsl]; exact hin)
      have e2 : (more L m e E)[i] = (L.set m ⟨e.imp, e.own, e.oth, e.st ++ [⟨⟨#[]⟩, ⟨#[]⟩, (L.length : Nat), false, 0⟩]⟩)[i]'(by simp; exact hin) := List.getElem_append_left (by simp; exact hin)
      rw [e1, e2]
      by_cases him : i = m
      · subst him
        rw [List.getElem_set_self, List.getElem_set_self]
        rw [he] at k0 k1 k2
        exact ⟨_, _, _, _, rfl, tr k0, tr k1, tr k2, hst⟩
      · rw [List.getElem_set_ne (fun e => him e.symm), List.getElem_set_ne (fun e => him e.symm)]
        obtain ⟨a, b, c, d, e3, q0, q1, q2, q3⟩ := hx i hin (by omega)
        exact ⟨a, b, c, d, e3, tr q0, tr q1, tr q2, tr q3⟩
    · have hie : i = L.length := by rw [hXl] at hi'; omega
      subst hie
      have e1 : (X.set m [ma, mb, mcc, v] ++ [[p0, p1, p2, p3]])[L.length] = [p0, p1, p2, p3] := by rw [List.getElem_append_right (by rw [hsl]; exact Nat.le_refl _)]; simp [hsl]
      have e2 : (more L m e E)[L.length] = E := by simp [more]
      rw [e1, e2]
      exact ⟨_, _, _, _, rfl, h0, h1, h2, h3⟩
/-- bounds of such a list. -/
theorem more_small {L : List Es} {m : Nat} {e E : Es} (hs : Small L) (hm : m < L.length) (he : L[m] = e) (hE : E.own.length ≤ 1 ∧ E.oth.length ≤ 1 ∧ E.st.length ≤ 1) (hN : ∀ x ∈ E.own, x.here.size ≤ 1048576) : (more L m e E).length ≤ 1048576 ∧ (∀ e' ∈ more L m e E, e'.own.length ≤ 1048576 ∧ e'.oth.length ≤ 1048576 ∧ e'.st.length ≤ 1048576) ∧ (∀ e' ∈ more L m e E, ∀ x ∈ e'.own, x.here.size ≤ 1048576) ∧ ∀ nm, (Uni (more L m e E) (Nms (more L m e E) nm)).length ≤ 274877906944 := by
  have hem : e ∈ L := by rw [← he]; exact List.getElem_mem hm
  have hml : (more L m e E).length = L.length + 1 := by simp [more]
  have hn := hs.n
  have mem : ∀ e' ∈ more L m e E, e' ∈ L ∨ e' = ⟨e.imp, e.own, e.oth, e.st ++ [⟨⟨#[]⟩, ⟨#[]⟩, (L.length : Nat), false, 0⟩]⟩ ∨ e' = E := fun e' h => by
    rcases List.mem_append.1 h with h | h
    · rcases List.mem_or_eq_of_mem_set h with h | h
      · exact .inl h
      · exact .inr (.inl h)
    · exact .inr (.inr (by simpa using h))
  have hee := hs.e e hem
  refine ⟨by omega, fun e' h => ?_, fun e' h x hx => ?_, fun nm => ?_⟩
  · rcases mem e' h with h | rfl | rfl
    · have := hs.e e' h; omega
    · refine ⟨show e.own.length ≤ 1048576 by omega, show e.oth.length ≤ 1048576 by omega, ?_⟩
      show (e.st ++ [_]).length ≤ _
      rw [List.length_append, List.length_singleton]
      omega
    · omega
  · rcases mem e' h with h | rfl | rfl
    · exact hs.hN e' h x hx
    · exact hs.hN e hem x hx
    · exact hN x hx
  · rw [uni_len, hml]
    have ho : ((more L m e E).flatMap fun e => e.oth.map (·.there)).length ≤ 262145 := by
      unfold more
      rw [List.flatMap_append, List.length_append]
      have h1 : ((L.set m ⟨e.imp, e.own, e.oth, e.st ++ [⟨⟨#[]⟩, ⟨#[]⟩, (L.length : Nat), false, 0⟩]⟩).flatMap fun e => e.oth.map (·.there)) = L.flatMap fun e => e.oth.map (·.there) := by
        rw [List.flatMap_def, List.flatMap_def, List.map_set]
        congr 1
        have : (L.map fun e => e.oth.map (·.there))[m]'(by simp; exact hm) = e.oth.map (·.there) := by simp [he]
        rw [← this, List.set_getElem_self]
      rw [h1]
      have h2 : ([E].flatMap fun e => e.oth.map (·.there)).length ≤ 1 := by simp; omega
      have := hs.o
      omega
    have h3 : (Nms (more L m e E) nm).length ≤ 262146 := by unfold Nms; rw [List.length_cons]; omega
    exact Nat.le_trans (Nat.mul_le_mul (show L.length + 1 ≤ 209716 by omega) h3) (by decide)
theorem bel_grow {w w' : World} (g : w.grownBy w' none) : Below w.heap.size w w' := ⟨g.os, g.tape, g.output, g.size, fun k hk => g.block k hk (by simp)⟩
set_option maxRecDepth 100000 in
/-- append to nothing, whatever entries are laid behind. -/
theorem wpList_appEn (w : World) {ops : Array Oper} {rest : List Oper} {o : Oper} {a : Act} {Q : Exit → Act → World → Prop} (hgd : o.guard = none) (s x : Operand)
    (ho : o.op = .call { callee := .builtin .append, args := #[s, x], argTypes := #[30, 30] }) (hs : a.eval s = .slice none 0 0) {sa : Option Addr} {sc B : Nat} {l : List En} (hx : a.eval x = .slice sa l.length sc) (hy : EnAt w B (.slice sa l.length sc) l) (hl : l.length ≤ 1048576)
    (h : ∀ v' w', w'.ownsRow w.heap.size 49 5 v' l.length (l.flatMap En.cs) → Below w.heap.size w w' → wpList Tryz.prog ops Q rest (a.put o.dst v') w') :
    wpList Tryz.prog ops Q (o :: rest) a w := by
  obtain ⟨i0, hi0, hz0, hz1, hz2⟩ := info_parts info_en
  by_cases h0 : l.length = 0
  · obtain rfl : l = [] := List.length_eq_zero_iff.1 h0
    refine wpList_plain hgd fun K hK => ?_
    have hr : (Builtin.append_ #[30, 30] o.type #[.slice none 0 0, .slice sa 0 sc]).run Tryz.prog w = .ok (.slice none 0 0) w := by
      have hfc : (Builtin.firstCells 5 0 (.slice sa 0 sc)).run Tryz.prog w = .ok #[] w := by
        cases sa with
        | none => simp [Builtin.firstCells]
        | some b => simpa using run_firstCells_some (P := Tryz.prog) w 5 0 b 0 sc [] (by simp) (fun j v hv => by simp at hv)
      simp [Builtin.append_, run_underlying Tryz.underlying30, Builtin.lenOf, hfc]
    unfold Oper.wp execOp
    simp only [ho, resolve, invoke, builtin, Sem.run_bind, Sem.run_pure, Result.andThen_ok, List.map_toArray, List.map_cons, List.map_nil, hs, hx, List.length_nil, hr]
    exact hK _ _ (h _ _ (World.ownsRow_nil _ _ _ _) (Below.refl _ _))
  · obtain ⟨b, o', c, e, _, _⟩ := hy.cl (by omega)
    simp only [Value.slice.injEq] at e
    obtain ⟨rfl, _, rfl⟩ := e
    obtain ⟨k1, k2, k3⟩ := en_flat hy
    refine wpList_append_lies w hgd s x _ ho w.heap.size 49 i0 _ 5 56 under_ens hi0 hz0 hz1 hz2 rfl (by omega) _ 0 [] hs (World.ownsRow_nil _ _ _ _) ⟨b, o', none⟩ l.length sc (l.flatMap En.cs) hx k3 k1 k2 (by omega) (by unfold maxLen; omega) (by omega) (Nat.le_refl _) _ rfl ?_
    intro g cap w' hown hgrow _ _
    rw [Nat.zero_add] at hown ⊢
    exact h _ _ (by simpa using hown) (bel_grow hgrow)
theorem row_keepS {w w' : World} {base k n : Nat} {T : TypeId} {v : Value} {xs : List Value} (h : w.ownsRow base T k v n xs) (hk : ∀ j, v.ownBlock = some j → w'.heap[j]? = w.heap[j]?) : w'.ownsRow base T k v n xs := by
  refine ⟨h.1, ?_⟩
  rcases h.2 with ⟨rfl, h0⟩ | ⟨g, cap, cur, rfl, hb, hg, hr⟩
  · exact .inl ⟨rfl, h0⟩
  · exact .inr ⟨g, cap, cur, rfl, hb, (hk g rfl).trans hg, hr⟩
theorem en_lit {w : World} {g B : Nat} {e : En} (h : w.heap[g]? = some (enO e)) (hg : g < B) : EnAt w B (.slice (some ⟨g, 0, none⟩) 1 1) [e] := by
  have := rowAt_block (w := w) (g := g) (B := B) (c := 1) (k := 5) (X := [e.cs]) (t := 49) (fr := (0, 0)) (by simp [En.cs]) (by rw [h]; rfl) hg (by simp)
  exact this
abbrev zN (n : Nat) : En := ⟨⟨#[]⟩, ⟨#[]⟩, (n : Nat), false, 0⟩
/-- the copied list with one star more, and what is behind it. -/
structure St6 (wA w : World) (E : Es) (n gs caps gm cap : Nat) (xs : List Value) (len : Nat) : Prop where
  b : Below wA.heap.size wA w
  s : w.ownsRow wA.heap.size 49 5 (.slice (some ⟨gs, 0, none⟩) (E.st.length + 1) caps) (E.st.length + 1) (E.st.flatMap En.cs ++ (zN n).cs)
  r : w.ownsRow wA.heap.size 32 4 (.slice (some ⟨gm, 0, none⟩) len cap) len xs
  ne : gs ≠ gm
theorem St6.bel {wA w w' : World} {E : Es} {n gs caps gm cap len : Nat} {xs : List Value} (h : St6 wA w E n gs caps gm cap xs len) (b : Below w.heap.size w w') : St6 wA w' E n gs caps gm cap xs len := ⟨bt h.b b, row_bel' h.s b, row_bel' h.r b, h.ne⟩
theorem St6.store {wA w : World} {E : Es} {n gs caps gm cap len : Nat} {xs : List Value} (h : St6 wA w E n gs caps gm cap xs len) (j : Nat) (u : Value) : St6 wA (w.setCell ⟨gm, j, none⟩ u) E n gs caps gm cap (xs.set j u) len := by
  have l := World.ownsRow.lt h.r gm rfl
  refine ⟨h.b.setCell l.1 _, row_keepS h.s fun k hk => Below.heap_setCell _ _ _ _ ?_, (World.ownsRow.stored h.r j u).1, h.ne⟩
  have : gs = k := by simpa [Value.ownBlock] using hk
  have := h.ne
  show k ≠ gm
  omega
theorem St6.grow {wA w w' : World} {E : Es} {n gs caps gm cap len gm' cap' len' H : Nat} {xs xs' : List Value} (h : St6 wA w E n gs caps gm cap xs len) (g : w.grownBy w' (some gm)) (ho : w'.ownsRow wA.heap.size 32 4 (.slice (some ⟨gm', 0, none⟩) len' cap') len' xs') (hat : some gm = some gm' ∨ gm' = H) (hH : H = w.heap.size) : St6 wA w' E n gs caps gm' cap' xs' len' := by
  have l := World.ownsRow.lt h.r gm rfl
  have ls := World.ownsRow.lt h.s gs rfl
  refine ⟨h.b.trans ⟨g.os, g.tape, g.output, g.size, fun k hk => g.block k (by have := h.b.size; omega) (fun e => by have : gm = k := (by simpa using e.symm); omega)⟩, World.ownsRow.kept h.s g (.inr fun e => h.ne (by simpa [Value.ownBlock] using e)), ho, ?_⟩
  rcases hat with e | e
  · have : gm = gm' := by simpa using e
    have := h.ne
    omega
  · omega
theorem St6.ms {W wA w : World} {L : List Es} {E F : Es} {X : List (List Value)} {m gs caps gm cap : Nat} {p0 p1 p2 p3 : Value} (h : St6 wA w E L.length gs caps gm cap (X.flatten.set (m * 4 + 3) (.slice (some ⟨gs, 0, none⟩) (E.st.length + 1) caps) ++ [p0, p1, p2, p3]) (L.length + 1)) (hBA : Below W.heap.size W wA) (hl : X.length = L.length) (hk : ∀ x ∈ X, x.length = 4)
    (hx : ∀ i (h : i < L.length) (h' : i < X.length), ∃ a b c d, X[i] = [a, b, c, d] ∧ EnAt W W.heap.size a L[i].imp ∧ EnAt W W.heap.size b L[i].own ∧ EnAt W W.heap.size c L[i].oth ∧ EnAt W W.heap.size d L[i].st) (hm : m < L.length) (he : L[m] = E)
    (h0 : EnAt w w.heap.size p0 F.imp) (h1 : EnAt w w.heap.size p1 F.own) (h2 : EnAt w w.heap.size p2 F.oth) (h3 : EnAt w w.heap.size p3 F.st) :
    MsAt w w.heap.size (.slice (some ⟨gm, 0, none⟩) (L.length + 1) cap) (more L m E F) := by
  have hst : EnAt w w.heap.size (.slice (some ⟨gs, 0, none⟩) (E.st.length + 1) caps) (E.st ++ [zN L.length]) := by
    refine enat_of_row (base := wA.heap.size) (l := E.st ++ [zN L.length]) ?_
    have := h.s
    rw [List.length_append, List.length_singleton, List.flatMap_append]
    simpa using this
  exact ms_more (bt hBA h.b) hl hk hx hm he h.r hst h0 h1 h2 h3
theorem St6.start {wA w2 w3 w4 : World} {E : Es} {n gs caps gm capm len : Nat} {xs : List Value} {v11 : Value} {o : Obj} (b2 : Below wA.heap.size wA w2) (b3 : Below w2.heap.size w2 w3) (h2 : w2.ownsRow wA.heap.size 32 4 (.slice (some ⟨gm, 0, none⟩) len capm) len xs) (h3 : w3.ownsRow w2.heap.size 49 5 v11 E.st.length (E.st.flatMap En.cs)) (g : (w3.alloc o).grownBy w4 v11.ownBlock)
    (h4 : w4.ownsRow w2.heap.size 49 5 (.slice (some ⟨gs, 0, none⟩) (E.st.length + 1) caps) (E.st.length + 1) (E.st.flatMap En.cs ++ (zN n).cs)) (row4 : w4.ownsRow wA.heap.size 32 4 (.slice (some ⟨gm, 0, none⟩) len capm) len xs) : St6 wA w4 E n gs caps gm capm xs len := by
  have l2 := (World.ownsRow.lt h2 gm rfl).2
  have l4 := (World.ownsRow.lt h4 gs rfl).1
  have s2 := b2.size
  have s3 := b3.size
  have b23 := bt b2 b3
  refine ⟨b23.trans (((Below.refl _ _).alloc (by omega) o).trans ⟨g.os, g.tape, g.output, g.size, fun k hk => g.block k (by simp; omega) (fun e => by have := (World.ownsRow.lt h3 k e.symm).1; omega)⟩), World.ownsRow.mono h4 s2, row4, by omega⟩
end Go.Proofs.YtpmbacidijfjjaaGreatDoor.Way
namespace Go.Proofs.YtpmbacidijfjjaaGreatDoor.Way
open Go.RowKit Xp
set_option linter.unusedVariables false
set_option linter.unusedSimpArgs false

theorem info_esW : (Tryz.prog.info? 32).map (fun i => (i.zero, i.size, i.bytes)) = some (some (.agg #[.slice none 0 0, .slice none 0 0, .slice none 0 0, .slice none 0 0]), 4, 96) := by kernel_rfl
theorem under_eslW : Tryz.prog.underlying 39 = some (.slice 32) := by kernel_rfl
theorem find_no {l : List En} {g : En → ByteArray} {n : ByteArray} (h : ∀ j (hj : j < l.length), g l[j] ≠ n) : l.find? (fun x => g x == n) = none := by
  rw [List.find?_eq_none]
  intro x hx
  obtain ⟨j, hj, rfl⟩ := List.getElem_of_mem hx
  have := h j hj
  rw [ba_eq]
  simpa using this
theorem row_to {w2 w3 w4 : World} {T T' : TypeId} {base gm capm n k n' : Nat} {xs ys : List Value} {v11 : Value} {o : Obj} (h : w2.ownsRow base T 4 (.slice (some ⟨gm, 0, none⟩) n capm) n xs) (b3 : Below w2.heap.size w2 w3) (h3 : w3.ownsRow w2.heap.size T' k v11 n' ys) (g : (w3.alloc o).grownBy w4 v11.ownBlock) : w4.ownsRow base T 4 (.slice (some ⟨gm, 0, none⟩) n capm) n xs := by
  refine World.ownsRow.kept (World.ownsRow.alloc (row_bel' h b3) o) g (.inr fun e => ?_)
  have l1 := (World.ownsRow.lt h gm rfl).2
  have l2 := (World.ownsRow.lt h3 gm e.symm).1
  omega
theorem row_cell {w : World} {T : TypeId} {base gm capm n j : Nat} {xs : List Value} (h : w.ownsRow base T 4 (.slice (some ⟨gm, 0, none⟩) n capm) n xs) (hj : j < n * 4) : (∃ u, w.cell? ⟨gm, j, none⟩ = some u) ∧ w.frozen? ⟨gm, j, none⟩ = false := by
  have hc := World.ownsRow.cellAt h j hj
  rw [List.getElem?_eq_getElem (by rw [h.1]; exact hj)] at hc
  exact ⟨⟨_, hc⟩, World.ownsRow.frozenAt h j⟩
theorem set4 {A : List Value} {n : Nat} (h : A.length = n * 4) (a b c d p q r t : Value) : ((((A ++ [a, b, c, d]).set (n * 4) p).set (n * 4 + 1) q).set (n * 4 + 2) r).set (n * 4 + 3) t = A ++ [p, q, r, t] := by
  rw [← h]
  simp [List.set_append]
set_option maxRecDepth 100000 in
set_option maxHeartbeats 64000000 in
theorem inside {W : World} {v : Value} {L : List Es} (hv : MsAt W W.heap.size v L) (hs : Small L) (m : Nat) (name : ByteArray) (hnz : name.size ≤ 1048576) (he : WEnv W) (hm : m < L.length) (hnd : name ≠ dflt) :
    Calls Tryz.prog 7 #[v, .int .i64 (m : Nat), .string name] W fun e w' => e = .returned (.bool true) ∧ Below W.heap.size W w' := by
  have C1 := resolveX_any hv (by have := hs.n; omega) hs.hE hs.hN (m : Int) name (hs.hU name)
  have HE : Hid (∀ X, Below W.heap.size W X → Calls Tryz.prog 10 #[] X fun e w' => e = .returned (.bool true) ∧ Below X.heap.size X w') := fun X b => sure_any X (he.bel b)
  have CS := HE.out W (Below.refl _ _)
  obtain ⟨vb, vo, vc, X, rfl, hvb, hXl, hk4, hflat, hone, hx⟩ := ms_flat hv (by omega)
  obtain ⟨i0, hi0, hz0, hz1, hz2⟩ := info_parts info_esW
  obtain ⟨j0, hj0, hy0, hy1, hy2⟩ := info_parts info_en
  have hMd : ∃ x0 x1 x2 x3, MdAt W W.heap.size vb (vo + m * 4) L[m] x0 x1 x2 x3 := by
    obtain ⟨vb', vo', vc', e', _, hmd⟩ := hv.cl (by omega)
    simp only [Value.slice.injEq, Option.some.injEq, Addr.mk.injEq] at e'
    obtain ⟨⟨rfl, rfl, _⟩, _, _⟩ := e'
    exact hmd m hm
  obtain ⟨x0, x1, x2, x3, hM⟩ := hMd
  have hlE := hs.e L[m] (List.getElem_mem hm)
  obtain ⟨E, hE⟩ : ∃ E, L[m] = E := ⟨_, rfl⟩
  have HLM : Hid (L[m] = E) := hE
  rw [hE] at hM hlE
  obtain ⟨oa, oc, rfl⟩ := hM.a1.op
  obtain ⟨ta, tc, rfl⟩ := hM.a2.op
  obtain ⟨sa, sc, rfl⟩ := hM.a3.op
  have HMD : Hid (MdAt W W.heap.size vb (vo + m * 4) E x0 (.slice oa E.own.length oc) (.slice ta E.oth.length tc) (.slice sa E.st.length sc)) := hM
  have HS : Hid (Small L) := hs
  have HV : Hid (MsAt W W.heap.size (.slice (some ⟨vb, vo, none⟩) L.length vc) L) := hv
  have HX : Hid (∀ i (h : i < L.length) (h' : i < X.length), ∃ a b c d, X[i] = [a, b, c, d] ∧ EnAt W W.heap.size a L[i].imp ∧ EnAt W W.heap.size b L[i].own ∧ EnAt W W.heap.size c L[i].oth ∧ EnAt W W.heap.size d L[i].st) := hx
  have HK4 : Hid (∀ x ∈ X, x.length = 4) := hk4
  have HFL : Hid (∀ j u, X.flatten[j]? = some u → W.cell? ((⟨vb, vo, none⟩ : Addr).add j) = some u) := hflat
  have HONE : Hid (∀ u ∈ X.flatten, u.oneCell' = true) := hone
  have hsn := hs.n
  have c1 := hM.c1
  have c2 := hM.c2
  have c3 := hM.c3
  have HND : Hid (name ≠ dflt) := hnd
  have hd : (name.toList == [100, 101, 102, 97, 117, 108, 116]) = false := by rw [show ([100, 101, 102, 97, 117, 108, 116] : List UInt8) = dflt.toList by rw [ByteArray.toList_eq]; rfl, ← beq_toListBytes, ba_eq]; exact decide_eq_false hnd
  have HVB : Hid (vb < W.heap.size) := hvb
  have HXL : Hid (X.length = L.length) := hXl
  clear hv hs he hM hx hk4 hflat hone hE hnd hvb hXl
  go_enter Tryz.func7, Tryz.ntmps7
  go_wp2
  go_loopw [7] (fun v7 wr => ∃ k : Nat, v7 = .int .i64 (k : Nat) ∧ k ≤ E.own.length ∧ wr = W ∧ Hid (∀ j (h : j < E.own.length), j < k → E.own[j].there ≠ name)) (fun v7 _ => E.own.length - (intOf v7).toNat)
  case atStart => exact ⟨0, rfl, by omega, rfl, fun j _ h => by omega⟩
  case round =>
    obtain ⟨k, rfl, hk, hwr, HP⟩ := hrel
    obtain rfl := hwr.symm
    by_cases hlt : k < E.own.length
    · obtain ⟨b, o, c, e1, hb, hc⟩ := HMD.out.a1.cl (by omega)
      simp only [Value.slice.injEq] at e1
      obtain ⟨rfl, _, rfl⟩ := e1
      obtain ⟨d0, d1, d2, d3, d4⟩ := hc k hlt
      have hltI : ((k : Nat) : Int) < ((E.own.length : Nat) : Int) := by omega
      clear hc d0 d2 d3 d4 hb
      by_cases hxy : E.own[k].there = name
      · have hxx : (E.own[k].there.toList == name.toList) = true := by rw [hxy]; simp
        clear HP hxy
        generalize E.own[k].there = xn at *
        go_wp2_with fail
        go_at_call 10
        refine CS.mono ?_
        rintro x Z1 ⟨rfl, z1⟩
        go_wp2
        go_ret
        exact ⟨rfl, z1⟩
      · have hxx : (E.own[k].there.toList == name.toList) = false := by rw [← beq_toListBytes, ba_eq]; exact decide_eq_false hxy
        have HN' : Hid (∀ j (h : j < E.own.length), j < k + 1 → E.own[j].there ≠ name) := fun j h hj => by
          by_cases ej : j = k
          · subst ej; exact hxy
          · exact HP.out j h (by omega)
        clear HP hxy
        generalize E.own[k].there = xn at *
        go_wp2
        go_roundw
        case rel => exact ⟨k + 1, by simp, by omega, by first | rfl | trivial, HN'.out⟩
        case measure => simp [intOf]; omega
    · obtain rfl : k = E.own.length := by omega
      have hge : ¬ ((E.own.length : Nat) : Int) < ((E.own.length : Nat) : Int) := by omega
      have HO1 : Hid (E.own.find? (fun x => x.there == name) = none) := find_no (g := fun x => x.there) fun j hj => HP.out j hj hj
      clear HP
      go_wp2
      go_loopw [8] (fun v8 wr => ∃ k : Nat, v8 = .int .i64 (k : Nat) ∧ k ≤ E.oth.length ∧ wr = W ∧ Hid (∀ j (h : j < E.oth.length), j < k → E.oth[j].here ≠ name)) (fun v8 _ => E.oth.length - (intOf v8).toNat)
      case atStart => exact ⟨0, rfl, by omega, rfl, fun j _ h => by omega⟩
      case round =>
        obtain ⟨k, rfl, hk, hwr, HP⟩ := hrel
        obtain rfl := hwr.symm
        by_cases hlt : k < E.oth.length
        · obtain ⟨b, o, c, e1, hb, hc⟩ := HMD.out.a2.cl (by omega)
          simp only [Value.slice.injEq] at e1
          obtain ⟨rfl, _, rfl⟩ := e1
          obtain ⟨d0, d1, d2, d3, d4⟩ := hc k hlt
          have hltI : ((k : Nat) : Int) < ((E.oth.length : Nat) : Int) := by omega
          clear hc d1 d2 d3 d4 hb
          by_cases hxy : E.oth[k].here = name
          · have hxx : (E.oth[k].here.toList == name.toList) = true := by rw [hxy]; simp
            clear HP hxy
            generalize E.oth[k].here = xn at *
            go_wp2_with fail
            go_at_call 10
            refine CS.mono ?_
            rintro x Z1 ⟨rfl, z1⟩
            go_wp2
            go_ret
            exact ⟨rfl, z1⟩
          · have hxx : (E.oth[k].here.toList == name.toList) = false := by rw [← beq_toListBytes, ba_eq]; exact decide_eq_false hxy
            have HN' : Hid (∀ j (h : j < E.oth.length), j < k + 1 → E.oth[j].here ≠ name) := fun j h hj => by
              by_cases ej : j = k
              · subst ej; exact hxy
              · exact HP.out j h (by omega)
            clear HP hxy
            generalize E.oth[k].here = xn at *
            go_wp2
            go_roundw
            case rel => exact ⟨k + 1, by simp, by omega, by first | rfl | trivial, HN'.out⟩
            case measure => simp [intOf]; omega
        · obtain rfl : k = E.oth.length := by omega
          have hge : ¬ ((E.oth.length : Nat) : Int) < ((E.oth.length : Nat) : Int) := by omega
          have HO2 : Hid (E.oth.find? (fun x => x.here == name) = none) := find_no (g := fun x => x.here) fun j hj => HP.out j hj hj
          clear HP
          obtain ⟨r, hr⟩ : ∃ r, rsv L ((m : Nat), name) = r := ⟨_, rfl⟩
          rw [hr] at C1
          have HR : Hid (rsv L ((m : Nat), name) = r) := hr
          clear hr
          go_wp2_with fail
          go_at_call 16
          refine C1.mono ?_
          rintro ex w1 ⟨rfl, b1⟩
          obtain ⟨wA, hwA⟩ : ∃ X, w1.alloc (.cells #[.int .i64 r.k, .int .i64 r.mod, .string r.name, .bool r.ty] 41) = X := ⟨_, rfl⟩
          have bA1 : Below w1.heap.size w1 wA := by rw [← hwA]; exact bel_a _ _
          have m9 := hnewX (w := w1) (.cells #[.int .i64 r.k, .int .i64 r.mod, .string r.name, .bool r.ty] 41) rfl
          rw [hwA] at m9
          obtain ⟨⟨f0, f1, f2, f3⟩, _⟩ := t4 m9
          have HBA : Hid (Below W.heap.size W wA) := bt b1 bA1
          have HM9 : Hid _ := m9
          have CSA := HE.out wA HBA.out
          clear b1 bA1 m9 C1 CS c1 c2 c3
          generalize hN9 : w1.heap.size = n9 at *
          by_cases hk1 : r.k = 1 ∨ r.k = 2
          rotate_left
          · have k1 : (r.k != 1) = true := by simp only [bne, int_eqb (fun e => hk1 (.inl e) : r.k ≠ 1)]; rfl
            have k2 : (r.k != 2) = true := by simp only [bne, int_eqb (fun e => hk1 (.inr e) : r.k ≠ 2)]; rfl
            clear hk1
            go_wp2_with fail
            go_at_call 10
            refine CSA.mono ?_
            rintro x Z1 ⟨rfl, z1⟩
            go_wp2
            go_ret
            exact ⟨rfl, bt HBA.out z1⟩
          · have HLD : Hid (r.k = 1 ∨ r.k = 2) := hk1
            have HFLA : Hid (∀ j u, X.flatten[j]? = some u → wA.cell? ((⟨vb, vo, none⟩ : Addr).add j) = some u) := fun j u hu => by
              have := HFL.out j u hu
              rw [add_plain] at this ⊢
              exact (World.cell?_of_block (a := ⟨vb, vo + j, none⟩) (HBA.out.block vb HVB.out)).trans this
            have HXF : Hid (X.flatten.length = L.length * 4) := by show _ = _; rw [flat_len HK4.out, HXL.out]
            have HT1 : Hid (∀ w2 : World, wA.grownBy w2 none → w2.cell? ⟨vb, vo + m * 4 + 3, none⟩ = some (.slice sa E.st.length sc) ∧ EnAt w2 w2.heap.size (.slice sa E.st.length sc) E.st ∧ Below wA.heap.size wA w2) := fun w2 g => by
              have b2 := bel_grow g
              have bW := bt HBA.out b2
              exact ⟨(World.cell?_of_block (a := ⟨vb, vo + m * 4 + 3, none⟩) (bW.block vb HVB.out)).trans HMD.out.c3, (HMD.out.a3.bel bW).mono bW.size, b2⟩
            have hst1 : E.st.length ≤ 1048576 := by omega
            rcases hk1 with hk1 | hk1
            · have k1 : (r.k != 1) = false := by rw [hk1]; rfl
              have k3 : (r.k == 2) = false := by rw [hk1]; rfl
              have HK : Hid (r.k = 1) := hk1
              clear hk1
              go_wp2_with (first
                | (at_builtin; refine wpList_append_lies _ (by rfl) _ _ _ (by rfl) wA.heap.size 32 i0 _ 4 96 under_eslW hi0 hz0 hz1 hz2 rfl (by omega) _ 0 [] (by rfl) (World.ownsRow_nil _ _ _ _) ⟨vb, vo, none⟩ L.length vc X.flatten (by rfl) HXF.out HFLA.out HONE.out (by omega) (by unfold maxLen; omega) (by omega) (Nat.le_refl _) wA.heap.size rfl ?_; intro gm capm w2 hown2 hgrow2 hat2 hlt2; obtain ⟨c3', hy2', b2⟩ := HT1.out w2 hgrow2; rw [Nat.zero_add, List.nil_append] at hown2; rw [Nat.zero_add]; clear hat2 hgrow2)
                | (at_builtin; refine wpList_appEn _ (by rfl) _ _ (by rfl) (by rfl) (by rfl) hy2' hst1 ?_; intro v11 w3 hown3 b3; obtain ⟨g11, c11, hv11⟩ := row_form hown3; subst hv11; have hownA := World.ownsRow.alloc hown3 (.cells #[.string ⟨#[]⟩, .string ⟨#[]⟩, .int .i64 (L.length : Nat), .bool false, .int .i64 0] 49); clear c3' hy2')
                | (at_builtin; refine wpList_append_lies _ (by rfl) _ _ _ (by rfl) w2.heap.size 49 j0 _ 5 56 under_ens hj0 hy0 hy1 hy2 rfl (by omega) _ E.st.length (E.st.flatMap En.cs) (by rfl) hownA ⟨w3.heap.size, 0, none⟩ 1 1 (zN L.length).cs (by rfl) (by rfl) (World.news_of_block (cs := #[.string ⟨#[]⟩, .string ⟨#[]⟩, .int .i64 (L.length : Nat), .bool false, .int .i64 0]) (t := 49) (fr := (0, 0)) (hnewX _ rfl)) (by simp [Value.oneCell', En.cs]) (by omega) (by unfold maxLen; omega) (by omega) (by have := b3.size; simp; omega) (w3.heap.size + 1) (by simp) ?_; intro gs caps w4 hown4 hgrow4 hat4 hlt4; have row4 := row_to hown2 b3 hown3 hgrow4; obtain ⟨⟨u43, q43⟩, z43⟩ := row_cell row4 (j := m * 4 + 3) (by omega); have S4 : Hid (St6 wA w4 E L.length gs caps gm capm X.flatten L.length) := St6.start b2 b3 hown2 hown3 hgrow4 hown4 row4; have hownB := ((S4.out.store (m * 4 + 3) (.slice (some ⟨gs, 0, none⟩) (E.st.length + 1) caps)).bel (bel_a _ (enO ⟨name, name, -1, false, 0⟩))).bel (bel_a _ (.cells #[.slice none 0 0, .slice (some ⟨w4.heap.size, 0, none⟩) 1 1, .slice none 0 0, .slice none 0 0] 32)); have S5 : Hid _ := hownB; have hl4 : wA.heap.size ≤ w4.heap.size := S4.out.b.size; clear row4 hown4 hgrow4 hat4 hownA hown3 hown2 b2 b3 hownB)
                | (at_builtin; refine wpList_append_lies _ (by rfl) _ _ _ (by rfl) wA.heap.size 32 i0 _ 4 96 under_eslW hi0 hz0 hz1 hz2 rfl (by omega) _ L.length (X.flatten.set (m * 4 + 3) (.slice (some ⟨gs, 0, none⟩) (E.st.length + 1) caps)) (by rfl) S5.out.r ⟨w4.heap.size + 1, 0, none⟩ 1 1 [.slice none 0 0, .slice (some ⟨w4.heap.size, 0, none⟩) 1 1, .slice none 0 0, .slice none 0 0] (by rfl) (by rfl) (World.news_of_block (cs := #[.slice none 0 0, .slice (some ⟨w4.heap.size, 0, none⟩) 1 1, .slice none 0 0, .slice none 0 0]) (t := 32) (fr := (0, 0)) (hnewX _ (by simp))) (by simp [Value.oneCell']) (by omega) (by unfold maxLen; omega) (by omega) (by simp; omega) (w4.heap.size + 2) (by simp) ?_; intro gm2 cap2 w6 hown6 hgrow6 hat6 hlt6))
              have h4g : gm < w4.heap.size := (World.ownsRow.lt S4.out.r gm rfl).2
              have hp6 : w6.heap[w4.heap.size]? = some (enO ⟨name, name, -1, false, 0⟩) := (hgrow6.block _ (by simp; omega) (by simp [Value.ownBlock]; omega)).trans ((Below.heap_alloc _ _ _ (by simp)).trans (hnewX _ (by simp)))
              have S6 : Hid (St6 wA w6 E L.length gs caps gm2 cap2 (X.flatten.set (m * 4 + 3) (.slice (some ⟨gs, 0, none⟩) (E.st.length + 1) caps) ++ [.slice none 0 0, .slice (some ⟨w4.heap.size, 0, none⟩) 1 1, .slice none 0 0, .slice none 0 0]) (L.length + 1)) := S5.out.grow hgrow6 hown6 hat6 (by simp)
              have HM6 := S6.out.ms (W := W) (F := ownE1 name) (m := m) HBA.out HXL.out HK4.out HX.out hm HLM.out (enat_nil _ _) (en_lit hp6 (Array.getElem?_eq_some_iff.1 hp6).1) (enat_nil _ _) (enat_nil _ _)
              have R2 : Calls Tryz.prog 16 #[.slice (some ⟨gm2, 0, none⟩) (L.length + 1) cap2, .int .i64 (m : Nat), .string name] w6 fun e w' => ∃ m' n' t', e = .returned (.agg #[.int .i64 3, .int .i64 m', .string n', .bool t']) ∧ Below w6.heap.size w6 w' := by
                obtain ⟨y1, y2, y3, y4⟩ := more_small (E := ownE1 name) HS.out hm HLM.out (by simp [ownE1]) (by simpa [ownE1] using hnz)
                have C := resolveX_any HM6 y1 y2 y3 (m : Int) name (y4 name)
                rw [ans_own hm HLM.out HO1.out HO2.out HND.out (by rw [HR.out]; unfold leads; rcases HLD.out with e | e <;> rw [e] <;> rfl)] at C
                exact C.mono fun e w' hh => ⟨_, _, _, hh.1, hh.2⟩
              clear HM6 hp6 hown6 hgrow6 hat6 S5 S4 q43 z43
              go_at_call 16
              refine R2.mono ?_
              rintro x7 w7 ⟨m7, n7, t7, rfl, b7⟩
              have S7 := S6.out.bel b7
              obtain ⟨⟨u0', q0⟩, z0⟩ := row_cell S7.r (j := L.length * 4) (by omega)
              obtain ⟨⟨u1', q1⟩, z1⟩ := row_cell S7.r (j := L.length * 4 + 1) (by omega)
              obtain ⟨⟨u2', q2⟩, z2⟩ := row_cell S7.r (j := L.length * 4 + 2) (by omega)
              obtain ⟨⟨u3', q3⟩, z3⟩ := row_cell S7.r (j := L.length * 4 + 3) (by omega)
              have hl9 : n9 < wA.heap.size := (Array.getElem?_eq_some_iff.1 HM9.out).1
              have f1' := (World.cell?_of_block (a := ⟨n9, 1, none⟩) (S7.b.block n9 hl9)).trans f1
              have F7 := fun (w : World) => fldF (.int .i64 3) (.int .i64 m7) (.string n7) (.bool t7) w 0 _ rfl
              have hltn : ((L.length : Nat) : Int) < ((L.length + 1 : Nat) : Int) := by omega
              have hg7 : gm2 < w7.heap.size := (World.ownsRow.lt S7.r gm2 rfl).2
              have HS7 : Hid _ := S7
              clear S7 b7 R2 S6
              go_wp2_with fail
              obtain ⟨w8, hw8⟩ : ∃ Y, ((((w7.setCell ⟨gm2, L.length * 4, none⟩ (.slice none 0 0)).setCell ⟨gm2, L.length * 4 + 1, none⟩ (.slice none 0 0)).setCell ⟨gm2, L.length * 4 + 2, none⟩ (.slice (some ⟨w7.heap.size, 0, none⟩) 1 1)).setCell ⟨gm2, L.length * 4 + 3, none⟩ (.slice none 0 0)).alloc (enO ⟨name, ⟨#[42]⟩, r.mod, false, 0⟩) = Y := ⟨_, rfl⟩
              have S8 : St6 wA w8 E L.length gs caps gm2 cap2 ((X.flatten.set (m * 4 + 3) (.slice (some ⟨gs, 0, none⟩) (E.st.length + 1) caps)) ++ [.slice none 0 0, .slice none 0 0, .slice (some ⟨w7.heap.size, 0, none⟩) 1 1, .slice none 0 0]) (L.length + 1) := by
                have h := ((((HS7.out.store (L.length * 4) (.slice none 0 0)).store (L.length * 4 + 1) (.slice none 0 0)).store (L.length * 4 + 2) (.slice (some ⟨w7.heap.size, 0, none⟩) 1 1)).store (L.length * 4 + 3) (.slice none 0 0)).bel (bel_a _ (enO ⟨name, ⟨#[42]⟩, r.mod, false, 0⟩))
                rw [set4 (by rw [List.length_set, HXF.out]), hw8] at h
                exact h
              have hp8 : w8.heap[w7.heap.size]? = some (enO ⟨name, ⟨#[42]⟩, r.mod, false, 0⟩) := by rw [← hw8]; exact hnewX _ (by simp)
              have HM8 := S8.ms (W := W) (F := othE1 name r.mod) (m := m) HBA.out HXL.out HK4.out HX.out hm HLM.out (enat_nil _ _) (enat_nil _ _) (en_lit (e := ⟨name, Xp.star, r.mod, false, 0⟩) hp8 (Array.getElem?_eq_some_iff.1 hp8).1) (enat_nil _ _)
              have R3 : Calls Tryz.prog 16 #[.slice (some ⟨gm2, 0, none⟩) (L.length + 1) cap2, .int .i64 (m : Nat), .string name] w8 fun e w' => ∃ n' t' m', e = .returned (.agg #[.int .i64 3, .int .i64 m', .string n', .bool t']) ∧ Below w8.heap.size w8 w' := by
                obtain ⟨y1, y2, y3, y4⟩ := more_small (E := othE1 name r.mod) HS.out hm HLM.out (by simp [othE1]) (by simp [othE1])
                have C := resolveX_any HM8 y1 y2 y3 (m : Int) name (y4 name)
                have ha := ans_oth1 hm HLM.out HO1.out HO2.out HND.out (by rw [HR.out]; exact HK.out)
                rw [HR.out] at ha
                rw [ha] at C
                exact C.mono fun e w' hh => ⟨_, _, _, hh.1, hh.2⟩
              have HB8 : Hid (Below wA.heap.size wA w8) := S8.b
              rw [show ((((w7.setCell ⟨gm2, L.length * 4, none⟩ (.slice none 0 0)).setCell ⟨gm2, L.length * 4 + 1, none⟩ (.slice none 0 0)).setCell ⟨gm2, L.length * 4 + 2, none⟩ (.slice (some ⟨w7.heap.size, 0, none⟩) 1 1)).setCell ⟨gm2, L.length * 4 + 3, none⟩ (.slice none 0 0)).alloc (.cells #[.string name, .string ⟨#[42]⟩, .int .i64 r.mod, .bool false, .int .i64 0] 49) = w8 from hw8]
              clear hw8 S8 hp8 HM8 q0 q1 q2 q3 z0 z1 z2 z3 f1' F7 HS7
              go_at_call 16
              refine R3.mono ?_
              rintro x9 w9 ⟨n8, t8, m8, rfl, b9⟩
              obtain ⟨wZ, hwZ⟩ : ∃ Y, w9.alloc (.cells #[.int .i64 3, .int .i64 m8, .string n8, .bool t8] 41) = Y := ⟨_, rfl⟩
              have bZ : Below w9.heap.size w9 wZ := by rw [← hwZ]; exact bel_a _ _
              have mZ := hnewX (w := w9) (.cells #[.int .i64 3, .int .i64 m8, .string n8, .bool t8] 41) rfl
              rw [hwZ] at mZ
              obtain ⟨⟨e0, e1, e2, e3⟩, _⟩ := t4 mZ
              have HBZ : Hid (Below wA.heap.size wA wZ) := bt (bt HB8.out b9) bZ
              have f0' := (World.cell?_of_block (a := ⟨n9, 0, none⟩) (HBZ.out.block n9 hl9)).trans f0
              have f1' := (World.cell?_of_block (a := ⟨n9, 1, none⟩) (HBZ.out.block n9 hl9)).trans f1
              have CZ := HE.out wZ (bt HBA.out HBZ.out)
              clear bZ mZ b9 R3
              go_wp2_with fail
              go_at_call 10
              refine CZ.mono ?_
              rintro x Z1 ⟨rfl, z1⟩
              go_wp2
              go_ret
              exact ⟨rfl, bt (bt HBA.out HBZ.out) z1⟩
            · have k1 : (r.k != 1) = true := by rw [hk1]; rfl
              have k2 : (r.k != 2) = false := by rw [hk1]; rfl
              have k3 : (r.k == 2) = true := by rw [hk1]; rfl
              have HK : Hid (r.k = 2) := hk1
              clear hk1
              go_wp2_with (first
                | (at_builtin; refine wpList_append_lies _ (by rfl) _ _ _ (by rfl) wA.heap.size 32 i0 _ 4 96 under_eslW hi0 hz0 hz1 hz2 rfl (by omega) _ 0 [] (by rfl) (World.ownsRow_nil _ _ _ _) ⟨vb, vo, none⟩ L.length vc X.flatten (by rfl) HXF.out HFLA.out HONE.out (by omega) (by unfold maxLen; omega) (by omega) (Nat.le_refl _) wA.heap.size rfl ?_; intro gm capm w2 hown2 hgrow2 hat2 hlt2; obtain ⟨c3', hy2', b2⟩ := HT1.out w2 hgrow2; rw [Nat.zero_add, List.nil_append] at hown2; rw [Nat.zero_add]; clear hat2 hgrow2)
                | (at_builtin; refine wpList_appEn _ (by rfl) _ _ (by rfl) (by rfl) (by rfl) hy2' hst1 ?_; intro v11 w3 hown3 b3; obtain ⟨g11, c11, hv11⟩ := row_form hown3; subst hv11; have hownA := World.ownsRow.alloc hown3 (.cells #[.string ⟨#[]⟩, .string ⟨#[]⟩, .int .i64 (L.length : Nat), .bool false, .int .i64 0] 49); clear c3' hy2')
                | (at_builtin; refine wpList_append_lies _ (by rfl) _ _ _ (by rfl) w2.heap.size 49 j0 _ 5 56 under_ens hj0 hy0 hy1 hy2 rfl (by omega) _ E.st.length (E.st.flatMap En.cs) (by rfl) hownA ⟨w3.heap.size, 0, none⟩ 1 1 (zN L.length).cs (by rfl) (by rfl) (World.news_of_block (cs := #[.string ⟨#[]⟩, .string ⟨#[]⟩, .int .i64 (L.length : Nat), .bool false, .int .i64 0]) (t := 49) (fr := (0, 0)) (hnewX _ rfl)) (by simp [Value.oneCell', En.cs]) (by omega) (by unfold maxLen; omega) (by omega) (by have := b3.size; simp; omega) (w3.heap.size + 1) (by simp) ?_; intro gs caps w4 hown4 hgrow4 hat4 hlt4; have row4 := row_to hown2 b3 hown3 hgrow4; obtain ⟨⟨u43, q43⟩, z43⟩ := row_cell row4 (j := m * 4 + 3) (by omega); have S4 : Hid (St6 wA w4 E L.length gs caps gm capm X.flatten L.length) := St6.start b2 b3 hown2 hown3 hgrow4 hown4 row4; have hownB := ((S4.out.store (m * 4 + 3) (.slice (some ⟨gs, 0, none⟩) (E.st.length + 1) caps)).bel (bel_a _ (enO ⟨name, name, -1, false, 0⟩))).bel (bel_a _ (.cells #[.slice none 0 0, .slice (some ⟨w4.heap.size, 0, none⟩) 1 1, .slice none 0 0, .slice none 0 0] 32)); have S5 : Hid _ := hownB; have hl4 : wA.heap.size ≤ w4.heap.size := S4.out.b.size; clear row4 hown4 hgrow4 hat4 hownA hown3 hown2 b2 b3 hownB)
                | (at_builtin; refine wpList_append_lies _ (by rfl) _ _ _ (by rfl) wA.heap.size 32 i0 _ 4 96 under_eslW hi0 hz0 hz1 hz2 rfl (by omega) _ L.length (X.flatten.set (m * 4 + 3) (.slice (some ⟨gs, 0, none⟩) (E.st.length + 1) caps)) (by rfl) S5.out.r ⟨w4.heap.size + 1, 0, none⟩ 1 1 [.slice none 0 0, .slice (some ⟨w4.heap.size, 0, none⟩) 1 1, .slice none 0 0, .slice none 0 0] (by rfl) (by rfl) (World.news_of_block (cs := #[.slice none 0 0, .slice (some ⟨w4.heap.size, 0, none⟩) 1 1, .slice none 0 0, .slice none 0 0]) (t := 32) (fr := (0, 0)) (hnewX _ (by simp))) (by simp [Value.oneCell']) (by omega) (by unfold maxLen; omega) (by omega) (by simp; omega) (w4.heap.size + 2) (by simp) ?_; intro gm2 cap2 w6 hown6 hgrow6 hat6 hlt6))
              have h4g : gm < w4.heap.size := (World.ownsRow.lt S4.out.r gm rfl).2
              have hp6 : w6.heap[w4.heap.size]? = some (enO ⟨name, name, -1, false, 0⟩) := (hgrow6.block _ (by simp; omega) (by simp [Value.ownBlock]; omega)).trans ((Below.heap_alloc _ _ _ (by simp)).trans (hnewX _ (by simp)))
              have S6 : Hid (St6 wA w6 E L.length gs caps gm2 cap2 (X.flatten.set (m * 4 + 3) (.slice (some ⟨gs, 0, none⟩) (E.st.length + 1) caps) ++ [.slice none 0 0, .slice (some ⟨w4.heap.size, 0, none⟩) 1 1, .slice none 0 0, .slice none 0 0]) (L.length + 1)) := S5.out.grow hgrow6 hown6 hat6 (by simp)
              have HM6 := S6.out.ms (W := W) (F := ownE1 name) (m := m) HBA.out HXL.out HK4.out HX.out hm HLM.out (enat_nil _ _) (en_lit hp6 (Array.getElem?_eq_some_iff.1 hp6).1) (enat_nil _ _) (enat_nil _ _)
              have R2 : Calls Tryz.prog 16 #[.slice (some ⟨gm2, 0, none⟩) (L.length + 1) cap2, .int .i64 (m : Nat), .string name] w6 fun e w' => ∃ m' n' t', e = .returned (.agg #[.int .i64 3, .int .i64 m', .string n', .bool t']) ∧ Below w6.heap.size w6 w' := by
                obtain ⟨y1, y2, y3, y4⟩ := more_small (E := ownE1 name) HS.out hm HLM.out (by simp [ownE1]) (by simpa [ownE1] using hnz)
                have C := resolveX_any HM6 y1 y2 y3 (m : Int) name (y4 name)
                rw [ans_own hm HLM.out HO1.out HO2.out HND.out (by rw [HR.out]; unfold leads; rcases HLD.out with e | e <;> rw [e] <;> rfl)] at C
                exact C.mono fun e w' hh => ⟨_, _, _, hh.1, hh.2⟩
              clear HM6 hp6 hown6 hgrow6 hat6 S5 S4 q43 z43
              go_at_call 16
              refine R2.mono ?_
              rintro x7 w7 ⟨m7, n7, t7, rfl, b7⟩
              have S7 := S6.out.bel b7
              obtain ⟨⟨u0', q0⟩, z0⟩ := row_cell S7.r (j := L.length * 4) (by omega)
              obtain ⟨⟨u1', q1⟩, z1⟩ := row_cell S7.r (j := L.length * 4 + 1) (by omega)
              obtain ⟨⟨u2', q2⟩, z2⟩ := row_cell S7.r (j := L.length * 4 + 2) (by omega)
              obtain ⟨⟨u3', q3⟩, z3⟩ := row_cell S7.r (j := L.length * 4 + 3) (by omega)
              have hl9 : n9 < wA.heap.size := (Array.getElem?_eq_some_iff.1 HM9.out).1
              have f1' := (World.cell?_of_block (a := ⟨n9, 1, none⟩) (S7.b.block n9 hl9)).trans f1
              have F7 := fun (w : World) => fldF (.int .i64 3) (.int .i64 m7) (.string n7) (.bool t7) w 0 _ rfl
              have hltn : ((L.length : Nat) : Int) < ((L.length + 1 : Nat) : Int) := by omega
              have hg7 : gm2 < w7.heap.size := (World.ownsRow.lt S7.r gm2 rfl).2
              have HS7 : Hid _ := S7
              clear S7 b7 R2 S6
              go_wp2_with fail
              obtain ⟨w8, hw8⟩ : ∃ Y, ((((w7.setCell ⟨gm2, L.length * 4, none⟩ (.slice none 0 0)).setCell ⟨gm2, L.length * 4 + 1, none⟩ (.slice none 0 0)).setCell ⟨gm2, L.length * 4 + 2, none⟩ (.slice (some ⟨w7.heap.size, 0, none⟩) 1 1)).setCell ⟨gm2, L.length * 4 + 3, none⟩ (.slice none 0 0)).alloc (enO ⟨name, ⟨#[42]⟩, r.mod, false, 0⟩) = Y := ⟨_, rfl⟩
              have S8 : St6 wA w8 E L.length gs caps gm2 cap2 ((X.flatten.set (m * 4 + 3) (.slice (some ⟨gs, 0, none⟩) (E.st.length + 1) caps)) ++ [.slice none 0 0, .slice none 0 0, .slice (some ⟨w7.heap.size, 0, none⟩) 1 1, .slice none 0 0]) (L.length + 1) := by
                have h := ((((HS7.out.store (L.length * 4) (.slice none 0 0)).store (L.length * 4 + 1) (.slice none 0 0)).store (L.length * 4 + 2) (.slice (some ⟨w7.heap.size, 0, none⟩) 1 1)).store (L.length * 4 + 3) (.slice none 0 0)).bel (bel_a _ (enO ⟨name, ⟨#[42]⟩, r.mod, false, 0⟩))
                rw [set4 (by rw [List.length_set, HXF.out]), hw8] at h
                exact h
              have hp8 : w8.heap[w7.heap.size]? = some (enO ⟨name, ⟨#[42]⟩, r.mod, false, 0⟩) := by rw [← hw8]; exact hnewX _ (by simp)
              have HM8 := S8.ms (W := W) (F := othE1 name r.mod) (m := m) HBA.out HXL.out HK4.out HX.out hm HLM.out (enat_nil _ _) (enat_nil _ _) (en_lit (e := ⟨name, Xp.star, r.mod, false, 0⟩) hp8 (Array.getElem?_eq_some_iff.1 hp8).1) (enat_nil _ _)
              have R3 : Calls Tryz.prog 16 #[.slice (some ⟨gm2, 0, none⟩) (L.length + 1) cap2, .int .i64 (m : Nat), .string name] w8 fun e w' => ∃ n' t', e = .returned (.agg #[.int .i64 2, .int .i64 r.mod, .string n', .bool t']) ∧ Below w8.heap.size w8 w' := by
                obtain ⟨y1, y2, y3, y4⟩ := more_small (E := othE1 name r.mod) HS.out hm HLM.out (by simp [othE1]) (by simp [othE1])
                have C := resolveX_any HM8 y1 y2 y3 (m : Int) name (y4 name)
                have ha := ans_oth2 hm HLM.out HO1.out HO2.out HND.out (by rw [HR.out]; exact HK.out)
                rw [HR.out] at ha
                rw [ha.1, ha.2] at C
                exact C.mono fun e w' hh => ⟨_, _, hh.1, hh.2⟩
              have HB8 : Hid (Below wA.heap.size wA w8) := S8.b
              rw [show ((((w7.setCell ⟨gm2, L.length * 4, none⟩ (.slice none 0 0)).setCell ⟨gm2, L.length * 4 + 1, none⟩ (.slice none 0 0)).setCell ⟨gm2, L.length * 4 + 2, none⟩ (.slice (some ⟨w7.heap.size, 0, none⟩) 1 1)).setCell ⟨gm2, L.length * 4 + 3, none⟩ (.slice none 0 0)).alloc (.cells #[.string name, .string ⟨#[42]⟩, .int .i64 r.mod, .bool false, .int .i64 0] 49) = w8 from hw8]
              clear hw8 S8 hp8 HM8 q0 q1 q2 q3 z0 z1 z2 z3 f1' F7 HS7
              go_at_call 16
              refine R3.mono ?_
              rintro x9 w9 ⟨n8, t8, rfl, b9⟩
              obtain ⟨wZ, hwZ⟩ : ∃ Y, w9.alloc (.cells #[.int .i64 2, .int .i64 r.mod, .string n8, .bool t8] 41) = Y := ⟨_, rfl⟩
              have bZ : Below w9.heap.size w9 wZ := by rw [← hwZ]; exact bel_a _ _
              have mZ := hnewX (w := w9) (.cells #[.int .i64 2, .int .i64 r.mod, .string n8, .bool t8] 41) rfl
              rw [hwZ] at mZ
              obtain ⟨⟨e0, e1, e2, e3⟩, _⟩ := t4 mZ
              have HBZ : Hid (Below wA.heap.size wA wZ) := bt (bt HB8.out b9) bZ
              have f0' := (World.cell?_of_block (a := ⟨n9, 0, none⟩) (HBZ.out.block n9 hl9)).trans f0
              have f1' := (World.cell?_of_block (a := ⟨n9, 1, none⟩) (HBZ.out.block n9 hl9)).trans f1
              have CZ := HE.out wZ (bt HBA.out HBZ.out)
              clear bZ mZ b9 R3
              go_wp2_with fail
              go_at_call 10
              refine CZ.mono ?_
              rintro x Z1 ⟨rfl, z1⟩
              go_wp2
              go_ret
              exact ⟨rfl, bt (bt HBA.out HBZ.out) z1⟩
end Go.Proofs.YtpmbacidijfjjaaGreatDoor.Way
