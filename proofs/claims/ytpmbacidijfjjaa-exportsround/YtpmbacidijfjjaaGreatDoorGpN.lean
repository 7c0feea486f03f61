/- Own text. The document's Resolve: what was asked, as a list; mathematics and memory. One star more to a module more: mathematics. Modules that give a name on in a circle: mathematics. Modules in a circle: what the contracts answer, and how the list lies in memory. Modules in a circle: how the list lies in memory. Modules in a circle: the walk of the statement. Modules in a circle: the card. -/
import Derived.Test.YtpmbacidijfjjaaGreatDoorGpC
import Derived.Test.YtpmbacidijfjjaaGreatDoorGpH
import Derived.Test.YtpmbacidijfjjaaGreatDoorGpI
namespace Go.Proofs.YtpmbacidijfjjaaGreatDoor
open Go.RowKit Xp
set_option linter.unusedVariables false
set_option linter.unusedSimpArgs false

/-- what was asked, as a list. -/
def stA (A : List (Qn × Bool)) : St := fun q => match A.find? (fun x => decide (x.1 = q)) with
  | none => 0
  | some x => if x.2 then 1 else 2
theorem stA_none {A : List (Qn × Bool)} {q : Qn} (h : ∀ x ∈ A, x.1 ≠ q) : stA A q = 0 := by
  have : A.find? (fun x => decide (x.1 = q)) = none := List.find?_eq_none.2 fun x hx => by simpa using h x hx
  unfold stA; rw [this]
theorem stA_some {A : List (Qn × Bool)} {k : Nat} (hk : k < A.length) (h : ∀ j (hj : j < A.length), j < k → A[j].1 ≠ A[k].1) : stA A A[k].1 = if A[k].2 then 1 else 2 := by
  have : A.find? (fun x => decide (x.1 = A[k].1)) = some A[k] := List.find?_eq_some_iff_getElem.2 ⟨by simp, k, hk, rfl, fun j hj => by simpa using h j (by omega) hj⟩
  unfold stA; rw [this]
theorem stA_zero {A : List (Qn × Bool)} {q : Qn} (h : stA A q = 0) : ∀ x ∈ A, x.1 ≠ q := fun x hx e => by
  unfold stA at h
  cases hf : A.find? (fun x => decide (x.1 = q)) with
  | none => exact absurd (List.find?_eq_none.1 hf x hx) (by simp [e])
  | some y => rw [hf] at h; simp only at h; split at h <;> cases h
theorem stA_push {A : List (Qn × Bool)} {q : Qn} (h : stA A q = 0) : stA (A ++ [(q, true)]) = (stA A).set q 1 := by
  funext p
  unfold stA St.set
  rw [List.find?_append]
  by_cases e : p = q
  · subst e
    have : A.find? (fun x => decide (x.1 = p)) = none := List.find?_eq_none.2 fun x hx => by simpa using stA_zero h x hx
    simp [this]
  · have e' : ¬ q = p := fun e2 => e e2.symm
    cases hf : A.find? (fun x => decide (x.1 = p)) <;> simp [hf, e, e']
theorem stA_close {A B : List (Qn × Bool)} {q : Qn} (h : ∀ x ∈ A, x.1 ≠ q) : stA (A ++ (q, false) :: B) = (stA (A ++ (q, true) :: B)).set q 2 := by
  funext p
  unfold stA St.set
  simp only [List.find?_append]
  by_cases e : p = q
  · subst e
    have : A.find? (fun x => decide (x.1 = p)) = none := List.find?_eq_none.2 fun x hx => by simpa using h x hx
    simp [this]
  · have e' : ¬ q = p := fun e2 => e e2.symm
    cases hf : A.find? (fun x => decide (x.1 = p)) <;> simp [hf, e, e']
theorem stA_le2 (A : List (Qn × Bool)) : ∀ q, stA A q ≤ 2 := fun q => by
  unfold stA
  split
  · omega
  · split <;> omega
/-- answers are of five kinds. -/
def Five (v : Fnd) : Prop := v = fd0 ∨ v.k = 1 ∨ v.k = 2 ∨ v = amb ∨ v = circ
theorem five_ask (L : List Es) (n0 : ByteArray) (S : St) (q : Qn) : Five (Xp.ask L n0 S q).1 := by
  refine ask_all Five (Or.inl rfl) (by simp [Five]) (by simp [Five]) (fun e he q v hf => ?_) (fun a b ha hb => ?_) (fun t v hv => ?_) _ _ _
  · unfold first at hf
    split at hf
    · cases hf; simp [Five]
    · split at hf
      · split at hf
        · cases hf; simp [Five]
        · cases hf
      · split at hf
        · cases hf; simp [Five]
        · cases hf
  · rcases ha with rfl | h | h | rfl | rfl
    · exact Or.inl rfl
    · exact Or.inr (Or.inl h)
    · exact Or.inr (Or.inr (Or.inl h))
    · exact Or.inr (Or.inr (Or.inr (Or.inl rfl)))
    · exact Or.inr (Or.inr (Or.inr (Or.inr rfl)))
  · rcases hv with rfl | h | h | rfl | rfl
    · exact Or.inl (by cases t <;> rfl)
    · exact Or.inr (Or.inl h)
    · exact Or.inr (Or.inr (Or.inl h))
    · exact Or.inr (Or.inr (Or.inr (Or.inl (by cases t <;> rfl))))
    · exact Or.inr (Or.inr (Or.inr (Or.inr (by cases t <;> rfl))))
/-- what the document's stars hold so far. -/
def encB (best : Fnd) (ci : Bool) : Fnd := if best.k = 0 then (if ci then circ else fd0) else best
theorem enc_amb (best : Fnd) (ci : Bool) : joined (encB best ci) amb = amb := joined_amb _
theorem enc_none (best : Fnd) (ci : Bool) : joined (encB best ci) fd0 = encB best ci := by unfold joined; simp [fd0]
theorem enc_circ (best : Fnd) (ci : Bool) (hb : best.k = 0 ∨ leads best = true) : joined (encB best ci) circ = encB best true := by
  rcases hb with h | h
  · unfold encB
    simp only [h, if_true]
    cases ci <;> simp [joined, circ, fd0, leads]
  · have h0 : best.k ≠ 0 := fun e => by simp [leads, e] at h
    unfold encB
    simp only [h0, if_false]
    unfold joined
    simp [h, circ]
theorem enc_first (best f : Fnd) (ci : Bool) (hb : best.k = 0) (hf : leads f = true) : joined (encB best ci) f = encB f ci := by
  have h0 : f.k ≠ 0 := fun e => by simp [leads, e] at hf
  have h4 : f.k ≠ 4 := fun e => by simp [leads, e] at hf
  unfold encB
  simp only [hb, if_true, h0, if_false]
  unfold joined
  cases ci <;> simp [h0, h4, circ, fd0, leads]
theorem enc_same (best f : Fnd) (ci : Bool) (hb : leads best = true) (hf : leads f = true) (h : best.k = f.k ∧ best.mod = f.mod ∧ best.name = f.name) : joined (encB best ci) f = encB { best with ty := best.ty && f.ty } ci := by
  have h0 : best.k ≠ 0 := fun e => by simp [leads, e] at hb
  have h0' : f.k ≠ 0 := fun e => by simp [leads, e] at hf
  have h4 : f.k ≠ 4 := fun e => by simp [leads, e] at hf
  unfold encB
  simp only [h0, if_false]
  unfold joined
  rw [if_neg (by simp [h0', h4]), if_neg (by simp [hb]), if_pos h]
theorem enc_other (best f : Fnd) (ci : Bool) (hb : leads best = true) (hf : leads f = true) (h : ¬ (best.k = f.k ∧ best.mod = f.mod ∧ best.name = f.name)) : joined (encB best ci) f = amb := by
  have h0 : best.k ≠ 0 := fun e => by simp [leads, e] at hb
  have h0' : f.k ≠ 0 := fun e => by simp [leads, e] at hf
  have h4 : f.k ≠ 4 := fun e => by simp [leads, e] at hf
  unfold encB
  simp only [h0, if_false]
  unfold joined
  rw [if_neg (by simp [h0', h4]), if_neg (by simp [hb]), if_neg h]
theorem enc_end (best : Fnd) (ci : Bool) : encB best ci = if best.k = 0 ∧ ci = true then circ else (if best.k = 0 then fd0 else best) := by
  unfold encB
  by_cases h : best.k = 0 <;> cases ci <;> simp [h]
theorem enc_k3 (best : Fnd) (ci : Bool) (hb : best.k = 0 ∨ leads best = true) : (encB best ci).k ≠ 3 := by
  rcases hb with h | h
  · unfold encB; cases ci <;> simp [h, circ, fd0]
  · have h0 : best.k ≠ 0 := fun e => by simp [leads, e] at h
    have h3 : best.k ≠ 3 := fun e => by simp [leads, e] at h
    unfold encB; simp [h0, h3]

def askC (A : List (Qn × Bool)) : List Value := A.flatMap fun x => [.int .i64 x.1.1, .string x.1.2, .bool x.2]
theorem askC_len : ∀ (A : List (Qn × Bool)), (askC A).length = A.length * 3
  | [] => rfl
  | p :: A => by
    have := askC_len A
    unfold askC at this ⊢
    rw [List.flatMap_cons, List.length_append, this]
    simp
    omega
theorem askC_app (A B : List (Qn × Bool)) : askC (A ++ B) = askC A ++ askC B := by simp [askC]
theorem askC_at {A : List (Qn × Bool)} {k : Nat} (hk : k < A.length) {j : Nat} (hj : j < 3) : (askC A)[k * 3 + j]? = ([.int .i64 A[k].1.1, .string A[k].1.2, .bool A[k].2] : List Value)[j]? := by
  have e : A = A.take k ++ A[k] :: A.drop (k + 1) := by simp
  have l : (A.take k).length = k := by simp; omega
  conv => lhs; rw [e, askC_app]
  rw [List.getElem?_append_right (by rw [askC_len, l]; omega), askC_len, l]
  unfold askC
  rw [List.flatMap_cons, show k * 3 + j - k * 3 = j by omega, List.getElem?_append_left (by simpa using hj)]
/-- the document's walk in memory. -/
structure RWk (W : World) (lo wk : Nat) (v : Value) (A : List (Qn × Bool)) (va : Value) : Prop where
  blk : W.heap[wk]? = some (.cells #[v, va] 74 (0, 0))
  row : W.ownsRow lo 114 3 va A.length (askC A)
  ne : va.ownBlock ≠ some wk
  lo : lo ≤ wk
structure Fx (wk : Nat) (va : Value) (W W' : World) : Prop where
  os : W'.os = W.os
  tape : W'.tape = W.tape
  output : W'.output = W.output
  size : W.heap.size ≤ W'.heap.size
  block : ∀ k, k < W.heap.size → k ≠ wk → va.ownBlock ≠ some k → W'.heap[k]? = W.heap[k]?
theorem Fx.bel {wk : Nat} {va : Value} {W W' : World} (h : Below W.heap.size W W') : Fx wk va W W' := ⟨h.os, h.tape, h.output, h.size, fun k hk _ _ => h.block k hk⟩
/-- the row behind may be a new one. -/
theorem Fx.trans {wk : Nat} {va vb : Value} {a b c : World} (h : Fx wk va a b) (k : Fx wk vb b c) (hv : ∀ i, vb.ownBlock = some i → va.ownBlock = some i ∨ a.heap.size ≤ i) : Fx wk va a c :=
  ⟨k.os.trans h.os, k.tape.trans h.tape, k.output.trans h.output, Nat.le_trans h.size k.size, fun i hi h1 h2 => (k.block i (Nat.lt_of_lt_of_le hi h.size) h1 (fun e => by
    rcases hv i e with e' | e'
    · exact h2 e'
    · omega)).trans (h.block i hi h1 h2)⟩
theorem RWk.lt {W : World} {lo wk : Nat} {v : Value} {A : List (Qn × Bool)} {va : Value} (h : RWk W lo wk v A va) : wk < W.heap.size := (Array.getElem?_eq_some_iff.1 h.blk).1
theorem RWk.bel {W W' : World} {lo wk : Nat} {v : Value} {A : List (Qn × Bool)} {va : Value} (h : RWk W lo wk v A va) (b : Below W.heap.size W W') : RWk W' lo wk v A va :=
  ⟨(b.block _ h.lt).trans h.blk, row_keep h.row fun i hi => b.block _ (World.ownsRow.lt h.row i hi).2, h.ne, h.lo⟩
theorem RWk.below {W W' : World} {lo wk : Nat} {v : Value} {A : List (Qn × Bool)} {va : Value} (h : RWk W lo wk v A va) (f : Fx wk va W W') (hl : lo ≤ W.heap.size) : Below lo W W' :=
  ⟨f.os, f.tape, f.output, f.size, fun k hk => f.block k (by omega) (by have := h.lo; omega) (fun e => by have := (World.ownsRow.lt h.row k e).1; omega)⟩
end Go.Proofs.YtpmbacidijfjjaaGreatDoor
namespace Go.Proofs.YtpmbacidijfjjaaGreatDoor
open Xp
set_option linter.unusedVariables false
set_option linter.unusedSimpArgs false
namespace Xp

/-- the same binding. -/
def Sim (a b : Fnd) : Prop := a.k = b.k ∧ a.mod = b.mod ∧ a.name = b.name
theorem Sim.refl (a : Fnd) : Sim a a := ⟨rfl, rfl, rfl⟩
theorem Sim.symm {a b : Fnd} (h : Sim a b) : Sim b a := ⟨h.1.symm, h.2.1.symm, h.2.2.symm⟩
theorem Sim.trans {a b c : Fnd} (h : Sim a b) (k : Sim b c) : Sim a c := ⟨h.1.trans k.1, h.2.1.trans k.2.1, h.2.2.trans k.2.2⟩
theorem Sim.leads {a b : Fnd} (h : Sim a b) : leads a = leads b := by unfold Xp.leads; rw [h.1]
theorem sim_ty (a : Fnd) (t : Bool) : Sim { a with ty := t } a := ⟨rfl, rfl, rfl⟩
theorem lead_k0 {a : Fnd} (h : leads a = true) : a.k ≠ 0 := fun e => by simp [leads, e] at h
theorem lead_k4 {a : Fnd} (h : leads a = true) : a.k ≠ 4 := fun e => by simp [leads, e] at h
theorem lead_k3 {a : Fnd} (h : leads a = true) : a.k ≠ 3 := fun e => by simp [leads, e] at h
theorem joined_r0 {a b : Fnd} (h : b.k = 0) : joined a b = a := by unfold joined; simp [h]
theorem joined_c {a b : Fnd} (h : b.k = 4) (ha : leads a = true) : joined a b = a := by unfold joined; simp [h, ha]
theorem joined_nl {a b : Fnd} (h : b.k ≠ 0) (ha : leads a = false) : joined a b = b := by unfold joined; rw [if_neg (by simp [h, ha]), if_pos ha]
theorem joined_s {a b : Fnd} (ha : leads a = true) (hb : leads b = true) (h : Sim a b) : joined a b = { a with ty := a.ty && b.ty } := by
  unfold joined; rw [if_neg (by simp [lead_k0 hb, lead_k4 hb]), if_neg (by simp [ha]), if_pos (show a.k = b.k ∧ a.mod = b.mod ∧ a.name = b.name from h)]
theorem joined_n {a b : Fnd} (ha : leads a = true) (hb : leads b = true) (h : ¬ Sim a b) : joined a b = amb := by
  unfold joined; rw [if_neg (by simp [lead_k0 hb, lead_k4 hb]), if_neg (by simp [ha]), if_neg (show ¬ (a.k = b.k ∧ a.mod = b.mod ∧ a.name = b.name) from h)]
theorem clo_sim (t : Bool) (v : Fnd) : Sim (clo t v) v := ⟨rfl, rfl, rfl⟩
def K4 (b : Fnd) : Prop := b.k = 0 ∨ b.k = 4 ∨ leads b = true ∨ b = amb
theorem K4.of {v : Fnd} (h : Five v) : K4 v := by
  rcases h with rfl | h | h | rfl | rfl
  · exact Or.inl rfl
  · exact Or.inr (Or.inr (Or.inl (by simp [leads, h])))
  · exact Or.inr (Or.inr (Or.inl (by simp [leads, h])))
  · exact Or.inr (Or.inr (Or.inr rfl))
  · exact Or.inr (Or.inl rfl)
theorem k4_ask (L : List Es) (f : Nat) (S : St) (q : Qn) : K4 (askF L f S q).1 := by
  refine K4.of (ask_all Five (Or.inl rfl) (by simp [Five]) (by simp [Five]) (fun e he q v hf => ?_) (fun a b ha hb => ?_) (fun t v hv => ?_) _ _ _)
  · unfold first at hf
    split at hf
    · cases hf; simp [Five]
    · split at hf
      · split at hf
        · cases hf; simp [Five]
        · cases hf
      · split at hf
        · cases hf; simp [Five]
        · cases hf
  · rcases ha with rfl | h | h | rfl | rfl
    · exact Or.inl rfl
    · exact Or.inr (Or.inl h)
    · exact Or.inr (Or.inr (Or.inl h))
    · exact Or.inr (Or.inr (Or.inr (Or.inl rfl)))
    · exact Or.inr (Or.inr (Or.inr (Or.inr rfl)))
  · rcases hv with rfl | h | h | rfl | rfl
    · exact Or.inl (by cases t <;> rfl)
    · exact Or.inr (Or.inl h)
    · exact Or.inr (Or.inr (Or.inl h))
    · exact Or.inr (Or.inr (Or.inr (Or.inl (by cases t <;> rfl))))
    · exact Or.inr (Or.inr (Or.inr (Or.inr (by cases t <;> rfl))))
/-- once it leads, it leads there, or is ambiguous. -/
theorem frG_keep {ask : St → Qn → Fnd × St} (hk : ∀ S q, K4 (ask S q).1) (name : ByteArray) : ∀ (l : List En) (S : St) (v : Fnd), leads v = true → (frG ask name S l v).1 = amb ∨ (leads (frG ask name S l v).1 = true ∧ Sim (frG ask name S l v).1 v)
  | [], S, v, hv => Or.inr ⟨hv, Sim.refl v⟩
  | e :: l, S, v, hv => by
    unfold frG
    simp only []
    rcases hk S (e.mod, name) with h | h | h | h
    · rw [joined_r0 h, if_neg (lead_k3 hv)]; exact frG_keep hk name l _ v hv
    · rw [joined_c h hv, if_neg (lead_k3 hv)]; exact frG_keep hk name l _ v hv
    · by_cases hs : Sim v (ask S (e.mod, name)).1
      · rw [joined_s hv h hs, if_neg (lead_k3 (a := { v with ty := v.ty && (ask S (e.mod, name)).1.ty }) hv)]
        rcases frG_keep hk name l (ask S (e.mod, name)).2 { v with ty := v.ty && (ask S (e.mod, name)).1.ty } hv with h1 | ⟨h1, h2⟩
        · exact Or.inl h1
        · exact Or.inr ⟨h1, h2.trans (sim_ty _ _)⟩
      · rw [joined_n hv h hs]; exact Or.inl rfl
    · rw [h, joined_amb]; exact Or.inl rfl
theorem frG_app (ask : St → Qn → Fnd × St) (name : ByteArray) (z : En) : ∀ (l : List En) (S : St) (v : Fnd), v.k ≠ 3 → frG ask name S (l ++ [z]) v = if (frG ask name S l v).1.k = 3 then frG ask name S l v else frG ask name (frG ask name S l v).2 [z] (frG ask name S l v).1
  | [], S, v, hv => by
    rw [List.nil_append, show frG ask name S [] v = (v, S) from rfl, if_neg hv]
  | e :: l, S, v, hv => by
    rw [List.cons_append]
    simp only [frG]
    by_cases h : (joined v (ask S (e.mod, name)).1).k = 3
    · simp [h]
    · simp only [h, if_false]
      exact frG_app ask name z l _ _ h

/-- modules, and the same with one more. -/
structure Wy where
  L : List Es
  M : List Es
  mod : Nat
  nm : ByteArray
  e : Es
  z : En
  E : Es
  N : Fnd
structure Wy.ok (c : Wy) : Prop where
  hl : c.mod < c.L.length
  he : c.L[c.mod]? = some c.e
  hM : ∀ m, m < c.L.length → m ≠ c.mod → c.M[m]? = c.L[m]?
  hm : c.M[c.mod]? = some ⟨c.e.imp, c.e.own, c.e.oth, c.e.st ++ [c.z]⟩
  hn : c.M[c.L.length]? = some c.E
  ho : ∀ m, c.L.length < m → c.M[m]? = none
  hz : c.z.mod = (c.L.length : Nat)
  e1 : first c.E ((c.L.length : Nat), c.nm) = .val c.N
  e2 : ∀ x, x ≠ c.nm → first c.E ((c.L.length : Nat), x) = .val fd0 ∨ first c.E ((c.L.length : Nat), x) = .go [] x false
  hN : leads c.N = true
abbrev Wy.n (c : Wy) : Int := (c.L.length : Nat)
structure Ag (c : Wy) (S S' : St) : Prop where
  a : ∀ q : Qn, q.1 ≠ c.n → S' q = S q
  b : ∀ x, S' (c.n, x) ≠ 1
  o : S ((c.mod : Nat), c.nm) ≠ 0
def HR (N v v' : Fnd) : Prop := leads v' = true ∧ Sim v' N ∧ (leads v = true → Sim v N)
/-- how far the two have come: from a state S0 of the second one on. -/
def Rl (c : Wy) (S0 : St) (r r' : Fnd × St) : Prop :=
  (r'.1 = amb ∧ (r.1 = amb ∨ (leads r.1 = true ∧ ¬ Sim r.1 c.N))) ∨
  (Ag c r.2 r'.2 ∧ ((r'.1 = r.1 ∧ r'.2 (c.n, c.nm) = S0 (c.n, c.nm)) ∨ (S0 (c.n, c.nm) = 0 ∧ r'.2 (c.n, c.nm) ≠ 0 ∧ r.1.k ≠ 3 ∧ HR c.N r.1 r'.1)))
theorem Ag.set {c : Wy} {S S' : St} (h : Ag c S S') {q : Qn} (hq : q.1 ≠ c.n) {k : Nat} (hk : k ≠ 0) : Ag c (S.set q k) (S'.set q k) ∧ ∀ x, S'.set q k (c.n, x) = S' (c.n, x) := by
  have hx : ∀ x, S'.set q k (c.n, x) = S' (c.n, x) := fun x => St.set_ne _ _ (fun e => hq (by rw [← e]))
  refine ⟨⟨fun p hp => ?_, fun x => by rw [hx]; exact h.b x, ?_⟩, hx⟩
  · unfold St.set
    split
    · rfl
    · exact h.a p hp
  · unfold St.set
    split
    · exact hk
    · exact h.o
/-- the module more. -/
theorem ask_more {c : Wy} (hc : c.ok) (f : Nat) {S S' : St} (h : Ag c S S') (x : ByteArray) : Rl c S' (askF c.L f S (c.n, x)) (askF c.M f S' (c.n, x)) ∧ (x ≠ c.nm → (askF c.M f S' (c.n, x)).1 = fd0 ∧ Ag c S (askF c.M f S' (c.n, x)).2 ∧ (askF c.M f S' (c.n, x)).2 (c.n, c.nm) = S' (c.n, c.nm)) := by
  have hL : askF c.L f S (c.n, x) = (fd0, S) := by
    cases f with
    | zero => rfl
    | succ f =>
      show stepF c.L _ S _ = _
      unfold stepF
      rw [if_pos (by show (0 : Int) ≤ ((c.L.length : Nat) : Int); omega)]
      have : c.L[(c.n, x).1.toNat]? = none := by show c.L[((c.L.length : Nat) : Int).toNat]? = none; simp
      rw [this]
  rw [hL]
  cases f with
  | zero =>
    refine ⟨Or.inr ⟨h, Or.inl ⟨rfl, rfl⟩⟩, fun _ => ⟨rfl, h, rfl⟩⟩
  | succ f =>
    have hM : askF c.M (f + 1) S' (c.n, x) = if S' (c.n, x) ≠ 0 then (fd0, S') else match first c.E (c.n, x) with
        | .val v => (v, S'.set (c.n, x) 2)
        | .go left name ty => let r := frG (askF c.M f) name (S'.set (c.n, x) 1) left fd0; (clo ty r.1, r.2.set (c.n, x) 2) := by
      show stepF c.M _ S' _ = _
      unfold stepF
      rw [if_pos (by show (0 : Int) ≤ ((c.L.length : Nat) : Int); omega)]
      have : c.M[(c.n, x).1.toNat]? = some c.E := by show c.M[((c.L.length : Nat) : Int).toNat]? = some c.E; rw [show ((c.L.length : Nat) : Int).toNat = c.L.length by simp]; exact hc.hn
      rw [this]
      have hb := h.b x
      by_cases h0 : S' (c.n, x) = 0
      · simp only [h0, Nat.zero_ne_one, if_false, ne_eq, not_true_eq_false]
        cases first c.E (c.n, x) <;> rfl
      · simp only [hb, h0, if_false, ne_eq, not_false_eq_true, if_true]
    rw [hM]
    have ag : Ag c S (S'.set (c.n, x) 2) := ⟨fun q hq => by rw [St.set_ne _ _ (fun e => hq (by rw [e]))]; exact h.a q hq, fun y => by unfold St.set; split; exact (by decide); exact h.b y, h.o⟩
    by_cases h0 : S' (c.n, x) = 0
    · rw [if_neg (by simp [h0])]
      by_cases hx : x = c.nm
      · subst hx
        rw [show first c.E (c.n, c.nm) = .val c.N from hc.e1]
        simp only []
        exact ⟨Or.inr ⟨ag, Or.inr ⟨h0, by show (S'.set (c.n, c.nm) 2) (c.n, c.nm) ≠ 0; rw [St.set_self]; decide, by show fd0.k ≠ 3; decide, hc.hN, Sim.refl _, fun e => by cases e⟩⟩, fun e => absurd rfl e⟩
      · have hne : (S'.set (c.n, x) 2) (c.n, c.nm) = S' (c.n, c.nm) := St.set_ne _ _ (fun e => hx (by injection e with _ e; exact e.symm))
        have hs : ∀ k, (S'.set (c.n, x) k).set (c.n, x) 2 = S'.set (c.n, x) 2 := fun k => by funext p; unfold St.set; split <;> simp_all
        rcases hc.e2 x hx with e | e
        · rw [show first c.E (c.n, x) = .val fd0 from e]
          exact ⟨Or.inr ⟨ag, Or.inl ⟨rfl, hne⟩⟩, fun _ => ⟨rfl, ag, hne⟩⟩
        · rw [show first c.E (c.n, x) = .go [] x false from e]
          simp only [frG, hs]
          have : clo false fd0 = fd0 := rfl
          rw [this]
          exact ⟨Or.inr ⟨ag, Or.inl ⟨rfl, hne⟩⟩, fun _ => ⟨rfl, ag, hne⟩⟩
    · rw [if_pos h0]
      exact ⟨Or.inr ⟨h, Or.inl ⟨rfl, rfl⟩⟩, fun _ => ⟨rfl, h, rfl⟩⟩
/-- one after the other. -/
theorem fr_sim {c : Wy} (hc : c.ok) {f : Nat} (ih : ∀ S S' q, Ag c S S' → Rl c S' (askF c.L f S q) (askF c.M f S' q)) (name : ByteArray) (S0 : St) : ∀ (l : List En) (S S' : St) (v v' : Fnd), v.k ≠ 3 → v'.k ≠ 3 → Rl c S0 (v, S) (v', S') → Rl c S0 (frG (askF c.L f) name S l v) (frG (askF c.M f) name S' l v')
  | [], S, S', v, v', _, _, h => h
  | e :: l, S, S', v, v', h3, h3', h => by
    rcases h with ⟨h1, _⟩ | ⟨ag, h⟩
    · exact absurd (by rw [show v' = amb from h1]; rfl) h3'
    have r := ih S S' (e.mod, name) ag
    have kL := k4_ask c.L f S (e.mod, name)
    simp only [frG]
    generalize askF c.L f S (e.mod, name) = a at *
    generalize askF c.M f S' (e.mod, name) = a' at *
    obtain ⟨a, T⟩ := a
    obtain ⟨a', T'⟩ := a'
    simp only at r kL h ag ⊢
    -- the second one ends
    have stop : ∀ (j : Fnd), leads j = true → ¬ Sim j c.N → j.k ≠ 3 → Rl c S0 (frG (askF c.L f) name T l j) (amb, T') := fun j hj hs _ => by
      rcases frG_keep (k4_ask c.L f) name l T j hj with k | ⟨k1, k2⟩
      · exact Or.inl ⟨rfl, Or.inl k⟩
      · exact Or.inl ⟨rfl, Or.inr ⟨k1, fun e => hs (k2.symm.trans e)⟩⟩
    have go : ∀ (j j' : Fnd), Rl c S0 (j, T) (j', T') → Rl c S0 (if j.k = 3 then (j, T) else frG (askF c.L f) name T l j) (if j'.k = 3 then (j', T') else frG (askF c.M f) name T' l j') := fun j j' hj => by
      by_cases k : j.k = 3
      · by_cases k' : j'.k = 3
        · rw [if_pos k, if_pos k']; exact hj
        · rcases hj with ⟨h1, _⟩ | ⟨_, ⟨h1, _⟩ | ⟨_, _, h1, _⟩⟩
          · exact absurd (by rw [show j' = amb from h1]; rfl) k'
          · exact absurd (by rw [show j' = j from h1]; exact k) k'
          · exact absurd k h1
      · by_cases k' : j'.k = 3
        · rcases hj with ⟨h1, h2 | ⟨h2, h4⟩⟩ | ⟨_, ⟨h1, _⟩ | ⟨_, _, _, h1, _⟩⟩
          · exact absurd (by rw [show j = amb from h2]; rfl) k
          · rw [if_neg k, if_pos k', show j' = amb from h1]
            exact stop j h2 h4 k
          · exact absurd (by rw [← (show j' = j from h1)]; exact k') k
          · exact absurd k' (lead_k3 h1)
        · rw [if_neg k, if_neg k']
          exact fr_sim hc ih name S0 l T T' j j' k k' hj
    refine go _ _ ?_
    rcases r with ⟨r1, r2⟩ | ⟨ag2, r⟩
    · -- the second one's is ambiguous
      obtain rfl : a' = amb := r1
      rw [joined_amb]
      rcases r2 with r2 | ⟨r2, r4⟩
      · obtain rfl : a = amb := r2
        rw [joined_amb]
        exact Or.inl ⟨rfl, Or.inl rfl⟩
      · refine Or.inl ⟨rfl, ?_⟩
        by_cases hv : leads v = true
        · by_cases hs : Sim v a
          · rw [joined_s hv r2 hs]
            exact Or.inr ⟨hv, fun e => r4 (hs.symm.trans ((sim_ty _ _).symm.trans e))⟩
          · rw [joined_n hv r2 hs]; exact Or.inl rfl
        · rw [joined_nl (lead_k0 r2) (by simpa using hv)]
          exact Or.inr ⟨r2, r4⟩
    · rcases h with ⟨h1, h2⟩ | ⟨h1, h2, h4, hr⟩
      · obtain rfl : v' = v := h1
        rcases r with ⟨r1, r2⟩ | ⟨r1, r2, r4, rr⟩
        · obtain rfl : a' = a := r1
          exact Or.inr ⟨ag2, Or.inl ⟨rfl, r2.trans h2⟩⟩
        · obtain ⟨q1, q2, q3⟩ := rr
          have hz : S0 (c.n, c.nm) = 0 := h2.symm.trans r1
          by_cases hv : leads v' = true
          · by_cases hs : Sim v' c.N
            · have e' : joined v' a' = { v' with ty := v'.ty && a'.ty } := joined_s hv q1 (hs.trans q2.symm)
              rw [e']
              rcases kL with k | k | k | k
              · rw [joined_r0 k]; exact Or.inr ⟨ag2, Or.inr ⟨hz, r2, h3, hv, (sim_ty _ _).trans hs, fun _ => hs⟩⟩
              · rw [joined_c k hv]; exact Or.inr ⟨ag2, Or.inr ⟨hz, r2, h3, hv, (sim_ty _ _).trans hs, fun _ => hs⟩⟩
              · rw [joined_s hv k (hs.trans (q3 k).symm)]; exact Or.inr ⟨ag2, Or.inr ⟨hz, r2, h3, hv, (sim_ty _ _).trans hs, fun _ => (sim_ty _ _).trans hs⟩⟩
              · exact absurd (by rw [k]; rfl) r4
            · rw [joined_n hv q1 (fun e => hs (e.trans q2))]
              refine Or.inl ⟨rfl, ?_⟩
              rcases kL with k | k | k | k
              · rw [joined_r0 k]; exact Or.inr ⟨hv, hs⟩
              · rw [joined_c k hv]; exact Or.inr ⟨hv, hs⟩
              · rw [joined_n hv k (fun e => hs (e.trans (q3 k)))]; exact Or.inl rfl
              · exact absurd (by rw [k]; rfl) r4
          · have hv' : leads v' = false := by simpa using hv
            rw [joined_nl (lead_k0 q1) hv']
            have : (joined v' a).k ≠ 3 ∧ (leads (joined v' a) = true → Sim (joined v' a) c.N) := by
              by_cases k : a.k = 0
              · rw [joined_r0 k]; exact ⟨h3, fun e => absurd e hv⟩
              · rw [joined_nl k hv']; exact ⟨r4, q3⟩
            exact Or.inr ⟨ag2, Or.inr ⟨hz, r2, this.1, q1, q2, this.2⟩⟩
      · obtain ⟨q1, q2, q3⟩ := hr
        rcases r with ⟨r1, r2⟩ | ⟨r1, _⟩
        · obtain rfl : a' = a := r1
          have h2' : T' (c.n, c.nm) ≠ 0 := by rw [show T' (c.n, c.nm) = S' (c.n, c.nm) from r2]; exact h2
          rcases kL with k | k | k | k
          · rw [joined_r0 k, joined_r0 k]; exact Or.inr ⟨ag2, Or.inr ⟨h1, h2', h3, q1, q2, q3⟩⟩
          · rw [joined_c k q1]
            by_cases hv : leads v = true
            · rw [joined_c k hv]; exact Or.inr ⟨ag2, Or.inr ⟨h1, h2', h3, q1, q2, q3⟩⟩
            · rw [joined_nl (by rw [k]; decide) (by simpa using hv)]
              exact Or.inr ⟨ag2, Or.inr ⟨h1, h2', by rw [k]; decide, q1, q2, fun e => absurd k (lead_k4 e)⟩⟩
          · by_cases hs : Sim a' c.N
            · rw [joined_s q1 k (q2.trans hs.symm)]
              by_cases hv : leads v = true
              · rw [joined_s hv k ((q3 hv).trans hs.symm)]; exact Or.inr ⟨ag2, Or.inr ⟨h1, h2', h3, q1, (sim_ty _ _).trans q2, fun _ => (sim_ty _ _).trans (q3 hv)⟩⟩
              · rw [joined_nl (lead_k0 k) (by simpa using hv)]
                exact Or.inr ⟨ag2, Or.inr ⟨h1, h2', lead_k3 k, q1, (sim_ty _ _).trans q2, fun _ => hs⟩⟩
            · rw [joined_n q1 k (fun e => hs (e.symm.trans q2))]
              refine Or.inl ⟨rfl, ?_⟩
              by_cases hv : leads v = true
              · rw [joined_n hv k (fun e => hs (e.symm.trans (q3 hv)))]; exact Or.inl rfl
              · rw [joined_nl (lead_k0 k) (by simpa using hv)]; exact Or.inr ⟨k, hs⟩
          · obtain rfl : a' = amb := k
            rw [joined_amb, joined_amb]
            exact Or.inl ⟨rfl, Or.inl rfl⟩
        · exact absurd r1 h2
/-- the two, question by question. -/
theorem ask_sim {c : Wy} (hc : c.ok) : ∀ (f : Nat) (S S' : St) (q : Qn), Ag c S S' → Rl c S' (askF c.L f S q) (askF c.M f S' q)
  | 0, S, S', q, h => Or.inr ⟨h, Or.inl ⟨rfl, rfl⟩⟩
  | f + 1, S, S', q, h => by
    have ih := ask_sim hc f
    by_cases hn : q.1 = c.n
    · obtain ⟨m, x⟩ := q
      obtain rfl : m = c.n := hn
      exact (ask_more hc (f + 1) h x).1
    have hS := h.a q hn
    show Rl c S' (stepF c.L (askF c.L f) S q) (stepF c.M (askF c.M f) S' q)
    unfold stepF
    by_cases h0 : 0 ≤ q.1
    rotate_left
    · rw [if_neg h0, if_neg h0]; exact Or.inr ⟨h, Or.inl ⟨rfl, rfl⟩⟩
    rw [if_pos h0, if_pos h0]
    by_cases hl : q.1.toNat < c.L.length
    rotate_left
    · have hlt : c.L.length < q.1.toNat := by
        have : q.1 ≠ ((c.L.length : Nat) : Int) := hn
        omega
      rw [List.getElem?_eq_none (by omega), hc.ho _ hlt]
      exact Or.inr ⟨h, Or.inl ⟨rfl, rfl⟩⟩
    rw [hS]
    obtain ⟨e, he⟩ : ∃ e, c.L[q.1.toNat]? = some e := ⟨_, List.getElem?_eq_getElem hl⟩
    rw [he]
    -- a star more, or none
    obtain ⟨e', he', hown, hoth, hst⟩ : ∃ e', c.M[q.1.toNat]? = some e' ∧ e'.own = e.own ∧ e'.oth = e.oth ∧ (e'.st = e.st ∨ (q.1 = ((c.mod : Nat) : Int) ∧ e'.st = e.st ++ [c.z])) := by
      by_cases hm : q.1.toNat = c.mod
      · have : e = c.e := by rw [hm, hc.he] at he; injection he with he; exact he.symm
        subst this
        exact ⟨⟨c.e.imp, c.e.own, c.e.oth, c.e.st ++ [c.z]⟩, by rw [hm]; exact hc.hm, rfl, rfl, Or.inr ⟨by omega, rfl⟩⟩
      · exact ⟨e, by rw [hc.hM _ hl hm]; exact he, rfl, rfl, Or.inl rfl⟩
    rw [he']
    simp only []
    by_cases s1 : S q = 1
    · rw [if_pos s1, if_pos s1]; exact Or.inr ⟨h, Or.inl ⟨rfl, rfl⟩⟩
    rw [if_neg s1, if_neg s1]
    by_cases s0 : S q = 0
    rotate_left
    · rw [if_pos s0, if_pos s0]; exact Or.inr ⟨h, Or.inl ⟨rfl, rfl⟩⟩
    rw [if_neg (by simp [s0]), if_neg (by simp [s0])]
    obtain ⟨ag1, hx1⟩ := h.set (k := 1) hn (by decide)
    have fin : ∀ (ty : Bool) (r r' : Fnd × St), Rl c S' r r' → Rl c S' (clo ty r.1, r.2.set q 2) (clo ty r'.1, r'.2.set q 2) := fun ty r r' hr => by
      rcases hr with ⟨a, b⟩ | ⟨ag, b⟩
      · refine Or.inl ⟨by show clo ty r'.1 = amb; rw [a]; cases ty <;> rfl, ?_⟩
        rcases b with b | ⟨b1, b2⟩
        · exact Or.inl (by show clo ty r.1 = amb; rw [b]; cases ty <;> rfl)
        · exact Or.inr ⟨((clo_sim ty r.1).leads).trans b1, fun e => b2 ((clo_sim ty r.1).symm.trans e)⟩
      · obtain ⟨ag2, hx2⟩ := ag.set (k := 2) hn (by decide)
        refine Or.inr ⟨ag2, ?_⟩
        rcases b with ⟨b1, b2⟩ | ⟨b1, b2, b3, b4, b5, b6⟩
        · exact Or.inl ⟨by show clo ty r'.1 = clo ty r.1; rw [b1], (hx2 _).trans b2⟩
        · exact Or.inr ⟨b1, by show (r'.2.set q 2) (c.n, c.nm) ≠ 0; rw [hx2]; exact b2, b3, ((clo_sim ty r'.1).leads).trans b4, (clo_sim ty r'.1).trans b5, fun e => (clo_sim ty r.1).trans (b6 (((clo_sim ty r.1).leads).symm.trans e))⟩
    have st : ∀ (l : List En) (name : ByteArray), Rl c S' (frG (askF c.L f) name (S.set q 1) l fd0) (frG (askF c.M f) name (S'.set q 1) l fd0) := fun l name =>
      fr_sim hc ih name S' l _ _ fd0 fd0 (by decide) (by decide) (Or.inr ⟨ag1, Or.inl ⟨rfl, hx1 _⟩⟩)
    have hf : ∀ v, first e q = .val v → first e' q = .val v := fun v hv => by
      unfold first at hv ⊢
      rw [hown, hoth]
      split at hv
      · exact hv
      · split at hv
        · split at hv
          · rename_i hs; rw [if_pos hs]; exact hv
          · cases hv
        · split at hv
          · rename_i hs; rw [if_pos hs]; exact hv
          · cases hv
    cases hfe : first e q with
    | val v =>
      rw [hf v hfe]
      simp only []
      obtain ⟨ag2, hx2⟩ := h.set (k := 2) hn (by decide)
      exact Or.inr ⟨ag2, Or.inl ⟨rfl, hx2 _⟩⟩
    | go left name ty =>
      have hfe' : first e' q = .go left name ty ∨ (q.1 = ((c.mod : Nat) : Int) ∧ name = q.2 ∧ first e' q = .go (left ++ [c.z]) name ty) := by
        unfold first at hfe ⊢
        rw [hown, hoth]
        split at hfe
        · cases hfe
        · split at hfe
          · split at hfe
            · cases hfe
            · rename_i hns
              rw [if_neg hns]; exact Or.inl hfe
          · split at hfe
            · cases hfe
            · rename_i hns
              rw [if_neg hns]
              cases hfe
              rcases hst with hst | ⟨hq, hst⟩
              · rw [hst]; exact Or.inl rfl
              · rw [hst]; exact Or.inr ⟨hq, rfl, rfl⟩
      rcases hfe' with hfe' | ⟨hq, hnq, hfe'⟩
      · rw [hfe']
        exact fin ty _ _ (st left name)
      · rw [hfe']
        simp only []
        have hne : name ≠ c.nm := fun e => h.o (by rw [← e, hnq, ← hq]; exact s0)
        refine fin ty _ _ ?_
        rw [frG_app _ _ _ _ _ _ (by decide)]
        have h1 := st left name
        generalize frG (askF c.L f) name (S.set q 1) left fd0 = r at *
        generalize frG (askF c.M f) name (S'.set q 1) left fd0 = r' at *
        by_cases k : r'.1.k = 3
        · rw [if_pos k]; exact h1
        · rw [if_neg k]
          rcases h1 with ⟨h1, _⟩ | ⟨ag, h1⟩
          · exact absurd (by rw [h1]; rfl) k
          · obtain ⟨m1, m2, m3⟩ := (ask_more hc f ag name).2 hne
            have e1 : frG (askF c.M f) name r'.2 [c.z] r'.1 = (r'.1, (askF c.M f r'.2 (c.n, name)).2) := by
              simp only [frG, hc.hz]
              rw [show askF c.M f r'.2 (((c.L.length : Nat) : Int), name) = askF c.M f r'.2 (c.n, name) from rfl, m1, joined_r0 rfl, if_neg k]
            rw [e1]
            refine Or.inr ⟨m2, ?_⟩
            rcases h1 with ⟨b1, b2⟩ | ⟨b1, b2, b3⟩
            · exact Or.inl ⟨b1, m3.trans b2⟩
            · exact Or.inr ⟨b1, by show (askF c.M f r'.2 (c.n, name)).2 _ ≠ 0; rw [m3]; exact b2, b3⟩
def Z0 : St := fun _ => 0
/-- what a module with one star more answers. -/
theorem ways {c : Wy} (hc : c.ok) (h1 : c.e.own.find? (fun x => x.there == c.nm) = none) (h2 : c.e.oth.find? (fun x => x.here == c.nm) = none) (h3 : c.nm ≠ dflt) (F : Nat) (hF : 1 ≤ F) {f g : Fnd} (hf : f = (askF c.L (F + 1) Z0 (((c.mod : Nat) : Int), c.nm)).1) (hg : g = (askF c.M (F + 1) Z0 (((c.mod : Nat) : Int), c.nm)).1) (hl : leads f = true) :
    (¬ Sim f c.N → g = amb) ∧ (Sim f c.N → Sim g f) := by
  have hq : (((c.mod : Nat) : Int), c.nm).1 ≠ c.n := by show ((c.mod : Nat) : Int) ≠ ((c.L.length : Nat) : Int); have := hc.hl; omega
  have cl : ∀ v : Fnd, clo false v = v := fun v => by unfold clo; simp
  have f1 : first c.e (((c.mod : Nat) : Int), c.nm) = .go c.e.st c.nm false := by unfold first; rw [h1, h2]; simp [h3]
  have f2 : first ⟨c.e.imp, c.e.own, c.e.oth, c.e.st ++ [c.z]⟩ (((c.mod : Nat) : Int), c.nm) = .go (c.e.st ++ [c.z]) c.nm false := by unfold first; rw [h1, h2]; simp [h3]
  have eL : f = (frG (askF c.L F) c.nm (Z0.set (((c.mod : Nat) : Int), c.nm) 1) c.e.st fd0).1 := by
    rw [hf]
    show (stepF c.L (askF c.L F) _ _).1 = _
    unfold stepF
    rw [if_pos (by show (0 : Int) ≤ ((c.mod : Nat) : Int); omega), show (((c.mod : Nat) : Int), c.nm).1.toNat = c.mod by simp, hc.he]
    simp only [f1, cl]
    rfl
  have eM : g = (frG (askF c.M F) c.nm (Z0.set (((c.mod : Nat) : Int), c.nm) 1) (c.e.st ++ [c.z]) fd0).1 := by
    rw [hg]
    show (stepF c.M (askF c.M F) _ _).1 = _
    unfold stepF
    rw [if_pos (by show (0 : Int) ≤ ((c.mod : Nat) : Int); omega), show (((c.mod : Nat) : Int), c.nm).1.toNat = c.mod by simp, hc.hm]
    simp only [f2, cl]
    rfl
  have ag : Ag c (Z0.set (((c.mod : Nat) : Int), c.nm) 1) (Z0.set (((c.mod : Nat) : Int), c.nm) 1) := by
    refine ⟨fun _ _ => rfl, fun x => ?_, by rw [St.set_self]; decide⟩
    rw [St.set_ne _ _ (fun e => hq (by rw [← e]))]; show (0 : Nat) ≠ 1; decide
  have z0 : (Z0.set (((c.mod : Nat) : Int), c.nm) 1) (c.n, c.nm) = 0 := (St.set_ne _ _ (fun e => hq (by rw [← e]))).trans rfl
  have r := fr_sim hc (ask_sim hc F) c.nm (Z0.set (((c.mod : Nat) : Int), c.nm) 1) c.e.st (Z0.set (((c.mod : Nat) : Int), c.nm) 1) (Z0.set (((c.mod : Nat) : Int), c.nm) 1) fd0 fd0 (by decide) (by decide) (Or.inr ⟨ag, Or.inl ⟨rfl, rfl⟩⟩)
  rw [frG_app _ _ _ _ _ _ (by decide)] at eM
  generalize frG (askF c.L F) c.nm (Z0.set (((c.mod : Nat) : Int), c.nm) 1) c.e.st fd0 = a at *
  generalize frG (askF c.M F) c.nm (Z0.set (((c.mod : Nat) : Int), c.nm) 1) c.e.st fd0 = b at *
  subst eL
  rcases r with ⟨r1, r2⟩ | ⟨ag2, r⟩
  · have hgb : g = amb := by rw [eM, if_pos (by rw [r1]; rfl)]; exact r1
    rcases r2 with r2 | ⟨_, r2⟩
    · rw [r2] at hl; cases hl
    · exact ⟨fun _ => hgb, fun e => absurd e r2⟩
  · have hone : ∀ (T : St), (frG (askF c.M F) c.nm T [c.z] b.1).1 = joined b.1 (askF c.M F T (c.n, c.nm)).1 := fun T => by
      simp only [frG, hc.hz]
      split <;> rfl
    have hl3 : b.1.k ≠ 3 := by
      rcases r with ⟨r1, _⟩ | ⟨_, _, _, r1, _⟩
      · rw [r1]; exact lead_k3 hl
      · exact lead_k3 r1
    rw [if_neg hl3, hone] at eM
    obtain ⟨F, rfl⟩ : ∃ k, F = k + 1 := ⟨F - 1, by omega⟩
    have hM : (askF c.M (F + 1) b.2 (c.n, c.nm)).1 = if b.2 (c.n, c.nm) ≠ 0 then fd0 else c.N := by
      show (stepF c.M _ b.2 _).1 = _
      unfold stepF
      rw [if_pos (by show (0 : Int) ≤ ((c.L.length : Nat) : Int); omega)]
      have : c.M[(c.n, c.nm).1.toNat]? = some c.E := by show c.M[((c.L.length : Nat) : Int).toNat]? = some c.E; rw [show ((c.L.length : Nat) : Int).toNat = c.L.length by simp]; exact hc.hn
      rw [this]
      simp only [ag2.b c.nm, if_false]
      by_cases h0 : b.2 (c.n, c.nm) = 0
      · simp only [h0, ne_eq, not_true_eq_false, if_false, show first c.E (c.n, c.nm) = .val c.N from hc.e1]
      · simp only [h0, ne_eq, not_false_eq_true, if_true]
    rw [hM] at eM
    rcases r with ⟨r1, r2⟩ | ⟨_, r2, _, q1, q2, q3⟩
    · rw [if_neg (by rw [r2, z0]; simp), r1] at eM
      constructor
      · intro hs; rw [eM]; exact joined_n hl hc.hN hs
      · intro hs; rw [eM, joined_s hl hc.hN hs]; exact sim_ty _ _
    · rw [if_pos r2, joined_r0 rfl] at eM
      have hs := q3 hl
      exact ⟨fun e => absurd hs e, fun _ => by rw [eM]; exact q2.trans hs.symm⟩
end Xp
end Go.Proofs.YtpmbacidijfjjaaGreatDoor
namespace Go.Proofs.YtpmbacidijfjjaaGreatDoor
open Xp
set_option linter.unusedVariables false
set_option linter.unusedSimpArgs false
namespace Xp

/-- each of the first n modules gives x on to the next. -/
def Ring (L : List Es) (n : Nat) (x : ByteArray) (P : Nat → Prop) : Prop := L.length = n ∧ ∀ i, i < n → P i → ∃ e z, L[i]? = some e ∧ first e ((i : Nat), x) = .go [z] x false ∧ z.mod = (((i + 1) % n : Nat) : Int)
theorem ring_ask {L : List Es} {n : Nat} {x : ByteArray} {P : Nat → Prop} (h : Ring L n x P) {i : Nat} (hi : i < n) (hP : P i) {f : Nat} {S : St} (hS : S ((i : Nat), x) = 0) :
    (askF L (f + 1) S ((i : Nat), x)).1 = (let r := (askF L f (S.set ((i : Nat), x) 1) (((i + 1) % n : Nat), x)).1; let j := joined fd0 r; clo false j) := by
  obtain ⟨e, z, he, hf, hz⟩ := h.2 i hi hP
  show (stepF L (askF L f) S _).1 = _
  unfold stepF
  rw [if_pos (by show (0 : Int) ≤ ((i : Nat) : Int); omega), show (((i : Nat) : Int), x).1.toNat = i by simp, he]
  simp only [hS, hf, frG, hz]
  simp only [Nat.zero_ne_one, if_false, ne_eq, not_true_eq_false]
  split <;> rfl
theorem mod_ne {n i j k : Nat} (hn : 0 < n) (hj : j < k) (hk : k < n) : (i + j) % n ≠ (i + k) % n := fun e => by
  have h1 : ((i + j) % n + (k - j)) % n = (i + j) % n := by
    rw [Nat.mod_add_mod, show i + j + (k - j) = i + k by omega, e]
  have h2 : (i + j) % n < n := Nat.mod_lt _ hn
  by_cases h3 : (i + j) % n + (k - j) < n
  · rw [Nat.mod_eq_of_lt h3] at h1; omega
  · have : (i + j) % n + (k - j) - n < n := by omega
    rw [Nat.mod_eq_sub_mod (by omega), Nat.mod_eq_of_lt this] at h1
    omega
theorem pair_ne {n i j k : Nat} {x : ByteArray} (hn : 0 < n) (hj : j < k) (hk : k < n) : ((((i + j) % n : Nat) : Int), x) ≠ ((((i + k) % n : Nat) : Int), x) := fun e => by
  have h1 : (((i + j) % n : Nat) : Int) = (((i + k) % n : Nat) : Int) := by injection e
  exact mod_ne (i := i) hn hj hk (by omega)
/-- all the way round. -/
theorem ring_circ {L : List Es} {n : Nat} {x : ByteArray} (h : Ring L n x (fun _ => True)) (hn : 0 < n) (i : Nat) : ∀ (m k f : Nat), k + m = n → m < f → ∀ S : St, (∀ j, j < k → S ((((i + j) % n : Nat) : Int), x) = 1) → (∀ j, k ≤ j → j < n → S ((((i + j) % n : Nat) : Int), x) = 0) → (askF L f S ((((i + k) % n : Nat) : Int), x)).1 = circ := by
  intro m
  induction m with
  | zero =>
    intro k f hk hf S h1 h2
    obtain ⟨f, rfl⟩ : ∃ g, f = g + 1 := ⟨f - 1, by omega⟩
    obtain rfl : k = n := by omega
    have e : (i + k) % k = (i + 0) % k := by simp
    rw [e]
    have := h1 0 hn
    show (stepF L (askF L f) S _).1 = _
    unfold stepF
    have hl : (i + 0) % k < L.length := by rw [h.1]; exact Nat.mod_lt _ hn
    rw [if_pos (by show (0 : Int) ≤ (((i + 0) % k : Nat) : Int); omega), show ((((i + 0) % k : Nat) : Int), x).1.toNat = (i + 0) % k from Int.toNat_natCast _, List.getElem?_eq_getElem hl]
    simp only [this, if_true]
  | succ m ih =>
    intro k f hk hf S h1 h2
    obtain ⟨f, rfl⟩ : ∃ g, f = g + 1 := ⟨f - 1, by omega⟩
    rw [ring_ask h (Nat.mod_lt _ hn) trivial (h2 k (Nat.le_refl _) (by omega))]
    have e : ((i + k) % n + 1) % n = (i + (k + 1)) % n := by rw [Nat.mod_add_mod, Nat.add_assoc]
    rw [e, ih (k + 1) f (by omega) (by omega)]
    · rfl
    · intro j hj
      by_cases hjk : j = k
      · subst hjk; rw [St.set_self]
      · rw [St.set_ne _ _ (pair_ne hn (by omega) (by omega))]
        exact h1 j (by omega)
    · intro j hj hjn
      rw [St.set_ne _ _ (fun e => pair_ne hn (show k < j by omega) hjn e.symm)]
      exact h2 j (by omega) hjn
/-- up to one that has it. -/
theorem ring_own {L : List Es} {n o : Nat} {x : ByteArray} (h : Ring L n x (fun i => i ≠ o)) (hn : 0 < n) (v : Fnd) (hl : leads v = true) {e : Es} (he : L[o]? = some e) (hv : first e ((o : Nat), x) = .val v) (i : Nat) : ∀ (m k f : Nat), k + m < n → (i + (k + m)) % n = o → m < f → ∀ S : St, (∀ j, k ≤ j → j ≤ k + m → S ((((i + j) % n : Nat) : Int), x) = 0) → Sim (askF L f S ((((i + k) % n : Nat) : Int), x)).1 v ∧ (askF L f S ((((i + k) % n : Nat) : Int), x)).1.ty = v.ty := by
  intro m
  induction m with
  | zero =>
    intro k f hk ho hf S h2
    obtain ⟨f, rfl⟩ : ∃ g, f = g + 1 := ⟨f - 1, by omega⟩
    have := h2 k (Nat.le_refl _) (by omega)
    rw [show (i + k) % n = o from ho] at this ⊢
    have : askF L (f + 1) S (((o : Nat) : Int), x) = (v, S.set (((o : Nat) : Int), x) 2) := by
      show stepF L (askF L f) S _ = _
      unfold stepF
      rw [if_pos (by show (0 : Int) ≤ ((o : Nat) : Int); omega), show (((o : Nat) : Int), x).1.toNat = o by simp, he]
      simp only [this, hv, Nat.zero_ne_one, if_false, ne_eq, not_true_eq_false]
    rw [this]
    exact ⟨Sim.refl _, rfl⟩
  | succ m ih =>
    intro k f hk ho hf S h2
    obtain ⟨f, rfl⟩ : ∃ g, f = g + 1 := ⟨f - 1, by omega⟩
    have hne : (i + k) % n ≠ o := fun e => mod_ne hn (show k < k + (m + 1) by omega) hk (e.trans ho.symm)
    rw [ring_ask h (Nat.mod_lt _ hn) hne (h2 k (Nat.le_refl _) (by omega))]
    have e : ((i + k) % n + 1) % n = (i + (k + 1)) % n := by rw [Nat.mod_add_mod, Nat.add_assoc]
    rw [e]
    obtain ⟨r1, r2⟩ := ih (k + 1) f (by omega) (by rw [← ho]; congr 1; omega) (by omega) (S.set ((((i + k) % n : Nat) : Int), x) 1) (fun j hj hjn => by
      rw [St.set_ne _ _ (fun e => pair_ne hn (show k < j by omega) (by omega) e.symm)]
      exact h2 j (by omega) (by omega))
    generalize (askF L f (S.set ((((i + k) % n : Nat) : Int), x) 1) ((((i + (k + 1)) % n : Nat) : Int), x)).1 = r at *
    simp only []
    rw [joined_nl (lead_k0 (r1.leads.trans hl)) rfl]
    refine ⟨(clo_sim _ _).trans r1, ?_⟩
    unfold clo
    simpa using r2
/-- how far it is. -/
theorem far {n i o : Nat} (hi : i < n) (ho : o < n) : ∃ m, m < n ∧ (i + m) % n = o := by
  by_cases h : i ≤ o
  · exact ⟨o - i, by omega, by rw [show i + (o - i) = o by omega, Nat.mod_eq_of_lt ho]⟩
  · refine ⟨n + o - i, by omega, ?_⟩
    rw [show i + (n + o - i) = o + n by omega, Nat.add_mod_right, Nat.mod_eq_of_lt ho]
end Xp
end Go.Proofs.YtpmbacidijfjjaaGreatDoor
namespace Go.Proofs.YtpmbacidijfjjaaGreatDoor.Rnd
open Go.RowKit Xp
set_option linter.unusedVariables false
set_option linter.unusedSimpArgs false

def xB : ByteArray := ⟨#[120]⟩
def yB : ByteArray := ⟨#[121]⟩
/-- the entry of a module that gives x on. -/
def ent (st : Bool) (n i : Nat) : En := if st then ⟨⟨#[]⟩, ⟨#[]⟩, ((i + 1) % n : Nat), false, 0⟩ else ⟨xB, xB, ((i + 1) % n : Nat), false, 0⟩
def mdl (st : Bool) (e : En) : Es := if st then ⟨[], [], [], [e]⟩ else ⟨[], [], [e], []⟩
def ringL (st : Bool) (n k : Nat) : List Es := (List.range k).map fun i => mdl st (ent st n i)
def ownM : Es := ⟨[], [⟨yB, xB, -1, false, 0⟩], [], []⟩
theorem first_mdl (st : Bool) (n i : Nat) (m : Int) : first (mdl st (ent st n i)) (m, xB) = .go [ent st n i] xB false := by
  cases st
  · show first ⟨[], [], [⟨xB, xB, _, false, 0⟩], []⟩ (m, xB) = _
    unfold first
    have : (xB == xB) = true := by decide
    simp only [List.find?_nil, List.find?_cons, this]
    rw [if_neg (by decide)]
    rfl
  · show first ⟨[], [], [], [⟨⟨#[]⟩, ⟨#[]⟩, _, false, 0⟩]⟩ (m, xB) = _
    unfold first
    simp only [List.find?_nil]
    rw [if_neg (by decide)]
    rfl
theorem ent_mod (st : Bool) (n i : Nat) : (ent st n i).mod = (((i + 1) % n : Nat) : Int) := by cases st <;> rfl
theorem ring_len (st : Bool) (n k : Nat) : (ringL st n k).length = k := by simp [ringL]
theorem ring_get (st : Bool) (n : Nat) {k i : Nat} (h : i < k) : (ringL st n k)[i]? = some (mdl st (ent st n i)) := by simp [ringL, h]
theorem is_ring (st : Bool) (n : Nat) : Ring (ringL st n n) n xB (fun _ => True) := ⟨ring_len st n n, fun i hi _ => ⟨_, _, ring_get st n hi, first_mdl st n i _, ent_mod st n i⟩⟩
theorem is_ring_own (st : Bool) (n o : Nat) : Ring ((ringL st n n).set o ownM) n xB (fun i => i ≠ o) := ⟨by rw [List.length_set, ring_len], fun i hi hP => ⟨_, _, by rw [List.getElem?_set_ne (Ne.symm hP)]; exact ring_get st n hi, first_mdl st n i _, ent_mod st n i⟩⟩
theorem uni_len' (L : List Es) (N : List ByteArray) : (Uni L N).length = L.length * N.length := by
  unfold Uni
  rw [List.length_flatMap]
  simp only [List.length_map]
  have : ∀ n m : Nat, ((List.range n).map fun _ => m).sum = n * m := fun n m => by
    induction n with
    | zero => simp
    | succ n ih => rw [List.range_succ, List.map_append, List.sum_append, ih]; simp [Nat.succ_mul]
  exact this _ _
theorem fuel_le (L : List Es) (n0 : ByteArray) : L.length < fuel L n0 := by
  unfold fuel
  rw [uni_len']
  have : 1 ≤ (Nms L n0).length := by simp [Nms]
  have := Nat.mul_le_mul (Nat.le_refl L.length) this
  omega
theorem rsv_ring (st : Bool) {n i : Nat} (hi : i < n) : rsv (ringL st n n) ((i : Int), xB) = circ := by
  have h := ring_circ (is_ring st n) (by omega) i n 0 (fuel (ringL st n n) xB) (by omega) (by have := fuel_le (ringL st n n) xB; rw [ring_len] at this; exact this) st0 (fun j hj => by omega) (fun j _ _ => rfl)
  rw [show (i + 0) % n = i by rw [Nat.add_zero, Nat.mod_eq_of_lt hi]] at h
  exact h
theorem rsv_ring_own (st : Bool) {n i o : Nat} (hi : i < n) (ho : o < n) : rsv ((ringL st n n).set o ownM) ((i : Int), xB) = ⟨1, o, yB, false⟩ := by
  obtain ⟨m, hm, e⟩ := far hi ho
  have hg : ((ringL st n n).set o ownM)[o]? = some ownM := by rw [List.getElem?_set_self (by rw [ring_len]; exact ho)]
  have h := ring_own (is_ring_own st n o) (by omega) ⟨1, o, yB, false⟩ rfl hg (by show first ownM ((o : Int), xB) = _; unfold first ownM; have : (xB == xB) = true := (by decide); simp only [List.find?_cons, this]) i m 0 (fuel ((ringL st n n).set o ownM) xB) (by omega) (by rw [Nat.zero_add]; exact e) (by have := fuel_le ((ringL st n n).set o ownM) xB; rw [List.length_set, ring_len] at this; omega) st0 (fun j _ _ => rfl)
  rw [show (i + 0) % n = i by rw [Nat.add_zero, Nat.mod_eq_of_lt hi]] at h
  obtain ⟨⟨h1, h2, h3⟩, h4⟩ := h
  show (askF _ _ _ _).1 = _
  generalize (askF ((ringL st n n).set o ownM) (fuel ((ringL st n n).set o ownM) xB) st0 ((i : Int), xB)).1 = r at *
  obtain ⟨a, b, c, d⟩ := r
  simp only at h1 h2 h3 h4
  subst h1 h2 h3 h4
  rfl
theorem nam_ring (st : Bool) {n i : Nat} (hi : i < n) : namL (ringL st n n) (i : Int) = [] := by
  unfold namL
  rw [List.filter_eq_nil_iff]
  intro x hx
  obtain ⟨e, he, hxe⟩ := cand_mem hx
  obtain ⟨j, _, rfl⟩ := List.mem_map.1 he
  cases st with
  | true => simp [mdl, nmsE] at hxe
  | false =>
    have : x = xB := by simpa [mdl, nmsE, ent] using hxe
    subst this
    rw [rsv_ring false hi]
    decide
theorem bounds (st : Bool) {n : Nat} (hn : n ≤ 64) : (ringL st n n).length ≤ 1048576 ∧ (∀ e ∈ ringL st n n, e.own.length ≤ 1048576 ∧ e.oth.length ≤ 1048576 ∧ e.st.length ≤ 1048576) ∧ (∀ e ∈ ringL st n n, ∀ x ∈ e.own, x.here.size ≤ 1048576) ∧ (∀ e ∈ ringL st n n, ∀ x ∈ nmsE e, x.size ≤ 1048576) ∧ ∀ nm, (Uni (ringL st n n) (Nms (ringL st n n) nm)).length ≤ 274877906944 := by
  refine ⟨by rw [ring_len]; omega, fun e he => ?_, fun e he x hx => ?_, fun e he x hx => ?_, fun nm => ?_⟩
  · obtain ⟨j, _, rfl⟩ := List.mem_map.1 he
    cases st <;> simp [mdl]
  · obtain ⟨j, _, rfl⟩ := List.mem_map.1 he
    cases st <;> simp [mdl] at hx
  · obtain ⟨j, _, rfl⟩ := List.mem_map.1 he
    cases st
    · have : x = xB := by simpa [mdl, nmsE, ent] using hx
      subst this
      decide
    · simp [mdl, nmsE] at hx
  · rw [uni_len', ring_len]
    have h2 : ∀ k, ((ringL st n k).flatMap fun e => e.oth.map (·.there)).length ≤ k := fun k => by
      induction k with
      | zero => simp [ringL]
      | succ k ih =>
        have : ringL st n (k + 1) = ringL st n k ++ [mdl st (ent st n k)] := by unfold ringL; rw [List.range_succ, List.map_append]; rfl
        rw [this, List.flatMap_append, List.length_append]
        have h1 : ([mdl st (ent st n k)].flatMap fun e => e.oth.map (·.there)).length ≤ 1 := by cases st <;> simp [mdl]
        omega
    have h3 : (Nms (ringL st n n) nm).length ≤ 65 := by unfold Nms; rw [List.length_cons]; have := h2 n; omega
    exact Nat.le_trans (Nat.mul_le_mul hn h3) (by decide)
theorem bounds_own (st : Bool) {n o : Nat} (hn : n ≤ 64) : ((ringL st n n).set o ownM).length ≤ 1048576 ∧ (∀ e ∈ (ringL st n n).set o ownM, e.own.length ≤ 1048576 ∧ e.oth.length ≤ 1048576 ∧ e.st.length ≤ 1048576) ∧ (∀ e ∈ (ringL st n n).set o ownM, ∀ x ∈ e.own, x.here.size ≤ 1048576) ∧ ∀ nm, (Uni ((ringL st n n).set o ownM) (Nms ((ringL st n n).set o ownM) nm)).length ≤ 274877906944 := by
  obtain ⟨b1, b2, b3, _, _⟩ := bounds st hn
  refine ⟨by rw [List.length_set]; exact b1, fun e he => ?_, fun e he => ?_, fun nm => ?_⟩
  · rcases List.mem_or_eq_of_mem_set he with h | rfl
    · exact b2 e h
    · decide
  · rcases List.mem_or_eq_of_mem_set he with h | rfl
    · exact b3 e h
    · decide
  · rw [uni_len', List.length_set, ring_len]
    have h2 : ∀ L : List Es, (∀ e ∈ L, e.oth.length ≤ 1) → (L.flatMap fun e => e.oth.map (·.there)).length ≤ L.length := fun L => by
      induction L with
      | nil => simp
      | cons a L ih =>
        intro h
        have := ih fun e he => h e (by simp [he])
        have := h a (by simp)
        rw [List.flatMap_cons, List.length_append, List.length_map, List.length_cons]
        omega
    have h4 : ∀ e ∈ (ringL st n n).set o ownM, e.oth.length ≤ 1 := fun e he => by
      rcases List.mem_or_eq_of_mem_set he with h | rfl
      · obtain ⟨j, _, rfl⟩ := List.mem_map.1 h
        cases st <;> simp [mdl]
      · decide
    have h3 : (Nms ((ringL st n n).set o ownM) nm).length ≤ 65 := by unfold Nms; rw [List.length_cons]; have := h2 _ h4; rw [List.length_set, ring_len] at this; omega
    exact Nat.le_trans (Nat.mul_le_mul hn h3) (by decide)
end Go.Proofs.YtpmbacidijfjjaaGreatDoor.Rnd
namespace Go.Proofs.YtpmbacidijfjjaaGreatDoor.Rnd
open Go.RowKit Xp
set_option linter.unusedVariables false
set_option linter.unusedSimpArgs false

theorem rowAt_own {w : World} {base k : Nat} {T : TypeId} {v : Value} {X : List (List Value)} (hk : ∀ x ∈ X, x.length = k) (h : w.ownsRow base T k v X.length X.flatten) : RowAt w w.heap.size v k X := by
  rcases h.2 with ⟨rfl, h0⟩ | ⟨g, cap, cur, rfl, hb, hg, hn, hrest⟩
  · obtain rfl : X = [] := List.length_eq_zero_iff.1 h0
    exact ⟨⟨_, _, rfl⟩, fun h => by simp at h, fun ad n c e => by cases e; omega⟩
  · refine ⟨⟨_, _, rfl⟩, fun _ => ⟨g, 0, cap, rfl, (Array.getElem?_eq_some_iff.1 hg).1, fun i hi j u hu => ?_⟩, fun ad n c e => by cases e; exact hn⟩
    have hlen : ∀ m : List (List Value), (∀ x ∈ m, x.length = k) → m.flatten.length = m.length * k := fun m => by
      induction m with
      | nil => intro _; simp
      | cons a m ih => intro h; rw [List.flatten_cons, List.length_append, ih fun x hx => h x (by simp [hx]), h a (by simp), List.length_cons, Nat.add_one_mul]; omega
    have hj : j < k := by have := (List.getElem?_eq_some_iff.1 hu).1; rw [hk _ (List.getElem_mem hi)] at this; exact this
    have hij : i * k + j < X.length * k := by
      have := Nat.mul_le_mul_right k (Nat.succ_le_of_lt hi)
      rw [Nat.succ_mul] at this
      omega
    have hc := World.ownsRow.cellAt h (i * k + j) (by omega)
    rw [Nat.zero_add, hc]
    have e : X = X.take i ++ X[i] :: X.drop (i + 1) := by simp
    have l1 : (X.take i).length = i := by simp; omega
    have e2 : X.flatten = (X.take i).flatten ++ (X[i] ++ (X.drop (i + 1)).flatten) := (congrArg List.flatten e).trans (by rw [List.flatten_append, List.flatten_cons])
    rw [e2, List.getElem?_append_right (by rw [hlen _ fun x hx => hk x (List.mem_of_mem_take hx), l1]; omega), hlen _ fun x hx => hk x (List.mem_of_mem_take hx), l1, show i * k + j - i * k = j by omega, List.getElem?_append_left (by rw [hk _ (List.getElem_mem hi)]; exact hj)]
    exact hu
def nl : Value := .slice none 0 0
def mc (st : Bool) (p : Value) : List Value := if st then [nl, nl, nl, p] else [nl, nl, p, nl]
theorem mc_len (st : Bool) (p : Value) : (mc st p).length = 4 := by cases st <;> rfl
theorem en_lit {w : World} {g B : Nat} {e : En} (h : w.heap[g]? = some (enO e)) (hg : g < B) : EnAt w B (.slice (some ⟨g, 0, none⟩) 1 1) [e] := by
  have := rowAt_block (w := w) (g := g) (B := B) (c := 1) (k := 5) (X := [e.cs]) (t := 49) (fr := (0, 0)) (by simp [En.cs]) (by rw [h]; rfl) hg (by simp)
  exact this
theorem info_es : (Tryz.prog.info? 32).map (fun i => (i.zero, i.size, i.bytes)) = some (some (.agg #[.slice none 0 0, .slice none 0 0, .slice none 0 0, .slice none 0 0]), 4, 96) := by kernel_rfl
theorem under_esl : Tryz.prog.underlying 39 = some (.slice 32) := by kernel_rfl
/-- so many modules lie there. -/
structure Rn (W wr : World) (v : Value) (st : Bool) (n k : Nat) : Prop where
  b : Below W.heap.size W wr
  h : ∃ V : List Value, V.length = k ∧ wr.ownsRow W.heap.size 32 4 v k (V.map (mc st)).flatten ∧ ∀ i (h : i < V.length), ∃ g, V[i] = .slice (some ⟨g, 0, none⟩) 1 1 ∧ W.heap.size ≤ g ∧ wr.heap[g]? = some (enO (ent st n i)) ∧ v.ownBlock ≠ some g
theorem Rn.ms {W wr : World} {v : Value} {st : Bool} {n k : Nat} (h : Rn W wr v st n k) : MsAt wr wr.heap.size v (ringL st n k) := by
  obtain ⟨V, hV, ho, hg⟩ := h.h
  have hl : (V.map (mc st)).length = k := by simp [hV]
  refine ⟨V.map (mc st), by rw [hl, ring_len], ?_, fun i hi hi' => ?_⟩
  · refine rowAt_own (base := W.heap.size) (T := 32) (fun x hx => ?_) (by rw [hl]; exact ho)
    obtain ⟨p, _, rfl⟩ := List.mem_map.1 hx
    exact mc_len st p
  · have hiV : i < V.length := by simpa using hi'
    obtain ⟨g, e, _, hb, _⟩ := hg i hiV
    have hgl := (Array.getElem?_eq_some_iff.1 hb).1
    have e2 : (ringL st n k)[i] = mdl st (ent st n i) := by simp [ringL]
    rw [e2]
    have e3 : (V.map (mc st))[i] = mc st V[i] := by simp
    rw [e3, e]
    cases st
    · exact ⟨_, _, _, _, rfl, enat_nil _ _, enat_nil _ _, en_lit hb hgl, enat_nil _ _⟩
    · exact ⟨_, _, _, _, rfl, enat_nil _ _, enat_nil _ _, enat_nil _ _, en_lit hb hgl⟩
theorem Rn.start (W wr : World) (st : Bool) (n : Nat) (b : Below W.heap.size W wr) : Rn W wr nl st n 0 := ⟨b, [], rfl, World.ownsRow_nil _ _ _ _, fun i h => by simp at h⟩
theorem Rn.form {W wr : World} {v : Value} {st : Bool} {n k : Nat} (h : Rn W wr v st n k) : ∃ a c, v = .slice a k c := by
  obtain ⟨V, hV, ho, hg⟩ := h.h
  rcases ho.2 with ⟨rfl, h0⟩ | ⟨g, cap, cur, rfl, _⟩
  · exact ⟨none, 0, by rw [h0]⟩
  · exact ⟨_, _, rfl⟩
theorem Rn.bel {W wr w' : World} {v : Value} {st : Bool} {n k : Nat} (h : Rn W wr v st n k) (b : Below wr.heap.size wr w') : Rn W w' v st n k := by
  obtain ⟨V, hV, ho, hg⟩ := h.h
  refine ⟨bt h.b b, V, hV, row_bel' ho b, fun i hi => ?_⟩
  obtain ⟨g, e, h1, h2, h3⟩ := hg i hi
  exact ⟨g, e, h1, (b.block g (Array.getElem?_eq_some_iff.1 h2).1).trans h2, h3⟩
/-- one more. -/
theorem Rn.step {W wr X : World} {v : Value} {st : Bool} {n k gg cap H : Nat} {o : Obj} (h : Rn W wr v st n k) {V : List Value} (hV : V.length = k) (ho0 : wr.ownsRow W.heap.size 32 4 v k (V.map (mc st)).flatten) (hg : ∀ i (h : i < V.length), ∃ g, V[i] = .slice (some ⟨g, 0, none⟩) 1 1 ∧ W.heap.size ≤ g ∧ wr.heap[g]? = some (enO (ent st n i)) ∧ v.ownBlock ≠ some g) (hH : H = wr.heap.size + 2) (g : (((wr.alloc (enO (ent st n k))).alloc o)).grownBy X v.ownBlock)
    (ho : X.ownsRow W.heap.size 32 4 (.slice (some ⟨gg, 0, none⟩) (k + 1) cap) (k + 1) ((V.map (mc st)).flatten ++ mc st (.slice (some ⟨wr.heap.size, 0, none⟩) 1 1))) (hat : v.ownBlock = some gg ∨ gg = H) : Rn W X (.slice (some ⟨gg, 0, none⟩) (k + 1) cap) st n (k + 1) := by
  have hlt := fun j hj => World.ownsRow.lt ho0 j hj
  have hsz := g.size
  simp at hsz
  have kp : ∀ j, j < wr.heap.size + 2 → v.ownBlock ≠ some j → X.heap[j]? = ((wr.alloc (enO (ent st n k))).alloc o).heap[j]? := fun j hj hne => g.block j (by simp; omega) (fun e => hne e.symm)
  have kp2 : ∀ j, j < wr.heap.size → v.ownBlock ≠ some j → X.heap[j]? = wr.heap[j]? := fun j hj hne => (kp j (by omega) hne).trans ((Below.heap_alloc _ _ _ (by simp; omega)).trans (Below.heap_alloc _ _ _ hj))
  have hb0 := h.b.size
  refine ⟨h.b.trans ⟨g.os, g.tape, g.output, by omega, fun j hj => kp2 j (by omega) (fun e => by have := (hlt j e).1; omega)⟩, V ++ [.slice (some ⟨wr.heap.size, 0, none⟩) 1 1], by simp [hV], by simpa using ho, fun i hi => ?_⟩
  by_cases hik : i < V.length
  · obtain ⟨gi, e, h1, h2, h3⟩ := hg i hik
    have hgl := (Array.getElem?_eq_some_iff.1 h2).1
    refine ⟨gi, by rw [List.getElem_append_left hik]; exact e, h1, (kp2 gi hgl h3).trans h2, fun e' => ?_⟩
    have eg : gg = gi := by simpa [Value.ownBlock] using e'
    rcases hat with e2 | e2
    · exact h3 (by rw [← eg]; exact e2)
    · omega
  · have hi' : i = V.length := by simp at hi; omega
    subst hi'
    have hne : v.ownBlock ≠ some wr.heap.size := fun e => by have := (hlt _ e).2; omega
    refine ⟨wr.heap.size, by simp, by omega, ?_, fun e' => ?_⟩
    · rw [hV]
      exact (kp _ (by omega) hne).trans ((Below.heap_alloc _ _ _ (by simp)).trans (hnewX _ rfl))
    · have eg : gg = wr.heap.size := by simpa [Value.ownBlock] using e'
      rcases hat with e2 | e2
      · exact hne (by rw [← eg]; exact e2)
      · omega
theorem Rn.hasRow {W X : World} {v : Value} {st : Bool} {n k : Nat} (h : Rn W X v st n k) (h0 : 0 < k) : ∃ gg rc, v = .slice (some ⟨gg, 0, none⟩) k rc ∧ W.heap.size ≤ gg ∧ gg < X.heap.size ∧ (∀ a, X.frozen? ⟨gg, a, none⟩ = false) ∧ ∀ a, a < k * 4 → (X.cell? ⟨gg, a, none⟩).isSome = true := by
  obtain ⟨V, hV, ho, hg⟩ := h.h
  rcases ho.2 with ⟨rfl, h1⟩ | ⟨g, cap, cur, rfl, hb, hgb, hn, _, hcs, _⟩
  · omega
  · refine ⟨g, cap, rfl, hb, (Array.getElem?_eq_some_iff.1 hgb).1, fun a => by simp [World.frozen?, hgb], fun a ha => ?_⟩
    have : a < cur.size := by rw [hcs]; have := Nat.mul_le_mul_right 4 hn; omega
    simp [World.cell?, hgb, this]
def own4 (X : World) (gg a g : Nat) : World := (((X.setCell ⟨gg, a, none⟩ nl).setCell ⟨gg, a + 1, none⟩ (.slice (some ⟨g, 0, none⟩) 1 1)).setCell ⟨gg, a + 2, none⟩ nl).setCell ⟨gg, a + 3, none⟩ nl
theorem sco {w : World} {a b : Addr} {v : Value} (h : a ≠ b) : (w.setCell a v).cell? b = w.cell? b := by apply World.cell?_setCell_other; exact h
theorem own4_far (X : World) (gg a g : Nat) {j : Nat} (h : j ≠ gg) : (own4 X gg a g).heap[j]? = X.heap[j]? :=
  (Below.heap_setCell _ _ _ _ h).trans ((Below.heap_setCell _ _ _ _ h).trans ((Below.heap_setCell _ _ _ _ h).trans (Below.heap_setCell _ _ _ _ h)))
theorem own4_cell {X : World} {gg a g c : Nat} (h : c < a ∨ a + 3 < c) : (own4 X gg a g).cell? ⟨gg, c, none⟩ = X.cell? ⟨gg, c, none⟩ := by
  have ne : ∀ d, d ≤ 3 → (⟨gg, a + d, none⟩ : Addr) ≠ ⟨gg, c, none⟩ := fun d hd e => by simp only [Addr.mk.injEq] at e; omega
  unfold own4
  rw [sco (ne 3 (by omega)), sco (ne 2 (by omega)), sco (ne 1 (by omega)), sco (show (⟨gg, a, none⟩ : Addr) ≠ ⟨gg, c, none⟩ from ne 0 (by omega))]
theorem own4_in {X : World} {gg a g : Nat} (h : ∀ d, d < 4 → (X.cell? ⟨gg, a + d, none⟩).isSome = true) : (own4 X gg a g).cell? ⟨gg, a, none⟩ = some nl ∧ (own4 X gg a g).cell? ⟨gg, a + 1, none⟩ = some (.slice (some ⟨g, 0, none⟩) 1 1) ∧ (own4 X gg a g).cell? ⟨gg, a + 2, none⟩ = some nl ∧ (own4 X gg a g).cell? ⟨gg, a + 3, none⟩ = some nl := by
  have ne : ∀ c d, c ≠ d → (⟨gg, a + c, none⟩ : Addr) ≠ ⟨gg, a + d, none⟩ := fun c d hd e => by simp only [Addr.mk.injEq] at e; omega
  have n01 : (⟨gg, a, none⟩ : Addr) ≠ ⟨gg, a + 1, none⟩ := ne 0 1 (by omega)
  have n02 : (⟨gg, a, none⟩ : Addr) ≠ ⟨gg, a + 2, none⟩ := ne 0 2 (by omega)
  have n03 : (⟨gg, a, none⟩ : Addr) ≠ ⟨gg, a + 3, none⟩ := ne 0 3 (by omega)
  have h0 : (X.cell? ⟨gg, a, none⟩).isSome = true := h 0 (by omega)
  have h1 := h 1 (by omega)
  have h2 := h 2 (by omega)
  have h3 := h 3 (by omega)
  unfold own4
  refine ⟨?_, ?_, ?_, ?_⟩
  · rw [sco n03.symm, sco n02.symm, sco n01.symm, World.cell?_setCell_same' _ _ _ h0]
  · rw [sco (ne 3 1 (by omega)), sco (ne 2 1 (by omega)), World.cell?_setCell_same' _ _ _ (by rw [sco n01]; exact h1)]
  · rw [sco (ne 3 2 (by omega)), World.cell?_setCell_same' _ _ _ (by rw [sco (ne 1 2 (by omega)), sco n02]; exact h2)]
  · rw [World.cell?_setCell_same' _ _ _ (by rw [sco (ne 2 3 (by omega)), sco (ne 1 3 (by omega)), sco n03]; exact h3)]
def ownO : Obj := enO ⟨yB, xB, -1, false, 0⟩
theorem Rn.own {W X : World} {gg rc n ow : Nat} {st : Bool} (h : Rn W X (.slice (some ⟨gg, 0, none⟩) n rc) st n n) (ho : ow < n) : MsAt ((own4 X gg (ow * 4) X.heap.size).alloc ownO) ((own4 X gg (ow * 4) X.heap.size).alloc ownO).heap.size (.slice (some ⟨gg, 0, none⟩) n rc) ((ringL st n n).set ow ownM) ∧ Below W.heap.size W ((own4 X gg (ow * 4) X.heap.size).alloc ownO) := by
  obtain ⟨gg', rc', e, hlo, hgl, hfr, hcl⟩ := h.hasRow (by omega)
  simp only [Value.slice.injEq, Option.some.injEq, Addr.mk.injEq] at e
  obtain ⟨⟨rfl, _⟩, _, rfl⟩ := e
  have hbs := h.b.size
  have hB : Below W.heap.size W ((own4 X gg (ow * 4) X.heap.size).alloc ownO) := ((((h.b.setCell hlo _).setCell hlo _).setCell hlo _).setCell hlo _).alloc (by simp; omega) _
  refine ⟨?_, hB⟩
  have hz : ((own4 X gg (ow * 4) X.heap.size).alloc ownO).heap.size = X.heap.size + 1 := by simp [own4]
  have hms := h.ms
  obtain ⟨V, hV, hown, hg⟩ := h.h
  have hl : (V.map (mc st)).length = n := by simp [hV]
  have hR : RowAt X X.heap.size (.slice (some ⟨gg, 0, none⟩) n rc) 4 (V.map (mc st)) := rowAt_own (base := W.heap.size) (T := 32) (fun x hx => by obtain ⟨p, _, rfl⟩ := List.mem_map.1 hx; exact mc_len st p) (by rw [hl]; exact hown)
  obtain ⟨b, o, c, e, _, hcell⟩ := hR.c (by omega)
  simp only [Value.slice.injEq, Option.some.injEq, Addr.mk.injEq] at e
  obtain ⟨⟨rfl, rfl, _⟩, _, rfl⟩ := e
  have hs4 : (own4 X gg (ow * 4) X.heap.size).heap.size = X.heap.size := by simp [own4]
  have hal : ∀ c, ((own4 X gg (ow * 4) X.heap.size).alloc ownO).cell? ⟨gg, c, none⟩ = (own4 X gg (ow * 4) X.heap.size).cell? ⟨gg, c, none⟩ := fun c => World.cell?_of_block (a := ⟨gg, c, none⟩) (Below.heap_alloc _ ownO gg (by omega))
  have h4 := own4_in (X := X) (gg := gg) (a := ow * 4) (g := X.heap.size) (fun d hd => hcl _ (by omega))
  have hXl : ((V.map (mc st)).set ow [nl, .slice (some ⟨X.heap.size, 0, none⟩) 1 1, nl, nl]).length = n := by rw [List.length_set, hl]
  refine ⟨(V.map (mc st)).set ow [nl, .slice (some ⟨X.heap.size, 0, none⟩) 1 1, nl, nl], by rw [hXl, List.length_set, ring_len], ⟨⟨_, _, by rw [hXl]⟩, fun _ => ⟨gg, 0, rc, by rw [hXl], by omega, fun i hi j u hu => ?_⟩, fun ad m c e => ?_⟩, fun i hi hi' => ?_⟩
  · rw [hXl] at hi
    by_cases hio : i = ow
    · subst hio
      rw [List.getElem_set_self] at hu
      obtain ⟨k0, k1, k2, k3⟩ := h4
      rw [Nat.zero_add, hal]
      match j, hu with
      | 0, hu => cases hu; exact k0
      | 1, hu => cases hu; exact k1
      | 2, hu => cases hu; exact k2
      | 3, hu => cases hu; exact k3
    · rw [List.getElem_set_ne (Ne.symm hio)] at hu
      have hj : j < 4 := by
        have := (List.getElem?_eq_some_iff.1 hu).1
        rw [List.getElem_map, mc_len] at this
        exact this
      have := hcell i (by rw [hl]; exact hi) j u hu
      rw [hal, own4_cell (by omega)]
      exact this
  · cases e
    have := hR.cp _ _ _ rfl
    omega
  · have hin : i < n := by rw [hXl] at hi'; exact hi'
    by_cases hio : i = ow
    · subst hio
      rw [List.getElem_set_self, List.getElem_set_self]
      refine ⟨_, _, _, _, rfl, enat_nil _ _, en_lit ?_ (by omega), enat_nil _ _, enat_nil _ _⟩
      exact hnewX _ hs4.symm
    · rw [List.getElem_set_ne (Ne.symm hio), List.getElem_set_ne (Ne.symm hio)]
      obtain ⟨g, e, _, hb, hne⟩ := hg i (by omega)
      have hgl' := (Array.getElem?_eq_some_iff.1 hb).1
      have hgg : g ≠ gg := fun e => hne (by simp [Value.ownBlock, e])
      have hb' : ((own4 X gg (ow * 4) X.heap.size).alloc ownO).heap[g]? = some (enO (ent st n i)) := (Below.heap_alloc _ _ _ (by omega)).trans ((own4_far _ _ _ _ hgg).trans hb)
      have e2 : (ringL st n n)[i]'(by rw [ring_len]; exact hin) = mdl st (ent st n i) := by simp [ringL]
      rw [e2, List.getElem_map, e]
      cases st
      · exact ⟨_, _, _, _, rfl, enat_nil _ _, enat_nil _ _, en_lit hb' (by omega), enat_nil _ _⟩
      · exact ⟨_, _, _, _, rfl, enat_nil _ _, enat_nil _ _, enat_nil _ _, en_lit hb' (by omega)⟩
end Go.Proofs.YtpmbacidijfjjaaGreatDoor.Rnd
namespace Go.Proofs.YtpmbacidijfjjaaGreatDoor.Rnd
open Go.RowKit Xp
set_option linter.unusedVariables false
set_option linter.unusedSimpArgs false

set_option maxRecDepth 100000 in
set_option maxHeartbeats 32000000 in
theorem walk0 (a o : Int) (st : Bool) (W : World) (ha0 : -9223372036854775808 ≤ a) (ha1 : a ≤ 9223372036854775807) (he : WEnv W) :
    Calls Tryz.prog 8 #[.int .i64 a, .int .i64 o, .bool st] W fun e w' => e = .returned (.bool true) ∧ Below W.heap.size W w' := by
  obtain ⟨i0, hi0, hz0, hz1, hz2⟩ := info_parts info_es
  go_enter Tryz.func8, Tryz.ntmps8
  go_wp2
  obtain ⟨n, hn, hn1, hn2⟩ : ∃ n : Nat, max 1 (min a 64) = (n : Int) ∧ 1 ≤ n ∧ n ≤ 64 := ⟨(max 1 (min a 64)).toNat, by omega, by omega, by omega⟩
  rw [hn]
  clear hn
  generalize min a 64 = a2
  go_loopw [7, 8] (fun v7 v8 wr => ∃ k : Nat, v8 = .int .i64 (k : Nat) ∧ k ≤ n ∧ Rn W wr v7 st n k) (fun _ v8 _ => n - (intOf v8).toNat)
  case atStart => exact ⟨0, rfl, by omega, Rn.start _ _ _ _ (Below.refl _ _)⟩
  case round =>
    obtain ⟨k, rfl, hk, hR⟩ := hrel
    obtain ⟨ra, rc, rfl⟩ := hR.form
    by_cases hlt : k < n
    · have hltI : ((k : Nat) : Int) < ((n : Nat) : Int) := by omega
      have HR : Hid _ := hR
      obtain ⟨V, hV, ho0, hg⟩ := hR.h
      have hbs := hR.b.size
      have HO : Hid _ := ho0
      clear hR
      have hn0 : ((n : Nat) : Int) ≠ 0 := by omega
      obtain ⟨q, hq⟩ : ∃ q, (k + 1) % n = q := ⟨_, rfl⟩
      have hmod : (((k : Nat) : Int) + 1) % ((n : Nat) : Int) = ((q : Nat) : Int) := by rw [← hq]; push_cast; rfl
      have HQ : Hid ((k + 1) % n = q) := hq
      clear hq
      cases st with
      | true =>
        have HEN : Hid (ent true n k = ⟨⟨#[]⟩, ⟨#[]⟩, (q : Nat), false, 0⟩) := by show _ = _; rw [← HQ.out]; rfl
        have hoW := World.ownsRow.alloc (World.ownsRow.alloc ho0 (enO ⟨⟨#[]⟩, ⟨#[]⟩, (q : Nat), false, 0⟩)) (.cells #[.slice none 0 0, .slice none 0 0, .slice none 0 0, .slice (some ⟨wr.heap.size, 0, none⟩) 1 1] 32)
        have hnw : ((wr.alloc (enO ⟨⟨#[]⟩, ⟨#[]⟩, (q : Nat), false, 0⟩)).alloc (.cells #[.slice none 0 0, .slice none 0 0, .slice none 0 0, .slice (some ⟨wr.heap.size, 0, none⟩) 1 1] 32)).heap[wr.heap.size + 1]? = some (.cells #[.slice none 0 0, .slice none 0 0, .slice none 0 0, .slice (some ⟨wr.heap.size, 0, none⟩) 1 1] 32 (0, 0)) := hnewX _ (by simp)
        have HNW : Hid _ := hnw
        clear hnw ho0
        go_wp2_with (at_builtin; refine wpList_append_lies _ (by rfl) _ _ _ (by rfl) W.heap.size 32 i0 _ 4 96 under_esl hi0 hz0 hz1 hz2 rfl (by omega) _ k ((V.map (mc true)).flatten) (by rfl) hoW ⟨wr.heap.size + 1, 0, none⟩ 1 1 (mc true (.slice (some ⟨wr.heap.size, 0, none⟩) 1 1)) (by rfl) (by rfl) (World.news_of_block (cs := #[.slice none 0 0, .slice none 0 0, .slice none 0 0, .slice (some ⟨wr.heap.size, 0, none⟩) 1 1]) (t := 32) (fr := (0, 0)) HNW.out) (by simp [Value.oneCell', mc, nl]) (by omega) (by unfold maxLen; omega) (by omega) (by simp; omega) (wr.heap.size + 2) (by simp) ?_; intro gg cap W3 hown hgrow hat hlt3)
        have HN : Hid (Rn W W3 (.slice (some ⟨gg, 0, none⟩) (k + 1) cap) true n (k + 1)) := HR.out.step (o := .cells #[.slice none 0 0, .slice none 0 0, .slice none 0 0, .slice (some ⟨wr.heap.size, 0, none⟩) 1 1] 32) hV HO.out hg rfl (by rw [HEN.out]; exact hgrow) hown hat
        clear hown hgrow hat hoW
        go_wp2
        go_roundw
        case rel => exact ⟨k + 1, by simp, by omega, HN.out⟩
        case measure => simp [intOf]; omega
      | false =>
        have HEN : Hid (ent false n k = ⟨⟨#[120]⟩, ⟨#[120]⟩, (q : Nat), false, 0⟩) := by show _ = _; rw [← HQ.out]; rfl
        have hoW := World.ownsRow.alloc (World.ownsRow.alloc ho0 (enO ⟨⟨#[120]⟩, ⟨#[120]⟩, (q : Nat), false, 0⟩)) (.cells #[.slice none 0 0, .slice none 0 0, .slice (some ⟨wr.heap.size, 0, none⟩) 1 1, .slice none 0 0] 32)
        have hnw : ((wr.alloc (enO ⟨⟨#[120]⟩, ⟨#[120]⟩, (q : Nat), false, 0⟩)).alloc (.cells #[.slice none 0 0, .slice none 0 0, .slice (some ⟨wr.heap.size, 0, none⟩) 1 1, .slice none 0 0] 32)).heap[wr.heap.size + 1]? = some (.cells #[.slice none 0 0, .slice none 0 0, .slice (some ⟨wr.heap.size, 0, none⟩) 1 1, .slice none 0 0] 32 (0, 0)) := hnewX _ (by simp)
        have HNW : Hid _ := hnw
        clear hnw ho0
        go_wp2_with (at_builtin; refine wpList_append_lies _ (by rfl) _ _ _ (by rfl) W.heap.size 32 i0 _ 4 96 under_esl hi0 hz0 hz1 hz2 rfl (by omega) _ k ((V.map (mc false)).flatten) (by rfl) hoW ⟨wr.heap.size + 1, 0, none⟩ 1 1 (mc false (.slice (some ⟨wr.heap.size, 0, none⟩) 1 1)) (by rfl) (by rfl) (World.news_of_block (cs := #[.slice none 0 0, .slice none 0 0, .slice (some ⟨wr.heap.size, 0, none⟩) 1 1, .slice none 0 0]) (t := 32) (fr := (0, 0)) HNW.out) (by simp [Value.oneCell', mc, nl]) (by omega) (by unfold maxLen; omega) (by omega) (by simp; omega) (wr.heap.size + 2) (by simp) ?_; intro gg cap W3 hown hgrow hat hlt3)
        have HN : Hid (Rn W W3 (.slice (some ⟨gg, 0, none⟩) (k + 1) cap) false n (k + 1)) := HR.out.step (o := .cells #[.slice none 0 0, .slice none 0 0, .slice (some ⟨wr.heap.size, 0, none⟩) 1 1, .slice none 0 0] 32) hV HO.out hg rfl (by rw [HEN.out]; exact hgrow) hown hat
        clear hown hgrow hat hoW
        go_wp2
        go_roundw
        case rel => exact ⟨k + 1, by simp, by omega, HN.out⟩
        case measure => simp [intOf]; omega
    · obtain rfl : k = n := by omega
      have hge : ¬ ((k : Nat) : Int) < ((k : Nat) : Int) := by omega
      obtain ⟨wA, rfl⟩ : ∃ X, X = wr := ⟨_, rfl⟩
      have HR : Hid _ := hR
      have HS : Hid (∀ X, Below W.heap.size W X → Calls Tryz.prog 10 #[] X fun e w' => e = .returned (.bool true) ∧ Below X.heap.size X w') := fun X b => sure_any X (he.bel b)
      have HC1 : Hid (∀ X, Below wA.heap.size wA X → ∀ i, i < k → Calls Tryz.prog 16 #[.slice ra k rc, .int .i64 (i : Nat), .string ⟨#[120]⟩] X fun e w' => e = .returned (.agg #[.int .i64 4, .int .i64 0, .string ⟨#[]⟩, .bool false]) ∧ Below X.heap.size X w') := fun X b i hi => by
        obtain ⟨q1, q2, q3, q4, q5⟩ := bounds st hn2
        have C := resolveX_any (HR.out.bel b).ms q1 q2 q3 (i : Int) xB (q5 _)
        rw [rsv_ring st hi] at C
        exact C
      have HC2 : Hid (∀ X, Below wA.heap.size wA X → ∀ i, i < k → Calls Tryz.prog 18 #[.slice ra k rc, .int .i64 (i : Nat)] X fun e w' => ∃ a c, e = .returned (.slice a 0 c) ∧ Below X.heap.size X w') := fun X b i hi => by
        obtain ⟨q1, q2, q3, q4, q5⟩ := bounds st hn2
        have C := namesX_any (HR.out.bel b).ms q1 q2 q4 q5 (i : Int)
        rw [nam_ring st hi] at C
        refine C.mono ?_
        rintro e w' ⟨vr, rfl, ht, b'⟩
        obtain ⟨a, c, rfl⟩ := TS.form ht
        exact ⟨a, c, rfl, b'⟩
      have FN : ∀ W, (binOp .neq 41 (.agg #[.int .i64 4, .int .i64 0, .string ⟨#[]⟩, .bool false]) (.agg #[.int .i64 4, .int .i64 0, .string ⟨#[]⟩, .bool false])).run Tryz.prog W = .ok (.bool false) W := fun W => by
        have := fd_neq W ⟨4, 0, ⟨#[]⟩, false⟩ ⟨4, 0, ⟨#[]⟩, false⟩
        exact this.trans (congrArg (fun b => Result.ok (Value.bool b) W) (by decide))
      have NG := fd_guard
      clear hR he
      go_wp2
      go_loopw [10] (fun v10 wx => ∃ i : Nat, v10 = .int .i64 (i : Nat) ∧ i ≤ k ∧ Below wA.heap.size wA wx) (fun v10 _ => k - (intOf v10).toNat)
      case atStart => exact ⟨0, rfl, by omega, Below.refl _ _⟩
      case round =>
        obtain ⟨i, rfl, hi, hB⟩ := hrel
        have HB : Hid _ := hB
        by_cases hlt : i < k
        · have hltI : ((i : Nat) : Int) < ((k : Nat) : Int) := by omega
          have R1 := HC1.out _ hB i hlt
          clear hB
          go_wp2_with fail
          go_at_call 16
          refine R1.mono ?_
          rintro e w1 ⟨rfl, b1⟩
          have HB1 : Hid _ := bt HB.out b1
          have R2 := HC2.out _ HB1.out i hlt
          clear b1 R1
          go_wp2_with fail
          go_at_call 18
          refine R2.mono ?_
          rintro e w2 ⟨na, nc, rfl, b2⟩
          have HB2 : Hid _ := bt HB1.out b2
          clear b2 R2
          go_wp2
          go_roundw
          case rel => exact ⟨i + 1, by simp, by omega, HB2.out⟩
          case measure => simp [intOf]; omega
        · obtain rfl : i = k := by omega
          have hge : ¬ ((i : Nat) : Int) < ((i : Nat) : Int) := by omega
          clear hB FN
          obtain ⟨ow, how, hol⟩ : ∃ ow : Nat, max 0 (min o (((i : Nat) : Int) - 1)) = ((ow : Nat) : Int) ∧ ow < i := ⟨(max 0 (min o (((i : Nat) : Int) - 1))).toNat, by omega, by omega⟩
          have holI : ((ow : Nat) : Int) < ((i : Nat) : Int) := by omega
          have hRx := HR.out.bel HB.out
          obtain ⟨gg, rc', e', hlo, hgl, hfr, hcl⟩ := hRx.hasRow (by omega)
          simp only [Value.slice.injEq] at e'
          obtain ⟨rfl, _, rfl⟩ := e'
          have hOW := hRx.own hol
          have HMO : Hid (MsAt ((own4 wr gg (ow * 4) wr.heap.size).alloc ownO) ((own4 wr gg (ow * 4) wr.heap.size).alloc ownO).heap.size (.slice (some ⟨gg, 0, none⟩) i rc) ((ringL st i i).set ow ownM)) := hOW.1
          have HBO : Hid (Below W.heap.size W ((own4 wr gg (ow * 4) wr.heap.size).alloc ownO)) := hOW.2
          have ex : ∀ d, d < 4 → ∃ u, wr.cell? ⟨gg, ow * 4 + d, none⟩ = some u := fun d hd => Option.isSome_iff_exists.1 (hcl _ (by omega))
          obtain ⟨u0', q0⟩ := ex 0 (by omega)
          obtain ⟨u1', q1⟩ := ex 1 (by omega)
          obtain ⟨u2', q2⟩ := ex 2 (by omega)
          obtain ⟨u3', q3⟩ := ex 3 (by omega)
          rw [Nat.add_zero] at q0
          have z0 := hfr (ow * 4)
          have z1 := hfr (ow * 4 + 1)
          have z2 := hfr (ow * 4 + 2)
          have z3 := hfr (ow * 4 + 3)
          clear hOW hRx ex hfr hcl
          have FN : ∀ W, (binOp .neq 41 (.agg #[.int .i64 1, .int .i64 (ow : Nat), .string ⟨#[121]⟩, .bool false]) (.agg #[.int .i64 1, .int .i64 (ow : Nat), .string ⟨#[121]⟩, .bool false])).run Tryz.prog W = .ok (.bool false) W := fun W => by
            have := fd_neq W ⟨1, ow, ⟨#[121]⟩, false⟩ ⟨1, ow, ⟨#[121]⟩, false⟩
            rw [this]
            simp [ba_eq]
          go_wp2
          obtain ⟨Y, hY⟩ : ∃ Y, Y = ((own4 wr gg (ow * 4) wr.heap.size).alloc ownO) := ⟨_, rfl⟩
          have HC3 : Hid (∀ X, Below Y.heap.size Y X → ∀ j, j < i → Calls Tryz.prog 16 #[.slice (some ⟨gg, 0, none⟩) i rc, .int .i64 (j : Nat), .string ⟨#[120]⟩] X fun e w' => e = .returned (.agg #[.int .i64 1, .int .i64 (ow : Nat), .string ⟨#[121]⟩, .bool false]) ∧ Below X.heap.size X w') := fun X b j hj => by
            obtain ⟨q1, q2, q3, q5⟩ := bounds_own (o := ow) st hn2
            have hM := HMO.out
            rw [← hY] at hM
            have C := resolveX_any (hM.to b) q1 q2 q3 (j : Int) xB (q5 _)
            rw [rsv_ring_own st hj hol] at C
            exact C
          have HBY : Hid (Below W.heap.size W Y) := by rw [hY]; exact HBO.out
          show Code.wp _ _ _ _ ((own4 wr gg (ow * 4) wr.heap.size).alloc ownO)
          rw [← hY]
          clear hY HMO HBO HB q0 q1 q2 q3 z0 z1 z2 z3 HC1 HC2
          go_loopw [11] (fun v11 wx => ∃ j : Nat, v11 = .int .i64 (j : Nat) ∧ j ≤ i ∧ Below Y.heap.size Y wx) (fun v11 _ => i - (intOf v11).toNat)
          case atStart => exact ⟨0, rfl, by omega, Below.refl _ _⟩
          case round =>
            obtain ⟨j, rfl, hj, hB⟩ := hrel
            have HB : Hid _ := hB
            by_cases hlt : j < i
            · have hltI : ((j : Nat) : Int) < ((i : Nat) : Int) := by omega
              have R1 := HC3.out _ hB j hlt
              clear hB
              go_wp2_with fail
              go_at_call 16
              refine R1.mono ?_
              rintro e w1 ⟨rfl, b1⟩
              have HB1 : Hid _ := bt HB.out b1
              clear b1 R1
              go_wp2
              go_roundw
              case rel => exact ⟨j + 1, by simp, by omega, HB1.out⟩
              case measure => simp [intOf]; omega
            · obtain rfl : j = i := by omega
              have hge : ¬ ((j : Nat) : Int) < ((j : Nat) : Int) := by omega
              have HBW : Hid _ := bt HBY.out hB
              have C := HS.out _ HBW.out
              clear hB
              go_wp2_with fail
              go_at_call 10
              refine C.mono ?_
              rintro e w1 ⟨rfl, b1⟩
              have HE : Hid _ := bt HBW.out b1
              clear b1 C
              go_wp2
              go_ret
              exact ⟨rfl, HE.out⟩
theorem walk (a o : Int) (st : Bool) (w : World) (ha0 : -9223372036854775808 ≤ a) (ha1 : a ≤ 9223372036854775807) (_ : -9223372036854775808 ≤ o) (_ : o ≤ 9223372036854775807) (he : WEnv w) :
    Calls Tryz.prog 8 #[.int .i64 a, .int .i64 o, .bool st] w fun e w' => e = .returned (.bool true) ∧ Below w.heap.size w w' := walk0 a o st w ha0 ha1 he
end Go.Proofs.YtpmbacidijfjjaaGreatDoor.Rnd
namespace Go.Proofs.YtpmbacidijfjjaaGreatDoor.Rnd
open Go.ChangeShapes Go.WideShapes Go.ChangeAt Go.RowKit
open Go.ChangeMaps (open_string)
set_option linter.unusedVariables false

set_option maxRecDepth 100000 in
theorem contract (H : Type) (enc : TypeId × Value → H) (W : World) (base : Nat) (args : Array Value) (ds gs : List (DataW H)) (before : List MemPlace)
    (hval : ∀ (j : Nat) t v, Tryz.f8.params[j]? = some t → args[j]? = some v → Value.okWide Tryz.prog W .any base t v)
    (hW : DataW.Whole enc Tryz.prog Tryz.f8.params.toList Rows.exportsRoundSpec.vars false W args.toList ds gs before)
    (hL : laidMetH Tryz.prog laidTabs W) (hsh : W.ShapedOpen Tryz.prog) :
    Calls Tryz.prog 8 args W fun e W' => ∃ v, e = .returned v ∧ Rows.exportsRoundSpec.post enc Tryz.prog Tryz.f8 false true false false W args v W' := by
  have hW' := hW
  obtain ⟨p, q, hA0, hV, rfl, hfz, hnd⟩ := hW
  have hA : DataW.TrodAll enc Tryz.prog W 0 (fun _ => true) true Tryz.f8.params.toList args.toList ds p := hA0
  have hAll := hA
  rw [Tryz.params8] at hA hval
  obtain ⟨v0, vs0, d0, ds0, p0, q0, hargs, rfl, rfl, h0, r0⟩ := trodAll_cons hA
  obtain ⟨v1, vs1, d1, ds1, p1, q1, rfl, rfl, rfl, h1, r1⟩ := trodAll_cons r0
  obtain ⟨v2, vs2, d2, ds2, p2, q2, rfl, rfl, rfl, h2, r2⟩ := trodAll_cons r1
  obtain ⟨rfl, rfl, rfl⟩ := trodAll_nil r2
  obtain rfl : args = #[v0, v1, v2] := by cases args; simp_all
  obtain ⟨rfl, rfl⟩ := trodVars_none hV
  have hlt := hW'.lt
  obtain ⟨a0, rfl, rfl, rfl, w0⟩ := open_int Tryz.underlying3 (hval 0 3 v0 rfl rfl) h0
  have b0 := bounds_i64 w0
  obtain ⟨a1, rfl, rfl, rfl, w1⟩ := open_int Tryz.underlying3 (hval 1 3 v1 rfl rfl) h1
  have b1 := bounds_i64 w1
  obtain ⟨a2, rfl, rfl, rfl⟩ := open_bool Tryz.underlying4 (hval 2 4 v2 rfl rfl) h2
  refine (walk a0 a1 a2 W b0.1 b0.2 b1.1 b1.2 (env_of hL hsh)).mono fun e W' ⟨he, bel⟩ => ?_
  subst he
  exact ⟨_, rfl, _, _, _, [], _, [], hW', trodAll_mk1 (shut_bool Tryz.underlying4 _), below_trodAll laidOut bel _ (by kernel_rfl) hAll (fun x hx => hlt x (by first | (simp at hx; done) | simpa using hx)), rfl, bel.frame _, fun h => by cases h⟩

theorem laid_met (os : Os) : laidMet Tryz.prog laidTabs (({ World.holding Tryz.prog os ⟨#[], #[], []⟩ with heap := layTabs (World.holding Tryz.prog os ⟨#[], #[], []⟩).heap } : World).forCall (fun _ _ => 0) ⟨#[], #[.int .i64 0, .int .i64 0, .bool false], []⟩).memory :=
  laidMet_of_run' 80 (by kernel_rfl) (by kernel_rfl)
theorem reads (os : Os) {H : Type} (enc : TypeId × Value → H) : ∃ places, DataW.whole enc Tryz.prog (({ World.holding Tryz.prog os ⟨#[], #[], []⟩ with heap := layTabs (World.holding Tryz.prog os ⟨#[], #[], []⟩).heap } : World).forCall (fun _ _ => 0) ⟨#[], #[.int .i64 0, .int .i64 0, .bool false], []⟩).memory Tryz.f8.params.toList Rows.exportsRoundSpec.vars false (#[.int .i64 0, .int .i64 0, .bool false] : Array Value).toList 8 = some ([.lit (.int .i64 0), .lit (.int .i64 0), .lit (.bool false)], [], places) :=
  ⟨[], by kernel_rfl⟩

set_option maxRecDepth 100000 in
theorem lifted (os : Os) (started : os.Started) (H : Type) (enc : TypeId × Value → H) (F : Stop.Interp) :
    ReturnsInHanded {} Tryz.checked os 8 .any ((OpenSpec.ofChange Rows.exportsRoundSpec).preRow enc Tryz.prog Tryz.f8 Rows.exportsRoundRow.domain false Rows.exportsRoundRow.laid) (((OpenSpec.ofChange Rows.exportsRoundSpec).at F).post enc Tryz.prog Tryz.f8 false true false false) := by
  obtain ⟨places, hx⟩ := reads os enc
  refine returnsInHanded_of_row (C := Tryz.checked) (s := (OpenSpec.ofChange Rows.exportsRoundSpec)) own started (by kernel_rfl) Tryz.func8
    (witness_row_at (enc := enc) (C := Tryz.checked) false ({ World.holding Tryz.prog os ⟨#[], #[], []⟩ with heap := layTabs (World.holding Tryz.prog os ⟨#[], #[], []⟩).heap } : World) #[.int .i64 0, .int .i64 0, .bool false] rfl (by kernel_rfl) (by kernel_rfl) (by kernel_rfl)
      (OpenSpec.preRow_of_cond 8 hx (by kernel_rfl) (fun k hk => by cases hk) (by kernel_rfl) (laid_met os))) ?_
  intro W base args ds gs before hval hW _ _ _ hL hsh _
  exact contract H enc W base args ds gs before hval hW hL hsh

theorem said : Rows.ExportsRoundSaid :=
  OpenClaim.holds_of_cond 8 Tryz.f8 rfl rfl rfl rfl rfl rfl rfl ⟨rfl, rfl, rfl, rfl, rfl⟩ rfl rfl rfl rfl rfl (by kernel_rfl) Tryz.func8 (by kernel_rfl)
    (of_decide_eq_true (by kernel_rfl)) (by unfold Func.isWrapper; first | (rw [if_pos (by decide +kernel)]; kernel_rfl) | (rw [if_neg (by decide +kernel)]; exact ⟨rfl, rfl⟩))
    (fun os started H enc _ F => by rw [OpenClaim.pre_eq_preRow]; exact lifted os started H enc F)

theorem plain (f : FuncId) (fn : Func) (hf : Tryz.pinned.checked.prog.funcNamed "gusset/gussetlaw12.ExportsRound" = some f) (hfn : Tryz.pinned.checked.prog.funcs[f]? = some fn) :
    false = Tryz.pinned.checked.prog.looks [] ∧ ∀ (j : Nat) t, fn.params[j]? = some t → Tryz.pinned.checked.prog.wantsStandIn t = false := by
  obtain rfl : f = 8 := Option.some.inj ((show Tryz.prog.funcNamed "gusset/gussetlaw12.ExportsRound" = some 8 by kernel_rfl).symm.trans hf) |>.symm
  obtain rfl : fn = Tryz.f8 := (Option.some.inj (Tryz.func8.symm.trans hfn)).symm
  refine ⟨by kernel_rfl, fun j t ht => ?_⟩
  rw [Tryz.params8] at ht
  have hm : t = 3 ∨ t = 3 ∨ t = 4 := by simpa using Array.mem_of_getElem? ht
  rcases hm with rfl | rfl | rfl
  · exact (show Tryz.prog.wantsStandIn 3 = false by kernel_rfl)
  · exact (show Tryz.prog.wantsStandIn 3 = false by kernel_rfl)
  · exact (show Tryz.prog.wantsStandIn 4 = false by kernel_rfl)

theorem card : Rows.ExportsRoundCardSaid :=
  Claim7.holds_tied_plain_at .later [] _ _ _ _ said (fun _ h => by cases h) (by kernel_rfl) (fun _ h => by cases h) exportsRound_row_tie rfl ⟨rfl, rfl⟩ (by kernel_rfl) rfl plain (by kernel_rfl)
end Go.Proofs.YtpmbacidijfjjaaGreatDoor.Rnd
namespace Go.Proofs.YtpmbacidijfjjaaGreatDoor
theorem Rnd_card : Rows.ExportsRoundCardSaid := Rnd.card
end Go.Proofs.YtpmbacidijfjjaaGreatDoor
