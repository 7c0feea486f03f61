/- Own text. Package parse: what is given up is caught at the face. -/
import Derived.Test.YtmfgcaffdkakhaaR20
import Derived.Defers
import Derived.Recover
namespace Go.Proofs.Ytmfgcaffdkakhaa
open Go.RowKit
set_option linter.unusedVariables false
set_option linter.unusedSimpArgs false

set_option maxRecDepth 100000 in
set_option maxHeartbeats 8000000 in
theorem catch_idle (p q r : Nat) (w : World) :
    CallsD Try.prog 17 #[.pointer (some ⟨p, 0, none⟩), .pointer (some ⟨q, 0, none⟩), .pointer (some ⟨r, 0, none⟩)] .returning w fun e u' w' => e = .returned (.tuple #[]) ∧ u' = .returning ∧ w' = w := by
  refine callsD_of_wpS Try.func17 rfl fun c₀ cs hu => ?_
  apply wpS_seq
  apply wpS_region
  simp [wpOpsS, go_sem, recoverD, hu, Try.ntmps17, Exit.thenS]
  refine wpS_of_wp ?_
  simp only [List.size_toArray, List.length_cons, List.length_nil, Nat.reduceAdd, Nat.reduceSub, Array.replicate_succ, Array.replicate_zero, List.push_toArray, List.append_toArray, List.nil_append, List.cons_append, List.setIfInBounds_toArray, List.set_cons_zero, List.set_cons_succ]
  go_wp2
  cases c₀
  simp_all [bodyPostS, results, Try.results17]
/-- all blocks but three are as they were. -/
structure Kept3 (p q r : Nat) (w w' : World) : Prop where
  os : w'.os = w.os
  tape : w'.tape = w.tape
  output : w'.output = w.output
  size : w.heap.size ≤ w'.heap.size
  block : ∀ k, k < w.heap.size → k ≠ p → k ≠ q → k ≠ r → w'.heap[k]? = w.heap[k]?
set_option maxRecDepth 100000 in
set_option maxHeartbeats 8000000 in
theorem catch_panicking (p q r a : Nat) (er : Int) (n0 n1 n2 n3 q0 r0 : Value) (w : World) (mp : w.heap[p]? = some (.cells #[n0, n1, n2, n3] 24 (0, 0))) (mq : w.heap[q]? = some (.cells #[q0] 3 (0, 0))) (mr : w.heap[r]? = some (.cells #[r0] 25 (0, 0))) (hpq : p ≠ q) (hpr : p ≠ r) (hqr : q ≠ r) (older : List PanicEntry) :
    CallsD Try.prog 17 #[.pointer (some ⟨p, 0, none⟩), .pointer (some ⟨q, 0, none⟩), .pointer (some ⟨r, 0, none⟩)] (.panicking ({ v := faultV a er, recovered := false } :: older)) w fun e u' w' => e = .returned (.tuple #[]) ∧ u' = .panicking ({ v := faultV a er, recovered := true } :: older) ∧
      w'.heap[p]? = some (.cells #[Value.int IntKind.i64 0, Value.string ⟨#[]⟩, Value.int IntKind.i64 0, Value.slice none 0 0] 24 (0, 0)) ∧ w'.heap[q]? = some (.cells #[.int .i64 (a : Int)] 3 (0, 0)) ∧ w'.heap[r]? = some (.cells #[.int .i64 er] 25 (0, 0)) ∧ Kept3 p q r w w' := by
  refine callsD_of_wpS Try.func17 rfl fun c₀ cs hu => ?_
  apply wpS_seq
  apply wpS_region
  unfold faultV at *
  simp [wpOpsS, go_sem, recoverD, hu, Try.ntmps17, Exit.thenS]
  refine wpS_of_wp ?_
  simp only [List.size_toArray, List.length_cons, List.length_nil, Nat.reduceAdd, Nat.reduceSub, Array.replicate_succ, Array.replicate_zero, List.push_toArray, List.append_toArray, List.nil_append, List.cons_append, List.setIfInBounds_toArray, List.set_cons_zero, List.set_cons_succ]
  obtain ⟨⟨_, _, _, _⟩, _, _, _, _⟩ := t4 mp
  have cq : w.cell? ⟨q, 0, none⟩ = some q0 := by simp [World.cell?, mq]
  have fq : w.frozen? ⟨q, 0, none⟩ = false := by simp [World.frozen?, mq]
  have cr : w.cell? ⟨r, 0, none⟩ = some r0 := by simp [World.cell?, mr]
  have fr : w.frozen? ⟨r, 0, none⟩ = false := by simp [World.frozen?, mr]
  have lp : p < w.heap.size := (Array.getElem?_eq_some_iff.1 mp).1
  have lq : q < w.heap.size := (Array.getElem?_eq_some_iff.1 mq).1
  have lr : r < w.heap.size := (Array.getElem?_eq_some_iff.1 mr).1
  have hta : ∀ w : World, (Instr.typeAssert (Value.iface 44 (Value.agg #[Value.int IntKind.i64 (a : Int), Value.int IntKind.i64 er])) 20 44 false).run Try.prog w = .ok (Value.agg #[Value.int IntKind.i64 (a : Int), Value.int IntKind.i64 er]) w := fun w => by
    first
      | rfl
      | kernel_rfl
      | simp [Instr.typeAssert, go_sem]
  go_wp2
  go_region
  obtain ⟨W1, hW1⟩ : ∃ W, ((((w.setCell ⟨p, 0, none⟩ (Value.int IntKind.i64 0)).setCell ⟨p, 1, none⟩ (Value.string ⟨#[]⟩)).setCell ⟨p, 2, none⟩ (Value.int IntKind.i64 0)).setCell ⟨p, 3, none⟩ (Value.slice none 0 0)) = W := ⟨_, rfl⟩
  have p1 : W1.heap[p]? = some (.cells #[Value.int IntKind.i64 0, Value.string ⟨#[]⟩, Value.int IntKind.i64 0, Value.slice none 0 0] 24 (0, 0)) := by rw [← hW1]; exact t4_set _ _ _ _ mp
  have o1 : ∀ j, j ≠ p → W1.heap[j]? = w.heap[j]? := fun j hj => by rw [← hW1]; exact blk_set4 hj _ _ _ _
  have s1 : W1.heap.size = w.heap.size := by rw [← hW1]; simp [World.setCell]
  have e1 : W1.os = w.os ∧ W1.tape = w.tape ∧ W1.output = w.output := by rw [← hW1]; exact ⟨rfl, rfl, rfl⟩
  rw [hW1]
  obtain ⟨W2, hW2⟩ : ∃ W, W1.setCell ⟨q, 0, none⟩ (Value.int IntKind.i64 (a : Int)) = W := ⟨_, rfl⟩
  have q2 : W2.heap[q]? = some (.cells #[.int .i64 (a : Int)] 3 (0, 0)) := by rw [← hW2]; simp [World.setCell, Array.getElem?_modify, o1 q (fun e => hpq e.symm), mq]
  have o2 : ∀ j, j ≠ q → W2.heap[j]? = W1.heap[j]? := fun j hj => by rw [← hW2]; exact Below.heap_setCell _ _ _ _ hj
  have s2 : W2.heap.size = w.heap.size := by rw [← hW2]; simp [World.setCell, s1]
  have e2 : W2.os = w.os ∧ W2.tape = w.tape ∧ W2.output = w.output := by rw [← hW2]; exact e1
  rw [hW2]
  obtain ⟨W3, hW3⟩ : ∃ W, W2.setCell ⟨r, 0, none⟩ (Value.int IntKind.i64 er) = W := ⟨_, rfl⟩
  have r3 : W3.heap[r]? = some (.cells #[.int .i64 er] 25 (0, 0)) := by rw [← hW3]; simp [World.setCell, Array.getElem?_modify, o2 r (fun e => hqr e.symm), o1 r (fun e => hpr e.symm), mr]
  have o3 : ∀ j, j ≠ r → W3.heap[j]? = W2.heap[j]? := fun j hj => by rw [← hW3]; exact Below.heap_setCell _ _ _ _ hj
  have s3 : W3.heap.size = w.heap.size := by rw [← hW3]; simp [World.setCell, s2]
  have e3 : W3.os = w.os ∧ W3.tape = w.tape ∧ W3.output = w.output := by rw [← hW3]; exact e2
  rw [hW3]
  have oa : ∀ ob j, j < w.heap.size → (W3.alloc ob).drew.heap[j]? = W3.heap[j]? := fun ob j hj => Below.heap_alloc W3 ob j (by omega)
  refine ⟨rfl, _, rfl, .tuple #[], by simp [results, Try.results17], rfl, rfl, ?_, ?_, ?_, e3.1, e3.2.1, e3.2.2, ?_, ?_⟩
  · exact (oa _ p lp).trans ((o3 p hpr).trans ((o2 p hpq).trans p1))
  · exact (oa _ q lq).trans ((o3 q hqr).trans q2)
  · exact (oa _ r lr).trans r3
  · show w.heap.size ≤ (W3.alloc _).heap.size
    simp
    omega
  · intro k hk h1 h2 h3
    exact (oa _ k hk).trans ((o3 k h3).trans ((o2 k h2).trans (o1 k h1)))
end Go.Proofs.Ytmfgcaffdkakhaa
