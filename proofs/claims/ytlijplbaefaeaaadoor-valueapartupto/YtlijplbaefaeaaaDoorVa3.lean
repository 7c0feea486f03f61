/- Own text. What package value must answer (the contracts that the statements' walks ask for). -/
import Derived.Test.YtlijplbaefaeaaaDoorVa2
import Derived.Deep.RegionHeld3
import Derived.Deep.SlicePairs
namespace Go.Proofs.YtlijplbaefaeaaaDoor
open Go.RowKit
set_option linter.unusedVariables false
set_option linter.unusedSimpArgs false

theorem glt {w : World} {k : Nat} {o : Obj} (h : w.heap[k]? = some o) : k < w.heap.size := (Array.getElem?_eq_some_iff.1 h).1
/-- all blocks but some are as they were. -/
structure Kv (M : Nat → Prop) (w w' : World) : Prop where
  os : w'.os = w.os
  tape : w'.tape = w.tape
  output : w'.output = w.output
  size : w.heap.size ≤ w'.heap.size
  block : ∀ k, k < w.heap.size → ¬ M k → w'.heap[k]? = w.heap[k]?
theorem Kv.bel {M : Nat → Prop} {B : Nat} {a b : World} (h : Kv M a b) (hB : B ≤ a.heap.size) (hM : ∀ k, M k → B ≤ k) : Below B a b := ⟨h.os, h.tape, h.output, h.size, fun k hk => h.block k (by omega) (fun q => by have := hM k q; omega)⟩
theorem Kv.of {M : Nat → Prop} {a b : World} (h : Below a.heap.size a b) : Kv M a b := ⟨h.os, h.tape, h.output, h.size, fun k hk _ => h.block k hk⟩
theorem Kv.drew {M : Nat → Prop} {a b : World} (h : Kv M a b) : Kv M a b.drew := ⟨h.os, h.tape, h.output, h.size, h.block⟩
theorem Kv.trans {M N : Nat → Prop} {a b c : World} (h : Kv M a b) (k : Kv N b c) (hN : ∀ i, i < a.heap.size → N i → M i) : Kv M a c :=
  ⟨k.os.trans h.os, k.tape.trans h.tape, k.output.trans h.output, Nat.le_trans h.size k.size, fun i hi hm => (k.block i (Nat.lt_of_lt_of_le hi h.size) (fun q => hm (hN i hi q))).trans (h.block i hi hm)⟩
/-- values, names that lie in memory, in blocks of D. -/
def VsA (W : World) (D : Nat → Prop) (v : Value) (l : List Vl) : Prop := ∃ a c, v = .slice a l.length c ∧ (0 < l.length → ∃ b o, a = some ⟨b, o, none⟩ ∧ D b ∧ b < W.heap.size ∧ ∀ i (h : i < l.length), W.cell? ⟨b, o + i * 3, none⟩ = some (.int .i64 l[i].kd) ∧ W.cell? ⟨b, o + i * 3 + 1, none⟩ = some (.int .i64 l[i].n) ∧ W.cell? ⟨b, o + i * 3 + 2, none⟩ = some (.string l[i].tx))
def NsA (W : World) (D : Nat → Prop) (v : Value) (l : List ByteArray) : Prop := ∃ a c, v = .slice a l.length c ∧ (0 < l.length → ∃ b o, a = some ⟨b, o, none⟩ ∧ D b ∧ b < W.heap.size ∧ ∀ i (h : i < l.length), W.cell? ⟨b, o + i, none⟩ = some (.string l[i]))
/-- a number that an int holds. -/
def okV (x : Vl) : Prop := (-9223372036854775808 ≤ x.n ∧ x.n ≤ 9223372036854775807) ∧ x.tx.size ≤ 140737488355328
def optV (o : Option Vl) : Value := .tuple #[(o.getD zV).v, .bool o.isSome]
/-- a heap is changed: what is told of it, of all else nothing. -/
def Chg (At : World → Nat → Hp → (Nat → Prop) → Prop) (hb : Nat) (S : Nat → Prop) (W : World) (r : Value) (H' : Hp) (e : Ending) (W' : World) : Prop :=
  e = .returned r ∧ ∃ S', At W' hb H' S' ∧ Kv S W W' ∧ ∀ b, S' b → S b ∨ W.heap.size ≤ b
def smH (H : Hp) : Prop := H.length ≤ 2097152 ∧ ∀ t ∈ H, t.ls.length ≤ 2097152 ∧ t.nm.length ≤ 2097152
structure PrgV (Ev : World → Prop) (At : World → Nat → Hp → (Nat → Prop) → Prop) : Prop where
  ev : ∀ {W W' : World}, Ev W → Below W.heap.size W W' → Ev W'
  keep : ∀ {W W' : World} {hb : Nat} {H : Hp} {S : Nat → Prop}, At W hb H S → W.heap.size ≤ W'.heap.size → (∀ b, S b → W'.heap[b]? = W.heap[b]?) → At W' hb H S
  lt : ∀ {W : World} {hb : Nat} {H : Hp} {S : Nat → Prop}, At W hb H S → ∀ b, S b → b < W.heap.size
  new : ∀ W, Calls Tryd.prog 7 #[] W fun e W' => ∃ hb S, e = .returned (.pointer (some ⟨hb, 0, none⟩)) ∧ At W' hb [] S ∧ Below W.heap.size W W' ∧ ∀ b, S b → W.heap.size ≤ b
  tru : ∀ x W, okV x → Calls Tryd.prog 8 #[x.v] W fun e W' => e = .returned (.bool (truV x)) ∧ Below W.heap.size W W'
  typ : ∀ x W, okV x → Calls Tryd.prog 10 #[x.v] W fun e W' => e = .returned (.string (typT x)) ∧ Below W.heap.size W W'
  sam : ∀ x y W, okV x → okV y → Calls Tryd.prog 14 #[x.v, y.v] W fun e W' => e = .returned (.bool (samV x y)) ∧ Below W.heap.size W W'
  txt : ∀ p x W, okV x → Ev W → Calls Tryd.prog 12 #[.pointer p, x.v] W fun e W' => e = .returned (.string (txtV x)) ∧ Below W.heap.size W W'
  arr : ∀ {W hb H S} (D : Nat → Prop) (v : Value) (l : List Vl), At W hb H S → smH H → (∀ x ∈ l, okV x) → l.length ≤ 1048577 → VsA W D v l → (∀ b, D b → ¬ S b) → Calls Tryd.prog 19 #[.pointer (some ⟨hb, 0, none⟩), v] W (Chg At hb S W (arrV H).v (H ++ [arrT l]))
  obj : ∀ {W hb H S} (D : Nat → Prop) (u v : Value) (ns : List ByteArray) (l : List Vl), At W hb H S → smH H → (∀ x ∈ l, okV x) → (∀ s ∈ ns, s.size ≤ 140737488355328) → ns.length ≤ 1048577 → l.length ≤ 1048577 → NsA W D u ns → VsA W D v l → (∀ b, D b → ¬ S b) → Calls Tryd.prog 20 #[.pointer (some ⟨hb, 0, none⟩), u, v] W (Chg At hb S W (objV H).v (H ++ [objT ns l ⟨true, [], []⟩]))
  len : ∀ {W hb H S} (x : Vl), At W hb H S → smH H → okV x → Calls Tryd.prog 25 #[.pointer (some ⟨hb, 0, none⟩), x.v] W fun e W' => e = .returned (.int .i64 (lenH H x : Nat)) ∧ Below W.heap.size W W'
  get : ∀ {W hb H S} (x : Vl) (s : ByteArray), At W hb H S → smH H → okV x → s.size ≤ 140737488355328 → Calls Tryd.prog 24 #[.pointer (some ⟨hb, 0, none⟩), x.v, .string s] W fun e W' => e = .returned (optV (getH H x s)) ∧ Below W.heap.size W W'
  at_ : ∀ {W hb H S} (x : Vl) (i : Int), At W hb H S → smH H → okV x → -9223372036854775808 ≤ i → i ≤ 9223372036854775807 → Calls Tryd.prog 23 #[.pointer (some ⟨hb, 0, none⟩), x.v, .int .i64 i] W fun e W' => e = .returned (optV (atH H x i)) ∧ Below W.heap.size W W'
  set : ∀ {W hb H S} (x : Vl) (s : ByteArray) (y : Vl), At W hb H S → smH H → okV x → okV y → s.size ≤ 140737488355328 → Calls Tryd.prog 22 #[.pointer (some ⟨hb, 0, none⟩), x.v, .string s, y.v] W (Chg At hb S W (.bool (isH H x true)) (setH H x s y))
  put : ∀ {W hb H S} (x : Vl) (i : Int) (y : Vl), At W hb H S → smH H → okV x → okV y → -9223372036854775808 ≤ i → i ≤ 9223372036854775807 → Calls Tryd.prog 26 #[.pointer (some ⟨hb, 0, none⟩), x.v, .int .i64 i, y.v] W (Chg At hb S W (.bool (putB H x i)) (putH H x i y))
  psh : ∀ {W hb H S} (x y : Vl), At W hb H S → smH H → okV x → okV y → Calls Tryd.prog 21 #[.pointer (some ⟨hb, 0, none⟩), x.v, y.v] W (Chg At hb S W (.bool (isH H x false)) (pshH H x y))
  narr : ∀ W v, Calls Tryd.prog 19 #[.pointer none, v] W fun e W' => e = .returned zV.v ∧ Below W.heap.size W W'
  nobj : ∀ W u v, Calls Tryd.prog 20 #[.pointer none, u, v] W fun e W' => e = .returned zV.v ∧ Below W.heap.size W W'
  nlen : ∀ W (x : Vl), Calls Tryd.prog 25 #[.pointer none, x.v] W fun e W' => e = .returned (.int .i64 0) ∧ Below W.heap.size W W'
  nget : ∀ W (x : Vl) s, Calls Tryd.prog 24 #[.pointer none, x.v, .string s] W fun e W' => e = .returned (optV none) ∧ Below W.heap.size W W'
  nat : ∀ W (x : Vl) i, Calls Tryd.prog 23 #[.pointer none, x.v, .int .i64 i] W fun e W' => e = .returned (optV none) ∧ Below W.heap.size W W'
  nset : ∀ W (x : Vl) s (y : Vl), Calls Tryd.prog 22 #[.pointer none, x.v, .string s, y.v] W fun e W' => e = .returned (.bool false) ∧ Below W.heap.size W W'
  nput : ∀ W (x : Vl) i (y : Vl), Calls Tryd.prog 26 #[.pointer none, x.v, .int .i64 i, y.v] W fun e W' => e = .returned (.bool false) ∧ Below W.heap.size W W'
  npsh : ∀ W (x y : Vl), Calls Tryd.prog 21 #[.pointer none, x.v, y.v] W fun e W' => e = .returned (.bool false) ∧ Below W.heap.size W W'
/-- a block of the caller's own is left as it was. -/
theorem box_kept {S S' : Nat → Prop} {W W' : World} {q : Nat} {o : Obj} (m : W.heap[q]? = some o) (nq : ¬ S q) (k : Kv S W W') (sub : ∀ b, S' b → S b ∨ W.heap.size ≤ b) : W'.heap[q]? = some o ∧ ¬ S' q :=
  ⟨(k.block q (glt m) nq).trans m, fun h => (sub q h).elim nq (fun h => by have := glt m; omega)⟩
theorem box3 {w : World} {b : Nat} {x : Vl} (h : w.heap[b]? = some (.cells #[.int .i64 x.kd, .int .i64 x.n, .string x.tx] 23 (0, 0))) : w.cell? ⟨b, 0, none⟩ = some (.int .i64 x.kd) ∧ w.cell? ⟨b, 1, none⟩ = some (.int .i64 x.n) ∧ w.cell? ⟨b, 2, none⟩ = some (.string x.tx) := by
  simp [World.cell?, h]
end Go.Proofs.YtlijplbaefaeaaaDoor
