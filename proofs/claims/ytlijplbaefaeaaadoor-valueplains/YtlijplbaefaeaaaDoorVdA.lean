/- Own text. Two heaps and what lies beside them, from world to world; values compared. -/
import Derived.Test.YtlijplbaefaeaaaDoorVa5
import Derived.Test.YtlijplbaefaeaaaDoorVa8
import Derived.Test.YtlijplbaefaeaaaDoorVc0
import Derived.Test.YtlijplbaefaeaaaDoorVu
import Derived.Deep.DeepCutAuto
import Derived.Laws.StructEq
namespace Go.Proofs.YtlijplbaefaeaaaDoor
open Go.RowKit
set_option linter.unusedVariables false
set_option linter.unusedSimpArgs false

def vob (x : Vl) : Obj := .cells #[.int .i64 x.kd, .int .i64 x.n, .string x.tx] 23 (0, 0)
/-- a heap of the program's, one of the document's, and blocks beside them. -/
structure Tw (At : World → Nat → Hp → (Nat → Prop) → Prop) (W : World) (hb gb : Nat) (qs : List (Nat × Obj)) (H G : Hp) (S T : Nat → Prop) (Y : World) : Prop where
  a : At Y hb H S
  d : dAt Y gb G T
  m : ∀ p ∈ qs, Y.heap[p.1]? = some p.2 ∧ ¬ S p.1 ∧ ¬ T p.1
  b : Below W.heap.size W Y
  s : ∀ b, S b → W.heap.size ≤ b
  t : ∀ b, T b → W.heap.size ≤ b
  x : ∀ b, S b → ¬ T b
section
variable {Ev : World → Prop} {At : World → Nat → Hp → (Nat → Prop) → Prop} {W Y Y' : World} {hb gb : Nat} {qs : List (Nat × Obj)} {H H' G G' : Hp} {S S' T T' : Nat → Prop}
theorem Tw.bel (PV : Hid (PrgV Ev At)) (h : Hid (Tw At W hb gb qs H G S T Y)) (k : Below Y.heap.size Y Y') : Hid (Tw At W hb gb qs H G S T Y') :=
  ⟨PV.out.keep h.out.a k.size (fun b hb' => k.block b (PV.out.lt h.out.a b hb')), h.out.d.keep (fun b hb' => k.block b (h.out.d.lt b hb')), fun p hp => ⟨(k.block _ (glt (h.out.m p hp).1)).trans (h.out.m p hp).1, (h.out.m p hp).2⟩, h.out.b.trans (k.mono h.out.b.size), h.out.s, h.out.t, h.out.x⟩
theorem Tw.chgA (PV : Hid (PrgV Ev At)) (h : Hid (Tw At W hb gb qs H G S T Y)) (a : At Y' hb H' S') (k : Kv S Y Y') (sub : ∀ b, S' b → S b ∨ Y.heap.size ≤ b) : Hid (Tw At W hb gb qs H' G S' T Y') :=
  ⟨a, h.out.d.keep (fun b hb' => k.block b (h.out.d.lt b hb') (fun q => h.out.x b q hb')), fun p hp => ⟨(k.block _ (glt (h.out.m p hp).1) (h.out.m p hp).2.1).trans (h.out.m p hp).1, fun q => (sub _ q).elim (h.out.m p hp).2.1 (fun q => by have := glt (h.out.m p hp).1; omega), (h.out.m p hp).2.2⟩, h.out.b.trans (k.bel h.out.b.size h.out.s), fun b hb' => (sub b hb').elim (h.out.s b) (fun q => Nat.le_trans h.out.b.size q), h.out.t, fun b hb' q => (sub b hb').elim (fun w => h.out.x b w q) (fun w => by have := h.out.d.lt b q; omega)⟩
theorem Tw.chgD (PV : Hid (PrgV Ev At)) (h : Hid (Tw At W hb gb qs H G S T Y)) (d : dAt Y' gb G' T') (k : Kv T Y Y') (sub : ∀ b, T' b → T b ∨ Y.heap.size ≤ b) : Hid (Tw At W hb gb qs H G' S T' Y') :=
  ⟨PV.out.keep h.out.a k.size (fun b hb' => k.block b (PV.out.lt h.out.a b hb') (h.out.x b hb')), d, fun p hp => ⟨(k.block _ (glt (h.out.m p hp).1) (h.out.m p hp).2.2).trans (h.out.m p hp).1, (h.out.m p hp).2.1, fun q => (sub _ q).elim (h.out.m p hp).2.2 (fun q => by have := glt (h.out.m p hp).1; omega)⟩, h.out.b.trans (k.bel h.out.b.size h.out.t), h.out.s, fun b hb' => (sub b hb').elim (h.out.t b) (fun q => Nat.le_trans h.out.b.size q), fun b hb' q => (sub b q).elim (h.out.x b hb') (fun w => by have := PV.out.lt h.out.a b hb'; omega)⟩
/-- a block more, made just now. -/
theorem Tw.box (PV : Hid (PrgV Ev At)) (h : Hid (Tw At W hb gb qs H G S T Y)) (cs : Array Value) (ty : TypeId) : Hid (Tw At W hb gb ((Y.heap.size, .cells cs ty (0, 0)) :: qs) H G S T (Y.alloc (.cells cs ty))) := by
  have h2 := Tw.bel PV h (belA Y (.cells cs ty))
  refine ⟨h2.out.a, h2.out.d, fun p hp => ?_, h2.out.b, h2.out.s, h2.out.t, h2.out.x⟩
  rcases List.mem_cons.1 hp with rfl | hp
  · exact ⟨hnw _ rfl, fun q => by have := PV.out.lt h.out.a _ q; omega, fun q => by have := h.out.d.lt _ q; omega⟩
  · exact h2.out.m p hp
theorem Tw.drop (h : Hid (Tw At W hb gb qs H G S T Y)) (rs : List (Nat × Obj)) (hr : ∀ p ∈ rs, p ∈ qs) : Hid (Tw At W hb gb rs H G S T Y) :=
  ⟨h.out.a, h.out.d, fun p hp => h.out.m p (hr p hp), h.out.b, h.out.s, h.out.t, h.out.x⟩
theorem Tw.drew (PV : Hid (PrgV Ev At)) (h : Hid (Tw At W hb gb qs H G S T Y)) : Hid (Tw At W hb gb qs H G S T (World.drew Y)) := Tw.bel PV h ((Below.refl _ Y).drew)
/-- values, names in a block of their own. -/
theorem vs_of {b : Nat} {cs : Array Value} {ty : TypeId} {l : List Vl} (h : Y.heap[b]? = some (.cells cs ty (0, 0))) (e : cs.toList = l.flatMap Vl.cs) : VsA Y (fun k => k = b) (.slice (some ⟨b, 0, none⟩) l.length l.length) l := by
  refine ⟨_, _, rfl, fun _ => ⟨b, 0, rfl, rfl, glt h, fun i hi => ?_⟩⟩
  have hc : ∀ j, Y.cell? ⟨b, j, none⟩ = (l.flatMap Vl.cs)[j]? := fun j => by
    rw [cell_of_row _ _ _ _ _ _ h, ← e]
    simp
  have hg := row_get l i hi
  simp only [Nat.zero_add]
  exact ⟨(hc _).trans (hg 0 (by omega)), (hc _).trans (hg 1 (by omega)), (hc _).trans (hg 2 (by omega))⟩
theorem ns_of {b : Nat} {cs : Array Value} {ty : TypeId} {l : List ByteArray} (h : Y.heap[b]? = some (.cells cs ty (0, 0))) (e : cs.toList = l.map .string) : NsA Y (fun k => k = b) (.slice (some ⟨b, 0, none⟩) l.length l.length) l := by
  refine ⟨_, _, rfl, fun _ => ⟨b, 0, rfl, rfl, glt h, fun i hi => ?_⟩⟩
  rw [Nat.zero_add, cell_of_row _ _ _ _ _ _ h]
  have : cs.toList[i]? = some (.string l[i]) := by rw [e]; simp [hi]
  simpa using this
theorem vs_nil (D : Nat → Prop) : VsA Y D (.slice none 0 0) [] := ⟨none, 0, rfl, fun h => by simp at h⟩
theorem ns_nil (D : Nat → Prop) : NsA Y D (.slice none 0 0) [] := ⟨none, 0, rfl, fun h => by simp at h⟩
/-- the document's heap, made just now. -/
theorem d_new (Y : World) : dAt (Y.alloc (.cells #[.slice none 0 0] 34)) Y.heap.size [] (fun b => b = Y.heap.size) := by
  refine ⟨.slice none 0 0, [], ⟨hnw _ rfl, rfl, World.ownsRow_nil _ _ _ _, fun i h => by simp at h, fun i h => by simp at h, fun i j h => by simp at h, fun i j h => by simp at h, fun t h => by cases h⟩, fun b => ?_⟩
  simp [Hs, Value.ownBlock]
end
theorem setT_le (t : Th) (s : ByteArray) (x : Vl) : (setT t s x).ls.length ≤ t.ls.length + 1 ∧ (setT t s x).nm.length ≤ t.nm.length + 1 := by
  unfold setT
  split <;> simp
theorem val_struct : Tryd.prog.underlying 23 = some (.struct (Tryd.prog.fieldsOf 23)) := by kernel_rfl
theorem val_held : Tryd.prog.stoodInHeld 23 = false := by kernel_rfl
theorem val_fields : Tryd.prog.fieldsOf 23 = #[{ name := "Kind", type := 3, offset := 0, embedded := false, tag := "", pkgPath := "", byteOffset := 0 }, { name := "N", type := 3, offset := 1, embedded := false, tag := "", pkgPath := "", byteOffset := 8 }, { name := "Text", type := 9, offset := 2, embedded := false, tag := "", pkgPath := "", byteOffset := 16 }] := by kernel_rfl
theorem val_neq (W : World) (k n k' n' : Int) (X Y : ByteArray) :
    (binOp .neq 23 (.agg #[.int .i64 k, .int .i64 n, .string X]) (.agg #[.int .i64 k', .int .i64 n', .string Y])).run Tryd.prog W = .ok (.bool (!((k == k') && ((n == n') && (X.toList == Y.toList))))) W := by
  have a3 := Tryd.isAgg3
  have a9 := Tryd.isAgg9
  rw [run_neq_struct, run_equalIn_struct W 9999 _ _ _ val_struct val_held, val_fields]
  have u3 := Tryd.underlying3
  have u9 := Tryd.underlying9
  cases e1 : (k == k') <;> cases e2 : (n == n') <;> cases e3 : (X.toList == Y.toList) <;> simp [Op.eqFields, go_sem, a3, a9, u3, u9, e1, e2, e3]
theorem val_same (W : World) (k n : Int) (X : ByteArray) : (binOp .neq 23 (.agg #[.int .i64 k, .int .i64 n, .string X]) (.agg #[.int .i64 k, .int .i64 n, .string X])).run Tryd.prog W = .ok (.bool false) W := by
  rw [val_neq]
  simp
theorem Chg.iff {At : World → Nat → Hp → (Nat → Prop) → Prop} {hb : Nat} {S T : Nat → Prop} {W W' : World} {r : Value} {H' : Hp} {e : Ending} (h : ∀ b, T b ↔ S b) (c : Chg At hb S W r H' e W') : Chg At hb T W r H' e W' := by
  obtain ⟨e1, S', a, k, sub⟩ := c
  exact ⟨e1, S', a, ⟨k.os, k.tape, k.output, k.size, fun i hi hm => k.block i hi (fun q => hm ((h i).2 q))⟩, fun b hb' => (sub b hb').imp (h b).2 id⟩
theorem sm_l {H : Hp} (h : smH H) : H.length ≤ 2097152 ∧ (∀ t ∈ H, t.ls.length ≤ 2097152) ∧ ∀ t ∈ H, t.nm.length ≤ 2097152 := ⟨h.1, fun t ht => (h.2 t ht).1, fun t ht => (h.2 t ht).2⟩
section
variable {W : World} {gb : Nat} {H : Hp} {T : Nat → Prop}
theorem eLen (h : dAt W gb H T) (s : smH H) (x : Vl) : Calls Tryd.prog 39 #[.pointer (some ⟨gb, 0, none⟩), x.v] W fun e W' => e = .returned (.int .i64 (lenH H x : Nat)) ∧ Below W.heap.size W W' := by
  obtain ⟨vt, V, h, e⟩ := h
  exact dlen_any h x (Nat.le_trans s.1 (by decide))
theorem eGet (h : dAt W gb H T) (s : smH H) (x : Vl) (t : ByteArray) : Calls Tryd.prog 37 #[.pointer (some ⟨gb, 0, none⟩), x.v, .string t] W fun e W' => e = .returned (optV (getH H x t)) ∧ Below W.heap.size W W' := by
  obtain ⟨vt, V, h, e⟩ := h
  exact dget_any h x t s.1 (sm_l s).2.2
theorem eAt (h : dAt W gb H T) (s : smH H) (x : Vl) (i : Int) : Calls Tryd.prog 38 #[.pointer (some ⟨gb, 0, none⟩), x.v, .int .i64 i] W fun e W' => e = .returned (optV (atH H x i)) ∧ Below W.heap.size W W' := by
  obtain ⟨vt, V, h, e⟩ := h
  exact dat_any h x i (Nat.le_trans s.1 (by decide)) (fun t ht => Nat.le_trans ((sm_l s).2.1 t ht) (by decide))
theorem eSet (h : dAt W gb H T) (s : smH H) (x : Vl) (t : ByteArray) (y : Vl) : Calls Tryd.prog 34 #[.pointer (some ⟨gb, 0, none⟩), x.v, .string t, y.v] W (Chg dAt gb T W (.bool (isH H x true)) (setH H x t y)) := by
  obtain ⟨vt, V, h, e⟩ := h
  exact (dset_any h x t y (Nat.le_trans s.1 (by decide)) (sm_l s).2.2).mono fun _ _ c => c.iff e
theorem ePut (h : dAt W gb H T) (s : smH H) (x : Vl) (i : Int) (y : Vl) : Calls Tryd.prog 35 #[.pointer (some ⟨gb, 0, none⟩), x.v, .int .i64 i, y.v] W (Chg dAt gb T W (.bool (putB H x i)) (putH H x i y)) := by
  obtain ⟨vt, V, h, e⟩ := h
  exact (dput_any h x i y s.1 (sm_l s).2.1).mono fun _ _ c => c.iff e
theorem ePsh (h : dAt W gb H T) (s : smH H) (x y : Vl) : Calls Tryd.prog 36 #[.pointer (some ⟨gb, 0, none⟩), x.v, y.v] W (Chg dAt gb T W (.bool (isH H x false)) (pshH H x y)) := by
  obtain ⟨vt, V, h, e⟩ := h
  exact (dpsh_any h x y s.1 (sm_l s).2.1).mono fun _ _ c => c.iff e
theorem eArr (h : dAt W gb H T) (s : smH H) (D : Nat → Prop) (v : Value) (l : List Vl) (hl : l.length ≤ 1048577) (hv : VsA W D v l) : Calls Tryd.prog 32 #[.pointer (some ⟨gb, 0, none⟩), v] W (Chg dAt gb T W (arrV H).v (H ++ [arrT l])) := by
  obtain ⟨vt, V, h, e⟩ := h
  exact (darr_any h D v l s.1 hl hv).mono fun _ _ c => c.iff e
theorem eObj (h : dAt W gb H T) (s : smH H) (D : Nat → Prop) (u v : Value) (ns : List ByteArray) (l : List Vl) (hn : ns.length ≤ 1048577) (hl : l.length ≤ 1048577) (hu : NsA W D u ns) (hv : VsA W D v l) (hD : ∀ b, D b → ¬ T b) : Calls Tryd.prog 33 #[.pointer (some ⟨gb, 0, none⟩), u, v] W (Chg dAt gb T W (objV H).v (H ++ [objT ns l ⟨true, [], []⟩])) := by
  obtain ⟨vt, V, h, e⟩ := h
  exact (dobj_any h D u v ns l s.1 (sm_l s).2.2 hn hl hu hv (fun b hb q => hD b hb ((e b).2 q))).mono fun _ _ c => c.iff e
end
theorem free3c {w : World} {b : Nat} {p q r : Value} {t : TypeId} (h : w.heap[b]? = some (.cells #[p, q, r] t (0, 0))) : w.cell? ⟨b, 0, none⟩ = some p ∧ w.cell? ⟨b, 1, none⟩ = some q ∧ w.cell? ⟨b, 2, none⟩ = some r := (free3 h).1
end Go.Proofs.YtlijplbaefaeaaaDoor
