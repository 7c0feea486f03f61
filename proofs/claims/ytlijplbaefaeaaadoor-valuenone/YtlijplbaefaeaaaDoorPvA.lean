/- Own text. A map from texts, as a function (package value's maps). -/
import Derived.Test.YtlijplbaefaeaaaDoorVa3
import Derived.Test.YtlijplbaefaeaaaDoorVa1
import Derived.Maps.Ext
import Derived.Maps.OwnSet
namespace Go.Proofs.YtlijplbaefaeaaaDoor
open Go.RowKit Go.Maps
set_option linter.unusedVariables false
set_option linter.unusedSimpArgs false

abbrev DU := DataW Unit
abbrev RdE := Value → Option (DU × List MemPlace)
def bl (s : ByteArray) : List UInt8 := s.data.toList
theorem bt_bl (s : ByteArray) : bt (bl s) = s := by simp [bt, bl]
theorem bl_bt (k : List UInt8) : bl (bt k) = k := by simp [bt, bl]
theorem bl_inj {a b : ByteArray} (h : bl a = bl b) : a = b := by rw [← bt_bl a, ← bt_bl b, h]
theorem lawK : Keyed Tryd.prog 9 := string_keyed Tryd.underlying9
theorem keyK {s : ByteArray} (hs : s.size ≤ 281474976710656) : keyOf Tryd.prog 9 (.string s) = some (.string (bl s)) := by
  have : s.size ≤ maxLen := by unfold maxLen; omega
  simp [keyOf, Tryd.underlying9, mapKey, this, bl]
theorem keyK_inv {v : Value} {k : Lit} (h : keyOf Tryd.prog 9 v = some k) : ∃ s : List UInt8, k = .string s := by
  unfold keyOf at h
  rw [Tryd.underlying9] at h
  simp only [mapKey, Tryd.underlying9] at h
  cases v <;> simp at h
  exact ⟨_, h.2.symm⟩
/-- a map from texts that holds what a function says. -/
def MpF (w : World) (R : RdE) (b : Nat) (f : List UInt8 → Option DU) : Prop := ∃ D, w.ownsMap Tryd.prog 9 R b (Maps.size D) D ∧ (∀ k, Maps.has D (.string k) = (f k).isSome) ∧ ∀ k d, f k = some d → ∀ z, D.atKey (.string k) z = d
def updF (f : List UInt8 → Option DU) (k : List UInt8) (d : DU) : List UInt8 → Option DU := fun j => if j = k then some d else f j
def delF (f : List UInt8 → Option DU) (k : List UInt8) : List UInt8 → Option DU := fun j => if j = k then none else f j
theorem own_size {w : World} {R : RdE} {b n : Nat} {D : DU} (h : w.ownsMap Tryd.prog 9 R b n D) : w.ownsMap Tryd.prog 9 R b (Maps.size D) D := by
  obtain ⟨es, clock, hb, F, hs, rfl⟩ := h
  exact ⟨es, clock, hb, F, by simp [Maps.size, length_sorted], rfl⟩
theorem MpF.lt {w : World} {R : RdE} {b : Nat} {f : List UInt8 → Option DU} (h : MpF w R b f) : b < w.heap.size := let ⟨_, h, _⟩ := h; h.lt
theorem MpF.map {w : World} {R : RdE} {b : Nat} {f : List UInt8 → Option DU} (h : MpF w R b f) : ∃ es c, w.heap[b]? = some (.map es c) := by
  obtain ⟨D, ⟨es, clock, hb, r⟩, _⟩ := h
  exact ⟨es, clock, hb⟩
theorem MpF.keep {w w' : World} {R : RdE} {b : Nat} {f : List UInt8 → Option DU} (h : MpF w R b f) (e : w'.heap[b]? = w.heap[b]?) : MpF w' R b f := by
  obtain ⟨D, ⟨es, clock, hb, r⟩, h2⟩ := h
  exact ⟨D, ⟨es, clock, e.trans hb, r⟩, h2⟩
theorem MpF.nil (w : World) (R : RdE) : MpF (w.alloc (.map #[] 0)) R w.heap.size (fun _ => none) := ⟨_, own_size (World.ownsMap_made w Tryd.prog 9 R), fun k => by simp [Maps.has], fun k d h => by cases h⟩
theorem MpF.as {w : World} {R : RdE} {b : Nat} {f g : List UInt8 → Option DU} (h : MpF w R b f) (e : ∀ k, f k = g k) : MpF w R b g := by
  obtain rfl : f = g := funext e
  exact h
theorem pigeon : ∀ (L : List (Lit × DU)) (T : List (List UInt8)), L.Pairwise (fun p q => p.1 ≠ q.1) → (∀ p ∈ L, ∃ s ∈ T, p.1 = .string s) → L.length ≤ T.length
  | [], T, _, _ => Nat.zero_le _
  | p :: L, T, h, hT => by
    obtain ⟨s, hs, e⟩ := hT p (by simp)
    have := pigeon L (T.erase s) (List.pairwise_cons.1 h).2 (fun q hq => by
      obtain ⟨s', hs', e'⟩ := hT q (by simp [hq])
      exact ⟨s', (List.mem_erase_of_ne (fun z => (List.pairwise_cons.1 h).1 q hq (by rw [e, e', z]))).2 hs', e'⟩)
    rw [List.length_erase_of_mem hs] at this
    have := List.length_pos_of_mem hs
    simp
    omega
theorem own_bound {w : World} {R : RdE} {b n : Nat} {D : DU} (h : w.ownsMap Tryd.prog 9 R b n D) (T : List (List UInt8)) (hT : ∀ k, Maps.has D (.string k) = true → k ∈ T) : Maps.size D ≤ T.length := by
  obtain ⟨L, e, hp, hk⟩ := h.canon lawK
  have hKs : ∀ p ∈ L, ∃ s, p.1 = .string s := by
    obtain ⟨es, clock, hb, F, hs, e'⟩ := h
    have fk := fit_keys F
    intro p hp
    rw [e] at e'
    injection e' with e'
    obtain ⟨v, hv⟩ := keys_perm (l' := L) (by rw [e']; exact (WideShapes.sorted_perm _).symm) fk p hp
    exact keyK_inv hv
  subst e
  exact pigeon L T (apart_of_rising hp) (fun p hp => by
    obtain ⟨s, hs⟩ := hKs p hp
    refine ⟨s, hT s ?_, hs⟩
    rw [has_eq, List.any_eq_true]
    exact ⟨p, hp, by rw [hs]; simp [Lit.sameKey]⟩)
section
variable {w : World} {R : RdE} {b : Nat} {f : List UInt8 → Option DU} {t e : TypeId}
theorem MpF.look (h : MpF w R b f) (ht : Tryd.prog.underlying t = some (.map 9 e)) {z : Value} (hz : (zeroValue e).run Tryd.prog w = .ok z w) {zd : DU} {zp : List MemPlace} (hzd : R z = some (zd, zp)) {s : ByteArray} (hs : s.size ≤ 281474976710656) :
    ∃ v ps, (Instr.lookup t (.map (some b)) (.string s) false).run Tryd.prog w = .ok v w ∧ R v = some ((f (bl s)).getD zd, ps) := by
  obtain ⟨D, h1, h2, h3⟩ := h
  obtain ⟨v, ps, hr, hv⟩ := h1.lookup lawK ht hz hzd (keyK hs)
  refine ⟨v, ps, hr, hv.trans ?_⟩
  cases q : f (bl s) with
  | none => rw [atKey_of_not_has (by rw [h2, q]; rfl)]; rfl
  | some d => rw [h3 _ d q]; rfl
theorem MpF.look_ok (h : MpF w R b f) (ht : Tryd.prog.underlying t = some (.map 9 e)) {z : Value} (hz : (zeroValue e).run Tryd.prog w = .ok z w) {zd : DU} {zp : List MemPlace} (hzd : R z = some (zd, zp)) {s : ByteArray} (hs : s.size ≤ 281474976710656) :
    ∃ v ps, (Instr.lookup t (.map (some b)) (.string s) true).run Tryd.prog w = .ok (.tuple #[v, .bool (f (bl s)).isSome]) w ∧ R v = some ((f (bl s)).getD zd, ps) := by
  obtain ⟨D, h1, h2, h3⟩ := h
  obtain ⟨v, ps, hr, hv⟩ := h1.look_ok lawK ht hz hzd (keyK hs)
  refine ⟨v, ps, by rw [hr, h2], hv.trans ?_⟩
  cases q : f (bl s) with
  | none => rw [atKey_of_not_has (by rw [h2, q]; rfl)]; rfl
  | some d => rw [h3 _ d q]; rfl
theorem MpF.store (h : MpF w R b f) (ht : Tryd.prog.underlying t = some (.map 9 e)) {T : List (List UInt8)} (hT : ∀ k, (f k).isSome = true → k ∈ T) (hl : T.length ≤ 281474976710656) {s : ByteArray} (hs : s.size ≤ 281474976710656) {val : Value} {d : DU} {ps : List MemPlace} (hv : R val = some (d, ps)) :
    ∃ w', (Instr.mapUpdate t (.map (some b)) (.string s) val).run Tryd.prog w = .ok () w' ∧ MpF w' R b (updF f (bl s) d) ∧ w.mapTurned w' b := by
  obtain ⟨D, h1, h2, h3⟩ := h
  have hb := own_bound h1 T (fun k hk => hT k (by rw [← h2, hk]))
  obtain ⟨w', hr, g1, g2⟩ := h1.store lawK ht (by unfold maxLen; omega) (keyK hs) hv
  refine ⟨w', hr, ⟨_, own_size g1, fun k => ?_, fun k d' hk z => ?_⟩, g2⟩
  · unfold updF
    by_cases q : k = bl s
    · subst q
      rw [has_put_same h1.isMap (lawK.key (keyK hs))]
      simp
    · rw [has_put_other (by intro e; injection e with e; exact q e), h2, if_neg q]
  · unfold updF at hk
    by_cases q : k = bl s
    · subst q
      rw [if_pos rfl] at hk
      injection hk with hk
      rw [atKey_put_same h1.isMap (lawK.key (keyK hs)), hk]
    · rw [if_neg q] at hk
      rw [atKey_put_other (by intro e; injection e with e; exact q e)]
      exact h3 k d' hk z
theorem MpF.drop (h : MpF w R b f) (ht : Tryd.prog.underlying t = some (.map 9 e)) {s : ByteArray} (hs : s.size ≤ 281474976710656) (ty : TypeId) :
    ∃ w', (Builtin.delete_ #[t, 9] ty #[.map (some b), .string s]).run Tryd.prog w = .ok (.tuple #[]) w' ∧ MpF w' R b (delF f (bl s)) ∧ w.mapTurned w' b := by
  obtain ⟨D, h1, h2, h3⟩ := h
  obtain ⟨w', hr, g1, g2⟩ := h1.drop lawK ht (keyK hs) ty
  refine ⟨w', hr, ⟨_, own_size g1, fun k => ?_, fun k d' hk z => ?_⟩, g2⟩
  · unfold delF
    by_cases q : k = bl s
    · subst q
      rw [has_del_same]
      simp
    · rw [has_del_other (by intro e; injection e with e; exact q e), h2, if_neg q]
  · unfold delF at hk
    by_cases q : k = bl s
    · subst q
      rw [if_pos rfl] at hk
      cases hk
    · rw [if_neg q] at hk
      rw [atKey_del_other (by intro e; injection e with e; exact q e)]
      exact h3 k d' hk z
end
/-- the same at the operation. -/
theorem wp_put_f (w : World) {o : Oper} {a : Act} {K : Act → World → Prop} {Q : Exit → Act → World → Prop} {R : RdE} {b : Nat} {f : List UInt8 → Option DU} (m x v : Operand) (t e : TypeId) (hop : o.op = Op.mapUpdate t m x v)
    (ht : Tryd.prog.underlying t = some (.map 9 e)) (hm : a.eval m = .map (some b)) (h : MpF w R b f) {T : List (List UInt8)} (hT : ∀ k, (f k).isSome = true → k ∈ T) (hl : T.length ≤ 281474976710656) {s : ByteArray} (hs : s.size ≤ 281474976710656) (hx : a.eval x = .string s)
    {val : Value} (hv : a.eval v = val) {d : DU} {ps : List MemPlace} (hval : R val = some (d, ps)) (hK : ∀ w', MpF w' R b (updF f (bl s) d) → w.mapTurned w' b → K (a.put o.dst undef) w') : o.wp Tryd.prog a w K Q := by
  obtain ⟨w', hrun, r1, r2⟩ := h.store ht hT hl hs hval
  unfold Oper.wp
  simp [execOp, hop, hm, hx, hv, hrun, Result.andThen]
  exact hK w' r1 r2
theorem wpList_put_f (w : World) {ops : Array Oper} {rest : List Oper} {o : Oper} {a : Act} {Q : Exit → Act → World → Prop} (hg : o.guard = none) {R : RdE} {b : Nat} {f : List UInt8 → Option DU} (m x v : Operand) (t e : TypeId) (hop : o.op = Op.mapUpdate t m x v)
    (ht : Tryd.prog.underlying t = some (.map 9 e)) (hm : a.eval m = .map (some b)) (h : MpF w R b f) {T : List (List UInt8)} (hT : ∀ k, (f k).isSome = true → k ∈ T) (hl : T.length ≤ 281474976710656) {s : ByteArray} (hs : s.size ≤ 281474976710656) (hx : a.eval x = .string s)
    {val : Value} (hv : a.eval v = val) {d : DU} {ps : List MemPlace} (hval : R val = some (d, ps)) (hK : ∀ w', MpF w' R b (updF f (bl s) d) → w.mapTurned w' b → wpList Tryd.prog ops Q rest (a.put o.dst undef) w') : wpList Tryd.prog ops Q (o :: rest) a w :=
  wpList_plain hg fun _ hK' => wp_put_f w m x v t e hop ht hm h hT hl hs hx hv hval fun w' r1 r2 => hK' _ _ (hK w' r1 r2)
theorem wpList_del_f (w : World) {ops : Array Oper} {rest : List Oper} {o : Oper} {a : Act} {Q : Exit → Act → World → Prop} (hg : o.guard = none) {R : RdE} {b : Nat} {f : List UInt8 → Option DU} (m x : Operand) (t e : TypeId) (hop : o.op = Op.call { callee := Callee.builtin Builtin.delete, args := #[m, x], argTypes := #[t, 9] })
    (ht : Tryd.prog.underlying t = some (.map 9 e)) (hm : a.eval m = .map (some b)) (h : MpF w R b f) {s : ByteArray} (hs : s.size ≤ 281474976710656) (hx : a.eval x = .string s)
    (hK : ∀ w', MpF w' R b (delF f (bl s)) → w.mapTurned w' b → wpList Tryd.prog ops Q rest (a.put o.dst (.tuple #[])) w') : wpList Tryd.prog ops Q (o :: rest) a w := by
  refine wpList_plain hg fun K' hK' => ?_
  obtain ⟨w', hrun, r1, r2⟩ := h.drop ht hs o.type
  unfold Oper.wp
  simp [execOp, hop, resolve, invoke, builtin, hm, hx, hrun, Result.andThen]
  exact hK' _ _ (hK w' r1 r2)
/-- how a value, how a pointer reads. -/
def valR : RdE := fun v => match v with
  | .agg cs => (match cs.toList with
    | [.int .i64 k, .int .i64 n, .string t] => some (.agg [.lit (.int .i64 k), .lit (.int .i64 n), .lit (.string (bl t))], [])
    | _ => none)
  | _ => none
def vD (x : Vl) : DU := .agg [.lit (.int .i64 x.kd), .lit (.int .i64 x.n), .lit (.string (bl x.tx))]
theorem valR_mk (x : Vl) : valR x.v = some (vD x, []) := rfl
theorem valR_inv {v : Value} {x : Vl} {ps : List MemPlace} (h : valR v = some (vD x, ps)) : v = x.v := by
  unfold valR at h
  split at h
  · rename_i cs
    split at h
    · rename_i k n t q
      simp only [vD, Option.some.injEq, Prod.mk.injEq, DataW.agg.injEq, List.cons.injEq, DataW.lit.injEq, Lit.int.injEq, Lit.string.injEq, true_and, and_true] at h
      obtain ⟨⟨rfl, rfl, h⟩, _⟩ := h
      have := bl_inj h
      subst this
      have e : cs = #[.int .i64 x.kd, .int .i64 x.n, .string x.tx] := by
        apply Array.toList_inj.1
        rw [q]
      rw [e]
      rfl
    · cases h
  · cases h
def ptrR : RdE := fun v => match v with
  | .pointer none => some (.lit (.int .i64 (-1)), [])
  | .pointer (some ⟨b, 0, none⟩) => some (.lit (.int .i64 (b : Nat)), [])
  | _ => none
def pD (b : Nat) : DU := .lit (.int .i64 (b : Nat))
theorem ptrR_mk (b : Nat) : ptrR (.pointer (some ⟨b, 0, none⟩)) = some (pD b, []) := rfl
theorem ptrR_inv {v : Value} {b : Nat} {ps : List MemPlace} (h : ptrR v = some (pD b, ps)) : v = .pointer (some ⟨b, 0, none⟩) := by
  unfold ptrR at h
  split at h
  · simp only [pD, Option.some.injEq, Prod.mk.injEq, DataW.lit.injEq, Lit.int.injEq, true_and] at h
    omega
  · simp only [pD, Option.some.injEq, Prod.mk.injEq, DataW.lit.injEq, Lit.int.injEq, true_and] at h
    obtain ⟨h, _⟩ := h
    rw [Int.ofNat_inj.1 h]
  · cases h
theorem ptrR_nil {v : Value} {ps : List MemPlace} (h : ptrR v = some (.lit (.int .i64 (-1)), ps)) : v = .pointer none := by
  unfold ptrR at h
  split at h
  · rfl
  · simp only [Option.some.injEq, Prod.mk.injEq, DataW.lit.injEq, Lit.int.injEq, true_and] at h
    omega
  · cases h
end Go.Proofs.YtlijplbaefaeaaaDoor
