/- Own text. A table of package vfs in memory ('Tab'), and what its calls do to it: New, Len, Has, Read, put, Write, Remove. -/
import Derived.Test.YtoipggaepkedmaaVPlain
import Derived.Test.YtoipggaepkedmaaShelf
import Derived.WalkKit
import Derived.WalkSmall
import Derived.WalkLawsBesides
import Derived.Maps.RangeWalk
import Derived.Laws.Rows
import Derived.Maps.AppendAt
namespace Go.Proofs.Ytoipggaepkedmaa
open Go.RowKit Go.Maps
set_option linter.unusedVariables false

theorem law : Keyed Try.prog 9 := string_keyed Try.underlying9
theorem keyS {s : ByteArray} (hs : s.size ≤ 281474976710656) : keyOf Try.prog 9 (.string s) = some (.string s.data.toList) := by
  have : s.size ≤ maxLen := by unfold maxLen; omega
  simp [keyOf, Try.underlying9, mapKey, this]

/-- how a file's bytes in the map read. -/
def cElem : Value → Option (DataW Unit × List MemPlace)
  | .agg cs => match cs.toList with
    | [.string s] => if s.size ≤ maxLen then some (.lit (.string s.data.toList), []) else none
    | _ => none
  | _ => none
theorem cElem_mk {s : ByteArray} (hs : s.size ≤ maxLen) : cElem (.agg #[.string s]) = some (.lit (.string s.data.toList), []) := by simp [cElem, hs]
theorem cElem_inv {v : Value} {z : DataW Unit × List MemPlace} (h : cElem v = some z) : ∃ s, v = .agg #[.string s] ∧ z = (.lit (.string s.data.toList), []) ∧ s.size ≤ maxLen := by
  unfold cElem at h
  split at h
  · rename_i cs
    split at h
    · rename_i s hs
      split at h
      · rename_i hl
        cases h
        exact ⟨s, by rw [show cs = #[.string s] from Array.toList_inj.1 hs], rfl, hl⟩
      · cases h
    · cases h
  · cases h

theorem zeroC (w : World) : (zeroValue 61).run Try.prog w = .ok (.agg #[.string ByteArray.empty]) w := by kernel_rfl

/-- w' is w but for the blocks of S, and for new ones. -/
structure Off (S : Nat → Prop) (w w' : World) : Prop where
  os : w'.os = w.os
  tape : w'.tape = w.tape
  output : w'.output = w.output
  size : w.heap.size ≤ w'.heap.size
  block : ∀ k, k < w.heap.size → ¬ S k → w'.heap[k]? = w.heap[k]?

theorem Off.refl (S : Nat → Prop) (w : World) : Off S w w := ⟨rfl, rfl, rfl, Nat.le_refl _, fun _ _ _ => rfl⟩
theorem Off.trans {S T : Nat → Prop} {a b c : World} (h : Off S a b) (k : Off T b c) : Off (fun i => S i ∨ T i) a c :=
  ⟨k.os.trans h.os, k.tape.trans h.tape, k.output.trans h.output, Nat.le_trans h.size k.size, fun i hi hn =>
    (k.block i (Nat.lt_of_lt_of_le hi h.size) (fun e => hn (.inr e))).trans (h.block i hi (fun e => hn (.inl e)))⟩
/-- blocks that are new since a may be in T. -/
theorem Off.andThen {S T : Nat → Prop} {a b c : World} (h : Off S a b) (k : Off T b c) (hT : ∀ i, T i → S i ∨ a.heap.size ≤ i) : Off S a c :=
  ⟨k.os.trans h.os, k.tape.trans h.tape, k.output.trans h.output, Nat.le_trans h.size k.size, fun i hi hn =>
    (k.block i (Nat.lt_of_lt_of_le hi h.size) (fun e => by
      rcases hT i e with e | e
      · exact hn e
      · omega)).trans (h.block i hi hn)⟩
theorem Off.mono {S T : Nat → Prop} {a b : World} (h : Off S a b) (hT : ∀ i, S i → T i) : Off T a b :=
  ⟨h.os, h.tape, h.output, h.size, fun i hi hn => h.block i hi (fun e => hn (hT i e))⟩
theorem Off.of_below {S : Nat → Prop} {a b : World} (h : Below a.heap.size a b) : Off S a b := ⟨h.os, h.tape, h.output, h.size, fun i hi _ => h.block i hi⟩
theorem Off.of_grown {S : Nat → Prop} {a b : World} {row : Option Nat} (h : a.grownBy b row) (hr : ∀ j, row = some j → S j) : Off S a b :=
  ⟨h.os, h.tape, h.output, h.size, fun i hi hn => h.block i hi (fun e => hn (hr i e.symm))⟩
theorem Off.below {S : Nat → Prop} {a b : World} (h : Off S a b) {B : Nat} (hB : B ≤ a.heap.size) (hS : ∀ i, S i → B ≤ i) : Below B a b :=
  ⟨h.os, h.tape, h.output, h.size, fun k hk => h.block k (by omega) (fun e => by have := hS k e; omega)⟩
theorem Off.drew {S : Nat → Prop} {a b : World} (h : Off S a b) : Off S a b.drew := ⟨h.os, h.tape, h.output, h.size, h.block⟩
theorem Off.alloc {S : Nat → Prop} {a b : World} (h : Off S a b) (o : Obj) : Off S a (b.alloc o) :=
  h.andThen (Off.of_below (S := S) ((Below.refl _ b).alloc (Nat.le_refl _) o)) (fun i hi => .inl hi)
theorem Off.setCell {S : Nat → Prop} {a b : World} (h : Off S a b) {p : Addr} (hp : S p.block ∨ a.heap.size ≤ p.block) (u : Value) : Off S a (b.setCell p u) :=
  h.andThen (T := fun i => i = p.block) ⟨rfl, rfl, rfl, by simp [World.setCell], fun k hk hn => Below.heap_setCell _ _ _ _ hn⟩ (fun i hi => hi ▸ hp)
theorem belOff {S : Nat → Prop} {B : Nat} {a w w' : World} (h : Below B a w) (k : Off S w w') (hB : B ≤ w.heap.size) (hS : ∀ i, S i → B ≤ i) : Below B a w' :=
  h.trans (k.below hB hS)

theorem Off.grow {S : Nat → Prop} {a b : World} (h : Off S a b) (hS : ∀ i, ¬ S i) : a.grownBy b none := ⟨h.os, h.tape, h.output, h.size, fun k hk _ => h.block k hk (hS k)⟩
theorem below_grow {a b : World} (h : Below a.heap.size a b) : a.grownBy b none := ⟨h.os, h.tape, h.output, h.size, fun k hk _ => h.block k hk⟩
theorem own_below {w w' : World} {P : Program} {k : TypeId} {R : Value → Option (DataW Unit × List MemPlace)} {b n : Nat} {D : DataW Unit} (h : w.ownsMap P k R b n D) (hb : Below w.heap.size w w') : w'.ownsMap P k R b n D := h.kept (below_grow hb) (by simp)

theorem own_tight {w : World} {P : Program} {k : TypeId} {R : Value → Option (DataW Unit × List MemPlace)} {b n : Nat} {L : Fls} (h : w.ownsMap P k R b n (mapD L)) : w.ownsMap P k R b L.length (mapD L) := by
  obtain ⟨es, clock, hb, F, _, hD⟩ := h
  refine ⟨es, clock, hb, F, ?_, hD⟩
  have e := congrArg Maps.size hD
  rw [mapD_size] at e
  rw [e, Maps.size_eq, length_sorted]
  simp

/-- A table in memory: its own block, the map's, and the files. -/
structure Tab (w : World) (tb mb : Nat) (L : Fls) : Prop where
  blk : w.heap[tb]? = some (.cells #[.map (some mb)] 54)
  own : w.ownsMap Try.prog 9 cElem mb L.length (mapD L)
  ris : Ris L
  sz : ∀ x ∈ L, x.1.size ≤ 281474976710656 ∧ x.2.size ≤ 65536

section
variable {w w' : World} {tb mb : Nat} {L : Fls}
theorem Tab.cell (h : Tab w tb mb L) : w.cell? ⟨tb, 0, none⟩ = some (.map (some mb)) := by rw [cell_of_row w tb 0 _ _ _ h.blk]; rfl
theorem Tab.frozen (h : Tab w tb mb L) : w.frozen? ⟨tb, 0, none⟩ = false := frozen_of_row w tb 0 _ _ h.blk
theorem Tab.ltT (h : Tab w tb mb L) : tb < w.heap.size := (Array.getElem?_eq_some_iff.1 h.blk).1
theorem Tab.ltM (h : Tab w tb mb L) : mb < w.heap.size := h.own.lt
theorem Tab.ne (h : Tab w tb mb L) : tb ≠ mb := by
  intro e
  obtain ⟨es, clock, hb, _⟩ := h.own
  have := h.blk
  rw [e, hb] at this
  cases this
theorem Tab.off {S : Nat → Prop} (h : Tab w tb mb L) (k : Off S w w') (h1 : ¬ S tb) (h2 : ¬ S mb) : Tab w' tb mb L := by
  refine ⟨(k.block tb h.ltT h1).trans h.blk, ?_, h.ris, h.sz⟩
  obtain ⟨es, clock, hb, r⟩ := h.own
  exact ⟨es, clock, (k.block mb h.ltM h2).trans hb, r⟩
theorem Tab.below {B : Nat} (h : Tab w tb mb L) (k : Below B w w') (h1 : tb < B) (h2 : mb < B) : Tab w' tb mb L := by
  refine ⟨(k.block tb h1).trans h.blk, ?_, h.ris, h.sz⟩
  obtain ⟨es, clock, hb, r⟩ := h.own
  exact ⟨es, clock, (k.block mb h2).trans hb, r⟩
theorem Tab.get_size (h : Tab w tb mb L) (p : ByteArray) : (getP p L).size ≤ 65536 := by
  unfold getP
  split
  · rename_i x hx
    exact (h.sz x (List.mem_of_find?_eq_some hx)).2
  · exact Nat.zero_le _
theorem look_run (h : w.ownsMap Try.prog 9 cElem mb L.length (mapD L)) {p : ByteArray} (hp : p.size ≤ 281474976710656) :
    (Instr.lookup 52 (.map (some mb)) (.string p) false).run Try.prog w = .ok (.agg #[.string (getP p L)]) w := by
  obtain ⟨v, ps, hrun, hv⟩ := h.lookup law Try.underlying52 (zeroC w) (cElem_mk (s := ByteArray.empty) (by unfold maxLen; decide)) (keyS hp)
  obtain ⟨s, rfl, hz, _⟩ := cElem_inv hv
  have e : s = getP p L := by
    have := congrArg Prod.fst hz
    have e0 : (DataW.lit (.string ByteArray.empty.data.toList) : DataW Unit) = .lit (.string []) := rfl
    simp only [e0, mapD_at] at this
    exact ByteArray.ext (Array.toList_inj.1 (by injection this with h1; injection h1 with h2; exact h2.symm))
  rw [hrun, e]
theorem look_ok_run (h : w.ownsMap Try.prog 9 cElem mb L.length (mapD L)) {p : ByteArray} (hp : p.size ≤ 281474976710656) :
    (Instr.lookup 52 (.map (some mb)) (.string p) true).run Try.prog w = .ok (.tuple #[.agg #[.string (getP p L)], .bool (hasP p L)]) w := by
  obtain ⟨v, ps, hrun, hv⟩ := h.look_ok law Try.underlying52 (zeroC w) (cElem_mk (s := ByteArray.empty) (by unfold maxLen; decide)) (keyS hp)
  obtain ⟨s, rfl, hz, _⟩ := cElem_inv hv
  have e : s = getP p L := by
    have := congrArg Prod.fst hz
    have e0 : (DataW.lit (.string ByteArray.empty.data.toList) : DataW Unit) = .lit (.string []) := rfl
    simp only [e0, mapD_at] at this
    exact ByteArray.ext (Array.toList_inj.1 (by injection this with h1; injection h1 with h2; exact h2.symm))
  rw [hrun, e, mapD_has]
end

theorem clone_any (s : ByteArray) (w : World) (hs : s.size ≤ 281474976710656) : Calls Try.prog 28 #[.string s] w fun e w' => e = .returned (.string s) ∧ Below w.heap.size w w' := by
  go_enter Try.func28, Try.ntmps28
  go_wp2_with (go_at_call 36; refine (Try.stringslite_Clone s _ hs).mono ?_; rintro e w' ⟨rfl, hb⟩)
  go_ret
  exact ⟨rfl, hb⟩

theorem new_any (w : World) : Calls Try.prog 9 #[] w fun e w' => e = .returned (.pointer (some ⟨w.heap.size + 1, 0, none⟩)) ∧ Tab w' (w.heap.size + 1) w.heap.size [] ∧ Below w.heap.size w w' := by
  have hmm := @run_makeMap Try.prog
  go_enter Try.func9, Try.ntmps9
  go_wp2
  go_ret
  refine ⟨by simp, ⟨?_, ?_, by simp [Ris], by simp⟩, ?_⟩
  · have := heap_alloc_new (w.alloc (.map #[] 0)) (.cells #[.map (some w.heap.size)] 54)
    simpa using this
  · exact (World.ownsMap_made w Try.prog 9 cElem).alloc _
  · exact ((Below.refl _ w).alloc (Nat.le_refl _) _).alloc (by simp) _

theorem len_any (w : World) (tb mb : Nat) (L : Fls) (h : Tab w tb mb L) : Calls Try.prog 11 #[.pointer (some ⟨tb, 0, none⟩)] w fun e w' => e = .returned (.int .i64 L.length) ∧ w' = w := by
  have h0 := h.cell
  have h1 : ∀ ty, (Builtin.len_ #[52] ty #[.map (some mb)]).run Try.prog w = .ok (.int .i64 L.length) w := fun ty => by
    have := h.own.len Try.underlying52 ty
    rw [mapD_size] at this
    exact this
  go_enter Try.func11, Try.ntmps11
  go_wp2
  go_ret
  exact ⟨rfl, rfl⟩

theorem has_any (w : World) (tb mb : Nat) (L : Fls) (p : ByteArray) (h : Tab w tb mb L) (hp : p.size ≤ 281474976710656) : Calls Try.prog 19 #[.pointer (some ⟨tb, 0, none⟩), .string p] w fun e w' => e = .returned (.bool (hasP p L)) ∧ Below w.heap.size w w' := by
  have h0 := h.cell
  have h1 := look_ok_run h.own hp
  generalize hasP p L = hh at *
  generalize getP p L = gg at *
  go_enter Try.func19, Try.ntmps19
  go_wp2
  go_ret
  exact ⟨rfl, by first | exact ((Below.refl _ w).alloc (Nat.le_refl _) _) | exact ((Below.refl _ w).alloc (Nat.le_refl _) _).setCell (by simp) _⟩

theorem read_any (w : World) (tb mb : Nat) (L : Fls) (p : ByteArray) (h : Tab w tb mb L) (hp : p.size ≤ 281474976710656) : Calls Try.prog 21 #[.pointer (some ⟨tb, 0, none⟩), .string p] w fun e w' => e = .returned (.tuple #[.string (getP p L), .bool (hasP p L)]) ∧ Below w.heap.size w w' := by
  have h0 := h.cell
  have h1 := look_ok_run h.own hp
  have h2 := h.get_size p
  generalize hasP p L = hh at *
  generalize getP p L = gg at *
  go_enter Try.func21, Try.ntmps21
  go_wp2_with (go_at_call 28; refine (clone_any _ _ (by omega)).mono ?_; rintro e W1 ⟨rfl, b1⟩)
  go_ret2
  exact ⟨rfl, ((Below.refl _ w).alloc (Nat.le_refl _) _).trans (b1.mono (by simp))⟩

/-- put lays a file into the map. -/
theorem put_any (w : World) (mb : Nat) (L : Fls) (p b : ByteArray) (h : w.ownsMap Try.prog 9 cElem mb L.length (mapD L)) (hr : Ris L) (hL : L.length < 4611686018427387904) (hp : p.size ≤ 281474976710656) (hb : b.size ≤ 281474976710656) :
    Calls Try.prog 29 #[.map (some mb), .string p, .string b] w fun e w' => e = .returned (.tuple #[]) ∧ w'.ownsMap Try.prog 9 cElem mb (ins p b L).length (mapD (ins p b L)) ∧ Off (fun k => k = mb) w w' := by
  have hlt := h.lt
  have hk := keyS hp
  have he : cElem (.agg #[.string b]) = some (.lit (.string b.data.toList), []) := cElem_mk (by unfold maxLen; omega)
  have tok1 : True := trivial
  go_enter Try.func29, Try.ntmps29
  go_wp2_with (first
    | (go_at_call 28; have _t := tok1; refine (clone_any p _ hp).mono ?_; rintro e W1 ⟨rfl, b1⟩; clear tok1)
    | (go_at_call 28; refine (clone_any b _ hb).mono ?_; rintro e W2 ⟨rfl, b2⟩)
    | (at_mapUpdate; refine wpList_mapUpdate_own _ rfl _ _ _ 52 rfl 9 61 law Try.underlying52 cElem mb L.length (mapD L) rfl ?own ?room _ _ _ rfl rfl hk _ [] he ?_; rotate_left 1; (case own => exact own_below (own_below h b1) b2); (case room => unfold maxLen; omega); intro W3 h3 g3))
  go_end0
  refine ⟨rfl, own_tight (by rw [mapD_put p b hr] at h3; exact h3), ?_⟩
  exact ((Off.of_below b1).andThen (S := fun k => k = mb) (Off.of_below b2) (fun i hi => .inl hi)).andThen (Off.of_grown g3 (fun j hj => by cases hj; rfl)) (fun i hi => .inl hi)

/-- what Write answers, and the files behind it. -/
def wrE (b : ByteArray) : Int := if b.size ≤ 65536 then 0 else 20
def wrL (p b : ByteArray) (L : Fls) : Fls := if b.size ≤ 65536 then ins p b L else L

theorem Tab.ins_mk {w w' : World} {tb mb : Nat} {L : Fls} {p b : ByteArray} (h : Tab w tb mb L) (k : Off (fun i => i = mb) w w') (ho : w'.ownsMap Try.prog 9 cElem mb (ins p b L).length (mapD (ins p b L))) (hp : p.size ≤ 281474976710656) (hb : b.size ≤ 65536) : Tab w' tb mb (ins p b L) := by
  refine ⟨(k.block tb h.ltT h.ne).trans h.blk, ho, h.ris.ins, fun x hx => ?_⟩
  rcases mem_ins hx with e | hx
  · subst e; exact ⟨hp, hb⟩
  · exact h.sz x hx

theorem eql_map_nil (W : World) (m : Nat) : (binOp .eql 52 (.map (some m)) (.map none)).run Try.prog W = .ok (.bool false) W := by
  have e : (Op.equal 52 (.map (some m)) (.map none)).run Try.prog W = .ok false W := run_equal_map_nil W 52 9 61 (some m) Try.underlying52
  simp only [binOp, Sem.run_bind, e, Result.andThen]
  rfl

theorem write_any (w : World) (tb mb : Nat) (L : Fls) (p b : ByteArray) (h : Tab w tb mb L) (hL : L.length < 4611686018427387904) (hp : p.size ≤ 281474976710656) (hb : b.size ≤ 281474976710656) :
    Calls Try.prog 15 #[.pointer (some ⟨tb, 0, none⟩), .string p, .string b] w fun e w' => e = .returned (.int .i64 (wrE b)) ∧ Tab w' tb mb (wrL p b L) ∧ Off (fun k => k = mb) w w' := by
  have h0 := h.cell
  by_cases hs : b.size ≤ 65536
  · have e1 : wrE b = 0 := by unfold wrE; rw [if_pos hs]
    have e2 : wrL p b L = ins p b L := by unfold wrL; rw [if_pos hs]
    rw [e1, e2]
    clear e1 e2
    have hq := fun W => eql_map_nil W mb
    go_enter Try.func15, Try.ntmps15
    go_wp2_with (go_at_call 29; refine (put_any _ mb L p b h.own h.ris hL hp hb).mono ?_; rintro e W1 ⟨rfl, o1, k1⟩)
    go_ret
    exact ⟨rfl, h.ins_mk k1 o1 hp hs, k1⟩
  · have e1 : wrE b = 20 := by unfold wrE; rw [if_neg hs]
    have e2 : wrL p b L = L := by unfold wrL; rw [if_neg hs]
    rw [e1, e2]
    clear e1 e2
    go_enter Try.func15, Try.ntmps15
    go_wp2
    go_ret
    exact ⟨rfl, h, Off.refl _ _⟩

theorem remove_any (w : World) (tb mb : Nat) (L : Fls) (p : ByteArray) (h : Tab w tb mb L) (hp : p.size ≤ 281474976710656) :
    Calls Try.prog 20 #[.pointer (some ⟨tb, 0, none⟩), .string p] w fun e w' => e = .returned (.bool (hasP p L)) ∧ Tab w' tb mb (del p L) ∧ Off (fun k => k = mb) w w' := by
  have h0 := h.cell
  have hlt := h.ltT
  have hk := keyS hp
  cases hh : hasP p L
  · have e2 : del p L = L := del_of_low fun x hx e => by
      have := (List.any_eq_false.1 hh) x hx
      simp [e, eqB_self] at this
    rw [e2]
    go_enter Try.func20, Try.ntmps20
    go_wp2_with (go_at_call 19; refine (has_any _ tb mb L p h hp).mono ?_; rw [hh]; rintro e W1 ⟨rfl, b1⟩)
    go_ret
    exact ⟨rfl, h.below b1 h.ltT h.ltM, Off.of_below b1⟩
  · go_enter Try.func20, Try.ntmps20
    go_wp2_with (first
      | (go_at_call 19; refine (has_any _ tb mb L p h hp).mono ?_; rw [hh]; rintro e W1 ⟨rfl, b1⟩; have h1 := h.below b1 h.ltT h.ltM; have c1 := h1.cell)
      | (at_delete; refine wpList_delete_own _ rfl _ _ 52 9 rfl 61 law Try.underlying52 cElem mb L.length (mapD L) rfl h1.own _ _ rfl hk ?_; intro W2 o2 t2))
    go_ret
    have k2 : Off (fun k => k = mb) W1 W2 := Off.of_grown t2.grown (fun j hj => by cases hj; rfl)
    rw [mapD_del] at o2
    exact ⟨rfl, ⟨(k2.block tb h1.ltT h1.ne).trans h1.blk, own_tight o2, h.ris.del, fun x hx => h.sz x (List.mem_filter.1 hx).1⟩, (Off.of_below b1).andThen k2 (fun i hi => .inl hi)⟩

end Go.Proofs.Ytoipggaepkedmaa
