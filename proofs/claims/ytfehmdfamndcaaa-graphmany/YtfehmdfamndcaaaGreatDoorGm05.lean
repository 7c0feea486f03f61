/- Own text. A table of package vfs in memory ('Tab'), and what its calls do to it: New, Len, Has, Read, put, Write, Remove. Paths as rows of bytes: the parts of a text, the path that it is, what stands ahead of the last slash. -/
import Derived.Test.YtfehmdfamndcaaaGreatDoorGm04
import Derived.Test.YtfehmdfamndcaaaGreatDoorShelf
import Derived.WalkKit
import Derived.WalkSmall
import Derived.WalkLawsBesides
import Derived.Maps.RangeWalk
import Derived.Laws.Rows
import Derived.Maps.AppendAt
import Derived.Test.YtfehmdfamndcaaaGreatDoorProg
namespace Go.Proofs.YtfehmdfamndcaaaGreatDoor.Vf
open Go.RowKit Go.Maps
set_option linter.unusedVariables false

set_option maxRecDepth 100000 in
theorem law : Keyed Tryz.prog 9 := string_keyed Tryz.underlying9
set_option maxRecDepth 100000 in
theorem keyS {s : ByteArray} (hs : s.size ≤ 281474976710656) : keyOf Tryz.prog 9 (.string s) = some (.string s.data.toList) := by
  have : s.size ≤ maxLen := by unfold maxLen; omega
  simp [keyOf, Tryz.underlying9, mapKey, this]

/-- how a file's bytes in the map read. -/
def cElem : Value → Option (DataW Unit × List MemPlace)
  | .agg cs => match cs.toList with
    | [.string s] => if s.size ≤ maxLen then some (.lit (.string s.data.toList), []) else none
    | _ => none
  | _ => none
set_option maxRecDepth 100000 in
theorem cElem_mk {s : ByteArray} (hs : s.size ≤ maxLen) : cElem (.agg #[.string s]) = some (.lit (.string s.data.toList), []) := by simp [cElem, hs]
set_option maxRecDepth 100000 in
theorem cElem_inv {v : Value} {z : DataW Unit × List MemPlace} (h : cElem v = some z) : ∃ s, v = .agg #[.string s] ∧ z = (.lit (.string s.data.toList), []) ∧ s.size ≤ maxLen := by
  unfold cElem at h
  split at h
  · rename_i cs
    split at h
    · rename_i s hs
      split at h
      · rename_i hl
        cases h
        exact ⟨s, by rw [show cs = #[.string s] from Array.toList_inj.1 hs], rfl, hl⟩
      · cases h
    · cases h
  · cases h

set_option maxRecDepth 100000 in
theorem zeroC (w : World) : (zeroValue 82).run Tryz.prog w = .ok (.agg #[.string ByteArray.empty]) w := by kernel_rfl

/-- w' is w but for the blocks of S, and for new ones. -/
structure Off (S : Nat → Prop) (w w' : World) : Prop where
  os : w'.os = w.os
  tape : w'.tape = w.tape
  output : w'.output = w.output
  size : w.heap.size ≤ w'.heap.size
  block : ∀ k, k < w.heap.size → ¬ S k → w'.heap[k]? = w.heap[k]?

set_option maxRecDepth 100000 in
theorem Off.refl (S : Nat → Prop) (w : World) : Off S w w := ⟨rfl, rfl, rfl, Nat.le_refl _, fun _ _ _ => rfl⟩
set_option maxRecDepth 100000 in
theorem Off.trans {S T : Nat → Prop} {a b c : World} (h : Off S a b) (k : Off T b c) : Off (fun i => S i ∨ T i) a c :=
  ⟨k.os.trans h.os, k.tape.trans h.tape, k.output.trans h.output, Nat.le_trans h.size k.size, fun i hi hn =>
    (k.block i (Nat.lt_of_lt_of_le hi h.size) (fun e => hn (.inr e))).trans (h.block i hi (fun e => hn (.inl e)))⟩
/-- blocks that are new since a may be in T. -/
theorem Off.andThen {S T : Nat → Prop} {a b c : World} (h : Off S a b) (k : Off T b c) (hT : ∀ i, T i → S i ∨ a.heap.size ≤ i) : Off S a c :=
  ⟨k.os.trans h.os, k.tape.trans h.tape, k.output.trans h.output, Nat.le_trans h.size k.size, fun i hi hn =>
    (k.block i (Nat.lt_of_lt_of_le hi h.size) (fun e => by
      rcases hT i e with e | e
      · exact hn e
      · omega)).trans (h.block i hi hn)⟩
set_option maxRecDepth 100000 in
theorem Off.mono {S T : Nat → Prop} {a b : World} (h : Off S a b) (hT : ∀ i, S i → T i) : Off T a b :=
  ⟨h.os, h.tape, h.output, h.size, fun i hi hn => h.block i hi (fun e => hn (hT i e))⟩
set_option maxRecDepth 100000 in
theorem Off.of_below {S : Nat → Prop} {a b : World} (h : Below a.heap.size a b) : Off S a b := ⟨h.os, h.tape, h.output, h.size, fun i hi _ => h.block i hi⟩
set_option maxRecDepth 100000 in
theorem Off.of_grown {S : Nat → Prop} {a b : World} {row : Option Nat} (h : a.grownBy b row) (hr : ∀ j, row = some j → S j) : Off S a b :=
  ⟨h.os, h.tape, h.output, h.size, fun i hi hn => h.block i hi (fun e => hn (hr i e.symm))⟩
set_option maxRecDepth 100000 in
theorem Off.below {S : Nat → Prop} {a b : World} (h : Off S a b) {B : Nat} (hB : B ≤ a.heap.size) (hS : ∀ i, S i → B ≤ i) : Below B a b :=
  ⟨h.os, h.tape, h.output, h.size, fun k hk => h.block k (by omega) (fun e => by have := hS k e; omega)⟩
set_option maxRecDepth 100000 in
theorem Off.drew {S : Nat → Prop} {a b : World} (h : Off S a b) : Off S a b.drew := ⟨h.os, h.tape, h.output, h.size, h.block⟩
set_option maxRecDepth 100000 in
theorem Off.alloc {S : Nat → Prop} {a b : World} (h : Off S a b) (o : Obj) : Off S a (b.alloc o) :=
  h.andThen (Off.of_below (S := S) ((Below.refl _ b).alloc (Nat.le_refl _) o)) (fun i hi => .inl hi)
set_option maxRecDepth 100000 in
theorem Off.setCell {S : Nat → Prop} {a b : World} (h : Off S a b) {p : Addr} (hp : S p.block ∨ a.heap.size ≤ p.block) (u : Value) : Off S a (b.setCell p u) :=
  h.andThen (T := fun i => i = p.block) ⟨rfl, rfl, rfl, by simp [World.setCell], fun k hk hn => Below.heap_setCell _ _ _ _ hn⟩ (fun i hi => hi ▸ hp)
set_option maxRecDepth 100000 in
theorem belOff {S : Nat → Prop} {B : Nat} {a w w' : World} (h : Below B a w) (k : Off S w w') (hB : B ≤ w.heap.size) (hS : ∀ i, S i → B ≤ i) : Below B a w' :=
  h.trans (k.below hB hS)

set_option maxRecDepth 100000 in
theorem Off.grow {S : Nat → Prop} {a b : World} (h : Off S a b) (hS : ∀ i, ¬ S i) : a.grownBy b none := ⟨h.os, h.tape, h.output, h.size, fun k hk _ => h.block k hk (hS k)⟩
set_option maxRecDepth 100000 in
theorem below_grow {a b : World} (h : Below a.heap.size a b) : a.grownBy b none := ⟨h.os, h.tape, h.output, h.size, fun k hk _ => h.block k hk⟩
set_option maxRecDepth 100000 in
theorem own_below {w w' : World} {P : Program} {k : TypeId} {R : Value → Option (DataW Unit × List MemPlace)} {b n : Nat} {D : DataW Unit} (h : w.ownsMap P k R b n D) (hb : Below w.heap.size w w') : w'.ownsMap P k R b n D := h.kept (below_grow hb) (by simp)

set_option maxRecDepth 100000 in
theorem own_tight {w : World} {P : Program} {k : TypeId} {R : Value → Option (DataW Unit × List MemPlace)} {b n : Nat} {L : Fls} (h : w.ownsMap P k R b n (mapD L)) : w.ownsMap P k R b L.length (mapD L) := by
  obtain ⟨es, clock, hb, F, _, hD⟩ := h
  refine ⟨es, clock, hb, F, ?_, hD⟩
  have e := congrArg Maps.size hD
  rw [mapD_size] at e
  rw [e, Maps.size_eq, length_sorted]
  simp

/-- A table in memory: its own block, the map's, and the files. -/
structure Tab (w : World) (tb mb : Nat) (L : Fls) : Prop where
  blk : w.heap[tb]? = some (.cells #[.map (some mb)] 70)
  own : w.ownsMap Tryz.prog 9 cElem mb L.length (mapD L)
  ris : Ris L
  sz : ∀ x ∈ L, x.1.size ≤ 281474976710656 ∧ x.2.size ≤ 65536

section
variable {w w' : World} {tb mb : Nat} {L : Fls}
set_option maxRecDepth 100000 in
theorem Tab.cell (h : Tab w tb mb L) : w.cell? ⟨tb, 0, none⟩ = some (.map (some mb)) := by rw [cell_of_row w tb 0 _ _ _ h.blk]; rfl
set_option maxRecDepth 100000 in
theorem Tab.frozen (h : Tab w tb mb L) : w.frozen? ⟨tb, 0, none⟩ = false := frozen_of_row w tb 0 _ _ h.blk
set_option maxRecDepth 100000 in
theorem Tab.ltT (h : Tab w tb mb L) : tb < w.heap.size := (Array.getElem?_eq_some_iff.1 h.blk).1
set_option maxRecDepth 100000 in
theorem Tab.ltM (h : Tab w tb mb L) : mb < w.heap.size := h.own.lt
set_option maxRecDepth 100000 in
theorem Tab.ne (h : Tab w tb mb L) : tb ≠ mb := by
  intro e
  obtain ⟨es, clock, hb, _⟩ := h.own
  have := h.blk
  rw [e, hb] at this
  cases this
set_option maxRecDepth 100000 in
theorem Tab.off {S : Nat → Prop} (h : Tab w tb mb L) (k : Off S w w') (h1 : ¬ S tb) (h2 : ¬ S mb) : Tab w' tb mb L := by
  refine ⟨(k.block tb h.ltT h1).trans h.blk, ?_, h.ris, h.sz⟩
  obtain ⟨es, clock, hb, r⟩ := h.own
  exact ⟨es, clock, (k.block mb h.ltM h2).trans hb, r⟩
set_option maxRecDepth 100000 in
theorem Tab.below {B : Nat} (h : Tab w tb mb L) (k : Below B w w') (h1 : tb < B) (h2 : mb < B) : Tab w' tb mb L := by
  refine ⟨(k.block tb h1).trans h.blk, ?_, h.ris, h.sz⟩
  obtain ⟨es, clock, hb, r⟩ := h.own
  exact ⟨es, clock, (k.block mb h2).trans hb, r⟩
set_option maxRecDepth 100000 in
theorem Tab.get_size (h : Tab w tb mb L) (p : ByteArray) : (getP p L).size ≤ 65536 := by
  unfold getP
  split
  · rename_i x hx
    exact (h.sz x (List.mem_of_find?_eq_some hx)).2
  · exact Nat.zero_le _
set_option maxRecDepth 100000 in
theorem look_run (h : w.ownsMap Tryz.prog 9 cElem mb L.length (mapD L)) {p : ByteArray} (hp : p.size ≤ 281474976710656) :
    (Instr.lookup 68 (.map (some mb)) (.string p) false).run Tryz.prog w = .ok (.agg #[.string (getP p L)]) w := by
  obtain ⟨v, ps, hrun, hv⟩ := h.lookup law Tryz.underlying68 (zeroC w) (cElem_mk (s := ByteArray.empty) (by unfold maxLen; decide)) (keyS hp)
  obtain ⟨s, rfl, hz, _⟩ := cElem_inv hv
  have e : s = getP p L := by
    have := congrArg Prod.fst hz
    have e0 : (DataW.lit (.string ByteArray.empty.data.toList) : DataW Unit) = .lit (.string []) := rfl
    simp only [e0, mapD_at] at this
    exact ByteArray.ext (Array.toList_inj.1 (by injection this with h1; injection h1 with h2; exact h2.symm))
  rw [hrun, e]
set_option maxRecDepth 100000 in
theorem look_ok_run (h : w.ownsMap Tryz.prog 9 cElem mb L.length (mapD L)) {p : ByteArray} (hp : p.size ≤ 281474976710656) :
    (Instr.lookup 68 (.map (some mb)) (.string p) true).run Tryz.prog w = .ok (.tuple #[.agg #[.string (getP p L)], .bool (hasP p L)]) w := by
  obtain ⟨v, ps, hrun, hv⟩ := h.look_ok law Tryz.underlying68 (zeroC w) (cElem_mk (s := ByteArray.empty) (by unfold maxLen; decide)) (keyS hp)
  obtain ⟨s, rfl, hz, _⟩ := cElem_inv hv
  have e : s = getP p L := by
    have := congrArg Prod.fst hz
    have e0 : (DataW.lit (.string ByteArray.empty.data.toList) : DataW Unit) = .lit (.string []) := rfl
    simp only [e0, mapD_at] at this
    exact ByteArray.ext (Array.toList_inj.1 (by injection this with h1; injection h1 with h2; exact h2.symm))
  rw [hrun, e, mapD_has]
end

set_option maxRecDepth 100000 in
theorem clone_any (s : ByteArray) (w : World) (hs : s.size ≤ 281474976710656) : Calls Tryz.prog 13 #[.string s] w fun e w' => e = .returned (.string s) ∧ Below w.heap.size w w' := by
  go_enter Tryz.func13, Tryz.ntmps13
  go_wp2_with (go_at_call 20; refine (Tryz.stringslite_Clone s _ hs).mono ?_; rintro e w' ⟨rfl, hb⟩)
  go_ret
  exact ⟨rfl, hb⟩

set_option maxRecDepth 100000 in
theorem new_any (w : World) : Calls Tryz.prog 8 #[] w fun e w' => e = .returned (.pointer (some ⟨w.heap.size + 1, 0, none⟩)) ∧ Tab w' (w.heap.size + 1) w.heap.size [] ∧ Below w.heap.size w w' := by
  have hmm := @run_makeMap Tryz.prog
  go_enter Tryz.func8, Tryz.ntmps8
  go_wp2
  go_ret
  refine ⟨by simp, ⟨?_, ?_, by simp [Ris], by simp⟩, ?_⟩
  · have := heap_alloc_new (w.alloc (.map #[] 0)) (.cells #[.map (some w.heap.size)] 70)
    simpa using this
  · exact (World.ownsMap_made w Tryz.prog 9 cElem).alloc _
  · exact ((Below.refl _ w).alloc (Nat.le_refl _) _).alloc (by simp) _

set_option maxRecDepth 100000 in
theorem has_any (w : World) (tb mb : Nat) (L : Fls) (p : ByteArray) (h : Tab w tb mb L) (hp : p.size ≤ 281474976710656) : Calls Tryz.prog 22 #[.pointer (some ⟨tb, 0, none⟩), .string p] w fun e w' => e = .returned (.bool (hasP p L)) ∧ Below w.heap.size w w' := by
  have h0 := h.cell
  have h1 := look_ok_run h.own hp
  generalize hasP p L = hh at *
  generalize getP p L = gg at *
  go_enter Tryz.func22, Tryz.ntmps22
  go_wp2
  go_ret
  exact ⟨rfl, by first | exact ((Below.refl _ w).alloc (Nat.le_refl _) _) | exact ((Below.refl _ w).alloc (Nat.le_refl _) _).setCell (by simp) _⟩

set_option maxRecDepth 100000 in
theorem read_any (w : World) (tb mb : Nat) (L : Fls) (p : ByteArray) (h : Tab w tb mb L) (hp : p.size ≤ 281474976710656) : Calls Tryz.prog 26 #[.pointer (some ⟨tb, 0, none⟩), .string p] w fun e w' => e = .returned (.tuple #[.string (getP p L), .bool (hasP p L)]) ∧ Below w.heap.size w w' := by
  have h0 := h.cell
  have h1 := look_ok_run h.own hp
  have h2 := h.get_size p
  generalize hasP p L = hh at *
  generalize getP p L = gg at *
  go_enter Tryz.func26, Tryz.ntmps26
  go_wp2_with (go_at_call 13; refine (clone_any _ _ (by omega)).mono ?_; rintro e W1 ⟨rfl, b1⟩)
  go_ret2
  exact ⟨rfl, ((Below.refl _ w).alloc (Nat.le_refl _) _).trans (b1.mono (by simp))⟩

/-- put lays a file into the map. -/
theorem put_any (w : World) (mb : Nat) (L : Fls) (p b : ByteArray) (h : w.ownsMap Tryz.prog 9 cElem mb L.length (mapD L)) (hr : Ris L) (hL : L.length < 4611686018427387904) (hp : p.size ≤ 281474976710656) (hb : b.size ≤ 281474976710656) :
    Calls Tryz.prog 15 #[.map (some mb), .string p, .string b] w fun e w' => e = .returned (.tuple #[]) ∧ w'.ownsMap Tryz.prog 9 cElem mb (ins p b L).length (mapD (ins p b L)) ∧ Off (fun k => k = mb) w w' := by
  have hlt := h.lt
  have hk := keyS hp
  have he : cElem (.agg #[.string b]) = some (.lit (.string b.data.toList), []) := cElem_mk (by unfold maxLen; omega)
  have tok1 : True := trivial
  go_enter Tryz.func15, Tryz.ntmps15
  go_wp2_with (first
    | (go_at_call 13; have _t := tok1; refine (clone_any p _ hp).mono ?_; rintro e W1 ⟨rfl, b1⟩; clear tok1)
    | (go_at_call 13; refine (clone_any b _ hb).mono ?_; rintro e W2 ⟨rfl, b2⟩)
    | (at_mapUpdate; refine wpList_mapUpdate_own _ rfl _ _ _ 68 rfl 9 82 law Tryz.underlying68 cElem mb L.length (mapD L) rfl ?own ?room _ _ _ rfl rfl hk _ [] he ?_; rotate_left 1; (case own => exact own_below (own_below h b1) b2); (case room => unfold maxLen; omega); intro W3 h3 g3))
  go_end0
  refine ⟨rfl, own_tight (by rw [mapD_put p b hr] at h3; exact h3), ?_⟩
  exact ((Off.of_below b1).andThen (S := fun k => k = mb) (Off.of_below b2) (fun i hi => .inl hi)).andThen (Off.of_grown g3 (fun j hj => by cases hj; rfl)) (fun i hi => .inl hi)

/-- what Write answers, and the files behind it. -/
def wrE (b : ByteArray) : Int := if b.size ≤ 65536 then 0 else 20
def wrL (p b : ByteArray) (L : Fls) : Fls := if b.size ≤ 65536 then ins p b L else L

set_option maxRecDepth 100000 in
theorem Tab.ins_mk {w w' : World} {tb mb : Nat} {L : Fls} {p b : ByteArray} (h : Tab w tb mb L) (k : Off (fun i => i = mb) w w') (ho : w'.ownsMap Tryz.prog 9 cElem mb (ins p b L).length (mapD (ins p b L))) (hp : p.size ≤ 281474976710656) (hb : b.size ≤ 65536) : Tab w' tb mb (ins p b L) := by
  refine ⟨(k.block tb h.ltT h.ne).trans h.blk, ho, h.ris.ins, fun x hx => ?_⟩
  rcases mem_ins hx with e | hx
  · subst e; exact ⟨hp, hb⟩
  · exact h.sz x hx

set_option maxRecDepth 100000 in
theorem eql_map_nil (W : World) (m : Nat) : (binOp .eql 68 (.map (some m)) (.map none)).run Tryz.prog W = .ok (.bool false) W := by
  have e : (Op.equal 68 (.map (some m)) (.map none)).run Tryz.prog W = .ok false W := run_equal_map_nil W 68 9 82 (some m) Tryz.underlying68
  simp only [binOp, Sem.run_bind, e, Result.andThen]
  rfl

set_option maxRecDepth 100000 in
theorem write_any (w : World) (tb mb : Nat) (L : Fls) (p b : ByteArray) (h : Tab w tb mb L) (hL : L.length < 4611686018427387904) (hp : p.size ≤ 281474976710656) (hb : b.size ≤ 281474976710656) :
    Calls Tryz.prog 9 #[.pointer (some ⟨tb, 0, none⟩), .string p, .string b] w fun e w' => e = .returned (.int .i64 (wrE b)) ∧ Tab w' tb mb (wrL p b L) ∧ Off (fun k => k = mb) w w' := by
  have h0 := h.cell
  by_cases hs : b.size ≤ 65536
  · have e1 : wrE b = 0 := by unfold wrE; rw [if_pos hs]
    have e2 : wrL p b L = ins p b L := by unfold wrL; rw [if_pos hs]
    rw [e1, e2]
    clear e1 e2
    have hq := fun W => eql_map_nil W mb
    go_enter Tryz.func9, Tryz.ntmps9
    go_wp2_with (go_at_call 15; refine (put_any _ mb L p b h.own h.ris hL hp hb).mono ?_; rintro e W1 ⟨rfl, o1, k1⟩)
    go_ret
    exact ⟨rfl, h.ins_mk k1 o1 hp hs, k1⟩
  · have e1 : wrE b = 20 := by unfold wrE; rw [if_neg hs]
    have e2 : wrL p b L = L := by unfold wrL; rw [if_neg hs]
    rw [e1, e2]
    clear e1 e2
    go_enter Tryz.func9, Tryz.ntmps9
    go_wp2
    go_ret
    exact ⟨rfl, h, Off.refl _ _⟩

end Go.Proofs.YtfehmdfamndcaaaGreatDoor.Vf
namespace Go.Proofs.YtfehmdfamndcaaaGreatDoor.Pa

abbrev Bs := List UInt8

/-- what stands between the slashes. -/
def splitS : Bs → List Bs
  | [] => [[]]
  | c :: r => if c = 47 then [] :: splitS r else (c :: (splitS r).headD []) :: (splitS r).tail

set_option maxRecDepth 100000 in
theorem splitS_ne (s : Bs) : splitS s ≠ [] := by
  cases s with
  | nil => simp [splitS]
  | cons c r => unfold splitS; split <;> simp

set_option maxRecDepth 100000 in
theorem splitS_plain : ∀ {q : Bs}, 47 ∉ q → splitS q = [q]
  | [], _ => rfl
  | c :: r, h => by
    have h1 : c ≠ 47 := fun e => h (by simp [e])
    have h2 : 47 ∉ r := fun e => h (by simp [e])
    simp [splitS, h1, splitS_plain h2]

set_option maxRecDepth 100000 in
theorem splitS_app : ∀ (t u : Bs), splitS (t ++ 47 :: u) = splitS t ++ splitS u
  | [], u => by simp [splitS]
  | c :: r, u => by
    have ih := splitS_app r u
    by_cases h : c = 47
    · simp [splitS, h, ih]
    · obtain ⟨x, xs, hx⟩ := List.exists_cons_of_ne_nil (splitS_ne r)
      simp [splitS, h, ih, hx]

set_option maxRecDepth 100000 in
theorem splitS_cut {q : Bs} (r : Bs) (h : 47 ∉ q) : splitS (q ++ 47 :: r) = q :: splitS r := by
  rw [splitS_app, splitS_plain h]; rfl

def signB (c : UInt8) : Bool := (97 ≤ c && c ≤ 122) || (65 ≤ c && c ≤ 90) || (48 ≤ c && c ≤ 57) || c == 95 || c == 45 || c == 46

def step (L : List Bs) (q : Bs) : Option (List Bs) :=
  if q = [] ∨ q = [46] then some L
  else if q = [46, 46] then (if L = [] then none else some L.dropLast)
  else if q.all signB then some (L ++ [q]) else none

def walkL : List Bs → List Bs → Option (List Bs)
  | L, [] => some L
  | L, q :: qs => match step L q with
    | none => none
    | some L' => walkL L' qs

def joinS (L : List Bs) : Bs := L.flatMap (47 :: ·)

def fin : Option (List Bs) → Bs × Nat
  | none => ([], 30)
  | some L => if L = [] then ([], 30) else if 200 < (joinS L).length then ([], 31) else (joinS L, 0)

/-- the path that a text is, and the error. -/
def nrm : Bs → Bs × Nat
  | [] => ([], 30)
  | c :: r => if c = 47 then fin (walkL [] (splitS r)) else ([], 30)

def dirS (p : Bs) : Bs := (p.reverse.dropWhile (· != 47)).tail.reverse

def reqS (r : Bs) : Bool := [46, 47].isPrefixOf r || [46, 46, 47].isPrefixOf r
def jn (f r : Bs) : Bs × Nat := if reqS r then nrm (dirS f ++ 47 :: r) else ([], 30)

def endS : List Bs := [[], [46, 116, 115], [47, 105, 110, 100, 101, 120, 46, 116, 115]]
def prb (p : Bs) : List Bs := (endS.map (p ++ ·)).filter fun x => decide (x.length ≤ 200)

structure Good (q : Bs) : Prop where
  ne : q ≠ []
  dot : q ≠ [46]
  two : q ≠ [46, 46]
  sg : q.all signB = true

set_option maxRecDepth 100000 in
theorem plain_of_sg {q : Bs} (h : q.all signB = true) : (47 : UInt8) ∉ q := fun hm => by
  have := List.all_eq_true.1 h 47 hm
  revert this
  decide
set_option maxRecDepth 100000 in
theorem Good.plain {q : Bs} (h : Good q) : (47 : UInt8) ∉ q := plain_of_sg h.sg

set_option maxRecDepth 100000 in
theorem step_good {L : List Bs} {q : Bs} (h : Good q) : step L q = some (L ++ [q]) := by simp [step, h.ne, h.dot, h.two, h.sg]
set_option maxRecDepth 100000 in
theorem step_none (L : List Bs) : step L [] = some L := by simp [step]
set_option maxRecDepth 100000 in
theorem step_dot (L : List Bs) : step L [46] = some L := by simp [step]

set_option maxRecDepth 100000 in
theorem step_keeps {L L' : List Bs} {q : Bs} (hL : ∀ x ∈ L, Good x) (h : step L q = some L') : ∀ x ∈ L', Good x := by
  unfold step at h
  split at h
  · cases h; exact hL
  · rename_i h0
    split at h
    · split at h
      · cases h
      · cases h; exact fun x hx => hL x ((List.dropLast_sublist L).subset hx)
    · rename_i h2
      split at h
      · rename_i h3
        cases h
        intro x hx
        rcases List.mem_append.1 hx with hx | hx
        · exact hL x hx
        · have e := List.mem_singleton.1 hx
          subst e
          exact ⟨fun e => h0 (.inl e), fun e => h0 (.inr e), h2, h3⟩
      · cases h

set_option maxRecDepth 100000 in
theorem walk_keeps : ∀ {qs L L' : List Bs}, (∀ x ∈ L, Good x) → walkL L qs = some L' → ∀ x ∈ L', Good x
  | [], L, L', hL, h => by cases h; exact hL
  | q :: qs, L, L', hL, h => by
    unfold walkL at h
    split at h
    · cases h
    · rename_i M hM
      exact walk_keeps (step_keeps hL hM) h

set_option maxRecDepth 100000 in
theorem walk_app : ∀ (qs rs L : List Bs), walkL L (qs ++ rs) = (walkL L qs).bind fun M => walkL M rs
  | [], rs, L => rfl
  | q :: qs, rs, L => by
    simp only [List.cons_append, walkL]
    cases step L q with
    | none => rfl
    | some M => exact walk_app qs rs M

set_option maxRecDepth 100000 in
theorem walk_good : ∀ (qs L : List Bs), (∀ x ∈ qs, Good x) → walkL L qs = some (L ++ qs)
  | [], L, _ => by simp [walkL]
  | q :: qs, L, h => by
    simp only [walkL, step_good (h q (by simp))]
    rw [walk_good qs _ (fun x hx => h x (by simp [hx]))]
    simp

/-- a sign that may not be makes it none. -/
theorem walk_bad : ∀ (qs L : List Bs), (∃ q ∈ qs, q.all signB = false) → walkL L qs = none
  | q :: qs, L, h => by
    by_cases hq : q.all signB = false
    · have h1 : q ≠ [] := fun e => by subst e; cases hq
      have h2 : q ≠ [46] := fun e => by subst e; revert hq; decide
      have h3 : q ≠ [46, 46] := fun e => by subst e; revert hq; decide
      simp [walkL, step, h1, h2, h3, hq]
    · obtain ⟨x, hx, hb⟩ := h
      rcases List.mem_cons.1 hx with rfl | hx
      · exact absurd hb hq
      · simp only [walkL]
        cases step L q with
        | none => rfl
        | some M => exact walk_bad qs M ⟨x, hx, hb⟩

set_option maxRecDepth 100000 in
theorem joinS_cons (q : Bs) (L : List Bs) : joinS (q :: L) = 47 :: (q ++ joinS L) := by simp [joinS]
set_option maxRecDepth 100000 in
theorem joinS_snoc (L : List Bs) (q : Bs) : joinS (L ++ [q]) = joinS L ++ 47 :: q := by simp [joinS]
set_option maxRecDepth 100000 in
theorem joinS_nil : joinS [] = [] := rfl

/-- what is joined, and a slash and more behind. -/
theorem split_join_app : ∀ (L : List Bs) (u : Bs), (∀ x ∈ L, Good x) → ∃ t, joinS L ++ 47 :: u = 47 :: t ∧ splitS t = L ++ splitS u
  | [], u, _ => ⟨u, rfl, rfl⟩
  | q :: L, u, h => by
    obtain ⟨t, e1, e2⟩ := split_join_app L u (fun x hx => h x (by simp [hx]))
    refine ⟨q ++ 47 :: t, ?_, ?_⟩
    · rw [joinS_cons, List.cons_append, List.append_assoc, e1]
    · rw [splitS_cut _ (h q (by simp)).plain, e2]; rfl

set_option maxRecDepth 100000 in
theorem snoc_of {L : List Bs} (h : L ≠ []) : ∃ M q, L = M ++ [q] := by
  rcases List.eq_nil_or_concat L with e | ⟨M, q, e⟩
  · exact absurd e h
  · exact ⟨M, q, by simpa using e⟩

set_option maxRecDepth 100000 in
theorem split_join (L : List Bs) (hn : L ≠ []) (h : ∀ x ∈ L, Good x) : ∃ t, joinS L = 47 :: t ∧ splitS t = L := by
  obtain ⟨M, q, rfl⟩ := snoc_of hn
  have hq := h q (by simp)
  obtain ⟨t, e1, e2⟩ := split_join_app M q (fun x hx => h x (by simp [hx]))
  rw [splitS_plain hq.plain] at e2
  exact ⟨t, by rw [joinS_snoc, e1], e2⟩

set_option maxRecDepth 100000 in
theorem nrm_app (L : List Bs) (u : Bs) (h : ∀ x ∈ L, Good x) : nrm (joinS L ++ 47 :: u) = fin (walkL L (splitS u)) := by
  obtain ⟨t, e1, e2⟩ := split_join_app L u h
  rw [e1]
  show (if (47 : UInt8) = 47 then fin (walkL [] (splitS t)) else ([], 30)) = _
  rw [if_pos rfl, e2, walk_app, walk_good L [] h]
  rfl

set_option maxRecDepth 100000 in
theorem fin_ok {o : Option (List Bs)} (h : (fin o).2 = 0) : ∃ L, o = some L ∧ L ≠ [] ∧ (joinS L).length ≤ 200 ∧ (fin o).1 = joinS L := by
  unfold fin at *
  split at h
  · cases h
  · rename_i L
    split at h
    · cases h
    · split at h
      · cases h
      · rename_i h1 h2
        exact ⟨L, rfl, h1, by omega, by simp [h1, h2]⟩
set_option maxRecDepth 100000 in
theorem fin_err {o : Option (List Bs)} (h : (fin o).2 ≠ 0) : (fin o).1 = [] := by
  unfold fin at *
  split
  · rfl
  · split
    · rfl
    · split
      · rfl
      · rename_i L h1 h2
        simp [h1, h2] at h
set_option maxRecDepth 100000 in
theorem fin_join {L : List Bs} (h : L ≠ []) (hl : (joinS L).length ≤ 200) : fin (some L) = (joinS L, 0) := by
  simp [fin, h, Nat.not_lt.2 hl]

set_option maxRecDepth 100000 in
theorem nrm_ok {p : Bs} (h : (nrm p).2 = 0) : ∃ L, L ≠ [] ∧ (∀ x ∈ L, Good x) ∧ (joinS L).length ≤ 200 ∧ (nrm p).1 = joinS L := by
  unfold nrm at *
  split at h
  · cases h
  · split at h
    · rename_i c r h1
      obtain ⟨L, e1, e2, e3, e4⟩ := fin_ok h
      refine ⟨L, e2, walk_keeps (by simp) e1, e3, ?_⟩
      simp only [h1, if_true]
      exact e4
    · cases h
set_option maxRecDepth 100000 in
theorem nrm_err {p : Bs} (h : (nrm p).2 ≠ 0) : (nrm p).1 = [] := by
  unfold nrm at *
  split
  · rfl
  · split
    · rename_i c r h1
      simp only [h1, if_true] at h
      exact fin_err h
    · rfl
set_option maxRecDepth 100000 in
theorem nrm_size (p : Bs) : (nrm p).1.length ≤ 200 := by
  by_cases h : (nrm p).2 = 0
  · obtain ⟨L, _, _, h3, h4⟩ := nrm_ok h
    rw [h4]; exact h3
  · rw [nrm_err h]; exact Nat.zero_le _

set_option maxRecDepth 100000 in
theorem nrm_join {L : List Bs} (hn : L ≠ []) (h : ∀ x ∈ L, Good x) (hl : (joinS L).length ≤ 200) : nrm (joinS L) = (joinS L, 0) := by
  obtain ⟨t, e1, e2⟩ := split_join L hn h
  have : nrm (joinS L) = fin (walkL [] (splitS t)) := by rw [e1]; rfl
  rw [this, e2, walk_good L [] h]
  exact fin_join (by simpa using hn) (by simpa using hl)

set_option maxRecDepth 100000 in
theorem dirS_at {a q : Bs} (h : 47 ∉ q) : dirS (a ++ 47 :: q) = a := by
  have : ∀ (q t : Bs), 47 ∉ q → ((q ++ 47 :: t).dropWhile (· != 47)) = 47 :: t := fun q => by
    induction q with
    | nil => intro t _; simp
    | cons c r ih =>
      intro t hq
      have h1 : c ≠ 47 := fun e => hq (by simp [e])
      have h2 : 47 ∉ r := fun e => hq (by simp [e])
      simp only [List.cons_append, List.dropWhile_cons]
      have : (c != 47) = true := by simpa using h1
      simp only [this, if_true]
      exact ih t h2
  unfold dirS
  rw [List.reverse_append, List.reverse_cons, List.append_assoc, List.singleton_append, this _ _ (by simpa using h)]
  simp
set_option maxRecDepth 100000 in
theorem dirS_none {p : Bs} (h : 47 ∉ p) : dirS p = [] := by
  have : ∀ q : Bs, 47 ∉ q → q.dropWhile (· != 47) = [] := fun q => by
    induction q with
    | nil => intro _; rfl
    | cons c r ih =>
      intro hq
      have h1 : c ≠ 47 := fun e => hq (by simp [e])
      have h2 : 47 ∉ r := fun e => hq (by simp [e])
      have : (c != 47) = true := by simpa using h1
      simp only [List.dropWhile_cons, this, if_true]
      exact ih h2
  unfold dirS
  rw [this _ (by simpa using h)]
  rfl
set_option maxRecDepth 100000 in
theorem dirS_size (p : Bs) : (dirS p).length ≤ p.length := by
  unfold dirS
  have : (p.reverse.dropWhile (· != 47)).length ≤ p.reverse.length := (List.dropWhile_sublist _).length_le
  simp only [List.length_reverse, List.length_tail] at *
  omega
set_option maxRecDepth 100000 in
theorem dirS_join (L : List Bs) (q : Bs) (h : Good q) : dirS (joinS (L ++ [q])) = joinS L := by
  rw [joinS_snoc, dirS_at h.plain]

set_option maxRecDepth 100000 in
theorem jn_ok {f r : Bs} (h : (jn f r).2 = 0) : nrm (jn f r).1 = ((jn f r).1, 0) := by
  unfold jn at *
  split at h
  · rename_i hr
    obtain ⟨L, e1, e2, e3, e4⟩ := nrm_ok h
    simp only [hr, if_true]
    rw [e4]
    exact nrm_join e1 e2 e3
  · cases h
set_option maxRecDepth 100000 in
theorem jn_err {f r : Bs} (h : (jn f r).2 ≠ 0) : (jn f r).1 = [] := by
  unfold jn at *
  split
  · rename_i hr
    simp only [hr, if_true] at h
    exact nrm_err h
  · rfl
set_option maxRecDepth 100000 in
theorem jn_size (f r : Bs) : (jn f r).1.length ≤ 200 := by
  unfold jn
  split
  · exact nrm_size _
  · exact Nat.zero_le _

/-- what was made is a path. -/
theorem settles {p : Bs} (h : (nrm p).2 = 0) : nrm (nrm p).1 = ((nrm p).1, 0) ∧ 2 ≤ (nrm p).1.length ∧ (nrm p).1.length ≤ 200 ∧ (nrm p).1[0]? = some 47 ∧ (nrm p).1[(nrm p).1.length - 1]? ≠ some 47 ∧
    ((jn (nrm p).1 [46, 47, 120]).2 = 0 → dirS (jn (nrm p).1 [46, 47, 120]).1 = dirS (nrm p).1 ∧ (jn (nrm p).1 [46, 47, 120]).1 = dirS (nrm p).1 ++ [47, 120]) := by
  obtain ⟨L, e1, e2, e3, e4⟩ := nrm_ok h
  rw [e4]
  obtain ⟨M, q, rfl⟩ := snoc_of e1
  have hq := e2 q (by simp)
  have hM : ∀ x ∈ M, Good x := fun x hx => e2 x (by simp [hx])
  have hq0 : 0 < q.length := List.length_pos_iff.2 hq.ne
  refine ⟨nrm_join e1 e2 e3, ?_, e3, ?_, ?_, ?_⟩
  · rw [joinS_snoc]; simp; omega
  · obtain ⟨t, h1, _⟩ := split_join _ e1 e2
    rw [h1]; rfl
  · intro hc
    rw [joinS_snoc] at hc
    have hlen : (joinS M ++ 47 :: q).length - 1 = (joinS M).length + (q.length - 1) + 1 := by simp; omega
    rw [hlen, List.getElem?_append_right (by omega)] at hc
    have h3 : (joinS M).length + (q.length - 1) + 1 - (joinS M).length = (q.length - 1) + 1 := by omega
    rw [h3, List.getElem?_cons_succ] at hc
    exact hq.plain (List.mem_of_getElem? hc)
  · intro hj
    have hx : Good [120] := ⟨by simp, by decide, by decide, by decide⟩
    have ed : jn (joinS (M ++ [q])) [46, 47, 120] = fin (some (M ++ [[120]])) := by
      unfold jn
      rw [show reqS [46, 47, 120] = true from by decide, if_pos rfl, dirS_join _ _ hq, nrm_app _ _ hM]
      rw [show splitS [46, 47, 120] = [[46], [120]] from by decide]
      simp only [walkL, step_dot, step_good hx]
    rw [ed] at hj ⊢
    obtain ⟨L', e5, _, e7, e8⟩ := fin_ok hj
    cases e5
    rw [e8, dirS_join _ _ hx, dirS_join _ _ hq, joinS_snoc]
    exact ⟨rfl, rfl⟩

/-- down and up again. -/
theorem upS {p part : Bs} (h : (nrm p).2 = 0) (hp : part ≠ []) (hs : ∀ c ∈ part, (97 ≤ c ∧ c ≤ 122) ∨ (48 ≤ c ∧ c ≤ 57)) (hl : (nrm p).1.length + part.length ≤ 190) :
    nrm ((nrm p).1 ++ 47 :: part ++ [47, 46, 46]) = ((nrm p).1, 0) ∧ nrm ((nrm p).1 ++ 47 :: part) = ((nrm p).1 ++ 47 :: part, 0) ∧ dirS ((nrm p).1 ++ 47 :: part) = (nrm p).1 ∧
    jn ((nrm p).1 ++ 47 :: part) (46 :: 47 :: part) = ((nrm p).1 ++ 47 :: part, 0) := by
  obtain ⟨L, e1, e2, e3, e4⟩ := nrm_ok h
  have sg : part.all signB = true := List.all_eq_true.2 fun c hc => by
    unfold signB
    rcases hs c hc with ⟨a, b⟩ | ⟨a, b⟩ <;> simp [a, b]
  have h46 : (46 : UInt8) ∉ part := fun hc => by
    rcases hs 46 hc with ⟨a, b⟩ | ⟨a, b⟩
    · revert a; decide
    · revert a; decide
  have hg : Good part := ⟨hp, fun e => h46 (by simp [e]), fun e => h46 (by simp [e]), sg⟩
  rw [e4] at hl ⊢
  have hlen : (joinS (L ++ [part])).length ≤ 200 := by rw [joinS_snoc]; simp; omega
  have hall : ∀ x ∈ L ++ [part], Good x := fun x hx => by
    rcases List.mem_append.1 hx with hx | hx
    · exact e2 x hx
    · rw [List.mem_singleton.1 hx]; exact hg
  refine ⟨?_, ?_, ?_, ?_⟩
  · rw [show joinS L ++ 47 :: part ++ [47, 46, 46] = joinS (L ++ [part]) ++ 47 :: [46, 46] from by rw [joinS_snoc], nrm_app _ _ hall]
    rw [show splitS [46, 46] = [[46, 46]] from by decide]
    have : step (L ++ [part]) [46, 46] = some L := by simp [step]
    simp only [walkL, this]
    exact fin_join e1 e3
  · rw [← joinS_snoc]; exact nrm_join (by simp) hall hlen
  · rw [← joinS_snoc]; exact dirS_join _ _ hg
  · unfold jn
    rw [show reqS (46 :: 47 :: part) = true from by simp [reqS], if_pos rfl, ← joinS_snoc, dirS_join _ _ hg, nrm_app _ _ e2]
    rw [show splitS (46 :: 47 :: part) = [[46], part] from by rw [show (46 :: 47 :: part : Bs) = [46] ++ 47 :: part from rfl, splitS_cut _ (by decide), splitS_plain hg.plain]]
    simp only [walkL, step_dot, step_good hg]
    exact fin_join (by simp) hlen

end Go.Proofs.YtfehmdfamndcaaaGreatDoor.Pa
