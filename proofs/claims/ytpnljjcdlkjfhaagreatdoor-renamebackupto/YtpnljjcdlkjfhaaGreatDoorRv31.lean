/- Own text. The document's parser at one source: export default 5. A table of package vfs in memory ('Tab'), and what its calls do to it: New, Len, Has, Read, put, Write, Remove. Lists of files in memory ('FAt'), and what Same of the document's answer says of two. -/
import Derived.Test.YtpnljjcdlkjfhaaGreatDoorRv30
import Derived.Test.YtpnljjcdlkjfhaaGreatDoorRv17
import Derived.Test.YtpnljjcdlkjfhaaGreatDoorRv06
import Derived.Test.YtpnljjcdlkjfhaaGreatDoorShelf
import Derived.WalkKit
import Derived.WalkSmall
import Derived.WalkLawsBesides
import Derived.Maps.RangeWalk
import Derived.Laws.Rows
import Derived.Maps.AppendAt
import Derived.Deep.QuietTactic
import Derived.BigQuiet
import Derived.Handy
set_option linter.unusedVariables false
set_option linter.unusedSimpArgs false
namespace Go.Proofs.YtpnljjcdlkjfhaaGreatDoor
open Go.RowKit
def srcB : ByteArray := ⟨#[101, 120, 112, 111, 114, 116, 32, 100, 101, 102, 97, 117, 108, 116, 32, 53, 59]⟩
def srcT : List (Tk × Nat) := [((2, [101, 120, 112, 111, 114, 116], 0), 0), ((2, [100, 101, 102, 97, 117, 108, 116], 0), 7), ((3, [], 5), 15), ((5, [59], 0), 16)]
theorem src_lex : lexL 0 srcB.data.toList false = .ok srcT := by rfl
theorem src_len : (ints srcT).length = 4 := by decide
theorem src_items : Items (ints srcT) 0 [D5] := by
  refine .cons 0 4 D5 _ (by rw [src_len]; omega) (by omega) (fun W b g c h => ?_) ?_
  · exact item_export h rfl (fun X hX => exports_default hX rfl rfl ⟨_, _, rfl⟩ rfl (by rw [src_len]; omega) (by omega))
  · have : Items (ints srcT) (ints srcT).length [] := .nil
    rwa [src_len] at this
set_option maxRecDepth 100000 in
set_option maxHeartbeats 4000000 in
theorem module_src (W : World) : Calls Tryz.prog 73 #[.string srcB] W fun e w' => ∃ kv, e = .returned (.tuple #[M5.v kv, .int .i64 0, .int .i64 0]) ∧ LAt w' (fun j => W.heap.size ≤ j) kv M5.ks ∧ Below W.heap.size W w' := by
  obtain ⟨wA, hwA⟩ : ∃ X, W.alloc zNd = X := ⟨_, rfl⟩
  have bA : Below W.heap.size W wA := by rw [← hwA]; exact bel_a W zNd
  have m0 : wA.heap[W.heap.size]? = some zNd := by rw [← hwA]; exact hnew _ rfl
  have sA : wA.heap.size = W.heap.size + 1 := by rw [← hwA]; simp
  have C := source_any srcB wA (by decide) src_lex (by decide) (by decide) src_items (by simp [D5, N5, Nd.depth_eq, depths_cons, depths_nil, Nd.ks]) (by simp [D5, N5, Nd.size_eq, sizes_cons, sizes_nil, Nd.ks])
  have HB : Hid _ := bA
  have HM : Hid (wA.heap[W.heap.size]? = some zNd) := m0
  have HS : Hid (wA.heap.size = W.heap.size + 1) := sA
  clear bA m0 sA
  generalize srcB = s at *
  go_enter Tryz.func73, Tryz.ntmps73
  go_wp2_with fail
  go_at_call 109
  refine C.mono ?_
  rintro e W1 ⟨kv, rfl, l1, b1⟩
  obtain ⟨va, vc, rfl⟩ := l1.sl
  have hs := HS.out
  have r1 := (b1.block _ (by omega)).trans HM.out
  obtain ⟨⟨_, _, _, _⟩, _, _, _, _⟩ := box4 r1
  have bW := HB.out.trans (b1.mono HB.out.size)
  have HR : Hid _ := r1
  generalize hx : ([D5] : List Nd) = xs at *
  have HE : Hid _ := bel4 bW (Nat.le_refl _) (.int .i64 68) (.string ⟨#[]⟩) (.int .i64 0) (.slice va xs.length vc)
  have HL : Hid _ := (((l1.set (n := W.heap.size) (i := 0) (u := .int .i64 68) (by omega)).set (n := W.heap.size) (i := 1) (u := .string ⟨#[]⟩) (by omega)).set (n := W.heap.size) (i := 2) (u := .int .i64 0) (by omega)).set (n := W.heap.size) (i := 3) (u := .slice va xs.length vc) (by omega)
  have HX : Hid ([D5] = xs) := hx
  have HW : Hid (W.heap.size ≤ wA.heap.size) := by show _ ≤ _; omega
  clear l1 b1 r1 bW C hx
  simp only [Nd.v, Nd.k, Nd.t, Nd.n]
  go_wp2
  refine bodyPost_ret (res_nd3 Tryz.results73 (box4_set _ _ _ _ HR.out) rfl rfl rfl) rfl ?_
  refine ⟨.slice va xs.length vc, rfl, ?_, HE.out⟩
  show LAt _ _ _ [D5]
  rw [HX.out]
  exact HL.out.mono (fun j hj => Nat.le_trans HW.out hj)
end Go.Proofs.YtpnljjcdlkjfhaaGreatDoor
set_option linter.unusedVariables false
namespace Go.Proofs.YtpnljjcdlkjfhaaGreatDoor.Vf
open Go.RowKit Go.Maps
set_option maxRecDepth 100000 in
theorem law : Keyed Tryz.prog 9 := string_keyed Tryz.underlying9
set_option maxRecDepth 100000 in
theorem keyS {s : ByteArray} (hs : s.size ≤ 281474976710656) : keyOf Tryz.prog 9 (.string s) = some (.string s.data.toList) := by
  have : s.size ≤ maxLen := by unfold maxLen; omega
  simp [keyOf, Tryz.underlying9, mapKey, this]

/-- how a file's bytes in the map read. -/
def cElem : Value → Option (DataW Unit × List MemPlace)
  | .agg cs => match cs.toList with
    | [.string s] => if s.size ≤ maxLen then some (.lit (.string s.data.toList), []) else none
    | _ => none
  | _ => none
set_option maxRecDepth 100000 in
theorem cElem_mk {s : ByteArray} (hs : s.size ≤ maxLen) : cElem (.agg #[.string s]) = some (.lit (.string s.data.toList), []) := by simp [cElem, hs]
set_option maxRecDepth 100000 in
theorem cElem_inv {v : Value} {z : DataW Unit × List MemPlace} (h : cElem v = some z) : ∃ s, v = .agg #[.string s] ∧ z = (.lit (.string s.data.toList), []) ∧ s.size ≤ maxLen := by
  unfold cElem at h
  split at h
  · rename_i cs
    split at h
    · rename_i s hs
      split at h
      · rename_i hl
        cases h
        exact ⟨s, by rw [show cs = #[.string s] from Array.toList_inj.1 hs], rfl, hl⟩
      · cases h
    · cases h
  · cases h

/-- w' is w but for the blocks of S, and for new ones. -/
structure Off (S : Nat → Prop) (w w' : World) : Prop where
  os : w'.os = w.os
  tape : w'.tape = w.tape
  output : w'.output = w.output
  size : w.heap.size ≤ w'.heap.size
  block : ∀ k, k < w.heap.size → ¬ S k → w'.heap[k]? = w.heap[k]?

set_option maxRecDepth 100000 in
theorem Off.refl (S : Nat → Prop) (w : World) : Off S w w := ⟨rfl, rfl, rfl, Nat.le_refl _, fun _ _ _ => rfl⟩
set_option maxRecDepth 100000 in
theorem Off.trans {S T : Nat → Prop} {a b c : World} (h : Off S a b) (k : Off T b c) : Off (fun i => S i ∨ T i) a c :=
  ⟨k.os.trans h.os, k.tape.trans h.tape, k.output.trans h.output, Nat.le_trans h.size k.size, fun i hi hn =>
    (k.block i (Nat.lt_of_lt_of_le hi h.size) (fun e => hn (.inr e))).trans (h.block i hi (fun e => hn (.inl e)))⟩
/-- blocks that are new since a may be in T. -/
theorem Off.andThen {S T : Nat → Prop} {a b c : World} (h : Off S a b) (k : Off T b c) (hT : ∀ i, T i → S i ∨ a.heap.size ≤ i) : Off S a c :=
  ⟨k.os.trans h.os, k.tape.trans h.tape, k.output.trans h.output, Nat.le_trans h.size k.size, fun i hi hn =>
    (k.block i (Nat.lt_of_lt_of_le hi h.size) (fun e => by
      rcases hT i e with e | e
      · exact hn e
      · omega)).trans (h.block i hi hn)⟩
set_option maxRecDepth 100000 in
theorem Off.mono {S T : Nat → Prop} {a b : World} (h : Off S a b) (hT : ∀ i, S i → T i) : Off T a b :=
  ⟨h.os, h.tape, h.output, h.size, fun i hi hn => h.block i hi (fun e => hn (hT i e))⟩
set_option maxRecDepth 100000 in
theorem Off.of_below {S : Nat → Prop} {a b : World} (h : Below a.heap.size a b) : Off S a b := ⟨h.os, h.tape, h.output, h.size, fun i hi _ => h.block i hi⟩
set_option maxRecDepth 100000 in
theorem Off.of_grown {S : Nat → Prop} {a b : World} {row : Option Nat} (h : a.grownBy b row) (hr : ∀ j, row = some j → S j) : Off S a b :=
  ⟨h.os, h.tape, h.output, h.size, fun i hi hn => h.block i hi (fun e => hn (hr i e.symm))⟩
set_option maxRecDepth 100000 in
theorem Off.below {S : Nat → Prop} {a b : World} (h : Off S a b) {B : Nat} (hB : B ≤ a.heap.size) (hS : ∀ i, S i → B ≤ i) : Below B a b :=
  ⟨h.os, h.tape, h.output, h.size, fun k hk => h.block k (by omega) (fun e => by have := hS k e; omega)⟩
set_option maxRecDepth 100000 in
theorem Off.drew {S : Nat → Prop} {a b : World} (h : Off S a b) : Off S a b.drew := ⟨h.os, h.tape, h.output, h.size, h.block⟩
set_option maxRecDepth 100000 in
theorem Off.alloc {S : Nat → Prop} {a b : World} (h : Off S a b) (o : Obj) : Off S a (b.alloc o) :=
  h.andThen (Off.of_below (S := S) ((Below.refl _ b).alloc (Nat.le_refl _) o)) (fun i hi => .inl hi)
set_option maxRecDepth 100000 in
theorem Off.setCell {S : Nat → Prop} {a b : World} (h : Off S a b) {p : Addr} (hp : S p.block ∨ a.heap.size ≤ p.block) (u : Value) : Off S a (b.setCell p u) :=
  h.andThen (T := fun i => i = p.block) ⟨rfl, rfl, rfl, by simp [World.setCell], fun k hk hn => Below.heap_setCell _ _ _ _ hn⟩ (fun i hi => hi ▸ hp)
set_option maxRecDepth 100000 in
theorem belOff {S : Nat → Prop} {B : Nat} {a w w' : World} (h : Below B a w) (k : Off S w w') (hB : B ≤ w.heap.size) (hS : ∀ i, S i → B ≤ i) : Below B a w' :=
  h.trans (k.below hB hS)

set_option maxRecDepth 100000 in
theorem Off.grow {S : Nat → Prop} {a b : World} (h : Off S a b) (hS : ∀ i, ¬ S i) : a.grownBy b none := ⟨h.os, h.tape, h.output, h.size, fun k hk _ => h.block k hk (hS k)⟩
set_option maxRecDepth 100000 in
theorem below_grow {a b : World} (h : Below a.heap.size a b) : a.grownBy b none := ⟨h.os, h.tape, h.output, h.size, fun k hk _ => h.block k hk⟩
set_option maxRecDepth 100000 in
theorem own_below {w w' : World} {P : Program} {k : TypeId} {R : Value → Option (DataW Unit × List MemPlace)} {b n : Nat} {D : DataW Unit} (h : w.ownsMap P k R b n D) (hb : Below w.heap.size w w') : w'.ownsMap P k R b n D := h.kept (below_grow hb) (by simp)

set_option maxRecDepth 100000 in
theorem own_tight {w : World} {P : Program} {k : TypeId} {R : Value → Option (DataW Unit × List MemPlace)} {b n : Nat} {L : Fls} (h : w.ownsMap P k R b n (mapD L)) : w.ownsMap P k R b L.length (mapD L) := by
  obtain ⟨es, clock, hb, F, _, hD⟩ := h
  refine ⟨es, clock, hb, F, ?_, hD⟩
  have e := congrArg Maps.size hD
  rw [mapD_size] at e
  rw [e, Maps.size_eq, length_sorted]
  simp

set_option maxRecDepth 100000 in
theorem clone_any (s : ByteArray) (w : World) (hs : s.size ≤ 281474976710656) : Calls Tryz.prog 17 #[.string s] w fun e w' => e = .returned (.string s) ∧ Below w.heap.size w w' := by
  go_enter Tryz.func17, Tryz.ntmps17
  go_wp2_with (go_at_call 27; refine (Tryz.stringslite_Clone s _ hs).mono ?_; rintro e w' ⟨rfl, hb⟩)
  go_ret
  exact ⟨rfl, hb⟩

/-- what Write answers, and the files behind it. -/
def wrE (b : ByteArray) : Int := if b.size ≤ 65536 then 0 else 20
def wrL (p b : ByteArray) (L : Fls) : Fls := if b.size ≤ 65536 then ins p b L else L

/-- the cells from an address on hold these files. -/
def Cells (w : World) (bl of : Nat) (F : Fls) : Prop := ∀ i (h : i < F.length), w.cell? ⟨bl, of + i * 2, none⟩ = some (.string F[i].1) ∧ w.cell? ⟨bl, of + i * 2 + 1, none⟩ = some (.string F[i].2)
/-- v is a list of these files. -/
def FAt (w : World) (v : Value) (F : Fls) : Prop := (F = [] ∧ ∃ a c, v = .slice a 0 c) ∨ ∃ bl of c, v = .slice (some ⟨bl, of, none⟩) F.length c ∧ Cells w bl of F ∧ bl < w.heap.size

set_option maxRecDepth 100000 in
theorem Cells.off {S : Nat → Prop} {w w' : World} {bl of : Nat} {F : Fls} (h : Cells w bl of F) (k : Off S w w') (hb : bl < w.heap.size) (hS : ¬ S bl) : Cells w' bl of F := fun i hi => by
  have := h i hi
  have e := k.block bl hb hS
  exact ⟨(World.cell?_of_block (a := ⟨bl, _, none⟩) e).trans this.1, (World.cell?_of_block (a := ⟨bl, _, none⟩) e).trans this.2⟩
set_option maxRecDepth 100000 in
theorem FAt.off {S : Nat → Prop} {w w' : World} {v : Value} {F : Fls} (h : FAt w v F) (k : Off S w w') (hS : ∀ j, v.ownBlock = some j → ¬ S j) : FAt w' v F := by
  rcases h with h | ⟨bl, of, c, rfl, hc, hb⟩
  · exact .inl h
  · exact .inr ⟨bl, of, c, rfl, hc.off k hb (hS bl rfl), Nat.lt_of_lt_of_le hb k.size⟩
set_option maxRecDepth 100000 in
theorem FAt.below {B : Nat} {w w' : World} {v : Value} {F : Fls} (h : FAt w v F) (k : Below B w w') (hB : ∀ j, v.ownBlock = some j → j < B) : FAt w' v F := by
  rcases h with h | ⟨bl, of, c, rfl, hc, hb⟩
  · exact .inl h
  · refine .inr ⟨bl, of, c, rfl, fun i hi => ?_, Nat.lt_of_lt_of_le hb k.size⟩
    have := hc i hi
    have e := k.block bl (hB bl rfl)
    exact ⟨(World.cell?_of_block (a := ⟨bl, _, none⟩) e).trans this.1, (World.cell?_of_block (a := ⟨bl, _, none⟩) e).trans this.2⟩
set_option maxRecDepth 100000 in
theorem FAt.lt {w : World} {v : Value} {F : Fls} (h : FAt w v F) (hF : F ≠ []) : ∀ j, v.ownBlock = some j → j < w.heap.size := by
  rcases h with h | ⟨bl, of, c, rfl, hc, hb⟩
  · exact absurd h.1 hF
  · intro j hj; cases hj; exact hb

/-- the cells of files, one behind the other. -/
def flat (F : Fls) : List Value := F.flatMap fun x => [.string x.1, .string x.2]
set_option maxRecDepth 100000 in
theorem flat_nil : flat [] = [] := rfl
set_option maxRecDepth 100000 in
theorem flat_cons (x : ByteArray × ByteArray) (F : Fls) : flat (x :: F) = .string x.1 :: .string x.2 :: flat F := rfl
set_option maxRecDepth 100000 in
theorem flat_append (F G : Fls) : flat (F ++ G) = flat F ++ flat G := by simp [flat]
set_option maxRecDepth 100000 in
theorem flat_length : ∀ F : Fls, (flat F).length = F.length * 2
  | [] => rfl
  | x :: F => by rw [flat_cons]; simp [flat_length F]; omega
set_option maxRecDepth 100000 in
theorem flat_get : ∀ (F : Fls) (i : Nat) (h : i < F.length), (flat F)[i * 2]? = some (.string F[i].1) ∧ (flat F)[i * 2 + 1]? = some (.string F[i].2)
  | x :: F, 0, _ => by simp [flat_cons]
  | x :: F, i + 1, h => by
    have := flat_get F i (by simpa using h)
    rw [flat_cons, show (i + 1) * 2 = i * 2 + 1 + 1 by omega]
    simpa using this
set_option maxRecDepth 100000 in
theorem flat_oneCell (F : Fls) : ∀ u ∈ flat F, u.oneCell' = true := by
  intro u hu
  simp only [flat, List.mem_flatMap] at hu
  obtain ⟨x, _, hx⟩ := hu
  simp at hx
  rcases hx with rfl | rfl <;> rfl

/-- what a row that is owned holds. -/
theorem fat_of_row {w : World} {base : Nat} {v : Value} {F : Fls} (h : w.ownsRow base 47 2 v F.length (flat F)) : FAt w v F := by
  rcases h.2 with ⟨rfl, h0⟩ | ⟨g, cap, cur, rfl, hb, hg, _, _, hcs, htk⟩
  · exact .inl ⟨List.length_eq_zero_iff.1 h0, none, 0, rfl⟩
  · refine .inr ⟨g, 0, cap, rfl, fun i hi => ?_, (Array.getElem?_eq_some_iff.1 hg).1⟩
    have hf := flat_get F i hi
    rw [← htk] at hf
    have c1 : w.cell? ⟨g, 0 + i * 2, none⟩ = cur[0 + i * 2]? := cell_of_row w g _ _ _ _ hg
    have c2 : w.cell? ⟨g, 0 + i * 2 + 1, none⟩ = cur[0 + i * 2 + 1]? := cell_of_row w g _ _ _ _ hg
    rw [c1, c2]
    have g1 : ∀ j, j < F.length * 2 → (cur.toList.take (F.length * 2))[j]? = cur[j]? := fun j hj => by rw [List.getElem?_take_of_lt hj]; simp
    rw [g1 _ (by omega), g1 _ (by omega)] at hf
    rw [Nat.zero_add]
    exact hf

def sameB (F G : Fls) : Bool := decide (F = G)

set_option maxRecDepth 100000 in
theorem drewN_two (w : World) (n m : Nat) : (w.drewN n).drewN m = w.drewN (n + m) := by simp [World.drewN, Nat.add_assoc]

set_option maxRecDepth 100000 in
theorem neq_file (W : World) (p b p' b' : ByteArray) : (binOp .neq 47 (.agg #[.string p, .string b]) (.agg #[.string p', .string b'])).run Tryz.prog W = .ok (.bool (!(eqB p p' && eqB b b'))) W := by
  have hs : ∀ a b : ByteArray, (Op.equalIn 9999 9 (.string a) (.string b)).run Tryz.prog W = .ok (a.toList == b.toList) W := fun a b => run_equalIn_string W 9998 9 a b Tryz.underlying9
  rw [run_neq_struct, run_equalIn_agg W 9999 47 _ _ (by kernel_rfl) (by kernel_rfl)]
  have e : (Tryz.prog.fieldsOf 47).toList = [{ name := "Path", type := 9, offset := 0, embedded := false, tag := "", pkgPath := "", byteOffset := 0 }, { name := "Bytes", type := 9, offset := 1, embedded := false, tag := "", pkgPath := "", byteOffset := 16 }] := by kernel_rfl
  rw [e]
  go_simp
  by_cases h1 : p.toList = p'.toList
  · by_cases h2 : b.toList = b'.toList
    · simp [h1, h2, eqB]
    · simp [h1, h2, eqB]
  · simp [h1, eqB]

set_option maxRecDepth 100000 in
theorem row_below {w w' : World} {base : Nat} {e : TypeId} {size : Nat} {v : Value} {n : Nat} {xs : List Value} (h : w.ownsRow base e size v n xs) (hb : Below w.heap.size w w') : w'.ownsRow base e size v n xs := h.kept (below_grow hb) (by
  cases hv : v.ownBlock
  · exact .inl rfl
  · exact .inr (by simp))

set_option maxRecDepth 100000 in
theorem tab_set {w : World} {tb : Nat} {x u : Value} {t : TypeId} (h : w.heap[tb]? = some (.cells #[x] t)) : (w.setCell ⟨tb, 0, none⟩ u).heap[tb]? = some (.cells #[u] t) := by
  show (w.heap.modify tb _)[tb]? = _
  rw [Array.getElem?_modify, if_pos rfl, h]
  rfl

set_option maxRecDepth 100000 in
theorem fat_new (W : World) (F : Fls) (n : Nat) (hn : n = F.length) (cs : Array Value) (hcs : cs.toList = flat F) : FAt (W.alloc (.cells cs 47)) (.slice (some ⟨W.heap.size, 0, none⟩) n n) F := by
  subst hn
  refine .inr ⟨W.heap.size, 0, _, rfl, fun i hi => ?_, by simp⟩
  have hf := flat_get F i hi
  rw [← hcs] at hf
  rw [cell_of_row _ _ _ _ _ _ (heap_alloc_new W _), cell_of_row _ _ _ _ _ _ (heap_alloc_new W _), Nat.zero_add]
  simpa using hf

set_option maxRecDepth 100000 in
theorem addP (b o n : Nat) : (⟨b, o, none⟩ : Addr).add n = ⟨b, o + n, none⟩ := by
  unfold Addr.add
  split
  · rename_i h; subst h; rfl
  · rfl
set_option maxRecDepth 100000 in
theorem idx_file (W : World) (bl of n c k : Nat) (hk : k < n) : (Instr.indexAt 48 (.slice (some ⟨bl, of, none⟩) n c) (.int .i64 (k : Int))).run Tryz.prog W = .ok (.pointer (some ⟨bl, of + k * 2, none⟩)) W := by
  have h1 : (0 : Int) ≤ (k : Int) := by omega
  have h2 : (k : Int) < (n : Int) := by omega
  go_simp
set_option maxRecDepth 100000 in
theorem FAt.form {w : World} {v : Value} {F : Fls} (h : FAt w v F) : ∃ A c, v = .slice A F.length c ∧ ∀ k (hk : k < F.length), ∃ bl of, (∀ W, (Instr.indexAt 48 (.slice A F.length c) (.int .i64 (k : Int))).run Tryz.prog W = .ok (.pointer (some ⟨bl, of + k * 2, none⟩)) W) ∧
    bl < w.heap.size ∧ w.cell? ⟨bl, of + k * 2, none⟩ = some (.string F[k].1) ∧ w.cell? ⟨bl, of + k * 2 + 1, none⟩ = some (.string F[k].2) := by
  rcases h with ⟨rfl, a, c, rfl⟩ | ⟨bl, of, c, rfl, hc, hb⟩
  · exact ⟨a, c, rfl, fun k hk => by simp at hk⟩
  · exact ⟨_, c, rfl, fun k hk => ⟨bl, of, fun W => idx_file W bl of _ c k hk, hb, (hc k hk).1, (hc k hk).2⟩⟩

end Go.Proofs.YtpnljjcdlkjfhaaGreatDoor.Vf
