/- Own text. Modules' entries as they are read. The words as they are laid, and a world for the witness. -/
import Derived.Test.YtadkmlcnmkdfiaaGreatDoorGpA
import Derived.Test.YtadkmlcnmkdfiaaGreatDoorX9
import Derived.Test.YtadkmlcnmkdfiaaGreatDoorRows
import Derived.ProofKit
import Derived.OpenShut
import Derived.JoinedCond
import Derived.SizedLaws
import Derived.Carry
import Derived.Deep.Slices
import Derived.Deep.SlicePairs
import Derived.Test.YtadkmlcnmkdfiaaGreatDoorCards
import Derived.Test.YtadkmlcnmkdfiaaGreatDoorTie
import Derived.Test.YtadkmlcnmkdfiaaGreatDoorF3
import Derived.Deep.DeepHandedRow
import Derived.Lib.LaidU8
import Derived.Shelf.Vars
import Derived.Stop.LaidErr
namespace Go.Proofs.YtadkmlcnmkdfiaaGreatDoor
open Go.ChangeShapes Go.WideShapes Go.ChangeAt Go.RowKit Xp
set_option linter.unusedVariables false
set_option linter.unusedSimpArgs false

theorem bulk_slice {H : Type} (l r : List (DataW H)) : Rows.uptoBulk (.slice l r) = Rows.uptoBulkAll l + Rows.uptoBulkAll r + 1 := by simp [Rows.uptoBulk]
theorem bulk_mem {H : Type} : ∀ {l : List (DataW H)} {d : DataW H}, d ∈ l → Rows.uptoBulk d ≤ Rows.uptoBulkAll l
  | x :: r, d, h => by
    simp only [Rows.uptoBulkAll]
    rcases List.mem_cons.1 h with rfl | h
    · omega
    · have := bulk_mem h; omega
theorem bulk_pos {H : Type} : ∀ d : DataW H, 1 ≤ Rows.uptoBulk d
  | .lit l => by cases l <;> simp [Rows.uptoBulk]
  | .nil => by simp [Rows.uptoBulk]
  | .ptr d => by simp [Rows.uptoBulk]
  | .slice a b => by simp [Rows.uptoBulk]
  | .agg a => by simp [Rows.uptoBulk]
  | .iface a b => by simp [Rows.uptoBulk]
  | .map a => by simp [Rows.uptoBulk]
  | .held a => by simp [Rows.uptoBulk]
theorem cells_i : Tryz.prog.cellsOf 3 = 1 := by kernel_rfl
theorem addr_none {w : World} {a : Addr} {v : Value} (h : w.cell? a = some v) : a = ⟨a.block, a.off, none⟩ := by
  unfold World.cell? at h
  split at h
  · split at h
    · cases h
    · rename_i hs
      obtain ⟨b, o, s⟩ := a
      cases s with
      | none => rfl
      | some _ => simp at hs
  · cases h
theorem bulk_sum {H : Type} {α : Type} (D : Nat → DataW H) (q : Nat → α) (wt : α → Nat) : ∀ (l : List Nat), (∀ i ∈ l, wt (q i) ≤ Rows.uptoBulk (D i)) → ((l.map q).map wt).sum ≤ Rows.uptoBulkAll (l.map D)
  | [], _ => by simp
  | i :: l, h => by
    have ih := bulk_sum D q wt l (fun j hj => h j (by simp [hj]))
    have := h i (by simp)
    simp only [List.map_cons, List.sum_cons, Rows.uptoBulkAll]
    omega
set_option maxRecDepth 100000 in
theorem rows_open {H : Type} {enc : TypeId × Value → H} {W : World} {T e : TypeId} (ht : Tryz.prog.underlying T = some (.slice e)) {k : Nat} (hk : Tryz.prog.cellsOf e = k) (hk0 : 0 < k) {α : Type} (a0 : α) (C : α → List Value) (hC : ∀ q, (C q).length = k) (Good : α → Prop) (wt : α → Nat)
    (each : ∀ (n : Nat) (cs : List Value) (d : DataW H) (ps : List MemPlace), DataW.trod enc Tryz.prog W 0 (fun _ => true) true n e cs = some (d, ps) → cs.length = k → ∃ q, cs = C q ∧ Good q ∧ wt q ≤ Rows.uptoBulk d)
    {n : Nat} {cs : List Value} {d : DataW H} {ps : List MemPlace} (h : DataW.trod enc Tryz.prog W 0 (fun _ => true) true n T cs = some (d, ps)) :
    ∃ (v : Value) (l : List α), cs = [v] ∧ RowAt W W.heap.size v k (l.map C) ∧ (l.map wt).sum + 1 ≤ Rows.uptoBulk d ∧ ∀ q ∈ l, Good q := by
  rcases Deep.open_slice ht h with ⟨rfl, hx⟩ | ⟨a, len, cap, m, n', D, Pl, rfl, _, hl, hm, hmm, hx, hc⟩
  · exact ⟨_, [], rfl, ⟨⟨none, 0, rfl⟩, fun h0 => absurd h0 (by simp), fun ad n c e => by cases e; omega⟩, by have := bulk_pos d; simpa using this, by simp⟩
  · have hlm : len ≤ m := by rw [hmm]; simp; omega
    have hmc : m = cap := by rw [hmm]; simp
    have each' : ∀ i, i < m → ∃ q : α, (∀ j, j < k → W.cell? ((a.add (i * k)).add j) = (C q)[j]?) ∧ Good q ∧ wt q ≤ Rows.uptoBulk (D i) := fun i hi => by
      obtain ⟨cs', h1, h2⟩ := hc i hi
      rw [hk] at h1
      obtain ⟨_, hlen, hcell⟩ := World.cells?_some h1
      obtain ⟨q, e, zq⟩ := each _ _ _ _ h2 hlen
      subst e
      exact ⟨q, hcell, zq⟩
    obtain ⟨q, hq⟩ := @Deep.choose_lt α ⟨a0⟩ m _ each'
    have hd : d = .slice ((List.range len).map D) ((List.range (m - len)).map fun j => D (len + j)) := congrArg Prod.fst hx
    have hXl : (((List.range len).map q).map C).length = len := by simp
    refine ⟨_, (List.range len).map q, rfl, ⟨⟨_, _, by rw [hXl]⟩, fun h0 => ?_, fun ad n c e => by cases e; omega⟩, ?_, fun x hx => ?_⟩
    · rw [hXl] at h0
      obtain ⟨c0, _⟩ := hq 0 (by omega)
      have c00 := c0 0 hk0
      have hC0 := hC (q 0)
      rw [List.getElem?_eq_getElem (by omega)] at c00
      have ha0 : (a.add (0 * k)).add 0 = a := by simp [Addr.add]
      rw [ha0] at c00
      have ha := addr_none c00
      refine ⟨a.block, a.off, cap, by rw [hXl, ← ha], World.block_lt_of_cell? W a c00, fun i hi j u hu => ?_⟩
      rw [hXl] at hi
      obtain ⟨ci, _⟩ := hq i (by omega)
      have e : (((List.range len).map q).map C)[i]'(by rw [hXl]; exact hi) = C (q i) := by simp
      rw [e] at hu
      have hj : j < k := by have := (List.getElem?_eq_some_iff.1 hu).1; rwa [hC] at this
      have := ci j hj
      rw [ha, add_plain, add_plain, hu] at this
      exact this
    · rw [hd, bulk_slice]
      have := bulk_sum D q wt (List.range len) (fun i hi => (hq i (by have := List.mem_range.1 hi; omega)).2.2)
      omega
    · obtain ⟨i, hi, rfl⟩ := List.mem_map.1 hx
      have hi2 := List.mem_range.1 hi
      exact (hq i (by omega)).2.1
theorem under_ent : Tryz.prog.underlying 49 = some (.struct #[{ name := "Here", type := 9, offset := 0, embedded := false, tag := "", pkgPath := "", byteOffset := 0 }, { name := "There", type := 9, offset := 1, embedded := false, tag := "", pkgPath := "", byteOffset := 16 }, { name := "Mod", type := 3, offset := 2, embedded := false, tag := "", pkgPath := "", byteOffset := 32 }, { name := "Type", type := 4, offset := 3, embedded := false, tag := "", pkgPath := "", byteOffset := 40 }, { name := "Item", type := 3, offset := 4, embedded := false, tag := "", pkgPath := "", byteOffset := 48 }]) := by kernel_rfl
theorem under_ents : Tryz.prog.underlying 32 = some (.struct #[{ name := "Imports", type := 30, offset := 0, embedded := false, tag := "", pkgPath := "", byteOffset := 0 }, { name := "Own", type := 30, offset := 1, embedded := false, tag := "", pkgPath := "", byteOffset := 24 }, { name := "Others", type := 30, offset := 2, embedded := false, tag := "", pkgPath := "", byteOffset := 48 }, { name := "Stars", type := 30, offset := 3, embedded := false, tag := "", pkgPath := "", byteOffset := 72 }]) := by kernel_rfl
theorem cells_ent : Tryz.prog.cellsOf 49 = 5 := by kernel_rfl
theorem cells_ents : Tryz.prog.cellsOf 32 = 4 := by kernel_rfl
theorem cells_strO : Tryz.prog.cellsOf 9 = 1 := by kernel_rfl
theorem cells_boolO : Tryz.prog.cellsOf 4 = 1 := by kernel_rfl
theorem cells_entl : Tryz.prog.cellsOf 30 = 1 := by kernel_rfl
/-- how much an entry holds. -/
def wtE (e : En) : Nat := 4 + e.here.size + e.there.size
def wtL (l : List En) : Nat := (l.map wtE).sum
def wtM (e : Es) : Nat := 5 + wtL e.imp + wtL e.own + wtL e.oth + wtL e.st
def i64b (z : Int) : Prop := -9223372036854775808 ≤ z ∧ z ≤ 9223372036854775807
set_option maxRecDepth 100000 in
theorem ent_each {H : Type} {enc : TypeId × Value → H} {W : World} {n : Nat} {cs : List Value} {d : DataW H} {ps : List MemPlace} (h : DataW.trod enc Tryz.prog W 0 (fun _ => true) true n 49 cs = some (d, ps)) : ∃ q : En, cs = q.cs ∧ (i64b q.mod ∧ i64b q.item) ∧ wtE q ≤ Rows.uptoBulk d := by
  obtain ⟨xs, m, _, hxy, hcl, hxl, hf⟩ := DataW.trod_struct under_ent h
  rw [cells_ent] at hcl
  match cs, hcl with
  | [u0, u1, u2, u3, u4], _ =>
    match xs, hxl with
    | [y0, y1, y2, y3, y4], _ =>
      have g0 : DataW.trod enc Tryz.prog W 0 (fun _ => true) true m 9 [u0] = some y0 := by simpa [cells_strO] using hf 0 _ rfl
      have g1 : DataW.trod enc Tryz.prog W 0 (fun _ => true) true m 9 [u1] = some y1 := by simpa [cells_strO] using hf 1 _ rfl
      have g2 : DataW.trod enc Tryz.prog W 0 (fun _ => true) true m 3 [u2] = some y2 := by simpa [cells_i] using hf 2 _ rfl
      have g3 : DataW.trod enc Tryz.prog W 0 (fun _ => true) true m 4 [u3] = some y3 := by simpa [cells_boolO] using hf 3 _ rfl
      have g4 : DataW.trod enc Tryz.prog W 0 (fun _ => true) true m 3 [u4] = some y4 := by simpa [cells_i] using hf 4 _ rfl
      obtain ⟨s0, e0, f0, _⟩ := DataW.trod_string Tryz.underlying9 g0
      obtain ⟨s1, e1, f1, _⟩ := DataW.trod_string Tryz.underlying9 g1
      obtain ⟨z2, e2, _, w2⟩ := DataW.trod_int Tryz.underlying3 g2
      obtain ⟨s3, e3, _⟩ := DataW.trod_bool Tryz.underlying4 g3
      obtain ⟨z4, e4, _, w4⟩ := DataW.trod_int Tryz.underlying3 g4
      simp only [List.cons.injEq, and_true] at e0 e1 e2 e3 e4
      subst e0 e1 e2 e3 e4
      have hd : d = .agg [y0.1, y1.1, y2.1, y3.1, y4.1] := by simpa using congrArg Prod.fst hxy
      have hb : Rows.uptoBulk (DataW.agg [y0.1, y1.1, y2.1, y3.1, y4.1] : DataW H) = Rows.uptoBulk y0.1 + (Rows.uptoBulk y1.1 + (Rows.uptoBulk y2.1 + (Rows.uptoBulk y3.1 + (Rows.uptoBulk y4.1 + 0)))) + 1 := by simp [Rows.uptoBulk, Rows.uptoBulkAll]
      have p2 := bulk_pos y2.1
      have p3 := bulk_pos y3.1
      have p4 := bulk_pos y4.1
      have q0 : s0.size + 1 = Rows.uptoBulk y0.1 := by rw [f0]; show s0.size + 1 = s0.data.toList.length + 1; rw [Array.length_toList]; rfl
      have q1 : s1.size + 1 = Rows.uptoBulk y1.1 := by rw [f1]; show s1.size + 1 = s1.data.toList.length + 1; rw [Array.length_toList]; rfl
      refine ⟨⟨s0, s1, z2, s3, z4⟩, rfl, ⟨bounds_i64 w2, bounds_i64 w4⟩, ?_⟩
      rw [hd, hb]
      show 4 + s0.size + s1.size ≤ _
      omega
/-- a module's cells, and what they say. -/
structure Mq where
  a : Value
  b : Value
  c : Value
  d : Value
  e : Es
def Mq.cs (q : Mq) : List Value := [q.a, q.b, q.c, q.d]
def goodL (l : List En) : Prop := ∀ x ∈ l, i64b x.mod ∧ i64b x.item
def goodM (e : Es) : Prop := goodL e.imp ∧ goodL e.own ∧ goodL e.oth ∧ goodL e.st
set_option maxRecDepth 100000 in
theorem entl_open {H : Type} {enc : TypeId × Value → H} {W : World} {n : Nat} {u : Value} {d : DataW H} {ps : List MemPlace} (h : DataW.trod enc Tryz.prog W 0 (fun _ => true) true n 30 [u] = some (d, ps)) : ∃ l : List En, EnAt W W.heap.size u l ∧ goodL l ∧ wtL l + 1 ≤ Rows.uptoBulk d := by
  obtain ⟨v, l, e, r1, r2, r3⟩ := rows_open (α := En) Tryz.underlying30 cells_ent (by decide) ⟨ByteArray.empty, ByteArray.empty, 0, false, 0⟩ En.cs (fun _ => rfl) (fun q => i64b q.mod ∧ i64b q.item) wtE (fun n cs d ps h _ => ent_each h) h
  simp only [List.cons.injEq, and_true] at e
  subst e
  exact ⟨l, r1, r3, r2⟩
set_option maxRecDepth 100000 in
theorem mod_each {H : Type} {enc : TypeId × Value → H} {W : World} {n : Nat} {cs : List Value} {d : DataW H} {ps : List MemPlace} (h : DataW.trod enc Tryz.prog W 0 (fun _ => true) true n 32 cs = some (d, ps)) : ∃ q : Mq, cs = q.cs ∧ ((EnAt W W.heap.size q.a q.e.imp ∧ EnAt W W.heap.size q.b q.e.own ∧ EnAt W W.heap.size q.c q.e.oth ∧ EnAt W W.heap.size q.d q.e.st) ∧ goodM q.e) ∧ wtM q.e ≤ Rows.uptoBulk d := by
  obtain ⟨xs, m, _, hxy, hcl, hxl, hf⟩ := DataW.trod_struct under_ents h
  rw [cells_ents] at hcl
  match cs, hcl with
  | [u0, u1, u2, u3], _ =>
    match xs, hxl with
    | [y0, y1, y2, y3], _ =>
      have g0 : DataW.trod enc Tryz.prog W 0 (fun _ => true) true m 30 [u0] = some (y0.1, y0.2) := by simpa [cells_entl] using hf 0 _ rfl
      have g1 : DataW.trod enc Tryz.prog W 0 (fun _ => true) true m 30 [u1] = some (y1.1, y1.2) := by simpa [cells_entl] using hf 1 _ rfl
      have g2 : DataW.trod enc Tryz.prog W 0 (fun _ => true) true m 30 [u2] = some (y2.1, y2.2) := by simpa [cells_entl] using hf 2 _ rfl
      have g3 : DataW.trod enc Tryz.prog W 0 (fun _ => true) true m 30 [u3] = some (y3.1, y3.2) := by simpa [cells_entl] using hf 3 _ rfl
      obtain ⟨l0, a0, b0, c0⟩ := entl_open g0
      obtain ⟨l1, a1, b1, c1⟩ := entl_open g1
      obtain ⟨l2, a2, b2, c2⟩ := entl_open g2
      obtain ⟨l3, a3, b3, c3⟩ := entl_open g3
      have hd : d = .agg [y0.1, y1.1, y2.1, y3.1] := by simpa using congrArg Prod.fst hxy
      have hb : Rows.uptoBulk (DataW.agg [y0.1, y1.1, y2.1, y3.1] : DataW H) = Rows.uptoBulk y0.1 + (Rows.uptoBulk y1.1 + (Rows.uptoBulk y2.1 + (Rows.uptoBulk y3.1 + 0))) + 1 := by simp [Rows.uptoBulk, Rows.uptoBulkAll]
      refine ⟨⟨u0, u1, u2, u3, ⟨l0, l1, l2, l3⟩⟩, rfl, ⟨⟨a0, a1, a2, a3⟩, b0, b1, b2, b3⟩, ?_⟩
      rw [hd, hb]
      show 5 + wtL l0 + wtL l1 + wtL l2 + wtL l3 ≤ _
      omega
set_option maxRecDepth 100000 in
theorem open_ms {H : Type} {enc : TypeId × Value → H} {W : World} {base : Nat} {v : Value} {d : DataW H} {ps : List MemPlace} (hv : Value.okWide Tryz.prog W .any base 39 v) (h : DataW.Trod enc Tryz.prog W 0 (fun _ => true) true 39 v d ps) :
    ∃ L : List Es, MsAt W W.heap.size v L ∧ (∀ e ∈ L, goodM e) ∧ (L.map wtM).sum ≤ Rows.uptoBulk d := by
  obtain ⟨a0, len0, cap0, rfl⟩ := okWide_slice Tryz.underlying39 hv
  obtain ⟨fuel, h⟩ := h
  obtain ⟨v, l, e, r1, r2, r3⟩ := rows_open (α := Mq) Tryz.underlying39 cells_ents (by decide) ⟨undef, undef, undef, undef, ⟨[], [], [], []⟩⟩ Mq.cs (fun _ => rfl) (fun q => (EnAt W W.heap.size q.a q.e.imp ∧ EnAt W W.heap.size q.b q.e.own ∧ EnAt W W.heap.size q.c q.e.oth ∧ EnAt W W.heap.size q.d q.e.st) ∧ goodM q.e) (fun q => wtM q.e) (fun n cs d ps h _ => mod_each h) h
  simp only [Value.cells, List.cons.injEq, and_true] at e
  subst e
  refine ⟨l.map (·.e), ⟨l.map Mq.cs, by simp, r1, fun i hi hi' => ?_⟩, fun e he => ?_, ?_⟩
  · have hi2 : i < l.length := by simpa using hi
    obtain ⟨⟨g0, g1, g2, g3⟩, _⟩ := r3 l[i] (List.getElem_mem hi2)
    exact ⟨l[i].a, l[i].b, l[i].c, l[i].d, by simp [Mq.cs], by simpa using g0, by simpa using g1, by simpa using g2, by simpa using g3⟩
  · obtain ⟨q, hq, rfl⟩ := List.mem_map.1 he
    exact (r3 q hq).2
  · rw [List.map_map]
    have : (wtM ∘ fun x : Mq => x.e) = fun q => wtM q.e := rfl
    rw [this]
    omega
/-- what such a bound tells. -/
theorem wtL_len : ∀ l : List En, 4 * l.length ≤ wtL l
  | [] => by simp [wtL]
  | e :: l => by have := wtL_len l; unfold wtL at *; simp only [List.map_cons, List.sum_cons, List.length_cons, wtE]; omega
theorem wtL_mem {l : List En} {e : En} (h : e ∈ l) : wtE e ≤ wtL l := by
  induction l with
  | nil => simp at h
  | cons x l ih =>
    unfold wtL at *
    simp only [List.map_cons, List.sum_cons]
    rcases List.mem_cons.1 h with rfl | h
    · omega
    · have := ih h; omega
theorem wtM_mem {L : List Es} {e : Es} (h : e ∈ L) : wtM e ≤ (L.map wtM).sum := by
  induction L with
  | nil => simp at h
  | cons x L ih =>
    simp only [List.map_cons, List.sum_cons]
    rcases List.mem_cons.1 h with rfl | h
    · omega
    · have := ih h; omega
theorem wtM_sum : ∀ L : List Es, 5 * L.length + 4 * (L.flatMap fun e => e.oth.map (·.there)).length ≤ (L.map wtM).sum
  | [] => by simp
  | e :: L => by
    have := wtM_sum L
    have := wtL_len e.oth
    simp only [List.map_cons, List.sum_cons, List.length_cons, List.flatMap_cons, List.length_append, List.length_map, wtM]
    omega
theorem uni_len (L : List Es) (N : List ByteArray) : (Uni L N).length = L.length * N.length := by
  unfold Uni
  rw [List.length_flatMap]
  simp only [List.length_map]
  have : ∀ n m : Nat, ((List.range n).map fun _ => m).sum = n * m := fun n m => by
    induction n with
    | zero => simp
    | succ n ih => rw [List.range_succ, List.map_append, List.sum_append, ih]; simp [Nat.succ_mul]
  exact this _ _
/-- all that the contracts ask. -/
structure Small (L : List Es) : Prop where
  n : L.length ≤ 209715
  e : ∀ e ∈ L, e.own.length ≤ 262144 ∧ e.oth.length ≤ 262144 ∧ e.st.length ≤ 262144
  s : ∀ e ∈ L, ∀ x, x ∈ e.own ∨ x ∈ e.oth ∨ x ∈ e.st → x.here.size ≤ 1048576 ∧ x.there.size ≤ 1048576
  o : (L.flatMap fun e => e.oth.map (·.there)).length ≤ 262144
theorem small_of {L : List Es} (h : (L.map wtM).sum ≤ 1048576) : Small L := by
  have h0 := wtM_sum L
  refine ⟨by omega, fun e he => ?_, fun e he x hx => ?_, by omega⟩
  · have h1 := wtM_mem he
    have a := wtL_len e.own
    have b := wtL_len e.oth
    have c := wtL_len e.st
    have h2 : wtM e ≤ 1048576 := by omega
    unfold wtM at h2
    omega
  · have h1 := wtM_mem he
    have h2 : wtM e ≤ 1048576 := by omega
    clear h h1 h0
    unfold wtM at h2
    rcases hx with hx | hx | hx <;> (have := wtL_mem hx; unfold wtE at this; omega)
theorem Small.hE {L : List Es} (h : Small L) : ∀ e ∈ L, e.own.length ≤ 1048576 ∧ e.oth.length ≤ 1048576 ∧ e.st.length ≤ 1048576 := fun e he => by have := h.e e he; omega
theorem Small.hN {L : List Es} (h : Small L) : ∀ e ∈ L, ∀ x ∈ e.own, x.here.size ≤ 1048576 := fun e he x hx => (h.s e he x (.inl hx)).1
theorem Small.hU {L : List Es} (h : Small L) (n : ByteArray) : (Uni L (Nms L n)).length ≤ 274877906944 := by
  rw [uni_len]
  have h1 : (Nms L n).length ≤ 262145 := by unfold Nms; rw [List.length_cons]; have := h.o; omega
  exact Nat.le_trans (Nat.mul_le_mul h.n h1) (by decide)
end Go.Proofs.YtadkmlcnmkdfiaaGreatDoor
namespace Go.Proofs.YtadkmlcnmkdfiaaGreatDoor
open Go.ChangeShapes Go.WideShapes Go.ChangeAt Go.RowKit
set_option linter.unusedVariables false

theorem own : ownKnob Tryz.prog.godebug = none := by kernel_rfl
theorem laidOut : laidOutB Tryz.prog = true := by kernel_rfl
theorem below_trodAll {H : Type} {enc : TypeId × Value → H} {P : Program} (hl : laidOutB P = true) {W W' : World} (hb : Below W.heap.size W W') : ∀ (ts : List TypeId) {vs : List Value} {ds : List (DataW H)} {ps : List MemPlace},
    ts.all (fun t => P.readableRec t && decide (t < P.types.size)) = true → DataW.TrodAll enc P W 0 (fun _ => true) true ts vs ds ps → (∀ x ∈ ps, x.block < W.heap.size) →
    DataW.TrodAll enc P W' 0 (fun b => decide (b < W.heap.size)) true ts vs ds ps := by
  intro ts
  induction ts with
  | nil =>
    intro vs ds ps _ h _
    cases vs <;> cases ds <;> first | exact h | exact h.elim
  | cons t ts ih =>
    intro vs ds ps hr h hlt
    obtain ⟨v, vs', d, ds', p, q, rfl, rfl, rfl, h1, h2⟩ := trodAll_cons h
    simp only [List.all_cons, Bool.and_eq_true, decide_eq_true_eq] at hr
    exact ⟨p, q, Below.trod hl hr.1.1 hr.1.2 h1 hb (fun x hx => hlt x (by simp [hx])), ih (by simpa using hr.2) h2 (fun x hx => hlt x (by simp [hx])), rfl⟩

/-- The tables that the rows list. -/
abbrev laidTabs : List (String × DataW Unit) := [("gusset/lex.words", Rows.laid_gusset_lex_words)]

theorem cells_of_texts {W : World} {fuel : Nat} {t e : TypeId} {n : Nat} {cs : List Value} {l : List (List UInt8)} {p : List MemPlace} (ht : Tryz.prog.underlying t = some (.array n e)) (he : Tryz.prog.underlying e = some .string) (hce : Tryz.prog.cellsOf e = 1) (hct : Tryz.prog.cellsOf t = n) (hn : l.length = n)
    (h : DataW.trod (fun _ => ()) Tryz.prog W 0 (fun _ => true) false fuel t cs = some (.agg (l.map fun b => .lit (.string b)), p)) (hcl : cs.length = n) : cs = textC l := by
  apply List.ext_getElem?
  intro i
  by_cases hi : i < n
  · obtain ⟨fuel', d, q, hd, hf⟩ := Lib.array_elem ht h i hi
    rw [hce, Nat.mul_one] at hf
    obtain ⟨s, hc, hx, _⟩ := DataW.trod_string he hf
    have h1 : cs[i]? = some (.string s) := by
      have := congrArg (·[0]?) hc
      simpa [List.getElem?_take, List.getElem?_drop] using this
    simp only [Prod.mk.injEq] at hx
    rw [List.getElem?_map, hx.1] at hd
    obtain ⟨b, hb, e⟩ := Option.map_eq_some_iff.1 hd
    simp only [DataW.lit.injEq, Lit.string.injEq] at e
    rw [h1]
    simp only [textC, List.getElem?_map, hb, Option.map_some, e]
  · rw [List.getElem?_eq_none (by omega), List.getElem?_eq_none (by simp [textC]; omega)]
theorem trod_array_len {W : World} {fuel : Nat} {t e : TypeId} {n : Nat} {cs : List Value} {x : DataW Unit × List MemPlace} (ht : Tryz.prog.underlying t = some (.array n e)) (hct : Tryz.prog.cellsOf t = n)
    (h : DataW.trod (fun _ => ()) Tryz.prog W 0 (fun _ => true) false fuel t cs = some x) : cs.length = n := by
  cases fuel with
  | zero => simp [DataW.trod] at h
  | succ fuel =>
    simp only [DataW.trod, ht, hct] at h
    split at h
    · rename_i hl; simpa using hl
    · cases h
theorem texts_laid {W : World} {name : String} {g : Nat} {t e : TypeId} {n : Nat} (l : List (List UInt8)) (hg : Tryz.prog.globalNamed name = some g) (hty : (Tryz.prog.globals[g]?).map (·.type) = some t) (ht : Tryz.prog.underlying t = some (.array n e)) (he : Tryz.prog.underlying e = some .string) (hce : Tryz.prog.cellsOf e = 1) (hct : Tryz.prog.cellsOf t = n) (hn : l.length = n)
    (h : Lib.VarReads Tryz.prog W name (.agg (l.map fun b => .lit (.string b)))) : ∃ t fr, W.heap[g]? = some (.cells (textC l).toArray t fr) := by
  obtain ⟨g', t', cs, fuel, p, hg', ht', hvar, hd⟩ := h
  obtain rfl := Option.some.inj (hg.symm.trans hg')
  obtain rfl := Option.some.inj (hty.symm.trans ht')
  have hc := cells_of_texts ht he hce hct hn hd (trod_array_len ht hct hd)
  unfold World.var? at hvar
  rw [hg] at hvar
  simp only [Option.bind_some] at hvar
  cases hb : W.heap[g]? with
  | none => rw [hb] at hvar; cases hvar
  | some o =>
    rw [hb] at hvar
    cases o with
    | cells cs' t2 fr =>
      cases hvar
      exact ⟨t2, fr, by rw [← hc]⟩
    | _ => cases hvar
theorem words_is : (Rows.laid_gusset_lex_words : DataW Unit) = .agg (wordsF.map fun b => .lit (.string b)) := by kernel_rfl
theorem env_of {W : World} (h : laidMetH Tryz.prog laidTabs W) (hsh : W.ShapedOpen Tryz.prog) : WEnv W := by
  have hl : laidMet Tryz.prog laidTabs W := h
  have r4 : Lib.VarReads Tryz.prog W "gusset/lex.words" Rows.laid_gusset_lex_words := Lib.laidMet.reads hl (by simp)
  rw [words_is] at r4
  exact texts_laid (g := 0) wordsF (by kernel_rfl) (by kernel_rfl) Tryz.underlying133 Tryz.underlying9 (by kernel_rfl) (by kernel_rfl) rfl r4
def layCells (C : Array Value) : Obj → Obj
  | .cells _ t frozen => .cells C t frozen
  | o => o
/-- The table's block, holding what its initialiser lays: for the witness. -/
def layTabs (h : Array Obj) : Array Obj := h.modify 0 (layCells (textC wordsF).toArray)
end Go.Proofs.YtadkmlcnmkdfiaaGreatDoor
