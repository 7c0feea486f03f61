/- Own text. A graph of modules as it is read: its modules' requests in memory. -/
import Derived.Test.YtbliaamckldncaaOd9
namespace Go.Proofs.Ytbliaamckldncaa
open Go.ChangeShapes Go.WideShapes Go.ChangeAt Go.RowKit
set_option linter.unusedVariables false
set_option linter.unusedSimpArgs false

/-- things of k cells in a row, below block B. -/
structure RowAt (w : World) (B : Nat) (v : Value) (k : Nat) (X : List (List Value)) : Prop where
  f : ∃ ad c, v = .slice ad X.length c
  c : 0 < X.length → ∃ b o c, v = .slice (some ⟨b, o, none⟩) X.length c ∧ b < B ∧ ∀ i (h : i < X.length) j u, X[i][j]? = some u → w.cell? ⟨b, o + i * k + j, none⟩ = some u
theorem RowAt.bel {w w' : World} {B : Nat} {v : Value} {k : Nat} {X : List (List Value)} (h : RowAt w B v k X) (b : Below B w w') : RowAt w' B v k X :=
  ⟨h.f, fun h0 => by
    obtain ⟨b', o, c, e, hb, hc⟩ := h.c h0
    exact ⟨b', o, c, e, hb, fun i hi j u hu => (World.cell?_of_block (a := ⟨b', o + i * k + j, none⟩) (b.block b' hb)).trans (hc i hi j u hu)⟩⟩
theorem RowAt.mono {w : World} {B B' : Nat} {v : Value} {k : Nat} {X : List (List Value)} (h : RowAt w B v k X) (b : B ≤ B') : RowAt w B' v k X :=
  ⟨h.f, fun h0 => by
    obtain ⟨b', o, c, e, hb, hc⟩ := h.c h0
    exact ⟨b', o, c, e, Nat.lt_of_lt_of_le hb b, hc⟩⟩
set_option maxRecDepth 100000 in
theorem rows_open {H : Type} {enc : TypeId × Value → H} {W : World} {T e : TypeId} (ht : Try.prog.underlying T = some (.slice e)) {k : Nat} (hk : Try.prog.cellsOf e = k) (hk0 : 0 < k) {α : Type} (a0 : α) (C : α → List Value) (hC : ∀ q, (C q).length = k) (Good : α → DataW H → Prop)
    (each : ∀ (n : Nat) (cs : List Value) (d : DataW H) (ps : List MemPlace), DataW.trod enc Try.prog W 0 (fun _ => true) true n e cs = some (d, ps) → cs.length = k → ∃ q, cs = C q ∧ Good q d)
    {n : Nat} {cs : List Value} {d : DataW H} {ps : List MemPlace} (h : DataW.trod enc Try.prog W 0 (fun _ => true) true n T cs = some (d, ps)) :
    ∃ (v : Value) (l : List α), cs = [v] ∧ RowAt W W.heap.size v k (l.map C) ∧ l.length ≤ Rows.uptoBulk d ∧ ∀ q ∈ l, ∃ d', Good q d' ∧ Rows.uptoBulk d' ≤ Rows.uptoBulk d := by
  rcases Deep.open_slice ht h with ⟨rfl, hx⟩ | ⟨a, len, cap, m, n', D, Pl, rfl, _, hl, hm, hmm, hx, hc⟩
  · exact ⟨_, [], rfl, ⟨⟨none, 0, rfl⟩, fun h0 => absurd h0 (by simp)⟩, by simp, by simp⟩
  · have hlm : len ≤ m := by rw [hmm]; simp; omega
    have each' : ∀ i, i < m → ∃ q : α, (∀ j, j < k → W.cell? ((a.add (i * k)).add j) = (C q)[j]?) ∧ Good q (D i) := fun i hi => by
      obtain ⟨cs', h1, h2⟩ := hc i hi
      rw [hk] at h1
      obtain ⟨_, hlen, hcell⟩ := World.cells?_some h1
      obtain ⟨q, e, zq⟩ := each _ _ _ _ h2 hlen
      subst e
      exact ⟨q, hcell, zq⟩
    obtain ⟨q, hq⟩ := @Deep.choose_lt α ⟨a0⟩ m _ each'
    have hd : d = .slice ((List.range len).map D) ((List.range (m - len)).map fun j => D (len + j)) := congrArg Prod.fst hx
    have hXl : (((List.range len).map q).map C).length = len := by simp
    refine ⟨_, (List.range len).map q, rfl, ⟨⟨_, _, by rw [hXl]⟩, fun h0 => ?_⟩, ?_, fun x hx => ?_⟩
    · rw [hXl] at h0
      obtain ⟨c0, _⟩ := hq 0 (by omega)
      have c00 := c0 0 hk0
      have hC0 := hC (q 0)
      rw [List.getElem?_eq_getElem (by omega)] at c00
      have ha0 : (a.add (0 * k)).add 0 = a := by simp [Addr.add]
      rw [ha0] at c00
      have ha := addr_none c00
      refine ⟨a.block, a.off, cap, by rw [hXl, ← ha], World.block_lt_of_cell? W a c00, fun i hi j u hu => ?_⟩
      rw [hXl] at hi
      obtain ⟨ci, _⟩ := hq i (by omega)
      have e : (((List.range len).map q).map C)[i]'(by rw [hXl]; exact hi) = C (q i) := by simp
      rw [e] at hu
      have hj : j < k := by have := (List.getElem?_eq_some_iff.1 hu).1; rwa [hC] at this
      have := ci j hj
      rw [ha, add_plain, add_plain, hu] at this
      exact this
    · rw [hd, bulk_slice]
      have := bulk_len ((List.range len).map D)
      simp only [List.length_map, List.length_range] at this ⊢
      omega
    · obtain ⟨i, hi, rfl⟩ := List.mem_map.1 hx
      have hi2 := List.mem_range.1 hi
      refine ⟨D i, (hq i (by omega)).2, ?_⟩
      rw [hd, bulk_slice]
      have := bulk_mem (List.mem_map.2 ⟨i, hi, rfl⟩ : D i ∈ (List.range len).map D)
      omega
/-- a request: text, of types alone, item, target. -/
structure Rq where
  t : ByteArray
  b : Bool
  i : Int
  n : Int
def Rq.cs (q : Rq) : List Value := [.string q.t, .bool q.b, .int .i64 q.i, .int .i64 q.n]
theorem under_req : Try.prog.underlying 45 = some (.struct #[{ name := "Text", type := 9, offset := 0, embedded := false, tag := "", pkgPath := "", byteOffset := 0 }, { name := "Type", type := 4, offset := 1, embedded := false, tag := "", pkgPath := "", byteOffset := 16 }, { name := "Item", type := 3, offset := 2, embedded := false, tag := "", pkgPath := "", byteOffset := 24 }, { name := "Target", type := 3, offset := 3, embedded := false, tag := "", pkgPath := "", byteOffset := 32 }]) := by kernel_rfl
theorem under_mod : Try.prog.underlying 43 = some (.struct #[{ name := "Path", type := 9, offset := 0, embedded := false, tag := "", pkgPath := "", byteOffset := 0 }, { name := "Tree", type := 40, offset := 1, embedded := false, tag := "", pkgPath := "", byteOffset := 16 }, { name := "Requests", type := 41, offset := 5, embedded := false, tag := "", pkgPath := "", byteOffset := 72 }]) := by kernel_rfl
theorem under_graph : Try.prog.underlying 36 = some (.struct #[{ name := "Mods", type := 34, offset := 0, embedded := false, tag := "", pkgPath := "", byteOffset := 0 }]) := by kernel_rfl
theorem cells_req : Try.prog.cellsOf 45 = 4 := by kernel_rfl
theorem cells_mod : Try.prog.cellsOf 43 = 6 := by kernel_rfl
theorem cells_nd : Try.prog.cellsOf 40 = 4 := by kernel_rfl
theorem cells_nds : Try.prog.cellsOf 38 = 1 := by kernel_rfl
theorem under_nd : Try.prog.underlying 40 = some (.struct #[{ name := "Kind", type := 3, offset := 0, embedded := false, tag := "", pkgPath := "", byteOffset := 0 }, { name := "Text", type := 9, offset := 1, embedded := false, tag := "", pkgPath := "", byteOffset := 8 }, { name := "N", type := 3, offset := 2, embedded := false, tag := "", pkgPath := "", byteOffset := 24 }, { name := "Kids", type := 38, offset := 3, embedded := false, tag := "", pkgPath := "", byteOffset := 32 }]) := by kernel_rfl
theorem cells_str : Try.prog.cellsOf 9 = 1 := by kernel_rfl
theorem cells_bool : Try.prog.cellsOf 4 = 1 := by kernel_rfl
theorem cells_reqs : Try.prog.cellsOf 41 = 1 := by kernel_rfl
theorem cells_mods : Try.prog.cellsOf 34 = 1 := by kernel_rfl
theorem req_each {H : Type} {enc : TypeId × Value → H} {W : World} {n : Nat} {cs : List Value} {d : DataW H} {ps : List MemPlace} (h : DataW.trod enc Try.prog W 0 (fun _ => true) true n 45 cs = some (d, ps)) : ∃ q : Rq, cs = q.cs ∧ -9223372036854775808 ≤ q.n ∧ q.n ≤ 9223372036854775807 := by
  obtain ⟨xs, m, _, hxy, hcl, hxl, hf⟩ := DataW.trod_struct under_req h
  rw [cells_req] at hcl
  match cs, hcl with
  | [u0, u1, u2, u3], _ =>
    match xs, hxl with
    | [y0, y1, y2, y3], _ =>
      have g0 : DataW.trod enc Try.prog W 0 (fun _ => true) true m 9 [u0] = some y0 := by simpa [cells_str] using hf 0 _ rfl
      have g1 : DataW.trod enc Try.prog W 0 (fun _ => true) true m 4 [u1] = some y1 := by simpa [cells_bool] using hf 1 _ rfl
      have g2 : DataW.trod enc Try.prog W 0 (fun _ => true) true m 3 [u2] = some y2 := by simpa [cells_i] using hf 2 _ rfl
      have g3 : DataW.trod enc Try.prog W 0 (fun _ => true) true m 3 [u3] = some y3 := by simpa [cells_i] using hf 3 _ rfl
      obtain ⟨s0, e0, _, _⟩ := DataW.trod_string Try.underlying9 g0
      obtain ⟨s1, e1, _⟩ := DataW.trod_bool Try.underlying4 g1
      obtain ⟨z2, e2, _, _⟩ := DataW.trod_int Try.underlying3 g2
      obtain ⟨z3, e3, _, w3⟩ := DataW.trod_int Try.underlying3 g3
      simp only [List.cons.injEq, and_true] at e0 e1 e2 e3
      subst e0 e1 e2 e3
      have hb := bounds_i64 w3
      exact ⟨⟨s0, s1, z2, z3⟩, rfl, hb.1, hb.2⟩
/-- a module's cells: its path, its tree, its requests. -/
structure Md where
  p : ByteArray
  k : Int
  s : ByteArray
  n : Int
  a : Option Addr
  l : Nat
  c : Nat
  u : Value
def Md.cs (q : Md) : List Value := [.string q.p, .int .i64 q.k, .string q.s, .int .i64 q.n, .slice q.a q.l q.c, q.u]
/-- modules' requests in memory. -/
structure GrAt (w : World) (B : Nat) (v : Value) (M : List (List Rq)) : Prop where
  h : ∃ X : List (List Value), X.length = M.length ∧ RowAt w B v 6 X ∧ ∀ i (h : i < M.length) (h' : i < X.length), ∃ q : Md, X[i] = q.cs ∧ RowAt w B q.u 4 (M[i].map Rq.cs)
theorem GrAt.bel {w w' : World} {B : Nat} {v : Value} {M : List (List Rq)} (h : GrAt w B v M) (b : Below B w w') : GrAt w' B v M := by
  obtain ⟨X, h1, h2, h3⟩ := h.h
  exact ⟨X, h1, h2.bel b, fun i hi hi' => by obtain ⟨q, q1, q2⟩ := h3 i hi hi'; exact ⟨q, q1, q2.bel b⟩⟩
theorem GrAt.mono {w : World} {B B' : Nat} {v : Value} {M : List (List Rq)} (h : GrAt w B v M) (b : B ≤ B') : GrAt w B' v M := by
  obtain ⟨X, h1, h2, h3⟩ := h.h
  exact ⟨X, h1, h2.mono b, fun i hi hi' => by obtain ⟨q, q1, q2⟩ := h3 i hi hi'; exact ⟨q, q1, q2.mono b⟩⟩
theorem GrAt.op {w : World} {B : Nat} {v : Value} {M : List (List Rq)} (h : GrAt w B v M) : ∃ ad c, v = .slice ad M.length c := by
  obtain ⟨X, h1, h2, h3⟩ := h.h
  obtain ⟨ad, c, e⟩ := h2.f
  exact ⟨ad, c, by rw [e, h1]⟩
theorem GrAt.cl {w : World} {B : Nat} {v : Value} {M : List (List Rq)} (h : GrAt w B v M) (h0 : 0 < M.length) : ∃ (b o c : Nat) (f : Nat → Value), v = .slice (some ⟨b, o, none⟩) M.length c ∧ b < B ∧ ∀ i (h : i < M.length), w.cell? ⟨b, o + i * 6 + 5, none⟩ = some (f i) ∧ RowAt w B (f i) 4 (M[i].map Rq.cs) := by
  obtain ⟨X, h1, h2, h3⟩ := h.h
  obtain ⟨b, o, c, e, hb, hc⟩ := h2.c (by omega)
  refine ⟨b, o, c, fun i => ((X[i]?.getD [])[5]?).getD undef, by rw [e, h1], hb, fun i hi => ?_⟩
  obtain ⟨q, q0, q2⟩ := h3 i hi (by omega)
  obtain ⟨u, hu, q1⟩ : ∃ u, q.u = u ∧ X[i][5]? = some u := ⟨_, rfl, by rw [q0]; rfl⟩
  rw [hu] at q2
  have hi' : i < X.length := by omega
  have e2 : ((X[i]?.getD [])[5]?).getD undef = u := by rw [List.getElem?_eq_getElem hi', Option.getD_some, q1]; rfl
  simp only [e2]
  exact ⟨hc i (by omega) 5 u q1, q2⟩
/-- a module's six cells. -/
theorem GrAt.cl6 {w : World} {B : Nat} {v : Value} {M : List (List Rq)} (h : GrAt w B v M) {i : Nat} (hi : i < M.length) : ∃ (b o c : Nat) (q : Md), v = .slice (some ⟨b, o, none⟩) M.length c ∧ b < B ∧ (w.cell? ⟨b, o + i * 6, none⟩ = some (.string q.p) ∧ w.cell? ⟨b, o + i * 6 + 1, none⟩ = some (.int .i64 q.k) ∧ w.cell? ⟨b, o + i * 6 + 2, none⟩ = some (.string q.s) ∧ w.cell? ⟨b, o + i * 6 + 3, none⟩ = some (.int .i64 q.n) ∧ w.cell? ⟨b, o + i * 6 + 4, none⟩ = some (.slice q.a q.l q.c) ∧ w.cell? ⟨b, o + i * 6 + 5, none⟩ = some q.u) ∧ RowAt w B q.u 4 (M[i].map Rq.cs) := by
  obtain ⟨X, h1, h2, h3⟩ := h.h
  obtain ⟨b, o, c, e, hb, hc⟩ := h2.c (by omega)
  obtain ⟨q, q0, q2⟩ := h3 i hi (by omega)
  have g := hc i (by omega)
  rw [q0] at g
  exact ⟨b, o, c, q, by rw [e, h1], hb, ⟨g 0 _ rfl, g 1 _ rfl, g 2 _ rfl, g 3 _ rfl, g 4 _ rfl, g 5 _ rfl⟩, q2⟩
/-- one request. -/
theorem reqs_cl {w : World} {B : Nat} {v : Value} {l : List Rq} (h : RowAt w B v 4 (l.map Rq.cs)) : (∃ ad c, v = .slice ad l.length c) ∧ (0 < l.length → ∃ b o c, v = .slice (some ⟨b, o, none⟩) l.length c ∧ b < B ∧ ∀ j (h : j < l.length), (w.cell? ⟨b, o + j * 4, none⟩ = some (.string l[j].t) ∧ w.cell? ⟨b, o + j * 4 + 1, none⟩ = some (.bool l[j].b)) ∧ w.cell? ⟨b, o + j * 4 + 2, none⟩ = some (.int .i64 l[j].i) ∧ w.cell? ⟨b, o + j * 4 + 3, none⟩ = some (.int .i64 l[j].n)) := by
  have hl : (l.map Rq.cs).length = l.length := by simp
  refine ⟨?_, fun h0 => ?_⟩
  · obtain ⟨ad, c, e⟩ := h.f; exact ⟨ad, c, by rw [e, hl]⟩
  · obtain ⟨b, o, c, e, hb, hc⟩ := h.c (by omega)
    refine ⟨b, o, c, by rw [e, hl], hb, fun j hj => ?_⟩
    have e2 : (l.map Rq.cs)[j]'(by omega) = l[j].cs := by simp
    have g := fun k u => hc j (by omega) k u
    rw [e2] at g
    exact ⟨⟨g 0 _ rfl, g 1 _ rfl⟩, g 2 _ rfl, g 3 _ rfl⟩
set_option maxRecDepth 100000 in
theorem mods_open {H : Type} {enc : TypeId × Value → H} {W : World} {n : Nat} {cs : List Value} {d : DataW H} {ps : List MemPlace} (h : DataW.trod enc Try.prog W 0 (fun _ => true) true n 34 cs = some (d, ps)) :
    ∃ (v : Value) (M : List (List Rq)), cs = [v] ∧ GrAt W W.heap.size v M ∧ M.length ≤ Rows.uptoBulk d ∧ ∀ l ∈ M, l.length ≤ Rows.uptoBulk d ∧ ∀ q ∈ l, -9223372036854775808 ≤ q.n ∧ q.n ≤ 9223372036854775807 := by
  have each : ∀ (n : Nat) (cs : List Value) (d : DataW H) (ps : List MemPlace), DataW.trod enc Try.prog W 0 (fun _ => true) true n 43 cs = some (d, ps) → cs.length = 6 → ∃ q : Md × List Rq, cs = q.1.cs ∧ (RowAt W W.heap.size q.1.u 4 (q.2.map Rq.cs) ∧ q.2.length ≤ Rows.uptoBulk d ∧ ∀ r ∈ q.2, -9223372036854775808 ≤ r.n ∧ r.n ≤ 9223372036854775807) := fun n cs d ps h hl => by
    obtain ⟨xs, m, _, hxy, hcl, hxl, hf⟩ := DataW.trod_struct under_mod h
    match cs, hl with
    | [u0, u1, u2, u3, u4, u5], _ =>
      match xs, hxl with
      | [y0, y1, y2], _ =>
        have g2 : DataW.trod enc Try.prog W 0 (fun _ => true) true m 41 [u5] = some y2 := by simpa [cells_reqs] using hf 2 _ rfl
        have g0 : DataW.trod enc Try.prog W 0 (fun _ => true) true m 9 [u0] = some y0 := by simpa [cells_str] using hf 0 _ rfl
        have g1 : DataW.trod enc Try.prog W 0 (fun _ => true) true m 40 [u1, u2, u3, u4] = some y1 := by simpa [cells_nd] using hf 1 _ rfl
        obtain ⟨s0, e0, _, _⟩ := DataW.trod_string Try.underlying9 g0
        obtain ⟨xs', m', _, hxy', hcl', hxl', hf'⟩ := DataW.trod_struct under_nd g1
        obtain ⟨z1, z2, z3, aa, ll, cc, rfl, rfl, rfl, rfl⟩ : ∃ (z1 : Int) (z2 : ByteArray) (z3 : Int) (aa : Option Addr) (ll cc : Nat), u1 = .int .i64 z1 ∧ u2 = .string z2 ∧ u3 = .int .i64 z3 ∧ u4 = .slice aa ll cc := by
          match xs', hxl' with
          | [x0, x1, x2, x3], _ =>
            have k0 : DataW.trod enc Try.prog W 0 (fun _ => true) true m' 3 [u1] = some x0 := by simpa [cells_i] using hf' 0 _ rfl
            have k1 : DataW.trod enc Try.prog W 0 (fun _ => true) true m' 9 [u2] = some x1 := by simpa [cells_str] using hf' 1 _ rfl
            have k2 : DataW.trod enc Try.prog W 0 (fun _ => true) true m' 3 [u3] = some x2 := by simpa [cells_i] using hf' 2 _ rfl
            have k3 : DataW.trod enc Try.prog W 0 (fun _ => true) true m' 38 [u4] = some x3 := by simpa [cells_nds] using hf' 3 _ rfl
            obtain ⟨z1, e1, _, _⟩ := DataW.trod_int Try.underlying3 k0
            obtain ⟨z2, e2, _, _⟩ := DataW.trod_string Try.underlying9 k1
            obtain ⟨z3, e3, _, _⟩ := DataW.trod_int Try.underlying3 k2
            simp only [List.cons.injEq, and_true] at e1 e2 e3
            rcases Deep.open_slice Try.underlying38 k3 with ⟨e4, _⟩ | ⟨a, len, cap, _, _, _, _, e4, _⟩
            · simp only [List.cons.injEq, and_true] at e4
              exact ⟨z1, z2, z3, _, _, _, e1, e2, e3, e4⟩
            · simp only [List.cons.injEq, and_true] at e4
              exact ⟨z1, z2, z3, _, _, _, e1, e2, e3, e4⟩
        simp only [List.cons.injEq, and_true] at e0
        subst e0
        obtain ⟨v, l, e, r1, r2, r3⟩ := rows_open (α := Rq) Try.underlying41 cells_req (by decide) ⟨ByteArray.empty, false, 0, 0⟩ Rq.cs (fun _ => rfl) (fun q _ => -9223372036854775808 ≤ q.n ∧ q.n ≤ 9223372036854775807) (fun n cs d ps h _ => req_each h) (d := y2.1) (ps := y2.2) g2
        simp only [List.cons.injEq, and_true] at e
        subst e
        have hd : d = .agg [y0.1, y1.1, y2.1] := by simpa using congrArg Prod.fst hxy
        refine ⟨(⟨s0, z1, z2, z3, aa, ll, cc, u5⟩, l), rfl, r1, ?_, fun r hr => by obtain ⟨_, g, _⟩ := r3 r hr; exact g⟩
        have : Rows.uptoBulk (DataW.agg [y0.1, y1.1, y2.1] : DataW H) = Rows.uptoBulk y0.1 + (Rows.uptoBulk y1.1 + (Rows.uptoBulk y2.1 + 0)) + 1 := by simp [Rows.uptoBulk, Rows.uptoBulkAll]
        rw [hd, this]
        show l.length ≤ _
        omega
  obtain ⟨v, l, e, r1, r2, r3⟩ := rows_open (α := Md × List Rq) Try.underlying34 cells_mod (by decide) (⟨ByteArray.empty, 0, ByteArray.empty, 0, none, 0, 0, undef⟩, []) (fun q => q.1.cs) (fun _ => rfl) _ each h
  refine ⟨v, l.map (·.2), e, ⟨_, by simp, r1, fun i hi hi' => ?_⟩, by simpa using r2, fun x hx => ?_⟩
  · have hi2 : i < l.length := by simpa using hi
    obtain ⟨d', g, _⟩ := r3 l[i] (List.getElem_mem hi2)
    exact ⟨l[i].1, by simp, by simpa using g.1⟩
  · obtain ⟨q, hq, rfl⟩ := List.mem_map.1 hx
    obtain ⟨d', g, hb⟩ := r3 q hq
    exact ⟨by have := g.2.1; omega, g.2.2⟩
/-- a graph. -/
theorem open_graph {H : Type} {enc : TypeId × Value → H} {W : World} {base : Nat} {v : Value} {d : DataW H} {ps : List MemPlace} (hv : Value.okWide Try.prog W .any base 36 v) (h : DataW.Trod enc Try.prog W 0 (fun _ => true) true 36 v d ps) :
    ∃ u M, v = .agg #[u] ∧ GrAt W W.heap.size u M ∧ ∀ B, Rows.uptoBulk d ≤ B → M.length ≤ B ∧ ∀ l ∈ M, l.length ≤ B ∧ ∀ q ∈ l, -9223372036854775808 ≤ q.n ∧ q.n ≤ 9223372036854775807 := by
  obtain ⟨cs, rfl, hcs⟩ := okWide_struct under_graph hv
  obtain ⟨fuel, h⟩ := h
  obtain ⟨xs, m, _, hxy, hcl, hxl, hf⟩ := DataW.trod_struct under_graph h
  have hc1 : Try.prog.cellsOf 36 = 1 := by kernel_rfl
  rw [hc1] at hcs
  obtain ⟨u, rfl⟩ : ∃ u, cs = #[u] := by
    obtain ⟨l⟩ := cs
    match l, hcs with
    | [u], _ => exact ⟨u, rfl⟩
  match xs, hxl with
  | [y0], _ =>
    have g0 : DataW.trod enc Try.prog W 0 (fun _ => true) true m 34 [u] = some y0 := by simpa [cells_mods, Value.cells] using hf 0 _ rfl
    obtain ⟨v, M, e, h1, h2, h3⟩ := mods_open (d := y0.1) (ps := y0.2) g0
    simp only [List.cons.injEq, and_true] at e
    subst e
    have hd : d = .agg [y0.1] := by simpa using congrArg Prod.fst hxy
    have hb : Rows.uptoBulk (DataW.agg [y0.1] : DataW H) = Rows.uptoBulk y0.1 + 0 + 1 := by simp [Rows.uptoBulk, Rows.uptoBulkAll]
    refine ⟨u, M, rfl, h1, fun B hB => ?_⟩
    rw [hd, hb] at hB
    exact ⟨by omega, fun l hl => ⟨by have := (h3 l hl).1; omega, (h3 l hl).2⟩⟩
end Go.Proofs.Ytbliaamckldncaa
