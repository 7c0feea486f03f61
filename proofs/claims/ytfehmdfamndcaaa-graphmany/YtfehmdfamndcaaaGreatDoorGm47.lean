/- Own text. What every statement of stage 10 begins with: the walk. -/
import Derived.Test.YtfehmdfamndcaaaGreatDoorGm46
namespace Go.Proofs.YtfehmdfamndcaaaGreatDoor
open Go.RowKit Go.MapKept
set_option linter.unusedVariables false
set_option linter.unusedSimpArgs false

theorem rq_struct : Tryz.prog.underlying 67 = some (.struct (Tryz.prog.fieldsOf 67)) := by kernel_rfl
theorem rq_held : Tryz.prog.stoodInHeld 67 = false := by kernel_rfl
theorem rq_fields : (Tryz.prog.fieldsOf 67).toList = [{ name := "Text", type := 9, offset := 0, embedded := false, tag := "", pkgPath := "", byteOffset := 0 }, { name := "Type", type := 4, offset := 1, embedded := false, tag := "", pkgPath := "", byteOffset := 16 }, { name := "Item", type := 3, offset := 2, embedded := false, tag := "", pkgPath := "", byteOffset := 24 }, { name := "Target", type := 3, offset := 3, embedded := false, tag := "", pkgPath := "", byteOffset := 32 }] := by kernel_rfl
theorem rq_neq (W : World) (a b : Rq) : (binOp .neq 67 (.agg #[.string a.t, .bool a.ty, .int .i64 (a.it : Nat), .int .i64 a.tg]) (.agg #[.string b.t, .bool b.ty, .int .i64 (b.it : Nat), .int .i64 b.tg])).run Tryz.prog W = .ok (.bool (!(a.t.toList == b.t.toList && a.ty == b.ty && ((a.it : Nat) : Int) == ((b.it : Nat) : Int) && a.tg == b.tg))) W := by
  have a3 := Tryz.isAgg3
  have a9 := Tryz.isAgg9
  have a4 := Tryz.isAgg4
  have u3 := Tryz.underlying3
  have u9 := Tryz.underlying9
  have u4 := Tryz.underlying4
  rw [run_neq_struct, run_equalIn_struct W 9999 _ _ _ rq_struct rq_held, rq_fields]
  cases e1 : (a.t.toList == b.t.toList) <;> cases e2 : (a.ty == b.ty) <;> cases e3 : (((a.it : Nat) : Int) == ((b.it : Nat) : Int)) <;> cases e4 : (a.tg == b.tg) <;> simp [Op.eqFields, go_sem, a3, a9, a4, u3, u9, u4, e1, e2, e3, e4]
theorem rq_eql (W : World) : (binOp .eql 67 (.agg #[.string ⟨#[46, 47, 99]⟩, .bool true, .int .i64 1, .int .i64 2]) (.agg #[.string ⟨#[46, 47, 99]⟩, .bool true, .int .i64 1, .int .i64 2])).run Tryz.prog W = .ok (.bool true) W := by
  have a3 := Tryz.isAgg3
  have a9 := Tryz.isAgg9
  have a4 := Tryz.isAgg4
  have u3 := Tryz.underlying3
  have u9 := Tryz.underlying9
  have u4 := Tryz.underlying4
  rw [run_eql_struct, run_equalIn_struct W 9999 _ _ _ rq_struct rq_held, rq_fields]
  simp [Op.eqFields, go_sem, a3, a9, a4, u3, u9, u4]
theorem rq_guard : Tryz.prog.eqGuardType Tryz.prog.depth 67 = false := by kernel_rfl
/-- what the answer of the first Load holds. -/
structure Fin3 (X : World) (g h cap cap' : Nat) : Prop where
  c6 : X.cell? ⟨g, 6, none⟩ = some (.string ⟨#[47, 98, 46, 116, 115]⟩)
  c5 : X.cell? ⟨g, 5, none⟩ = some (.slice (some ⟨h, 0, none⟩) 2 cap')
  d0 : X.cell? ⟨h, 4, none⟩ = some (.string ⟨#[46, 47, 99]⟩)
  d1 : X.cell? ⟨h, 5, none⟩ = some (.bool true)
  d2 : X.cell? ⟨h, 6, none⟩ = some (.int .i64 1)
  d3 : X.cell? ⟨h, 7, none⟩ = some (.int .i64 2)
theorem fin_of {W : World} {c : Lw} {S : Sx} {m0 m1 m2 : Md} {t : Int} (h : Ld tb3 W c S) (hm : S.ms = [m0, m1, m2]) (hp : m1.p = pB) (hr : m0.rs = [⟨nB, false, 0, t⟩, ⟨nC, true, 1, 2⟩]) :
    ∃ g hh cap cap', S.vm = .slice (some ⟨g, 0, none⟩) 3 cap ∧ ∀ X, Below W.heap.size W X → Fin3 X g hh cap cap' := by
  have hrow := h.row
  rw [hm] at hrow
  obtain ⟨g, cap, hv, _, _⟩ := Pa.row_some hrow (by simp)
  have hq := h.rq 0 m0 (by rw [hm]; rfl)
  unfold RqO at hq
  rw [hr] at hq
  obtain ⟨hh, cap', hv', _, _⟩ := Pa.row_some hq (by simp)
  refine ⟨g, hh, cap, cap', hv, fun X b => ?_⟩
  have r1 := row_bel hrow b
  have r2 := row_bel hq b
  rw [hv] at r1
  rw [hv'] at r2
  have k1 := fun j hj => World.ownsRow.cellAt r1 j hj
  have k2 := fun j hj => World.ownsRow.cellAt r2 j hj
  refine ⟨?_, ?_, ?_, ?_, ?_, ?_⟩
  · rw [k1 6 (by simp)]; simp [mdL, Md.cs, hp, pB]
  · rw [k1 5 (by simp)]; simp [mdL, Md.cs, hv']
  · rw [k2 4 (by simp)]; simp [rqL, Rq.cs, nC]
  · rw [k2 5 (by simp)]; simp [rqL, Rq.cs]
  · rw [k2 6 (by simp)]; simp [rqL, Rq.cs]
  · rw [k2 7 (by simp)]; simp [rqL, Rq.cs]
theorem hb1 : ∀ n S' x, Fol tb3 MR3 (⟨#[]⟩, eA) (Pa.nrmB eA) (Pa.nrmE eA) S0 n S' (some x) → x.1.2.size ≤ 281474976710656 := fun n S' x h => by
  rw [nrm3.1, nrm3.2.1] at h
  cases (load3 h).1
theorem hb2 : ∀ n S' x, Fol tb3 MR3 (⟨#[]⟩, qD) (Pa.nrmB qD) (Pa.nrmE qD) S0 n S' (some x) → x.1.2.size ≤ 281474976710656 := fun n S' x h => by
  rw [nrm3.2.2.1, nrm3.2.2.2] at h
  have := load3d h
  cases this
  decide
/-- the first Load. -/
theorem loadA (W : World) (tb mb : Nat) (ht : Vf.Tab W tb mb tb3) (he : Env W) (ho : Over W.heap.size) : Calls Tryz.prog 6 #[.pointer (some ⟨tb, 0, none⟩), .string ⟨#[47, 120, 47, 46, 46, 47, 97]⟩] W fun e W' => ∃ g hh cap cap', e = .returned (.tuple #[.agg #[.slice (some ⟨g, 0, none⟩) 3 cap], .string ⟨#[]⟩, .string ⟨#[]⟩, .int .i64 0]) ∧ Below W.heap.size W W' ∧ ∀ X, Below W'.heap.size W' X → Fin3 X g hh cap cap' := by
  refine (load_any mok3 W tb mb ht he ho eA (by decide) hb1).mono ?_
  rintro e W' ⟨n, S, f, c, A⟩
  have hf := A.fol
  rw [nrm3.1, nrm3.2.1] at hf
  obtain ⟨rfl, m0, m1, m2, t, h1, h2, h3⟩ := load3 hf
  obtain ⟨he, hl, _⟩ := A.ok rfl
  obtain ⟨g, hh, cap, cap', hv, hF⟩ := fin_of hl h1 h2 h3
  exact ⟨g, hh, cap, cap', by rw [he, hv], A.bel, hF⟩
/-- the second. -/
theorem loadD (W : World) (tb mb : Nat) (ht : Vf.Tab W tb mb tb3) (he : Env W) (ho : Over W.heap.size) : Calls Tryz.prog 6 #[.pointer (some ⟨tb, 0, none⟩), .string ⟨#[47, 100]⟩] W fun e W' => e = .returned (.tuple #[.agg #[.slice none 0 0], .string ⟨#[]⟩, .string ⟨#[47, 100]⟩, .int .i64 100]) ∧ Below W.heap.size W W' := by
  refine (load_any mok3 W tb mb ht he ho qD (by decide) hb2).mono ?_
  rintro e W' ⟨n, S, f, c, A⟩
  have hf := A.fol
  rw [nrm3.2.2.1, nrm3.2.2.2] at hf
  have hf2 := load3d hf
  exact ⟨by rw [A.bad _ hf2]; rfl, A.bel⟩
theorem probeB (W : World) (tb mb : Nat) (ht : Vf.Tab W tb mb tb3) : Calls Tryz.prog 14 #[.pointer (some ⟨tb, 0, none⟩), .string ⟨#[47, 98]⟩] W fun e W' => e = .returned (.tuple #[.string ⟨#[47, 98, 46, 116, 115]⟩, .bool true]) ∧ Below W.heap.size W W' := by
  refine (probe_any W tb mb tb3 qB ht (by decide)).mono ?_
  rintro e W' ⟨rfl, b⟩
  rw [prb3.2.1]
  exact ⟨rfl, b⟩
set_option maxRecDepth 100000 in
set_option maxHeartbeats 1000000 in
theorem sure_any (W : World) (he : Env W) (ho : Over W.heap.size) : Calls Tryz.prog 7 #[] W fun e w' => e = .returned (.bool true) ∧ Below W.heap.size W w' := by
  obtain ⟨cs, hcs⟩ : ∃ cs : Array Value, cs = #[.string ⟨#[47, 97, 46, 116, 115]⟩, .string ⟨#[105, 109, 112, 111, 114, 116, 32, 39, 46, 47, 98, 39, 59, 32, 105, 109, 112, 111, 114, 116, 32, 116, 121, 112, 101, 32, 123, 32, 84, 32, 125, 32, 102, 114, 111, 109, 32, 39, 46, 47, 99, 39, 59]⟩, .string ⟨#[47, 98, 46, 116, 115]⟩, .string ⟨#[105, 109, 112, 111, 114, 116, 32, 39, 46, 47, 99, 39, 59]⟩, .string ⟨#[47, 99, 46, 116, 115]⟩, .string ⟨#[101, 120, 112, 111, 114, 116, 32, 116, 121, 112, 101, 32, 84, 32, 61, 32, 110, 117, 109, 98, 101, 114, 59]⟩] := ⟨_, rfl⟩
  have hfat := Vf.fat_new W tb3 3 rfl cs (by rw [hcs]; rfl)
  have bA : Below W.heap.size W (W.alloc (.cells cs 25)) := (Below.refl _ _).alloc (Nat.le_refl _) _
  have CT := table_any _ _ tb3 hfat (by decide) (by decide)
  rw [wrs3] at CT
  rw [hcs] at CT bA
  clear hfat hcs cs
  have HE : Hid (∀ X, Below W.heap.size W X → Env X ∧ Over X.heap.size) := fun X b => ⟨env_below he b, ho.mono b.size⟩
  clear he ho
  go_enter Tryz.func7, Tryz.ntmps7
  go_wp2_with fail
  go_at_call 5
  refine CT.mono ?_
  rintro e W1 ⟨tb, mb, rb, v, rfl, T, _⟩
  have HT : Hid (∀ X, Below W1.heap.size W1 X → Vf.Tab X tb mb tb3) := fun X b => T.tab.below b T.tab.ltT T.tab.ltM
  have b1 : Below W.heap.size W W1 := bA.trans (T.bel.mono bA.size)
  clear CT bA T
  obtain ⟨i1, o1⟩ := HE.out W1 b1
  have C1 := loadA W1 tb mb (HT.out W1 (Below.refl _ _)) i1 o1
  clear i1 o1
  go_wp2_with fail
  go_at_call 6
  refine C1.mono ?_
  rintro e W2 ⟨g, hh, cap, cap', rfl, b2, hF⟩
  have HF : Hid (∀ X, Below W2.heap.size W2 X → Fin3 X g hh cap cap') := hF
  clear C1 hF
  obtain ⟨W3, hW3⟩ : ∃ X, W2.alloc (Obj.cells #[.slice (some ⟨g, 0, none⟩) 3 cap] 31) = X := ⟨_, rfl⟩
  have b3 : Below W2.heap.size W2 W3 := by rw [← hW3]; exact (Below.refl _ _).alloc (Nat.le_refl _) _
  have m3 : W3.heap[W2.heap.size]? = some (.cells #[.slice (some ⟨g, 0, none⟩) 3 cap] 31 (0, 0)) := by rw [← hW3]; exact hnew _ rfl
  have c3 : Below W1.heap.size W1 W3 := b2.trans (b3.mono b2.size)
  have d3 : Below W.heap.size W W3 := b1.trans (c3.mono b1.size)
  obtain ⟨i1, o1⟩ := HE.out W3 d3
  have C2 := loadD W3 tb mb (HT.out W3 c3) i1 o1
  clear i1 o1
  go_wp2_with fail
  go_at_call 6
  refine C2.mono ?_
  rintro e W4 ⟨rfl, b4⟩
  clear C2 hW3
  have b5 : Below W4.heap.size W4 (W4.alloc (Obj.cells #[.slice none 0 0] 31)) := (Below.refl _ _).alloc (Nat.le_refl _) _
  have e5 : Below W3.heap.size W3 (W4.alloc (Obj.cells #[.slice none 0 0] 31)) := b4.trans (b5.mono b4.size)
  have C3 := probeB (W4.alloc (Obj.cells #[.slice none 0 0] 31)) tb mb (HT.out _ (c3.trans (e5.mono c3.size)))
  go_wp2_with fail
  go_at_call 14
  refine C3.mono ?_
  rintro e W6 ⟨rfl, b6⟩
  clear C3
  have e6 : Below W3.heap.size W3 W6 := e5.trans (b6.mono e5.size)
  have m6 := (e6.block _ (Array.getElem?_eq_some_iff.1 m3).1).trans m3
  have q6 : W6.cell? ⟨W2.heap.size, 0, none⟩ = some (.slice (some ⟨g, 0, none⟩) 3 cap) := by simp [World.cell?, m6]
  obtain ⟨f0, f1, f2, f3, f4, f5⟩ := HF.out W6 (b3.trans (e6.mono b3.size))
  have d6 : Below W.heap.size W W6 := d3.trans (e6.mono d3.size)
  have NG := rq_guard
  have EQ := rq_eql
  go_wp2
  go_ret
  exact ⟨rfl, d6⟩
end Go.Proofs.YtfehmdfamndcaaaGreatDoor
