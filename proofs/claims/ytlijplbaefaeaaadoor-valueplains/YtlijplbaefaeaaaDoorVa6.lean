/- Own text. ValuePlains: the statement's walk, over what package value must answer. -/
import Derived.Test.YtlijplbaefaeaaaDoorVa5
namespace Go.Proofs.YtlijplbaefaeaaaDoor
open Go.RowKit
set_option linter.unusedVariables false
set_option linter.unusedSimpArgs false

set_option maxRecDepth 100000 in
set_option maxHeartbeats 16000000 in
theorem plains_walk {Ev : World → Prop} {At : World → Nat → Hp → (Nat → Prop) → Prop} (PV : PrgV Ev At) (x y : Vl) (W : World) (he : Ev W) (hx : okV x) (hy : okV y) : Calls Tryd.prog 3 #[x.v, y.v] W fun e W' => e = .returned (.bool true) ∧ Below W.heap.size W W' := by
  have HE : Hid (Ev W) := he
  have HP : Hid (PrgV Ev At) := PV
  obtain ⟨W0, hW0⟩ : ∃ X, (W.alloc (.cells #[.int .i64 x.kd, .int .i64 x.n, .string x.tx] 23)).alloc (.cells #[.int .i64 y.kd, .int .i64 y.n, .string y.tx] 23) = X := ⟨_, rfl⟩
  have b0 : Below W.heap.size W W0 := by rw [← hW0]; exact belAA _ _ _
  have mx : W0.heap[W.heap.size]? = some (.cells #[.int .i64 x.kd, .int .i64 x.n, .string x.tx] 23 (0, 0)) := by rw [← hW0]; exact hol _ (hnw _ rfl)
  have my : W0.heap[W.heap.size + 1]? = some (.cells #[.int .i64 y.kd, .int .i64 y.n, .string y.tx] 23 (0, 0)) := by rw [← hW0]; exact hnw _ (by simp)
  have HC : Hid (∀ Y, Below W0.heap.size W0 Y → (Y.cell? ⟨W.heap.size, 0, none⟩ = some (.int .i64 x.kd) ∧ Y.cell? ⟨W.heap.size, 1, none⟩ = some (.int .i64 x.n) ∧ Y.cell? ⟨W.heap.size, 2, none⟩ = some (.string x.tx)) ∧ (Y.cell? ⟨W.heap.size + 1, 0, none⟩ = some (.int .i64 y.kd) ∧ Y.cell? ⟨W.heap.size + 1, 1, none⟩ = some (.int .i64 y.n) ∧ Y.cell? ⟨W.heap.size + 1, 2, none⟩ = some (.string y.tx))) := fun Y b => ⟨box3 ((b.block _ (glt mx)).trans mx), box3 ((b.block _ (glt my)).trans my)⟩
  have B0 : Hid (Below W.heap.size W W0) := b0
  have CN := PV.new W0
  have HX : Hid (okV x) := hx
  have HY : Hid (okV y) := hy
  have C1 : Hid (∀ Y, Calls Tryd.prog 8 #[.agg #[.int .i64 x.kd, .int .i64 x.n, .string x.tx]] Y fun e W' => e = .returned (.bool (truV x)) ∧ Below Y.heap.size Y W') := fun Y => PV.tru x Y hx
  have C2 : Hid (∀ Y, Calls Tryd.prog 9 #[.agg #[.int .i64 x.kd, .int .i64 x.n, .string x.tx]] Y fun e W' => e = .returned (.bool (truV x)) ∧ Below Y.heap.size Y W') := fun Y => rtruth_any x Y
  have C3 : Hid (∀ Y, Calls Tryd.prog 10 #[.agg #[.int .i64 x.kd, .int .i64 x.n, .string x.tx]] Y fun e W' => e = .returned (.string (typT x)) ∧ Below Y.heap.size Y W') := fun Y => PV.typ x Y hx
  have C4 : Hid (∀ Y, Calls Tryd.prog 11 #[.agg #[.int .i64 x.kd, .int .i64 x.n, .string x.tx]] Y fun e W' => e = .returned (.string (typT x)) ∧ Below Y.heap.size Y W') := fun Y => rtypeof_any x Y
  have C5 : Hid (∀ p Y, Ev Y → Calls Tryd.prog 12 #[.pointer p, .agg #[.int .i64 x.kd, .int .i64 x.n, .string x.tx]] Y fun e W' => e = .returned (.string (txtV x)) ∧ Below Y.heap.size Y W') := fun p Y hE => PV.txt p x Y hx hE
  have C6 : Hid (∀ Y, Calls Tryd.prog 13 #[.agg #[.int .i64 x.kd, .int .i64 x.n, .string x.tx]] Y fun e W' => e = .returned (.string (txtV x)) ∧ Below Y.heap.size Y W') := fun Y => rtext_any x Y hx.1.1 hx.1.2
  have C7 : Hid (∀ Y, Calls Tryd.prog 14 #[.agg #[.int .i64 x.kd, .int .i64 x.n, .string x.tx], .agg #[.int .i64 y.kd, .int .i64 y.n, .string y.tx]] Y fun e W' => e = .returned (.bool (samV x y)) ∧ Below Y.heap.size Y W') := fun Y => PV.sam x y Y hx hy
  have C8 : Hid (∀ Y, Calls Tryd.prog 15 #[.agg #[.int .i64 x.kd, .int .i64 x.n, .string x.tx], .agg #[.int .i64 y.kd, .int .i64 y.n, .string y.tx]] Y fun e W' => e = .returned (.bool (samV x y)) ∧ Below Y.heap.size Y W') := fun Y => rsame_any x y Y
  have C9 : Hid (∀ Y, Calls Tryd.prog 14 #[.agg #[.int .i64 x.kd, .int .i64 x.n, .string x.tx], .agg #[.int .i64 x.kd, .int .i64 x.n, .string x.tx]] Y fun e W' => e = .returned (.bool true) ∧ Below Y.heap.size Y W') := fun Y => by
    have h := PV.sam x x Y hx hx
    rw [samV_self] at h
    exact h
  have CA : Hid (∀ Y, Ev Y → Calls Tryd.prog 16 #[] Y fun e W' => e = .returned (.bool true) ∧ Below Y.heap.size Y W') := fun Y hE => awake_any PV Y hE
  clear he PV hx hy b0 mx my
  unfold Vl.v
  generalize truV x = tv at *
  generalize typT x = ty at *
  generalize txtV x = tx at *
  generalize samV x y = sv at *
  obtain ⟨⟨n0, n1, n2⟩, p0, p1, p2⟩ := HC.out W0 (Below.refl _ _)
  go_enter Tryd.func3, Tryd.ntmps3
  go_wp2_with fail
  go_at_call 7
  refine CN.mono ?_
  rintro e W1 ⟨hb, S1, rfl, hA1, b1, hS1⟩
  clear CN hW0 n0 n1 n2 p0 p1 p2 hA1 hS1
  have hs : Hid (Below W0.heap.size W0 W1) := b1
  clear b1
  go_wp2_with fail
  have hs : Hid (Below W0.heap.size W0 (World.drew W1)) := hs.out.drew
  have tok1 : True := trivial
  go_region_held3 (fun Y => (Y.cell? ⟨W.heap.size, 0, none⟩ = some (.int .i64 x.kd) ∧ Y.cell? ⟨W.heap.size, 1, none⟩ = some (.int .i64 x.n) ∧ Y.cell? ⟨W.heap.size, 2, none⟩ = some (.string x.tx)) ∧ (Y.cell? ⟨W.heap.size + 1, 0, none⟩ = some (.int .i64 y.kd) ∧ Y.cell? ⟨W.heap.size + 1, 1, none⟩ = some (.int .i64 y.n) ∧ Y.cell? ⟨W.heap.size + 1, 2, none⟩ = some (.string y.tx)))
    (first | exact HC.out _ hs.out)
    (first
      | (go_at_call 8; refine (C1.out _).mono ?_; rintro e Yn ⟨rfl, b⟩; have hs : Hid (Below W0.heap.size W0 Yn) := hs.out.trans (b.mono hs.out.size))
      | (go_at_call 9; refine (C2.out _).mono ?_; rintro e Yn ⟨rfl, b⟩; have hs : Hid (Below W0.heap.size W0 Yn) := hs.out.trans (b.mono hs.out.size))
      | (go_at_call 10; refine (C3.out _).mono ?_; rintro e Yn ⟨rfl, b⟩; have hs : Hid (Below W0.heap.size W0 Yn) := hs.out.trans (b.mono hs.out.size))
      | (go_at_call 11; refine (C4.out _).mono ?_; rintro e Yn ⟨rfl, b⟩; have hs : Hid (Below W0.heap.size W0 Yn) := hs.out.trans (b.mono hs.out.size))
      | (go_at_call 12; refine (C5.out _ _ (HP.out.ev HE.out (B0.out.trans (hs.out.mono B0.out.size)))).mono ?_; rintro e Yn ⟨rfl, b⟩; have hs : Hid (Below W0.heap.size W0 Yn) := hs.out.trans (b.mono hs.out.size))
      | (go_at_call 13; refine (C6.out _).mono ?_; rintro e Yn ⟨rfl, b⟩; have hs : Hid (Below W0.heap.size W0 Yn) := hs.out.trans (b.mono hs.out.size))
      | (go_at_call 14; have _t := tok1; refine (C7.out _).mono ?_; rintro e Yn ⟨rfl, b⟩; have hs : Hid (Below W0.heap.size W0 Yn) := hs.out.trans (b.mono hs.out.size); clear tok1)
      | (go_at_call 15; refine (C8.out _).mono ?_; rintro e Yn ⟨rfl, b⟩; have hs : Hid (Below W0.heap.size W0 Yn) := hs.out.trans (b.mono hs.out.size))
      | (go_at_call 14; refine (C9.out _).mono ?_; rintro e Yn ⟨rfl, b⟩; have hs : Hid (Below W0.heap.size W0 Yn) := hs.out.trans (b.mono hs.out.size))
      | (go_at_call 16; refine (CA.out _ (HP.out.ev HE.out (B0.out.trans (hs.out.mono B0.out.size)))).mono ?_; rintro e Yn ⟨rfl, b⟩; have hs : Hid (Below W0.heap.size W0 Yn) := hs.out.trans (b.mono hs.out.size)))
  go_wp2
  go_ret
  exact ⟨rfl, B0.out.trans (hs.out.mono B0.out.size)⟩
end Go.Proofs.YtlijplbaefaeaaaDoor
