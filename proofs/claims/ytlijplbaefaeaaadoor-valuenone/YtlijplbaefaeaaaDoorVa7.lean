/- Own text. ValueNone: the statement's walk, over what package value must answer. -/
import Derived.Test.YtlijplbaefaeaaaDoorVa5
import Derived.Test.YtlijplbaefaeaaaDoorVq
namespace Go.Proofs.YtlijplbaefaeaaaDoor
open Go.RowKit
set_option linter.unusedVariables false
set_option linter.unusedSimpArgs false

set_option maxRecDepth 100000 in
set_option maxHeartbeats 16000000 in
theorem none_walk {Ev : World → Prop} {At : World → Nat → Hp → (Nat → Prop) → Prop} (PV : PrgV Ev At) (x y : Vl) (s : ByteArray) (W : World) (he : Ev W) (hx : okV x) : Calls Tryd.prog 6 #[x.v, y.v, .string s] W fun e W' => e = .returned (.bool true) ∧ Below W.heap.size W W' := by
  have HE : Hid (Ev W) := he
  have HP : Hid (PrgV Ev At) := PV
  obtain ⟨W0, hW0⟩ : ∃ X, (W.alloc (.cells #[.int .i64 x.kd, .int .i64 x.n, .string x.tx] 23)).alloc (.cells #[.int .i64 y.kd, .int .i64 y.n, .string y.tx] 23) = X := ⟨_, rfl⟩
  have b0 : Below W.heap.size W W0 := by rw [← hW0]; exact belAA _ _ _
  have mx : W0.heap[W.heap.size]? = some (.cells #[.int .i64 x.kd, .int .i64 x.n, .string x.tx] 23 (0, 0)) := by rw [← hW0]; exact hol _ (hnw _ rfl)
  have my : W0.heap[W.heap.size + 1]? = some (.cells #[.int .i64 y.kd, .int .i64 y.n, .string y.tx] 23 (0, 0)) := by rw [← hW0]; exact hnw _ (by simp)
  have HC : Hid (∀ Y, Below W0.heap.size W0 Y → (Y.cell? ⟨W.heap.size, 0, none⟩ = some (.int .i64 x.kd) ∧ Y.cell? ⟨W.heap.size, 1, none⟩ = some (.int .i64 x.n) ∧ Y.cell? ⟨W.heap.size, 2, none⟩ = some (.string x.tx)) ∧ (Y.cell? ⟨W.heap.size + 1, 0, none⟩ = some (.int .i64 y.kd) ∧ Y.cell? ⟨W.heap.size + 1, 1, none⟩ = some (.int .i64 y.n) ∧ Y.cell? ⟨W.heap.size + 1, 2, none⟩ = some (.string y.tx))) := fun Y b => ⟨box3 ((b.block _ (glt mx)).trans mx), box3 ((b.block _ (glt my)).trans my)⟩
  have B0 : Hid (Below W.heap.size W W0) := b0
  have Cg : Hid (∀ Y, Calls Tryd.prog 24 #[.pointer none, .agg #[.int .i64 x.kd, .int .i64 x.n, .string x.tx], .string s] Y fun e W' => e = .returned (.tuple #[.agg #[.int .i64 0, .int .i64 0, .string ⟨#[]⟩], .bool false]) ∧ Below Y.heap.size Y W') := fun Y => PV.nget Y x s
  have Ct : Hid (∀ Y, Calls Tryd.prog 23 #[.pointer none, .agg #[.int .i64 x.kd, .int .i64 x.n, .string x.tx], .int .i64 0] Y fun e W' => e = .returned (.tuple #[.agg #[.int .i64 0, .int .i64 0, .string ⟨#[]⟩], .bool false]) ∧ Below Y.heap.size Y W') := fun Y => PV.nat Y x 0
  have Ca : Hid (∀ Y v, Calls Tryd.prog 19 #[.pointer none, v] Y fun e W' => e = .returned (.agg #[.int .i64 0, .int .i64 0, .string ⟨#[]⟩]) ∧ Below Y.heap.size Y W') := fun Y v => PV.narr Y v
  have Co : Hid (∀ Y u v, Calls Tryd.prog 20 #[.pointer none, u, v] Y fun e W' => e = .returned (.agg #[.int .i64 0, .int .i64 0, .string ⟨#[]⟩]) ∧ Below Y.heap.size Y W') := fun Y u v => PV.nobj Y u v
  have Cl : Hid (∀ Y, Calls Tryd.prog 25 #[.pointer none, .agg #[.int .i64 x.kd, .int .i64 x.n, .string x.tx]] Y fun e W' => e = .returned (.int .i64 0) ∧ Below Y.heap.size Y W') := fun Y => PV.nlen Y x
  have Cs : Hid (∀ Y, Calls Tryd.prog 22 #[.pointer none, .agg #[.int .i64 x.kd, .int .i64 x.n, .string x.tx], .string s, .agg #[.int .i64 y.kd, .int .i64 y.n, .string y.tx]] Y fun e W' => e = .returned (.bool false) ∧ Below Y.heap.size Y W') := fun Y => PV.nset Y x s y
  have Cp : Hid (∀ Y, Calls Tryd.prog 26 #[.pointer none, .agg #[.int .i64 x.kd, .int .i64 x.n, .string x.tx], .int .i64 0, .agg #[.int .i64 y.kd, .int .i64 y.n, .string y.tx]] Y fun e W' => e = .returned (.bool false) ∧ Below Y.heap.size Y W') := fun Y => PV.nput Y x 0 y
  have Ch : Hid (∀ Y, Calls Tryd.prog 21 #[.pointer none, .agg #[.int .i64 x.kd, .int .i64 x.n, .string x.tx], .agg #[.int .i64 y.kd, .int .i64 y.n, .string y.tx]] Y fun e W' => e = .returned (.bool false) ∧ Below Y.heap.size Y W') := fun Y => PV.npsh Y x y
  have C5 : Hid (∀ p Y, Ev Y → Calls Tryd.prog 12 #[.pointer p, .agg #[.int .i64 x.kd, .int .i64 x.n, .string x.tx]] Y fun e W' => e = .returned (.string (txtV x)) ∧ Below Y.heap.size Y W') := fun p Y hE => PV.txt p x Y hx hE
  have C6 : Hid (∀ Y, Calls Tryd.prog 13 #[.agg #[.int .i64 x.kd, .int .i64 x.n, .string x.tx]] Y fun e W' => e = .returned (.string (txtV x)) ∧ Below Y.heap.size Y W') := fun Y => rtext_any x Y hx.1.1 hx.1.2
  have CA : Hid (∀ Y, Ev Y → Calls Tryd.prog 16 #[] Y fun e W' => e = .returned (.bool true) ∧ Below Y.heap.size Y W') := fun Y hE => awake_any PV Y hE
  clear he PV hx b0 mx my
  unfold Vl.v
  generalize txtV x = tx at *
  obtain ⟨⟨n0, n1, n2⟩, p0, p1, p2⟩ := HC.out W0 (Below.refl _ _)
  go_enter Tryd.func6, Tryd.ntmps6
  go_wp2_with fail
  go_at_call 24
  refine (Cg.out _).mono ?_
  rintro e W1 ⟨rfl, b1⟩
  clear hW0 n0 n1 n2 p0 p1 p2
  have D1 : Hid (Below W0.heap.size W0 (W1.alloc (.cells #[.int .i64 0, .int .i64 0, .string ⟨#[]⟩] 23))) := b1.trans ((belA _ _).mono b1.size)
  have M1 : Hid ((W1.alloc (.cells #[.int .i64 0, .int .i64 0, .string ⟨#[]⟩] 23)).heap[W1.heap.size]? = some (.cells #[.int .i64 0, .int .i64 0, .string ⟨#[]⟩] 23 (0, 0))) := hnw _ rfl
  obtain ⟨⟨n0, n1, n2⟩, p0, p1, p2⟩ := HC.out _ D1.out
  clear b1
  go_wp2_with fail
  generalize W1.alloc (.cells #[.int .i64 0, .int .i64 0, .string ⟨#[]⟩] 23) = X1 at *
  go_at_call 23
  refine (Ct.out _).mono ?_
  rintro e W2 ⟨rfl, b2⟩
  have D2 : Hid (Below W0.heap.size W0 (W2.alloc (.cells #[.int .i64 0, .int .i64 0, .string ⟨#[]⟩] 23))) := (D1.out.trans (b2.mono D1.out.size)).trans ((belA _ _).mono (by have := D1.out.size; have := b2.size; omega))
  have M2 : Hid ((W2.alloc (.cells #[.int .i64 0, .int .i64 0, .string ⟨#[]⟩] 23)).heap[W2.heap.size]? = some (.cells #[.int .i64 0, .int .i64 0, .string ⟨#[]⟩] 23 (0, 0))) := hnw _ rfl
  have M1' : Hid ((W2.alloc (.cells #[.int .i64 0, .int .i64 0, .string ⟨#[]⟩] 23)).heap[W1.heap.size]? = some (.cells #[.int .i64 0, .int .i64 0, .string ⟨#[]⟩] 23 (0, 0))) := hol _ ((b2.block _ (glt M1.out)).trans M1.out)
  clear n0 n1 n2 p0 p1 p2 b2 M1 D1
  go_wp2_with fail
  generalize W2.alloc (.cells #[.int .i64 0, .int .i64 0, .string ⟨#[]⟩] 23) = X2 at *
  have HS : Hid (∀ Y, Below X2.heap.size X2 Y → ((Y.cell? ⟨W.heap.size, 0, none⟩ = some (.int .i64 x.kd) ∧ Y.cell? ⟨W.heap.size, 1, none⟩ = some (.int .i64 x.n) ∧ Y.cell? ⟨W.heap.size, 2, none⟩ = some (.string x.tx)) ∧ (Y.cell? ⟨W.heap.size + 1, 0, none⟩ = some (.int .i64 y.kd) ∧ Y.cell? ⟨W.heap.size + 1, 1, none⟩ = some (.int .i64 y.n) ∧ Y.cell? ⟨W.heap.size + 1, 2, none⟩ = some (.string y.tx))) ∧ (Y.cell? ⟨W1.heap.size, 0, none⟩ = some (.int .i64 0) ∧ Y.cell? ⟨W1.heap.size, 1, none⟩ = some (.int .i64 0) ∧ Y.cell? ⟨W1.heap.size, 2, none⟩ = some (.string ⟨#[]⟩)) ∧ (Y.cell? ⟨W2.heap.size, 0, none⟩ = some (.int .i64 0) ∧ Y.cell? ⟨W2.heap.size, 1, none⟩ = some (.int .i64 0) ∧ Y.cell? ⟨W2.heap.size, 2, none⟩ = some (.string ⟨#[]⟩))) := fun Y b => ⟨HC.out Y (D2.out.trans (b.mono D2.out.size)), box3 (x := zV) ((b.block _ (glt M1'.out)).trans M1'.out), box3 (x := zV) ((b.block _ (glt M2.out)).trans M2.out)⟩
  have HW : Hid (∀ Y, Below X2.heap.size X2 Y → Below W.heap.size W Y) := fun Y b => (B0.out.trans (D2.out.mono B0.out.size)).trans (b.mono (by have := B0.out.size; have := D2.out.size; omega))
  have hs : Hid (Below X2.heap.size X2 (World.drew X2)) := (Below.refl _ _).drew
  clear M1' M2 HC D2
  simp only [List.append_eq, List.cons_append, List.nil_append]
  refine region_held (fun Y => ((Y.cell? ⟨W.heap.size, 0, none⟩ = some (.int .i64 x.kd) ∧ Y.cell? ⟨W.heap.size, 1, none⟩ = some (.int .i64 x.n) ∧ Y.cell? ⟨W.heap.size, 2, none⟩ = some (.string x.tx)) ∧ (Y.cell? ⟨W.heap.size + 1, 0, none⟩ = some (.int .i64 y.kd) ∧ Y.cell? ⟨W.heap.size + 1, 1, none⟩ = some (.int .i64 y.n) ∧ Y.cell? ⟨W.heap.size + 1, 2, none⟩ = some (.string y.tx))) ∧ (Y.cell? ⟨W1.heap.size, 0, none⟩ = some (.int .i64 0) ∧ Y.cell? ⟨W1.heap.size, 1, none⟩ = some (.int .i64 0) ∧ Y.cell? ⟨W1.heap.size, 2, none⟩ = some (.string ⟨#[]⟩)) ∧ (Y.cell? ⟨W2.heap.size, 0, none⟩ = some (.int .i64 0) ∧ Y.cell? ⟨W2.heap.size, 1, none⟩ = some (.int .i64 0) ∧ Y.cell? ⟨W2.heap.size, 2, none⟩ = some (.string ⟨#[]⟩))) (by kernel_rfl) (HS.out _ hs.out) (fun hS => ?_)
  refine tH 0 ?_
  simp only [List.set]
  refine tH 1 ?_
  simp only [List.set]
  refine tH 4 ?_
  simp only [List.set]
  refine wpAnyH_ready (rs := [2]) (by kernel_rfl) (by simp) ?_
  refine AllReadyH.cons rfl (fun K hK => ?_) AllReadyH.nil
  go_simp
  have hs1 : Hid (Below X2.heap.size X2 ((X2.alloc (Obj.cells #[.int .i64 y.kd, .int .i64 y.n, .string y.tx] 23)).drew)) := ((Below.refl _ X2).alloc (Nat.le_refl _) _).drew
  refine hK.out _ _ (HS.out _ hs1.out) (fun hS => ?_)
  clear hK K
  generalize (X2.alloc (Obj.cells #[.int .i64 y.kd, .int .i64 y.n, .string y.tx] 23)).drew = X3 at *
  have hs : Hid (Below X2.heap.size X2 X3) := hs1
  refine wpAnyH_ready (rs := [3]) (by kernel_rfl) (by simp) ?_
  refine AllReadyH.cons rfl (fun K hK => ?_) AllReadyH.nil
  go_simp
  go_at_call 19
  refine (Ca.out _ _).mono ?_
  rintro e Yn ⟨rfl, b⟩
  have hs : Hid (Below X2.heap.size X2 Yn) := hs.out.trans (b.mono hs.out.size)
  refine hK.out _ _ (HS.out _ hs.out) (fun hS => ?_)
  clear hK K b
  refine tH 5 (v := .bool true) ?_
  simp only [List.set]
  refine tH 6 ?_
  simp only [List.set]
  refine tH 7 ?_
  simp only [List.set]
  refine tH 8 ?_
  simp only [List.set]
  refine tH 10 ?_
  simp only [List.set]
  refine tH 13 ?_
  simp only [List.set]
  have hsA := hs
  have HA1 : Hid (∀ o o', Below X2.heap.size X2 ((Yn.alloc o).alloc o')) := fun o o' => (hs.out.alloc hs.out.size o).alloc (by have := hs.out.size; simp; omega) o'
  have HA0 : Hid (∀ o, Below X2.heap.size X2 (Yn.alloc o)) := fun o => hs.out.alloc hs.out.size o
  refine wpAnyH_ready (rs := [9, 11]) (by kernel_rfl) (by simp) ?_
  refine AllReadyH.cons rfl (fun K hK => ?_) (AllReadyH.cons rfl (fun K hK => ?_) AllReadyH.nil)
  · go_simp
    refine hK.out _ _ (HS.out _ (HA0.out _)) (fun hS => ?_)
    clear hK K
    refine wpAnyH_ready (rs := [11]) (by kernel_rfl) (by simp) ?_
    refine AllReadyH.cons rfl (fun K hK => ?_) AllReadyH.nil
    go_simp
    refine hK.out _ _ (HS.out _ (HA1.out _ _)) (fun hS => ?_)
    clear hK K
    refine wpAnyH_ready (rs := [12]) (by kernel_rfl) (by simp) ?_
    refine AllReadyH.cons rfl (fun K hK => ?_) AllReadyH.nil
    go_simp
    go_at_call 20
    refine (Co.out _ _ _).mono ?_
    rintro e Yn ⟨rfl, b⟩
    have hs : Hid (Below X2.heap.size X2 Yn) := (HA1.out _ _).trans (b.mono (HA1.out _ _).size)
    refine hK.out _ _ (HS.out _ hs.out) (fun hS => ?_)
    clear hK K b
    refine tH 14 (v := .bool true) ?_
    simp only [List.set]
    refine tH 15 ?_
    simp only [List.set]
    refine tH 16 ?_
    simp only [List.set]
    refine tH 17 ?_
    simp only [List.set]
    refine tH 18 ?_
    simp only [List.set]
    refine wpAnyH_ready (rs := [19]) (by kernel_rfl) (by simp) ?_
    refine AllReadyH.cons rfl (fun K hK => ?_) AllReadyH.nil
    go_simp
    go_at_call 25
    refine (Cl.out _).mono ?_
    rintro e Yn ⟨rfl, b⟩
    have hs : Hid (Below X2.heap.size X2 Yn) := hs.out.trans (b.mono hs.out.size)
    refine hK.out _ _ (HS.out _ hs.out) (fun hS => ?_)
    clear hK K b
    refine tH 20 (v := .bool true) ?_
    simp only [List.set]
    refine tH 21 ?_
    simp only [List.set]
    refine tH 22 ?_
    simp only [List.set]
    refine tH 23 ?_
    simp only [List.set]
    refine tH 24 ?_
    simp only [List.set]
    refine tH 25 (v := .bool true) ?_
    simp only [List.set]
    refine tH 26 ?_
    simp only [List.set]
    refine tH 27 ?_
    simp only [List.set]
    refine tH 28 ?_
    simp only [List.set]
    refine tH 29 ?_
    simp only [List.set]
    refine tH 30 ?_
    simp only [List.set]
    refine tH 31 ?_
    simp only [List.set]
    refine tH 32 ?_
    simp only [List.set]
    refine tH 33 ?_
    simp only [List.set]
    refine tH 34 (v := .bool true) ?_
    simp only [List.set]
    refine tH 35 ?_
    simp only [List.set]
    refine tH 36 ?_
    simp only [List.set]
    refine tH 37 ?_
    simp only [List.set]
    refine tH 38 ?_
    simp only [List.set]
    refine tH 39 ?_
    simp only [List.set]
    refine tH 40 ?_
    simp only [List.set]
    refine tH 41 ?_
    simp only [List.set]
    refine tH 42 ?_
    simp only [List.set]
    refine tH 43 ?_
    simp only [List.set]
    refine tH 44 ?_
    simp only [List.set]
    refine wpAnyH_ready (rs := [45]) (by kernel_rfl) (by simp) ?_
    refine AllReadyH.cons rfl (fun K hK => ?_) AllReadyH.nil
    go_simp
    go_at_call 22
    refine (Cs.out _).mono ?_
    rintro e Yn ⟨rfl, b⟩
    have hs : Hid (Below X2.heap.size X2 Yn) := hs.out.trans (b.mono hs.out.size)
    refine hK.out _ _ (HS.out _ hs.out) (fun hS => ?_)
    clear hK K b
    refine tH 46 ?_
    simp only [List.set]
    refine tH 47 ?_
    simp only [List.set]
    refine tH 48 ?_
    simp only [List.set]
    refine tH 49 ?_
    simp only [List.set]
    refine tH 50 ?_
    simp only [List.set]
    refine tH 51 ?_
    simp only [List.set]
    refine wpAnyH_ready (rs := [52]) (by kernel_rfl) (by simp) ?_
    refine AllReadyH.cons rfl (fun K hK => ?_) AllReadyH.nil
    go_simp
    go_at_call 26
    refine (Cp.out _).mono ?_
    rintro e Yn ⟨rfl, b⟩
    have hs : Hid (Below X2.heap.size X2 Yn) := hs.out.trans (b.mono hs.out.size)
    refine hK.out _ _ (HS.out _ hs.out) (fun hS => ?_)
    clear hK K b
    refine tH 53 ?_
    simp only [List.set]
    refine tH 54 ?_
    simp only [List.set]
    refine tH 55 ?_
    simp only [List.set]
    refine tH 56 ?_
    simp only [List.set]
    refine tH 57 ?_
    simp only [List.set]
    refine tH 58 ?_
    simp only [List.set]
    refine wpAnyH_ready (rs := [59]) (by kernel_rfl) (by simp) ?_
    refine AllReadyH.cons rfl (fun K hK => ?_) AllReadyH.nil
    go_simp
    go_at_call 21
    refine (Ch.out _).mono ?_
    rintro e Yn ⟨rfl, b⟩
    have hs : Hid (Below X2.heap.size X2 Yn) := hs.out.trans (b.mono hs.out.size)
    refine hK.out _ _ (HS.out _ hs.out) (fun hS => ?_)
    clear hK K b
    refine tH 60 ?_
    simp only [List.set]
    refine tH 61 ?_
    simp only [List.set]
    refine tH 62 ?_
    simp only [List.set]
    refine tH 63 ?_
    simp only [List.set]
    refine tH 64 ?_
    simp only [List.set]
    refine tH 66 ?_
    simp only [List.set]
    refine wpAnyH_ready (rs := [65]) (by kernel_rfl) (by simp) ?_
    refine AllReadyH.cons rfl (fun K hK => ?_) AllReadyH.nil
    go_simp
    go_at_call 12
    refine (C5.out _ _ (HP.out.ev HE.out (HW.out _ hs.out))).mono ?_
    rintro e Yn ⟨rfl, b⟩
    have hs : Hid (Below X2.heap.size X2 Yn) := hs.out.trans (b.mono hs.out.size)
    refine hK.out _ _ (HS.out _ hs.out) (fun hS => ?_)
    clear hK K b
    refine wpAnyH_ready (rs := [67]) (by kernel_rfl) (by simp) ?_
    refine AllReadyH.cons rfl (fun K hK => ?_) AllReadyH.nil
    go_simp
    go_at_call 13
    refine (C6.out _).mono ?_
    rintro e Yn ⟨rfl, b⟩
    have hs : Hid (Below X2.heap.size X2 Yn) := hs.out.trans (b.mono hs.out.size)
    refine hK.out _ _ (HS.out _ hs.out) (fun hS => ?_)
    clear hK K b
    refine tH 68 (v := .bool true) ?_
    simp only [List.set]
    refine tH 69 ?_
    simp only [List.set]
    refine tH 70 ?_
    simp only [List.set]
    refine wpAnyH_ready (rs := [71]) (by kernel_rfl) (by simp) ?_
    refine AllReadyH.cons rfl (fun K hK => ?_) AllReadyH.nil
    go_simp
    go_at_call 16
    refine (CA.out _ (HP.out.ev HE.out (HW.out _ hs.out))).mono ?_
    rintro e Yn ⟨rfl, b⟩
    have hs : Hid (Below X2.heap.size X2 Yn) := hs.out.trans (b.mono hs.out.size)
    refine hK.out _ _ (HS.out _ hs.out) (fun hS => ?_)
    clear hK K b
    refine tH 72 ?_
    simp only [List.set]
    refine tH 73 ?_
    simp only [List.set]
    refine wpAnyH_done (by kernel_rfl) ?_ _
    go_wp2
    go_ret
    exact ⟨rfl, HW.out _ hs.out⟩
  · go_simp
    refine hK.out _ _ (HS.out _ (HA0.out _)) (fun hS => ?_)
    clear hK K
    refine wpAnyH_ready (rs := [9]) (by kernel_rfl) (by simp) ?_
    refine AllReadyH.cons rfl (fun K hK => ?_) AllReadyH.nil
    go_simp
    refine hK.out _ _ (HS.out _ (HA1.out _ _)) (fun hS => ?_)
    clear hK K
    refine wpAnyH_ready (rs := [12]) (by kernel_rfl) (by simp) ?_
    refine AllReadyH.cons rfl (fun K hK => ?_) AllReadyH.nil
    go_simp
    go_at_call 20
    refine (Co.out _ _ _).mono ?_
    rintro e Yn ⟨rfl, b⟩
    have hs : Hid (Below X2.heap.size X2 Yn) := (HA1.out _ _).trans (b.mono (HA1.out _ _).size)
    refine hK.out _ _ (HS.out _ hs.out) (fun hS => ?_)
    clear hK K b
    refine tH 14 (v := .bool true) ?_
    simp only [List.set]
    refine tH 15 ?_
    simp only [List.set]
    refine tH 16 ?_
    simp only [List.set]
    refine tH 17 ?_
    simp only [List.set]
    refine tH 18 ?_
    simp only [List.set]
    refine wpAnyH_ready (rs := [19]) (by kernel_rfl) (by simp) ?_
    refine AllReadyH.cons rfl (fun K hK => ?_) AllReadyH.nil
    go_simp
    go_at_call 25
    refine (Cl.out _).mono ?_
    rintro e Yn ⟨rfl, b⟩
    have hs : Hid (Below X2.heap.size X2 Yn) := hs.out.trans (b.mono hs.out.size)
    refine hK.out _ _ (HS.out _ hs.out) (fun hS => ?_)
    clear hK K b
    refine tH 20 (v := .bool true) ?_
    simp only [List.set]
    refine tH 21 ?_
    simp only [List.set]
    refine tH 22 ?_
    simp only [List.set]
    refine tH 23 ?_
    simp only [List.set]
    refine tH 24 ?_
    simp only [List.set]
    refine tH 25 (v := .bool true) ?_
    simp only [List.set]
    refine tH 26 ?_
    simp only [List.set]
    refine tH 27 ?_
    simp only [List.set]
    refine tH 28 ?_
    simp only [List.set]
    refine tH 29 ?_
    simp only [List.set]
    refine tH 30 ?_
    simp only [List.set]
    refine tH 31 ?_
    simp only [List.set]
    refine tH 32 ?_
    simp only [List.set]
    refine tH 33 ?_
    simp only [List.set]
    refine tH 34 (v := .bool true) ?_
    simp only [List.set]
    refine tH 35 ?_
    simp only [List.set]
    refine tH 36 ?_
    simp only [List.set]
    refine tH 37 ?_
    simp only [List.set]
    refine tH 38 ?_
    simp only [List.set]
    refine tH 39 ?_
    simp only [List.set]
    refine tH 40 ?_
    simp only [List.set]
    refine tH 41 ?_
    simp only [List.set]
    refine tH 42 ?_
    simp only [List.set]
    refine tH 43 ?_
    simp only [List.set]
    refine tH 44 ?_
    simp only [List.set]
    refine wpAnyH_ready (rs := [45]) (by kernel_rfl) (by simp) ?_
    refine AllReadyH.cons rfl (fun K hK => ?_) AllReadyH.nil
    go_simp
    go_at_call 22
    refine (Cs.out _).mono ?_
    rintro e Yn ⟨rfl, b⟩
    have hs : Hid (Below X2.heap.size X2 Yn) := hs.out.trans (b.mono hs.out.size)
    refine hK.out _ _ (HS.out _ hs.out) (fun hS => ?_)
    clear hK K b
    refine tH 46 ?_
    simp only [List.set]
    refine tH 47 ?_
    simp only [List.set]
    refine tH 48 ?_
    simp only [List.set]
    refine tH 49 ?_
    simp only [List.set]
    refine tH 50 ?_
    simp only [List.set]
    refine tH 51 ?_
    simp only [List.set]
    refine wpAnyH_ready (rs := [52]) (by kernel_rfl) (by simp) ?_
    refine AllReadyH.cons rfl (fun K hK => ?_) AllReadyH.nil
    go_simp
    go_at_call 26
    refine (Cp.out _).mono ?_
    rintro e Yn ⟨rfl, b⟩
    have hs : Hid (Below X2.heap.size X2 Yn) := hs.out.trans (b.mono hs.out.size)
    refine hK.out _ _ (HS.out _ hs.out) (fun hS => ?_)
    clear hK K b
    refine tH 53 ?_
    simp only [List.set]
    refine tH 54 ?_
    simp only [List.set]
    refine tH 55 ?_
    simp only [List.set]
    refine tH 56 ?_
    simp only [List.set]
    refine tH 57 ?_
    simp only [List.set]
    refine tH 58 ?_
    simp only [List.set]
    refine wpAnyH_ready (rs := [59]) (by kernel_rfl) (by simp) ?_
    refine AllReadyH.cons rfl (fun K hK => ?_) AllReadyH.nil
    go_simp
    go_at_call 21
    refine (Ch.out _).mono ?_
    rintro e Yn ⟨rfl, b⟩
    have hs : Hid (Below X2.heap.size X2 Yn) := hs.out.trans (b.mono hs.out.size)
    refine hK.out _ _ (HS.out _ hs.out) (fun hS => ?_)
    clear hK K b
    refine tH 60 ?_
    simp only [List.set]
    refine tH 61 ?_
    simp only [List.set]
    refine tH 62 ?_
    simp only [List.set]
    refine tH 63 ?_
    simp only [List.set]
    refine tH 64 ?_
    simp only [List.set]
    refine tH 66 ?_
    simp only [List.set]
    refine wpAnyH_ready (rs := [65]) (by kernel_rfl) (by simp) ?_
    refine AllReadyH.cons rfl (fun K hK => ?_) AllReadyH.nil
    go_simp
    go_at_call 12
    refine (C5.out _ _ (HP.out.ev HE.out (HW.out _ hs.out))).mono ?_
    rintro e Yn ⟨rfl, b⟩
    have hs : Hid (Below X2.heap.size X2 Yn) := hs.out.trans (b.mono hs.out.size)
    refine hK.out _ _ (HS.out _ hs.out) (fun hS => ?_)
    clear hK K b
    refine wpAnyH_ready (rs := [67]) (by kernel_rfl) (by simp) ?_
    refine AllReadyH.cons rfl (fun K hK => ?_) AllReadyH.nil
    go_simp
    go_at_call 13
    refine (C6.out _).mono ?_
    rintro e Yn ⟨rfl, b⟩
    have hs : Hid (Below X2.heap.size X2 Yn) := hs.out.trans (b.mono hs.out.size)
    refine hK.out _ _ (HS.out _ hs.out) (fun hS => ?_)
    clear hK K b
    refine tH 68 (v := .bool true) ?_
    simp only [List.set]
    refine tH 69 ?_
    simp only [List.set]
    refine tH 70 ?_
    simp only [List.set]
    refine wpAnyH_ready (rs := [71]) (by kernel_rfl) (by simp) ?_
    refine AllReadyH.cons rfl (fun K hK => ?_) AllReadyH.nil
    go_simp
    go_at_call 16
    refine (CA.out _ (HP.out.ev HE.out (HW.out _ hs.out))).mono ?_
    rintro e Yn ⟨rfl, b⟩
    have hs : Hid (Below X2.heap.size X2 Yn) := hs.out.trans (b.mono hs.out.size)
    refine hK.out _ _ (HS.out _ hs.out) (fun hS => ?_)
    clear hK K b
    refine tH 72 ?_
    simp only [List.set]
    refine tH 73 ?_
    simp only [List.set]
    refine wpAnyH_done (by kernel_rfl) ?_ _
    go_wp2
    go_ret
    exact ⟨rfl, HW.out _ hs.out⟩
end Go.Proofs.YtlijplbaefaeaaaDoor
