/- Own text. ValueHeaps: what is asked of both heaps. -/
import Derived.Test.YtlijplbaefaeaaaDoorVdA
namespace Go.Proofs.YtlijplbaefaeaaaDoor
open Go.RowKit
set_option linter.unusedVariables false
set_option linter.unusedSimpArgs false

theorem val_eqv (W : World) (k n : Int) (X : ByteArray) : (binOp .eql 23 (.agg #[.int .i64 k, .int .i64 n, .string X]) (.agg #[.int .i64 k, .int .i64 n, .string X])).run Tryd.prog W = .ok (.bool true) W := by
  have a3 := Tryd.isAgg3
  have a9 := Tryd.isAgg9
  have u3 := Tryd.underlying3
  have u9 := Tryd.underlying9
  rw [run_eql_struct, run_equalIn_struct W 9999 _ _ _ val_struct val_held, val_fields]
  simp [Op.eqFields, go_sem, a3, a9, u3, u9]
theorem deed_cells {Z : World} {b : Nat} {k ix : Int} {v x : Vl} {nm : ByteArray} {nsv lsv : Value} {ty : TypeId} (h : Z.heap[b]? = some (.cells #[.int .i64 k, .int .i64 v.kd, .int .i64 v.n, .string v.tx, .int .i64 x.kd, .int .i64 x.n, .string x.tx, .string nm, .int .i64 ix, nsv, lsv] ty (0, 0))) : Z.cell? ⟨b, 0, none⟩ = some (.int .i64 k) ∧ (Z.cell? ⟨b, 1, none⟩ = some (.int .i64 v.kd) ∧ Z.cell? ⟨b, 2, none⟩ = some (.int .i64 v.n) ∧ Z.cell? ⟨b, 3, none⟩ = some (.string v.tx)) ∧ (Z.cell? ⟨b, 4, none⟩ = some (.int .i64 x.kd) ∧ Z.cell? ⟨b, 5, none⟩ = some (.int .i64 x.n) ∧ Z.cell? ⟨b, 6, none⟩ = some (.string x.tx)) ∧ Z.cell? ⟨b, 7, none⟩ = some (.string nm) ∧ Z.cell? ⟨b, 8, none⟩ = some (.int .i64 ix) ∧ Z.cell? ⟨b, 9, none⟩ = some nsv ∧ Z.cell? ⟨b, 10, none⟩ = some lsv := by
  simp [World.cell?, h]
set_option maxRecDepth 100000 in
set_option maxHeartbeats 16000000 in
theorem look_any {Ev : World → Prop} {At : World → Nat → Hp → (Nat → Prop) → Prop} (PV : PrgV Ev At) (k ix : Int) (v x : Vl) (nm : ByteArray) (nsv lsv : Value) (W Y : World) {hb gb : Nat} {H : Hp} {S T : Nat → Prop} (hv : okV v) (hn : nm.size ≤ 140737488355328) (hi : -9223372036854775808 ≤ ix ∧ ix ≤ 9223372036854775807) (hs : Hid (Tw At W hb gb [] H H S T Y)) (hsm : smH H) : Calls Tryd.prog 18 #[.pointer (some ⟨hb, 0, none⟩), .pointer (some ⟨gb, 0, none⟩), .agg #[.int .i64 k, .int .i64 v.kd, .int .i64 v.n, .string v.tx, .int .i64 x.kd, .int .i64 x.n, .string x.tx, .string nm, .int .i64 ix, nsv, lsv]] Y fun e Y' => e = .returned (.bool true) ∧ Hid (Tw At W hb gb [] H H S T Y') := by
  have HP : Hid (PrgV Ev At) := PV
  have HSM : Hid (smH H) := hsm
  have HNM : Hid (nm.size ≤ 140737488355328) := hn
  have HOK : Hid (okV v) := hv
  have HIX : Hid (-9223372036854775808 ≤ ix ∧ ix ≤ 9223372036854775807) := hi
  obtain ⟨⟨mk, mn, mt⟩, hg⟩ : ∃ q, (getH H v nm).getD zV = q := ⟨_, rfl⟩
  obtain ⟨mb, hgb⟩ : ∃ q, (getH H v nm).isSome = q := ⟨_, rfl⟩
  obtain ⟨⟨ik, jn, it⟩, ha⟩ : ∃ q, (atH H v ix).getD zV = q := ⟨_, rfl⟩
  obtain ⟨ib, hab⟩ : ∃ q, (atH H v ix).isSome = q := ⟨_, rfl⟩
  have eG : Hid (optV (getH H v nm) = .tuple #[.agg #[.int .i64 mk, .int .i64 mn, .string mt], .bool mb]) := by show _ = _; unfold optV; rw [hg, hgb]; rfl
  have eA : Hid (optV (atH H v ix) = .tuple #[.agg #[.int .i64 ik, .int .i64 jn, .string it], .bool ib]) := by show _ = _; unfold optV; rw [ha, hab]; rfl
  clear hg hgb ha hab
  have CG : Hid (∀ {L G S T} {Y : World}, Hid (Tw At W hb gb L H G S T Y) → Calls Tryd.prog 24 #[.pointer (some ⟨hb, 0, none⟩), .agg #[.int .i64 v.kd, .int .i64 v.n, .string v.tx], .string nm] Y fun e W' => e = .returned (.tuple #[.agg #[.int .i64 mk, .int .i64 mn, .string mt], .bool mb]) ∧ Below Y.heap.size Y W') := fun h => by
    have q := HP.out.get v nm h.out.a HSM.out HOK.out HNM.out
    rw [eG.out] at q
    exact q
  have CGd : Hid (∀ {L G S T} {Y : World}, Hid (Tw At W hb gb L G H S T Y) → Calls Tryd.prog 37 #[.pointer (some ⟨gb, 0, none⟩), .agg #[.int .i64 v.kd, .int .i64 v.n, .string v.tx], .string nm] Y fun e W' => e = .returned (.tuple #[.agg #[.int .i64 mk, .int .i64 mn, .string mt], .bool mb]) ∧ Below Y.heap.size Y W') := fun h => by
    have q := eGet h.out.d HSM.out v nm
    rw [eG.out] at q
    exact q
  have CA : Hid (∀ {L G S T} {Y : World}, Hid (Tw At W hb gb L H G S T Y) → Calls Tryd.prog 23 #[.pointer (some ⟨hb, 0, none⟩), .agg #[.int .i64 v.kd, .int .i64 v.n, .string v.tx], .int .i64 ix] Y fun e W' => e = .returned (.tuple #[.agg #[.int .i64 ik, .int .i64 jn, .string it], .bool ib]) ∧ Below Y.heap.size Y W') := fun h => by
    have q := HP.out.at_ v ix h.out.a HSM.out HOK.out HIX.out.1 HIX.out.2
    rw [eA.out] at q
    exact q
  have CAd : Hid (∀ {L G S T} {Y : World}, Hid (Tw At W hb gb L G H S T Y) → Calls Tryd.prog 38 #[.pointer (some ⟨gb, 0, none⟩), .agg #[.int .i64 v.kd, .int .i64 v.n, .string v.tx], .int .i64 ix] Y fun e W' => e = .returned (.tuple #[.agg #[.int .i64 ik, .int .i64 jn, .string it], .bool ib]) ∧ Below Y.heap.size Y W') := fun h => by
    have q := eAt h.out.d HSM.out v ix
    rw [eA.out] at q
    exact q
  have CL : Hid (∀ {L G S T} {Y : World}, Hid (Tw At W hb gb L H G S T Y) → Calls Tryd.prog 25 #[.pointer (some ⟨hb, 0, none⟩), .agg #[.int .i64 v.kd, .int .i64 v.n, .string v.tx]] Y fun e W' => e = .returned (.int .i64 (lenH H v : Nat)) ∧ Below Y.heap.size Y W') := fun h => by
    have q := HP.out.len v h.out.a HSM.out HOK.out
    skip
    exact q
  have CLd : Hid (∀ {L G S T} {Y : World}, Hid (Tw At W hb gb L G H S T Y) → Calls Tryd.prog 39 #[.pointer (some ⟨gb, 0, none⟩), .agg #[.int .i64 v.kd, .int .i64 v.n, .string v.tx]] Y fun e W' => e = .returned (.int .i64 (lenH H v : Nat)) ∧ Below Y.heap.size Y W') := fun h => by
    have q := eLen h.out.d HSM.out v
    skip
    exact q
  obtain ⟨ln, hln⟩ : ∃ q : Int, ((lenH H v : Nat) : Int) = q := ⟨_, rfl⟩
  rw [hln] at CL CLd
  clear PV hv hn hi hsm hln
  have hn := Tw.box HP hs #[.int .i64 k, .int .i64 v.kd, .int .i64 v.n, .string v.tx, .int .i64 x.kd, .int .i64 x.n, .string x.tx, .string nm, .int .i64 ix, nsv, lsv] 39
  obtain ⟨b, hq⟩ : ∃ g, Y.heap.size = g := ⟨_, rfl⟩
  have hc := (deed_cells (k := k) (v := v) (x := x) (nm := nm) (ix := ix) (nsv := nsv) (lsv := lsv) (ty := 39) (hn.out.m _ (.head _)).1)
  obtain ⟨_, ⟨c0, c1, c2⟩, _, cn, ci, _, _⟩ := hc
  go_enter Tryd.func18, Tryd.ntmps18
  go_wp2_with fail
  rw [hq] at hn
  try rw [hq]
  clear hs hq c0 c1 c2 cn ci
  have hs := hn
  clear hn
  generalize Y.alloc _ = X0 at *
  have HD : Hid (∀ {H G S T} {Z : World}, Hid (Tw At W hb gb [(b, .cells #[.int .i64 k, .int .i64 v.kd, .int .i64 v.n, .string v.tx, .int .i64 x.kd, .int .i64 x.n, .string x.tx, .string nm, .int .i64 ix, nsv, lsv] 39 (0, 0))] H G S T Z) → (Z.cell? ⟨b, 1, none⟩ = some (.int .i64 v.kd) ∧ Z.cell? ⟨b, 2, none⟩ = some (.int .i64 v.n) ∧ Z.cell? ⟨b, 3, none⟩ = some (.string v.tx)) ∧ Z.cell? ⟨b, 7, none⟩ = some (.string nm) ∧ Z.cell? ⟨b, 8, none⟩ = some (.int .i64 ix)) := fun h => by
    have q := (deed_cells (k := k) (v := v) (x := x) (nm := nm) (ix := ix) (nsv := nsv) (lsv := lsv) (ty := 39) (h.out.m _ (.head _)).1)
    exact ⟨q.2.1, q.2.2.2.1, q.2.2.2.2.1⟩
  have C := CG.out hs
  go_at_call 24
  refine C.mono ?_
  rintro e Z0 ⟨rfl, bb⟩
  have hs := Tw.bel HP hs bb
  clear bb C
  have hn := Tw.box HP hs #[.int .i64 mk, .int .i64 mn, .string mt] 23
  obtain ⟨p0_, hp0⟩ : ∃ g, Z0.heap.size = g := ⟨_, rfl⟩
  obtain ⟨⟨c0, c1, c2⟩, cn, ci⟩ := HD.out (Tw.drop hn _ (fun p hp => (.tail _ hp)))
  go_wp2_with fail
  rw [hp0] at hn
  try rw [hp0]
  clear hs hp0
  have hs := hn
  clear hn
  generalize Z0.alloc (.cells #[.int .i64 mk, .int .i64 mn, .string mt] 23) = U0 at *
  have C := CGd.out hs
  go_at_call 37
  refine C.mono ?_
  rintro e Z1 ⟨rfl, bb⟩
  have hs := Tw.bel HP hs bb
  clear bb C c0 c1 c2 cn ci
  have hn := Tw.box HP hs #[.int .i64 mk, .int .i64 mn, .string mt] 23
  obtain ⟨p1_, hp1⟩ : ∃ g, Z1.heap.size = g := ⟨_, rfl⟩
  obtain ⟨⟨c0, c1, c2⟩, cn, ci⟩ := HD.out (Tw.drop hn _ (fun p hp => (.tail _ (.tail _ hp))))
  go_wp2_with fail
  rw [hp1] at hn
  try rw [hp1]
  clear hs hp1
  have hs := hn
  clear hn
  generalize Z1.alloc (.cells #[.int .i64 mk, .int .i64 mn, .string mt] 23) = U1 at *
  have C := CA.out hs
  go_at_call 23
  refine C.mono ?_
  rintro e Z2 ⟨rfl, bb⟩
  have hs := Tw.bel HP hs bb
  clear bb C c0 c1 c2 cn ci
  have hn := Tw.box HP hs #[.int .i64 ik, .int .i64 jn, .string it] 23
  obtain ⟨p2_, hp2⟩ : ∃ g, Z2.heap.size = g := ⟨_, rfl⟩
  obtain ⟨⟨c0, c1, c2⟩, cn, ci⟩ := HD.out (Tw.drop hn _ (fun p hp => (.tail _ (.tail _ (.tail _ hp)))))
  go_wp2_with fail
  rw [hp2] at hn
  try rw [hp2]
  clear hs hp2
  have hs := hn
  clear hn
  generalize Z2.alloc (.cells #[.int .i64 ik, .int .i64 jn, .string it] 23) = U2 at *
  have C := CAd.out hs
  go_at_call 38
  refine C.mono ?_
  rintro e Z3 ⟨rfl, bb⟩
  have hs := Tw.bel HP hs bb
  clear bb C c0 c1 c2 cn ci
  have hn := Tw.box HP hs #[.int .i64 ik, .int .i64 jn, .string it] 23
  obtain ⟨p3_, hp3⟩ : ∃ g, Z3.heap.size = g := ⟨_, rfl⟩
  obtain ⟨⟨c0, c1, c2⟩, cn, ci⟩ := HD.out (Tw.drop hn _ (fun p hp => (.tail _ (.tail _ (.tail _ (.tail _ hp))))))
  go_upto_region 5 with fail
  rw [hp3] at hn
  try rw [hp3]
  clear hs hp3
  have hs := hn
  clear hn
  generalize Z3.alloc (.cells #[.int .i64 ik, .int .i64 jn, .string it] 23) = U3 at *
  clear c0 c1 c2 cn ci
  have H5 : Hid (∀ {Z : World}, Hid (Tw At W hb gb [(p3_, .cells #[.int .i64 ik, .int .i64 jn, .string it] 23 (0, 0)), (p2_, .cells #[.int .i64 ik, .int .i64 jn, .string it] 23 (0, 0)), (p1_, .cells #[.int .i64 mk, .int .i64 mn, .string mt] 23 (0, 0)), (p0_, .cells #[.int .i64 mk, .int .i64 mn, .string mt] 23 (0, 0)), (b, .cells #[.int .i64 k, .int .i64 v.kd, .int .i64 v.n, .string v.tx, .int .i64 x.kd, .int .i64 x.n, .string x.tx, .string nm, .int .i64 ix, nsv, lsv] 39 (0, 0))] H H S T Z) → (Z.cell? ⟨p3_, 0, none⟩ = some (.int .i64 ik) ∧ Z.cell? ⟨p3_, 1, none⟩ = some (.int .i64 jn) ∧ Z.cell? ⟨p3_, 2, none⟩ = some (.string it)) ∧ (Z.cell? ⟨p2_, 0, none⟩ = some (.int .i64 ik) ∧ Z.cell? ⟨p2_, 1, none⟩ = some (.int .i64 jn) ∧ Z.cell? ⟨p2_, 2, none⟩ = some (.string it)) ∧ (Z.cell? ⟨p1_, 0, none⟩ = some (.int .i64 mk) ∧ Z.cell? ⟨p1_, 1, none⟩ = some (.int .i64 mn) ∧ Z.cell? ⟨p1_, 2, none⟩ = some (.string mt)) ∧ (Z.cell? ⟨p0_, 0, none⟩ = some (.int .i64 mk) ∧ Z.cell? ⟨p0_, 1, none⟩ = some (.int .i64 mn) ∧ Z.cell? ⟨p0_, 2, none⟩ = some (.string mt)) ∧ (Z.cell? ⟨b, 1, none⟩ = some (.int .i64 v.kd) ∧ Z.cell? ⟨b, 2, none⟩ = some (.int .i64 v.n) ∧ Z.cell? ⟨b, 3, none⟩ = some (.string v.tx))) := fun h => ⟨free3c (h.out.m _ (.head _)).1, free3c (h.out.m _ (.tail _ (.head _))).1, free3c (h.out.m _ (.tail _ (.tail _ (.head _)))).1, free3c (h.out.m _ (.tail _ (.tail _ (.tail _ (.head _))))).1, (deed_cells (k := k) (v := v) (x := x) (nm := nm) (ix := ix) (nsv := nsv) (lsv := lsv) (ty := 39) (h.out.m _ (.tail _ (.tail _ (.tail _ (.tail _ (.head _)))))).1).2.1⟩
  have eq1 : ∀ Y, (binOp .eql 23 (.agg #[.int .i64 mk, .int .i64 mn, .string mt]) (.agg #[.int .i64 mk, .int .i64 mn, .string mt])).run Tryd.prog Y = .ok (.bool true) Y := fun Y => val_eqv Y _ _ _
  have eq2 : ∀ Y, (binOp .eql 23 (.agg #[.int .i64 ik, .int .i64 jn, .string it]) (.agg #[.int .i64 ik, .int .i64 jn, .string it])).run Tryd.prog Y = .ok (.bool true) Y := fun Y => val_eqv Y _ _ _
  have hs := Tw.drew HP hs
  refine region_held (fun Z => (Z.cell? ⟨p3_, 0, none⟩ = some (.int .i64 ik) ∧ Z.cell? ⟨p3_, 1, none⟩ = some (.int .i64 jn) ∧ Z.cell? ⟨p3_, 2, none⟩ = some (.string it)) ∧ (Z.cell? ⟨p2_, 0, none⟩ = some (.int .i64 ik) ∧ Z.cell? ⟨p2_, 1, none⟩ = some (.int .i64 jn) ∧ Z.cell? ⟨p2_, 2, none⟩ = some (.string it)) ∧ (Z.cell? ⟨p1_, 0, none⟩ = some (.int .i64 mk) ∧ Z.cell? ⟨p1_, 1, none⟩ = some (.int .i64 mn) ∧ Z.cell? ⟨p1_, 2, none⟩ = some (.string mt)) ∧ (Z.cell? ⟨p0_, 0, none⟩ = some (.int .i64 mk) ∧ Z.cell? ⟨p0_, 1, none⟩ = some (.int .i64 mn) ∧ Z.cell? ⟨p0_, 2, none⟩ = some (.string mt)) ∧ (Z.cell? ⟨b, 1, none⟩ = some (.int .i64 v.kd) ∧ Z.cell? ⟨b, 2, none⟩ = some (.int .i64 v.n) ∧ Z.cell? ⟨b, 3, none⟩ = some (.string v.tx))) (by kernel_rfl) (H5.out hs) (fun hS => ?_)
  generalize World.drew U3 = XD at hs hS ⊢
  refine tH 0 (v := .agg #[.int .i64 mk, .int .i64 mn, .string mt]) ?_
  simp only [List.set]
  refine tH 1 (v := .agg #[.int .i64 mk, .int .i64 mn, .string mt]) ?_
  simp only [List.set]
  refine tH 2 (v := .bool true) ?_
  simp only [List.set]
  refine tH 3 ?_
  simp only [List.set]
  refine tH 4 ?_
  simp only [List.set]
  refine tH 5 ?_
  simp only [List.set]
  refine tH 6 (v := .bool true) ?_
  simp only [List.set]
  refine tH 7 ?_
  simp only [List.set]
  refine tH 8 ?_
  simp only [List.set]
  refine tH 9 (v := .agg #[.int .i64 ik, .int .i64 jn, .string it]) ?_
  simp only [List.set]
  refine tH 10 (v := .agg #[.int .i64 ik, .int .i64 jn, .string it]) ?_
  simp only [List.set]
  refine tH 11 (v := .bool true) ?_
  simp only [List.set]
  refine tH 12 ?_
  simp only [List.set]
  refine tH 13 ?_
  simp only [List.set]
  refine tH 14 ?_
  simp only [List.set]
  refine tH 15 ?_
  simp only [List.set]
  refine tH 16 (v := .bool true) ?_
  simp only [List.set]
  refine tH 17 ?_
  simp only [List.set]
  refine tH 18 ?_
  simp only [List.set]
  refine tH 19 ?_
  simp only [List.set]
  refine tH 20 ?_
  simp only [List.set]
  refine tH 21 (v := .agg #[.int .i64 v.kd, .int .i64 v.n, .string v.tx]) ?_
  simp only [List.set]
  refine tH 23 ?_
  simp only [List.set]
  refine tH 24 ?_
  simp only [List.set]
  refine tH 25 (v := .agg #[.int .i64 v.kd, .int .i64 v.n, .string v.tx]) ?_
  simp only [List.set]
  refine wpAnyH_ready (rs := [22]) (by kernel_rfl) (by simp) ?_
  refine AllReadyH.cons rfl (fun K hK => ?_) AllReadyH.nil
  go_simp
  go_at_call 25
  refine (CL.out hs).mono ?_
  rintro e Yn ⟨rfl, bb⟩
  have hs := Tw.bel HP hs bb
  clear bb hS
  refine hK.out _ _ (H5.out hs) (fun hS => ?_)
  clear hK K
  refine wpAnyH_ready (rs := [26]) (by kernel_rfl) (by simp) ?_
  refine AllReadyH.cons rfl (fun K hK => ?_) AllReadyH.nil
  go_simp
  go_at_call 39
  refine (CLd.out hs).mono ?_
  rintro e Yn ⟨rfl, bb⟩
  have hs := Tw.bel HP hs bb
  clear bb hS
  refine hK.out _ _ (H5.out hs) (fun hS => ?_)
  clear hK K
  refine tH 27 (v := .bool true) ?_
  simp only [List.set]
  refine tH 28 ?_
  simp only [List.set]
  refine tH 29 ?_
  simp only [List.set]
  refine wpAnyH_done (by kernel_rfl) ?_ _
  clear hS
  go_wp2
  go_ret
  exact ⟨rfl, Tw.drop hs _ (fun p hp => by cases hp)⟩
end Go.Proofs.YtlijplbaefaeaaaDoor
