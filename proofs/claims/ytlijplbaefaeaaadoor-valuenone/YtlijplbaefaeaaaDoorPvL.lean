/- Own text. Package value's heap: set, Set. -/
import Derived.Test.YtlijplbaefaeaaaDoorPvK
namespace Go.Proofs.YtlijplbaefaeaaaDoor
open Go.RowKit Go.Maps
set_option linter.unusedVariables false
set_option linter.unusedSimpArgs false

theorem step_put_f {w : World} {ops : Array Oper} {o : Oper} {a : Act} {K : Act → World → Prop} {Q : Exit → Act → World → Prop} {E : Prop} (hg : o.guard = none) {R : RdE} {b : Nat} {f : Wd → Option DU} (m x v : Operand) (t e : TypeId) (hop : o.op = Op.mapUpdate t m x v)
    (ht : Tryd.prog.underlying t = some (.map 9 e)) (hm : a.eval m = .map (some b)) (h : MpF w R b f) {T : List Wd} (hT : ∀ k, (f k).isSome = true → k ∈ T) (hl : T.length ≤ 281474976710656) {s : ByteArray} (hs : s.size ≤ 281474976710656) (hx : a.eval x = .string s)
    {val : Value} (hv : a.eval v = val) {d : DU} {ps : List MemPlace} (hval : R val = some (d, ps)) (hK : ∀ w', MpF w' R b (updF f (bl s) d) → w.mapTurned w' b → K (a.put o.dst undef) w') :
    if Region.wanted o (yielded ops a.tmps) = true then Oper.wp Tryd.prog o a w K Q else E := by
  have hw : Region.wanted o (yielded ops a.tmps) = true := by simp [Region.wanted, hg]
  rw [if_pos hw]
  exact wp_put_f w m x v t e hop ht hm h hT hl hs hx hv hval hK
theorem Stp.drew {S S' : Nat → Prop} {W W' : World} (s : Stp S W.drew S' W') : Stp S W S' W' := ⟨⟨s.k.os, s.k.tape, s.k.output, s.k.size, s.k.block⟩, s.s⟩
def seH (hb n : Nat) (H : Hp) (pv : Value) (V : List Pb) (S : Nat → Prop) (W W' : World) : Prop := ∃ T' S', HvS hb n H T' pv V S' W' ∧ TOk H T' ∧ Stp S W S' W'
set_option maxRecDepth 100000 in
set_option maxHeartbeats 8000000 in
theorem set_any {hb n : Nat} {H : Hp} {T : List Wd} {pv : Value} {V : List Pb} {S : Nat → Prop} {W : World} (h : HvS hb n H T pv V S W) {m : Nat} (h1 : m < H.length) (h2 : m < V.length) (ho : H[m].ob = true) (s : ByteArray) (hs : s.size ≤ 140737488355328) (y : Vl) (hy : y.tx.size ≤ 140737488355328) (hT : T.length ≤ 35184372088832) (hl : H[m].nm.length ≤ 4194304) (hK : TOk H T) :
    Calls Tryd.prog 42 #[.pointer (some ⟨hb, 0, none⟩), .map (some V[m].1), .string s, y.v] W fun e W' => e = .returned (.tuple #[]) ∧ seH hb n (H.set m (setT H[m] s y)) pv V S W W' := by
  obtain ⟨tv, ht⟩ := h
  obtain ⟨Wb, hWb⟩ : ∃ X, W.alloc (.cells #[.int .i64 y.kd, .int .i64 y.n, .string y.tx] 23) = X := ⟨_, rfl⟩
  have bb : Below W.heap.size W Wb := by rw [← hWb]; exact belA _ _
  have zb : Wb.heap.size = W.heap.size + 1 := by rw [← hWb]; simp
  have mb : Wb.heap[W.heap.size]? = some (.cells #[.int .i64 y.kd, .int .i64 y.n, .string y.tx] 23 (0, 0)) := by rw [← hWb]; exact hnw _ rfl
  have hb' := ht.bel bb
  have hlk := obj_look (hb'.obj h1 h2 ho) (s := s) (by omega)
  have hok := ht.ok _ (List.getElem_mem h1) ho
  have hz : ((H[m].ls[posN H[m].nm s]?).getD zV).tx.size ≤ 140737488355328 := by
    cases q : H[m].ls[posN H[m].nm s]? with
    | none => exact Nat.zero_le _
    | some y => exact ht.sz _ (List.getElem_mem h1) y (List.mem_of_getElem? q)
  have T1 : Hid (s ∉ H[m].nm → H[m].ls[posN H[m].nm s]? = none ∧ TOk (H.set m (setT H[m] s y)) (kpL y.tx (kpL s T))) := fun q => ⟨look_out hok q, hK.setN h1 ho q y⟩
  have T2 : Hid (s ∈ H[m].nm → ∃ z, H[m].ls[posN H[m].nm s]? = some z ∧ TOk (H.set m (setT H[m] s y)) (((kpL y.tx (kpL s T)).erase (bl s)).erase (bl z.tx))) := fun q => by
    obtain ⟨z, hz⟩ := look_in hok q
    exact ⟨z, hz, hK.setO h1 ho q hok y hz⟩
  have KY : Hid (∀ k, (objF H[m] k).isSome = true → k ∈ H[m].nm.map bl) := objF_keys hok
  have HO : Hid (H[m].ob = true) := ho
  have HLT : Hid (∀ b, S b → b < W.heap.size) := ht.lt
  have LM : Hid (H[m].nm.length ≤ 4194304) := hl
  obtain ⟨o, hoo⟩ : ∃ o, H[m].ls[posN H[m].nm s]? = o := ⟨_, rfl⟩
  rw [hoo] at hlk hz
  have OO : Hid (H[m].ls[posN H[m].nm s]? = o) := hoo
  obtain ⟨z, hzz⟩ : ∃ z, o.getD zV = z := ⟨_, rfl⟩
  obtain ⟨had, hhad⟩ : ∃ b, o.isSome = b := ⟨_, rfl⟩
  rw [hzz, hhad] at hlk
  rw [hzz] at hz
  have ZZ : Hid (o.getD zV = z) := hzz
  have HAD : Hid (o.isSome = had) := hhad
  obtain ⟨W1, hW1⟩ : ∃ X, Wb.alloc (.cells #[.int .i64 z.kd, .int .i64 z.n, .string z.tx] 23) = X := ⟨_, rfl⟩
  have b1 : Below W.heap.size W W1 := by rw [← hW1]; exact bb.alloc bb.size _
  have m1 : W1.heap[W.heap.size]? = some (.cells #[.int .i64 y.kd, .int .i64 y.n, .string y.tx] 23 (0, 0)) := by rw [← hW1]; exact hol _ mb
  have o1 : W1.heap[Wb.heap.size]? = some (.cells #[.int .i64 z.kd, .int .i64 z.n, .string z.tx] 23 (0, 0)) := by rw [← hW1]; exact hnw _ rfl
  have HV1 : Hid (HvT hb n H T pv V tv S W1) := ht.bel b1
  have B1 : Hid (Below W.heap.size W W1) := b1
  have M1 : Hid (W1.heap[W.heap.size]? = some (.cells #[.int .i64 y.kd, .int .i64 y.n, .string y.tx] 23 (0, 0)) ∧ ¬ S W.heap.size) := ⟨m1, fun q => by have := ht.lt _ q; omega⟩
  have O1 : Hid (W1.heap[Wb.heap.size]? = some (.cells #[.int .i64 z.kd, .int .i64 z.n, .string z.tx] 23 (0, 0)) ∧ ¬ S Wb.heap.size) := ⟨o1, fun q => by have := ht.lt _ q; omega⟩
  obtain ⟨⟨e0, e1, e2⟩, _⟩ := free3 m1
  have HC := hkeep_any (⟨tv, HV1.out.keep (fun _ _ => rfl)⟩ : HvS hb n H T pv V S W1.drew) s hs (by omega)
  obtain ⟨q, hq⟩ : ∃ q, V[m].1 = q := ⟨_, rfl⟩
  have QQ : Hid (V[m].1 = q) := hq
  rw [hq] at hlk ⊢
  clear bb zb mb hb' hok ht ho hK hoo hzz hhad b1 m1 o1 hq hl
  unfold Vl.v at hlk ⊢
  have hfin : True := trivial
  go_enter Tryd.func42, Tryd.ntmps42
  go_wp2_with fail
  try simp only [hW1]
  refine region_held (fun X => X.cell? ⟨W.heap.size, 0, none⟩ = some (.int .i64 y.kd) ∧ X.cell? ⟨W.heap.size, 1, none⟩ = some (.int .i64 y.n) ∧ X.cell? ⟨W.heap.size, 2, none⟩ = some (.string y.tx)) (by kernel_rfl) ⟨e0, e1, e2⟩ (fun hS => ?_)
  refine tH 0 ?_
  simp only [List.set]
  refine tH 1 ?_
  simp only [List.set]
  refine tH 2 ?_
  simp only [List.set]
  refine tH 4 ?_
  simp only [List.set]
  refine tH 5 ?_
  simp only [List.set]
  refine wpAnyH_ready (rs := [3]) (by kernel_rfl) (by simp) ?_
  refine AllReadyH.cons rfl (fun K hK => ?_) AllReadyH.nil
  refine step_callB (by rfl) 52 _ _ _ rfl (.pointer (some ⟨hb, 0, none⟩)) (.string s) (by rfl) (by rfl) (fun _ _ => rfl) HC ?_
  rintro e W2 ⟨rfl, S2, hv2, s2⟩
  refine ⟨_, rfl, ?_⟩
  have M2 : Hid (W2.heap[W.heap.size]? = some (.cells #[.int .i64 y.kd, .int .i64 y.n, .string y.tx] 23 (0, 0)) ∧ ¬ S2 W.heap.size) := s2.drew.box M1.out.1 M1.out.2
  have O2 : Hid (W2.heap[Wb.heap.size]? = some (.cells #[.int .i64 z.kd, .int .i64 z.n, .string z.tx] 23 (0, 0)) ∧ ¬ S2 Wb.heap.size) := s2.drew.box O1.out.1 O1.out.2
  have ST2 : Hid (Stp S W S2 W2) := (Stp.bel B1.out).trans s2.drew
  obtain ⟨⟨u0, u1, u2⟩, _⟩ := free3 M2.out.1
  have HC2 := kept_any hv2 y hy (by have := kp_len s T; omega)
  unfold Vl.v at HC2
  refine hK.out _ _ ⟨u0, u1, u2⟩ (fun hS => ?_)
  clear hK K HC e0 e1 e2 hv2 s2
  refine wpAnyH_ready (rs := [6]) (by kernel_rfl) (by simp) ?_
  refine AllReadyH.cons rfl (fun K hK => ?_) AllReadyH.nil
  refine step_callB (by rfl) 46 _ _ _ rfl (.pointer (some ⟨hb, 0, none⟩)) (.agg #[.int .i64 y.kd, .int .i64 y.n, .string y.tx]) (by rfl) (by rfl) (fun _ _ => rfl) HC2 ?_
  rintro e W3 ⟨rfl, S3, ⟨tv3, hv3⟩, s3⟩
  refine ⟨_, rfl, ?_⟩
  have M3 : Hid (W3.heap[W.heap.size]? = some (.cells #[.int .i64 y.kd, .int .i64 y.n, .string y.tx] 23 (0, 0)) ∧ ¬ S3 W.heap.size) := s3.box M2.out.1 M2.out.2
  have O3 : Hid (W3.heap[Wb.heap.size]? = some (.cells #[.int .i64 z.kd, .int .i64 z.n, .string z.tx] 23 (0, 0)) ∧ ¬ S3 Wb.heap.size) := s3.box O2.out.1 O2.out.2
  have ST3 : Hid (Stp S W S3 W3) := ST2.out.trans s3
  obtain ⟨⟨v0, v1, v2⟩, _⟩ := free3 M3.out.1
  have HV3 : Hid (HvT hb n H (kpL y.tx (kpL s T)) pv V tv3 S3 W3) := hv3
  refine hK.out _ _ ⟨v0, v1, v2⟩ (fun hS => ?_)
  clear hK K HC2 u0 u1 u2 hv3 s3
  refine wpAnyH_ready (rs := [7]) (by kernel_rfl) (by simp) ?_
  refine AllReadyH.cons rfl (fun K hK => ?_) AllReadyH.nil
  refine step_put_f (by rfl) _ _ _ 65 23 rfl Tryd.underlying65 (by rfl) (by rw [← QQ.out]; exact HV3.out.obj h1 h2 HO.out) KY.out (by rw [List.length_map]; have := LM.out; omega) (s := s) (by omega) (by rfl) (by rfl) (valR_mk y) ?_
  intro W4 r4 t4
  rw [← QQ.out] at r4 t4
  obtain ⟨hv4, s4⟩ := HV3.out.setM h1 h2 HO.out s y hy t4 r4
  have M4 := s4.box M3.out.1 M3.out.2
  have O4 : Hid (W4.heap[Wb.heap.size]? = some (.cells #[.int .i64 z.kd, .int .i64 z.n, .string z.tx] 23 (0, 0)) ∧ ¬ S3 Wb.heap.size) := s4.box O3.out.1 O3.out.2
  have HV4 : Hid (HvT hb n (H.set m (setT H[m] s y)) (kpL y.tx (kpL s T)) pv V tv3 S3 W4) := hv4
  have ST4 : Hid (Stp S W S3 W4) := ST3.out.trans s4
  refine hK.out _ _ (free3 M4.1).1 (fun hS => ?_)
  clear hK K hv4 s4 M4 r4 t4 v0 v1 v2
  refine wpAnyH_done (by kernel_rfl) ?_ _
  clear hS
  have TL : Hid ((kpL y.tx (kpL s T)).length ≤ 35184372088834) := by
    have a := kp_len y.tx (kpL s T)
    have b := kp_len s T
    exact (show _ ≤ _ by omega)
  generalize hg : had = hd at *
  cases hd with
  | false =>
    have HO' : o = none := by have := HAD.out; cases o <;> simp_all
    go_wp2
    go_end0
    refine ⟨rfl, _, S3, ⟨tv3, HV4.out⟩, (T1.out (fun q => ?_)).2, ST4.out⟩
    obtain ⟨z', e', -⟩ := T2.out q
    rw [OO.out, HO'] at e'
    cases e'
  | true =>
    have a1 : W4.cell? ⟨hb, 1, none⟩ = some tv3 := (cellB HV4.out.cell).1.2
    have HC := hdrop_any HV4.out s (by omega) (by have := TL.out; omega)
    go_wp2_with fail
    go_at_call 47
    refine HC.mono ?_
    rintro e W5 ⟨rfl, S5, h5, s5⟩
    obtain ⟨o5, NO⟩ := s5.box O4.out.1 O4.out.2
    have a5 : (World.drew W5).cell? ⟨hb, 1, none⟩ = some tv3 ∧ (World.drew W5).cell? ⟨Wb.heap.size, 2, none⟩ = some (.string z.tx) := ⟨(cellB h5.cell).1.2, (free3 o5).1.2.2⟩
    have O5 : Hid (W5.heap[Wb.heap.size]? = some (.cells #[.int .i64 z.kd, .int .i64 z.n, .string z.tx] 23 (0, 0)) ∧ ¬ S5 Wb.heap.size) := ⟨o5, NO⟩
    have ST5 : Hid (Stp S W S5 W5) := ST4.out.trans s5
    have HC2 := hdrop_any (W := W5.drew) (h5.keep (fun _ _ => rfl)) z.tx hz (by have := TL.out; have := List.length_erase_le (a := bl s) (l := kpL y.tx (kpL s T)); omega)
    clear HC h5 s5 o5 NO a1
    go_wp2_with fail
    go_region_held3 (fun X => X.cell? ⟨hb, 1, none⟩ = some tv3 ∧ X.cell? ⟨Wb.heap.size, 2, none⟩ = some (.string z.tx))
      (first | exact a5 | exact a6)
      (first | (go_at_call 47; refine HC2.mono ?_; rintro e W6 ⟨rfl, S6, h6, s6⟩; have a6 : W6.cell? ⟨hb, 1, none⟩ = some tv3 ∧ W6.cell? ⟨Wb.heap.size, 2, none⟩ = some (.string z.tx) := ⟨(cellB h6.cell).1.2, (free3 (s6.drew.box O5.out.1 O5.out.2).1).1.2.2⟩))
    have H6 : Hid (HvT hb n (H.set m (setT H[m] s y)) (((kpL y.tx (kpL s T)).erase (bl s)).erase (bl z.tx)) pv V tv3 S6 W6) := h6
    have ST6 : Hid (Stp S W S6 W6) := ST5.out.trans s6.drew
    clear h6 s6 a6 a5 HC2
    go_wp2
    go_end0
    refine ⟨rfl, _, S6, ⟨tv3, H6.out⟩, ?_, ST6.out⟩
    by_cases q : s ∈ H[m].nm
    · obtain ⟨z', e', k⟩ := T2.out q
      rw [OO.out] at e'
      have : z' = z := by rw [← ZZ.out, e']; rfl
      rw [← this]
      exact k
    · have := (T1.out q).1
      rw [OO.out] at this
      rw [this] at HAD
      cases HAD.out
end Go.Proofs.YtlijplbaefaeaaaDoor
