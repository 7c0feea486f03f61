/- Own text. Package graph: ask. Package graph: a module is added to the loader's; a target is set. -/
import Derived.Test.YtfehmdfamndcaaaGreatDoorGm25
namespace Go.Proofs.YtfehmdfamndcaaaGreatDoor
open Go.RowKit Go.MapKept
set_option linter.unusedVariables false
set_option linter.unusedSimpArgs false

set_option maxRecDepth 100000 in
set_option maxHeartbeats 1000000 in
theorem ask_any {L : Fls} {MR : ByteArray → Nd} {c : Lw} {d : Nat} (HV : VisC L MR c d) {W : World} {S : Sx} (h : Ld L W c S) (hd : 65 ≤ d + S.ms.length) (r : Qn) (hr : r.1.size + r.2.size < 140737488355328) :
    Calls Tryz.prog 29 #[.pointer (some ⟨c.lb, 0, none⟩), qv r] W fun e W' => ∃ n S' f, e = .returned (.tuple #[.int .i64 n, fv f]) ∧ Ask L MR r S n S' f ∧ Ld L W' c S' ∧ Fr W c S W' S' ∧ Okf f := by
  obtain ⟨W0, hW0⟩ : ∃ X, (W.alloc (Obj.cells #[Value.string r.1, Value.string r.2] 52)).alloc (Obj.cells #[Value.string ⟨#[]⟩, Value.string ⟨#[]⟩, Value.int IntKind.i64 0] 54) = X := ⟨_, rfl⟩
  have b0 : Below W.heap.size W W0 := by rw [← hW0]; exact ((Below.refl _ _).alloc (Nat.le_refl _) _).alloc (by simp) _
  have mr : W0.heap[W.heap.size]? = some (.cells #[Value.string r.1, Value.string r.2] 52 (0, 0)) := by rw [← hW0]; exact hold _ (by simp) (hnew _ rfl)
  have mf : W0.heap[W.heap.size + 1]? = some (.cells #[Value.string ⟨#[]⟩, Value.string ⟨#[]⟩, Value.int IntKind.i64 0] 54 (0, 0)) := by rw [← hW0]; exact hnew _ (by simp)
  have s0 : W.heap.size + 2 ≤ W0.heap.size := by rw [← hW0]; simp
  have hl := h.ltl
  have hbl := h.bl
  have h0 := h.bel b0
  obtain ⟨e0, e1, e2, e3⟩ := h0.cells
  obtain ⟨u0, u1⟩ := t2 mr
  obtain ⟨⟨q0, q1, q2⟩, g0, g1, g2⟩ := t3 mf
  have LT := h0.tgt r
  have LTd := h0.drew.tgt r
  have hq1 : (Value.agg #[Value.string r.1, Value.string r.2]) = qv r := rfl
  unfold qv
  clear hq1
  cases hn : S.tgt r with
  | some n =>
    rw [hn] at LT LTd
    simp only [Option.map, Option.getD, Option.isSome, vI] at LT LTd
    go_enter Tryz.func29, Tryz.ntmps29
    go_wp2
    go_region
    go_wp2
    refine bodyPost_ret (res_fol Tryz.results29 (t3_set (Value.string ⟨#[]⟩) (Value.string ⟨#[]⟩) (Value.int IntKind.i64 0) (b := W.heap.size + 1) mf) rfl) rfl ⟨n, S, none, rfl, .old hn, ?_, ?_, okf_none⟩
    · exact h.bel (((b0.drew.setCell (p := ⟨W.heap.size + 1, 0, none⟩) (by simp) _).setCell (p := ⟨W.heap.size + 1, 1, none⟩) (by simp) _).setCell (p := ⟨W.heap.size + 1, 2, none⟩) (by simp) _)
    · exact Fr.of (((b0.drew.setCell (p := ⟨W.heap.size + 1, 0, none⟩) (by simp) _).setCell (p := ⟨W.heap.size + 1, 1, none⟩) (by simp) _).setCell (p := ⟨W.heap.size + 1, 2, none⟩) (by simp) _)
  | none =>
    rw [hn] at LT LTd
    simp only [Option.map, Option.getD, Option.isSome] at LT LTd
    have CJ := Pa.join_any r.1 r.2 W0.drew hr
    go_enter Tryz.func29, Tryz.ntmps29
    go_wp2
    go_region
    go_wp2_with fail
    go_at_call 35
    refine CJ.mono ?_
    rintro e W1 ⟨rfl, b1⟩
    have bw1 : Below W.heap.size W W1 := b0.drew.trans (b1.mono b0.size)
    have h1 := h.bel bw1
    have mr1 := (b1.block _ (by show _ < W0.heap.size; omega)).trans mr
    have mf1 := (b1.block _ (by show _ < W0.heap.size; omega)).trans mf
    have s1 : W.heap.size + 2 ≤ W1.heap.size := by have := b1.size; show _ ≤ _; exact Nat.le_trans s0 this
    clear e0 e1 e2 e3 u0 u1 q0 q1 q2 g0 g1 g2 LT LTd CJ hW0
    obtain ⟨u0, u1⟩ := t2 mr1
    have CF := follow_any HV h1 hd r (Pa.jnB r.1 r.2) (Pa.jnB_size _ _) (Pa.jnE r.1 r.2)
    unfold qv at CF
    go_wp2_with fail
    go_at_call 12
    refine CF.mono ?_
    rintro e W2 ⟨n, S', f, rfl, hFol, h2, f2, hOk⟩
    obtain ⟨fa, fb, fd, hfv⟩ : ∃ a b d, fv f = .agg #[.string a, .string b, .int .i64 d] := by cases f <;> exact ⟨_, _, _, rfl⟩
    have HFV : Hid (fv f = .agg #[.string fa, .string fb, .int .i64 fd]) := hfv
    rw [hfv]
    clear u0 u1 CF
    have F2 : Fr W c S W2 S' := (Fr.of bw1).trans f2
    have fr : Fg c S W.heap.size := h.fg (Nat.le_refl _)
    have ff : Fg c S (W.heap.size + 1) := h.fg (by omega)
    have mr2 := (f2.block _ (by omega) fr.l fr.n fr.g fr.v).trans mr1
    have mf2 := (f2.block _ (by omega) ff.l ff.n ff.g ff.v).trans mf1
    have ff2 : Fg c S' (W.heap.size + 1) := f2.fg (by omega) ff
    have s2 := f2.size
    have bA : Below W2.heap.size W2 (W2.alloc (Obj.cells #[Value.string fa, Value.string fb, Value.int IntKind.i64 fd] 54)) := (Below.refl _ _).alloc (Nat.le_refl _) _
    have mA : (W2.alloc (Obj.cells #[Value.string fa, Value.string fb, Value.int IntKind.i64 fd] 54)).heap[W2.heap.size]? = some (.cells #[Value.string fa, Value.string fb, Value.int IntKind.i64 fd] 54 (0, 0)) := heap_alloc_new _ _
    have h3 := h2.bel bA
    have F3 : Fr W c S (W2.alloc (Obj.cells #[Value.string fa, Value.string fb, Value.int IntKind.i64 fd] 54)) S' := F2.trans (Fr.of (S := S') bA)
    have mr3 := (bA.block _ (by omega)).trans mr2
    have mf3 := (bA.block _ (by omega)).trans mf2
    have EQ := fun W => ft_eql W fa fb fd
    obtain ⟨W3, hW3⟩ : ∃ X, W2.alloc (Obj.cells #[Value.string fa, Value.string fb, Value.int IntKind.i64 fd] 54) = X := ⟨_, rfl⟩
    rw [hW3] at h3 F3 mr3 mf3 mA
    obtain ⟨N, hN⟩ : ∃ N, W2.heap.size = N := ⟨_, rfl⟩
    rw [hN] at mA s2
    cases f with
    | some x =>
      have hx := hOk x rfl
      obtain ⟨ha, hb, hdd⟩ : x.1.1 = fa ∧ x.1.2 = fb ∧ x.2 = fd := by
        unfold fv at hfv
        simp only [Value.agg.injEq, Array.mk.injEq, List.cons.injEq, Value.int.injEq, Value.string.injEq, true_and, and_true] at hfv
        exact hfv
      have hz : (fa.toList == [] && fb.toList == [] && fd == 0) = false := by
        have : (fd == 0) = false := by rw [← hdd]; simpa using hx
        rw [this]; simp
      rw [hz] at EQ
      obtain ⟨⟨y0, y1, y2⟩, _, _, _⟩ := t3 mA
      obtain ⟨⟨q0, q1, q2⟩, g0, g1, g2⟩ := t3 mf3
      clear hfv hz ha hb hdd hx bA mf mf1 mf2 mr mr1 mr2
      go_wp2
      go_region
      go_wp2
      have P := put3 h3 F3 (k := W.heap.size + 1) (by omega) ff2 (by omega) (Value.string fa) (Value.string fb) (Value.int IntKind.i64 fd)
      refine bodyPost_ret (res_fol Tryz.results29 (t3_set (Value.string fa) (Value.string fb) (Value.int IntKind.i64 fd) (b := W.heap.size + 1) mf3) rfl) rfl ⟨n, S', some x, by rw [HFV.out]; rfl, .bad hn hFol, P.1.drew, P.2.drew, hOk⟩
    | none =>
      have hz : (fa.toList == [] && fb.toList == [] && fd == 0) = true := by
        unfold fv at hfv
        simp only [Value.agg.injEq, Array.mk.injEq, List.cons.injEq, Value.int.injEq, Value.string.injEq, true_and, and_true] at hfv
        obtain ⟨rfl, rfl, rfl⟩ := hfv
        rw [ByteArray.toList_eq]; rfl
      rw [hz] at EQ
      obtain ⟨⟨y0, y1, y2⟩, _, _, _⟩ := t3 mA
      obtain ⟨⟨q0, q1, q2⟩, g0, g1, g2⟩ := t3 mf3
      obtain ⟨u0, u1⟩ := t2 mr3
      obtain ⟨e0, e1, e2, e3⟩ := h3.cells
      obtain ⟨n2, m2⟩ := h3.drew.tg
      obtain ⟨W4, hrun, hmf, hgr⟩ := m2.update keyQ under_tg r trivial n
      have U := h3.drew.upT hgr ⟨_, hmf⟩
      have F4 := F3.drew.trans U.2
      have ltN : N < W3.heap.size := (Array.getElem?_eq_some_iff.1 mA).1
      have mf4 := (hgr.block (W.heap.size + 1) (by show _ < W3.heap.size; omega) (fun e => ff2.g (by simpa using e))).trans mf3
      have mA4 := (hgr.block N (by exact ltN) (fun e => (h2.fg (k := N) (by omega)).g (by simpa using e))).trans mA
      have ff4 : Fg c { S' with tgt := upd S'.tgt r n } (W.heap.size + 1) := ⟨ff2.l, ff2.n, ff2.g, ff2.v, ff2.r⟩
      simp only [qv, vI] at hrun
      obtain ⟨⟨y3, y4, y5⟩, _, _, _⟩ := t3 mA4
      obtain ⟨⟨q3, q4, q5⟩, g3, g4, g5⟩ := t3 mf4
      clear hz hfv bA mf mf1 mf2 mr mr1 mr2 m2 hmf hgr
      go_wp2
      go_region
      go_wp2
      go_region
      go_wp2
      have P := put3 U.1 F4 (k := W.heap.size + 1) (by omega) ff4 (by omega) (Value.string fa) (Value.string fb) (Value.int IntKind.i64 fd)
      refine bodyPost_ret (res_fol Tryz.results29 (t3_set (Value.string fa) (Value.string fb) (Value.int IntKind.i64 fd) (b := W.heap.size + 1) mf4) rfl) rfl ⟨n, _, none, by rw [HFV.out]; rfl, .go hn hFol, P.1.drew, P.2.drew, okf_none⟩
end Go.Proofs.YtfehmdfamndcaaaGreatDoor
namespace Go.Proofs.YtfehmdfamndcaaaGreatDoor
open Go.RowKit Go.MapKept
set_option linter.unusedVariables false
set_option linter.unusedSimpArgs false

theorem ft_neq (W : World) (a b : ByteArray) (d : Int) : (binOp .neq 54 (.agg #[.string a, .string b, .int .i64 d]) (.agg #[.string ⟨#[]⟩, .string ⟨#[]⟩, .int .i64 0])).run Tryz.prog W = .ok (.bool (!(a.toList == [] && b.toList == [] && d == 0))) W := by
  have h := ft_eql W a b d
  rw [run_eql_struct] at h
  rw [run_neq_struct]
  cases hr : (Op.equalIn 10000 54 (.agg #[.string a, .string b, .int .i64 d]) (.agg #[.string ⟨#[]⟩, .string ⟨#[]⟩, .int .i64 0])).run Tryz.prog W with
  | ok x w' =>
    rw [hr] at h
    have h2 : (Result.ok (Value.bool x) w' : Result Value) = .ok (.bool (a.toList == [] && b.toList == [] && d == 0)) W := h
    simp only [Result.ok.injEq, Value.bool.injEq] at h2
    obtain ⟨e1, e2⟩ := h2
    subst e1 e2
    rfl
  | _ => rw [hr] at h; cases h
theorem info_md : (Tryz.prog.info? 65).map (fun i => (i.zero, i.size, i.bytes)) = some (some (.agg #[.string ByteArray.empty, .int .i64 0, .string ByteArray.empty, .int .i64 0, .slice none 0 0, .slice none 0 0]), 6, 96) := by kernel_rfl
theorem snoc_at {α : Type} {l : List α} {m x : α} {i : Nat} (h : (l ++ [m])[i]? = some x) : l[i]? = some x ∨ (i = l.length ∧ x = m) := by
  by_cases q : i < l.length
  · rw [List.getElem?_append_left q] at h; exact .inl h
  · rw [List.getElem?_append_right (by omega)] at h
    have : i - l.length = 0 := by
      by_cases z : i - l.length = 0
      · exact z
      · rw [List.getElem?_eq_none (by simp; omega)] at h; cases h
    rw [this] at h
    injection h with h
    exact .inr ⟨by omega, h.symm⟩
/-- a module is added. -/
theorem Ld.app {L : Fls} {W0 W1 W2 W3 : World} {c : Lw} {S0 S : Sx} (h : Ld L W1 c S) (f : Fr W0 c S0 W1 S) (m : Md) (hl : S.ms.length + 1 ≤ 64) (hr : RqO W1 c.B m.rv m.rs) (hfg : ∀ g, m.rv.ownBlock = some g → Fg c S g) (hnw : ∀ g, m.rv.ownBlock = some g → W0.heap.size ≤ g)
    (b : Below W1.heap.size W1 W2) {g cap : Nat} (own : W3.ownsRow c.B 65 6 (.slice (some ⟨g, 0, none⟩) (S.ms.length + 1) cap) (S.ms.length + 1) (mdL S.ms ++ m.cs)) (gr : W2.grownBy W3 S.vm.ownBlock) (hat : S.vm.ownBlock = some g ∨ g = W2.heap.size) :
    Ld L (W3.setCell ⟨c.lb, 1, none⟩ (.slice (some ⟨g, 0, none⟩) (S.ms.length + 1) cap)) c ⟨S.ms ++ [m], .slice (some ⟨g, 0, none⟩) (S.ms.length + 1) cap, S.num, S.tgt⟩ ∧ Fr W0 c S0 (W3.setCell ⟨c.lb, 1, none⟩ (.slice (some ⟨g, 0, none⟩) (S.ms.length + 1) cap)) ⟨S.ms ++ [m], .slice (some ⟨g, 0, none⟩) (S.ms.length + 1) cap, S.num, S.tgt⟩ := by
  have s1 := b.size
  have s2 := gr.size
  have hlt := h.ltl
  have hbl := h.bl
  have gne : g ≠ c.lb := by
    rcases hat with e | e
    · intro q; exact h.a1 (by rw [e, q])
    · omega
  have blk : ∀ k, k < W1.heap.size → S.vm.ownBlock ≠ some k → W3.heap[k]? = W1.heap[k]? := fun k h1 h2 => (gr.block k (by omega) (fun e => h2 e.symm)).trans (b.block k h1)
  have blk4 : ∀ (k : Nat) (v : Value), k < W1.heap.size → S.vm.ownBlock ≠ some k → k ≠ c.lb → (W3.setCell ⟨c.lb, 1, none⟩ v).heap[k]? = W1.heap[k]? := fun k v h1 h2 h3 => (Below.heap_setCell _ _ _ _ h3).trans (blk k h1 h2)
  have l3 := (blk _ hlt h.a1).trans h.l
  obtain ⟨n1, m1⟩ := h.nu
  obtain ⟨n2, m2⟩ := h.tg
  obtain ⟨x1, x2, x3⟩ := h.apartM m1.map_
  obtain ⟨y1, y2, y3⟩ := h.apartM m2.map_
  have bw : Below c.B W1 (W3.setCell ⟨c.lb, 1, none⟩ (.slice (some ⟨g, 0, none⟩) (S.ms.length + 1) cap)) := ⟨gr.os.trans b.os, gr.tape.trans b.tape, gr.output.trans b.output, by rw [show (W3.setCell ⟨c.lb, 1, none⟩ (.slice (some ⟨g, 0, none⟩) (S.ms.length + 1) cap)).heap.size = W3.heap.size by simp]; omega, fun k hk => blk4 k _ (by omega) (fun e => by have := (row_lt h.row k e).1; omega) (by omega)⟩
  refine ⟨⟨?_, ?_, ⟨n1, m1.keep (blk4 _ _ m1.lt x2 x1)⟩, ⟨n2, m2.keep (blk4 _ _ m2.lt y2 y1)⟩, ?_, ?_, ?_, ?_, h.a4, h.bl, h.bn, h.bg, h.tab.below bw h.t1 h.t2, h.t1, h.t2, h.env.keep bw h.ov, h.ov, by simp; omega⟩, ?_⟩
  · simp [World.setCell, Array.getElem?_modify, l3]
  · have := row_off (w' := W3.setCell ⟨c.lb, 1, none⟩ (.slice (some ⟨g, 0, none⟩) (S.ms.length + 1) cap)) own (fun k hk => Below.heap_setCell _ _ _ _ (by
      obtain rfl : g = k := by simpa [Value.ownBlock] using hk
      exact gne))
    simpa [mdL_snoc] using this
  · intro i x hx
    rcases snoc_at hx with hx | ⟨_, rfl⟩
    · exact row_off (h.rq i x hx) (fun k hk => blk4 k _ (row_lt (h.rq i x hx) k hk).2 ((h.a2 i x hx).2 k hk) (fun e => (h.a2 i x hx).1 (by rw [hk, e])))
    · exact row_off hr (fun k hk => blk4 k _ (row_lt hr k hk).2 (hfg k hk).v (hfg k hk).l)
  · exact fun e => gne (by simpa [Value.ownBlock] using e)
  · intro i x hx
    rcases snoc_at hx with hx | ⟨_, rfl⟩
    · refine ⟨(h.a2 i x hx).1, fun k hk e => ?_⟩
      obtain rfl : g = k := by simpa [Value.ownBlock] using e
      rcases hat with q | q
      · exact (h.a2 i x hx).2 _ hk q
      · have := (row_lt (h.rq i x hx) _ hk).2; omega
    · refine ⟨fun e => (hfg _ e).l rfl, fun k hk e => ?_⟩
      obtain rfl : g = k := by simpa [Value.ownBlock] using e
      rcases hat with q | q
      · exact (hfg _ hk).v q
      · have := (row_lt hr _ hk).2; omega
  · intro i j x y hx hy hij k hk
    rcases snoc_at hx with qx | ⟨e1, rfl⟩
    · rcases snoc_at hy with qy | ⟨e2, rfl⟩
      · exact h.a3 i j x y qx qy hij k hk
      · exact fun e => (hfg k e).r i x qx hk
    · rcases snoc_at hy with qy | ⟨e2, _⟩
      · exact (hfg k hk).r j y qy
      · omega
  · refine ⟨gr.os.trans (b.os.trans f.os), gr.tape.trans (b.tape.trans f.tape), gr.output.trans (b.output.trans f.output), by rw [show (W3.setCell ⟨c.lb, 1, none⟩ (.slice (some ⟨g, 0, none⟩) (S.ms.length + 1) cap)).heap.size = W3.heap.size by simp]; have := f.size; omega, fun k h1 h2 h3 h4 h5 => ?_, fun k e => ?_, fun i hi => ?_, by have := f.len; simp; omega, ?_⟩
    · have fs := f.size
      refine (blk4 k _ (by omega) (fun e => ?_) h2).trans (f.block k h1 h2 h3 h4 h5)
      rcases f.own k e with q | q
      · exact h5 q
      · omega
    · obtain rfl : g = k := by simpa [Value.ownBlock] using e
      rcases hat with q | q
      · exact f.own _ q
      · exact .inr (by have := f.size; omega)
    · have := f.len
      exact (List.getElem?_append_left (by omega)).trans (f.ext i hi)
    · intro i x hi hx k hk
      rcases snoc_at hx with hx | ⟨_, rfl⟩
      · exact f.new i x hi hx k hk
      · exact hnw k hk
theorem rqL_set (n : Int) : ∀ (L : List Rq) (i : Nat), rqL (L.modify i fun r => { r with tg := n }) = (rqL L).set (i * 4 + 3) (.int .i64 n)
  | [], i => by simp [rqL]
  | r :: L, 0 => by simp [rqL, Rq.cs]
  | r :: L, i + 1 => by
    have e : rqL (r :: L) = r.cs ++ rqL L := rfl
    rw [List.modify_succ_cons, e]
    have e1 : (i + 1) * 4 + 3 = (r.cs).length + (i * 4 + 3) := by simp [Rq.cs]; omega
    rw [e1, List.set_append_right _ _ (by omega), Nat.add_sub_cancel_left, ← rqL_set n L i]
    rfl
theorem setT_at {S : Sx} {a i : Nat} {n : Int} {j : Nat} {x : Md} (h : (setT S a i n).ms[j]? = some x) : ∃ y, S.ms[j]? = some y ∧ x.rv = y.rv ∧ (x = y ∧ a ≠ j ∨ a = j ∧ x.rs = y.rs.modify i fun r => { r with tg := n }) := by
  unfold setT at h
  rw [List.getElem?_modify] at h
  cases hy : S.ms[j]? with
  | none => rw [hy] at h; cases h
  | some y =>
    rw [hy] at h
    injection h with h
    change (if a = j then { y with rs := y.rs.modify i fun r => { r with tg := n } } else y) = x at h
    by_cases e : a = j
    · rw [if_pos e] at h; subst h; exact ⟨y, rfl, rfl, .inr ⟨e, rfl⟩⟩
    · rw [if_neg e] at h; subst h; exact ⟨_, rfl, rfl, .inl ⟨rfl, e⟩⟩
theorem mdL_set (M : List Md) (a i : Nat) (n : Int) : mdL (M.modify a fun m => { m with rs := m.rs.modify i fun r => { r with tg := n } }) = mdL M := by
  induction M generalizing a with
  | nil => simp [mdL]
  | cons m M ih =>
    cases a with
    | zero => simp [mdL, Md.cs]
    | succ a =>
      rw [List.modify_succ_cons]
      have e : ∀ (m : Md) (M : List Md), mdL (m :: M) = m.cs ++ mdL M := fun _ _ => rfl
      rw [e, e, ih]
theorem setT_get {S : Sx} {a i : Nat} {n : Int} {m : Md} (h : S.ms[a]? = some m) : (setT S a i n).ms[a]? = some { m with rs := m.rs.modify i fun r => { r with tg := n } } := by
  unfold setT
  rw [List.getElem?_modify, h]
  simp
/-- a target is set. -/
theorem Ld.setT {L : Fls} {W0 W : World} {c : Lw} {S0 S : Sx} (h : Ld L W c S) (f : Fr W0 c S0 W S) {a i : Nat} {n : Int} {m : Md} (hm : S.ms[a]? = some m) (ha : S0.ms.length ≤ a) {g cap : Nat} (hv : m.rv = .slice (some ⟨g, 0, none⟩) m.rs.length cap) :
    Ld L (W.setCell ⟨g, i * 4 + 3, none⟩ (.int .i64 n)) c (setT S a i n) ∧ Fr W0 c S0 (W.setCell ⟨g, i * 4 + 3, none⟩ (.int .i64 n)) (setT S a i n) := by
  have hob : m.rv.ownBlock = some g := by rw [hv]; rfl
  have hrow := h.rq a m hm
  obtain ⟨hgB, hgl⟩ := row_lt hrow g hob
  obtain ⟨z1, z2⟩ := h.a2 a m hm
  have off : ∀ k, k ≠ g → (W.setCell ⟨g, i * 4 + 3, none⟩ (.int .i64 n)).heap[k]? = W.heap[k]? := fun k hk => Below.heap_setCell _ _ _ _ hk
  obtain ⟨n1, m1⟩ := h.nu
  obtain ⟨n2, m2⟩ := h.tg
  obtain ⟨x1, x2, x3⟩ := h.apartM m1.map_
  obtain ⟨y1, y2, y3⟩ := h.apartM m2.map_
  have bwB : ∀ B, B ≤ g → Below B W (W.setCell ⟨g, i * 4 + 3, none⟩ (.int .i64 n)) := fun B hB => (Below.refl B W).setCell (p := ⟨g, i * 4 + 3, none⟩) hB _
  have bw := bwB _ hgB
  have hW0 := f.new a m ha hm g hob
  refine ⟨⟨?_, ?_, ⟨n1, m1.keep (off _ (fun e => x3 a m hm (by rw [hob, e])))⟩, ⟨n2, m2.keep (off _ (fun e => y3 a m hm (by rw [hob, e])))⟩, ?_, h.a1, ?_, ?_, h.a4, h.bl, h.bn, h.bg, h.tab.below bw h.t1 h.t2, h.t1, h.t2, h.env.keep bw h.ov, h.ov, ?_⟩, ?_⟩
  · exact (off _ (fun e => z1 (by rw [hob, e]))).trans h.l
  · have := row_off (w' := W.setCell ⟨g, i * 4 + 3, none⟩ (.int .i64 n)) h.row (fun k hk => off k (fun e => z2 g hob (by rw [hk, e])))
    unfold Go.Proofs.YtfehmdfamndcaaaGreatDoor.setT
    simp only [mdL_set, List.length_modify]
    exact this
  · intro j x hx
    obtain ⟨y, hy, e1, e2⟩ := setT_at hx
    rcases e2 with ⟨rfl, hne⟩ | ⟨rfl, e2⟩
    · exact row_off (h.rq j x hy) (fun k hk => off k (fun e => h.a3 a j m x hm hy hne g hob (by rw [hk, e])))
    · obtain rfl : m = y := by rw [hm] at hy; injection hy
      unfold RqO at hrow ⊢
      rw [e1, e2, rqL_set, List.length_modify]
      rw [hv] at hrow ⊢
      exact (World.ownsRow.stored hrow (i * 4 + 3) (.int .i64 n)).1
  · intro j x hx
    obtain ⟨y, hy, e1, e2⟩ := setT_at hx
    rw [e1]
    exact h.a2 j y hy
  · intro j k x x' hx hx' hne
    obtain ⟨y, hy, e1, e2⟩ := setT_at hx
    obtain ⟨y', hy', e1', e2'⟩ := setT_at hx'
    rw [e1, e1']
    exact h.a3 j k y y' hy hy' hne
  · have := h.le
    unfold Go.Proofs.YtfehmdfamndcaaaGreatDoor.setT
    simpa using this
  · refine ⟨f.os, f.tape, f.output, by simpa using f.size, fun k h1 h2 h3 h4 h5 => (off k (by omega)).trans (f.block k h1 h2 h3 h4 h5), f.own, fun j hj => ?_, ?_, ?_⟩
    · unfold Go.Proofs.YtfehmdfamndcaaaGreatDoor.setT
      rw [List.getElem?_modify, ← f.ext j hj]
      have e : a ≠ j := by omega
      cases S.ms[j]? <;> simp [e]
    · have := f.len
      unfold Go.Proofs.YtfehmdfamndcaaaGreatDoor.setT
      simpa using this
    · intro j x hj hx k hk
      obtain ⟨y, hy, e1, e2⟩ := setT_at hx
      rw [e1] at hk
      exact f.new j y hj hy k hk
theorem reqF_tx : ∀ (l : List Nd) (i : Nat) (q : Rq), q ∈ reqF l i → ∃ x ∈ l, q.t = x.t
  | [], i, q, h => by cases h
  | x :: l, i, q, h => by
    rw [reqF] at h
    have ih : q ∈ reqF l (i + 1) → ∃ y ∈ x :: l, q.t = y.t := fun h => by
      obtain ⟨y, hy, e⟩ := reqF_tx l (i + 1) q h
      exact ⟨y, List.mem_cons_of_mem _ hy, e⟩
    split at h
    · rcases List.mem_cons.1 h with rfl | h
      · exact ⟨x, List.mem_cons_self, rfl⟩
      · exact ih h
    · exact ih h
theorem reqsL_tx (x : Nd) (q : Rq) (h : q ∈ reqsL x) : ∃ y ∈ x.ks, q.t = y.t := by
  unfold reqsL at h
  split at h
  · exact reqF_tx _ _ _ h
  · cases h
theorem reqsL_len (x : Nd) : (reqsL x).length ≤ x.ks.length := by
  unfold reqsL
  split
  · exact reqF_len _ _
  · simp
end Go.Proofs.YtfehmdfamndcaaaGreatDoor
