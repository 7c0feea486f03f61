/- Own text. Package value's heap: push. -/
import Derived.Test.YtlijplbaefaeaaaDoorPvG
namespace Go.Proofs.YtlijplbaefaeaaaDoor
open Go.RowKit Go.Maps
set_option linter.unusedVariables false
set_option linter.unusedSimpArgs false

theorem step_callB {P : Program} {ops : Array Oper} {o : Oper} {a : Act} {w : World} {K : Act → World → Prop} {Q : Exit → Act → World → Prop} {E : Prop} (hg : o.guard = none) (f : FuncId) (x1 x2 : Operand) (ts : Array TypeId)
    (hop : o.op = .call { callee := .value (.func f), args := #[x1, x2], argTypes := ts }) (v1 v2 : Value) (h1 : a.eval x1 = v1) (h2 : a.eval x2 = v2) (hent : ∀ args w, (callFunc f args).run P w = .ok (.enter f args) w)
    {R : Ending → World → Prop} (hc : Calls P f #[v1, v2] w R) (h : ∀ e w', R e w' → ∃ v, e = .returned v ∧ K (a.put o.dst v) w') :
    if Region.wanted o (yielded ops a.tmps) = true then Oper.wp P o a w K Q else E := step_call hg f #[x1, x2] ts hop #[v1, v2] (by simp [h1, h2]) hent hc h
theorem HvT.n1 {hb n : Nat} {H : Hp} {T : List Wd} {pv : Value} {V : List Pb} {tv : Value} {S : Nat → Prop} {W : World} (h : HvT hb n H T pv V tv S W) {m : Nat} (h2 : m < V.length) : S V[m].1 := let ⟨_, _, e⟩ := h; (e _).2 (.v1 h2)
theorem HvT.n2 {hb n : Nat} {H : Hp} {T : List Wd} {pv : Value} {V : List Pb} {tv : Value} {S : Nat → Prop} {W : World} (h : HvT hb n H T pv V tv S W) {m : Nat} (h2 : m < V.length) {b : Nat} (q : V[m].2.ownBlock = some b) : S b := let ⟨_, _, e⟩ := h; (e _).2 (.v2 h2 q)
/-- a list longer by one. -/
theorem HvT.psh {hb n : Nat} {H : Hp} {T : List Wd} {pv : Value} {V : List Pb} {tv : Value} {S : Nat → Prop} {W W3 : World} (h : HvT hb n H T pv V tv S W) {m : Nat} (h1 : m < H.length) (h2 : m < V.length) (ho : H[m].ob = false) {y : Vl} (hy : y.tx.size ≤ 140737488355328) {o : Obj} {v' : Value}
    (o3 : W3.ownsRow 0 23 3 v' (H[m].ls.length + 1) (H[m].ls.flatMap Vl.cs ++ y.cs)) (g3 : (W.alloc o).grownBy W3 V[m].2.ownBlock) (f3 : ∀ b, v'.ownBlock = some b → V[m].2.ownBlock = some b ∨ b = (W.alloc o).heap.size) :
    ∃ S', HvS hb n (H.set m ⟨H[m].ob, H[m].nm, H[m].ls ++ [y]⟩) T pv (V.set m (V[m].1, v')) S' (W3.setCell ⟨V[m].1, 0, none⟩ v') ∧ Stp S W S' (W3.setCell ⟨V[m].1, 0, none⟩ v') := by
  have hsl := h.lt
  have n1 := h.n1 h2
  obtain ⟨l1, l2⟩ := h.lst h1 h2 ho
  have hn2 := fun b q => h.n2 h2 (b := b) q
  obtain ⟨C, hh, hS⟩ := h
  have tl1 : Tg W V[m].1 (some 61) := ⟨_, l1, rfl⟩
  have ne1 : ∀ b, V[m].2.ownBlock = some b → b ≠ V[m].1 := fun b q => (row_tg l2 q).ne tl1 (by decide)
  have lt1 := tl1.lt
  have k3 : ∀ b, b < W.heap.size → b ≠ V[m].1 → V[m].2.ownBlock ≠ some b → (W3.setCell ⟨V[m].1, 0, none⟩ v').heap[b]? = W.heap[b]? := fun b hb' ne nr => by
    rw [Below.heap_setCell _ _ _ _ ne, g3.block b (by simp; omega) (fun e => nr e.symm)]
    exact Below.heap_alloc W o b hb'
  have fb : ∀ b, v'.ownBlock = some b → V[m].2.ownBlock = some b ∨ W.heap.size ≤ b := fun b q => (f3 b q).imp id fun e => by rw [e]; simp
  have c3 : (W3.setCell ⟨V[m].1, 0, none⟩ v').heap[V[m].1]? = some (.cells #[v'] 61 (0, 0)) := by
    have e3 : W3.heap[V[m].1]? = some (.cells #[V[m].2] 61 (0, 0)) := (g3.block _ (by simp; omega) (fun e => ne1 _ e.symm rfl)).trans ((Below.heap_alloc W o _ lt1).trans l1)
    rw [heap_setCell_same W3 V[m].1 0 _ _ v' e3]
    simp
  refine ⟨_, ⟨tv, C, hh.upd (W' := W3.setCell ⟨V[m].1, 0, none⟩ v') h1 h2 ⟨H[m].ob, H[m].nm, H[m].ls ++ [y]⟩ (V[m].1, v') rfl rfl (fun b q ne nr => k3 b (hh.lt b q) ne nr) ?_ fb ?_ ?_, fun b => Iff.rfl⟩, ?_, ?_⟩
  · unfold ThA
    rw [if_neg (by simp [ho])]
    refine ⟨c3, ?_⟩
    have := row_same o3 (W' := W3.setCell ⟨V[m].1, 0, none⟩ v') (fun b q => Below.heap_setCell _ _ _ _ (by
      rcases f3 b q with q | q
      · exact ne1 b q
      · have : V[m].1 < (W.alloc o).heap.size := by simp; omega
        show b ≠ V[m].1
        omega))
    simpa using this
  · intro q
    rw [show (⟨H[m].ob, H[m].nm, H[m].ls ++ [y]⟩ : Th).ob = H[m].ob from rfl, ho] at q
    cases q
  · intro x hx
    rcases List.mem_append.1 hx with hx | hx
    · exact hh.sz _ (List.getElem_mem h1) x hx
    · rw [List.mem_singleton.1 hx]; exact hy
  · refine ⟨g3.os, g3.tape, g3.output, by have := g3.size; simp [World.setCell] at this ⊢; omega, fun b hb' ns => k3 b hb' (fun e => ns (e ▸ n1)) (fun q => ns (hn2 b q))⟩
  · intro b q
    exact (Hb.upd h2 (p := (V[m].1, v')) rfl fb b q).imp (fun q => (hS b).2 q) id
set_option maxRecDepth 100000 in
set_option maxHeartbeats 8000000 in
theorem push_any {hb n : Nat} {H : Hp} {T : List Wd} {pv : Value} {V : List Pb} {S : Nat → Prop} {W : World} (h : HvS hb n H T pv V S W) {m : Nat} (h1 : m < H.length) (h2 : m < V.length) (ho : H[m].ob = false) (y : Vl) (hy : y.tx.size ≤ 140737488355328) (hT : T.length ≤ 70368744177664) (hl : H[m].ls.length ≤ 4194304) :
    Calls Tryd.prog 40 #[.pointer (some ⟨hb, 0, none⟩), .pointer (some ⟨V[m].1, 0, none⟩), y.v] W fun e W' => e = .returned (.tuple #[]) ∧ ∃ v' S', HvS hb n (H.set m ⟨H[m].ob, H[m].nm, H[m].ls ++ [y]⟩) (kpL y.tx T) pv (V.set m (V[m].1, v')) S' W' ∧ Stp S W S' W' := by
  obtain ⟨i0, hi0, hz0, hz1, hz2⟩ := info_parts info_v
  obtain ⟨W0, hW0⟩ : ∃ X, W.alloc (.cells #[.int .i64 y.kd, .int .i64 y.n, .string y.tx] 23) = X := ⟨_, rfl⟩
  have b0 : Below W.heap.size W W0 := by rw [← hW0]; exact belA _ _
  have z0 : W0.heap.size = W.heap.size + 1 := by rw [← hW0]; simp
  have m0 : W0.heap[W.heap.size]? = some (.cells #[.int .i64 y.kd, .int .i64 y.n, .string y.tx] 23 (0, 0)) := by rw [← hW0]; exact hnw _ rfl
  have h0 : HvS hb n H T pv V S W0.drew := h.bel (bel_drew b0)
  obtain ⟨⟨c0, c1, c2⟩, _⟩ := free3 m0
  obtain ⟨tv, ht⟩ := h0
  obtain ⟨l1, l2⟩ := ht.lst h1 h2 ho
  obtain ⟨A, c, e⟩ := vform l2
  have d0 := (cell1 l1).1
  rw [e] at d0
  have HC := kept_any (⟨tv, ht⟩ : HvS hb n H T pv V S W0.drew) y hy hT
  have B0 : Hid (Below W.heap.size W W0) := b0
  have H0 : Hid (HvT hb n H T pv V tv S W0.drew) := ht
  have M0 : Hid (W0.heap[W.heap.size]? = some (.cells #[.int .i64 y.kd, .int .i64 y.n, .string y.tx] 23 (0, 0)) ∧ ¬ S W.heap.size) := ⟨m0, fun q => by have := h.lt _ q; omega⟩
  have E0 : Hid (V[m].2 = .slice A H[m].ls.length c) := e
  have I0 : Hid (Tryd.prog.info? 23 = some i0) := hi0
  have su : (fun X : World => X.cell? ⟨V[m].1, 0, none⟩ = some (.slice A H[m].ls.length c) ∧ (X.cell? ⟨W.heap.size, 0, none⟩ = some (.int .i64 y.kd) ∧ X.cell? ⟨W.heap.size, 1, none⟩ = some (.int .i64 y.n) ∧ X.cell? ⟨W.heap.size, 2, none⟩ = some (.string y.tx))) (World.drew W0) := ⟨d0, c0, c1, c2⟩
  clear b0 m0 h ht l1 l2 e d0 c0 c1 c2 hi0 z0
  obtain ⟨ob, hob⟩ : ∃ ob, H[m].ob = ob := ⟨_, rfl⟩
  unfold Vl.v at HC ⊢
  obtain ⟨lb, hlb⟩ : ∃ lb, V[m].1 = lb := ⟨_, rfl⟩
  have HLB : Hid (V[m].1 = lb) := hlb
  obtain ⟨ln, hln⟩ : ∃ ln, H[m].ls.length = ln := ⟨_, rfl⟩
  have HLN : Hid (H[m].ls.length = ln) := hln
  rw [hlb] at su ⊢
  rw [hln] at su hl
  have E1 : Hid (V[m].2 = .slice A ln c) := by rw [← hln]; exact E0.out
  have HO : Hid (H[m].ob = false) := ho
  clear hlb hln E0 hob ho
  go_enter Tryd.func40, Tryd.ntmps40
  go_wp2_with fail
  refine wp_region_U (u := 10) (S := fun X => X.cell? ⟨lb, 0, none⟩ = some (.slice A ln c) ∧ (X.cell? ⟨W.heap.size, 0, none⟩ = some (.int .i64 y.kd) ∧ X.cell? ⟨W.heap.size, 1, none⟩ = some (.int .i64 y.n) ∧ X.cell? ⟨W.heap.size, 2, none⟩ = some (.string y.tx))) (by kernel_rfl) ?_
  change wpAnyU _ _ _ _ _ _ _ _ _ (World.drew _)
  try simp only [hW0]
  refine uT 0 (.pointer (some ⟨lb, 0, none⟩)) su ?_
  refine uT 1 (.pointer (some ⟨lb, 0, none⟩)) su ?_
  refine uT 2 (.pointer (some ⟨lb, 0, none⟩)) su ?_
  refine uT 3 (.pointer (some ⟨lb, 0, none⟩)) su ?_
  refine uT 4 (.slice A ln c) su ?_
  refine uT 5 (.pointer (some ⟨hb, 0, none⟩)) su ?_
  refine uT 6 (.agg #[.int .i64 y.kd, .int .i64 y.n, .string y.tx]) su ?_
  refine U_ready (rs := [7]) (by kernel_rfl) (by simp) ?_
  refine AllU.cons rfl (by decide) (fun K hK => ?_) AllU.nil
  refine step_callB (by rfl) 46 _ _ _ rfl (.pointer (some ⟨hb, 0, none⟩)) (.agg #[.int .i64 y.kd, .int .i64 y.n, .string y.tx]) (by rfl) (by rfl) (fun _ _ => rfl) HC ?_
  rintro e W1 ⟨rfl, S1, h1', s1⟩
  refine ⟨_, rfl, ?_⟩
  obtain ⟨m1, n1⟩ := (show Stp S W0 S1 W1 from ⟨⟨s1.k.os, s1.k.tape, s1.k.output, s1.k.size, s1.k.block⟩, s1.s⟩).box M0.out.1 M0.out.2
  obtain ⟨tv1, ht1⟩ := h1'
  obtain ⟨l1, l2⟩ := ht1.lst h1 h2 HO.out
  obtain ⟨⟨q0, q1, q2⟩, _⟩ := free3 m1
  have d1 := (cell1 l1).1
  rw [E1.out, HLB.out] at d1
  rw [E1.out, HLN.out] at l2
  have su1 : (fun X : World => X.cell? ⟨lb, 0, none⟩ = some (.slice A ln c) ∧ (X.cell? ⟨W.heap.size, 0, none⟩ = some (.int .i64 y.kd) ∧ X.cell? ⟨W.heap.size, 1, none⟩ = some (.int .i64 y.n) ∧ X.cell? ⟨W.heap.size, 2, none⟩ = some (.string y.tx))) W1 := ⟨d1, q0, q1, q2⟩
  have H1 : Hid (HvT hb n H (kpL y.tx T) pv V tv1 S1 W1) := ht1
  have ST : Hid (Stp S W S1 W1) := (Stp.bel B0.out).trans ⟨⟨s1.k.os, s1.k.tape, s1.k.output, s1.k.size, s1.k.block⟩, s1.s⟩
  have M1 : Hid (W1.heap[W.heap.size]? = some (.cells #[.int .i64 y.kd, .int .i64 y.n, .string y.tx] 23 (0, 0)) ∧ ¬ S1 W.heap.size) := ⟨m1, n1⟩
  have own : Hid (W1.ownsRow 0 23 3 (.slice A ln c) ln (H[m].ls.flatMap Vl.cs)) := l2
  have L1 : Hid (W1.heap[lb]? = some (.cells #[.slice A ln c] 61 (0, 0))) := by
    have := l1
    rw [E1.out, HLB.out] at this
    exact this
  refine hK.out _ _ su1 ?_
  clear hK K su HC ht1 l1 l2 q0 q1 q2 d1 m1 n1 s1
  refine U_ready (rs := [8]) (by kernel_rfl) (by simp) ?_
  refine AllU.cons rfl (by decide) (fun K hK => ?_) AllU.nil
  go_simp
  refine hK.out _ _ ⟨al_cell _ su1.1, al_cell _ su1.2.1, al_cell _ su1.2.2.1, al_cell _ su1.2.2.2⟩ ?_
  clear hK K
  refine U_ready (rs := [9]) (by kernel_rfl) (by simp) ?_
  refine AllU.cons rfl (by decide) (fun K hK => ?_) AllU.nil
  refine step_append_gen _ (by rfl) _ _ _ (by rfl) 0 23 i0 _ 3 32 Tryd.underlying37 I0.out hz0 hz1 hz2 rfl (by omega) _ ln (H[m].ls.flatMap Vl.cs) (by rfl) (own.out.alloc _) (some ⟨W1.heap.size, 0, none⟩) 1 1 y.cs (by rfl) (by rfl) (fun _ => ⟨_, rfl, World.news_of_block (cs := #[.int .i64 y.kd, .int .i64 y.n, .string y.tx]) (t := 23) (fr := (0, 0)) (hnw _ rfl)⟩) (by simp [Value.oneCell', Vl.cs]) (by unfold maxLen; omega) (by omega) (by omega) ?_
  intro v' W3 o3 g3 f3
  obtain ⟨gv, cv, hv, -, -⟩ := o3.form (by omega)
  have NL : some lb ≠ (Value.slice A ln c).ownBlock := (row_block own.out L1.out (by decide)).symm
  have NX : some W.heap.size ≠ (Value.slice A ln c).ownBlock := fun q => M1.out.2 (by
    refine H1.out.n2 h2 ?_
    rw [E1.out]
    exact q.symm)
  have p3 := grow_block g3 L1.out NL
  have r3 := grow_block g3 M1.out.1 NX
  obtain ⟨⟨q0, q1, q2⟩, _⟩ := free3 r3
  obtain ⟨d3, z3⟩ := cell1 p3
  refine hK.out _ _ ⟨d3, q0, q1, q2⟩ ?_
  clear hK K su1 q0 q1 q2 p3 r3
  refine U_end (by kernel_rfl) ?_
  refine wpAny_chain [_, _, _] [10, 11, 12] _ _ _ _ (by kernel_rfl) rfl (by decide) ?_
  have PS : Hid (∃ S', HvS hb n (H.set m ⟨H[m].ob, H[m].nm, H[m].ls ++ [y]⟩) (kpL y.tx T) pv (V.set m (lb, v')) S' (W3.setCell ⟨lb, 0, none⟩ v') ∧ Stp S1 W1 S' (W3.setCell ⟨lb, 0, none⟩ v')) := by
    have := H1.out.psh h1 h2 HO.out hy (v' := v') (W3 := W3) (o := .cells #[.int .i64 y.kd, .int .i64 y.n, .string y.tx] 23) (by rw [HLN.out]; exact o3) (by rw [E1.out]; exact g3) (by rw [E1.out]; exact f3)
    rw [HLB.out] at this
    exact this
  clear o3 g3 f3 NL NX hl hT
  subst hv
  go_wp2
  first
    | go_end0
    | refine bodyPost_ret (results_none rfl _ _ _) rfl ?_
  obtain ⟨S', a, b⟩ := PS.out
  exact ⟨rfl, _, S', a, ST.out.trans b⟩
end Go.Proofs.YtlijplbaefaeaaaDoor
