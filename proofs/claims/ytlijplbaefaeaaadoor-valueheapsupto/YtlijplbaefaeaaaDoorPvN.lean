/- Own text. Package value's heap: place. -/
import Derived.Test.YtlijplbaefaeaaaDoorPvM
namespace Go.Proofs.YtlijplbaefaeaaaDoor
open Go.RowKit Go.Maps
set_option linter.unusedVariables false
set_option linter.unusedSimpArgs false

theorem info_if : (Tryd.prog.info? 20).map (fun i => (i.zero, i.size, i.bytes)) = some (some .nilIface, 1, 16) := by kernel_rfl
theorem faV_one (t : Th) (p : Pb) : (faV t p).oneCell' = true := by unfold faV; split <;> rfl
/-- the next thing has its place. -/
theorem HvT.plc {hb n : Nat} {H : Hp} {T : List Wd} {pv : Value} {V : List Pb} {tv : Value} {S : Nat → Prop} {W W3 : World} (h : HvT hb n H T pv V tv S W) (h1 : n < H.length) (h2 : n < V.length) {o : Obj} {v' : Value}
    (o3 : W3.ownsRow 0 20 1 v' (n + 1) ((faL H V).take n ++ [faV H[n] V[n]])) (g3 : (W.alloc o).grownBy W3 pv.ownBlock) (f3 : ∀ b, v'.ownBlock = some b → pv.ownBlock = some b ∨ b = (W.alloc o).heap.size) :
    ∃ S', HvS hb (n + 1) H T v' V S' (W3.setCell ⟨hb, 0, none⟩ v') ∧ Stp S W S' (W3.setCell ⟨hb, 0, none⟩ v') := by
  have hd := h.hd
  obtain ⟨C, hh, hS⟩ := h
  have tl1 := hh.hT
  have ne1 : ∀ b, pv.ownBlock = some b → b ≠ hb := fun b q => (row_tg hh.p q).ne tl1 (by decide)
  have lt1 := tl1.lt
  have k3 : ∀ b, b < W.heap.size → b ≠ hb → pv.ownBlock ≠ some b → (W3.setCell ⟨hb, 0, none⟩ v').heap[b]? = W.heap[b]? := fun b hb' ne nr => by
    rw [Below.heap_setCell _ _ _ _ ne, g3.block b (by simp; omega) (fun e => nr e.symm)]
    exact Below.heap_alloc W o b hb'
  have c3 : (W3.setCell ⟨hb, 0, none⟩ v').heap[hb]? = some (.cells #[v', tv] 55 (0, 0)) := by
    have e3 : W3.heap[hb]? = some (.cells #[pv, tv] 55 (0, 0)) := (g3.block _ (by simp; omega) (fun e => ne1 _ e.symm rfl)).trans ((Below.heap_alloc W o _ lt1).trans hh.h)
    rw [heap_setCell_same W3 hb 0 _ _ v' e3]
    simp
  refine ⟨_, ⟨tv, C, hh.plc (W' := W3.setCell ⟨hb, 0, none⟩ v') h1 c3 (fun b q ne nr => k3 b (hh.lt b q) ne nr) ?_, fun b => Iff.rfl⟩, ?_, ?_⟩
  · have := row_same o3 (W' := W3.setCell ⟨hb, 0, none⟩ v') (fun b q => Below.heap_setCell _ _ _ _ (by
      rcases f3 b q with q | q
      · exact ne1 b q
      · have : hb < (W.alloc o).heap.size := by simp; omega
        show b ≠ hb
        omega))
    simpa [faL] using this
  · refine ⟨g3.os, g3.tape, g3.output, by have := g3.size; simp [World.setCell] at this ⊢; omega, fun b hb' ns => k3 b hb' (fun e => ns (e ▸ hd)) (fun q => ns ((hS b).2 (.pl q)))⟩
  · rintro b (rfl | q | q | q)
    · exact .inl hd
    · rcases f3 b q with q | q
      · exact .inl ((hS b).2 (.pl q))
      · refine .inr ?_
        rw [q]
        simp
    · exact .inl ((hS b).2 (.inr (.inr (.inl q))))
    · exact .inl ((hS b).2 (.inr (.inr (.inr q))))
set_option maxRecDepth 100000 in
set_option maxHeartbeats 8000000 in
theorem place_any {hb n : Nat} {H : Hp} {T : List Wd} {pv : Value} {V : List Pb} {S : Nat → Prop} {W : World} (h : HvS hb n H T pv V S W) (h1 : n < H.length) (h2 : n < V.length) (hn : n ≤ 4194304) (k : Int) {fa : Value} (hfa : fa = faV H[n] V[n]) :
    Calls Tryd.prog 41 #[.pointer (some ⟨hb, 0, none⟩), .int .i64 k, fa] W fun e W' => e = .returned (⟨k, (n : Nat), ⟨#[]⟩⟩ : Vl).v ∧ ∃ v' S', HvS hb (n + 1) H T v' V S' W' ∧ Stp S W S' W' := by
  obtain ⟨i0, hi0, hz0, hz1, hz2⟩ := info_parts info_if
  obtain ⟨tv, ht⟩ := h
  obtain ⟨ft, fu, hf⟩ : ∃ t u, fa = .iface t u := by rw [hfa]; unfold faV; split <;> exact ⟨_, _, rfl⟩
  subst hf
  have h1c : (Value.iface ft fu).oneCell' = true := by rw [hfa]; exact faV_one _ _
  obtain ⟨W0, hW0⟩ : ∃ X, W.alloc (.cells #[.int .i64 0, .int .i64 0, .string ⟨#[]⟩] 23) = X := ⟨_, rfl⟩
  have b0 : Below W.heap.size W W0 := by rw [← hW0]; exact belA _ _
  have m0 : W0.heap[W.heap.size]? = some (.cells #[.int .i64 0, .int .i64 0, .string ⟨#[]⟩] 23 (0, 0)) := by rw [← hW0]; exact hnw _ rfl
  have ht0 := ht.bel b0
  have own := (let ⟨_, q, _⟩ := ht0; q.p : W0.ownsRow 0 20 1 pv n ((faL H V).take n))
  obtain ⟨A, c, e⟩ := vform own
  obtain ⟨d0, _⟩ := cellB ht0.cell
  obtain ⟨d0, _⟩ := d0
  obtain ⟨_, z0, _⟩ := cellB ht0.cell
  rw [e] at d0
  have H0 : Hid (HvT hb n H T pv V tv S W0) := ht0
  have E0 : Hid (pv = .slice A n c) := e
  have OW : Hid (W0.ownsRow 0 20 1 (.slice A n c) n ((faL H V).take n)) := e ▸ own
  have FA : Hid (.iface ft fu = faV H[n] V[n]) := hfa
  have B0 : Hid (Below W.heap.size W W0) := b0
  have M0 : Hid (W0.heap[W.heap.size]? = some (.cells #[.int .i64 0, .int .i64 0, .string ⟨#[]⟩] 23 (0, 0)) ∧ ¬ S W.heap.size) := ⟨m0, fun q => by have := ht.lt _ q; omega⟩
  have CE := (cellB ht0.cell).2
  have NH : Hid (some hb ≠ (Value.slice A n c).ownBlock) := (row_block OW.out ht0.cell (by decide)).symm
  have NX : Hid (some W.heap.size ≠ (Value.slice A n c).ownBlock) := (row_block OW.out m0 (by decide)).symm
  have NHB : hb ≠ W.heap.size := fun q => by have := ht.lt _ ht.hd; omega
  clear b0 m0 ht ht0 own e hfa z0
  unfold Vl.v
  go_enter Tryd.func41, Tryd.ntmps41
  go_wp2_with (at_builtin; go_loud (refine wpList_append_gen _ (by rfl) _ _ _ (by rfl) 0 20 i0 _ 1 16 Tryd.underlying51 hi0 hz0 hz1 hz2 rfl (by omega) _ n ((faL H V).take n) (by rfl) (OW.out.alloc _) (some ⟨W0.heap.size, 0, none⟩) 1 1 [.iface ft fu] (by rfl) (by rfl) (fun _ => ⟨_, rfl, World.news_of_block (cs := #[.iface ft fu]) (t := 20) (fr := (0, 0)) (hnw _ rfl)⟩) (by simpa using h1c) (by unfold maxLen; omega) (by omega) (by omega) ?_); rintro v' W3 o3 g3 f3; obtain ⟨gv, cv, rfl, -, -⟩ := o3.form (by omega); have p3 := grow_block g3 H0.out.cell NH.out; have q3 := grow_block g3 M0.out.1 NX.out; have PS : Hid (_) := H0.out.plc h1 h2 (v' := .slice (some ⟨gv, 0, none⟩) (n + 1) cv) (W3 := W3) (o := .cells #[.iface ft fu] 20 (0, 0)) (by rw [← FA.out]; exact o3) (by rw [E0.out]; exact g3) (by rw [E0.out]; exact f3); clear o3 g3 f3; obtain ⟨⟨u0, u1⟩, u2, u3⟩ := cellB p3; obtain ⟨⟨x0, x1, x2⟩, y0, y1, y2⟩ := free3 q3; have Q3 : Hid (_) := q3; clear q3 p3)
  obtain ⟨S', h4, s4⟩ := PS.out
  have N4 : ¬ S' W.heap.size := fun q => by
    rcases s4.s _ q with q | q
    · exact M0.out.2 q
    · have := glt M0.out.1
      omega
  have S4 : Stp S W S' _ := (Stp.bel B0.out).trans s4
  refine bodyPost_ret (res_vl Tryd.results41 (set3_same _ _ _ ((Below.heap_setCell _ _ _ _ NHB.symm).trans Q3.out)) rfl) rfl ⟨rfl, _, S', h4.keep fun b q => ?_, ?_⟩
  · rw [set3_far _ _ _ (fun e => N4 (by have e : b = W.heap.size := e; exact e ▸ q))]
  · refine ⟨?_, S4.s⟩
    have a := fun (i : Nat) (u : Value) (X : World) (q : Kv S W X) => kv_set (b := W.heap.size) (i := i) (v := u) q (fun l => by omega)
    exact a _ _ _ (a _ _ _ (a _ _ _ S4.k))
end Go.Proofs.YtlijplbaefaeaaaDoor
