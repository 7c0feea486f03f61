/- Own text. A mark laid into a tree's list within a round, in whatever order. -/
import Derived.Test.YtggahoefbcnaiaaDoorW4A
import Derived.Test.YtggahoefbcnaiaaDoorF14
namespace Go.Proofs.YtggahoefbcnaiaaDoor.Walks
open Go.RowKit
set_option linter.unusedVariables false
set_option linter.unusedSimpArgs false

theorem num_b (n : Int) (W : World) : Calls Tryd.prog 25 #[.int .i64 n] W fun e w' => e = .returned (.agg #[.int .i64 1, .string ⟨#[]⟩, .int .i64 n, .slice none 0 0]) ∧ Below W.heap.size W w' := (num_any n W).mono (by rintro e w' ⟨rfl, rfl⟩; exact ⟨rfl, bel_a _ _⟩)
theorem run_field3 {w : World} {o : Oper} {s : Operand} (hop : o.op = .fieldAddr 24 s 3) (ev : Operand → Value) (p : Nat) (hs : ev s = (.pointer (some ⟨p, 0, none⟩))) : (execOp ev o).run Tryd.prog w = .ok (.value (.pointer (some ⟨p, 3, none⟩))) w := by
  simp [execOp, hop, go_sem, hs]
theorem run_store4 {w : World} {o : Oper} {s x : Operand} (hop : o.op = .store 24 s x) (ev : Operand → Value) (b q : Nat) (hs : ev s = .pointer (some ⟨b, q, none⟩)) (i : Int) (t : ByteArray) (m : Int) (a : Option Addr) (k c : Nat) (hx : ev x = .agg #[.int .i64 i, .string t, .int .i64 m, .slice a k c]) (cur : Array Value) (hr : w.heap[b]? = some (.cells cur 24 (0, 0))) (hq : q + 4 ≤ cur.size) :
    (execOp ev o).run Tryd.prog w = .ok .skip ((((w.setCell ⟨b, q, none⟩ (.int .i64 i)).setCell ⟨b, q + 1, none⟩ (.string t)).setCell ⟨b, q + 2, none⟩ (.int .i64 m)).setCell ⟨b, q + 3, none⟩ (.slice a k c)) := by
  obtain ⟨⟨q0, r0⟩, z0⟩ := row_cells hr rfl (j := q) (by omega)
  obtain ⟨⟨q1, r1⟩, z1⟩ := row_cells hr rfl (j := q + 1) (by omega)
  obtain ⟨⟨q2, r2⟩, z2⟩ := row_cells hr rfl (j := q + 2) (by omega)
  obtain ⟨⟨q3, r3⟩, z3⟩ := row_cells hr rfl (j := q + 3) (by omega)
  simp [execOp, hop, go_sem, hs, hx, r0, r1, r2, r3, z0, z1, z2, z3]
theorem stepIn_skip {l n : Nat} {ops : Array Oper} {o : Oper} {a : Act} {w w' : World} {K : Act → World → Prop} {Q : Exit → Act → World → Prop} {E : Prop} (hw : Region.wanted o (yielded ops a.tmps) = true) (hd : ∀ c, o.op ≠ .defer c) (hr : (execOp a.eval o).run Tryd.prog w = .ok .skip w') (h : K (a.put o.dst undef) w') :
    if Region.wanted o (yielded ops a.tmps) = true then Oper.wpIn (Fence.wide.inRound l) n Tryd.prog o a w K Q else E := by
  rw [if_pos hw]
  refine ⟨fun _ _ => trivial, ?_⟩
  show Oper.uponIn _ _ _ _ _ _ _ ((Oper.semAt (some l) a.eval o).run _ _)
  rw [Oper.semAt_some _ _ _ hd, hr, Oper.uponIn_skip]
  exact h
def opsS : Array Oper := #[{ dst := some 103, op := .fieldAddr 24 (.tmp 11) 3, type := 0, pos := "law.go:90", after := #[], guard := none },
  { dst := some 104, op := .load 22 (.tmp 103), type := 22, pos := "law.go:90", after := #[{ on := 0, ground := .data }], guard := none },
  { dst := some 105, op := .move (.tmp 13), type := 3, pos := "law.go:90", after := #[], guard := none },
  { dst := some 106, op := .call { callee := .value (.func 25), args := #[.const (.int .i64 77)], argTypes := #[3] }, type := 24, pos := "law.go:90", after := #[], guard := none },
  { dst := some 107, op := .indexAddr 22 (.tmp 104) (.tmp 105), type := 0, pos := "law.go:90", after := #[{ on := 1, ground := .data }, { on := 2, ground := .data }, { on := 0, ground := .phase }, { on := 1, ground := .phase }, { on := 2, ground := .phase }, { on := 3, ground := .phase }], guard := none },
  { dst := none, op := .store 24 (.tmp 107) (.tmp 106), type := 0, pos := "law.go:90", after := #[{ on := 4, ground := .data }, { on := 3, ground := .data }, { on := 3, ground := .chain }, { on := 0, ground := .phase }, { on := 1, ground := .phase }, { on := 2, ground := .phase }, { on := 3, ground := .phase }], guard := none }]
def frS (v0 v1 v2 v3 v4 v5 v6 v7 v8 v9 v10 v12 v14 v15 v16 v17 v18 v19 v20 v21 v22 v23 v24 v25 v26 v27 v28 v29 v30 v31 v32 v33 v34 v35 v36 v37 v38 v39 v40 v41 v42 v43 v44 v45 v46 v47 v48 v49 v50 v51 v52 v53 v54 v55 v56 v57 v58 v59 v60 v61 v62 v63 v64 v65 v66 v67 v68 v69 v70 v71 v72 v73 v74 v75 v76 v77 v78 v79 v80 v81 v82 v83 v84 v85 v86 v87 v88 v89 v90 v91 v92 v93 v94 v95 v96 v97 v98 v99 v100 v101 v102 v108 v109 v110 v111 v112 v113 : Value) (j pX : Nat) (u0 u1 u2 u3 u4 : Value) : Act := { tmps := #[v0, v1, v2, v3, v4, v5, v6, v7, v8, v9, v10, (.pointer (some ⟨pX, 0, none⟩)), v12, (.int .i64 (j : Nat)), v14, v15, v16, v17, v18, v19, v20, v21, v22, v23, v24, v25, v26, v27, v28, v29, v30, v31, v32, v33, v34, v35, v36, v37, v38, v39, v40, v41, v42, v43, v44, v45, v46, v47, v48, v49, v50, v51, v52, v53, v54, v55, v56, v57, v58, v59, v60, v61, v62, v63, v64, v65, v66, v67, v68, v69, v70, v71, v72, v73, v74, v75, v76, v77, v78, v79, v80, v81, v82, v83, v84, v85, v86, v87, v88, v89, v90, v91, v92, v93, v94, v95, v96, v97, v98, v99, v100, v101, v102, u0, u1, u2, u3, u4, v108, v109, v110, v111, v112, v113], defers := [] }
/-- what holds when these operations are done. -/
structure SF (W2 : World) (j bl len cap pX : Nat) (b0 b1 b2 b3 b4 b5 : Bool) (u0 u1 u2 u3 u4 : Value) (W : World) : Prop where
  h0 : b0 = true → u0 = (.pointer (some ⟨pX, 3, none⟩))
  h1 : b1 = true → u1 = (.slice (some ⟨bl, 0, none⟩) len cap)
  h2 : b2 = true → u2 = (.int .i64 (j : Nat))
  h3 : b3 = true → u3 = (.agg #[.int .i64 1, .string ⟨#[]⟩, .int .i64 77, .slice none 0 0])
  h4 : b4 = true → u4 = (.pointer (some ⟨bl, j * 4, none⟩))
  w0 : b5 = false → Below W2.heap.size W2 W
  w1 : b5 = true → ∃ W', Below W2.heap.size W2 W' ∧ W = ((((W'.setCell ⟨bl, j * 4, none⟩ (.int .i64 1)).setCell ⟨bl, j * 4 + 1, none⟩ (.string ⟨#[]⟩)).setCell ⟨bl, j * 4 + 2, none⟩ (.int .i64 77)).setCell ⟨bl, j * 4 + 3, none⟩ (.slice none 0 0))
  x1 : b5 = true → b1 = true
  x3 : b5 = true → b3 = true
theorem ordS : ∀ (i : Nat) (o : Oper), opsS[i]? = some o → ∀ e ∈ o.after, Region.binds .any e = true → e.on < i := by
  have key : (List.range 6).all (fun i => match opsS[i]? with
    | some o => o.after.all (fun e => !Region.binds .any e || decide (e.on < i))
    | none => true) = true := by decide +kernel
  intro i o ho e he hb
  have hi : i < 6 := (Array.getElem?_eq_some_iff.1 ho).1
  have := List.all_eq_true.1 key i (List.mem_range.2 hi)
  rw [ho] at this
  have := Array.all_eq_true_iff_forall_mem.1 this e he
  simpa [hb] using this

set_option maxRecDepth 100000 in
set_option maxHeartbeats 8000000 in
theorem mark (j bl len cap pX l' : Nat) {v0 v1 v2 v3 v4 v5 v6 v7 v8 v9 v10 v12 v14 v15 v16 v17 v18 v19 v20 v21 v22 v23 v24 v25 v26 v27 v28 v29 v30 v31 v32 v33 v34 v35 v36 v37 v38 v39 v40 v41 v42 v43 v44 v45 v46 v47 v48 v49 v50 v51 v52 v53 v54 v55 v56 v57 v58 v59 v60 v61 v62 v63 v64 v65 v66 v67 v68 v69 v70 v71 v72 v73 v74 v75 v76 v77 v78 v79 v80 v81 v82 v83 v84 v85 v86 v87 v88 v89 v90 v91 v92 v93 v94 v95 v96 v97 v98 v99 v100 v101 v102 v108 v109 v110 v111 v112 v113 i0 i1 i2 i3 i4 : Value} (W2 : World) (hj : j < len)
    (hL : ∀ W, Below W2.drew.heap.size W2.drew W → W.cell? ⟨pX, 3, none⟩ = some (.slice (some ⟨bl, 0, none⟩) len cap)) (hR : ∀ W, Below W2.drew.heap.size W2.drew W → ∃ cur, W.heap[bl]? = some (.cells cur 24 (0, 0)) ∧ j * 4 + 4 ≤ cur.size)
    {Q : Exit → Act → World → Prop} (hQ : ∀ (u0 u1 u2 u3 u4 : Value) W, Below W2.drew.heap.size W2.drew W → Q .normal (frS v0 v1 v2 v3 v4 v5 v6 v7 v8 v9 v10 v12 v14 v15 v16 v17 v18 v19 v20 v21 v22 v23 v24 v25 v26 v27 v28 v29 v30 v31 v32 v33 v34 v35 v36 v37 v38 v39 v40 v41 v42 v43 v44 v45 v46 v47 v48 v49 v50 v51 v52 v53 v54 v55 v56 v57 v58 v59 v60 v61 v62 v63 v64 v65 v66 v67 v68 v69 v70 v71 v72 v73 v74 v75 v76 v77 v78 v79 v80 v81 v82 v83 v84 v85 v86 v87 v88 v89 v90 v91 v92 v93 v94 v95 v96 v97 v98 v99 v100 v101 v102 v108 v109 v110 v111 v112 v113 j pX u0 u1 u2 u3 u4) ((((W.setCell ⟨bl, j * 4, none⟩ (.int .i64 1)).setCell ⟨bl, j * 4 + 1, none⟩ (.string ⟨#[]⟩)).setCell ⟨bl, j * 4 + 2, none⟩ (.int .i64 77)).setCell ⟨bl, j * 4 + 3, none⟩ (.slice none 0 0))) :
    (Code.region 30 opsS true).wpIn (Fence.wide.inRound l') 8 Tryd.prog Q (frS v0 v1 v2 v3 v4 v5 v6 v7 v8 v9 v10 v12 v14 v15 v16 v17 v18 v19 v20 v21 v22 v23 v24 v25 v26 v27 v28 v29 v30 v31 v32 v33 v34 v35 v36 v37 v38 v39 v40 v41 v42 v43 v44 v45 v46 v47 v48 v49 v50 v51 v52 v53 v54 v55 v56 v57 v58 v59 v60 v61 v62 v63 v64 v65 v66 v67 v68 v69 v70 v71 v72 v73 v74 v75 v76 v77 v78 v79 v80 v81 v82 v83 v84 v85 v86 v87 v88 v89 v90 v91 v92 v93 v94 v95 v96 v97 v98 v99 v100 v101 v102 v108 v109 v110 v111 v112 v113 j pX i0 i1 i2 i3 i4) W2 := by
  refine wpIn_region_any (by kernel_rfl) ?_
  change wpAnyIn _ _ _ _ _ _ _ _ _ W2.drew
  generalize W2.drew = W2 at *
  refine wpAnyIn_inv (fun listed A W => ∃ b0 b1 b2 b3 b4 b5 : Bool, ∃ u0 u1 u2 u3 u4, listed = #[b0, b1, b2, b3, b4, b5] ∧ A = frS v0 v1 v2 v3 v4 v5 v6 v7 v8 v9 v10 v12 v14 v15 v16 v17 v18 v19 v20 v21 v22 v23 v24 v25 v26 v27 v28 v29 v30 v31 v32 v33 v34 v35 v36 v37 v38 v39 v40 v41 v42 v43 v44 v45 v46 v47 v48 v49 v50 v51 v52 v53 v54 v55 v56 v57 v58 v59 v60 v61 v62 v63 v64 v65 v66 v67 v68 v69 v70 v71 v72 v73 v74 v75 v76 v77 v78 v79 v80 v81 v82 v83 v84 v85 v86 v87 v88 v89 v90 v91 v92 v93 v94 v95 v96 v97 v98 v99 v100 v101 v102 v108 v109 v110 v111 v112 v113 j pX u0 u1 u2 u3 u4 ∧ SF W2 j bl len cap pX b0 b1 b2 b3 b4 b5 u0 u1 u2 u3 u4 W) ?_ ?_ _ _ _ _ ?_ ?_
  · rintro _ _ W i ⟨b0, b1, b2, b3, b4, b5, u0, u1, u2, u3, u4, rfl, rfl, h⟩ hi K hK
    have hlt : i < 6 := (mem_ready hi).1
    obtain rfl | rfl | rfl | rfl | rfl | rfl : i = 0 ∨ i = 1 ∨ i = 2 ∨ i = 3 ∨ i = 4 ∨ i = 5 := by omega
    · exact wpOpIn_step rfl (fun K' hK' => stepIn_val' rfl (by intro c h; cases h) (.pointer (some ⟨pX, 3, none⟩)) (run_field3 rfl _ pX rfl) (hK' _ _ (hK _ _ ⟨true, b1, b2, b3, b4, b5, _, u1, u2, u3, u4, rfl, rfl, ⟨fun _ => rfl, h.h1, h.h2, h.h3, h.h4, h.w0, h.w1, h.x1, h.x3⟩⟩)))
    · obtain rfl : b0 = true := ready_after hi rfl (e := ⟨0, .data⟩) (Array.mem_of_getElem? (i := 0) rfl) rfl
      obtain rfl := h.h0 rfl
      obtain rfl : b1 = false := (show #[true, b1, b2, b3, b4, b5][1] = false from (mem_ready hi).2.2)
      have n5 : b5 = false := by cases e5 : b5 with | false => rfl | true => exact absurd (h.x1 e5) (by decide)
      subst n5
      exact wpOpIn_step rfl (fun K' hK' => stepIn_val' rfl (by intro c h; cases h) (.slice (some ⟨bl, 0, none⟩) len cap) (run_loadL rfl _ pX 3 rfl _ (hL _ (h.w0 rfl))) (hK' _ _ (hK _ _ ⟨true, true, b2, b3, b4, false, _, _, u2, u3, u4, rfl, rfl, ⟨h.h0, fun _ => rfl, h.h2, h.h3, h.h4, h.w0, h.w1, fun _ => rfl, h.x3⟩⟩)))
    · exact wpOpIn_step rfl (fun K' hK' => stepIn_val' rfl (by intro c h; cases h) (.int .i64 (j : Nat)) (by rfl) (hK' _ _ (hK _ _ ⟨b0, b1, true, b3, b4, b5, u0, u1, _, u3, u4, rfl, rfl, ⟨h.h0, h.h1, fun _ => rfl, h.h3, h.h4, h.w0, h.w1, h.x1, h.x3⟩⟩)))
    · obtain rfl : b3 = false := (show #[b0, b1, b2, b3, b4, b5][3] = false from (mem_ready hi).2.2)
      have n5 : b5 = false := by cases e5 : b5 with | false => rfl | true => exact absurd (h.x3 e5) (by decide)
      subst n5
      refine wpOpIn_step rfl (fun K' hK' => stepIn_call1 rfl 25 (.const (.int .i64 77)) _ rfl (.int .i64 77) rfl (enters_of Tryd.func25 (by kernel_rfl) rfl) (num_b 77 W) ?_)
      rintro e W' ⟨rfl, bb⟩
      exact ⟨_, rfl, hK' _ _ (hK _ _ ⟨b0, b1, b2, true, b4, false, u0, u1, u2, _, u4, rfl, rfl, ⟨h.h0, h.h1, h.h2, fun _ => rfl, h.h4, fun _ => (h.w0 rfl).trans (bb.mono (h.w0 rfl).size), fun e => (by cases e), h.x1, fun _ => rfl⟩⟩)⟩
    · obtain rfl : b1 = true := ready_after hi rfl (e := ⟨1, .data⟩) (Array.mem_of_getElem? (i := 0) rfl) rfl
      obtain rfl : b2 = true := ready_after hi rfl (e := ⟨2, .data⟩) (Array.mem_of_getElem? (i := 1) rfl) rfl
      obtain rfl : b0 = true := ready_after hi rfl (e := ⟨0, .phase⟩) (Array.mem_of_getElem? (i := 2) rfl) rfl
      obtain rfl : b3 = true := ready_after hi rfl (e := ⟨3, .phase⟩) (Array.mem_of_getElem? (i := 5) rfl) rfl
      obtain rfl := h.h1 rfl
      obtain rfl := h.h2 rfl
      obtain rfl := h.h0 rfl
      obtain rfl := h.h3 rfl
      exact wpOpIn_step rfl (fun K' hK' => stepIn_val' rfl (by intro c h; cases h) (.pointer (some ⟨bl, j * 4, none⟩)) (run_idx rfl _ bl len cap j rfl rfl hj) (hK' _ _ (hK _ _ ⟨true, true, true, true, true, b5, _, _, _, _, _, rfl, rfl, ⟨h.h0, h.h1, h.h2, h.h3, fun _ => rfl, h.w0, h.w1, fun _ => rfl, fun _ => rfl⟩⟩)))
    · obtain rfl : b4 = true := ready_after hi rfl (e := ⟨4, .data⟩) (Array.mem_of_getElem? (i := 0) rfl) rfl
      obtain rfl : b3 = true := ready_after hi rfl (e := ⟨3, .data⟩) (Array.mem_of_getElem? (i := 1) rfl) rfl
      obtain rfl : b0 = true := ready_after hi rfl (e := ⟨0, .phase⟩) (Array.mem_of_getElem? (i := 3) rfl) rfl
      obtain rfl : b1 = true := ready_after hi rfl (e := ⟨1, .phase⟩) (Array.mem_of_getElem? (i := 4) rfl) rfl
      obtain rfl : b2 = true := ready_after hi rfl (e := ⟨2, .phase⟩) (Array.mem_of_getElem? (i := 5) rfl) rfl
      obtain rfl := h.h4 rfl
      obtain rfl := h.h3 rfl
      obtain rfl := h.h0 rfl
      obtain rfl := h.h1 rfl
      obtain rfl := h.h2 rfl
      obtain rfl : b5 = false := (show #[true, true, true, true, true, b5][5] = false from (mem_ready hi).2.2)
      obtain ⟨cur, hc, hs⟩ := hR _ (h.w0 rfl)
      exact wpOpIn_step rfl (fun K' hK' => stepIn_skip rfl (by intro c h; cases h) (run_store4 rfl _ bl (j * 4) rfl _ _ _ _ _ _ rfl cur hc hs) (hK' _ _ (hK _ _ ⟨true, true, true, true, true, true, _, _, _, _, _, rfl, rfl, ⟨h.h0, h.h1, h.h2, h.h3, h.h4, fun e => (by cases e), fun _ => ⟨W, h.w0 rfl, rfl⟩, fun _ => rfl, fun _ => rfl⟩⟩)))
  · rintro _ _ W ⟨b0, b1, b2, b3, b4, b5, u0, u1, u2, u3, u4, rfl, rfl, h⟩ hr
    obtain rfl : b5 = true := ready_nil hr ordS 5 (by decide)
    obtain ⟨W', bb, rfl⟩ := h.w1 rfl
    exact hQ _ _ _ _ _ W' bb
  · decide
  · exact ⟨false, false, false, false, false, false, i0, i1, i2, i3, i4, rfl, rfl, ⟨fun e => (by cases e), fun e => (by cases e), fun e => (by cases e), fun e => (by cases e), fun e => (by cases e), fun _ => Below.refl _ _, fun e => (by cases e), fun e => (by cases e), fun e => (by cases e)⟩⟩
end Go.Proofs.YtggahoefbcnaiaaDoor.Walks
