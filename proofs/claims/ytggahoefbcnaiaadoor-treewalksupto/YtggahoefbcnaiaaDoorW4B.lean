/- Own text. What a round looks at, in whatever order: the first loop. -/
import Derived.Test.YtggahoefbcnaiaaDoorW4A
namespace Go.Proofs.YtggahoefbcnaiaaDoor.Walks
open Go.RowKit
set_option linter.unusedVariables false
set_option linter.unusedSimpArgs false

def opsA : Array Oper := #[{ dst := some 27, op := .move (.tmp 8), type := 3, pos := "law.go:63", after := #[], guard := none },
  { dst := some 28, op := .load 3 (.tmp 7), type := 3, pos := "law.go:63", after := #[], guard := none },
  { dst := some 29, op := .binOp .neq 3 (.tmp 27) (.tmp 28) 3, type := 4, pos := "law.go:63", after := #[{ on := 0, ground := .data }, { on := 1, ground := .data }], guard := none },
  { dst := some 30, op := .move (.tmp 29), type := 4, pos := "law.go:63", after := #[{ on := 2, ground := .data }], guard := none },
  { dst := some 31, op := .move (.tmp 8), type := 3, pos := "law.go:63", after := #[{ on := 3, ground := .guard }], guard := some (3, false) },
  { dst := some 32, op := .load 22 (.tmp 5), type := 22, pos := "law.go:63", after := #[{ on := 3, ground := .guard }], guard := some (3, false) },
  { dst := some 33, op := .call { callee := .builtin .len, args := #[.tmp 32], argTypes := #[22] }, type := 3, pos := "law.go:63", after := #[{ on := 5, ground := .data }, { on := 3, ground := .guard }], guard := some (3, false) },
  { dst := some 34, op := .binOp .geq 3 (.tmp 31) (.tmp 33) 3, type := 4, pos := "law.go:63", after := #[{ on := 4, ground := .data }, { on := 6, ground := .data }, { on := 3, ground := .guard }], guard := some (3, false) },
  { dst := some 35, op := .pick (.tmp 30) (.const (.bool true)) (.tmp 34), type := 4, pos := "law.go:63", after := #[{ on := 3, ground := .data }, { on := 7, ground := .data }], guard := none },
  { dst := some 36, op := .move (.tmp 35), type := 4, pos := "law.go:63", after := #[{ on := 8, ground := .data }, { on := 3, ground := .chain }], guard := none },
  { dst := some 37, op := .load 24 (.tmp 9), type := 24, pos := "law.go:63", after := #[{ on := 9, ground := .guard }], guard := some (9, false) },
  { dst := some 38, op := .load 22 (.tmp 5), type := 22, pos := "law.go:63", after := #[{ on := 9, ground := .guard }], guard := some (9, false) },
  { dst := some 39, op := .move (.tmp 8), type := 3, pos := "law.go:63", after := #[{ on := 9, ground := .guard }], guard := some (9, false) },
  { dst := some 40, op := .indexAddr 22 (.tmp 38) (.tmp 39), type := 0, pos := "law.go:63", after := #[{ on := 11, ground := .data }, { on := 12, ground := .data }, { on := 9, ground := .guard }], guard := some (9, false) },
  { dst := some 41, op := .load 24 (.tmp 40), type := 24, pos := "law.go:63", after := #[{ on := 13, ground := .data }, { on := 9, ground := .guard }], guard := some (9, false) },
  { dst := some 42, op := .call { callee := .value (.func 12), args := #[.tmp 37, .tmp 41], argTypes := #[24, 24] }, type := 4, pos := "law.go:63", after := #[{ on := 10, ground := .data }, { on := 14, ground := .data }, { on := 9, ground := .chain }, { on := 9, ground := .guard }], guard := some (9, false) },
  { dst := some 43, op := .unOp .not 4 (.tmp 42), type := 4, pos := "law.go:63", after := #[{ on := 15, ground := .data }, { on := 9, ground := .guard }], guard := some (9, false) },
  { dst := some 44, op := .pick (.tmp 36) (.const (.bool true)) (.tmp 43), type := 4, pos := "law.go:63", after := #[{ on := 9, ground := .data }, { on := 16, ground := .data }], guard := none }]
def frA (v0 v1 v2 v3 v4 v6 v10 v11 v12 v13 v14 v15 v16 v17 v18 v19 v20 v21 v22 v23 v24 v25 v26 v45 v46 v47 v48 v49 v50 v51 v52 v53 v54 v55 v56 v57 v58 v59 v60 v61 v62 v63 v64 v65 v66 v67 v68 v69 v70 v71 v72 v73 v74 v75 v76 v77 v78 v79 v80 v81 v82 v83 v84 v85 v86 v87 v88 v89 v90 v91 v92 v93 v94 v95 v96 v97 v98 v99 v100 v101 v102 v103 v104 v105 v106 v107 v108 v109 v110 v111 v112 v113 : Value) (k pA pL pX : Nat) (u0 u1 u2 u3 u4 u5 u6 u7 u8 u9 u10 u11 u12 u13 u14 u15 u16 u17 : Value) : Act := { tmps := #[v0, v1, v2, v3, v4, (.pointer (some ⟨pL, 0, none⟩)), v6, (.pointer (some ⟨pA, 0, none⟩)), (.int .i64 (k : Nat)), (.pointer (some ⟨pX, 0, none⟩)), v10, v11, v12, v13, v14, v15, v16, v17, v18, v19, v20, v21, v22, v23, v24, v25, v26, u0, u1, u2, u3, u4, u5, u6, u7, u8, u9, u10, u11, u12, u13, u14, u15, u16, u17, v45, v46, v47, v48, v49, v50, v51, v52, v53, v54, v55, v56, v57, v58, v59, v60, v61, v62, v63, v64, v65, v66, v67, v68, v69, v70, v71, v72, v73, v74, v75, v76, v77, v78, v79, v80, v81, v82, v83, v84, v85, v86, v87, v88, v89, v90, v91, v92, v93, v94, v95, v96, v97, v98, v99, v100, v101, v102, v103, v104, v105, v106, v107, v108, v109, v110, v111, v112, v113], defers := [] }
/-- what holds when these operations are done. -/
structure CFA (W2 : World) (y : Nd) (k bl len cap : Nat) (a1 a2 : Option Addr) (c1 c2 : Nat) (b0 b1 b2 b3 b4 b5 b6 b7 b8 b9 b10 b11 b12 b13 b14 b15 b16 b17 : Bool) (u0 u1 u2 u3 u4 u5 u6 u7 u8 u9 u10 u11 u12 u13 u14 u15 u16 u17 : Value) (W : World) : Prop where
  h0 : b0 = true → u0 = (.int .i64 (k : Nat))
  h1 : b1 = true → u1 = (.int .i64 (k : Nat))
  h2 : b2 = true → u2 = (.bool false)
  h3 : b3 = true → u3 = (.bool false)
  h4 : b4 = true → u4 = (.int .i64 (k : Nat))
  h5 : b5 = true → u5 = (.slice (some ⟨bl, 0, none⟩) len cap)
  h6 : b6 = true → u6 = (.int .i64 (len : Nat))
  h7 : b7 = true → u7 = (.bool false)
  h8 : b8 = true → u8 = (.bool false)
  h9 : b9 = true → u9 = (.bool false)
  h10 : b10 = true → u10 = (.agg #[.int .i64 y.k, .string y.t, .int .i64 y.n, .slice a1 y.ks.length c1])
  h11 : b11 = true → u11 = (.slice (some ⟨bl, 0, none⟩) len cap)
  h12 : b12 = true → u12 = (.int .i64 (k : Nat))
  h13 : b13 = true → u13 = (.pointer (some ⟨bl, k * 4, none⟩))
  h14 : b14 = true → u14 = (.agg #[.int .i64 y.k, .string y.t, .int .i64 y.n, .slice a2 y.ks.length c2])
  h15 : b15 = true → u15 = (.bool true)
  h16 : b16 = true → u16 = (.bool false)
  h17 : b17 = true → u17 = (.bool false)
  w0 : b15 = false → W = W2
  w1 : Below W2.heap.size W2 W
  c2_1 : b2 = true → b1 = true
  c3_2 : b3 = true → b2 = true
  c6_5 : b6 = true → b5 = true
  c7_6 : b7 = true → b6 = true
  c8_3 : b8 = true → b3 = true
  c8_7 : b8 = true → b7 = true
  c9_8 : b9 = true → b8 = true
  c13_11 : b13 = true → b11 = true
  c14_13 : b14 = true → b13 = true
  x1 : b15 = true → b1 = true
  x5 : b15 = true → b5 = true
  x10 : b15 = true → b10 = true
  x11 : b15 = true → b11 = true
  x14 : b15 = true → b14 = true
theorem ordA : ∀ (i : Nat) (o : Oper), opsA[i]? = some o → ∀ e ∈ o.after, Region.binds .any e = true → e.on < i := by
  have key : (List.range 18).all (fun i => match opsA[i]? with
    | some o => o.after.all (fun e => !Region.binds .any e || decide (e.on < i))
    | none => true) = true := by decide +kernel
  intro i o ho e he hb
  have hi : i < 18 := (Array.getElem?_eq_some_iff.1 ho).1
  have := List.all_eq_true.1 key i (List.mem_range.2 hi)
  rw [ho] at this
  have := Array.all_eq_true_iff_forall_mem.1 this e he
  simpa [hb] using this

set_option maxRecDepth 100000 in
set_option maxHeartbeats 8000000 in
theorem checkA (y : Nd) (k bl len cap : Nat) (a1 a2 : Option Addr) (c1 c2 pA pL pX l' : Nat) {v0 v1 v2 v3 v4 v6 v10 v11 v12 v13 v14 v15 v16 v17 v18 v19 v20 v21 v22 v23 v24 v25 v26 v45 v46 v47 v48 v49 v50 v51 v52 v53 v54 v55 v56 v57 v58 v59 v60 v61 v62 v63 v64 v65 v66 v67 v68 v69 v70 v71 v72 v73 v74 v75 v76 v77 v78 v79 v80 v81 v82 v83 v84 v85 v86 v87 v88 v89 v90 v91 v92 v93 v94 v95 v96 v97 v98 v99 v100 v101 v102 v103 v104 v105 v106 v107 v108 v109 v110 v111 v112 v113 i0 i1 i2 i3 i4 i5 i6 i7 i8 i9 i10 i11 i12 i13 i14 i15 i16 i17 : Value} (W2 : World) (hkl : k < len)
    (hA : W2.drew.cell? ⟨pA, 0, none⟩ = some (.int .i64 (k : Nat))) (hL : W2.drew.cell? ⟨pL, 0, none⟩ = some (.slice (some ⟨bl, 0, none⟩) len cap)) (hX : Four W2.drew pX 0 y (.slice a1 y.ks.length c1)) (hF : Four W2.drew bl (k * 4) y (.slice a2 y.ks.length c2))
    (CS : Calls Tryd.prog 12 #[(.agg #[.int .i64 y.k, .string y.t, .int .i64 y.n, .slice a1 y.ks.length c1]), (.agg #[.int .i64 y.k, .string y.t, .int .i64 y.n, .slice a2 y.ks.length c2])] W2.drew fun e w' => e = .returned (.bool true) ∧ Below W2.drew.heap.size W2.drew w')
    {Q : Exit → Act → World → Prop} (hQ : ∀ (u0 u1 u2 u3 u4 u5 u6 u7 u8 u9 u10 u11 u12 u13 u14 u15 u16 : Value) W, Below W2.drew.heap.size W2.drew W → Q .normal (frA v0 v1 v2 v3 v4 v6 v10 v11 v12 v13 v14 v15 v16 v17 v18 v19 v20 v21 v22 v23 v24 v25 v26 v45 v46 v47 v48 v49 v50 v51 v52 v53 v54 v55 v56 v57 v58 v59 v60 v61 v62 v63 v64 v65 v66 v67 v68 v69 v70 v71 v72 v73 v74 v75 v76 v77 v78 v79 v80 v81 v82 v83 v84 v85 v86 v87 v88 v89 v90 v91 v92 v93 v94 v95 v96 v97 v98 v99 v100 v101 v102 v103 v104 v105 v106 v107 v108 v109 v110 v111 v112 v113 k pA pL pX u0 u1 u2 u3 u4 u5 u6 u7 u8 u9 u10 u11 u12 u13 u14 u15 u16 (.bool false)) W) :
    (Code.region 9 opsA true).wpIn (Fence.wide.inRound l') 8 Tryd.prog Q (frA v0 v1 v2 v3 v4 v6 v10 v11 v12 v13 v14 v15 v16 v17 v18 v19 v20 v21 v22 v23 v24 v25 v26 v45 v46 v47 v48 v49 v50 v51 v52 v53 v54 v55 v56 v57 v58 v59 v60 v61 v62 v63 v64 v65 v66 v67 v68 v69 v70 v71 v72 v73 v74 v75 v76 v77 v78 v79 v80 v81 v82 v83 v84 v85 v86 v87 v88 v89 v90 v91 v92 v93 v94 v95 v96 v97 v98 v99 v100 v101 v102 v103 v104 v105 v106 v107 v108 v109 v110 v111 v112 v113 k pA pL pX i0 i1 i2 i3 i4 i5 i6 i7 i8 i9 i10 i11 i12 i13 i14 i15 i16 i17) W2 := by
  refine wpIn_region_any (by kernel_rfl) ?_
  change wpAnyIn _ _ _ _ _ _ _ _ _ W2.drew
  generalize W2.drew = W2 at *
  refine wpAnyIn_inv (fun listed A W => ∃ b0 b1 b2 b3 b4 b5 b6 b7 b8 b9 b10 b11 b12 b13 b14 b15 b16 b17 : Bool, ∃ u0 u1 u2 u3 u4 u5 u6 u7 u8 u9 u10 u11 u12 u13 u14 u15 u16 u17, listed = #[b0, b1, b2, b3, b4, b5, b6, b7, b8, b9, b10, b11, b12, b13, b14, b15, b16, b17] ∧ A = frA v0 v1 v2 v3 v4 v6 v10 v11 v12 v13 v14 v15 v16 v17 v18 v19 v20 v21 v22 v23 v24 v25 v26 v45 v46 v47 v48 v49 v50 v51 v52 v53 v54 v55 v56 v57 v58 v59 v60 v61 v62 v63 v64 v65 v66 v67 v68 v69 v70 v71 v72 v73 v74 v75 v76 v77 v78 v79 v80 v81 v82 v83 v84 v85 v86 v87 v88 v89 v90 v91 v92 v93 v94 v95 v96 v97 v98 v99 v100 v101 v102 v103 v104 v105 v106 v107 v108 v109 v110 v111 v112 v113 k pA pL pX u0 u1 u2 u3 u4 u5 u6 u7 u8 u9 u10 u11 u12 u13 u14 u15 u16 u17 ∧ CFA W2 y k bl len cap a1 a2 c1 c2 b0 b1 b2 b3 b4 b5 b6 b7 b8 b9 b10 b11 b12 b13 b14 b15 b16 b17 u0 u1 u2 u3 u4 u5 u6 u7 u8 u9 u10 u11 u12 u13 u14 u15 u16 u17 W) ?_ ?_ _ _ _ _ ?_ ?_
  · rintro _ _ W i ⟨b0, b1, b2, b3, b4, b5, b6, b7, b8, b9, b10, b11, b12, b13, b14, b15, b16, b17, u0, u1, u2, u3, u4, u5, u6, u7, u8, u9, u10, u11, u12, u13, u14, u15, u16, u17, rfl, rfl, h⟩ hi K hK
    have hlt : i < 18 := (mem_ready hi).1
    obtain rfl | rfl | rfl | rfl | rfl | rfl | rfl | rfl | rfl | rfl | rfl | rfl | rfl | rfl | rfl | rfl | rfl | rfl : i = 0 ∨ i = 1 ∨ i = 2 ∨ i = 3 ∨ i = 4 ∨ i = 5 ∨ i = 6 ∨ i = 7 ∨ i = 8 ∨ i = 9 ∨ i = 10 ∨ i = 11 ∨ i = 12 ∨ i = 13 ∨ i = 14 ∨ i = 15 ∨ i = 16 ∨ i = 17 := by omega
    · exact wpOpIn_step rfl (fun K' hK' => stepIn_val' rfl (by intro c h; cases h) (.int .i64 (k : Nat)) (by rfl) (hK' _ _ (hK _ _ ⟨true, b1, b2, b3, b4, b5, b6, b7, b8, b9, b10, b11, b12, b13, b14, b15, b16, b17, _, u1, u2, u3, u4, u5, u6, u7, u8, u9, u10, u11, u12, u13, u14, u15, u16, u17, rfl, rfl, ⟨fun _ => rfl, h.h1, h.h2, h.h3, h.h4, h.h5, h.h6, h.h7, h.h8, h.h9, h.h10, h.h11, h.h12, h.h13, h.h14, h.h15, h.h16, h.h17, h.w0, h.w1, h.c2_1, h.c3_2, h.c6_5, h.c7_6, h.c8_3, h.c8_7, h.c9_8, h.c13_11, h.c14_13, h.x1, h.x5, h.x10, h.x11, h.x14⟩⟩)))
    · obtain rfl : b1 = false := (show #[b0, b1, b2, b3, b4, b5, b6, b7, b8, b9, b10, b11, b12, b13, b14, b15, b16, b17][1] = false from (mem_ready hi).2.2)
      have WW := h.w0 (by cases e15 : b15 with | false => rfl | true => exact absurd (h.x1 e15) (by decide))
      obtain rfl := WW
      exact wpOpIn_step rfl (fun K' hK' => stepIn_val' rfl (by intro c h; cases h) (.int .i64 (k : Nat)) (run_loadI rfl _ pA rfl _ (hA)) (hK' _ _ (hK _ _ ⟨b0, true, b2, b3, b4, b5, b6, b7, b8, b9, b10, b11, b12, b13, b14, b15, b16, b17, u0, _, u2, u3, u4, u5, u6, u7, u8, u9, u10, u11, u12, u13, u14, u15, u16, u17, rfl, rfl, ⟨h.h0, fun _ => rfl, h.h2, h.h3, h.h4, h.h5, h.h6, h.h7, h.h8, h.h9, h.h10, h.h11, h.h12, h.h13, h.h14, h.h15, h.h16, h.h17, h.w0, h.w1, fun _ => rfl, h.c3_2, h.c6_5, h.c7_6, h.c8_3, h.c8_7, h.c9_8, h.c13_11, h.c14_13, fun _ => rfl, h.x5, h.x10, h.x11, h.x14⟩⟩)))
    · obtain rfl : b0 = true := ready_after hi rfl (e := ⟨0, .data⟩) (Array.mem_of_getElem? (i := 0) rfl) rfl
      obtain rfl : b1 = true := ready_after hi rfl (e := ⟨1, .data⟩) (Array.mem_of_getElem? (i := 1) rfl) rfl
      obtain rfl := h.h0 rfl
      obtain rfl := h.h1 rfl
      exact wpOpIn_step rfl (fun K' hK' => stepIn_val' rfl (by intro c h; cases h) (.bool false) (run_bin .neq rfl _ _ _ rfl rfl _ (Or.inl ⟨rfl, by simp⟩)) (hK' _ _ (hK _ _ ⟨true, true, true, b3, b4, b5, b6, b7, b8, b9, b10, b11, b12, b13, b14, b15, b16, b17, _, _, _, u3, u4, u5, u6, u7, u8, u9, u10, u11, u12, u13, u14, u15, u16, u17, rfl, rfl, ⟨h.h0, h.h1, fun _ => rfl, h.h3, h.h4, h.h5, h.h6, h.h7, h.h8, h.h9, h.h10, h.h11, h.h12, h.h13, h.h14, h.h15, h.h16, h.h17, h.w0, h.w1, fun _ => rfl, fun _ => rfl, h.c6_5, h.c7_6, h.c8_3, h.c8_7, h.c9_8, h.c13_11, h.c14_13, fun _ => rfl, h.x5, h.x10, h.x11, h.x14⟩⟩)))
    · obtain rfl : b2 = true := ready_after hi rfl (e := ⟨2, .data⟩) (Array.mem_of_getElem? (i := 0) rfl) rfl
      obtain rfl := h.h2 rfl
      exact wpOpIn_step rfl (fun K' hK' => stepIn_val' rfl (by intro c h; cases h) (.bool false) (by rfl) (hK' _ _ (hK _ _ ⟨b0, b1, true, true, b4, b5, b6, b7, b8, b9, b10, b11, b12, b13, b14, b15, b16, b17, u0, u1, _, _, u4, u5, u6, u7, u8, u9, u10, u11, u12, u13, u14, u15, u16, u17, rfl, rfl, ⟨h.h0, h.h1, h.h2, fun _ => rfl, h.h4, h.h5, h.h6, h.h7, h.h8, h.h9, h.h10, h.h11, h.h12, h.h13, h.h14, h.h15, h.h16, h.h17, h.w0, h.w1, h.c2_1, fun _ => rfl, h.c6_5, h.c7_6, fun _ => rfl, h.c8_7, h.c9_8, h.c13_11, h.c14_13, h.x1, h.x5, h.x10, h.x11, h.x14⟩⟩)))
    · obtain rfl : b3 = true := ready_after hi rfl (e := ⟨3, .guard⟩) (Array.mem_of_getElem? (i := 0) rfl) rfl
      obtain rfl := h.h3 rfl
      exact wpOpIn_step rfl (fun K' hK' => stepIn_val' rfl (by intro c h; cases h) (.int .i64 (k : Nat)) (by rfl) (hK' _ _ (hK _ _ ⟨b0, b1, b2, true, true, b5, b6, b7, b8, b9, b10, b11, b12, b13, b14, b15, b16, b17, u0, u1, u2, _, _, u5, u6, u7, u8, u9, u10, u11, u12, u13, u14, u15, u16, u17, rfl, rfl, ⟨h.h0, h.h1, h.h2, h.h3, fun _ => rfl, h.h5, h.h6, h.h7, h.h8, h.h9, h.h10, h.h11, h.h12, h.h13, h.h14, h.h15, h.h16, h.h17, h.w0, h.w1, h.c2_1, h.c3_2, h.c6_5, h.c7_6, fun _ => rfl, h.c8_7, h.c9_8, h.c13_11, h.c14_13, h.x1, h.x5, h.x10, h.x11, h.x14⟩⟩)))
    · obtain rfl : b3 = true := ready_after hi rfl (e := ⟨3, .guard⟩) (Array.mem_of_getElem? (i := 0) rfl) rfl
      obtain rfl := h.h3 rfl
      obtain rfl : b5 = false := (show #[b0, b1, b2, true, b4, b5, b6, b7, b8, b9, b10, b11, b12, b13, b14, b15, b16, b17][5] = false from (mem_ready hi).2.2)
      have WW := h.w0 (by cases e15 : b15 with | false => rfl | true => exact absurd (h.x5 e15) (by decide))
      obtain rfl := WW
      exact wpOpIn_step rfl (fun K' hK' => stepIn_val' rfl (by intro c h; cases h) (.slice (some ⟨bl, 0, none⟩) len cap) (run_loadL rfl _ pL 0 rfl _ (hL)) (hK' _ _ (hK _ _ ⟨b0, b1, b2, true, b4, true, b6, b7, b8, b9, b10, b11, b12, b13, b14, b15, b16, b17, u0, u1, u2, _, u4, _, u6, u7, u8, u9, u10, u11, u12, u13, u14, u15, u16, u17, rfl, rfl, ⟨h.h0, h.h1, h.h2, h.h3, h.h4, fun _ => rfl, h.h6, h.h7, h.h8, h.h9, h.h10, h.h11, h.h12, h.h13, h.h14, h.h15, h.h16, h.h17, h.w0, h.w1, h.c2_1, h.c3_2, fun _ => rfl, h.c7_6, fun _ => rfl, h.c8_7, h.c9_8, h.c13_11, h.c14_13, h.x1, fun _ => rfl, h.x10, h.x11, h.x14⟩⟩)))
    · obtain rfl : b5 = true := ready_after hi rfl (e := ⟨5, .data⟩) (Array.mem_of_getElem? (i := 0) rfl) rfl
      obtain rfl : b3 = true := ready_after hi rfl (e := ⟨3, .guard⟩) (Array.mem_of_getElem? (i := 1) rfl) rfl
      obtain rfl := h.h3 rfl
      obtain rfl := h.h5 rfl
      exact wpOpIn_step rfl (fun K' hK' => stepIn_val' rfl (by intro c h; cases h) (.int .i64 (len : Nat)) (run_len rfl _ _ _ _ rfl) (hK' _ _ (hK _ _ ⟨b0, b1, b2, true, b4, true, true, b7, b8, b9, b10, b11, b12, b13, b14, b15, b16, b17, u0, u1, u2, _, u4, _, _, u7, u8, u9, u10, u11, u12, u13, u14, u15, u16, u17, rfl, rfl, ⟨h.h0, h.h1, h.h2, h.h3, h.h4, h.h5, fun _ => rfl, h.h7, h.h8, h.h9, h.h10, h.h11, h.h12, h.h13, h.h14, h.h15, h.h16, h.h17, h.w0, h.w1, h.c2_1, h.c3_2, fun _ => rfl, fun _ => rfl, fun _ => rfl, h.c8_7, h.c9_8, h.c13_11, h.c14_13, h.x1, fun _ => rfl, h.x10, h.x11, h.x14⟩⟩)))
    · obtain rfl : b4 = true := ready_after hi rfl (e := ⟨4, .data⟩) (Array.mem_of_getElem? (i := 0) rfl) rfl
      obtain rfl : b6 = true := ready_after hi rfl (e := ⟨6, .data⟩) (Array.mem_of_getElem? (i := 1) rfl) rfl
      obtain rfl : b3 = true := ready_after hi rfl (e := ⟨3, .guard⟩) (Array.mem_of_getElem? (i := 2) rfl) rfl
      obtain rfl := h.h3 rfl
      obtain rfl := h.h4 rfl
      obtain rfl := h.h6 rfl
      exact wpOpIn_step rfl (fun K' hK' => stepIn_val' rfl (by intro c h; cases h) (.bool false) (run_bin .geq rfl _ _ _ rfl rfl _ (Or.inr ⟨rfl, by simp; omega⟩)) (hK' _ _ (hK _ _ ⟨b0, b1, b2, true, true, b5, true, true, b8, b9, b10, b11, b12, b13, b14, b15, b16, b17, u0, u1, u2, _, _, u5, _, _, u8, u9, u10, u11, u12, u13, u14, u15, u16, u17, rfl, rfl, ⟨h.h0, h.h1, h.h2, h.h3, h.h4, h.h5, h.h6, fun _ => rfl, h.h8, h.h9, h.h10, h.h11, h.h12, h.h13, h.h14, h.h15, h.h16, h.h17, h.w0, h.w1, h.c2_1, h.c3_2, h.c6_5, fun _ => rfl, fun _ => rfl, fun _ => rfl, h.c9_8, h.c13_11, h.c14_13, h.x1, h.x5, h.x10, h.x11, h.x14⟩⟩)))
    · obtain rfl : b3 = true := ready_after hi rfl (e := ⟨3, .data⟩) (Array.mem_of_getElem? (i := 0) rfl) rfl
      obtain rfl : b7 = true := ready_after hi rfl (e := ⟨7, .data⟩) (Array.mem_of_getElem? (i := 1) rfl) rfl
      obtain rfl := h.h3 rfl
      obtain rfl := h.h7 rfl
      exact wpOpIn_step rfl (fun K' hK' => stepIn_val' rfl (by intro c h; cases h) (.bool false) (by rfl) (hK' _ _ (hK _ _ ⟨b0, b1, b2, true, b4, b5, b6, true, true, b9, b10, b11, b12, b13, b14, b15, b16, b17, u0, u1, u2, _, u4, u5, u6, _, _, u9, u10, u11, u12, u13, u14, u15, u16, u17, rfl, rfl, ⟨h.h0, h.h1, h.h2, h.h3, h.h4, h.h5, h.h6, h.h7, fun _ => rfl, h.h9, h.h10, h.h11, h.h12, h.h13, h.h14, h.h15, h.h16, h.h17, h.w0, h.w1, h.c2_1, h.c3_2, h.c6_5, h.c7_6, fun _ => rfl, fun _ => rfl, fun _ => rfl, h.c13_11, h.c14_13, h.x1, h.x5, h.x10, h.x11, h.x14⟩⟩)))
    · obtain rfl : b8 = true := ready_after hi rfl (e := ⟨8, .data⟩) (Array.mem_of_getElem? (i := 0) rfl) rfl
      obtain rfl : b3 = true := ready_after hi rfl (e := ⟨3, .chain⟩) (Array.mem_of_getElem? (i := 1) rfl) rfl
      obtain rfl := h.h3 rfl
      obtain rfl := h.h8 rfl
      exact wpOpIn_step rfl (fun K' hK' => stepIn_val' rfl (by intro c h; cases h) (.bool false) (by rfl) (hK' _ _ (hK _ _ ⟨b0, b1, b2, true, b4, b5, b6, b7, true, true, b10, b11, b12, b13, b14, b15, b16, b17, u0, u1, u2, _, u4, u5, u6, u7, _, _, u10, u11, u12, u13, u14, u15, u16, u17, rfl, rfl, ⟨h.h0, h.h1, h.h2, h.h3, h.h4, h.h5, h.h6, h.h7, h.h8, fun _ => rfl, h.h10, h.h11, h.h12, h.h13, h.h14, h.h15, h.h16, h.h17, h.w0, h.w1, h.c2_1, h.c3_2, h.c6_5, h.c7_6, fun _ => rfl, h.c8_7, fun _ => rfl, h.c13_11, h.c14_13, h.x1, h.x5, h.x10, h.x11, h.x14⟩⟩)))
    · obtain rfl : b9 = true := ready_after hi rfl (e := ⟨9, .guard⟩) (Array.mem_of_getElem? (i := 0) rfl) rfl
      obtain rfl := h.h9 rfl
      obtain rfl : b10 = false := (show #[b0, b1, b2, b3, b4, b5, b6, b7, b8, true, b10, b11, b12, b13, b14, b15, b16, b17][10] = false from (mem_ready hi).2.2)
      have WW := h.w0 (by cases e15 : b15 with | false => rfl | true => exact absurd (h.x10 e15) (by decide))
      obtain rfl := WW
      exact wpOpIn_step rfl (fun K' hK' => stepIn_val' rfl (by intro c h; cases h) (.agg #[.int .i64 y.k, .string y.t, .int .i64 y.n, .slice a1 y.ks.length c1]) (run_load4 rfl _ pX 0 rfl y _ (hX)) (hK' _ _ (hK _ _ ⟨b0, b1, b2, b3, b4, b5, b6, b7, b8, true, true, b11, b12, b13, b14, b15, b16, b17, u0, u1, u2, u3, u4, u5, u6, u7, u8, _, _, u11, u12, u13, u14, u15, u16, u17, rfl, rfl, ⟨h.h0, h.h1, h.h2, h.h3, h.h4, h.h5, h.h6, h.h7, h.h8, h.h9, fun _ => rfl, h.h11, h.h12, h.h13, h.h14, h.h15, h.h16, h.h17, h.w0, h.w1, h.c2_1, h.c3_2, h.c6_5, h.c7_6, h.c8_3, h.c8_7, h.c9_8, h.c13_11, h.c14_13, h.x1, h.x5, fun _ => rfl, h.x11, h.x14⟩⟩)))
    · obtain rfl : b9 = true := ready_after hi rfl (e := ⟨9, .guard⟩) (Array.mem_of_getElem? (i := 0) rfl) rfl
      obtain rfl := h.h9 rfl
      obtain rfl : b11 = false := (show #[b0, b1, b2, b3, b4, b5, b6, b7, b8, true, b10, b11, b12, b13, b14, b15, b16, b17][11] = false from (mem_ready hi).2.2)
      have WW := h.w0 (by cases e15 : b15 with | false => rfl | true => exact absurd (h.x11 e15) (by decide))
      obtain rfl := WW
      exact wpOpIn_step rfl (fun K' hK' => stepIn_val' rfl (by intro c h; cases h) (.slice (some ⟨bl, 0, none⟩) len cap) (run_loadL rfl _ pL 0 rfl _ (hL)) (hK' _ _ (hK _ _ ⟨b0, b1, b2, b3, b4, b5, b6, b7, b8, true, b10, true, b12, b13, b14, b15, b16, b17, u0, u1, u2, u3, u4, u5, u6, u7, u8, _, u10, _, u12, u13, u14, u15, u16, u17, rfl, rfl, ⟨h.h0, h.h1, h.h2, h.h3, h.h4, h.h5, h.h6, h.h7, h.h8, h.h9, h.h10, fun _ => rfl, h.h12, h.h13, h.h14, h.h15, h.h16, h.h17, h.w0, h.w1, h.c2_1, h.c3_2, h.c6_5, h.c7_6, h.c8_3, h.c8_7, h.c9_8, fun _ => rfl, h.c14_13, h.x1, h.x5, h.x10, fun _ => rfl, h.x14⟩⟩)))
    · obtain rfl : b9 = true := ready_after hi rfl (e := ⟨9, .guard⟩) (Array.mem_of_getElem? (i := 0) rfl) rfl
      obtain rfl := h.h9 rfl
      exact wpOpIn_step rfl (fun K' hK' => stepIn_val' rfl (by intro c h; cases h) (.int .i64 (k : Nat)) (by rfl) (hK' _ _ (hK _ _ ⟨b0, b1, b2, b3, b4, b5, b6, b7, b8, true, b10, b11, true, b13, b14, b15, b16, b17, u0, u1, u2, u3, u4, u5, u6, u7, u8, _, u10, u11, _, u13, u14, u15, u16, u17, rfl, rfl, ⟨h.h0, h.h1, h.h2, h.h3, h.h4, h.h5, h.h6, h.h7, h.h8, h.h9, h.h10, h.h11, fun _ => rfl, h.h13, h.h14, h.h15, h.h16, h.h17, h.w0, h.w1, h.c2_1, h.c3_2, h.c6_5, h.c7_6, h.c8_3, h.c8_7, h.c9_8, h.c13_11, h.c14_13, h.x1, h.x5, h.x10, h.x11, h.x14⟩⟩)))
    · obtain rfl : b11 = true := ready_after hi rfl (e := ⟨11, .data⟩) (Array.mem_of_getElem? (i := 0) rfl) rfl
      obtain rfl : b12 = true := ready_after hi rfl (e := ⟨12, .data⟩) (Array.mem_of_getElem? (i := 1) rfl) rfl
      obtain rfl : b9 = true := ready_after hi rfl (e := ⟨9, .guard⟩) (Array.mem_of_getElem? (i := 2) rfl) rfl
      obtain rfl := h.h9 rfl
      obtain rfl := h.h11 rfl
      obtain rfl := h.h12 rfl
      exact wpOpIn_step rfl (fun K' hK' => stepIn_val' rfl (by intro c h; cases h) (.pointer (some ⟨bl, k * 4, none⟩)) (run_idx rfl _ bl len cap k rfl rfl hkl) (hK' _ _ (hK _ _ ⟨b0, b1, b2, b3, b4, b5, b6, b7, b8, true, b10, true, true, true, b14, b15, b16, b17, u0, u1, u2, u3, u4, u5, u6, u7, u8, _, u10, _, _, _, u14, u15, u16, u17, rfl, rfl, ⟨h.h0, h.h1, h.h2, h.h3, h.h4, h.h5, h.h6, h.h7, h.h8, h.h9, h.h10, h.h11, h.h12, fun _ => rfl, h.h14, h.h15, h.h16, h.h17, h.w0, h.w1, h.c2_1, h.c3_2, h.c6_5, h.c7_6, h.c8_3, h.c8_7, h.c9_8, fun _ => rfl, fun _ => rfl, h.x1, h.x5, h.x10, fun _ => rfl, h.x14⟩⟩)))
    · obtain rfl : b13 = true := ready_after hi rfl (e := ⟨13, .data⟩) (Array.mem_of_getElem? (i := 0) rfl) rfl
      obtain rfl : b9 = true := ready_after hi rfl (e := ⟨9, .guard⟩) (Array.mem_of_getElem? (i := 1) rfl) rfl
      obtain rfl := h.h9 rfl
      obtain rfl := h.h13 rfl
      obtain rfl : b14 = false := (show #[b0, b1, b2, b3, b4, b5, b6, b7, b8, true, b10, b11, b12, true, b14, b15, b16, b17][14] = false from (mem_ready hi).2.2)
      have WW := h.w0 (by cases e15 : b15 with | false => rfl | true => exact absurd (h.x14 e15) (by decide))
      obtain rfl := WW
      exact wpOpIn_step rfl (fun K' hK' => stepIn_val' rfl (by intro c h; cases h) (.agg #[.int .i64 y.k, .string y.t, .int .i64 y.n, .slice a2 y.ks.length c2]) (run_load4 rfl _ bl (k * 4) rfl y _ (hF)) (hK' _ _ (hK _ _ ⟨b0, b1, b2, b3, b4, b5, b6, b7, b8, true, b10, b11, b12, true, true, b15, b16, b17, u0, u1, u2, u3, u4, u5, u6, u7, u8, _, u10, u11, u12, _, _, u15, u16, u17, rfl, rfl, ⟨h.h0, h.h1, h.h2, h.h3, h.h4, h.h5, h.h6, h.h7, h.h8, h.h9, h.h10, h.h11, h.h12, h.h13, fun _ => rfl, h.h15, h.h16, h.h17, h.w0, h.w1, h.c2_1, h.c3_2, h.c6_5, h.c7_6, h.c8_3, h.c8_7, h.c9_8, h.c13_11, fun _ => rfl, h.x1, h.x5, h.x10, h.x11, fun _ => rfl⟩⟩)))
    · obtain rfl : b10 = true := ready_after hi rfl (e := ⟨10, .data⟩) (Array.mem_of_getElem? (i := 0) rfl) rfl
      obtain rfl : b14 = true := ready_after hi rfl (e := ⟨14, .data⟩) (Array.mem_of_getElem? (i := 1) rfl) rfl
      obtain rfl : b9 = true := ready_after hi rfl (e := ⟨9, .chain⟩) (Array.mem_of_getElem? (i := 2) rfl) rfl
      obtain rfl := h.h9 rfl
      obtain rfl := h.h10 rfl
      obtain rfl := h.h14 rfl
      obtain rfl : b15 = false := (show #[b0, b1, b2, b3, b4, b5, b6, b7, b8, true, true, b11, b12, b13, true, b15, b16, b17][15] = false from (mem_ready hi).2.2)
      have WW := h.w0 rfl
      obtain rfl := WW
      refine wpOpIn_step rfl (fun K' hK' => stepIn_call2' rfl 12 (.tmp 37) (.tmp 41) _ rfl (.agg #[.int .i64 y.k, .string y.t, .int .i64 y.n, .slice a1 y.ks.length c1]) (.agg #[.int .i64 y.k, .string y.t, .int .i64 y.n, .slice a2 y.ks.length c2]) rfl rfl (enters_of Tryd.func12 (by kernel_rfl) rfl) CS ?_)
      rintro e W' ⟨rfl, bb⟩
      exact ⟨_, rfl, hK' _ _ (hK _ _ ⟨b0, b1, b2, b3, b4, b5, b6, b7, b8, true, true, b11, b12, b13, true, true, b16, b17, u0, u1, u2, u3, u4, u5, u6, u7, u8, _, _, u11, u12, u13, _, _, u16, u17, rfl, rfl, ⟨h.h0, h.h1, h.h2, h.h3, h.h4, h.h5, h.h6, h.h7, h.h8, h.h9, h.h10, h.h11, h.h12, h.h13, h.h14, fun _ => rfl, h.h16, h.h17, fun e => (by cases e), bb, h.c2_1, h.c3_2, h.c6_5, h.c7_6, h.c8_3, h.c8_7, h.c9_8, h.c13_11, h.c14_13, fun _ => h.c2_1 (h.c3_2 (h.c8_3 (h.c9_8 rfl))), fun _ => h.c6_5 (h.c7_6 (h.c8_7 (h.c9_8 rfl))), fun _ => rfl, fun _ => h.c13_11 (h.c14_13 rfl), fun _ => rfl⟩⟩)⟩
    · obtain rfl : b15 = true := ready_after hi rfl (e := ⟨15, .data⟩) (Array.mem_of_getElem? (i := 0) rfl) rfl
      obtain rfl : b9 = true := ready_after hi rfl (e := ⟨9, .guard⟩) (Array.mem_of_getElem? (i := 1) rfl) rfl
      obtain rfl := h.h9 rfl
      obtain rfl := h.h15 rfl
      exact wpOpIn_step rfl (fun K' hK' => stepIn_val' rfl (by intro c h; cases h) (.bool false) (run_not rfl _ true rfl) (hK' _ _ (hK _ _ ⟨b0, b1, b2, b3, b4, b5, b6, b7, b8, true, b10, b11, b12, b13, b14, true, true, b17, u0, u1, u2, u3, u4, u5, u6, u7, u8, _, u10, u11, u12, u13, u14, _, _, u17, rfl, rfl, ⟨h.h0, h.h1, h.h2, h.h3, h.h4, h.h5, h.h6, h.h7, h.h8, h.h9, h.h10, h.h11, h.h12, h.h13, h.h14, h.h15, fun _ => rfl, h.h17, h.w0, h.w1, h.c2_1, h.c3_2, h.c6_5, h.c7_6, h.c8_3, h.c8_7, h.c9_8, h.c13_11, h.c14_13, h.x1, h.x5, h.x10, h.x11, h.x14⟩⟩)))
    · obtain rfl : b9 = true := ready_after hi rfl (e := ⟨9, .data⟩) (Array.mem_of_getElem? (i := 0) rfl) rfl
      obtain rfl : b16 = true := ready_after hi rfl (e := ⟨16, .data⟩) (Array.mem_of_getElem? (i := 1) rfl) rfl
      obtain rfl := h.h9 rfl
      obtain rfl := h.h16 rfl
      exact wpOpIn_step rfl (fun K' hK' => stepIn_val' rfl (by intro c h; cases h) (.bool false) (by rfl) (hK' _ _ (hK _ _ ⟨b0, b1, b2, b3, b4, b5, b6, b7, b8, true, b10, b11, b12, b13, b14, b15, true, true, u0, u1, u2, u3, u4, u5, u6, u7, u8, _, u10, u11, u12, u13, u14, u15, _, _, rfl, rfl, ⟨h.h0, h.h1, h.h2, h.h3, h.h4, h.h5, h.h6, h.h7, h.h8, h.h9, h.h10, h.h11, h.h12, h.h13, h.h14, h.h15, h.h16, fun _ => rfl, h.w0, h.w1, h.c2_1, h.c3_2, h.c6_5, h.c7_6, h.c8_3, h.c8_7, h.c9_8, h.c13_11, h.c14_13, h.x1, h.x5, h.x10, h.x11, h.x14⟩⟩)))
  · rintro _ _ W ⟨b0, b1, b2, b3, b4, b5, b6, b7, b8, b9, b10, b11, b12, b13, b14, b15, b16, b17, u0, u1, u2, u3, u4, u5, u6, u7, u8, u9, u10, u11, u12, u13, u14, u15, u16, u17, rfl, rfl, h⟩ hr
    have hall := ready_nil hr ordA
    obtain rfl : b17 = true := hall 17 (by decide)
    obtain rfl := h.h17 rfl
    exact hQ _ _ _ _ _ _ _ _ _ _ _ _ _ _ _ _ _ W h.w1
  · decide
  · exact ⟨false, false, false, false, false, false, false, false, false, false, false, false, false, false, false, false, false, false, i0, i1, i2, i3, i4, i5, i6, i7, i8, i9, i10, i11, i12, i13, i14, i15, i16, i17, rfl, rfl, ⟨fun e => (by cases e), fun e => (by cases e), fun e => (by cases e), fun e => (by cases e), fun e => (by cases e), fun e => (by cases e), fun e => (by cases e), fun e => (by cases e), fun e => (by cases e), fun e => (by cases e), fun e => (by cases e), fun e => (by cases e), fun e => (by cases e), fun e => (by cases e), fun e => (by cases e), fun e => (by cases e), fun e => (by cases e), fun e => (by cases e), fun _ => rfl, Below.refl _ _, fun e => (by cases e), fun e => (by cases e), fun e => (by cases e), fun e => (by cases e), fun e => (by cases e), fun e => (by cases e), fun e => (by cases e), fun e => (by cases e), fun e => (by cases e), fun e => (by cases e), fun e => (by cases e), fun e => (by cases e), fun e => (by cases e), fun e => (by cases e)⟩⟩
end Go.Proofs.YtggahoefbcnaiaaDoor.Walks
