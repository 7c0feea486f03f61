/- Own text. A tree put into a place and laid into a variable, in whatever order: the second one. -/
import Derived.Test.YtggahoefbcnaiabDoorOA
namespace Go.Proofs.YtggahoefbcnaiabDoor.Own
open Go.RowKit
set_option linter.unusedVariables false
set_option linter.unusedSimpArgs false
def ops8 : Array Oper := #[{ dst := some 46, op := .load 24 (.tmp 2), type := 24, pos := "law.go:132", after := #[], guard := none },
  { dst := some 47, op := .move (.tmp 1), type := 3, pos := "law.go:132", after := #[], guard := none },
  { dst := some 48, op := .call { callee := .value (.func 8), args := #[.const (.int .i64 5)], argTypes := #[3] }, type := 24, pos := "law.go:132", after := #[], guard := none },
  { dst := some 49, op := .call { callee := .value (.func 7), args := #[.tmp 46, .tmp 47, .tmp 48], argTypes := #[24, 3, 24] }, type := 27, pos := "law.go:132", after := #[{ on := 0, ground := .data }, { on := 1, ground := .data }, { on := 2, ground := .data }, { on := 2, ground := .chain }], guard := none },
  { dst := some 45, op := .move (.tmp 49), type := 27, pos := "law.go:132", after := #[{ on := 3, ground := .data }], guard := none },
  { dst := some 50, op := .extract (.tmp 45) 0, type := 24, pos := "law.go:132", after := #[{ on := 4, ground := .data }], guard := none },
  { dst := some 51, op := .extract (.tmp 45) 1, type := 4, pos := "law.go:132", after := #[{ on := 4, ground := .data }, { on := 8, ground := .gcOnly .lateStores }], guard := none },
  { dst := some 13, op := .alloc 24, type := 0, pos := "law.go:132", after := #[], guard := none },
  { dst := none, op := .store 24 (.tmp 13) (.tmp 50), type := 0, pos := "law.go:132", after := #[{ on := 7, ground := .data }, { on := 5, ground := .data }, { on := 3, ground := .chain }, { on := 0, ground := .phase }, { on := 1, ground := .phase }, { on := 2, ground := .phase }, { on := 3, ground := .phase }, { on := 4, ground := .phase }, { on := 5, ground := .phase }, { on := 6, ground := .textOnly .lateStores }, { on := 7, ground := .phase }], guard := none },
  { dst := some 14, op := .assign (.tmp 51), type := 4, pos := "law.go:132", after := #[{ on := 6, ground := .data }, { on := 8, ground := .chain }, { on := 0, ground := .phase }, { on := 1, ground := .phase }, { on := 2, ground := .phase }, { on := 3, ground := .phase }, { on := 4, ground := .phase }, { on := 5, ground := .phase }, { on := 6, ground := .phase }, { on := 7, ground := .phase }, { on := 8, ground := .phase }], guard := none }]
def fr8 (v0 v3 v4 v5 v6 v7 v8 v9 v10 v11 v12 v15 v16 v17 v18 v19 v20 v21 v22 v23 v24 v25 v26 v27 v28 v29 v30 v31 v32 v33 v34 v35 v36 v37 v38 v39 v40 v41 v42 v43 v44 v52 v53 v54 v55 v56 v57 v58 v59 v60 v61 v62 v63 v64 v65 v66 v67 v68 v69 v70 v71 v72 v73 v74 v75 v76 v77 v78 v79 v80 v81 v82 v83 v84 v85 v86 v87 vI : Value) (px : Nat) (uL uI uN uR uM uE uF uP uK : Value) : Act := { tmps := #[v0, vI, .pointer (some ⟨px, 0, none⟩), v3, v4, v5, v6, v7, v8, v9, v10, v11, v12, uP, uK, v15, v16, v17, v18, v19, v20, v21, v22, v23, v24, v25, v26, v27, v28, v29, v30, v31, v32, v33, v34, v35, v36, v37, v38, v39, v40, v41, v42, v43, v44, uM, uL, uI, uN, uR, uE, uF, v52, v53, v54, v55, v56, v57, v58, v59, v60, v61, v62, v63, v64, v65, v66, v67, v68, v69, v70, v71, v72, v73, v74, v75, v76, v77, v78, v79, v80, v81, v82, v83, v84, v85, v86, v87], defers := [] }
theorem rdy8_3' : ∀ b0 b1 b2 b3 b4 b5 b6 b7 b8 b9 : Bool, 3 ∈ Region.ready .any ops8 #[b0, b1, b2, b3, b4, b5, b6, b7, b8, b9] → (!b3 && b0 && b1 && b2) = true := by decide +kernel
theorem rdy8_3 (b0 b1 b2 b3 b4 b5 b6 b7 b8 b9 : Bool) (h : 3 ∈ Region.ready .any ops8 #[b0, b1, b2, b3, b4, b5, b6, b7, b8, b9]) : b3 = false ∧ b0 = true ∧ b1 = true ∧ b2 = true := by simpa [and_assoc] using rdy8_3' b0 b1 b2 b3 b4 b5 b6 b7 b8 b9 h
theorem rdy8_4' : ∀ b0 b1 b2 b3 b4 b5 b6 b7 b8 b9 : Bool, 4 ∈ Region.ready .any ops8 #[b0, b1, b2, b3, b4, b5, b6, b7, b8, b9] → (!b4 && b3) = true := by decide +kernel
theorem rdy8_4 (b0 b1 b2 b3 b4 b5 b6 b7 b8 b9 : Bool) (h : 4 ∈ Region.ready .any ops8 #[b0, b1, b2, b3, b4, b5, b6, b7, b8, b9]) : b4 = false ∧ b3 = true := by simpa [and_assoc] using rdy8_4' b0 b1 b2 b3 b4 b5 b6 b7 b8 b9 h
theorem rdy8_5' : ∀ b0 b1 b2 b3 b4 b5 b6 b7 b8 b9 : Bool, 5 ∈ Region.ready .any ops8 #[b0, b1, b2, b3, b4, b5, b6, b7, b8, b9] → (!b5 && b4) = true := by decide +kernel
theorem rdy8_5 (b0 b1 b2 b3 b4 b5 b6 b7 b8 b9 : Bool) (h : 5 ∈ Region.ready .any ops8 #[b0, b1, b2, b3, b4, b5, b6, b7, b8, b9]) : b5 = false ∧ b4 = true := by simpa [and_assoc] using rdy8_5' b0 b1 b2 b3 b4 b5 b6 b7 b8 b9 h
theorem rdy8_6' : ∀ b0 b1 b2 b3 b4 b5 b6 b7 b8 b9 : Bool, 6 ∈ Region.ready .any ops8 #[b0, b1, b2, b3, b4, b5, b6, b7, b8, b9] → (!b6 && b4) = true := by decide +kernel
theorem rdy8_6 (b0 b1 b2 b3 b4 b5 b6 b7 b8 b9 : Bool) (h : 6 ∈ Region.ready .any ops8 #[b0, b1, b2, b3, b4, b5, b6, b7, b8, b9]) : b6 = false ∧ b4 = true := by simpa [and_assoc] using rdy8_6' b0 b1 b2 b3 b4 b5 b6 b7 b8 b9 h
theorem rdy8_7' : ∀ b0 b1 b2 b3 b4 b5 b6 b7 b8 b9 : Bool, 7 ∈ Region.ready .any ops8 #[b0, b1, b2, b3, b4, b5, b6, b7, b8, b9] → (!b7) = true := by decide +kernel
theorem rdy8_7 (b0 b1 b2 b3 b4 b5 b6 b7 b8 b9 : Bool) (h : 7 ∈ Region.ready .any ops8 #[b0, b1, b2, b3, b4, b5, b6, b7, b8, b9]) : b7 = false := by simpa [and_assoc] using rdy8_7' b0 b1 b2 b3 b4 b5 b6 b7 b8 b9 h
theorem rdy8_8' : ∀ b0 b1 b2 b3 b4 b5 b6 b7 b8 b9 : Bool, 8 ∈ Region.ready .any ops8 #[b0, b1, b2, b3, b4, b5, b6, b7, b8, b9] → (!b8 && b5 && b7) = true := by decide +kernel
theorem rdy8_8 (b0 b1 b2 b3 b4 b5 b6 b7 b8 b9 : Bool) (h : 8 ∈ Region.ready .any ops8 #[b0, b1, b2, b3, b4, b5, b6, b7, b8, b9]) : b8 = false ∧ b5 = true ∧ b7 = true := by simpa [and_assoc] using rdy8_8' b0 b1 b2 b3 b4 b5 b6 b7 b8 b9 h
theorem rdy8_9' : ∀ b0 b1 b2 b3 b4 b5 b6 b7 b8 b9 : Bool, 9 ∈ Region.ready .any ops8 #[b0, b1, b2, b3, b4, b5, b6, b7, b8, b9] → (!b9 && b6) = true := by decide +kernel
theorem rdy8_9 (b0 b1 b2 b3 b4 b5 b6 b7 b8 b9 : Bool) (h : 9 ∈ Region.ready .any ops8 #[b0, b1, b2, b3, b4, b5, b6, b7, b8, b9]) : b9 = false ∧ b6 = true := by simpa [and_assoc] using rdy8_9' b0 b1 b2 b3 b4 b5 b6 b7 b8 b9 h
theorem rdy8_N' : ∀ b0 b1 b2 b3 b4 b5 b6 b7 b8 b9 : Bool, Region.ready .any ops8 #[b0, b1, b2, b3, b4, b5, b6, b7, b8, b9] = [] → (b0 && b1 && b2 && b3 && b4 && b5 && b6 && b7 && b8 && b9) = true := by decide +kernel
theorem rdy8_N (b0 b1 b2 b3 b4 b5 b6 b7 b8 b9 : Bool) (h : Region.ready .any ops8 #[b0, b1, b2, b3, b4, b5, b6, b7, b8, b9] = []) : b0 = true ∧ b1 = true ∧ b2 = true ∧ b3 = true ∧ b4 = true ∧ b5 = true ∧ b6 = true ∧ b7 = true ∧ b8 = true ∧ b9 = true := by simpa [and_assoc] using rdy8_N' b0 b1 b2 b3 b4 b5 b6 b7 b8 b9 h

set_option maxRecDepth 100000 in
set_option maxHeartbeats 8000000 in
theorem repl8 (x z : Nd) (ok : Bool) (ax : Option Addr) (cx px : Nat) {v0 v3 v4 v5 v6 v7 v8 v9 v10 v11 v12 v15 v16 v17 v18 v19 v20 v21 v22 v23 v24 v25 v26 v27 v28 v29 v30 v31 v32 v33 v34 v35 v36 v37 v38 v39 v40 v41 v42 v43 v44 v52 v53 v54 v55 v56 v57 v58 v59 v60 v61 v62 v63 v64 v65 v66 v67 v68 v69 v70 v71 v72 v73 v74 v75 v76 v77 v78 v79 v80 v81 v82 v83 v84 v85 v86 v87 vI iL iI iN iR iM iE iF iP iK : Value} (W0 : World) (X0 : Bx W0 px x ax cx)
    (CR : ∀ W, Below W0.heap.size W0 W → Calls Tryd.prog 7 #[(.agg #[.int .i64 x.k, .string x.t, .int .i64 x.n, .slice ax x.ks.length cx]), vI, (.agg #[.int .i64 1, .string ⟨#[]⟩, .int .i64 5, .slice none 0 0])] W fun e w' => ∃ a c, e = .returned (.tuple #[(.agg #[.int .i64 z.k, .string z.t, .int .i64 z.n, .slice a z.ks.length c]), .bool ok]) ∧ Sep w' (fun b => W.heap.size ≤ b ∧ b < w'.heap.size) (.slice a z.ks.length c) z.ks ∧ Below W.heap.size W w')
    {Q : Exit → Act → World → Prop} (hQ : ∀ p a c S W, OneS W0 z p a c S W → Q .normal (fr8 v0 v3 v4 v5 v6 v7 v8 v9 v10 v11 v12 v15 v16 v17 v18 v19 v20 v21 v22 v23 v24 v25 v26 v27 v28 v29 v30 v31 v32 v33 v34 v35 v36 v37 v38 v39 v40 v41 v42 v43 v44 v52 v53 v54 v55 v56 v57 v58 v59 v60 v61 v62 v63 v64 v65 v66 v67 v68 v69 v70 v71 v72 v73 v74 v75 v76 v77 v78 v79 v80 v81 v82 v83 v84 v85 v86 v87 vI px (.agg #[.int .i64 x.k, .string x.t, .int .i64 x.n, .slice ax x.ks.length cx]) vI (.agg #[.int .i64 1, .string ⟨#[]⟩, .int .i64 5, .slice none 0 0]) (.tuple #[(.agg #[.int .i64 z.k, .string z.t, .int .i64 z.n, .slice a z.ks.length c]), .bool ok]) (.tuple #[(.agg #[.int .i64 z.k, .string z.t, .int .i64 z.n, .slice a z.ks.length c]), .bool ok]) (.agg #[.int .i64 z.k, .string z.t, .int .i64 z.n, .slice a z.ks.length c]) (.bool ok) (.pointer (some ⟨p, 0, none⟩)) (.bool ok)) W) :
    (Code.region 8 ops8 true).wp Tryd.prog Q (fr8 v0 v3 v4 v5 v6 v7 v8 v9 v10 v11 v12 v15 v16 v17 v18 v19 v20 v21 v22 v23 v24 v25 v26 v27 v28 v29 v30 v31 v32 v33 v34 v35 v36 v37 v38 v39 v40 v41 v42 v43 v44 v52 v53 v54 v55 v56 v57 v58 v59 v60 v61 v62 v63 v64 v65 v66 v67 v68 v69 v70 v71 v72 v73 v74 v75 v76 v77 v78 v79 v80 v81 v82 v83 v84 v85 v86 v87 vI px iL iI iN iR iM iE iF iP iK) W0 := by
  refine wp_region_any (by kernel_rfl) (wpAny_inv (fun listed A W => ∃ b0 b1 b2 b3 b4 b5 b6 b7 b8 b9 : Bool, ∃ uL uI uN uR uM uE uF uP uK a c p S, listed = #[b0, b1, b2, b3, b4, b5, b6, b7, b8, b9] ∧ A = fr8 v0 v3 v4 v5 v6 v7 v8 v9 v10 v11 v12 v15 v16 v17 v18 v19 v20 v21 v22 v23 v24 v25 v26 v27 v28 v29 v30 v31 v32 v33 v34 v35 v36 v37 v38 v39 v40 v41 v42 v43 v44 v52 v53 v54 v55 v56 v57 v58 v59 v60 v61 v62 v63 v64 v65 v66 v67 v68 v69 v70 v71 v72 v73 v74 v75 v76 v77 v78 v79 v80 v81 v82 v83 v84 v85 v86 v87 vI px uL uI uN uR uM uE uF uP uK ∧ RF W0 z ok (.agg #[.int .i64 x.k, .string x.t, .int .i64 x.n, .slice ax x.ks.length cx]) vI (.agg #[.int .i64 1, .string ⟨#[]⟩, .int .i64 5, .slice none 0 0]) b0 b1 b2 b3 b4 b5 b6 b7 b8 b9 uL uI uN uR uM uE uF uP uK a c p S W) ?_ ?_ _ _ _ _ ?_ ?_)
  · rintro _ _ W i ⟨b0, b1, b2, b3, b4, b5, b6, b7, b8, b9, uL, uI, uN, uR, uM, uE, uF, uP, uK, a, c, p, S, rfl, rfl, h⟩ hi K hK
    have hlt : i < 10 := (mem_ready hi).1
    obtain rfl | rfl | rfl | rfl | rfl | rfl | rfl | rfl | rfl | rfl : i = 0 ∨ i = 1 ∨ i = 2 ∨ i = 3 ∨ i = 4 ∨ i = 5 ∨ i = 6 ∨ i = 7 ∨ i = 8 ∨ i = 9 := by omega
    · exact wpOp_step rfl (fun K' hK' => step_load_nd rfl (.tmp 2) rfl px rfl x ax cx (X0.bel h.bel) (hK' _ _ (hK _ _ ⟨true, b1, b2, b3, b4, b5, b6, b7, b8, b9, _, uI, uN, uR, uM, uE, uF, uP, uK, a, c, p, S, rfl, rfl, ⟨h.bel, fun _ => rfl, h.h1, h.h2, h.h3, h.h4, h.h5, h.h6, h.h7, h.h9, h.o4, h.o5, h.o6, h.o8⟩⟩)))
    · exact wpOp_step rfl (fun K' hK' => step_val rfl _ (by rfl) (hK' _ _ (hK _ _ ⟨b0, true, b2, b3, b4, b5, b6, b7, b8, b9, uL, _, uN, uR, uM, uE, uF, uP, uK, a, c, p, S, rfl, rfl, ⟨h.bel, h.h0, fun _ => rfl, h.h2, h.h3, h.h4, h.h5, h.h6, h.h7, h.h9, h.o4, h.o5, h.o6, h.o8⟩⟩)))
    · refine wpOp_step rfl (fun K' hK' => step_call1 rfl 8 (.const (.int .i64 5)) _ rfl (.int .i64 5) rfl (enters_of Tryd.func8 (by kernel_rfl) rfl) (num_b 5 W) ?_)
      rintro e W' ⟨rfl, b⟩
      have h := h.grow b
      exact ⟨_, rfl, hK' _ _ (hK _ _ ⟨b0, b1, true, b3, b4, b5, b6, b7, b8, b9, uL, uI, _, uR, uM, uE, uF, uP, uK, a, c, p, S, rfl, rfl, ⟨h.bel, h.h0, h.h1, fun _ => rfl, h.h3, h.h4, h.h5, h.h6, h.h7, h.h9, h.o4, h.o5, h.o6, h.o8⟩⟩)⟩
    · obtain ⟨rfl, rfl, rfl, rfl⟩ := rdy8_3 _ _ _ _ _ _ _ _ _ _ hi
      obtain rfl := h.h0 rfl
      obtain rfl := h.h1 rfl
      obtain rfl := h.h2 rfl
      refine wpOp_step rfl (fun K' hK' => step_call3 rfl 7 (.tmp 46) (.tmp 47) (.tmp 48) _ rfl _ _ _ rfl rfl rfl (enters_of Tryd.func7 (by kernel_rfl) rfl) (CR W h.bel) ?_)
      rintro e W' ⟨a1, c1, rfl, l, b⟩
      exact ⟨_, rfl, hK' _ _ (hK _ _ ⟨true, true, true, true, b4, b5, b6, b7, b8, b9, _, _, _, _, uM, uE, uF, uP, uK, _, _, p, _, rfl, rfl, h.call b l⟩)⟩
    · obtain ⟨rfl, rfl⟩ := rdy8_4 _ _ _ _ _ _ _ _ _ _ hi
      obtain ⟨rfl, _⟩ := h.h3 rfl
      exact wpOp_step rfl (fun K' hK' => step_val rfl _ (by rfl) (hK' _ _ (hK _ _ ⟨b0, b1, b2, true, true, b5, b6, b7, b8, b9, uL, uI, uN, _, _, uE, uF, uP, uK, a, c, p, S, rfl, rfl, ⟨h.bel, h.h0, h.h1, h.h2, h.h3, fun _ => rfl, h.h5, h.h6, h.h7, h.h9, fun _ => rfl, fun _ => rfl, fun _ => rfl, h.o8⟩⟩)))
    · obtain ⟨rfl, rfl⟩ := rdy8_5 _ _ _ _ _ _ _ _ _ _ hi
      obtain rfl := h.h4 rfl
      exact wpOp_step rfl (fun K' hK' => step_val rfl _ (by rfl) (hK' _ _ (hK _ _ ⟨b0, b1, b2, b3, true, true, b6, b7, b8, b9, uL, uI, uN, uR, _, _, uF, uP, uK, a, c, p, S, rfl, rfl, ⟨h.bel, h.h0, h.h1, h.h2, h.h3, h.h4, fun _ => rfl, h.h6, h.h7, h.h9, h.o4, fun _ => rfl, h.o6, fun e => ⟨(h.o8 e).1, rfl⟩⟩⟩)))
    · obtain ⟨rfl, rfl⟩ := rdy8_6 _ _ _ _ _ _ _ _ _ _ hi
      obtain rfl := h.h4 rfl
      exact wpOp_step rfl (fun K' hK' => step_val rfl _ (by rfl) (hK' _ _ (hK _ _ ⟨b0, b1, b2, b3, true, b5, true, b7, b8, b9, uL, uI, uN, uR, _, uE, _, uP, uK, a, c, p, S, rfl, rfl, ⟨h.bel, h.h0, h.h1, h.h2, h.h3, h.h4, h.h5, fun _ => rfl, h.h7, h.h9, h.o4, h.o5, fun _ => rfl, h.o8⟩⟩)))
    · obtain rfl := rdy8_7 _ _ _ _ _ _ _ _ _ _ hi
      exact wpOp_step rfl (fun K' hK' => step_alloc_nd rfl 13 rfl rfl (fun p1 W' hp hz b => hK' _ _ (hK _ _ ⟨b0, b1, b2, b3, b4, b5, b6, true, b8, b9, uL, uI, uN, uR, uM, uE, uF, _, uK, a, c, _, S, rfl, rfl, h.alloc hp.out hz b⟩)))
    · obtain ⟨rfl, rfl, rfl⟩ := rdy8_8 _ _ _ _ _ _ _ _ _ _ hi
      obtain ⟨rfl, _, _, hz, _⟩ := h.h7 rfl
      obtain rfl := h.h5 rfl
      exact wpOp_step rfl (fun K' hK' => step_store_nd rfl (.tmp 13) (.tmp 50) rfl p rfl z a c rfl (hz rfl) (fun W' hs hz' hb ho => hK' _ _ (hK _ _ ⟨b0, b1, b2, b3, b4, true, b6, true, true, b9, uL, uI, uN, uR, uM, _, uF, _, uK, a, c, p, S, rfl, rfl, h.store hs.out hz' hb ho⟩)))
    · obtain ⟨rfl, rfl⟩ := rdy8_9 _ _ _ _ _ _ _ _ _ _ hi
      obtain rfl := h.h6 rfl
      exact wpOp_step rfl (fun K' hK' => step_val rfl _ (by rfl) (hK' _ _ (hK _ _ ⟨b0, b1, b2, b3, b4, b5, true, b7, b8, true, uL, uI, uN, uR, uM, uE, _, uP, _, a, c, p, S, rfl, rfl, ⟨h.bel, h.h0, h.h1, h.h2, h.h3, h.h4, h.h5, h.h6, h.h7, fun _ => rfl, h.o4, h.o5, h.o6, h.o8⟩⟩)))
  · rintro _ _ W ⟨b0, b1, b2, b3, b4, b5, b6, b7, b8, b9, uL, uI, uN, uR, uM, uE, uF, uP, uK, a, c, p, S, rfl, rfl, h⟩ hr
    obtain ⟨rfl, rfl, rfl, rfl, rfl, rfl, rfl, rfl, rfl, rfl⟩ := rdy8_N _ _ _ _ _ _ _ _ _ _ hr
    obtain rfl := h.h0 rfl
    obtain rfl := h.h1 rfl
    obtain rfl := h.h2 rfl
    obtain ⟨rfl, l, i⟩ := h.h3 rfl
    obtain rfl := h.h4 rfl
    obtain rfl := h.h5 rfl
    obtain rfl := h.h6 rfl
    obtain ⟨rfl, lo, _, _, k⟩ := h.h7 rfl
    obtain rfl := h.h9 rfl
    exact hQ p a c S W ⟨k rfl, l, h.bel, lo, fun j hj => ⟨(i j hj).1, (i j hj).2.1, (i j hj).2.2 rfl⟩⟩
  · decide
  · exact ⟨false, false, false, false, false, false, false, false, false, false, iL, iI, iN, iR, iM, iE, iF, iP, iK, none, 0, 0, fun _ => False, rfl, rfl, ⟨(Below.refl _ _).drew, fun e => (by cases e), fun e => (by cases e), fun e => (by cases e), fun e => (by cases e), fun e => (by cases e), fun e => (by cases e), fun e => (by cases e), fun e => (by cases e), fun e => (by cases e), fun e => (by cases e), fun e => (by cases e), fun e => (by cases e), fun e => (by cases e)⟩⟩
end Go.Proofs.YtggahoefbcnaiabDoor.Own
