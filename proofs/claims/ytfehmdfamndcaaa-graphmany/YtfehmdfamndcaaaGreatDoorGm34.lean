/- Own text. Package module: an item is read, or the fault is answered. Package module: whether a tree is too deep. -/
import Derived.Test.YtfehmdfamndcaaaGreatDoorGm33
import Derived.Test.YtfehmdfamndcaaaGreatDoorGm24
import Derived.Test.YtfehmdfamndcaaaGreatDoorGm01
import Derived.Deep.LoopGhost
namespace Go.Proofs.YtfehmdfamndcaaaGreatDoor
open Go.RowKit
set_option linter.unusedVariables false
set_option linter.unusedSimpArgs false

theorem res_readM {W : World} {p q r : Nat} {a b c d vq vr : Value} {tmps : Array Value} (mp : W.heap[p]? = some (.cells #[a, b, c, d] 62 (0, 0))) (mq : W.heap[q]? = some (.cells #[vq] 3 (0, 0))) (mr : W.heap[r]? = some (.cells #[vr] 32 (0, 0)))
    (h6 : tmps[6]?.getD undef = .pointer (some ⟨p, 0, none⟩)) (h7 : tmps[7]?.getD undef = .pointer (some ⟨q, 0, none⟩)) (h8 : tmps[8]?.getD undef = .pointer (some ⟨r, 0, none⟩)) : (results Tryz.f38 tmps).run Tryz.prog W = .ok (.tuple #[.agg #[a, b, c, d], vq, vr]) W := by
  obtain ⟨⟨c0, c1, c2, c3⟩, _⟩ := t4 mp
  have cq : W.cell? ⟨q, 0, none⟩ = some vq := by rw [cell_of_row _ _ _ _ _ _ mq]; rfl
  have cr : W.cell? ⟨r, 0, none⟩ = some vr := by rw [cell_of_row _ _ _ _ _ _ mr]; rfl
  simp [results, Tryz.results38, go_sem, h6, h7, h8, c0, c1, c2, c3, cq, cr]
theorem door_okM {w W3 : World} {x : Nd} {b : Nat} {ad : Option Addr} {c : Nat} {tmps : Array Value} (j3 : W3.heap[w.heap.size]? = some (.cells #[Value.int IntKind.i64 x.k, Value.string x.t, Value.int IntKind.i64 x.n, Value.slice ad x.ks.length c] 62 (0, 0))) (m2 : W3.heap[w.heap.size + 1]? = some (.cells #[Value.int IntKind.i64 0] 3 (0, 0))) (m3 : W3.heap[w.heap.size + 1 + 1]? = some (.cells #[Value.int IntKind.i64 0] 32 (0, 0)))
    (l3 : LAt W3 (fun b => w.heap.size + 3 ≤ b) (.slice ad x.ks.length c) x.ks) (b3 : Below w.heap.size w W3) (h6 : tmps[6]?.getD undef = .pointer (some ⟨w.heap.size, 0, none⟩)) (h7 : tmps[7]?.getD undef = .pointer (some ⟨w.heap.size + 1, 0, none⟩)) (h8 : tmps[8]?.getD undef = .pointer (some ⟨w.heap.size + 1 + 1, 0, none⟩)) :
    bodyPostD Tryz.prog Tryz.f38 (AnsF w (faceR (Rs.ok x b))) Exit.ret { tmps := tmps, defers := [{ target := Target.fn (Fn.func 54) #[Value.pointer (some ⟨w.heap.size, 0, none⟩), Value.pointer (some ⟨w.heap.size + 1, 0, none⟩), Value.pointer (some ⟨w.heap.size + 1 + 1, 0, none⟩)], args := #[] }] }
      ((((((W3.setCell ⟨w.heap.size, 0, none⟩ (Value.int IntKind.i64 x.k)).setCell ⟨w.heap.size, 1, none⟩ (Value.string x.t)).setCell ⟨w.heap.size, 2, none⟩ (Value.int IntKind.i64 x.n)).setCell ⟨w.heap.size, 3, none⟩ (Value.slice ad x.ks.length c)).setCell ⟨w.heap.size + 1, 0, none⟩ (Value.int IntKind.i64 (b : Int))).setCell ⟨w.heap.size + 1 + 1, 0, none⟩ (Value.int IntKind.i64 0)).drew := by
  obtain ⟨W4, hW4⟩ : ∃ W, ((((W3.setCell ⟨w.heap.size, 0, none⟩ (Value.int IntKind.i64 x.k)).setCell ⟨w.heap.size, 1, none⟩ (Value.string x.t)).setCell ⟨w.heap.size, 2, none⟩ (Value.int IntKind.i64 x.n)).setCell ⟨w.heap.size, 3, none⟩ (Value.slice ad x.ks.length c)) = W := ⟨_, rfl⟩
  have n1 : W4.heap[w.heap.size]? = some (.cells #[Value.int IntKind.i64 x.k, Value.string x.t, Value.int IntKind.i64 x.n, Value.slice ad x.ks.length c] 62 (0, 0)) := by rw [← hW4]; exact t4_set _ _ _ _ j3
  have o4 : ∀ j, j ≠ w.heap.size → W4.heap[j]? = W3.heap[j]? := fun j hj => by rw [← hW4]; exact blk_set4 hj _ _ _ _
  have s4 : W4.heap.size = W3.heap.size := by rw [← hW4]; simp [World.setCell]
  have e4 : W4.os = W3.os ∧ W4.tape = W3.tape ∧ W4.output = W3.output := by rw [← hW4]; exact ⟨rfl, rfl, rfl⟩
  rw [hW4]
  clear hW4
  obtain ⟨W5, hW5⟩ : ∃ W, W4.setCell ⟨w.heap.size + 1, 0, none⟩ (Value.int IntKind.i64 (b : Int)) = W := ⟨_, rfl⟩
  have n2 : W5.heap[w.heap.size + 1]? = some (.cells #[Value.int IntKind.i64 (b : Int)] 3 (0, 0)) := by rw [← hW5]; exact set1 ((o4 _ (by omega)).trans m2) _
  have o5 : ∀ j, j ≠ w.heap.size + 1 → W5.heap[j]? = W4.heap[j]? := fun j hj => by rw [← hW5]; exact Below.heap_setCell _ _ _ _ hj
  have s5 : W5.heap.size = W3.heap.size := by rw [← hW5]; simp [World.setCell, s4]
  have e5 : W5.os = W3.os ∧ W5.tape = W3.tape ∧ W5.output = W3.output := by rw [← hW5]; exact e4
  rw [hW5]
  clear hW5
  obtain ⟨W6, hW6⟩ : ∃ W, W5.setCell ⟨w.heap.size + 1 + 1, 0, none⟩ (Value.int IntKind.i64 0) = W := ⟨_, rfl⟩
  have n3 : W6.heap[w.heap.size + 1 + 1]? = some (.cells #[Value.int IntKind.i64 0] 32 (0, 0)) := by rw [← hW6]; exact set1 ((o5 _ (by omega)).trans ((o4 _ (by omega)).trans m3)) _
  have o6 : ∀ j, j ≠ w.heap.size + 1 + 1 → W6.heap[j]? = W5.heap[j]? := fun j hj => by rw [← hW6]; exact Below.heap_setCell _ _ _ _ hj
  have s6 : W6.drew.heap.size = W3.heap.size := by rw [← hW6]; simp [World.setCell, World.drew, s5]
  have e6 : W6.os = W3.os ∧ W6.tape = W3.tape ∧ W6.output = W3.output := by rw [← hW6]; exact e5
  rw [hW6]
  clear hW6
  have q1 : W6.drew.heap[w.heap.size]? = some (.cells #[Value.int IntKind.i64 x.k, Value.string x.t, Value.int IntKind.i64 x.n, Value.slice ad x.ks.length c] 62 (0, 0)) := (o6 _ (by omega)).trans ((o5 _ (by omega)).trans n1)
  have q2 : W6.drew.heap[w.heap.size + 1]? = some (.cells #[Value.int IntKind.i64 (b : Int)] 3 (0, 0)) := (o6 _ (by omega)).trans n2
  have q3 : W6.drew.heap[w.heap.size + 1 + 1]? = some (.cells #[Value.int IntKind.i64 0] 32 (0, 0)) := n3
  have o7 : ∀ j, j ≠ w.heap.size → j ≠ w.heap.size + 1 → j ≠ w.heap.size + 1 + 1 → W6.drew.heap[j]? = W3.heap[j]? := fun j h1 h2 h3 => (o6 j h3).trans ((o5 j h2).trans (o4 j h1))
  refine leaves_cons (f := 54) (args := #[.pointer (some ⟨w.heap.size, 0, none⟩), .pointer (some ⟨w.heap.size + 1, 0, none⟩), .pointer (some ⟨w.heap.size + 1 + 1, 0, none⟩)]) (by simp) (by simp [go_sem]) ?_
  refine (catch_idleM w.heap.size (w.heap.size + 1) (w.heap.size + 1 + 1) _).mono ?_
  rintro e u' W7 ⟨rfl, rfl, rfl⟩
  have zb := b3.size
  refine ⟨_, res_readM q1 q2 q3 h6 h7 h8, ad, c, rfl, ?_, ?_⟩
  · exact ((l3.keep (by omega) (fun j hj hl => o7 j (by omega) (by omega) (by omega))).mono (fun b hb => by omega))
  · exact ⟨e6.1.trans b3.os, e6.2.1.trans b3.tape, e6.2.2.trans b3.output, by omega, fun j hj => (o7 j (by omega) (by omega) (by omega)).trans (b3.block j hj)⟩
set_option maxRecDepth 100000 in
set_option maxHeartbeats 8000000 in
theorem readM_any (L : List Tok) (kc : FuncId) (egc : ∀ args w, (callFunc kc args).run Tryz.prog w = .ok (.enter kc args) w) (K : Nat → FuncId) (egK : ∀ a args w, (callFunc (K a) args).run Tryz.prog w = .ok (.enter (K a) args) w) (F : Nat → Rs Nd) (w : World) (v : Value) (a : Nat) (hv : TkV w v L) (hal : a ≤ L.length)
    (hCh : ∀ W P, Rd W P L a mE → Calls Tryz.prog kc #[.pointer (some ⟨P.R, 0, none⟩)] W fun e w' => e = .returned (bound P (K a)) ∧ Below W.heap.size W w') (hIt : ∀ W P, Rd W P L a mE → Calls Tryz.prog (K a) #[.pointer (some ⟨P.R, 0, none⟩)] W (AnsN P L mE W (F a))) :
    Calls Tryz.prog 38 #[v, .int .i64 (a : Int), .func (.func kc) #[] #[]] w (AnsF w (faceR (F a))) := by
  obtain ⟨⟨ta, tc, bl, of, rfl, hta, hx, hcp⟩, hsm, htx⟩ := hv
  have hmf : ∀ (fn : Fn) (first cap : Array Value) (w : World), (Instr.makeFunc fn first cap).run Tryz.prog w = .ok (.func fn first cap) w := fun _ _ _ _ => rfl
  have HCh : Hid (∀ W P, Rd W P L a mE → Calls Tryz.prog kc #[.pointer (some ⟨P.R, 0, none⟩)] W fun e w' => e = .returned (bound P (K a)) ∧ Below W.heap.size W w') := hCh
  have HIt : Hid (∀ W P, Rd W P L a mE → Calls Tryz.prog (K a) #[.pointer (some ⟨P.R, 0, none⟩)] W (AnsN P L mE W (F a))) := hIt
  clear hCh hIt
  obtain ⟨rr, hrr⟩ : ∃ r, F a = r := ⟨_, rfl⟩
  have HRR : Hid (F a = rr) := hrr
  rw [hrr]
  clear hrr
  obtain ⟨W0, hW0⟩ : ∃ W, ((w.alloc (Obj.cells #[Value.int IntKind.i64 0, Value.string ⟨#[]⟩, Value.int IntKind.i64 0, Value.slice none 0 0] 62)).alloc (Obj.cells #[Value.int IntKind.i64 0] 3)).alloc (Obj.cells #[Value.int IntKind.i64 0] 32) = W := ⟨_, rfl⟩
  have b0 : Below w.heap.size w W0 := by rw [← hW0]; exact (((Below.refl _ _).alloc (Nat.le_refl _) _).alloc (by simp) _).alloc (by simp; omega) _
  have mp : W0.heap[w.heap.size]? = some (.cells #[Value.int IntKind.i64 0, Value.string ⟨#[]⟩, Value.int IntKind.i64 0, Value.slice none 0 0] 62 (0, 0)) := by rw [← hW0]; exact hold _ (by simp; omega) (hold _ (by simp) (hnew _ rfl))
  have mq : W0.heap[w.heap.size + 1]? = some (.cells #[Value.int IntKind.i64 0] 3 (0, 0)) := by rw [← hW0]; exact hold _ (by simp) (hnew _ (by simp))
  have mr : W0.heap[w.heap.size + 1 + 1]? = some (.cells #[Value.int IntKind.i64 0] 32 (0, 0)) := by rw [← hW0]; exact hnew _ (by simp)
  have s0 : W0.heap.size = w.heap.size + 3 := by rw [← hW0]; simp
  go_enter_defers Tryz.func38, Tryz.ntmps38
  go_wp2_with fail
  go_at_call 55
  refine (new_any _ ta L.length tc rfl (a : Int) _).mono ?_
  rintro e W1 ⟨rfl, b1⟩
  obtain ⟨WR, hWR⟩ : ∃ W, W1.alloc (Obj.cells #[Value.slice ta L.length tc, Value.int IntKind.i64 (a : Int)] 111) = W := ⟨_, rfl⟩
  have bR : Below W1.heap.size W1 WR := by rw [← hWR]; exact (Below.refl _ _).alloc (Nat.le_refl _) _
  have mR : WR.heap[W1.heap.size]? = some (.cells #[Value.slice ta L.length tc, Value.int IntKind.i64 (a : Int)] 111 (0, 0)) := by rw [← hWR]; exact hnew _ rfl
  have s1 := b1.size
  have sR := bR.size
  have bW : Below w.heap.size w WR := b0.trans ((b1.mono (by omega)).trans (bR.mono (by omega)))
  have rR : Rd WR ⟨W1.heap.size, bl, of, tc, ta⟩ L a mE := ⟨mR, hta, hx.bel bW, fun q => by have := hx.lt q; show bl ≠ W1.heap.size; omega, hal, hsm, hcp⟩
  have CC := HCh.out _ _ rR
  go_wp2_with fail
  go_at_fn kc
  refine CC.mono ?_
  rintro e WC ⟨rfl, bC⟩
  have rC := rR.bel bC
  have CR := HIt.out _ _ rC
  rw [HRR.out] at CR
  obtain ⟨k, hk⟩ : ∃ k, K a = k := ⟨_, rfl⟩
  rw [hk] at CR
  have eg := egK a
  rw [hk] at eg
  unfold bound
  rw [hk]
  clear hk
  have sC := bC.size
  go_wp2_with fail
  go_at_fn k
  refine CR.mono ?_
  rintro e W2 A2
  have kp : ∀ {W : World}, KeptR W1.heap.size WR W → W.heap[w.heap.size]? = some (.cells #[Value.int IntKind.i64 0, Value.string ⟨#[]⟩, Value.int IntKind.i64 0, Value.slice none 0 0] 62 (0, 0)) ∧ W.heap[w.heap.size + 1]? = some (.cells #[Value.int IntKind.i64 0] 3 (0, 0)) ∧ W.heap[w.heap.size + 1 + 1]? = some (.cells #[Value.int IntKind.i64 0] 32 (0, 0)) := fun {W} kk => by
    have g : ∀ j, j < W0.heap.size → W.heap[j]? = W0.heap[j]? := fun j hj => (kk.block j (by omega) (by omega)).trans ((bR.block j (by omega)).trans (b1.block j hj))
    exact ⟨(g _ (by omega)).trans mp, (g _ (by omega)).trans mq, (g _ (by omega)).trans mr⟩
  have KP : Hid (∀ {W : World}, KeptR W1.heap.size WR W → W.heap[w.heap.size]? = some (.cells #[Value.int IntKind.i64 0, Value.string ⟨#[]⟩, Value.int IntKind.i64 0, Value.slice none 0 0] 62 (0, 0)) ∧ W.heap[w.heap.size + 1]? = some (.cells #[Value.int IntKind.i64 0] 3 (0, 0)) ∧ W.heap[w.heap.size + 1 + 1]? = some (.cells #[Value.int IntKind.i64 0] 32 (0, 0))) := kp
  clear kp
  cases rr with
  | bad p er =>
    obtain ⟨rfl, b2'⟩ := A2
    have b2 : KeptR W1.heap.size WR W2 := (KeptR.of bC).trans b2'
    obtain ⟨m1, m2, m3⟩ := KP.out b2
    have s2 := b2.size
    go_wp2
    refine leaves_cons (f := 54) (args := #[.pointer (some ⟨w.heap.size, 0, none⟩), .pointer (some ⟨w.heap.size + 1, 0, none⟩), .pointer (some ⟨w.heap.size + 1 + 1, 0, none⟩)]) (by simp) (by simp [go_sem]) ?_
    refine (catch_panickingM w.heap.size (w.heap.size + 1) (w.heap.size + 1 + 1) p er _ _ _ _ _ _ _ m1 m2 m3 (by omega) (by omega) (by omega) []).mono ?_
    rintro e u' W3 ⟨rfl, rfl, n1, n2, n3, k3⟩
    refine ⟨_, res_readM n1 n2 n3 rfl rfl rfl, none, 0, rfl, .nil _ _, ?_⟩
    refine ⟨k3.os.trans (b2.os.trans bW.os), k3.tape.trans (b2.tape.trans bW.tape), k3.output.trans (b2.output.trans bW.output), by have := bW.size; have := k3.size; omega, fun j hj => ?_⟩
    exact (k3.block j (by have := bW.size; omega) (by omega) (by omega) (by omega)).trans ((b2.block j (by have := bW.size; omega) (by show j ≠ W1.heap.size; omega)).trans (bW.block j hj))
  | ok x b =>
    obtain ⟨ad, c, rfl, l2', r2, b2'⟩ := A2
    have b2 : KeptR W1.heap.size WR W2 := (KeptR.of bC).trans b2'
    have l2 := l2'.mono (T := fun b => WR.heap.size ≤ b) (fun b hb => Nat.le_trans sC hb)
    obtain ⟨m1, m2, m3⟩ := KP.out b2
    have s2 := b2.size
    obtain ⟨⟨_, _, _, _⟩, _, _, _, _⟩ := t4 m1
    go_wp2_with fail
    obtain ⟨W3, hW3⟩ : ∃ W, ((((W2.setCell ⟨w.heap.size, 0, none⟩ (Value.int IntKind.i64 x.k)).setCell ⟨w.heap.size, 1, none⟩ (Value.string x.t)).setCell ⟨w.heap.size, 2, none⟩ (Value.int IntKind.i64 x.n)).setCell ⟨w.heap.size, 3, none⟩ (Value.slice ad x.ks.length c)) = W := ⟨_, rfl⟩
    have j3 : W3.heap[w.heap.size]? = some (.cells #[Value.int IntKind.i64 x.k, Value.string x.t, Value.int IntKind.i64 x.n, Value.slice ad x.ks.length c] 62 (0, 0)) := by rw [← hW3]; exact t4_set _ _ _ _ m1
    have o3 : ∀ j, j ≠ w.heap.size → W3.heap[j]? = W2.heap[j]? := fun j hj => by rw [← hW3]; exact blk_set4 hj _ _ _ _
    have s3 : W3.heap.size = W2.heap.size := by rw [← hW3]; simp [World.setCell]
    have e3 : W3.os = W2.os ∧ W3.tape = W2.tape ∧ W3.output = W2.output := by rw [← hW3]; exact ⟨rfl, rfl, rfl⟩
    have r3 : Rd W3 ⟨W1.heap.size, bl, of, tc, ta⟩ L b mE := by rw [← hW3]; exact r2.set4 (by show W1.heap.size ≠ _; omega) (fun q => by have := hx.lt q; show bl ≠ _; omega) _ _ _ _
    have l3 : LAt W3 (fun b => w.heap.size + 1 ≤ b) (.slice ad x.ks.length c) x.ks := by rw [← hW3]; exact l2.set4 (by omega) (by omega) _ _ _ _
    rw [hW3]
    have m2' := (o3 _ (by omega)).trans m2
    have m3' := (o3 _ (by omega)).trans m3
    have cq : W3.cell? ⟨w.heap.size + 1, 0, none⟩ = some (Value.int IntKind.i64 0) := by rw [cell_of_row _ _ _ _ _ _ m2']; rfl
    have fq : W3.frozen? ⟨w.heap.size + 1, 0, none⟩ = false := by simp [World.frozen?, m2']
    have cr : W3.cell? ⟨w.heap.size + 1 + 1, 0, none⟩ = some (Value.int IntKind.i64 0) := by rw [cell_of_row _ _ _ _ _ _ m3']; rfl
    have fr : W3.frozen? ⟨w.heap.size + 1 + 1, 0, none⟩ = false := by simp [World.frozen?, m3']
    obtain ⟨⟨_, _, _, _⟩, _, _, _, _⟩ := t4 j3
    have CP := place_any (r3.bel ((Below.refl _ _).drew))
    refine wp_region_noPanic ?_
    refine wp_region_any (by kernel_rfl) ?_
    change wpAny _ _ _ _ _ _ _ (World.drew _)
    have cqd : W3.drew.cell? ⟨w.heap.size + 1, 0, none⟩ = some (Value.int IntKind.i64 0) := cq
    have j3d : W3.drew.heap[w.heap.size]? = some (.cells #[Value.int IntKind.i64 x.k, Value.string x.t, Value.int IntKind.i64 x.n, Value.slice ad x.ks.length c] 62 (0, 0)) := j3
    obtain ⟨⟨_, _, _, _⟩, _, _, _, _⟩ := t4 j3d
    refine wpAny_take (i := 1) (v := (.pointer (some ⟨W1.heap.size, 0, none⟩))) rfl (by kernel_rfl) (by kernel_rfl) (by kernel_rfl) (fun _ _ _ h => h) (Or.inl ⟨by rfl, fun w => by go_simp⟩) ?_
    refine wpAny_take (i := 2) (v := (.pointer (some ⟨W1.heap.size, 0, none⟩))) rfl (by kernel_rfl) (by kernel_rfl) (by kernel_rfl) (fun _ _ _ h => h) (Or.inl ⟨by rfl, fun w => by go_simp⟩) ?_
    refine wpAny_take (i := 3) (v := (.pointer (some ⟨W1.heap.size, 0, none⟩))) rfl (by kernel_rfl) (by kernel_rfl) (by kernel_rfl) (fun _ _ _ h => h) (Or.inl ⟨by rfl, fun w => by go_simp⟩) ?_
    refine wpAny_two (i := 0) (j := 4) (is := [4, 5, 6, 7]) (js := [0, 5, 6, 7]) (os := [_, _, _, _]) (us := [_, _, _, _]) (by kernel_rfl) rfl rfl (by kernel_rfl) (by kernel_rfl) rfl rfl (by decide) (by decide) ?_ ?_
    all_goals
      go_wp2_with fail
      go_at_call 56
      refine CP.mono ?_
      rintro e W5 ⟨rfl, rfl⟩
      go_wp2_with fail
      refine NoPanic.normal ?_
      go_wp2
      have zW := bW.size
      refine door_okM j3 m2' m3' ?_ ?_ rfl rfl rfl
      · exact ((l2.mono' (T := fun b => WR.heap.size ≤ b) (fun b hl hb => hb)).keep (by omega) (fun j hj hl => o3 j (by omega))).mono (fun b hb => by omega)
      · exact ⟨e3.1.trans (b2.os.trans bW.os), e3.2.1.trans (b2.tape.trans bW.tape), e3.2.2.trans (b2.output.trans bW.output), by omega, fun j hj => (o3 j (by omega)).trans ((b2.block j (by omega) (by show j ≠ W1.heap.size; omega)).trans (bW.block j hj))⟩
end Go.Proofs.YtfehmdfamndcaaaGreatDoor
namespace Go.Proofs.YtfehmdfamndcaaaGreatDoor
open Go.RowKit
set_option linter.unusedVariables false
set_option linter.unusedSimpArgs false

/-- is the tree deeper than so much? -/
def deepB : Nat → Nd → Bool
  | 0, _ => true
  | m + 1, x => x.ks.any (deepB m)
set_option maxRecDepth 100000 in
set_option maxHeartbeats 4000000 in
theorem deeper_any : ∀ (m : Nat) (x : Nd) (w : World) (S : Nat → Prop) (v : Value), m ≤ 1000 → LAt w S v x.ks → x.size ≤ 4194304 →
    Calls Tryz.prog 40 #[x.v v, .int .i64 (m : Int)] w fun e w' => e = .returned (.bool (deepB m x)) ∧ Below w.heap.size w w' := by
  intro m
  induction m with
  | zero =>
    intro x w S v hm hx zx
    obtain ⟨ax, cx, bx, ox, fx, rfl, px, qx, rx⟩ := hx.op
    unfold Nd.v
    go_enter Tryz.func40, Tryz.ntmps40
    go_wp2
    go_ret
    exact ⟨rfl, (Below.refl _ w).alloc (Nat.le_refl _) _⟩
  | succ m ih =>
    intro x w S v hm hx zx
    obtain ⟨ax, cx, bx, ox, fx, rfl, px, qx, rx⟩ := hx.op
    have zs := x.size_eq
    have lx := sizes_len x.ks
    have lx2 : x.ks.length ≤ 4194304 := by omega
    have i0 : ¬ ((m + 1 : Nat) : Int) = 0 := by omega
    have hw : IntKind.i64.wrap (((m + 1 : Nat) : Int) - 1) = (m : Int) := by rw [IntKind.wrap_i64]; omega
    have e0 : deepB (m + 1) x = x.ks.any (deepB m) := rfl
    rw [e0]
    clear e0
    obtain ⟨res, hres⟩ : ∃ r, x.ks.any (deepB m) = r := ⟨_, rfl⟩
    have HR : Hid (x.ks.any (deepB m) = res) := hres
    rw [hres]
    clear hres
    unfold Nd.v
    go_enter Tryz.func40, Tryz.ntmps40
    go_wp2
    go_loopg [12] (x.ks.length + 1) (fun gk i wr => ∃ k : Nat, i = .int .i64 (k : Nat) ∧ Hid (gk + k = x.ks.length + 1) ∧ Hid ((x.ks.take k).any (deepB m) = false) ∧ Below w.heap.size w wr)
    case atStart => exact ⟨0, rfl, by show _ = _; omega, by show _ = _; simp, (Below.refl _ w).alloc (Nat.le_refl _) _⟩
    case round =>
      obtain ⟨k, rfl, hg, hF, bel⟩ := hrel
      have hg' := hg.out
      by_cases hkl : k < x.ks.length
      · obtain ⟨rfl, hSx, hbx⟩ := px (by omega)
        have zk := x.kid_size hkl
        have HT : Hid ((x.ks.take (k + 1)).any (deepB m) = deepB m x.ks[k]) := by
          show _ = _
          rw [List.take_succ_eq_append_getElem hkl, List.any_append, hF.out]
          simp
        have HA : Hid (deepB m x.ks[k] = true → x.ks.any (deepB m) = true) := fun e => List.any_eq_true.2 ⟨_, List.getElem_mem hkl, e⟩
        have i1 : (k : Int) < (x.ks.length : Int) := by omega
        have hw2 : IntKind.i64.wrap ((k : Int) + 1) = ((k + 1 : Nat) : Int) := by rw [IntKind.wrap_i64]; omega
        obtain ⟨⟨u1, u2, u3, u4⟩, gx⟩ := kid_at (qx k hkl) (rx k hkl) hbx bel
        have ihk := fun W (b : Below wr.heap.size wr W) => ih x.ks[k] W S (fx k) (by omega) (gx.bel b) (by omega)
        generalize x.ks[k] = xk at *
        generalize fx k = fxk at *
        obtain ⟨adk, ck, rfl⟩ := gx.sl
        unfold Nd.v at ihk
        have bA := (Below.refl wr.heap.size wr).alloc (Nat.le_refl _) (Obj.cells #[Value.int IntKind.i64 xk.k, Value.string xk.t, Value.int IntKind.i64 xk.n, Value.slice adk xk.ks.length ck] 62)
        have C := ihk _ bA
        cases hd : deepB m xk with
        | true =>
          rw [hd] at C
          obtain rfl : true = res := by rw [← HR.out, HA.out hd]
          go_wp2_with fail
          go_at_call 40
          refine C.mono ?_
          rintro e W1 ⟨rfl, b1⟩
          go_wp2
          go_ret
          exact ⟨rfl, bel.trans ((bA.trans (b1.mono (by simp))).mono bel.size)⟩
        | false =>
          rw [hd] at C
          go_wp2_with fail
          go_at_call 40
          refine C.mono ?_
          rintro e W1 ⟨rfl, b1⟩
          go_wp2
          go_roundg (gk - 1)
          case rel => exact ⟨k + 1, rfl, by show _ = _; omega, by show _ = _; rw [HT.out, hd], bel.trans ((bA.trans (b1.mono (by simp))).mono bel.size)⟩
          case measure => omega
      · have e : x.ks.take k = x.ks := List.take_of_length_le (by omega)
        have hF' := hF.out
        rw [e] at hF'
        have i1 : ¬ (k : Int) < (x.ks.length : Int) := by omega
        obtain rfl : false = res := by rw [← HR.out, hF']
        clear e hF'
        go_wp2
        go_ret
        exact ⟨rfl, bel⟩
end Go.Proofs.YtfehmdfamndcaaaGreatDoor
