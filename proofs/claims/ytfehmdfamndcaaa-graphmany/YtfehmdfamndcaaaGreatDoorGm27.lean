/- Own text. Package graph: visit. -/
import Derived.Test.YtfehmdfamndcaaaGreatDoorGm26
import Derived.Test.YtfehmdfamndcaaaGreatDoorGm04
namespace Go.Proofs.YtfehmdfamndcaaaGreatDoor
open Go.RowKit Go.MapKept
set_option linter.unusedVariables false
set_option linter.unusedSimpArgs false

/-- what Module answers at the files of a table. -/
structure MOk (L : Fls) (MR : ByteArray → Nd) : Prop where
  m : ∀ (W : World) (file : ByteArray), Env W → hasP file L = true → Calls Tryz.prog 27 #[.string (getP file L)] W (AnsF W ⟨MR (getP file L), 0, 0⟩)
  z : ∀ file, hasP file L = true → (MR (getP file L)).ks.length ≤ 1048576
  t : ∀ file, hasP file L = true → ∀ y ∈ (MR (getP file L)).ks, y.t.size ≤ 1048576
set_option maxRecDepth 100000 in
set_option maxHeartbeats 1000000 in
theorem visit_any {L : Fls} {MR : ByteArray → Nd} {c : Lw} {d : Nat} (HV : VisC L MR c d) (HM : MOk L MR) : VisC L MR c (d + 1) := by
  intro W S file h hle hd hh hf
  obtain ⟨W0, hW0⟩ : ∃ X, W.alloc (Obj.cells #[Value.string ⟨#[]⟩, Value.string ⟨#[]⟩, Value.int IntKind.i64 0] 54) = X := ⟨_, rfl⟩
  have b0 : Below W.heap.size W W0 := by rw [← hW0]; exact (Below.refl _ _).alloc (Nat.le_refl _) _
  have mf : W0.heap[W.heap.size]? = some (.cells #[Value.string ⟨#[]⟩, Value.string ⟨#[]⟩, Value.int IntKind.i64 0] 54 (0, 0)) := by rw [← hW0]; exact hnew _ rfl
  have s0 : W.heap.size + 1 ≤ W0.heap.size := by rw [← hW0]; simp
  have hl := h.ltl
  have hbl := h.bl
  have h0 := h.bel b0
  obtain ⟨e0, e1, e2, e3⟩ := h0.cells
  have CR := Vf.read_any W0 c.tb c.mb L file h0.tab (by omega)
  rw [hh] at CR
  go_enter Tryz.func19, Tryz.ntmps19
  go_wp2_with fail
  go_at_call 26
  refine CR.mono ?_
  rintro e W1 ⟨rfl, b1⟩
  have bw1 : Below W.heap.size W W1 := b0.trans (b1.mono b0.size)
  have mf1 := (b1.block _ (by omega)).trans mf
  have s1 := b1.size
  clear e0 e1 e2 e3 CR hW0 mf
  have h1 := h.bel bw1
  have CM := HM.m W1 file h1.env hh
  have zx := HM.z file hh
  have zt := HM.t file hh
  obtain ⟨x, hx⟩ : ∃ x, MR (getP file L) = x := ⟨_, rfl⟩
  have HX : Hid (MR (getP file L) = x) := hx
  rw [hx] at CM zx zt
  clear hx
  go_wp2_with fail
  go_at_call 27
  refine CM.mono ?_
  rintro e W2 ⟨ad, cc, rfl, hLA, b2⟩
  have bw2 : Below W.heap.size W W2 := bw1.trans (b2.mono bw1.size)
  have mf2 := (b2.block _ (by omega)).trans mf1
  have s2 := b2.size
  simp only at hLA
  obtain ⟨W3, hW3⟩ : ∃ X, W2.alloc (Obj.cells #[Value.int IntKind.i64 x.k, Value.string x.t, Value.int IntKind.i64 x.n, Value.slice ad x.ks.length cc] 62) = X := ⟨_, rfl⟩
  have b3 : Below W2.heap.size W2 W3 := by rw [← hW3]; exact (Below.refl _ _).alloc (Nat.le_refl _) _
  have mN3 : W3.heap[W2.heap.size]? = some (.cells #[Value.int IntKind.i64 x.k, Value.string x.t, Value.int IntKind.i64 x.n, Value.slice ad x.ks.length cc] 62 (0, 0)) := by rw [← hW3]; exact hnew _ rfl
  have s3 : W2.heap.size + 1 ≤ W3.heap.size := by rw [← hW3]; simp
  have bw3 : Below W.heap.size W W3 := bw2.trans (b3.mono bw2.size)
  have mf3 := (b3.block _ (by omega)).trans mf2
  have CQ := preq_any x W3 _ (.slice ad x.ks.length cc) (hLA.bel b3) (by omega) (fun y hy => by have := zt y hy; omega)
  unfold Nd.v at CQ
  obtain ⟨⟨n0, n1, n2, n3⟩, _⟩ := box4 mN3
  obtain ⟨rs, hrs⟩ : ∃ rs, reqsL x = rs := ⟨_, rfl⟩
  have HRS : Hid (reqsL x = rs) := hrs
  have HRL : Hid (rs.length ≤ 1048576 ∧ ∀ q ∈ rs, q.t.size ≤ 1048576) := by
    refine ⟨?_, fun q hq => ?_⟩
    · rw [← hrs]; exact Nat.le_trans (reqsL_len x) zx
    · rw [← hrs] at hq
      obtain ⟨y, hy, e⟩ := reqsL_tx x q hq
      rw [e]; exact zt y hy
  rw [hrs] at CQ
  clear hrs
  go_wp2_with fail
  go_at_call 28
  refine CQ.mono ?_
  rintro e W4 ⟨rv, rfl, hrv, b4⟩
  obtain ⟨av, cv, rfl⟩ := Pa.row_form hrv
  have bw4 : Below W.heap.size W W4 := bw3.trans (b4.mono bw3.size)
  have mf4 := (b4.block _ (by omega)).trans mf3
  have mN4 := (b4.block _ (by omega)).trans mN3
  have s4 := b4.size
  clear n0 n1 n2 n3 CQ CM hW3 mN3 mf1 mf2 mf3
  have h4 := h.bel bw4
  obtain ⟨avm, cvm, hvm⟩ := Pa.row_form h.row
  obtain ⟨e0, e1, e2, e3⟩ := h4.cells
  rw [hvm] at e1
  obtain ⟨k1, m1⟩ := h4.drew.nu
  obtain ⟨W5, hrun, hmf, hgr⟩ := m1.update keyTX under_nu file trivial ((S.ms.length : Nat) : Int)
  have U := h4.drew.upN hgr ⟨_, hmf⟩
  simp only [kS, vI] at hrun
  have h5 := U.1
  have bz2 : Below W0.heap.size W0 W2 := b1.trans (b2.mono b1.size)
  have bz3 : Below W0.heap.size W0 W3 := bz2.trans (b3.mono bz2.size)
  have bz4 : Below W0.heap.size W0 W4 := bz3.trans (b4.mono bz3.size)
  have F5 : Fr W0 c S W5 { S with num := upd S.num file ((S.ms.length : Nat) : Int) } := (Fr.of bz4).drew.trans U.2
  have hNk : W2.heap.size < W4.heap.size := by omega
  have fg0 : Fg c S W.heap.size := h.fg (Nat.le_refl _)
  have fgN : Fg c S W2.heap.size := h.fg bw2.size
  have hgs : W4.heap.size ≤ W5.heap.size := hgr.size
  have mf5 := (hgr.block W.heap.size (by show _ < W4.heap.size; omega) (fun e => fg0.n (by simpa using e))).trans mf4
  have mN5 := (hgr.block W2.heap.size (by exact hNk) (fun e => fgN.n (by simpa using e))).trans mN4
  have hbn := h.bn
  have rq5 : RqO W5 c.B (.slice av rs.length cv) rs := row_mono10 (row_off hrv (fun g hg => by
    have h2 := row_lt hrv g hg
    have hm1 : c.nb < W.heap.size := by obtain ⟨n, m⟩ := h.nu; exact m.lt
    have := bw3.size
    exact hgr.block g (by exact h2.2) (fun e => by have : g = c.nb := by simpa using e
                                                   omega))) (by have := bw3.size; omega)
  have rqf : ∀ g, (Value.slice av rs.length cv).ownBlock = some g → Fg c { S with num := upd S.num file ((S.ms.length : Nat) : Int) } g ∧ W0.heap.size ≤ g := fun g hg => by
    have h2 := row_lt hrv g hg
    have := bw3.size
    have := bz3.size
    have q := h.fg (k := g) (by omega)
    exact ⟨⟨q.l, q.n, q.g, q.v, q.r⟩, by omega⟩
  clear m1 hmf
  go_wp2
  go_region
  clear e0 e1 e2 e3 hrun
  obtain ⟨i0, hi0, hz0, hz1, hz2⟩ := info_parts info_md
  obtain ⟨⟨e0, e1, e2, e3⟩, g0, g1, g2, g3⟩ := box4 h5.l
  simp only [hvm] at e1
  obtain ⟨⟨n0, n1, n2, n3⟩, _⟩ := box4 mN5
  have own5 := h5.drew.row
  simp only [hvm] at own5
  obtain ⟨m, hm⟩ : ∃ m : Md, m = ⟨file, x.k, x.t, x.n, .slice ad x.ks.length cc, .slice av rs.length cv, rs⟩ := ⟨_, rfl⟩
  have HA : Hid (∀ (gg cap : Nat) (W6 : World), W6.ownsRow c.B 65 6 (.slice (some ⟨gg, 0, none⟩) (S.ms.length + 1) cap) (S.ms.length + 1) (mdL S.ms ++ [.string file, .int .i64 x.k, .string x.t, .int .i64 x.n, .slice ad x.ks.length cc, .slice av rs.length cv]) → (W5.drew.alloc (Obj.cells #[.string file, .int .i64 x.k, .string x.t, .int .i64 x.n, .slice ad x.ks.length cc, .slice av rs.length cv] 65)).grownBy W6 (Value.slice avm S.ms.length cvm).ownBlock → ((Value.slice avm S.ms.length cvm).ownBlock = some gg ∨ gg = W5.heap.size + 1) →
      (W6.cell? ⟨c.lb, 1, none⟩ = some (Value.slice avm S.ms.length cvm) ∧ W6.frozen? ⟨c.lb, 1, none⟩ = false) ∧ ∃ S1, Ld L (W6.setCell ⟨c.lb, 1, none⟩ (.slice (some ⟨gg, 0, none⟩) (S.ms.length + 1) cap)) c S1 ∧ Fr W0 c S (W6.setCell ⟨c.lb, 1, none⟩ (.slice (some ⟨gg, 0, none⟩) (S.ms.length + 1) cap)) S1 ∧ S1.ms[S.ms.length]? = some m ∧ S1.ms.length = S.ms.length + 1 ∧ (∀ S'' f, Lop L MR file S.ms.length 0 S1 S'' f → Vis L MR file S S'' f) ∧ (W6.setCell ⟨c.lb, 1, none⟩ (.slice (some ⟨gg, 0, none⟩) (S.ms.length + 1) cap)).heap[W.heap.size]? = some (.cells #[Value.string ⟨#[]⟩, Value.string ⟨#[]⟩, Value.int IntKind.i64 0] 54 (0, 0))) := fun gg cap W6 hown hgrow hat => by
    rw [← hvm] at hgrow hat
    have bA : Below W5.heap.size W5 (W5.drew.alloc (Obj.cells #[.string file, .int .i64 x.k, .string x.t, .int .i64 x.n, .slice ad x.ks.length cc, .slice av rs.length cv] 65)) := ((Below.refl _ _).drew).alloc (Nat.le_refl _) _
    have sA : (W5.drew.alloc (Obj.cells #[.string file, .int .i64 x.k, .string x.t, .int .i64 x.n, .slice ad x.ks.length cc, .slice av rs.length cv] 65)).heap.size = W5.heap.size + 1 := by simp
    have A := h5.app F5 m hle (by rw [hm]; exact rq5) (fun g hg => (rqf g (by rw [hm] at hg; exact hg)).1) (fun g hg => (rqf g (by rw [hm] at hg; exact hg)).2) bA (by rw [hm]; exact hown) hgrow (by rw [sA]; exact hat)
    have hlt5 := h5.ltl
    have l6 := (hgrow.block c.lb (by rw [sA]; omega) (fun e => h.a1 e.symm)).trans ((bA.block _ hlt5).trans h5.l)
    obtain ⟨⟨_, c1, _, _⟩, _, c2, _, _⟩ := box4 l6
    refine ⟨⟨by rw [c1]; exact congrArg some hvm, c2⟩, _, A.1, A.2, ?_, by simp, fun S'' f hL => .mk m _ (by rw [hm]) (by rw [hm, HX.out, HRS.out]) hL, ?_⟩
    · simp
    · refine (Below.heap_setCell _ _ _ _ (by have := fg0.l; omega)).trans ((hgrow.block _ (by rw [sA]; omega) (fun e => fg0.v e.symm)).trans ((bA.block _ (by omega)).trans mf5))
  have HL5 : c.lb < W5.heap.size := h5.ltl
  have HB5 : c.B ≤ W5.heap.size := by omega
  clear U hgr h5 F5 mf5 mN5 rq5 rqf fg0 fgN mN4 mf4 h4 hrv hLA
  go_wp2_with fail
  go_region_law (first
    | (refine step_append_lies _ (by rfl) _ _ _ (by rfl) c.B 65 i0 _ 6 96 Tryz.underlying29 hi0 hz0 hz1 hz2 rfl (by omega) _ S.ms.length (mdL S.ms) (by rfl) (own5.alloc _) ⟨W5.heap.size, 0, none⟩ 1 1 [.string file, .int .i64 x.k, .string x.t, .int .i64 x.n, .slice ad x.ks.length cc, .slice av rs.length cv] (by rfl) (by rfl) (World.news_of_block (cs := #[.string file, .int .i64 x.k, .string x.t, .int .i64 x.n, .slice ad x.ks.length cc, .slice av rs.length cv]) (t := 65) (fr := (0, 0)) (hnew _ (by simp))) (by simp [Value.oneCell']) (by omega) (by unfold maxLen; omega) (by omega) (by simp; omega) (W5.heap.size + 1) (by simp) ?_
       intro gg cap W6 hown6 hgrow hat hlt6
       obtain ⟨⟨w1, w2⟩, hS1⟩ := HA.out gg cap W6 hown6 hgrow hat))
  all_goals
    obtain ⟨S1, hL1, hF1, hm1, hlen1, hVis, mfz⟩ := hS1
    have HVis : Hid (∀ S'' f, Lop L MR file S.ms.length 0 S1 S'' f → Vis L MR file S S'' f) := hVis
    have HL1 : Hid (S1.ms.length = S.ms.length + 1) := hlen1
    obtain ⟨Wz, hWz⟩ : ∃ X, W6.setCell ⟨c.lb, 1, none⟩ (.slice (some ⟨gg, 0, none⟩) (S.ms.length + 1) cap) = X := ⟨_, rfl⟩
    rw [hWz] at hL1 hF1 mfz
    have hrv1 : m.rv = .slice av rs.length cv := by rw [hm]
    have HR1 : Hid (m.rs = rs) := by rw [hm]; rfl
    clear hVis hlen1 w1 w2 hown6 hgrow hat hlt6 HA own5 e0 e1 e2 e3 g0 g1 g2 g3 n0 n1 n2 n3 hz0 hz1 hz2 hi0 hm
    go_wp2
    go_loopw [63] (fun i wr => ∃ (k : Nat) (Si : Sx) (mi : Md), i = .int .i64 (k : Nat) ∧ k ≤ rs.length ∧ Ld L wr c Si ∧ Fr W0 c S wr Si ∧ Si.ms[S.ms.length]? = some mi ∧ mi.rv = .slice av rs.length cv ∧ Hid (mi.rs.length = rs.length) ∧ Hid (∀ q ∈ mi.rs, q.t.size ≤ 1048576) ∧ Hid (S.ms.length + 1 ≤ Si.ms.length) ∧ wr.heap[W.heap.size]? = some (.cells #[Value.string ⟨#[]⟩, Value.string ⟨#[]⟩, Value.int IntKind.i64 0] 54 (0, 0)) ∧ Hid (∀ S'' f, Lop L MR file S.ms.length k Si S'' f → Vis L MR file S S'' f)) (fun i _ => rs.length - (intOf i).toNat)
    case atStart => exact ⟨0, S1, m, rfl, by omega, hL1, hF1, hm1, hrv1, by rw [HR1.out]; rfl, by rw [HR1.out]; exact HRL.out.2, Nat.le_of_eq HL1.out.symm, mfz, HVis⟩
    case round =>
      clear hWz hL1 hF1 hm1 mfz hrv1 HR1 HVis HL1
      obtain ⟨k, Si, mi, rfl, hk, hL, hF, hmi, hrvi, HRi, HTi, HLe, mz, HLop⟩ := hrel
      have HK : Hid (65 ≤ d + Si.ms.length) := by have := HLe.out; show _ ≤ _; omega
      have f00 : Fg c S W.heap.size := h.fg (Nat.le_refl _)
      have fgi : Fg c Si W.heap.size := hF.fg (by omega) f00
      have szi := hF.size
      have hli := hL.ltl
      by_cases hkl : k < rs.length
      · have rqi : wr.ownsRow c.B 67 4 (.slice av rs.length cv) rs.length (rqL mi.rs) := by
          have := hL.rq _ mi hmi
          unfold RqO at this
          rw [hrvi, HRi.out] at this
          exact this
        obtain ⟨g, cv', hv', _, _⟩ := Pa.row_some rqi (by omega)
        obtain ⟨rfl, rfl⟩ : av = some ⟨g, 0, none⟩ ∧ cv = cv' := by
          simp only [Value.slice.injEq, true_and] at hv'
          exact hv'
        clear hv'
        have hkm : k < mi.rs.length := by rw [HRi.out]; exact hkl
        obtain ⟨q, hq⟩ : ∃ q, mi.rs[k]? = some q := ⟨_, List.getElem?_eq_getElem hkm⟩
        have HQ : Hid (mi.rs[k]? = some q) := hq
        have cl : ∀ j, j < 4 → wr.cell? ⟨g, k * 4 + j, none⟩ = q.cs[j]? := fun j hj => by
          rw [World.ownsRow.cellAt rqi _ (by omega), rqL_get mi.rs k hkm j hj]
          rw [List.getElem?_eq_getElem hkm] at hq
          injection hq with hq
          rw [hq]
        have u0 : wr.cell? ⟨g, k * 4, none⟩ = some (.string q.t) := cl 0 (by omega)
        have u1 : wr.cell? ⟨g, k * 4 + 1, none⟩ = some (.bool q.ty) := cl 1 (by omega)
        have u2 : wr.cell? ⟨g, k * 4 + 2, none⟩ = some (.int .i64 (q.it : Nat)) := cl 2 (by omega)
        have u3 : wr.cell? ⟨g, k * 4 + 3, none⟩ = some (.int .i64 q.tg) := cl 3 (by omega)
        have hqt : q.t.size ≤ 1048576 := HTi.out q (List.mem_of_getElem? hq)
        obtain ⟨WB, hWB⟩ : ∃ X, wr.alloc (Obj.cells #[Value.string q.t, Value.bool q.ty, Value.int IntKind.i64 (q.it : Nat), Value.int IntKind.i64 q.tg] 67) = X := ⟨_, rfl⟩
        have bB : Below wr.heap.size wr WB := by rw [← hWB]; exact (Below.refl _ _).alloc (Nat.le_refl _) _
        have mB : WB.heap[wr.heap.size]? = some (.cells #[Value.string q.t, Value.bool q.ty, Value.int IntKind.i64 (q.it : Nat), Value.int IntKind.i64 q.tg] 67 (0, 0)) := by rw [← hWB]; exact hnew _ rfl
        obtain ⟨⟨v0, v1, v2, v3⟩, _⟩ := box4 mB
        have CA := ask_any HV (hL.bel bB) HK.out (file, q.t) (by simp only; omega)
        unfold qv at CA
        simp only at CA
        clear cl hq hkm
        go_wp2_with fail
        go_at_call 29
        refine CA.mono ?_
        rintro e W7 ⟨n, S', f, rfl, hAsk, hL7, hF7, hOk⟩
        obtain ⟨fa, fb, fd, hfv⟩ : ∃ a b d, fv f = .agg #[.string a, .string b, .int .i64 d] := by cases f <;> exact ⟨_, _, _, rfl⟩
        have HFV : Hid (fv f = .agg #[.string fa, .string fb, .int .i64 fd]) := hfv
        rw [hfv]
        clear u0 u1 u2 u3 v0 v1 v2 v3 CA hWB
        have sB := bB.size
        have mz7 := (hF7.block _ (by omega) fgi.l fgi.n fgi.g fgi.v).trans ((bB.block _ (by omega)).trans mz)
        have F7 : Fr W0 c S W7 S' := (hF.trans (Fr.of (S := Si) bB)).trans hF7
        have bA : Below W7.heap.size W7 (W7.alloc (Obj.cells #[Value.string fa, Value.string fb, Value.int IntKind.i64 fd] 54)) := (Below.refl _ _).alloc (Nat.le_refl _) _
        have mA : (W7.alloc (Obj.cells #[Value.string fa, Value.string fb, Value.int IntKind.i64 fd] 54)).heap[W7.heap.size]? = some (.cells #[Value.string fa, Value.string fb, Value.int IntKind.i64 fd] 54 (0, 0)) := heap_alloc_new _ _
        obtain ⟨W8, hW8⟩ : ∃ X, W7.alloc (Obj.cells #[Value.string fa, Value.string fb, Value.int IntKind.i64 fd] 54) = X := ⟨_, rfl⟩
        rw [hW8] at bA mA
        have h8 := hL7.bel bA
        have F8 : Fr W0 c S W8 S' := F7.trans (Fr.of (S := S') bA)
        have sz7 := hF7.size
        have mz8 := (bA.block _ (by omega)).trans mz7
        have fg8 : Fg c S' W.heap.size := F8.fg (by omega) f00
        have NQ := fun W => ft_neq W fa fb fd
        obtain ⟨N, hN⟩ : ∃ N, W7.heap.size = N := ⟨_, rfl⟩
        rw [hN] at mA
        obtain ⟨⟨y0, y1, y2⟩, _, _, _⟩ := t3 mA
        obtain ⟨⟨q0, q1, q2⟩, g0, g1, g2⟩ := t3 mz8
        cases f with
        | some x =>
          have hxx := hOk x rfl
          have hz : (!(fa.toList == [] && fb.toList == [] && fd == 0)) = true := by
            unfold fv at hfv
            simp only [Value.agg.injEq, Array.mk.injEq, List.cons.injEq, Value.int.injEq, Value.string.injEq, true_and, and_true] at hfv
            have : (fd == 0) = false := by rw [← hfv.2.2]; simpa using hxx
            rw [this]; simp
          rw [hz] at NQ
          clear hfv hz hxx
          go_wp2
          have P := put3 h8 ((Fr.of b0).trans F8) (k := W.heap.size) (Nat.le_refl _) fg8 (by omega) (Value.string fa) (Value.string fb) (Value.int IntKind.i64 fd)
          refine bodyPost_ret (res_vis Tryz.results19 (t3_set (Value.string fa) (Value.string fb) (Value.int IntKind.i64 fd) (b := W.heap.size) mz8) rfl) rfl ⟨S', some x, by rw [HFV.out], HLop.out _ _ (.bad hmi HQ.out hAsk), P.1, P.2, hOk⟩
        | none =>
          have hz : (!(fa.toList == [] && fb.toList == [] && fd == 0)) = false := by
            unfold fv at hfv
            simp only [Value.agg.injEq, Array.mk.injEq, List.cons.injEq, Value.int.injEq, Value.string.injEq, true_and, and_true] at hfv
            obtain ⟨rfl, rfl, rfl⟩ := hfv
            rw [ByteArray.toList_eq]; rfl
          rw [hz] at NQ
          have hle7 := HLe.out
          have hmi8 : S'.ms[S.ms.length]? = some mi := (hF7.ext _ (by omega)).trans hmi
          have rq8 := h8.rq _ mi hmi8
          unfold RqO at rq8
          rw [hrvi, HRi.out] at rq8
          have z0 := World.ownsRow.frozenAt rq8 (k * 4 + 3)
          have z1 : ∃ u, W8.cell? ⟨g, k * 4 + 3, none⟩ = some u := by
            refine ⟨(rqL mi.rs)[k * 4 + 3]'(by rw [rqL_length, HRi.out]; omega), ?_⟩
            rw [World.ownsRow.cellAt rq8 _ (by omega)]
            exact List.getElem?_eq_getElem _
          obtain ⟨u, z1⟩ := z1
          have ST := h8.setT F8 (i := k) (n := n) hmi8 (Nat.le_refl _) (g := g) (cap := cv) (by rw [hrvi, HRi.out])
          have hgW : W0.heap.size ≤ g := F8.new _ mi (Nat.le_refl _) hmi8 g (by rw [hrvi]; rfl)
          have mz9 := (Below.heap_setCell W8 ⟨g, k * 4 + 3, none⟩ (.int .i64 n) W.heap.size (by show _ ≠ g; omega)).trans mz8
          have hl7 := F8.len
          have HLe' : Hid (S.ms.length + 1 ≤ (setT S' S.ms.length k n).ms.length) := by
            have := hF7.len
            unfold setT
            simp only [List.length_modify, Hid]
            omega
          clear hfv hz hle7
          have hrl := HRL.out.1
          go_wp2
          go_roundw
          case rel => exact ⟨k + 1, setT S' S.ms.length k n, _, by simp, by omega, ST.1, ST.2, setT_get hmi8, hrvi, by simp only [Hid, List.length_modify]; exact HRi.out, fun q' hq' => by
              obtain ⟨j, hj⟩ := List.mem_iff_getElem?.1 hq'
              simp only [List.getElem?_modify] at hj
              cases hq2 : mi.rs[j]? with
              | none => rw [hq2] at hj; cases hj
              | some q2 =>
                rw [hq2] at hj
                injection hj with hj
                have ht := HTi.out q2 (List.mem_of_getElem? hq2)
                rw [← hj]
                by_cases e : k = j
                · simp only [e, if_true]; exact ht
                · simp only [e, if_false]; exact ht, HLe', mz9, fun S'' f hh => HLop.out _ _ (.go hmi HQ.out hAsk hh)⟩
          case measure => simp [intOf]; omega
      · obtain ⟨⟨q0, q1, q2⟩, g0, g1, g2⟩ := t3 mz
        have hdone : mi.rs.length ≤ k := by rw [HRi.out]; omega
        have HD : Hid (mi.rs.length ≤ k) := hdone
        clear hdone
        go_wp2
        have P := put3 hL ((Fr.of b0).trans hF) (k := W.heap.size) (Nat.le_refl _) fgi (by omega) (Value.string ⟨#[]⟩) (Value.string ⟨#[]⟩) (Value.int IntKind.i64 0)
        refine bodyPost_ret (res_vis Tryz.results19 (t3_set (Value.string ⟨#[]⟩) (Value.string ⟨#[]⟩) (Value.int IntKind.i64 0) (b := W.heap.size) mz) rfl) rfl ⟨Si, none, rfl, HLop.out _ _ (.done hmi HD.out), P.1, P.2, okf_none⟩
end Go.Proofs.YtfehmdfamndcaaaGreatDoor
