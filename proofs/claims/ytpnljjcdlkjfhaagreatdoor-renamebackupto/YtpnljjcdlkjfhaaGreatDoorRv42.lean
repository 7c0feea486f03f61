/- Own text. The document's linker at one module. What every statement of the stage begins with holds: the chapter's examples. -/
import Derived.Test.YtpnljjcdlkjfhaaGreatDoorRv41
set_option linter.unusedVariables false
set_option linter.unusedSimpArgs false
namespace Go.Proofs.YtpnljjcdlkjfhaaGreatDoor
open Go.RowKit
section
variable {W : World}
set_option maxRecDepth 100000 in
set_option maxHeartbeats 8000000 in
theorem link_src {gm cm g o c : Nat} (h : MdAt W 0 gm g o c) : Calls Tryz.prog 29 #[.agg #[.slice (some ⟨gm, 0, none⟩) 1 cm]] W fun e w' => ∃ gs cs gE cE gt ct ge ce gf cf, e = .returned (.tuple #[lnV gm cm gs cs gE cE (.slice (some ⟨gf, 0, none⟩) 1 cf), .int .i64 0, .string ⟨#[]⟩, .int .i64 0]) ∧ ScAt w' W.heap.size gs gt ct ∧ EsAt w' W.heap.size gE ge ce ∧ Below W.heap.size W w' := by
  obtain ⟨i0, hi0, hz0, hz1, hz2⟩ := info_parts info_scR
  obtain ⟨j0, hj0, hy0, hy1, hy2⟩ := info_parts info_esR
  obtain ⟨f0, hf0, hx0, hx1, hx2⟩ := info_parts info_fsR
  have IS : Hid (i0.zero = some (.agg #[.slice none 0 0, .slice none 0 0]) ∧ i0.size = 2 ∧ i0.bytes = 48) := ⟨hz0, hz1, hz2⟩
  have IE : Hid (j0.zero = some (.agg #[.slice none 0 0, .slice none 0 0, .slice none 0 0, .slice none 0 0]) ∧ j0.size = 4 ∧ j0.bytes = 96) := ⟨hy0, hy1, hy2⟩
  have IF : Hid (f0.zero = some (.slice none 0 0) ∧ f0.size = 1 ∧ f0.bytes = 24) := ⟨hx0, hx1, hx2⟩
  have II : Hid (Tryz.prog.info? 98 = some i0 ∧ Tryz.prog.info? 106 = some j0 ∧ Tryz.prog.info? 108 = some f0) := ⟨hi0, hj0, hf0⟩
  clear hi0 hz0 hz1 hz2 hj0 hy0 hy1 hy2 hf0 hx0 hx1 hx2
  obtain ⟨WA, hWA⟩ : ∃ X, ((W.alloc (.cells #[.slice (some ⟨gm, 0, none⟩) 1 cm] 38)).alloc (lkO (.slice none 0 0) (.slice none 0 0) (.slice none 0 0) (.slice none 0 0))).alloc (lkO (.slice none 0 0) (.slice none 0 0) (.slice none 0 0) (.slice none 0 0)) = X := ⟨_, rfl⟩
  have bA : Below W.heap.size W WA := by rw [← hWA]; exact ((bel_a _ _).alloc (by simp <;> omega) _).alloc (by simp <;> omega) _
  have gA : WA.heap[W.heap.size]? = some (.cells #[.slice (some ⟨gm, 0, none⟩) 1 cm] 38 (0, 0)) := by rw [← hWA]; exact hold _ (by simp <;> omega) (hold _ (by simp <;> omega) (hnew _ rfl))
  have zA : WA.heap[W.heap.size + 1]? = some (lkO (.slice none 0 0) (.slice none 0 0) (.slice none 0 0) (.slice none 0 0)) := by rw [← hWA]; exact hold _ (by simp <;> omega) (hnew _ (by simp))
  have lA : WA.heap[W.heap.size + 1 + 1]? = some (lkO (.slice none 0 0) (.slice none 0 0) (.slice none 0 0) (.slice none 0 0)) := by rw [← hWA]; exact hnew _ (by simp)
  obtain ⟨W0, hW0⟩ : ∃ X, (((WA.setCell ⟨W.heap.size + 1 + 1, 0, none⟩ (.slice (some ⟨gm, 0, none⟩) 1 cm)).setCell ⟨W.heap.size + 1 + 1, 1, none⟩ (.slice none 0 0)).setCell ⟨W.heap.size + 1 + 1, 2, none⟩ (.slice none 0 0)).setCell ⟨W.heap.size + 1 + 1, 3, none⟩ (.slice none 0 0) = X := ⟨_, rfl⟩
  have L0 : Hid (LkS W W0 gm cm (.slice none 0 0) (.slice none 0 0) (.slice none 0 0)) := by
    show LkS _ _ _ _ _ _ _
    rw [← hW0]
    exact ⟨(((((Kpt.of bA).set 0 _).set 1 _).set 2 _).set 3 _), (far4 (by omega) _ _ _ _).trans gA, (far4 (by omega) _ _ _ _).trans zA, box4_set _ _ _ _ lA⟩
  obtain ⟨⟨a0, a1, a2, a3⟩, e0, e1, e2, e3⟩ := box4 lA
  have ag : WA.cell? ⟨W.heap.size, 0, none⟩ = some (.slice (some ⟨gm, 0, none⟩) 1 cm) := by simp [World.cell?, gA]
  have HM : Hid (∀ X s e f, LkS W X gm cm s e f → MdAt X 0 gm g o c) := fun X s e f k => k.md h
  obtain ⟨c0, ⟨x0, x1, x2, x3⟩, _⟩ := L0.out.cells
  have hgm : gm < W.heap.size := h.lt
  clear h bA gA zA lA
  go_enter Tryz.func29, Tryz.ntmps29
  go_wp2_with fail
  go_loopw [7] (fun i wr => ∃ k : Nat, i = .int .i64 (k : Nat) ∧ k ≤ 1 ∧ Hid (k = 0 → wr = W0) ∧ Hid (k = 1 → ∃ gs cs gE cE gt ct ge ce, LkS W wr gm cm (.slice (some ⟨gs, 0, none⟩) 1 cs) (.slice (some ⟨gE, 0, none⟩) 1 cE) (.slice none 0 0) ∧ ScAt wr (W.heap.size + 3) gs gt ct ∧ EsAt wr (W.heap.size + 3) gE ge ce)) (fun i _ => 1 - (intOf i).toNat)
  case atStart => exact ⟨0, rfl, by omega, fun _ => rfl, fun h => absurd h (by decide)⟩
  case round =>
    obtain ⟨k, rfl, hk, h0, h1⟩ := hrel
    clear hW0 hWA a0 a1 a2 a3 e0 e1 e2 e3 ag c0 x0 x1 x2 x3
    obtain rfl | rfl : k = 0 ∨ k = 1 := by omega
    · have hw := (h0.out rfl).symm
      subst hw
      clear h0 h1
      obtain ⟨c0, ⟨x0, x1, x2, x3⟩, _⟩ := L0.out.cells
      have M0 : Hid _ := HM.out _ _ _ _ L0.out
      obtain ⟨m0, m1, m2, m3, m4, _, _, hd⟩ := M0.out
      obtain ⟨g2, o2, c2, a2, ca, _, hd⟩ := hd
      have D0 : Hid _ := hd
      clear hd
      go_wp2_with fail
      go_at_call 52
      refine (resolve_m5 D0.out).mono ?_
      rintro e W1 ⟨⟨gt, ct, rfl⟩, b1⟩
      have L1 : Hid _ := L0.out.bel b1
      have L2 : Hid (LkS W (W1.alloc (.cells #[.slice (some ⟨gt, 0, none⟩) 1 ct, .slice none 0 0] 98)) gm cm (.slice none 0 0) (.slice none 0 0) (.slice none 0 0)) := L1.out.bel (bel_a W1 _)
      have s2 : W.heap.size + 1 + 1 < W1.heap.size := L1.out.lt
      have z2 : (W1.alloc (.cells #[.slice (some ⟨gt, 0, none⟩) 1 ct, .slice none 0 0] 98)).cell? ⟨W1.heap.size, 0, none⟩ = some (.slice (some ⟨gt, 0, none⟩) 1 ct) := (boxTwo (hnew _ rfl)).1
      have z3 : (W1.alloc (.cells #[.slice (some ⟨gt, 0, none⟩) 1 ct, .slice none 0 0] 98)).cell? ⟨W1.heap.size, 1, none⟩ = some (.slice none 0 0) := (boxTwo (hnew _ rfl)).2
      clear b1 m0 m1 m2 m3 m4 c0 x0 x1 x2 x3
      obtain ⟨c0, ⟨x0, x1, x2, x3⟩, fz⟩ := L2.out.cells
      go_wp2_with (at_builtin; refine wpList_append_lies _ (by rfl) _ _ _ (by rfl) 0 98 i0 _ 2 48 Tryz.underlying39 II.out.1 IS.out.1 IS.out.2.1 IS.out.2.2 rfl (by omega) _ 0 [] (by rfl) (World.ownsRow_nil _ _ _ _) ⟨W1.heap.size + 1, 0, none⟩ 1 1 [.slice (some ⟨gt, 0, none⟩) 1 ct, .slice none 0 0] (by rfl) (by rfl) (World.news_of_block (cs := #[.slice (some ⟨gt, 0, none⟩) 1 ct, .slice none 0 0]) (t := 98) (fr := (0, 0)) (hnew _ (by simp))) (by simp [Value.oneCell']) (by omega) (by unfold maxLen; omega) (by omega) (by simp) _ rfl ?_; intro gs cs W3 r1 r2 r3 r4; have L3 : Hid _ := (L2.out.bel (bel_a _ (.cells #[.slice (some ⟨gt, 0, none⟩) 1 ct, .slice none 0 0] 98))).bel (grownP_bel r2); have S3 : Hid (ScAt W3 (W.heap.size + 3) gs gt ct) := sc_row r1 (new_row r3 (by simp; omega)); clear r1 r2 r3 r4; obtain ⟨_, ⟨_, y1, _, _⟩, fz⟩ := L3.out.cells; have f1 := fz 1; clear fz)
      have L4 : Hid (LkS W (W3.setCell ⟨W.heap.size + 1 + 1, 1, none⟩ (.slice (some ⟨gs, 0, none⟩) 1 cs)) gm cm (.slice (some ⟨gs, 0, none⟩) 1 cs) (.slice none 0 0) (.slice none 0 0)) := L3.out.set1 _
      have S4 : Hid (ScAt (W3.setCell ⟨W.heap.size + 1 + 1, 1, none⟩ (.slice (some ⟨gs, 0, none⟩) 1 cs)) (W.heap.size + 3) gs gt ct) := S3.out.keep fun k hk _ => Below.heap_setCell _ _ _ _ (by show k ≠ W.heap.size + 1 + 1; omega)
      clear z2 z3 c0 x0 x1 x2 x3 y1 f1 fz
      generalize W3.setCell ⟨W.heap.size + 1 + 1, 1, none⟩ (.slice (some ⟨gs, 0, none⟩) 1 cs) = W4 at *
      have M4 : Hid _ := HM.out _ _ _ _ L4.out
      obtain ⟨ra, rc, hr⟩ := M4.out.rq
      have HS : Hid (∀ X s e f, LkS W X gm cm s e f → e = .slice none 0 0 → (∀ k, k < W4.heap.size → k ≠ W.heap.size + 1 + 1 → X.heap[k]? = W4.heap[k]?) → (fun X : World => X.cell? ⟨W.heap.size + 1 + 1, 2, none⟩ = some (.slice none 0 0) ∧ X.cell? ⟨W.heap.size, 0, none⟩ = some (.slice (some ⟨gm, 0, none⟩) 1 cm) ∧ X.cell? ⟨gm, 1, none⟩ = some (.int .i64 68) ∧ X.cell? ⟨gm, 2, none⟩ = some (.string ⟨#[]⟩) ∧ X.cell? ⟨gm, 3, none⟩ = some (.int .i64 0) ∧ X.cell? ⟨gm, 4, none⟩ = some (.slice (some ⟨g, o, none⟩) 1 c) ∧ X.cell? ⟨gm, 5, none⟩ = some (.slice ra 0 rc)) X) := fun X s e f k he hk => by
        have m := HM.out _ _ _ _ k
        have hg : gm < W.heap.size := hgm
        refine ⟨he ▸ k.cells.2.1.2.2.1, k.cells.1, m.k, m.t, m.n, m.ks, ?_⟩
        exact (World.cell?_of_block (a := ⟨gm, 5, none⟩) (hk gm (by have := L4.out.lt; omega) (by omega))).trans hr
      have su := HS.out (World.drew W4) _ _ _ (L4.out.bel (below_dn 1)) rfl (fun _ _ _ => rfl)
      have d4 := M4.out.d
      obtain ⟨g2', o2', c2', a2', ca', _, D4⟩ := d4
      have DE : Hid _ := entries_m5 (c := c) (W := World.drew W4) (D4.of rfl rfl) (.slice ra 0 rc)
      clear D4 hr
      refine wp_region_U (u := 17) (S := fun X : World => X.cell? ⟨W.heap.size + 1 + 1, 2, none⟩ = some (.slice none 0 0) ∧ X.cell? ⟨W.heap.size, 0, none⟩ = some (.slice (some ⟨gm, 0, none⟩) 1 cm) ∧ X.cell? ⟨gm, 1, none⟩ = some (.int .i64 68) ∧ X.cell? ⟨gm, 2, none⟩ = some (.string ⟨#[]⟩) ∧ X.cell? ⟨gm, 3, none⟩ = some (.int .i64 0) ∧ X.cell? ⟨gm, 4, none⟩ = some (.slice (some ⟨g, o, none⟩) 1 c) ∧ X.cell? ⟨gm, 5, none⟩ = some (.slice ra 0 rc)) (by kernel_rfl) ?_
      change wpAnyU _ _ _ _ _ _ _ _ _ (World.drew _)
      refine uT 0 (.pointer (some ⟨W.heap.size + 1 + 1, 2, none⟩)) su ?_
      refine uT 1 (.slice none 0 0) su ?_
      refine uT 2 (.pointer (some ⟨W.heap.size, 0, none⟩)) su ?_
      refine uT 3 (.slice (some ⟨gm, 0, none⟩) 1 cm) su ?_
      refine uT 4 (.int .i64 0) su ?_
      refine uT 5 (.pointer (some ⟨gm, 0, none⟩)) su ?_
      refine uT 6 (.pointer (some ⟨gm, 1, none⟩)) su ?_
      refine uT 7 (.agg #[.int .i64 68, .string ⟨#[]⟩, .int .i64 0, .slice (some ⟨g, o, none⟩) 1 c]) su ?_
      refine uT 8 (.pointer (some ⟨W.heap.size, 0, none⟩)) su ?_
      refine uT 9 (.slice (some ⟨gm, 0, none⟩) 1 cm) su ?_
      refine uT 10 (.int .i64 0) su ?_
      refine uT 11 (.pointer (some ⟨gm, 0, none⟩)) su ?_
      refine uT 12 (.pointer (some ⟨gm, 5, none⟩)) su ?_
      refine uT 13 (.slice ra 0 rc) su ?_
      refine U_ready (rs := [14]) (by kernel_rfl) (by simp) ?_
      refine AllU.cons rfl (by decide) (fun K hK => ?_) AllU.nil
      refine step_call2 (by kernel_rfl) 53 (.tmp 62) (.tmp 68) #[51, 101] (by kernel_rfl) (.agg #[.int .i64 68, .string ⟨#[]⟩, .int .i64 0, .slice (some ⟨g, o, none⟩) 1 c]) (.slice ra 0 rc) (by kernel_rfl) (by kernel_rfl) (enters_of Tryz.func53 (by kernel_rfl) rfl) DE.out ?_
      rintro e W5 ⟨⟨ge, ce, rfl, e5⟩, b5⟩
      refine ⟨_, rfl, ?_⟩
      have s4 : W.heap.size + 1 + 1 < W4.heap.size := L4.out.lt
      have b5' : Below W4.heap.size (World.drew W4) W5 := b5
      have L5 : Hid _ := (L4.out.bel (below_dn 1)).bel b5
      have s5 : W4.heap.size ≤ W5.heap.size := b5'.size
      have E5 : Hid (E5At W5 (W.heap.size + 3) ge) := e5.mono s4
      have S5 : Hid (ScAt W5 (W.heap.size + 3) gs gt ct) := S4.out.keep fun k _ hk => b5'.block k hk
      have su5 := HS.out W5 _ _ _ L5.out rfl (fun k hk _ => b5'.block k hk)
      refine hK.out _ _ su5 ?_
      clear hK K su e5
      refine U_ready (rs := [15]) (by kernel_rfl) (by simp) ?_
      refine AllU.cons rfl (by decide) (fun K hK => ?_) AllU.nil
      go_simp
      have m6 := hnew (w := W5) (.cells #[.slice none 0 0, .slice (some ⟨ge, 0, none⟩) 1 ce, .slice none 0 0, .slice none 0 0] 106) rfl
      have b6 : Below W5.heap.size W5 (W5.alloc (.cells #[.slice none 0 0, .slice (some ⟨ge, 0, none⟩) 1 ce, .slice none 0 0, .slice none 0 0] 106)) := bel_a _ _
      have L6 : Hid (LkS W (W5.alloc (.cells #[.slice none 0 0, .slice (some ⟨ge, 0, none⟩) 1 ce, .slice none 0 0, .slice none 0 0] 106)) gm cm (.slice (some ⟨gs, 0, none⟩) 1 cs) (.slice none 0 0) (.slice none 0 0)) := L5.out.bel b6
      generalize W5.alloc (.cells #[.slice none 0 0, .slice (some ⟨ge, 0, none⟩) 1 ce, .slice none 0 0, .slice none 0 0] 106) = W6 at *
      have E6 : Hid (E5At W6 (W.heap.size + 3) ge) := E5.out.keep fun k _ hk => b6.block k hk
      have S6 : Hid (ScAt W6 (W.heap.size + 3) gs gt ct) := S5.out.keep fun k _ hk => b6.block k hk
      have su6 := HS.out W6 _ _ _ L6.out rfl (fun k hk _ => (b6.block k (by omega)).trans (b5'.block k hk))
      refine hK.out _ _ su6 ?_
      clear hK K su5
      refine U_ready (rs := [16]) (by kernel_rfl) (by simp) ?_
      refine AllU.cons rfl (by decide) (fun K hK => ?_) AllU.nil
      refine step_append_lies _ (by kernel_rfl) (.tmp 56) (.tmp 70) 40 (by kernel_rfl) 0 106 j0 _ 4 96 Tryz.underlying40 II.out.2.1 IE.out.1 IE.out.2.1 IE.out.2.2 rfl (by omega) (.slice none 0 0) 0 [] (by kernel_rfl) (World.ownsRow_nil _ _ _ _) ⟨W5.heap.size, 0, none⟩ 1 1 [.slice none 0 0, .slice (some ⟨ge, 0, none⟩) 1 ce, .slice none 0 0, .slice none 0 0] (by kernel_rfl) (by rfl) (World.news_of_block (cs := #[.slice none 0 0, .slice (some ⟨ge, 0, none⟩) 1 ce, .slice none 0 0, .slice none 0 0]) (t := 106) (fr := (0, 0)) m6) (by simp [Value.oneCell']) (by omega) (by unfold maxLen; omega) (by omega) (by omega) W6.heap.size rfl ?_
      intro gE cE W7 o7 g7 f7 l7
      have b7 := grownP_bel g7
      have s6 : W.heap.size + 1 + 1 < W6.heap.size := L6.out.lt
      have L7 : Hid _ := L6.out.bel b7
      have N7 : Hid (EsAt W7 (W.heap.size + 3) gE ge ce) := es_row o7 (E6.out.keep fun k _ hk => b7.block k hk) (new_row f7 (by omega))
      have S7 : Hid (ScAt W7 (W.heap.size + 3) gs gt ct) := S6.out.keep fun k _ hk => b7.block k hk
      have s56 : W5.heap.size ≤ W6.heap.size := b6.size
      have su7 := HS.out W7 _ _ _ L7.out rfl (fun k hk _ => (b7.block k (by omega)).trans ((b6.block k (by omega)).trans (b5'.block k hk)))
      refine hK.out _ _ su7 ?_
      clear hK K su6 su7 o7 g7 f7 l7 b7 b6 b5 b5' m6 HS
      refine U_end (by kernel_rfl) ?_
      refine wpAny_chain [_, _] [17, 18] _ _ _ _ (by kernel_rfl) rfl (by decide) ?_
      obtain ⟨_, ⟨_, _, y2, _⟩, fz⟩ := L7.out.cells
      have f2 := fz 2
      clear fz
      have L8 : Hid (LkS W (W7.setCell ⟨W.heap.size + 1 + 1, 2, none⟩ (.slice (some ⟨gE, 0, none⟩) 1 cE)) gm cm (.slice (some ⟨gs, 0, none⟩) 1 cs) (.slice (some ⟨gE, 0, none⟩) 1 cE) (.slice none 0 0)) := L7.out.set2 _
      have S8 : Hid (ScAt (W7.setCell ⟨W.heap.size + 1 + 1, 2, none⟩ (.slice (some ⟨gE, 0, none⟩) 1 cE)) (W.heap.size + 3) gs gt ct) := S7.out.keep fun k hk _ => Below.heap_setCell _ _ _ _ (by show k ≠ W.heap.size + 1 + 1; omega)
      have N8 : Hid (EsAt (W7.setCell ⟨W.heap.size + 1 + 1, 2, none⟩ (.slice (some ⟨gE, 0, none⟩) 1 cE)) (W.heap.size + 3) gE ge ce) := N7.out.keep fun k hk _ => Below.heap_setCell _ _ _ _ (by show k ≠ W.heap.size + 1 + 1; omega)
      go_wp2
      exact ⟨⟨1, by simp, by omega, fun h => absurd h (by decide), fun _ => ⟨gs, cs, gE, cE, gt, ct, ge, ce, L8.out, S8.out, N8.out⟩⟩, by simp [intOf]⟩
    · obtain ⟨gs, cs, gE, cE, gt, ct, ge, ce, L1, S1, N1⟩ := h1.out rfl
      have HL1 : Hid _ := L1
      have HS1 : Hid _ := S1
      have HN1 : Hid _ := N1
      clear L1 S1 N1 h0 h1 L0
      generalize wr = W1 at *
      obtain ⟨c0, ⟨x0, x1, x2, x3⟩, _⟩ := HL1.out.cells
      go_wp2_with fail
      clear c0 x0 x1 x2 x3
      go_loopw [11] (fun i wr => ∃ k : Nat, i = .int .i64 (k : Nat) ∧ k ≤ 1 ∧ Hid (k = 0 → wr = W1) ∧ Hid (k = 1 → ∃ gf cf, LkS W wr gm cm (.slice (some ⟨gs, 0, none⟩) 1 cs) (.slice (some ⟨gE, 0, none⟩) 1 cE) (.slice (some ⟨gf, 0, none⟩) 1 cf) ∧ ScAt wr (W.heap.size + 3) gs gt ct ∧ EsAt wr (W.heap.size + 3) gE ge ce)) (fun i _ => 1 - (intOf i).toNat)
      case atStart => exact ⟨0, rfl, by omega, fun _ => rfl, fun h => absurd h (by decide)⟩
      case round =>
        obtain ⟨k, rfl, hk, h0, h1⟩ := hrel
        obtain rfl | rfl : k = 0 ∨ k = 1 := by omega
        · have hw := (h0.out rfl).symm
          subst hw
          clear h0 h1
          obtain ⟨c0, ⟨x0, x1, x2, x3⟩, _⟩ := HL1.out.cells
          obtain ⟨n0, n1, n2, n3, _, _⟩ := HN1.out
          have lE : gE < W1.heap.size := HN1.out.lt
          have b2 : Hid (Below W1.heap.size W1 (W1.alloc (enO (.slice (some ⟨ge, 0, none⟩) 1 ce)))) := bel_a _ _
          have L2 : Hid _ := HL1.out.bel b2.out
          go_wp2_with fail
          have m2 := hnew (w := W1) (enO (.slice (some ⟨ge, 0, none⟩) 1 ce)) rfl
          clear c0 x0 x1 x2 x3 n0 n1 n2 n3
          generalize W1.alloc (enO (.slice (some ⟨ge, 0, none⟩) 1 ce)) = W2 at *
          obtain ⟨⟨p0, p1, p2, p3⟩, _⟩ := box4 m2
          clear m2
          go_loopw [13, 14] (fun v i wr => v = .slice none 0 0 ∧ i = .int .i64 0 ∧ wr = W2) (fun _ i _ => 0)
          case atStart => exact ⟨rfl, rfl, rfl⟩
          case round =>
            obtain ⟨rfl, rfl, hw⟩ := hrel
            have hw' := hw.symm
            subst hw'
            clear hw
            go_wp2_with fail
            go_loopw [17] (fun i wr => i = .int .i64 0 ∧ wr = W2) (fun i _ => 0)
            case atStart => exact ⟨rfl, rfl⟩
            case round =>
              obtain ⟨rfl, hw⟩ := hrel
              have hw' := hw.symm
              subst hw'
              clear hw
              obtain ⟨c0, ⟨x0, x1, x2, x3⟩, fz⟩ := L2.out.cells
              go_wp2_with (at_builtin; refine wpList_append_lies _ (by rfl) _ _ _ (by rfl) 0 108 f0 _ 1 24 Tryz.underlying41 II.out.2.2 IF.out.1 IF.out.2.1 IF.out.2.2 rfl (by omega) _ 0 [] (by rfl) (World.ownsRow_nil _ _ _ _) ⟨W2.heap.size, 0, none⟩ 1 1 [.slice none 0 0] (by rfl) (by rfl) (World.news_of_block (cs := #[.slice none 0 0]) (t := 108) (fr := (0, 0)) (hnew _ rfl)) (by simp [Value.oneCell']) (by omega) (by unfold maxLen; omega) (by omega) (by simp) _ rfl ?_; intro gf cf W3 r1 r2 r3 r4; have k3 : Hid (Below W1.heap.size W1 W3) := (b2.out.alloc b2.out.size (.cells #[.slice none 0 0] 108)).trans ((grownP_bel r2).mono (by have := b2.out.size; simp; omega)); have L3 : Hid _ := HL1.out.bel k3.out; clear r1 r2 r3 r4; obtain ⟨_, ⟨_, _, _, y3⟩, fz⟩ := L3.out.cells; have f3 := fz 3; clear fz)
              have L4 : Hid (LkS W (W3.setCell ⟨W.heap.size + 1 + 1, 3, none⟩ (.slice (some ⟨gf, 0, none⟩) 1 cf)) gm cm (.slice (some ⟨gs, 0, none⟩) 1 cs) (.slice (some ⟨gE, 0, none⟩) 1 cE) (.slice (some ⟨gf, 0, none⟩) 1 cf)) := L3.out.set3 _
              have e4 : ∀ k, W.heap.size + 3 ≤ k → k < W1.heap.size → (W3.setCell ⟨W.heap.size + 1 + 1, 3, none⟩ (.slice (some ⟨gf, 0, none⟩) 1 cf)).heap[k]? = W1.heap[k]? := fun k h1 h2 => (Below.heap_setCell _ _ _ _ (by show k ≠ W.heap.size + 1 + 1; omega)).trans (k3.out.block k h2)
              have S4 : Hid (ScAt (W3.setCell ⟨W.heap.size + 1 + 1, 3, none⟩ (.slice (some ⟨gf, 0, none⟩) 1 cf)) (W.heap.size + 3) gs gt ct) := HS1.out.keep e4
              have N4 : Hid (EsAt (W3.setCell ⟨W.heap.size + 1 + 1, 3, none⟩ (.slice (some ⟨gf, 0, none⟩) 1 cf)) (W.heap.size + 3) gE ge ce) := HN1.out.keep e4
              refine ⟨⟨_, _, _, _, _, _, _, _, _, _, _, _, _, _, _, _, _, _, _, _, _, _, _, _, _, _, _, _, _, _, _, _, _, _, _, _, _, _, _, _, _, _, _, _, _, _, _, _, _, _, _, _, _, _, _, _, _, _, _, _, _, _, _, _, _, _, _, _, _, _, _, _, _, _, _, _, _, _, _, _, _, _, _, _, _, _, _, _, _, _, _, _, _, _, _, _, _, _, _, _, _, _, _, _, _, _, _, _, _, _, _, _, _, _, _, _, _, _, _, _, _, _, _, ?rr, rfl⟩, by simp [intOf]⟩
              case rr => exact ⟨1, by simp, by omega, fun h => absurd h (by decide), fun _ => ⟨gf, cf, L4.out, S4.out, N4.out⟩⟩
        · obtain ⟨gf, cf, L1, S1, N1⟩ := h1.out rfl
          have KL1 : Hid _ := L1
          have KS1 : Hid _ := S1
          have KN1 : Hid _ := N1
          clear L1 S1 N1 h0 h1 HL1 HS1 HN1
          generalize wr = W2 at *
          obtain ⟨c0, ⟨x0, x1, x2, x3⟩, _⟩ := KL1.out.cells
          go_wp2_with fail
          clear c0 x0 x1 x2 x3
          go_loopw [19] (fun i wr => ∃ k : Nat, i = .int .i64 (k : Nat) ∧ k ≤ 1 ∧ Hid (Below W2.heap.size W2 wr)) (fun i _ => 1 - (intOf i).toNat)
          case atStart => exact ⟨0, rfl, by omega, Below.refl _ _⟩
          case round =>
            obtain ⟨k, rfl, hk, bz⟩ := hrel
            generalize wr = W3 at *
            have L3 : Hid _ := KL1.out.bel bz.out
            have HLN : Hid (∀ X, Below W2.heap.size W2 X → LnAt X gm gs gE g o c gt ct ge ce) := fun X b => ln_of (HM.out _ _ _ _ (KL1.out.bel b)) (KS1.out.keep fun k _ h => b.block k h) (KN1.out.keep fun k _ h => b.block k h)
            obtain ⟨c0, ⟨x0, x1, x2, x3⟩, _⟩ := L3.out.cells
            obtain rfl | rfl : k = 0 ∨ k = 1 := by omega
            · go_wp2_with fail
              go_at_call 56
              refine (uses_ln (HLN.out _ bz.out)).mono ?_
              rintro e W4 ⟨rfl, b4⟩
              have B4 : Hid (Below W2.heap.size W2 W4) := bz.out.trans (b4.mono bz.out.size)
              clear b4 c0 x0 x1 x2 x3
              obtain ⟨c0, ⟨x0, x1, x2, x3⟩, _⟩ := (KL1.out.bel B4.out).cells
              go_wp2_with fail
              go_at_call 57
              refine (alone_ln (HLN.out _ B4.out)).mono ?_
              rintro e W5 ⟨rfl, b5⟩
              have B5 : Hid (Below W2.heap.size W2 W5) := B4.out.trans (b5.mono B4.out.size)
              clear b5 c0 x0 x1 x2 x3
              go_wp2
              refine ⟨⟨_, _, _, _, _, _, _, _, _, _, _, _, _, _, _, _, _, _, _, _, _, _, _, _, _, _, _, _, _, _, _, _, _, _, _, _, _, ?rr, rfl⟩, by simp [intOf]⟩
              case rr => exact ⟨1, by simp, by omega, B5.out⟩
            · have z3 := L3.out.z
              have Z3 : Hid _ := z3
              obtain ⟨⟨v0, v1, v2, v3⟩, w0, w1, w2, w3⟩ := box4 z3
              clear z3
              go_wp2
              refine bodyPost_ret (res_lk Tryz.results29 (box4_set _ _ _ _ Z3.out) rfl rfl rfl rfl) rfl ⟨gs, cs, gE, cE, gt, ct, ge, ce, gf, cf, rfl, ?_, ?_, ?_⟩
              · exact ((KS1.out.keep fun k _ h => bz.out.block k h).keep fun k hk _ => far4 (by omega) _ _ _ _).mono (by omega)
              · exact ((KN1.out.keep fun k _ h => bz.out.block k h).keep fun k hk _ => far4 (by omega) _ _ _ _).mono (by omega)
              · have bb : Below W.heap.size W W3 := L3.out.kp.below (by omega) (Nat.le_refl _)
                exact (((bb.setCell (by show _ ≤ W.heap.size + 1; omega) _).setCell (by show _ ≤ W.heap.size + 1; omega) _).setCell (by show _ ≤ W.heap.size + 1; omega) _).setCell (by show _ ≤ W.heap.size + 1; omega) _
end
theorem res_lkb {fn : Func} {p q : Nat} (h : fn.results = #[.cell p 43, .tmp q]) {W : World} {n : Nat} {a b c d u : Value} {t : TypeId} {tmps : Array Value} (hb : W.heap[n]? = some (.cells #[a, b, c, d] t (0, 0))) (ht : tmps[p]?.getD undef = .pointer (some ⟨n, 0, none⟩)) (hq : tmps[q]?.getD undef = u) :
    (results fn tmps).run Tryz.prog W = .ok (.tuple #[.agg #[a, b, c, d], u]) W := by
  obtain ⟨⟨c0, c1, c2, c3⟩, _⟩ := box4 hb
  simp [results, h, go_sem, ht, c0, c1, c2, c3, hq]
section
variable {W : World}
set_option maxRecDepth 100000 in
set_option maxHeartbeats 8000000 in
theorem linked_src {fb cf : Nat} (hf : W.ownsRow 0 47 2 (.slice (some ⟨fb, 0, none⟩) 1 cf) 1 (Vf.flat tabA)) :
    Calls Tryz.prog 20 #[.slice (some ⟨fb, 0, none⟩) 1 cf] W fun e w' => ∃ gm cm gs cs gE cE g o c gt ct ge ce gf cf', e = .returned (.tuple #[lnV gm cm gs cs gE cE (.slice (some ⟨gf, 0, none⟩) 1 cf'), .bool true]) ∧ LnAt w' gm gs gE g o c gt ct ge ce ∧ Below W.heap.size W w' := by
  have HF : Hid (∀ X, Below W.heap.size W X → X.ownsRow 0 47 2 (.slice (some ⟨fb, 0, none⟩) 1 cf) 1 (Vf.flat tabA)) := fun X b => row_bel hf b
  clear hf
  have eA : (⟨#[47, 97]⟩ : ByteArray) = pthA := rfl
  go_enter Tryz.func20, Tryz.ntmps20
  go_wp2_with fail
  go_at_call 28
  have b0 : Hid (Below W.heap.size W (W.alloc (lkO (.slice none 0 0) (.slice none 0 0) (.slice none 0 0) (.slice none 0 0)))) := bel_a _ _
  have m0 : Hid _ := hnew (w := W) (lkO (.slice none 0 0) (.slice none 0 0) (.slice none 0 0) (.slice none 0 0)) rfl
  refine (load_src (HF.out _ b0.out)).mono ?_
  rintro e W1 ⟨gm, cm, g, o, c, rfl, m1, b1⟩
  have M1 : Hid _ := m1
  have s1 : W.heap.size < W1.heap.size := by have := b1.size; simp at this; omega
  have z1 : Hid _ := (b1.block W.heap.size (by simp)).trans m0.out
  have B1 : Hid (Below W.heap.size W W1) := b0.out.trans (b1.mono (by simp))
  clear m1 b1
  go_wp2_with fail
  go_at_call 29
  have MG : Hid (MdAt (W1.alloc (.cells #[.slice (some ⟨gm, 0, none⟩) 1 cm] 38)) (W.heap.size + 1) gm g o c) := (M1.out.bel (bel_a _ _)).mono (by simp)
  have zg := (hold (w := W1) (.cells #[.slice (some ⟨gm, 0, none⟩) 1 cm] 38) s1 z1.out)
  have ZG : Hid _ := zg
  have sg : W.heap.size + 1 < (W1.alloc (.cells #[.slice (some ⟨gm, 0, none⟩) 1 cm] 38)).heap.size := by simp; omega
  have BG : Hid (Below W.heap.size W (W1.alloc (.cells #[.slice (some ⟨gm, 0, none⟩) 1 cm] 38))) := B1.out.alloc B1.out.size _
  clear zg
  generalize W1.alloc (.cells #[.slice (some ⟨gm, 0, none⟩) 1 cm] 38) = W2 at *
  refine (link_src (MG.out.mono (Nat.zero_le _))).mono ?_
  rintro e W3 ⟨gs, cs, gE, cE, gt, ct, ge, ce, gf, cf', rfl, sc3, es3, b3⟩
  have M3 : Hid _ := MG.out.bel b3
  have S3 : Hid _ := sc3
  have N3 : Hid _ := es3
  have B3 : Hid (Below W.heap.size W W3) := BG.out.trans (b3.mono (by omega))
  have z3 := (b3.block W.heap.size (by omega)).trans ZG.out
  have s3 : W.heap.size < W3.heap.size := by have := b3.size; omega
  clear b3 sc3 es3
  obtain ⟨W4, hW4⟩ : ∃ X, W3.alloc (lnO gm cm gs cs gE cE (.slice (some ⟨gf, 0, none⟩) 1 cf')) = X := ⟨_, rfl⟩
  have b4 : Below W3.heap.size W3 W4 := by rw [← hW4]; exact bel_a _ _
  have B4 : Hid _ := b4
  have Z4 : Hid _ := (b4.block W.heap.size s3).trans z3
  have M4 : Hid (W4.heap[W3.heap.size]? = some (lnO gm cm gs cs gE cE (.slice (some ⟨gf, 0, none⟩) 1 cf'))) := by show _ = _; rw [← hW4]; exact hnew _ rfl
  clear z3 b4
  obtain ⟨⟨v0, v1, v2, v3⟩, w0, w1, w2, w3⟩ := box4 Z4.out
  obtain ⟨⟨y0, y1, y2, y3⟩, _⟩ := box4 M4.out
  go_wp2
  refine bodyPost_ret (res_lkb Tryz.results20 (box4_set _ _ _ _ Z4.out) rfl rfl) rfl ⟨gm, cm, gs, cs, gE, cE, g, o, c, gt, ct, ge, ce, gf, cf', rfl, ?_, ?_⟩
  · have far : ∀ k, W.heap.size + 1 ≤ k → k < W3.heap.size → ((((W4.setCell ⟨W.heap.size, 0, none⟩ (.slice (some ⟨gm, 0, none⟩) 1 cm)).setCell ⟨W.heap.size, 1, none⟩ (.slice (some ⟨gs, 0, none⟩) 1 cs)).setCell ⟨W.heap.size, 2, none⟩ (.slice (some ⟨gE, 0, none⟩) 1 cE)).setCell ⟨W.heap.size, 3, none⟩ (.slice (some ⟨gf, 0, none⟩) 1 cf')).heap[k]? = W3.heap[k]? := fun k h1 h2 => (far4 (by omega) _ _ _ _).trans (B4.out.block k h2)
    exact ln_of ((M3.out.keep far).mono (Nat.zero_le _)) ((S3.out.mono (by omega)).keep (B := W.heap.size + 1) far) ((N3.out.mono (by omega)).keep (B := W.heap.size + 1) far)
  · have bb : Below W.heap.size W W4 := B3.out.trans (B4.out.mono B3.out.size)
    exact (((bb.setCell (by show _ ≤ W.heap.size; omega) _).setCell (by show _ ≤ W.heap.size; omega) _).setCell (by show _ ≤ W.heap.size; omega) _).setCell (by show _ ≤ W.heap.size; omega) _
/-- what every statement begins with. -/
structure EvR (w : World) : Prop where
  s : EvS w
  e : WEnv w
end
end Go.Proofs.YtpnljjcdlkjfhaaGreatDoor
