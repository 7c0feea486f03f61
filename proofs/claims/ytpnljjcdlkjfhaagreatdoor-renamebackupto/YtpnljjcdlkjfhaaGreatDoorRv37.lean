/- Own text. The document's entries of one tree. -/
import Derived.Test.YtpnljjcdlkjfhaaGreatDoorRv26
import Derived.Test.YtpnljjcdlkjfhaaGreatDoorRv36
set_option linter.unusedVariables false
set_option linter.unusedSimpArgs false
namespace Go.Proofs.YtpnljjcdlkjfhaaGreatDoor
open Go.RowKit
theorem info_enR : (Tryz.prog.info? 110).map (fun i => (i.zero, i.size, i.bytes)) = some (some (.agg #[.string ByteArray.empty, .string ByteArray.empty, .int .i64 0, .bool false, .int .i64 0]), 5, 56) := by kernel_rfl
/-- one entry in memory. -/
structure E5At (W : World) (B ge : Nat) : Prop where
  h : W.cell? ⟨ge, 0, none⟩ = some (.string dflS)
  t : W.cell? ⟨ge, 1, none⟩ = some (.string dflS)
  m : W.cell? ⟨ge, 2, none⟩ = some (.int .i64 (-1))
  y : W.cell? ⟨ge, 3, none⟩ = some (.bool false)
  i : W.cell? ⟨ge, 4, none⟩ = some (.int .i64 0)
  lo : B ≤ ge
theorem E5At.lt {W : World} {B ge : Nat} (h : E5At W B ge) : ge < W.heap.size := World.block_lt_of_cell? W _ h.h
theorem E5At.keep {W X : World} {B ge : Nat} (h : E5At W B ge) (e : ∀ k, B ≤ k → k < W.heap.size → X.heap[k]? = W.heap[k]?) : E5At X B ge := by
  have em := e ge h.lo h.lt
  exact ⟨(World.cell?_of_block (a := ⟨ge, _, none⟩) em).trans h.h, (World.cell?_of_block (a := ⟨ge, _, none⟩) em).trans h.t, (World.cell?_of_block (a := ⟨ge, _, none⟩) em).trans h.m, (World.cell?_of_block (a := ⟨ge, _, none⟩) em).trans h.y, (World.cell?_of_block (a := ⟨ge, _, none⟩) em).trans h.i, h.lo⟩
theorem E5At.mono {W : World} {B B' ge : Nat} (h : E5At W B ge) (hb : B' ≤ B) : E5At W B' ge := ⟨h.h, h.t, h.m, h.y, h.i, Nat.le_trans hb h.lo⟩
abbrev enO (v : Value) : Obj := .cells #[.slice none 0 0, v, .slice none 0 0, .slice none 0 0] 106
theorem en_set1 {w : World} {b : Nat} {v : Value} (h : w.heap[b]? = some (enO v)) (x : Value) : (w.setCell ⟨b, 1, none⟩ x).heap[b]? = some (enO x) := by simp [World.setCell, Array.getElem?_modify, h]
theorem res_en {fn : Func} {p : Nat} (h : fn.results = #[.cell p 106]) {W : World} {n : Nat} {a b c d : Value} {t : TypeId} {tmps : Array Value} (hb : W.heap[n]? = some (.cells #[a, b, c, d] t (0, 0))) (ht : tmps[p]?.getD undef = .pointer (some ⟨n, 0, none⟩)) :
    (results fn tmps).run Tryz.prog W = .ok (.agg #[a, b, c, d]) W := by
  obtain ⟨⟨c0, c1, c2, c3⟩, _⟩ := box4 hb
  simp [results, h, go_sem, ht, c0, c1, c2, c3]
section
variable {W : World}
set_option maxRecDepth 100000 in
set_option maxHeartbeats 8000000 in
theorem rheld_n5 (a : Option Addr) (c : Nat) (W : World) : Calls Tryz.prog 82 #[nv 1 ⟨#[]⟩ 5 a 0 c] W fun e w' => e = .returned (.string dflS) ∧ Below W.heap.size W w' := by
  go_enter Tryz.func82, Tryz.ntmps82
  go_wp2
  go_ret
  exact ⟨rfl, bel_a _ _⟩
set_option maxRecDepth 100000 in
set_option maxHeartbeats 8000000 in
theorem entries_m5 {g o c g2 o2 c2 ca : Nat} {a : Option Addr} (h : D5At W g o g2 o2 c2 a ca) (rv : Value) : Calls Tryz.prog 53 #[nv 68 ⟨#[]⟩ 0 (some ⟨g, o, none⟩) 1 c, rv] W fun e w' => (∃ ge ce, e = .returned (.agg #[.slice none 0 0, .slice (some ⟨ge, 0, none⟩) 1 ce, .slice none 0 0, .slice none 0 0]) ∧ E5At w' W.heap.size ge) ∧ Below W.heap.size W w' := by
  obtain ⟨i0, hi0, hz0, hz1, hz2⟩ := info_parts info_enR
  obtain ⟨WA, hWA⟩ : ∃ X, ((W.alloc (.cells #[.int .i64 68, .string ⟨#[]⟩, .int .i64 0, .slice (some ⟨g, o, none⟩) 1 c] 51)).alloc (enO (.slice none 0 0))).alloc (enO (.slice none 0 0)) = X := ⟨_, rfl⟩
  have bA : Below W.heap.size W WA := by rw [← hWA]; exact ((bel_a _ _).alloc (by simp <;> omega) _).alloc (by simp <;> omega) _
  have mA : WA.heap[W.heap.size]? = some (.cells #[.int .i64 68, .string ⟨#[]⟩, .int .i64 0, .slice (some ⟨g, o, none⟩) 1 c] 51 (0, 0)) := by rw [← hWA]; exact hold _ (by simp <;> omega) (hold _ (by simp <;> omega) (hnew _ rfl))
  have nA : WA.heap[W.heap.size + 1]? = some (enO (.slice none 0 0)) := by rw [← hWA]; exact hold _ (by simp <;> omega) (hnew _ (by simp))
  have pA : WA.heap[W.heap.size + 1 + 1]? = some (enO (.slice none 0 0)) := by rw [← hWA]; exact hnew _ (by simp)
  obtain ⟨W0, hW0⟩ : ∃ X, (((WA.setCell ⟨W.heap.size + 1 + 1, 0, none⟩ (.slice none 0 0)).setCell ⟨W.heap.size + 1 + 1, 1, none⟩ (.slice none 0 0)).setCell ⟨W.heap.size + 1 + 1, 2, none⟩ (.slice none 0 0)).setCell ⟨W.heap.size + 1 + 1, 3, none⟩ (.slice none 0 0) = X := ⟨_, rfl⟩
  have b0 : Below W.heap.size W W0 := by
    rw [← hW0]
    exact (((bA.setCell (by show _ ≤ W.heap.size + 1 + 1; omega) _).setCell (by show _ ≤ W.heap.size + 1 + 1; omega) _).setCell (by show _ ≤ W.heap.size + 1 + 1; omega) _).setCell (by show _ ≤ W.heap.size + 1 + 1; omega) _
  have m0 : W0.heap[W.heap.size]? = some (.cells #[.int .i64 68, .string ⟨#[]⟩, .int .i64 0, .slice (some ⟨g, o, none⟩) 1 c] 51 (0, 0)) := by rw [← hW0]; exact (far4 (by omega) _ _ _ _).trans mA
  have n0 : W0.heap[W.heap.size + 1]? = some (enO (.slice none 0 0)) := by rw [← hW0]; exact (far4 (by omega) _ _ _ _).trans nA
  have p0 : W0.heap[W.heap.size + 1 + 1]? = some (enO (.slice none 0 0)) := by rw [← hW0]; exact box4_set _ _ _ _ pA
  obtain ⟨⟨a0, a1, a2, a3⟩, e0, e1, e2, e3⟩ := box4 pA
  have s0 : W.heap.size + 1 + 1 < W0.heap.size := (Array.getElem?_eq_some_iff.1 p0).1
  have hl := h.lt
  have hl2 := h.kid.lt
  have HD : Hid (∀ X, Below W.heap.size W X → D5At X g o g2 o2 c2 a ca) := fun X b => h.bel b hl hl2
  have B0 : Hid _ := b0
  have N0 : Hid _ := n0
  have MM : Hid _ := m0
  have P0 : Hid _ := p0
  have HM : Hid (∀ X, Below W0.heap.size W0 X → (X.cell? ⟨W.heap.size, 0, none⟩ = some (.int .i64 68) ∧ X.cell? ⟨W.heap.size, 1, none⟩ = some (.string ⟨#[]⟩) ∧ X.cell? ⟨W.heap.size, 2, none⟩ = some (.int .i64 0) ∧ X.cell? ⟨W.heap.size, 3, none⟩ = some (.slice (some ⟨g, o, none⟩) 1 c)) ∧ D5At X g o g2 o2 c2 a ca) := fun X b =>
    ⟨(box4 ((b.block _ (by omega)).trans m0)).1, HD.out X (b0.trans (b.mono b0.size))⟩
  obtain ⟨⟨q0, q1, q2, q3⟩, _⟩ := HM.out W0 (Below.refl _ _)
  obtain ⟨⟨p1, p2, p3, p4⟩, _⟩ := box4 p0
  clear h b0 m0 n0 p0 bA mA nA pA
  go_enter Tryz.func53, Tryz.ntmps53
  go_wp2_with fail
  go_loopw [6] (fun i wr => ∃ k : Nat, i = .int .i64 (k : Nat) ∧ k ≤ 1 ∧ Hid (Below W0.heap.size W0 wr)) (fun i _ => 1 - (intOf i).toNat)
  case atStart => exact ⟨0, rfl, by omega, Below.refl _ _⟩
  case round =>
    obtain ⟨k, rfl, hk, bz⟩ := hrel
    clear hW0 hWA q0 q1 q2 q3 p1 p2 p3 p4 a0 a1 a2 a3 e0 e1 e2 e3
    obtain ⟨⟨q0, q1, q2, q3⟩, d0, d1, d2, d3, _⟩ := HM.out wr bz.out
    obtain rfl | rfl : k = 0 ∨ k = 1 := by omega
    · go_wp2
      exact ⟨⟨1, by simp, by omega, bz.out.alloc bz.out.size _⟩, by simp [intOf]⟩
    · go_wp2_with fail
      have s1 : W0.heap.size ≤ wr.heap.size := bz.out.size
      clear q0 q1 q2 q3 d0 d1 d2 d3
      generalize wr = W1 at *
      go_loopw [9] (fun i wz => ∃ k : Nat, i = .int .i64 (k : Nat) ∧ k ≤ 1 ∧ Hid (k = 0 → wz = W1) ∧ Hid (k = 1 → ∃ ge ce, wz.heap[W.heap.size + 1 + 1]? = some (enO (.slice (some ⟨ge, 0, none⟩) 1 ce)) ∧ E5At wz W1.heap.size ge) ∧ Hid (Kpt (W.heap.size + 1 + 1) W1 wz)) (fun i _ => 1 - (intOf i).toNat)
      case atStart => exact ⟨0, rfl, by omega, fun _ => rfl, fun h => absurd h (by decide), Kpt.refl _ _⟩
      case round =>
        obtain ⟨k, rfl, hk, h0, h1, kz⟩ := hrel
        obtain rfl | rfl : k = 0 ∨ k = 1 := by omega
        · have hw := (h0.out rfl).symm
          subst hw
          clear h0 h1 kz
          obtain ⟨W2, hW2⟩ : ∃ X, W1.alloc (.cells #[.int .i64 63, .string ⟨#[]⟩, .int .i64 0, .slice (some ⟨g2, o2, none⟩) 1 c2] 51) = X := ⟨_, rfl⟩
          have b2 : Below W1.heap.size W1 W2 := by rw [← hW2]; exact bel_a _ _
          have m2 : W2.heap[W1.heap.size]? = some (.cells #[.int .i64 63, .string ⟨#[]⟩, .int .i64 0, .slice (some ⟨g2, o2, none⟩) 1 c2] 51 (0, 0)) := by rw [← hW2]; exact hnew _ rfl
          have s2 : W1.heap.size < W2.heap.size := (Array.getElem?_eq_some_iff.1 m2).1
          have B2 : Hid (Below W0.heap.size W0 W2) := bz.out.trans (b2.mono bz.out.size)
          obtain ⟨⟨q0, q1, q2, q3⟩, d0, d1, d2, d3, hn⟩ := HM.out W1 bz.out
          have p2 := (B2.out.block _ s0).trans P0.out
          have P2 : Hid _ := p2
          have M2 : Hid _ := m2
          have DN : Hid _ := hn.bel b2 hn.lt
          obtain ⟨⟨e0, e1, e2, e3⟩, _⟩ := box4 m2
          obtain ⟨⟨p0, p1, p2', p3⟩, _⟩ := box4 p2
          have hg2 : g2 < W2.heap.size := DN.out.lt
          have HE : Hid (∀ X : World, X.heap[W.heap.size + 1 + 1]? = W2.heap[W.heap.size + 1 + 1]? → X.heap[W1.heap.size]? = W2.heap[W1.heap.size]? → X.heap[g2]? = W2.heap[g2]? → (fun X : World => X.cell? ⟨W.heap.size + 1 + 1, 1, none⟩ = some (.slice none 0 0) ∧ X.cell? ⟨W1.heap.size, 3, none⟩ = some (.slice (some ⟨g2, o2, none⟩) 1 c2) ∧ X.cell? ⟨g2, o2, none⟩ = some (.int .i64 1) ∧ X.cell? ⟨g2, o2 + 1, none⟩ = some (.string ⟨#[]⟩) ∧ X.cell? ⟨g2, o2 + 2, none⟩ = some (.int .i64 5) ∧ X.cell? ⟨g2, o2 + 3, none⟩ = some (.slice a 0 ca)) X) := fun X x1 x2 x3 =>
            ⟨(World.cell?_of_block (a := ⟨_, 1, none⟩) x1).trans p1, (World.cell?_of_block (a := ⟨_, 3, none⟩) x2).trans e3, (World.cell?_of_block (a := ⟨g2, _, none⟩) x3).trans DN.out.k, (World.cell?_of_block (a := ⟨g2, _, none⟩) x3).trans DN.out.t, (World.cell?_of_block (a := ⟨g2, _, none⟩) x3).trans DN.out.n, (World.cell?_of_block (a := ⟨g2, _, none⟩) x3).trans DN.out.ks⟩
          have KB2 : Hid (Below W1.heap.size W1 W2) := b2
          clear b2 m2 p2 hn
          go_wp2_with fail
          clear q0 q1 q2 q3 d0 d1 d2 d3 e0 e1 e2 e3 p0 p1 p2' p3 hW2
          have su := HE.out (World.drew W2) rfl rfl rfl
          refine wp_region_U (u := 11) (S := fun X : World => X.cell? ⟨W.heap.size + 1 + 1, 1, none⟩ = some (.slice none 0 0) ∧ X.cell? ⟨W1.heap.size, 3, none⟩ = some (.slice (some ⟨g2, o2, none⟩) 1 c2) ∧ X.cell? ⟨g2, o2, none⟩ = some (.int .i64 1) ∧ X.cell? ⟨g2, o2 + 1, none⟩ = some (.string ⟨#[]⟩) ∧ X.cell? ⟨g2, o2 + 2, none⟩ = some (.int .i64 5) ∧ X.cell? ⟨g2, o2 + 3, none⟩ = some (.slice a 0 ca)) (by kernel_rfl) ?_
          change wpAnyU _ _ _ _ _ _ _ _ _ (World.drew _)
          refine uT 0 (.pointer (some ⟨W.heap.size + 1 + 1, 1, none⟩)) su ?_
          refine uT 1 (.slice none 0 0) su ?_
          refine uT 2 (.pointer (some ⟨W1.heap.size, 3, none⟩)) su ?_
          refine uT 3 (.slice (some ⟨g2, o2, none⟩) 1 c2) su ?_
          refine uT 4 (.pointer (some ⟨g2, o2, none⟩)) su ?_
          refine uT 5 (.agg #[.int .i64 1, .string ⟨#[]⟩, .int .i64 5, .slice a 0 ca]) su ?_
          refine uT 7 (.int .i64 0) su ?_
          refine U_ready (rs := [6]) (by kernel_rfl) (by simp) ?_
          refine AllU.cons rfl (by decide) (fun K hK => ?_) AllU.nil
          refine step_call1 (by kernel_rfl) 82 (.tmp 109) #[51] (by kernel_rfl) (.agg #[.int .i64 1, .string ⟨#[]⟩, .int .i64 5, .slice a 0 ca]) (by kernel_rfl) (enters_of Tryz.func82 (by kernel_rfl) rfl) (rheld_n5 a ca (World.drew W2)) ?_
          rintro e W4 ⟨rfl, b4⟩
          refine ⟨_, rfl, ?_⟩
          have x4 : ∀ k, k < W2.heap.size → W4.heap[k]? = W2.heap[k]? := fun k hk => b4.block k hk
          have s4 : W2.heap.size ≤ W4.heap.size := b4.size
          have su4 := HE.out W4 (x4 _ (by omega)) (x4 _ s2) (x4 _ hg2)
          refine hK.out _ _ su4 ?_
          clear hK K su
          refine uT 8 (.agg #[.string dflS, .string dflS, .int .i64 (-1), .bool false, .int .i64 0]) su4 ?_
          refine U_ready (rs := [9]) (by kernel_rfl) (by simp) ?_
          refine AllU.cons rfl (by decide) (fun K hK => ?_) AllU.nil
          go_simp
          have hm5 := hnew (w := W4) (.cells #[.string dflS, .string dflS, .int .i64 (-1), .bool false, .int .i64 0] 110) rfl
          have s5 : W4.heap.size < (W4.alloc (.cells #[.string dflS, .string dflS, .int .i64 (-1), .bool false, .int .i64 0] 110)).heap.size := by simp
          have x5 : ∀ k, k < W2.heap.size → (W4.alloc (.cells #[.string dflS, .string dflS, .int .i64 (-1), .bool false, .int .i64 0] 110)).heap[k]? = W2.heap[k]? := fun k hk => hold _ (by omega) (x4 k hk)
          have b5 : Below W2.heap.size (World.drew W2) (W4.alloc (.cells #[.string dflS, .string dflS, .int .i64 (-1), .bool false, .int .i64 0] 110)) := b4.alloc s4 _
          generalize W4.alloc (.cells #[.string dflS, .string dflS, .int .i64 (-1), .bool false, .int .i64 0] 110) = W5 at *
          have su5 := HE.out W5 (x5 _ (by omega)) (x5 _ s2) (x5 _ hg2)
          refine hK.out _ _ su5 ?_
          clear hK K su4
          refine U_ready (rs := [10]) (by kernel_rfl) (by simp) ?_
          refine AllU.cons rfl (by decide) (fun K hK => ?_) AllU.nil
          refine step_append_lies _ (by kernel_rfl) (.tmp 105) (.tmp 113) 104 (by kernel_rfl) 0 110 i0 _ 5 56 Tryz.underlying104 hi0 hz0 hz1 hz2 rfl (by omega) (.slice none 0 0) 0 [] (by kernel_rfl) (World.ownsRow_nil _ _ _ _) ⟨W4.heap.size, 0, none⟩ 1 1 [.string dflS, .string dflS, .int .i64 (-1), .bool false, .int .i64 0] (by kernel_rfl) (by rfl) (World.news_of_block (cs := #[.string dflS, .string dflS, .int .i64 (-1), .bool false, .int .i64 0]) (t := 110) (fr := (0, 0)) hm5) (by simp [Value.oneCell']) (by omega) (by unfold maxLen; omega) (by omega) (by omega) W5.heap.size rfl ?_
          intro gm cm W6 o6 g6 f6 l6
          have hgm : gm = W5.heap.size := by
            rcases f6 with f | f
            · cases f
            · exact f
          have b6 := grownP_bel g6
          have x6 : ∀ k, k < W2.heap.size → W6.heap[k]? = W2.heap[k]? := fun k hk => (b6.block k (by omega)).trans (x5 k hk)
          have su6 := HE.out W6 (x6 _ (by omega)) (x6 _ s2) (x6 _ hg2)
          refine hK.out _ _ su6 ?_
          clear hK K su5
          refine U_end (by kernel_rfl) ?_
          refine wpAny_chain [_, _] [11, 12] _ _ _ _ (by kernel_rfl) rfl (by decide) ?_
          have w6 := (x6 _ (by omega)).trans P2.out
          obtain ⟨⟨c0, c1, c2', c3⟩, z0, z1, z2, z3⟩ := box4 w6
          have e7 : ∀ k, k ≠ W.heap.size + 1 + 1 → (W6.setCell ⟨W.heap.size + 1 + 1, 1, none⟩ (.slice (some ⟨gm, 0, none⟩) 1 cm)).heap[k]? = W6.heap[k]? := fun k ne => Below.heap_setCell _ _ _ _ ne
          have cm7 : ∀ j u, ([.string dflS, .string dflS, .int .i64 (-1), .bool false, .int .i64 0] : List Value)[j]? = some u → (W6.setCell ⟨W.heap.size + 1 + 1, 1, none⟩ (.slice (some ⟨gm, 0, none⟩) 1 cm)).cell? ⟨gm, j, none⟩ = some u := fun j u hj => by
            have := o6.cells (g := gm) rfl j u hj
            rw [World.cell?_of_block (a := ⟨gm, j, none⟩) (e7 gm (by omega))]
            rw [Vf.addP, Nat.zero_add] at this
            exact this
          have E7 : Hid (E5At (W6.setCell ⟨W.heap.size + 1 + 1, 1, none⟩ (.slice (some ⟨gm, 0, none⟩) 1 cm)) W1.heap.size gm) := ⟨cm7 0 _ rfl, cm7 1 _ rfl, cm7 2 _ rfl, cm7 3 _ rfl, cm7 4 _ rfl, by omega⟩
          have w7 : Hid (_) := en_set1 w6 (.slice (some ⟨gm, 0, none⟩) 1 cm)
          have K7 : Hid (Kpt (W.heap.size + 1 + 1) W1 (W6.setCell ⟨W.heap.size + 1 + 1, 1, none⟩ (.slice (some ⟨gm, 0, none⟩) 1 cm))) := (Kpt.of ((below_drewN KB2.out 1).trans ((b5.trans (b6.mono b5.size)).mono KB2.out.size))).set 1 _
          clear hgm o6 g6 l6 b6 x6 x5 x4 b5 b4 hm5 su6 w6 e7 cm7 HE
          go_wp2
          refine ⟨⟨_, _, _, _, _, _, _, _, _, _, _, _, _, _, _, _, _, _, _, _, _, _, _, _, _, _, _, _, _, _, _, _, _, _, _, _, _, _, _, _, _, _, _, _, _, _, _, _, _, _, _, _, _, _, _, _, _, _, _, _, _, _, _, _, ?rr, rfl⟩, by simp [intOf]⟩
          case rr => exact ⟨1, by simp, by omega, fun h => absurd h (by decide), fun _ => ⟨gm, cm, w7.out, E7.out⟩, K7.out⟩
        · obtain ⟨ge, ce, w3, e3⟩ := h1.out rfl
          have E3 : Hid _ := e3
          have hb : Below W0.heap.size W0 W1 := bz.out
          have n3 := (kz.out.block (W.heap.size + 1) (by omega) (by omega)).trans ((hb.block _ (by omega)).trans N0.out)
          have N3 : Hid _ := n3
          have q3 := (kz.out.block W.heap.size (by omega) (by omega)).trans ((hb.block _ (by omega)).trans MM.out)
          obtain ⟨⟨c0, c1, c2', c3⟩, _⟩ := box4 w3
          obtain ⟨⟨p0, p1, p2', p3⟩, z0, z1, z2, z3⟩ := box4 n3
          obtain ⟨⟨y0, y1, y2, y3⟩, _⟩ := box4 q3
          have BW : Hid (Below W.heap.size W wr) := (B0.out.trans (hb.mono B0.out.size)).trans (kz.out.below (by omega) (by have := B0.out.size; omega))
          clear e3 n3 q3 w3 h0 h1 hb
          go_wp2
          refine bodyPost_ret (res_en Tryz.results53 (box4_set _ _ _ _ N3.out) rfl) rfl ⟨⟨ge, ce, rfl, ?_⟩, ?_⟩
          · refine (E3.out.mono (by omega)).keep (B := W.heap.size + 1 + 1) (fun k hk _ => far4 (by omega) _ _ _ _) |>.mono (by omega)
          · exact (((BW.out.setCell (by show _ ≤ W.heap.size + 1; omega) _).setCell (by show _ ≤ W.heap.size + 1; omega) _).setCell (by show _ ≤ W.heap.size + 1; omega) _).setCell (by show _ ≤ W.heap.size + 1; omega) _
end
end Go.Proofs.YtpnljjcdlkjfhaaGreatDoor
