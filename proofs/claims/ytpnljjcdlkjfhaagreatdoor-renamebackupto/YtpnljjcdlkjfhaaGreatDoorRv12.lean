/- Own text. Copy of package tree. Size and At of package tree. -/
import Derived.Test.YtpnljjcdlkjfhaaGreatDoorRv03
import Derived.Test.YtpnljjcdlkjfhaaGreatDoorRv11
set_option linter.unusedVariables false
namespace Go.Proofs.YtpnljjcdlkjfhaaGreatDoor
open Go.RowKit
/-- the cells of a list of n trees that are zero. -/
def madeN (n : Nat) : Array Value := madeCells zeroN.cells (n * 4)
theorem madeN_size (n : Nat) : (madeN n).size = n * 4 := size_madeCells _ _
theorem make_nd (n : Nat) (hn : n ≤ 4194304) (W : World) : (Instr.makeSlice 49 (.int .i64 (n : Nat)) (.int .i64 (n : Nat))).run Tryz.prog W = .ok (.slice (some ⟨W.heap.size, 0, none⟩) n n) (W.alloc (.cells (madeN n) 51)) := by
  obtain ⟨i0, hi0, hz0, hz1, hz2⟩ := info_parts info_nd
  have h := run_make (P := Tryz.prog) W 49 51 i0 zeroN Tryz.underlying49 hi0 hz0 .i64 .i64 n n (by omega) (by omega) (by rw [hz2]; omega) (by omega)
  rw [hz1] at h
  simpa [madeN] using h

set_option maxRecDepth 100000 in
set_option maxHeartbeats 8000000 in
theorem copy_any (x : Nd) : ∀ (w : World) (S : Nat → Prop) (v : Value), LAt w S v x.ks → x.size ≤ 4194304 → x.tx →
    Calls Tryz.prog 33 #[x.v v] w fun e w' => ∃ v', e = .returned (x.v v') ∧ Sep w' (fun b => w.heap.size ≤ b ∧ b < w'.heap.size) v' x.ks ∧ Below w.heap.size w w' := by
  induction x using Nd.ind with
  | h x ih =>
    intro w S v hx zx tx
    obtain ⟨ax, cx, bx, ox, fx, rfl, px, qx, rx⟩ := hx.op
    have zs := x.size_eq
    have lx := sizes_len x.ks
    have lx2 : x.ks.length ≤ 4194304 := by omega
    have xt := Nd.tx_own tx
    unfold Nd.v
    go_enter Tryz.func33, Tryz.ntmps33
    go_wp2_with fail
    obtain ⟨W0, hW0⟩ : ∃ W, ((w.alloc (Obj.cells #[Value.int IntKind.i64 x.k, Value.string x.t, Value.int IntKind.i64 x.n, Value.slice ax x.ks.length cx] 51)).alloc (Obj.cells #[Value.int IntKind.i64 0, Value.string { data := #[] }, Value.int IntKind.i64 0, Value.slice none 0 0] 51)) = W := ⟨_, rfl⟩
    have hb0 : Below w.heap.size w W0 := by rw [← hW0]; exact ((bel_a _ _).alloc (by simp) _)
    have hs0 : W0.heap.size = w.heap.size + 2 := by rw [← hW0]; simp
    have m0 : W0.heap[w.heap.size]? = some (.cells #[Value.int IntKind.i64 x.k, Value.string x.t, Value.int IntKind.i64 x.n, Value.slice ax x.ks.length cx] 51 (0, 0)) := by rw [← hW0]; exact hold _ (by simp) (hnew _ rfl)
    have m1 : W0.heap[w.heap.size + 1]? = some (.cells #[Value.int IntKind.i64 0, Value.string { data := #[] }, Value.int IntKind.i64 0, Value.slice none 0 0] 51 (0, 0)) := by rw [← hW0]; exact hnew _ (by simp)
    rw [hW0]
    clear hW0
    have four : ∀ W', Below W0.heap.size W0 W' → W'.cell? ⟨w.heap.size, 0, none⟩ = some (.int .i64 x.k) ∧ W'.cell? ⟨w.heap.size, 1, none⟩ = some (.string x.t) ∧ W'.cell? ⟨w.heap.size, 2, none⟩ = some (.int .i64 x.n) := fun W' b => by
      obtain ⟨⟨a, b, c, _⟩, _⟩ := box4 ((b.block w.heap.size (by omega)).trans m0)
      exact ⟨a, b, c⟩
    have HS0 : Hid (W0.heap.size = w.heap.size + 2) := hs0
    clear hs0
    have z0 : ∀ W', Below W0.heap.size W0.drew W' → Below W0.heap.size W0 W' := fun W' b => (Below.refl _ _).drew.trans b
    go_region_held3 (fun W' => W'.cell? ⟨w.heap.size, 0, none⟩ = some (.int .i64 x.k) ∧ W'.cell? ⟨w.heap.size, 1, none⟩ = some (.string x.t) ∧ W'.cell? ⟨w.heap.size, 2, none⟩ = some (.int .i64 x.n))
      (first | assumption | exact four _ (Below.refl _ _).drew | exact four _ ((Below.refl _ _).drew.alloc (Nat.le_refl _) _) | exact four _ hB1 | exact four _ (hB1.alloc hB1.size _) | exact four _ ((((hB1.setCell (Nat.le_refl _) _).setCell (Nat.le_refl _) _).setCell (Nat.le_refl _) _).setCell (Nat.le_refl _) _))
      (first
        | (go_at_call 17; refine (clone_anyT x.t _ (by omega)).mono ?_; rintro e W1 ⟨rfl, b1⟩; have hB1 : Below W0.heap.size W0 W1 := z0 _ b1)
        | (go_at_call 17; refine (clone_anyT x.t _ (by omega)).mono ?_; rintro e W1 ⟨rfl, b1⟩; have hB1 : Below W0.heap.size W0 W1 := ((Below.refl _ _).drew.alloc (Nat.le_refl _) _).trans (b1.mono (by simp)); have hz := box4 ((b1.block W0.heap.size (by simp)).trans (hnew _ rfl)); obtain ⟨⟨y0, y1, y2, y3⟩, y4, y5, y6, y7⟩ := hz))
    have hBC := hB1.alloc hB1.size (Obj.cells #[Value.int IntKind.i64 x.k, Value.string x.t, Value.int IntKind.i64 x.n, Value.slice none 0 0] 51)
    have mC := hnew (w := W1) (Obj.cells #[Value.int IntKind.i64 x.k, Value.string x.t, Value.int IntKind.i64 x.n, Value.slice none 0 0] 51) rfl
    have hCl := hB1.size
    generalize W1.alloc (Obj.cells #[Value.int IntKind.i64 x.k, Value.string x.t, Value.int IntKind.i64 x.n, Value.slice none 0 0] 51) = WC at *
    generalize W1.heap.size = C at *
    rotate_left
    have hBC := (((hB1.setCell (p := ⟨W0.heap.size, 0, none⟩) (Nat.le_refl _) (Value.int IntKind.i64 x.k)).setCell (p := ⟨W0.heap.size, 1, none⟩) (Nat.le_refl _) (Value.string x.t)).setCell (p := ⟨W0.heap.size, 2, none⟩) (Nat.le_refl _) (Value.int IntKind.i64 x.n)).setCell (p := ⟨W0.heap.size, 3, none⟩) (Nat.le_refl _) (Value.slice none 0 0)
    have mC := box4_set (Value.int IntKind.i64 x.k) (Value.string x.t) (Value.int IntKind.i64 x.n) (Value.slice none 0 0) ((b1.block W0.heap.size (by simp)).trans (hnew _ rfl))
    obtain ⟨C, hCe⟩ : ∃ C, C = W0.heap.size := ⟨_, rfl⟩
    have hCl : W0.heap.size ≤ C := by omega
    clear y0 y1 y2 y3 y4 y5 y6 y7
    rw [← hCe] at mC ⊢
    generalize hWC : ((((W1.setCell { block := C, off := 0 } (Value.int IntKind.i64 x.k)).setCell { block := C, off := 1 } (Value.string x.t)).setCell { block := C, off := 2 } (Value.int IntKind.i64 x.n)).setCell { block := C, off := 3 } (Value.slice none 0 0)) = WC at *
    replace hBC : Below W0.heap.size W0 WC := by rw [← hWC, hCe]; exact hBC
    clear hWC hCe
    rotate_left
    all_goals
      clear b1 hB1 four z0
      have belC : Below w.heap.size w WC := hb0.trans (hBC.mono hb0.size)
      have mR : WC.heap[w.heap.size + 1]? = some (.cells #[Value.int IntKind.i64 0, Value.string { data := #[] }, Value.int IntKind.i64 0, Value.slice none 0 0] 51 (0, 0)) := (hBC.block _ (by have := HS0.out; omega)).trans m1
      have mN : WC.heap[w.heap.size]? = some (.cells #[Value.int IntKind.i64 x.k, Value.string x.t, Value.int IntKind.i64 x.n, Value.slice ax x.ks.length cx] 51 (0, 0)) := (hBC.block _ (by have := HS0.out; omega)).trans m0
      have hC2 : w.heap.size + 2 ≤ C := by have := HS0.out; omega
      have hCs : C < WC.heap.size := (Array.getElem?_eq_some_iff.1 mC).1
      clear hBC hb0 m0 m1 hCl HS0
      obtain ⟨⟨_, _, _, e0⟩, _⟩ := box4 mN
      obtain ⟨⟨n0, n1, n2, n3⟩, ⟨g0, g1, g2, g3⟩⟩ := box4 mR
      obtain ⟨⟨d0, d1, d2, d3⟩, ⟨f0, f1, f2, f3⟩⟩ := box4 mC
      by_cases hn : 0 < x.ks.length
      case neg =>
        have e : x.ks = [] := List.length_eq_zero_iff.1 (by omega)
        have el : x.ks.length = 0 := by omega
        rw [el]
        rw [el] at e0
        go_wp2
        go_rounds 1
        refine bodyPost_ret (res_nd Tryz.results33 (box4_set _ _ _ _ mR) rfl) rfl ⟨_, rfl, ?_, (((belC.setCell (by simp) _).setCell (by simp) _).setCell (by simp) _).setCell (by simp) _⟩
        rw [e]
        exact .nil _
      obtain ⟨rfl, hSx, hbx⟩ := px hn
      clear px
      have hmk := fun W => make_nd x.ks.length lx2 W
      have al1 : ∀ o, (WC.alloc o).cell? ⟨w.heap.size, 3, none⟩ = some (Value.slice (some { block := bx, off := ox }) x.ks.length cx) := fun o => ((bel_a WC o).cell (p := ⟨w.heap.size, 3, none⟩) (by simp; omega)).trans e0
      have al2 : ∀ o, (WC.alloc o).cell? ⟨C, 3, none⟩ = some (Value.slice none 0 0) := fun o => ((bel_a WC o).cell (p := ⟨C, 3, none⟩) hCs).trans d3
      have al3 : ∀ o, (WC.alloc o).frozen? ⟨C, 3, none⟩ = false := fun o => ((bel_a WC o).frozen (p := ⟨C, 3, none⟩) hCs).trans f3
      have al4 : ∀ u o, ((WC.setCell ⟨C, 3, none⟩ u).alloc o).cell? ⟨w.heap.size, 3, none⟩ = some (Value.slice (some { block := bx, off := ox }) x.ks.length cx) := fun u o =>
        ((bel_a _ o).cell (p := ⟨w.heap.size, 3, none⟩) (by simp [World.setCell]; omega)).trans ((World.cell?_of_block (a := ⟨w.heap.size, 3, none⟩) (Below.heap_setCell _ ⟨C, 3, none⟩ _ _ (by simp; omega))).trans e0)
      go_wp2
      obtain ⟨W5, hW5⟩ : ∃ W, ((WC.setCell { block := C, off := 3 } (Value.slice (some { block := WC.heap.size, off := 0 }) x.ks.length x.ks.length)).alloc (Obj.cells (madeN x.ks.length) 51)) = W := ⟨_, rfl⟩
      have hsz5 : (WC.setCell { block := C, off := 3 } (Value.slice (some { block := WC.heap.size, off := 0 }) x.ks.length x.ks.length)).heap.size = WC.heap.size := by simp [World.setCell]
      have hs5 : W5.heap.size = WC.heap.size + 1 := by rw [← hW5]; simp [World.setCell]
      have b5 : Below w.heap.size w W5 := by rw [← hW5]; exact (belC.setCell (by simp; omega) _).alloc (by rw [hsz5]; omega) _
      have m5R : W5.heap[w.heap.size + 1]? = some (.cells #[Value.int IntKind.i64 0, Value.string { data := #[] }, Value.int IntKind.i64 0, Value.slice none 0 0] 51 (0, 0)) := by
        rw [← hW5]; exact hold _ (by rw [hsz5]; omega) ((Below.heap_setCell _ _ _ _ (by simp; omega)).trans mR)
      have m5C : W5.heap[C]? = some (.cells #[Value.int IntKind.i64 x.k, Value.string x.t, Value.int IntKind.i64 x.n, (Value.slice (some { block := WC.heap.size, off := 0 }) x.ks.length x.ks.length)] 51 (0, 0)) := by
        rw [← hW5]; exact hold _ (by rw [hsz5]; omega) (box4_set3 _ mC)
      have half : Half W5 WC.heap.size x.ks 0 (fun _ => default) (fun _ => WC.heap.size + 1) :=
        ⟨⟨madeN x.ks.length, by rw [← hW5]; exact hnew _ hsz5.symm, madeN_size _⟩, Nat.lt_succ_self _, fun i hi => by omega, by omega, fun i hi h => by omega, fun i hi h => by omega⟩
      have qx' := fun (W : World) (b : Below w.heap.size w W) (k : Nat) (hk : k < x.ks.length) => kid_at (qx k hk) (rx k hk) hbx b
      rw [hW5]
      clear hW5 hsz5 al1 al2 al3 al4 hmk mN mR mC e0 n0 n1 n2 n3 g0 g1 g2 g3 d0 d1 d2 d3 f0 f1 f2 f3 qx rx
      generalize WC.heap.size = BL at *
      have hCB : C < BL := hCs
      clear belC hCs
      go_loopw [26] (fun i wr => ∃ (k : Nat) (f : Nat → Value) (g : Nat → Nat), i = .int .i64 (k : Nat) ∧ k ≤ x.ks.length ∧ Below w.heap.size w wr ∧
          wr.heap[w.heap.size + 1]? = some (.cells #[Value.int IntKind.i64 0, Value.string { data := #[] }, Value.int IntKind.i64 0, Value.slice none 0 0] 51 (0, 0)) ∧
          wr.heap[C]? = some (.cells #[Value.int IntKind.i64 x.k, Value.string x.t, Value.int IntKind.i64 x.n, Value.slice (some { block := BL, off := 0 }) x.ks.length x.ks.length] 51 (0, 0)) ∧
          Half wr BL x.ks k f g) (fun i _ => x.ks.length - (intOf i).toNat)
      case atStart => exact ⟨0, _, _, rfl, by omega, b5, m5R, m5C, half⟩
      case round =>
        clear b5 m5R m5C half hs5
        obtain ⟨k, f, g, rfl, hk, bel, mR, mC, half⟩ := hrel
        obtain ⟨⟨d0, d1, d2, d3⟩, _⟩ := box4 mC
        by_cases hkl : k < x.ks.length
        · have iha := ih x.ks[k] (List.getElem_mem hkl)
          have zk := x.kid_size hkl
          have tk := Nd.tx_kid tx (List.getElem_mem hkl)
          obtain ⟨⟨u1, u2, u3, u4⟩, gx⟩ := qx' _ bel k hkl
          have nxt := fun (w' W3 : World) (v : Value) (h : Half w' BL x.ks k f g) (b : Below w'.heap.size w' W3) (hv : Sep W3 (fun b => w'.heap.size ≤ b ∧ b < W3.heap.size) v x.ks[k].ks) => h.next b hkl hv
          have sl0 := gx.sl
          clear qx' ih
          generalize x.ks[k] = xk at *
          generalize fx k = fxk at *
          obtain ⟨ak, ck, rfl⟩ := sl0
          obtain ⟨hCl, _⟩ := Array.getElem?_eq_some_iff.1 mC
          obtain ⟨wr2, hwr2⟩ : ∃ W, wr.alloc (Obj.cells #[Value.int IntKind.i64 xk.k, Value.string xk.t, Value.int IntKind.i64 xk.n, Value.slice ak xk.ks.length ck] 51) = W := ⟨_, rfl⟩
          have bw2 : Below wr.heap.size wr wr2 := by rw [← hwr2]; exact bel_a _ _
          have mK : wr2.heap[wr.heap.size]? = some (.cells #[Value.int IntKind.i64 xk.k, Value.string xk.t, Value.int IntKind.i64 xk.n, Value.slice ak xk.ks.length ck] 51 (0, 0)) := by rw [← hwr2]; exact hnew _ rfl
          have hl2 : wr.heap.size < wr2.heap.size := (Array.getElem?_eq_some_iff.1 mK).1
          have half2 := half.bel bw2
          have hBL := half.lo
          have hBL2 := half.hi
          have hBL3 := half.mono_g (Nat.zero_le k) (Nat.le_refl k)
          have cs : ∀ W' : World, W'.heap[C]? = wr.heap[C]? → W'.heap[wr.heap.size]? = wr2.heap[wr.heap.size]? → W'.cell? ⟨C, 3, none⟩ = some (Value.slice (some { block := BL, off := 0 }) x.ks.length x.ks.length) ∧ W'.cell? ⟨wr.heap.size, 0, none⟩ = some (.int .i64 xk.k) ∧ W'.cell? ⟨wr.heap.size, 1, none⟩ = some (.string xk.t) ∧ W'.cell? ⟨wr.heap.size, 2, none⟩ = some (.int .i64 xk.n) ∧ W'.cell? ⟨wr.heap.size, 3, none⟩ = some (.slice ak xk.ks.length ck) := fun W' e1 e2 => by
            obtain ⟨⟨_, _, _, q3⟩, _⟩ := box4 (e1.trans mC)
            obtain ⟨⟨r0, r1, r2, r3⟩, _⟩ := box4 (e2.trans mK)
            exact ⟨q3, r0, r1, r2, r3⟩
          have gx2 : LAt wr2.drew S (.slice ak xk.ks.length ck) xk.ks := gx.bel bw2.drew
          have iha' := iha wr2.drew S _ gx2 (by omega) tk
          have hst := cs wr2.drew (bw2.block C hCl) rfl
          have aft : ∀ W3 : World, Below wr2.heap.size wr2.drew W3 → (∃ u0 u1 u2 u3, W3.cell? ⟨BL, k * 4, none⟩ = some u0 ∧ W3.cell? ⟨BL, k * 4 + 1, none⟩ = some u1 ∧ W3.cell? ⟨BL, k * 4 + 2, none⟩ = some u2 ∧ W3.cell? ⟨BL, k * 4 + 3, none⟩ = some u3) ∧
              (W3.frozen? ⟨BL, k * 4, none⟩ = false ∧ W3.frozen? ⟨BL, k * 4 + 1, none⟩ = false ∧ W3.frozen? ⟨BL, k * 4 + 2, none⟩ = false ∧ W3.frozen? ⟨BL, k * 4 + 3, none⟩ = false) ∧ W3.heap[C]? = wr.heap[C]? ∧ W3.heap[wr.heap.size]? = wr2.heap[wr.heap.size]? := fun W3 b => by
            obtain ⟨cur, hc, hs⟩ := half2.row
            have hc3 := (b.block BL (by omega)).trans hc
            obtain ⟨⟨a0, p0⟩, q0⟩ := row_cells hc3 hs (j := k * 4) (by omega)
            obtain ⟨⟨a1, p1⟩, q1⟩ := row_cells hc3 hs (j := k * 4 + 1) (by omega)
            obtain ⟨⟨a2, p2⟩, q2⟩ := row_cells hc3 hs (j := k * 4 + 2) (by omega)
            obtain ⟨⟨a3, p3⟩, q3⟩ := row_cells hc3 hs (j := k * 4 + 3) (by omega)
            exact ⟨⟨a0, a1, a2, a3, p0, p1, p2, p3⟩, ⟨q0, q1, q2, q3⟩, (b.block C (by omega)).trans (bw2.block C hCl), b.block _ hl2⟩
          go_wp2_with fail
          clear hwr2
          go_region_held3 (fun W' => W'.cell? ⟨C, 3, none⟩ = some (Value.slice (some { block := BL, off := 0 }) x.ks.length x.ks.length) ∧ W'.cell? ⟨wr.heap.size, 0, none⟩ = some (.int .i64 xk.k) ∧ W'.cell? ⟨wr.heap.size, 1, none⟩ = some (.string xk.t) ∧ W'.cell? ⟨wr.heap.size, 2, none⟩ = some (.int .i64 xk.n) ∧ W'.cell? ⟨wr.heap.size, 3, none⟩ = some (.slice ak xk.ks.length ck))
            (first | assumption | exact cs _ j2 j3 | exact cs _ ((set4_other _ _ _ _ (Nat.ne_of_lt hCB)).trans j2) ((set4_other _ _ _ _ (Nat.ne_of_gt (by omega))).trans j3))
            (first
              | (go_at_call 33; refine iha'.mono ?_; rintro e W3 ⟨v3, rfl, l3, b3⟩; obtain ⟨a3, c3, rfl⟩ := l3.sl; unfold Nd.v; obtain ⟨⟨s0, s1, s2, s3, p0, p1, p2, p3⟩, ⟨q0, q1, q2, q3⟩, j2, j3⟩ := aft W3 b3))
          have half' := nxt wr2 W3 _ half2 ((Below.refl _ _).drew.trans b3) l3
          have bel3 : Below w.heap.size w W3 := (bel.trans (bw2.mono bel.size)).trans (((Below.refl _ _).drew.trans b3).mono (Nat.le_trans bel.size (Nat.le_of_lt hl2)))
          have bel4 := (((bel3.setCell (p := ⟨BL, k * 4, none⟩) (by simp; omega) (Value.int IntKind.i64 xk.k)).setCell (p := ⟨BL, k * 4 + 1, none⟩) (by simp; omega) (Value.string xk.t)).setCell (p := ⟨BL, k * 4 + 2, none⟩) (by simp; omega) (Value.int IntKind.i64 xk.n)).setCell (p := ⟨BL, k * 4 + 3, none⟩) (by simp; omega) (Value.slice a3 xk.ks.length c3)
          have mR4 := (set4_other (W := W3) (bl := BL) (o := k * 4) (b := w.heap.size + 1) (Value.int IntKind.i64 xk.k) (Value.string xk.t) (Value.int IntKind.i64 xk.n) (Value.slice a3 xk.ks.length c3) (by omega)).trans (((b3.block (w.heap.size + 1) (by show _ < wr2.heap.size; omega)).trans (bw2.block (w.heap.size + 1) (by omega))).trans mR)
          have mC4 := (set4_other (W := W3) (bl := BL) (o := k * 4) (b := C) (Value.int IntKind.i64 xk.k) (Value.string xk.t) (Value.int IntKind.i64 xk.n) (Value.slice a3 xk.ks.length c3) (by omega)).trans (j2.trans mC)
          clear aft cs iha iha' half half2 nxt hst l3 b3 bel3 j2 j3 p0 p1 p2 p3 q0 q1 q2 q3 mR mC mK gx gx2 u1 u2 u3 u4 d0 d1 d2 d3 bw2
          go_wp2
          go_roundw
          case rel => exact ⟨k + 1, _, _, by simp, by omega, bel4, mR4, mC4, half'⟩
          case measure => simp [intOf]; omega
        · obtain rfl : k = x.ks.length := by omega
          have sp := half.sep hn
          obtain ⟨⟨n0, n1, n2, n3⟩, ⟨g0, g1, g2, g3⟩⟩ := box4 mR
          clear half mC
          go_wp2
          refine bodyPost_ret (res_nd Tryz.results33 (box4_set _ _ _ _ mR) rfl) rfl ⟨_, rfl, (sp.keep (fun b hb hlt => set4_other _ _ _ _ ?_)).mono ?_, (((bel.setCell (by simp) _).setCell (by simp) _).setCell (by simp) _).setCell (by simp) _⟩
          · have := hb.1; omega
          · intro b hb
            have h1 := hb.1
            have h2 := hb.2
            refine ⟨by omega, ?_⟩
            rw [set4_size (bl := w.heap.size + 1) (o := 0)]; exact h2
attribute [local go_sem] Oper.semAt_some

theorem flats_elim : ∀ {l : List Nd} {y : Nd}, y ∈ flats l → ∃ x ∈ l, y ∈ x.flat
  | [], y, h => by rw [flats_nil] at h; cases h
  | x :: l, y, h => by
    rw [flats_cons] at h
    rcases List.mem_append.1 h with h | h
    · exact ⟨x, by simp, h⟩
    · obtain ⟨z, hz, hy⟩ := flats_elim h
      exact ⟨z, by simp [hz], hy⟩
theorem flat_sub (x : Nd) : ∀ y ∈ x.flat, y.size ≤ x.size ∧ ∀ z ∈ y.flat, z ∈ x.flat := by
  induction x using Nd.ind with
  | h x ih =>
    intro y hy
    rw [x.flat_eq] at hy
    rcases List.mem_cons.1 hy with rfl | hy
    · exact ⟨Nat.le_refl _, fun z hz => hz⟩
    · obtain ⟨u, hu, hyu⟩ := flats_elim hy
      obtain ⟨h1, h2⟩ := ih u hu y hyu
      have h3 := sizes_mem hu
      refine ⟨by rw [x.size_eq]; omega, fun z hz => ?_⟩
      rw [x.flat_eq]
      exact List.mem_cons_of_mem _ (flats_mem hu (h2 z hz))
theorem Nd.tx_sub {x y : Nd} (h : x.tx) (hy : y ∈ x.flat) : y.tx := fun z hz => h z ((flat_sub x y hy).2 z hz)

/-- what the walk over the places of a tree tells. -/
def PG (w0 : World) (T : Nat → Prop) (b0 o0 : Nat) (x0 : Nd) (k lo : Nat) (args : Array Value) (W : World) : Prop :=
  ∃ b o y, args = #[.int .i64 (k : Nat), .pointer (some ⟨b, o, none⟩)] ∧ PlT w0 b0 o0 x0 k b o y ∧ NAt w0 T b o y ∧ (∀ c, T c → W.heap[c]? = w0.heap[c]?) ∧ lo = W.heap.size
theorem rnd_of {w0 : World} {T : Nat → Prop} {b0 o0 : Nat} {x0 : Nd} {l m : Nat} {J Jx : Nat → World → Prop} (h : RndG (PG w0 T b0 o0 x0) T l m J Jx) : Rnd w0 T b0 o0 x0 l m J Jx :=
  fun k b o y W hP hN hag hm hj => h k W.heap.size _ W ⟨b, o, y, rfl, hP, hN, hag, rfl⟩ hm (Nat.le_refl _) hj
/-- a tree and a bool that are answered out of their cells. -/
theorem res_nd2 {fn : Func} {p q : Nat} (h : fn.results = #[.cell p 51, .cell q 4]) {W : World} {n n' : Nat} {a b c d u : Value} {t : TypeId} {tmps : Array Value} (hb : W.heap[n]? = some (.cells #[a, b, c, d] t (0, 0))) (hb' : ∃ t, W.heap[n']? = some (.cells #[u] t (0, 0))) (ht : tmps[p]?.getD undef = .pointer (some ⟨n, 0, none⟩)) (ht' : tmps[q]?.getD undef = .pointer (some ⟨n', 0, none⟩)) :
    (results fn tmps).run Tryz.prog W = .ok (.tuple #[.agg #[a, b, c, d], u]) W := by
  obtain ⟨⟨c0, c1, c2, c3⟩, _⟩ := box4 hb
  obtain ⟨d0, _⟩ := box1 hb'
  simp [results, h, go_sem, ht, ht', c0, c1, c2, c3, d0]
def zNT : Nd := .mk 0 ByteArray.empty 0 []

end Go.Proofs.YtpnljjcdlkjfhaaGreatDoor
