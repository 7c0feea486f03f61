/- Own text. Replace of package tree. -/
import Derived.Test.YtggahoefbcnaiaaDoorT11
namespace Go.Proofs.YtggahoefbcnaiaaDoor
open Go.RowKit
set_option linter.unusedVariables false
attribute [local go_sem] Oper.semAt_some

theorem four_set4 {W : World} {b o : Nat} {cur : Array Value} {t : TypeId} (h : W.heap[b]? = some (.cells cur t (0, 0))) (hs : o + 4 ≤ cur.size) (m : Nd) (v : Value) :
    Four ((((W.setCell ⟨b, o, none⟩ (.int .i64 m.k)).setCell ⟨b, o + 1, none⟩ (.string m.t)).setCell ⟨b, o + 2, none⟩ (.int .i64 m.n)).setCell ⟨b, o + 3, none⟩ v) b o m v := by
  have C := fun j => set4_cell (o := o) (n := 0) (.int .i64 m.k) (.string m.t) (.int .i64 m.n) v h j
  refine ⟨?_, ?_, ?_, ?_⟩ <;> (rw [C]; simp only [Array.getElem?_setIfInBounds, Array.size_setIfInBounds]) <;> simp <;> omega
theorem cell_set4 {W : World} {b o : Nat} {cur : Array Value} {t : TypeId} (h : W.heap[b]? = some (.cells cur t (0, 0))) (p q r s : Value) (j : Nat) (hj : ¬ (o ≤ j ∧ j < o + 4)) :
    ((((W.setCell ⟨b, o, none⟩ p).setCell ⟨b, o + 1, none⟩ q).setCell ⟨b, o + 2, none⟩ r).setCell ⟨b, o + 3, none⟩ s).cell? ⟨b, j, none⟩ = W.cell? ⟨b, j, none⟩ := by
  rw [set4_cell (n := 0) p q r s h j, cell_of_row W b _ _ _ _ h]
  simp only [Array.getElem?_setIfInBounds]
  rw [if_neg (by omega), if_neg (by omega), if_neg (by omega), if_neg (by omega)]

set_option maxRecDepth 100000 in
set_option maxHeartbeats 4000000 in
theorem replace_any (x m : Nd) (w : World) (S Sm : Nat → Prop) (v vm : Value) (i : Int) (hx : LAt w S v x.ks) (zx : x.size ≤ 4194304) (tx : x.tx) (hm : LAt w Sm vm m.ks) (zm : m.size ≤ 4194304) (tm : m.tx) :
    Calls Tryd.prog 22 #[x.v v, .int .i64 i, m.v vm] w fun e w' => Below w.heap.size w w' ∧
      ((∃ v' : Value, 0 ≤ i ∧ i < x.size ∧ e = .returned (.tuple #[(x.repl i.toNat m).v v', .bool true]) ∧ Sep w' (fun b => w.heap.size ≤ b ∧ b < w'.heap.size) v' (x.repl i.toNat m).ks) ∨
       ((i < 0 ∨ (x.size : Int) ≤ i) ∧ e = .returned (.tuple #[zN.v (.slice none 0 0), .bool false]))) := by
  obtain ⟨ax, cx, rfl⟩ := hx.sl
  obtain ⟨am, cm, rfl⟩ := hm.sl
  unfold Nd.v
  refine (callsIn_wide (n := 10)).1 ?_
  refine callsIn_of_wp_marks Tryd.func22 rfl trivial ?_ rfl
  simp only [Tryd.ntmps22, List.size_toArray, List.length_cons, List.length_nil, Nat.reduceAdd, Nat.reduceSub, Array.replicate_succ, Array.replicate_zero, List.push_toArray, List.append_toArray, List.nil_append, List.cons_append]
  obtain ⟨WA, hWA⟩ : ∃ W, (((((w.alloc (Obj.cells #[Value.int IntKind.i64 x.k, Value.string x.t, Value.int IntKind.i64 x.n, Value.slice ax x.ks.length cx] 24)).alloc (Obj.cells #[Value.int IntKind.i64 i] 3)).alloc (Obj.cells #[Value.int IntKind.i64 m.k, Value.string m.t, Value.int IntKind.i64 m.n, Value.slice am m.ks.length cm] 24)).alloc (Obj.cells #[Value.int IntKind.i64 0, Value.string { data := #[] }, Value.int IntKind.i64 0, Value.slice none 0 0] 24)).alloc (Obj.cells #[Value.bool false] 4)) = W := ⟨_, rfl⟩
  have hbA : Below w.heap.size w WA := by rw [← hWA]; exact ((((bel_a _ _).alloc (by simp) _).alloc (by simp <;> omega) _).alloc (by simp <;> omega) _).alloc (by simp <;> omega) _
  have hsA : WA.heap.size = w.heap.size + 5 := by rw [← hWA]; simp
  have m1 : ∃ t, WA.heap[w.heap.size + 1]? = some (.cells #[Value.int IntKind.i64 i] t (0, 0)) := by rw [← hWA]; exact ⟨_, hold _ (by simp <;> omega) (hold _ (by simp <;> omega) (hold _ (by simp <;> omega) (hnew _ (by simp))))⟩
  have m2 : WA.heap[w.heap.size + 1 + 1]? = some (.cells #[Value.int IntKind.i64 m.k, Value.string m.t, Value.int IntKind.i64 m.n, Value.slice am m.ks.length cm] 24 (0, 0)) := by rw [← hWA]; exact hold _ (by simp <;> omega) (hold _ (by simp) (hnew _ (by simp)))
  have m3 : WA.heap[w.heap.size + 1 + 1 + 1]? = some (.cells #[Value.int IntKind.i64 0, Value.string { data := #[] }, Value.int IntKind.i64 0, Value.slice none 0 0] 24 (0, 0)) := by rw [← hWA]; exact hold _ (by simp) (hnew _ (by simp))
  have m4 : ∃ t, WA.heap[w.heap.size + 1 + 1 + 1 + 1]? = some (.cells #[Value.bool false] t (0, 0)) := by rw [← hWA]; exact ⟨_, hnew _ (by simp)⟩
  have m0 : WA.heap[w.heap.size]? = some (.cells #[Value.int IntKind.i64 x.k, Value.string x.t, Value.int IntKind.i64 x.n, Value.slice ax x.ks.length cx] 24 (0, 0)) := by rw [← hWA]; exact hold _ (by simp <;> omega) (hold _ (by simp <;> omega) (hold _ (by simp <;> omega) (hold _ (by simp) (hnew _ rfl))))
  obtain ⟨⟨n0, n1, n2, n3⟩, _⟩ := box4 m0
  have cp := copy_any x WA _ _ (hx.bel hbA) zx tx
  gi_wp2_with (first
    | (refine ⟨trivial, ?_⟩; gi_at_call 15; refine (callsIn_wide.2 cp).mono ?_; rintro e WB ⟨v1, rfl, sp, bB⟩; obtain ⟨a1, c1, rfl⟩ := sp.sl; unfold Nd.v)
    | (refine ⟨trivial, ?_⟩; gi_at_call 39; refine (callsIn_wide.2 (places_in _ WB.heap.size 0)).mono ?_; rintro e w' ⟨rfl, t, rfl⟩))
  clear hWA n0 n1 n2 n3 m0 cp
  obtain ⟨C, hC⟩ : ∃ C, C = WB.heap.size := ⟨_, rfl⟩
  obtain ⟨W0, hW0⟩ : ∃ W, ((WB.alloc (Obj.cells #[Value.int IntKind.i64 x.k, Value.string x.t, Value.int IntKind.i64 x.n, Value.slice a1 x.ks.length c1] 24)).alloc (Obj.cells #[Value.pointer (some { block := WB.heap.size, off := 0 })] t)) = W := ⟨_, rfl⟩
  have hsB := bB.size
  have hb0 : Below WA.heap.size WA W0 := by rw [← hW0]; exact (bB.alloc hsB _).alloc (by simp <;> omega) _
  have hbw0 : Below w.heap.size w W0 := hbA.trans (hb0.mono hbA.size)
  have hs0 : W0.heap.size = C + 2 := by rw [← hW0, hC]; simp
  have m8 : W0.heap[C]? = some (.cells #[Value.int IntKind.i64 x.k, Value.string x.t, Value.int IntKind.i64 x.n, Value.slice a1 x.ks.length c1] 24 (0, 0)) := by rw [← hW0, hC]; exact hold _ (by simp) (hnew _ rfl)
  have m9 : W0.cell? ⟨C + 1, 0, none⟩ = some (Value.pointer (some { block := C, off := 0 })) := by rw [← hW0, hC]; exact (box1 ⟨_, hnew _ (by simp)⟩).1
  have sp0 : Sep W0 (fun b => w.heap.size + 5 ≤ b ∧ b < C) (Value.slice a1 x.ks.length c1) x.ks := by
    refine (sp.keep (fun b hb hl => ?_)).mono (fun b hb => ⟨by have := hb.1; omega, by have := hb.2; omega⟩)
    rw [← hW0]
    exact hold _ (by simp <;> omega) (hold _ (by omega) rfl)
  have hAC : w.heap.size + 5 ≤ C := by omega
  have f8 : Four W0 C 0 x (Value.slice a1 x.ks.length c1) := by
    obtain ⟨⟨c0, c1, c2, c3⟩, _⟩ := box4 m8
    exact ⟨c0, c1, c2, c3⟩
  have hN : NAt W0 (fun b => b ≤ C) C 0 x := ⟨_, Nat.le_refl _, f8, sp0.lat.mono (fun b hb => Nat.le_of_lt hb.2)⟩
  rw [hW0]
  rw [← hC]
  clear hW0 hC
  refine range_law (gf := 59) (lb := #[.pointer (some ⟨C + 1, 0, none⟩)]) rfl (enters_of Tryd.func59 (by kernel_rfl) rfl) (PG W0 (fun b => b ≤ C) C 0 x) (fun b => b ≤ C) x.size (by rintro k lo args W ⟨b, o, y, rfl, _⟩; rfl) (fun b hb => by have : b ≤ C := hb; omega)
    (places_it hN (fun b hb => by have : b ≤ C := hb; omega) m9 zx)
    (fun k W => (i < 0 ∨ ((k : Nat) : Int) ≤ i) ∧ Below (C + 1) W0 W)
    (fun c k W => c = .ret ∧ ((k : Nat) : Int) = i ∧ k < x.size ∧ ∃ (v' : Value), W.heap[w.heap.size + 1 + 1 + 1]? = some (.cells #[.int .i64 (x.repl k m).k, .string (x.repl k m).t, .int .i64 (x.repl k m).n, v'] 24 (0, 0)) ∧ (∃ t, W.heap[w.heap.size + 1 + 1 + 1 + 1]? = some (.cells #[Value.bool true] t (0, 0))) ∧ Sep W (fun b => w.heap.size + 5 ≤ b ∧ b < W.heap.size) v' (x.repl k m).ks ∧ Below w.heap.size w W)
    (fun k X Z h hB => ⟨h.1, h.2.trans (hB.mono (by omega))⟩)
    ?jx ⟨by omega, Below.refl _ _⟩
    (fun k lo args a' W' => ∃ b o, args = #[.int .i64 (k : Nat), .pointer (some ⟨b, o, none⟩)] ∧ a' = { tmps := #[Value.agg #[Value.int IntKind.i64 x.k, Value.string x.t, Value.int IntKind.i64 x.n, Value.slice ax x.ks.length cx], Value.int IntKind.i64 i, Value.agg #[Value.int IntKind.i64 m.k, Value.string m.t, Value.int IntKind.i64 m.n, Value.slice am m.ks.length cm], Value.pointer (some { block := w.heap.size, off := 0 }), Value.pointer (some { block := w.heap.size + 1, off := 0 }), Value.pointer (some { block := w.heap.size + 1 + 1, off := 0 }), Value.pointer (some { block := w.heap.size + 1 + 1 + 1, off := 0 }), Value.pointer (some { block := w.heap.size + 1 + 1 + 1 + 1, off := 0 }), Value.pointer (some { block := C, off := 0 }), .int .i64 (k : Nat), .pointer (some ⟨b, o, none⟩), Value.agg #[Value.int IntKind.i64 x.k, Value.string x.t, Value.int IntKind.i64 x.n, Value.slice ax x.ks.length cx], Value.agg #[Value.int IntKind.i64 x.k, Value.string x.t, Value.int IntKind.i64 x.n, Value.slice a1 x.ks.length c1], .func (.func 59) #[] #[.pointer (some ⟨C + 1, 0, none⟩)], .int .i64 (k : Nat), .pointer (some ⟨b, o, none⟩), undef, undef, undef, undef, undef, undef, undef, undef, undef], defers := [] }) ?assign ?body ?done ?stop
  case jx =>
    rintro c k X l r o ⟨rfl, hki, hkl, v', c1, c2, sp, hb⟩ hl hr
    have ne : ∀ b, b < w.heap.size + 5 → b ≠ l := fun b hb e => by omega
    refine ⟨rfl, hki, hkl, v', (World.putObj_heap_other (ne _ (by omega))).trans c1, box1_of c2 (World.putObj_heap_other (ne _ (by omega))), ?_, hb.trans (below_put _ (by omega))⟩
    rw [put_size]
    refine sp.keepC (fun b cur t hb hc => World.putObj_heap_other (fun e => ?_))
    subst e
    rw [hr] at hc
    cases hc
  case assign =>
    rintro l k lo args W K ⟨b, o, y, rfl, _⟩ _ _ hK
    gi_wp2
    exact hK _ _ (Below.refl _ _) ⟨b, o, rfl, rfl⟩
  case body =>
    rintro l k lo args a' W Wa W2 hG ⟨hlt, hbw⟩ hlo hba ⟨b, o, hargs, rfl⟩ hl hllo ho hs _ hb2
    obtain ⟨b', o', y, e, hP, hNy, hag, rfl⟩ := hG
    obtain ⟨rfl, rfl⟩ : b = b' ∧ o = o' := by rw [hargs] at e; simpa using e
    clear e hargs hNy hag
    have hsa := hba.size
    have hw2 : Below (C + 1) W0 W2 := hbw.trans (hb2.mono (by omega))
    have hAW : Below (w.heap.size + 5) WA W2 := (hb0.mono (by omega)).trans (hw2.mono (by omega))
    have p1 := box1_of m1 (hAW.block _ (by omega))
    have p2 := (hAW.block (w.heap.size + 1 + 1) (by omega)).trans m2
    have hszW : C + 2 ≤ W2.heap.size := by have := hw2.size; omega
    obtain ⟨d1, _⟩ := box1 p1
    by_cases hik : ((k : Nat) : Int) = i
    · have hkl : k < x.size := by
        have := (List.getElem?_eq_some_iff.1 hP.flat).1
        rwa [x.flat_len] at this
      have hmW : LAt W2 Sm (Value.slice am m.ks.length cm) m.ks := hm.bel (hbw0.trans (hw2.mono (by omega)))
      obtain ⟨⟨u1, u2, u3, u4⟩, _⟩ := box4 p2
      have cp := copy_any m W2 _ _ hmW zm tm
      have blk : b ≤ C ∧ ∃ cur, W0.heap[b]? = some (.cells cur 24 (0, 0)) ∧ o + 4 ≤ cur.size := by
        rcases hP.block sp0 f8 with ⟨rfl, rfl⟩ | ⟨hb, h⟩
        · exact ⟨Nat.le_refl _, _, m8, by simp⟩
        · exact ⟨Nat.le_of_lt hb.2, h⟩
      obtain ⟨hbC, cur, hcur, hcs⟩ := blk
      have aft : ∀ W3 : World, Below W2.heap.size W2 W3 → (∃ s0 s1 s2 s3, W3.cell? ⟨b, o, none⟩ = some s0 ∧ W3.cell? ⟨b, o + 1, none⟩ = some s1 ∧ W3.cell? ⟨b, o + 2, none⟩ = some s2 ∧ W3.cell? ⟨b, o + 3, none⟩ = some s3) ∧
          (W3.frozen? ⟨b, o, none⟩ = false ∧ W3.frozen? ⟨b, o + 1, none⟩ = false ∧ W3.frozen? ⟨b, o + 2, none⟩ = false ∧ W3.frozen? ⟨b, o + 3, none⟩ = false) ∧ W3.heap[b]? = some (.cells cur 24 (0, 0)) ∧ Below (C + 1) W0 W3 := fun W3 b3 => by
        have hw3 := hw2.trans (b3.mono (by omega))
        have hc3 := (hw3.block b (by omega)).trans hcur
        obtain ⟨⟨a0, q0⟩, r0⟩ := row_cells hc3 rfl (j := o) (by omega)
        obtain ⟨⟨a1, q1⟩, r1⟩ := row_cells hc3 rfl (j := o + 1) (by omega)
        obtain ⟨⟨a2, q2⟩, r2⟩ := row_cells hc3 rfl (j := o + 2) (by omega)
        obtain ⟨⟨a3, q3⟩, r3⟩ := row_cells hc3 rfl (j := o + 3) (by omega)
        exact ⟨⟨a0, a1, a2, a3, q0, q1, q2, q3⟩, ⟨r0, r1, r2, r3⟩, hc3, hw3⟩
      have lns : ∀ (W3 : World) (v3 : Value), Below W2.heap.size W2 W3 → Sep W3 (fun b => W2.heap.size ≤ b ∧ b < W3.heap.size) v3 m.ks → ∀ W4, ((((W3.setCell ⟨b, o, none⟩ (.int .i64 m.k)).setCell ⟨b, o + 1, none⟩ (.string m.t)).setCell ⟨b, o + 2, none⟩ (.int .i64 m.n)).setCell ⟨b, o + 3, none⟩ v3) = W4 →
          ∃ v4, (W4.cell? ⟨C, 0, none⟩ = some (.int .i64 (x.repl k m).k) ∧ W4.cell? ⟨C, 1, none⟩ = some (.string (x.repl k m).t) ∧ W4.cell? ⟨C, 2, none⟩ = some (.int .i64 (x.repl k m).n) ∧ W4.cell? ⟨C, 3, none⟩ = some v4) ∧ Sep W4 (fun c => (w.heap.size + 5 ≤ c ∧ c < C) ∨ (W2.heap.size ≤ c ∧ c < W3.heap.size)) v4 (x.repl k m).ks ∧
            W4.heap[w.heap.size + 1 + 1 + 1]? = some (.cells #[Value.int IntKind.i64 0, Value.string { data := #[] }, Value.int IntKind.i64 0, Value.slice none 0 0] 24 (0, 0)) ∧ (∃ t, W4.heap[w.heap.size + 1 + 1 + 1 + 1]? = some (.cells #[Value.bool false] t (0, 0))) ∧ Below w.heap.size w W4 ∧ W4.heap.size = W3.heap.size ∧ (∀ c, W0.heap.size ≤ c → W4.heap[c]? = W3.heap[c]?) := fun W3 v3 b3 sp3 W4 e4 => by
        obtain ⟨_, _, hc3, hw3⟩ := aft W3 b3
        have hbB : w.heap.size + 5 ≤ b := by
          rcases hP.block sp0 f8 with ⟨rfl, rfl⟩ | ⟨hb, h⟩
          · exact hAC
          · exact hb.1
        have oth : ∀ c, c ≠ b → W4.heap[c]? = W3.heap[c]? := fun c hc => by rw [← e4]; exact set4_other _ _ _ _ hc
        have lz := hP.lens (w' := W4) (m := m) (vm := v3) (M := fun b => W2.heap.size ≤ b ∧ b < W3.heap.size) (by rw [← e4]; exact four_set4 hc3 hcs m v3) (sp3.keep (fun c hc _ => oth c (by have := hc.1; omega)))
          (fun j hj => by rw [← e4, cell_set4 hc3 _ _ _ _ j hj, cell_of_row W3 b _ _ _ _ hc3, cell_of_row W0 b _ _ _ _ hcur])
          (fun cur' h => by rw [hcur] at h; cases h; rw [← e4]; exact ⟨_, set4_block _ _ _ _ hc3, by simp⟩)
          sp0 f8 (fun h => by have := h.2; omega) (fun c h1 h2 => by have := h1.1; have := h2.2; omega)
          (fun c hc hne => (oth c hne).trans (hw3.block c (by rcases hc with h | h <;> omega)))
        obtain ⟨v4, h4, sp4⟩ := lz
        have hA3 : Below (w.heap.size + 5) WA W3 := (hb0.mono (by omega)).trans (hw3.mono (by omega))
        refine ⟨v4, h4, sp4, (oth _ (by omega)).trans ((hA3.block _ (by omega)).trans m3), box1_of m4 ((oth _ (by omega)).trans (hA3.block _ (by omega))), ?_, by rw [← e4]; exact set4_size _ _ _ _, fun c hc => oth c (by omega)⟩
        rw [← e4]
        exact ((((hbw0.trans (hw3.mono (by omega))).setCell (by simp <;> omega) _).setCell (by simp <;> omega) _).setCell (by simp <;> omega) _).setCell (by simp <;> omega) _
      subst hik
      generalize hrp : x.repl k m = rp at *
      gi_wp2_with (refine ⟨trivial, ?_⟩; gi_at_call 15; refine (CallsIn.inRound l (callsIn_wide.2 cp)).mono ?_; rintro e W3 ⟨v3, rfl, sp3, b3⟩; obtain ⟨a3, c3, rfl⟩ := sp3.sl; unfold Nd.v; obtain ⟨⟨s0, s1, s2, s3, q0, q1, q2, q3⟩, ⟨r0, r1, r2, r3⟩, hc3, hw3⟩ := aft W3 b3; obtain ⟨W4, e4⟩ : ∃ W4, ((((W3.setCell ⟨b, o, none⟩ (.int .i64 m.k)).setCell ⟨b, o + 1, none⟩ (.string m.t)).setCell ⟨b, o + 2, none⟩ (.int .i64 m.n)).setCell ⟨b, o + 3, none⟩ (Value.slice a3 m.ks.length c3)) = W4 := ⟨_, rfl⟩; obtain ⟨v4, ⟨z0, z1, z2, z3⟩, sp4, y3, y4, bw4, sz4, kp4⟩ := lns W3 _ b3 sp3 W4 e4; obtain ⟨a4, c4, rfl⟩ := sp4.sl; obtain ⟨⟨i0, i1, i2, i3⟩, ⟨j0, j1, j2, j3⟩⟩ := box4 y3; obtain ⟨i4, j4⟩ := box1 y4)
      have r2' := (Below.heap_setCell _ ⟨w.heap.size + 1 + 1 + 1 + 1, 0, none⟩ (Value.bool true) (w.heap.size + 1 + 1 + 1) (by simp)).trans (box4_set (.int .i64 rp.k) (.string rp.t) (.int .i64 rp.n) (.slice a4 rp.ks.length c4) y3)
      have r3' := box1_set (Value.bool true) (box1_of y4 (set4_other (bl := w.heap.size + 1 + 1 + 1) (o := 0) (b := w.heap.size + 1 + 1 + 1 + 1) (.int .i64 rp.k) (.string rp.t) (.int .i64 rp.n) (.slice a4 rp.ks.length c4) (by simp)))
      have kp : ∀ c, w.heap.size + 5 ≤ c → (((((W4.setCell ⟨w.heap.size + 1 + 1 + 1, 0, none⟩ (.int .i64 rp.k)).setCell ⟨w.heap.size + 1 + 1 + 1, 0 + 1, none⟩ (.string rp.t)).setCell ⟨w.heap.size + 1 + 1 + 1, 0 + 2, none⟩ (.int .i64 rp.n)).setCell ⟨w.heap.size + 1 + 1 + 1, 0 + 3, none⟩ (.slice a4 rp.ks.length c4)).setCell ⟨w.heap.size + 1 + 1 + 1 + 1, 0, none⟩ (Value.bool true)).heap[c]? = W4.heap[c]? := fun c hc =>
        (Below.heap_setCell _ _ _ _ (by simp <;> omega)).trans (set4_other _ _ _ _ (by omega))
      have hz := b3.size
      have hz4 : W2.heap.size ≤ W4.heap.size := by omega
      refine ⟨⟨rfl, rfl, hkl, _, by rw [hrp]; exact r2', r3', by rw [hrp]; exact (sp4.keep (fun c hc _ => kp c (by rcases hc with h | h <;> omega))).mono (fun c hc => ⟨by rcases hc with h | h <;> omega, by simp only [World.setCell, Array.size_modify]; rcases hc with h | h <;> omega⟩), ?_⟩, by simpa [World.setCell] using hz4, fun c hc hB => (kp c (by omega)).trans ((kp4 c hB).trans (b3.block c (by omega)))⟩
      exact ((((bw4.setCell (by simp <;> omega) _).setCell (by simp <;> omega) _).setCell (by simp <;> omega) _).setCell (by simp <;> omega) _).setCell (by simp <;> omega) _
    · gi_wp2
      exact ⟨⟨by omega, hw2⟩, Nat.le_refl _, fun _ _ _ => rfl⟩
  case done =>
    rintro D W hD ⟨hlt, hbw⟩ hK
    have hAW : Below (w.heap.size + 5) WA W := (hb0.mono (by omega)).trans (hbw.mono (by omega))
    have q2 := (hAW.block (w.heap.size + 1 + 1 + 1) (by omega)).trans m3
    have q3 := box1_of m4 (hAW.block _ (by omega))
    have hbW := hbw0.trans (hbw.mono (by omega))
    obtain ⟨⟨s0, s1, s2, s3⟩, ⟨f0, f1, f2, f3⟩⟩ := box4 q2
    obtain ⟨s4, f4⟩ := box1 q3
    gi_wp2
    have ne : ∀ b, b < w.heap.size + 5 → b ≠ D := fun b hb e => by omega
    have q2' := (Below.heap_setCell _ ⟨w.heap.size + 1 + 1 + 1 + 1, 0, none⟩ (Value.bool false) (w.heap.size + 1 + 1 + 1) (by simp)).trans (box4_set (.int .i64 0) (.string { data := #[] }) (.int .i64 0) (.slice none 0 0) q2)
    have q3' := box1_set (Value.bool false) (box1_of q3 (set4_other (bl := w.heap.size + 1 + 1 + 1) (o := 0) (b := w.heap.size + 1 + 1 + 1 + 1) (.int .i64 0) (.string { data := #[] }) (.int .i64 0) (.slice none 0 0) (by simp)))
    have hK' := (Below.heap_setCell _ ⟨w.heap.size + 1 + 1 + 1 + 1, 0, none⟩ (Value.bool false) D (by simp <;> omega)).trans ((set4_other (bl := w.heap.size + 1 + 1 + 1) (o := 0) (b := D) (.int .i64 0) (.string { data := #[] }) (.int .i64 0) (.slice none 0 0) (fun e => ne _ (by omega) e.symm)).trans hK)
    refine ⟨by simp, .inl ⟨_, _, rfl, run_takeDeferred hK', ?_⟩⟩
    refine ⟨_, res_nd2 Tryd.results22 ((World.putObj_heap_other (ne _ (by omega))).trans q2') (box1_of q3' (World.putObj_heap_other (ne _ (by omega)))) rfl rfl, ?_, .inr ⟨hlt, rfl⟩⟩
    exact (((((hbW.setCell (by simp <;> omega) _).setCell (by simp <;> omega) _).setCell (by simp <;> omega) _).setCell (by simp <;> omega) _).setCell (by simp <;> omega) _).trans (below_put _ (by omega))
  case stop =>
    rintro D c k W hD ⟨rfl, hki, hkl, v', c1, c2, sp, hb⟩ hK
    gi_wp2
    refine ⟨by simp, .inl ⟨_, _, rfl, run_takeDeferred hK, ?_⟩⟩
    have ne : ∀ b, b < w.heap.size + 5 → b ≠ D := fun b hb e => by omega
    subst hki
    refine ⟨_, res_nd2 Tryd.results22 ((World.putObj_heap_other (ne _ (by omega))).trans c1) (box1_of c2 (World.putObj_heap_other (ne _ (by omega)))) rfl rfl, hb.trans (below_put _ (by omega)), .inl ⟨v', by omega, by omega, rfl, ?_⟩⟩
    rw [put_size]
    refine (sp.keepC (fun b cur t hb hc => World.putObj_heap_other (fun e => ?_))).mono (fun b hb => ⟨by have := hb.1; omega, hb.2⟩)
    subst e
    rw [hK] at hc
    cases hc
end Go.Proofs.YtggahoefbcnaiaaDoor
