/- Own text. A Load on both tables, the list spoilt behind it. -/
import Derived.Test.YtoipggaepkedmaaVR4
namespace Go.Proofs.Ytoipggaepkedmaa
open Go.RowKit Go.Maps
set_option linter.unusedVariables false

/-- a row that may be spoilt, place by place. -/
def SpoR (W : World) (A : Option Addr) (g n : Nat) : Prop := 0 < n → A = some ⟨g, 0, none⟩ ∧ ∃ cur, W.heap[g]? = some (.cells cur 44) ∧ n * 2 ≤ cur.size
theorem spoR_of_row {W : World} {base : Nat} {v : Value} {n : Nat} {xs : List Value} (h : W.ownsRow base 44 2 v n xs) : ∃ A c g, v = .slice A n c ∧ (0 < n → base ≤ g ∧ g < W.heap.size) ∧ SpoR W A g n := by
  rcases h.2 with ⟨rfl, h0⟩ | ⟨g, cap, cur, rfl, hb, hg, hn, _, hcs, _⟩
  · subst h0; exact ⟨none, 0, 0, rfl, fun h => by omega, fun h => by omega⟩
  · exact ⟨_, cap, g, rfl, fun _ => ⟨hb, (Array.getElem?_eq_some_iff.1 hg).1⟩, fun _ => ⟨rfl, cur, hg, by omega⟩⟩
theorem spoR_set {W : World} {A : Option Addr} {g n : Nat} (h : SpoR W A g n) (i : Nat) (u : Value) : SpoR (W.setCell ⟨g, i, none⟩ u) A g n := fun hn => by
  obtain ⟨hA, cur, hg, hc⟩ := h hn
  refine ⟨hA, cur.setIfInBounds i u, ?_, by simpa using hc⟩
  show (W.heap.modify g _)[g]? = _
  rw [Array.getElem?_modify, if_pos rfl, hg]
  rfl
theorem SpoR.off {W W' : World} {A : Option Addr} {g n : Nat} {S : Nat → Prop} (h : SpoR W A g n) (k : Off S W W') (hg : 0 < n → g < W.heap.size ∧ ¬ S g) : SpoR W' A g n := fun hn => by
  obtain ⟨hA, cur, hc, hl⟩ := h hn
  exact ⟨hA, cur, (k.block g (hg hn).1 (hg hn).2).trans hc, hl⟩

theorem fat_keep {w w' : World} {v : Value} {F : Fls} (h : FAt w v F) (k : Below w.heap.size w w') : FAt w' v F := by
  rcases h with h | ⟨bl, of, c, rfl, hc, hb⟩
  · exact .inl h
  · refine .inr ⟨bl, of, c, rfl, fun i hi => ?_, Nat.lt_of_lt_of_le hb k.size⟩
    have := hc i hi
    have e := k.block bl hb
    exact ⟨(World.cell?_of_block (a := ⟨bl, _, none⟩) e).trans this.1, (World.cell?_of_block (a := ⟨bl, _, none⟩) e).trans this.2⟩

set_option maxHeartbeats 8000000 in
set_option maxRecDepth 100000 in
theorem step_load (W0 w : World) (tb mb rb : Nat) (v : Value) (L F : Fls) (N : Int) (p b : ByteArray) (fv : Value) (h : Two w W0.heap.size tb mb rb v L) (hw : Below W0.heap.size W0 w) (hf : FAt W0 fv F) (hF : F.length * 32 ≤ 140737488355328) (hz : ∀ x ∈ F, x.1.size ≤ 281474976710656) :
    Calls Try.prog 10 #[.pointer (some ⟨tb, 0, none⟩), .pointer (some ⟨rb, 0, none⟩), .agg #[.int .i64 3, .int .i64 N, .string p, .string b, fv]] w (Left2 W0 tb rb L F) := by
  have hsw := hw.size
  have h1 := h.alloc (.cells #[.int .i64 3, .int .i64 N, .string p, .string b, fv] 31)
  have hw1 := hw.alloc hsw (.cells #[.int .i64 3, .int .i64 N, .string p, .string b, fv] 31)
  obtain ⟨q0, q1, q2, q3, q4⟩ := box_cells w (.int .i64 3) (.int .i64 N) (.string p) (.string b) fv
  have hx := h.t.ltM
  have hxt := h.t.ltT
  have hxr := h.r.ltR
  have hbt := h.bt
  have hbm := h.bm
  have hbr := h.br
  have ess := sameB_self F
  have hln : (ldL F L).length ≤ max (L.length + 1) F.length := by
    unfold ldL
    split <;> omega
  obtain ⟨fa, fn, fc, rfl⟩ : ∃ a n c, fv = .slice a n c := by
    rcases hf with ⟨_, a, c, rfl⟩ | ⟨bl, of, c, rfl, _⟩
    · exact ⟨_, _, _, rfl⟩
    · exact ⟨_, _, _, rfl⟩
  go_enter Try.func10, Try.ntmps10
  go_wp2_with (first
    | (at_builtin; refine wpList_app _ rfl _ _ rfl (w.heap.size + 1) _ [] rfl (World.ownsRow_nil _ _ _ _) _ F rfl (fsrc_of_fat (fat_keep hf hw1)) (by simp; omega) (by simp) ?_; intro o1 W2 ho1 hg1 ha1; have hrow : W2.ownsRow (w.heap.size + 1) 44 2 o1 F.length (flat F) := ho1; have c2 : Below (w.alloc (.cells #[.int .i64 3, .int .i64 N, .string p, .string b, .slice fa fn fc] 31)).heap.size (w.alloc (.cells #[.int .i64 3, .int .i64 N, .string p, .string b, .slice fa fn fc] 31)) W2 := (Below.refl _ _).grown hg1 (Nat.le_refl _) (fun j hj => by cases hj); have h2 := h1.below c2; have hw2 := hw1.trans (c2.mono (by simp; omega)); have q42 := below_cell c2 (by simp) q4; have z2 : w.heap.size < W2.heap.size := (by have := c2.size; simp at this; omega); obtain ⟨A1, c1, g, rfl, hgb, hspo⟩ := spoR_of_row hrow; clear ho1 hg1 ha1)
    | (go_at_call 17; refine (load_any _ tb mb L F _ h2.t (fat_of_row hrow) (by omega) hz).mono ?_; rintro e W3 ⟨nb, rfl, t3, hnb, k3⟩; have q43 := off_cell k3 z2 (by omega) q42; have hw3 := belOff hw2 k3 hw2.size (fun i hi => by omega); have hrow3 := row_off hrow k3 (fun j hj => by have := (hrow.lt j hj).1; omega); have r3 := h2.r.off k3 (by have := h.tr; omega) (fun j hj => (h.vs j hj).1); have z3 := k3.size; have hsp3 := hspo.off k3 (fun hn => ⟨(hgb hn).2, by have := (hgb hn).1; omega⟩))
    | (go_at_call 12; refine (same_any _ _ _ F F (fat_of_row hrow3) (fat_keep hf hw3) (by omega) (by omega)).mono ?_; rw [ess]; rintro e W4 ⟨rfl, n4, rfl⟩))
  go_loopw [10] (fun i wr => ∃ k : Nat, i = .int .i64 (k : Nat) ∧ k ≤ F.length ∧ Off (fun i => i = g ∧ 0 < F.length) W3 wr ∧ SpoR wr A1 g F.length) (fun i _ => F.length - (intOf i).toNat)
  case atStart => exact ⟨0, rfl, by omega, Off.of_below (below_drewN (Below.refl _ W3) _), hsp3⟩
  case round =>
    obtain ⟨j, rfl, hj, hbr4, hsp⟩ := hrel
    have hbrs := hbr4.size
    by_cases hjl : j < F.length
    · obtain ⟨hA, cur, hg, hcs⟩ := hsp (by omega)
      have hia : ∀ W, (Instr.indexAt 26 (.slice A1 F.length c1) (.int .i64 (j : Int))).run Try.prog W = .ok (.pointer (some ⟨g, j * 2, none⟩)) W := fun W => by
        rw [hA]
        have := idx_file W g 0 F.length c1 j hjl
        simpa using this
      have d2 : wr.cell? ⟨g, j * 2 + 1, none⟩ = some cur[j * 2 + 1] := by rw [cell_of_row wr g _ _ _ _ hg]; simp
      have f2 := frozen_of_row wr g (j * 2 + 1) _ _ hg
      clear hA
      go_wp2
      exact ⟨⟨j + 1, by simp, by omega, Off.setCell (S := fun i => i = g ∧ 0 < F.length) (p := ⟨g, j * 2 + 1, none⟩) hbr4 (.inl ⟨rfl, by omega⟩) _, spoR_set hsp _ _⟩, by simp [intOf]; omega⟩
    · have hgS : ∀ i, i < W3.heap.size → i ≠ g ∨ F.length = 0 → ¬ (i = g ∧ 0 < F.length) := fun i _ hi he => by omega
      have hw4 : Below W0.heap.size W0 wr := belOff hw3 hbr4 hw3.size (fun i hi => by have := (hgb hi.2).1; omega)
      have q44 := off_cell hbr4 (by omega) (fun he => by have := (hgb he.2).1; omega) q43
      have t4 := t3.off hbr4 (fun he => by have := (hgb he.2).1; omega) (fun he => by
        have := hgb he.2
        rcases hnb with hnb | hnb <;> omega)
      have r4 := r3.off hbr4 (fun he => by have := (hgb he.2).1; omega) (fun j hj he => by
        have h5 := h.r.ltV j hj
        have := (hgb he.2).1
        omega)
      go_wp2_with (go_at_call 18; refine (rload_any _ rb v L F _ r4 (fat_keep hf hw4) hF).mono ?_; rintro e W5 ⟨v5, rfl, r5, hv5, k5⟩; have hw5 := belOff hw4 k5 hw4.size (fun i hi => by omega))
      have hnr : nb ≠ rb := hnb.elim (fun e => by have := h.mr; omega) (fun e => by omega)
      have hvs : ∀ j, v5.ownBlock = some j → j ≠ tb ∧ j ≠ nb ∧ j ≠ rb := fun j hj => by
        have l1 := t4.ltT
        have l2 := t4.ltM
        rcases hv5 with rfl | hv5
        · have h5 := h.vs j hj
          have h6 := h.r.ltV j hj
          refine ⟨h5.1, ?_, h5.2.2⟩
          rcases hnb with hnb | hnb
          · rw [hnb]; exact h5.2.1
          · omega
        · have := hv5 j hj
          omega
      have hf5 : Two W5 W0.heap.size tb nb rb v5 (ldL F L) := ⟨t4.off k5 h.tr hnr, r5, h.tr, hnr, hvs, hbt, hnb.elim (fun e => by omega) (fun e => by omega), hbr⟩
      go_ret
      exact ⟨by simp, nb, v5, _, hf5, hw5, hln⟩

end Go.Proofs.Ytoipggaepkedmaa
