/- Own text. The program's token. -/
import Derived.Test.YtaiefheejgfefaaDoorLA
import Derived.Test.YtaiefheejgfefaaDoorL3
namespace Go.Proofs.YtaiefheejgfefaaDoor
open Go.RowKit
set_option linter.unusedVariables false

theorem token_res {W : World} {n : Nat} {a b c d : Value} {tmps : Array Value} (hb : W.heap[n]? = some (.cells #[a, b, c, d] 36)) (ht : tmps[4]?.getD undef = .pointer (some ⟨n, 0, none⟩)) :
    (results Tryd.f31 tmps).run Tryd.prog W = .ok (.tuple #[.agg #[a, b, c, d], tmps.getD 5 undef, tmps.getD 6 undef]) W := by
  obtain ⟨⟨c0, c1, c2, c3⟩, _⟩ := four_of hb
  simp [results, Tryd.results31, go_sem, ht, c0, c1, c2, c3]
theorem tokRes_ex {n : Nx} {e : Ending} (h : tokRes n e) : ∃ (t1 : Int) (X : ByteArray) (t3 m c : Int), e = .returned (.tuple #[.agg #[.int .i64 t1, .string X, .int .i64 t3, .int .i64 0], .int .i64 m, .int .i64 c]) := by
  cases n with
  | error c => exact ⟨_, _, _, _, _, h⟩
  | ok x => exact ⟨_, _, _, _, _, h⟩
theorem dec1_some {l : Bs} (h : l ≠ []) : dec1 l = (decL l).1 := by unfold dec1; rw [if_neg h]
theorem quote_dec (l : Bs) (h : l ≠ []) (q : Nat) (hq : q < 128) : atL l 0 = q ↔ dec1 l = q := by
  rw [dec1_some h]
  obtain ⟨lo1, lo2⟩ := decL_low l
  constructor
  · intro e; rw [lo2 (by omega)]; exact e
  · intro e; rw [(lo1 (by omega)).1]; exact e

set_option maxHeartbeats 4000000 in
set_option maxRecDepth 100000 in
theorem token_own (b : Nat) (s : ByteArray) (sc : Bool) (w : World) (he : Env w) (hc : w.cell? ⟨b, 2, none⟩ = some (.bool sc)) (hs : s.size < 4294967281) (hp0 : 0 < s.size) :
    Calls Tryd.prog 31 #[.pointer (some ⟨b, 0, none⟩), .string s] w fun e w' => tokRes (nextL s.data.toList sc) e ∧ Below w.heap.size w w' := by
  have hne : s.data.toList ≠ [] := fun e => by rw [Lib.size_eq, e] at hp0; simp at hp0
  have hltc := World.block_lt_of_cell? w _ hc
  have hal := fun o => (Below.refl w.heap.size w).alloc (Nat.le_refl _) o
  have hdc := fun o => decode_own s _ (env_below he (hal o))
  have hcell : ∀ W, Below w.heap.size w W → W.cell? ⟨b, 2, none⟩ = some (.bool sc) := fun W hb => (hb.cell (p := ⟨b, 2, none⟩) hltc).trans hc
  have hbn := fun W (hb : Below w.heap.size w W) => begins_own b (dec1 s.data.toList : Nat) sc W (hcell W hb)
  have hdg := fun W => digit_any (dec1 s.data.toList : Nat) W
  have hbg := begB_dec1 s.data.toList sc
  have hdd : digitB (dec1 s.data.toList : Nat) = digC (atL s.data.toList 0) := by rw [dec1_some hne]; exact (digC_dec _).symm
  rw [hbg] at hbn
  rw [hdd] at hdg
  clear hbg hdd
  by_cases hN : 0 < begL s.data.toList sc
  · have hnm := fun W (hb : Below w.heap.size w W) => name_own b s sc W (env_below he hb) (hcell W hb) hs (by omega)
    have hn0 := (nameL_pos s.data.toList sc).2 (by omega)
    have HR : Hid (nextL s.data.toList sc = .ok (((if wordB (s.data.toList.take (nameL s.data.toList sc)) then 2 else 1), s.data.toList.take (nameL s.data.toList sc), 0), nameL s.data.toList sc)) := by
      show _ = _
      unfold nextL
      rw [if_pos hn0]
    rw [decide_eq_true hN] at hbn
    simp only [tokV] at hnm
    clear hN hcell hdg
    generalize (if wordB (s.data.toList.take (nameL s.data.toList sc)) then (2 : Int) else 1) = K at *
    generalize s.data.toList.take (nameL s.data.toList sc) = x at *
    generalize nameL s.data.toList sc = n at *
    go_enter Tryd.func31, Tryd.ntmps31
    go_wp2_with (first
      | (go_at_call 46; refine (hdc _).mono ?_; rintro e W1 ⟨m, rfl, hb1⟩; have hbw : Below w.heap.size w W1 := (hal _).trans (hb1.mono (by simp)))
      | (go_at_call 47; refine (hbn _ hbw).mono ?_; rintro e W ⟨rfl, rfl⟩)
      | (go_at_call 48; refine (hnm _ hbw).mono ?_; rintro e W2 ⟨rfl, hb2⟩; obtain ⟨⟨c0, c1, c2, c3⟩, f0, f1, f2, f3⟩ := four_of (heap_at2 hb2 (four_new hb1))))
    refine bodyPost_ret (token_res (four_set (heap_at2 hb2 (four_new hb1))) rfl) rfl ⟨by rw [HR.out]; rfl, ?_⟩
    exact four_below (hbw.trans (hb2.mono hbw.size)) (Nat.le_refl _)
  · have hn0 : ¬ 0 < nameL s.data.toList sc := fun h => hN (by have := (nameL_pos s.data.toList sc).1 h; omega)
    rw [decide_eq_false hN] at hbn
    cases hD : digC (atL s.data.toList 0)
    · rw [hD] at hdg
      by_cases hQ : atL s.data.toList 0 = 34 ∨ atL s.data.toList 0 = 39
      · have HR : Hid (nextL s.data.toList sc = unqNx s.data.toList) := by
          show _ = _
          unfold nextL
          rw [if_neg hn0, hD, if_neg (by simp), if_pos hQ]
        have hqt := fun W => quoted_own s W hs
        have hQ2 : (((dec1 s.data.toList : Nat) : Int) == 34) = true ∨ ((((dec1 s.data.toList : Nat) : Int) == 34) = false ∧ (((dec1 s.data.toList : Nat) : Int) == 39) = true) := by
          rcases hQ with h | h
          · exact .inl (by rw [(quote_dec _ hne 34 (by omega)).1 h]; rfl)
          · exact .inr ⟨by rw [(quote_dec _ hne 39 (by omega)).1 h]; rfl, by rw [(quote_dec _ hne 39 (by omega)).1 h]; rfl⟩
        clear hN hcell hQ hD hn0 hne
        generalize dec1 s.data.toList = R at *
        rcases hQ2 with q1 | ⟨q1, q2⟩
        all_goals
          go_enter Tryd.func31, Tryd.ntmps31
          go_wp2_with (first
            | (go_at_call 46; refine (hdc _).mono ?_; rintro e W1 ⟨m, rfl, hb1⟩; have hbw : Below w.heap.size w W1 := (hal _).trans (hb1.mono (by simp)))
            | (go_at_call 47; refine (hbn _ hbw).mono ?_; rintro e W ⟨rfl, rfl⟩)
            | (go_at_call 49; refine (hdg _).mono ?_; rintro e W ⟨rfl, rfl⟩)
            | (go_at_call 51; refine (hqt _).mono ?_; rintro e W2 ⟨hr, hb2⟩; obtain ⟨t1, X, t3, m2, cc, rfl⟩ := tokRes_ex hr; obtain ⟨⟨c0, c1, c2, c3⟩, f0, f1, f2, f3⟩ := four_of (heap_at2 hb2 (four_new hb1))))
          refine bodyPost_ret (token_res (four_set (heap_at2 hb2 (four_new hb1))) rfl) rfl ⟨by rw [HR.out]; exact hr, ?_⟩
          exact four_below (hbw.trans (hb2.mono hbw.size)) (Nat.le_refl _)
      · have HR : Hid (nextL s.data.toList sc = signNx s.data.toList) := by
          show _ = _
          unfold nextL
          rw [if_neg hn0, hD, if_neg (by simp), if_neg hQ]
        have hsg := fun W (hb : Below w.heap.size w W) => sign_own s W (env_below he hb)
        have q1 : (((dec1 s.data.toList : Nat) : Int) == 34) = false := int_eqb (fun e => hQ (.inl ((quote_dec _ hne 34 (by omega)).2 (by omega))))
        have q2 : (((dec1 s.data.toList : Nat) : Int) == 39) = false := int_eqb (fun e => hQ (.inr ((quote_dec _ hne 39 (by omega)).2 (by omega))))
        clear hN hcell hQ hD hn0 hne
        generalize dec1 s.data.toList = R at *
        go_enter Tryd.func31, Tryd.ntmps31
        go_wp2_with (first
          | (go_at_call 46; refine (hdc _).mono ?_; rintro e W1 ⟨m, rfl, hb1⟩; have hbw : Below w.heap.size w W1 := (hal _).trans (hb1.mono (by simp)))
          | (go_at_call 47; refine (hbn _ hbw).mono ?_; rintro e W ⟨rfl, rfl⟩)
          | (go_at_call 49; refine (hdg _).mono ?_; rintro e W ⟨rfl, rfl⟩)
          | (go_at_call 52; refine (hsg _ hbw).mono ?_; rintro e W2 ⟨hr, hb2⟩; obtain ⟨t1, X, t3, m2, cc, rfl⟩ := tokRes_ex hr; obtain ⟨⟨c0, c1, c2, c3⟩, f0, f1, f2, f3⟩ := four_of (heap_at2 hb2 (four_new hb1))))
        refine bodyPost_ret (token_res (four_set (heap_at2 hb2 (four_new hb1))) rfl) rfl ⟨by rw [HR.out]; exact hr, ?_⟩
        exact four_below (hbw.trans (hb2.mono hbw.size)) (Nat.le_refl _)
    · rw [hD] at hdg
      have HR : Hid (nextL s.data.toList sc = numbL s.data.toList sc) := by
        show _ = _
        unfold nextL
        rw [if_neg hn0, if_pos hD]
      have hnb := fun W (hb : Below w.heap.size w W) => number_own b s sc W (env_below he hb) (hcell W hb) hs hp0
      clear hN hcell hD hn0 hne
      generalize dec1 s.data.toList = R at *
      go_enter Tryd.func31, Tryd.ntmps31
      go_wp2_with (first
        | (go_at_call 46; refine (hdc _).mono ?_; rintro e W1 ⟨m, rfl, hb1⟩; have hbw : Below w.heap.size w W1 := (hal _).trans (hb1.mono (by simp)))
        | (go_at_call 47; refine (hbn _ hbw).mono ?_; rintro e W ⟨rfl, rfl⟩)
        | (go_at_call 49; refine (hdg _).mono ?_; rintro e W ⟨rfl, rfl⟩)
        | (go_at_call 50; refine (hnb _ hbw).mono ?_; rintro e W2 ⟨hr, hb2⟩; obtain ⟨t1, X, t3, m2, cc, rfl⟩ := tokRes_ex hr; obtain ⟨⟨c0, c1, c2, c3⟩, f0, f1, f2, f3⟩ := four_of (heap_at2 hb2 (four_new hb1))))
      refine bodyPost_ret (token_res (four_set (heap_at2 hb2 (four_new hb1))) rfl) rfl ⟨by rw [HR.out]; exact hr, ?_⟩
      exact four_below (hbw.trans (hb2.mono hbw.size)) (Nat.le_refl _)
end Go.Proofs.YtaiefheejgfefaaDoor
