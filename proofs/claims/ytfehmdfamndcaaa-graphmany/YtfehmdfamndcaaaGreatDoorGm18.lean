/- Own text. The program's Lex. -/
import Derived.Test.YtfehmdfamndcaaaGreatDoorGm16
import Derived.Test.YtfehmdfamndcaaaGreatDoorGm12
import Derived.Test.YtfehmdfamndcaaaGreatDoorGm17
namespace Go.Proofs.YtfehmdfamndcaaaGreatDoor
open Go.RowKit
set_option linter.unusedVariables false

theorem row_base {w : World} {base base' : Nat} {e : TypeId} {size : Nat} {v : Value} {n : Nat} {xs : List Value} (h : w.ownsRow base e size v n xs) (hb : base' ≤ base) : w.ownsRow base' e size v n xs := by
  refine ⟨h.1, ?_⟩
  rcases h.2 with h2 | ⟨g, cap, cur, h1, h2, h3⟩
  · exact .inl h2
  · exact .inr ⟨g, cap, cur, h1, Nat.le_trans hb h2, h3⟩
theorem Kept.row {b : Nat} {w w' : World} {base : Nat} {e : TypeId} {size : Nat} {v : Value} {n : Nat} {xs : List Value} (h : Kept b w w') (hr : w.ownsRow base e size v n xs) (hb : b < base) : w'.ownsRow base e size v n xs := by
  refine hr.kept (row := some b) ⟨h.os, h.tape, h.output, h.size, fun k hk hne => h.block k hk (fun e => hne (by rw [e]))⟩ ?_
  cases hv : v.ownBlock with
  | none => exact .inl rfl
  | some k =>
    refine .inr (fun e => ?_)
    have := (hr.lt k hv).1
    cases e
    omega

/-- the places of a text from a on: how the list unfolds. -/
theorem lexL_abs (a : Nat) (l : Bs) (sc : Bool) : lexL a (l.drop a) sc =
    if (absP l a).2 = false then .error ((absP l a).1, 40)
    else if l.drop (absP l a).1 = [] then .ok []
    else match nextL (l.drop (absP l a).1) sc with
      | .error e => .error ((absP l a).1, e)
      | .ok x => consL (x.1, (absP l a).1) (lexL ((absP l a).1 + x.2) (l.drop ((absP l a).1 + x.2)) sc) := by
  rw [lexL_eq]
  unfold absP
  simp only [List.drop_drop, Nat.add_assoc]
  split
  · rfl
  · split
    · rfl
    · cases nextL (l.drop (a + (pastL (l.drop a)).1)) sc <;> rfl

set_option maxHeartbeats 4000000 in
set_option maxRecDepth 100000 in
theorem lex_any (s : ByteArray) (sc : Bool) (w : World) (he : Env w) (hs : s.size < 4294967281) : Calls Tryz.prog 37 #[.string s, .bool sc] w fun e w' =>
    lexRes (lexL 0 s.data.toList sc) w.heap.size e w' ∧ Below w.heap.size w w' := by
  obtain ⟨i0, hi, hz0, hz1, hz2⟩ := info_parts info_tok
  have hsl : Hid (s.size = s.data.toList.length) := Lib.size_eq s
  have ho := he.over
  go_enter Tryz.func37, Tryz.ntmps37
  go_wp2
  go_loopw [7] (fun v7 W => ∃ (a : Nat) (d : List (Tk × Nat)), a ≤ s.size ∧ d.length ≤ a ∧ Rdr W w.heap.size s a sc ∧ ToksAt W (w.heap.size + 1) v7 (ints d) ∧ Below w.heap.size w W ∧
      Hid (lexL 0 s.data.toList sc = preL d (lexL a (s.data.toList.drop a) sc))) (fun _ W => s.size - placeOf w.heap.size W)
  case atStart => exact ⟨0, [], Nat.zero_le _, by simp, heap_alloc_new w _, World.ownsRow_nil _ _ _ _, (Below.refl _ _).alloc (Nat.le_refl _) _, by simp [Hid, preL_nil]⟩
  case round =>
    obtain ⟨a, d, ha, hda, hR, ht, hb, hh⟩ := hrel
    have hnx := nextP_own w.heap.size s a sc wr (env_below he hb) ho hR ha hs
    have hle := lexL_abs a s.data.toList sc
    have hwr := hR.cells.2.2.2.2
    unfold nxtRes at hnx
    have hap : a ≤ (absP s.data.toList a).1 := Nat.le_add_right _ _
    generalize absP s.data.toList a = P at *
    obtain ⟨p, ok⟩ := P
    simp only at hnx hle hap
    cases ok
    · rw [if_pos rfl] at hle
      simp only [if_pos] at hnx
      have HR : Hid (lexL 0 s.data.toList sc = .error (p, 40)) := by
        show _ = _
        rw [hh.out, hle]
        rfl
      clear hle hh
      simp only [tokV] at hnx
      go_wp2_with (go_at_call 53; refine hnx.mono ?_; rintro e W1 ⟨a', ha', ⟨rfl, rfl⟩, hR1, hK1⟩; obtain ⟨q0, q1, q2, qf, qb⟩ := hR1.cells)
      have hbW := hb.trans (hK1.below (Nat.le_refl _) hb.size)
      go_quiet (fail)
      go_wp2
      go_ret3
      refine ⟨?_, (hbW.alloc hbW.size _).trans ((drewN_below4 _ _).mono (by have := hbW.size; simp; omega))⟩
      rw [HR.out]
      rfl
    · rw [if_neg (by simp)] at hle
      simp only [Bool.true_eq_false, if_false] at hnx
      by_cases hend : s.data.toList.drop p = []
      · rw [if_pos hend] at hle
        simp only [if_pos hend] at hnx
        have HR : Hid (lexL 0 s.data.toList sc = .ok d) := by
          show _ = _
          rw [hh.out, hle]
          simp [preL]
        clear hle hh hend
        simp only [tokV] at hnx
        go_wp2_with (go_at_call 53; refine hnx.mono ?_; rintro e W1 ⟨a', ha', rfl, hR1, hK1⟩)
        have hbW := hb.trans (hK1.below (Nat.le_refl _) hb.size)
        go_ret3
        refine ⟨?_, hbW.alloc hbW.size _⟩
        rw [HR.out]
        exact ⟨_, rfl, row_base ((hK1.row ht (by omega)).alloc _) (by omega)⟩
      · rw [if_neg hend] at hle
        simp only [if_neg hend] at hnx
        cases hnl : nextL (s.data.toList.drop p) sc with
        | error c =>
          rw [hnl] at hle
          simp only [hnl] at hnx
          have HR : Hid (lexL 0 s.data.toList sc = .error (p, c)) := by
            show _ = _
            rw [hh.out, hle]
            rfl
          have hc0 : ((c : Int) == 0) = false := int_eqb (by rcases next_err hnl with h | h <;> omega)
          clear hle hh hend hnl
          simp only [tokV] at hnx
          go_wp2_with (go_at_call 53; refine hnx.mono ?_; rintro e W1 ⟨a', ha', ⟨rfl, rfl⟩, hR1, hK1⟩; obtain ⟨q0, q1, q2, qf, qb⟩ := hR1.cells)
          have hbW := hb.trans (hK1.below (Nat.le_refl _) hb.size)
          go_quiet (fail)
          go_wp2
          go_ret3
          refine ⟨?_, (hbW.alloc hbW.size _).trans ((drewN_below4 _ _).mono (by have := hbW.size; simp; omega))⟩
          rw [HR.out]
          rfl
        | ok x =>
          have hx := next_len hend hnl
          have hkd := (next_text_at hnl).2
          rw [List.length_drop, ← hsl.out] at hx
          rw [hnl] at hle
          simp only [hnl] at hnx
          simp only at hle
          have HR : Hid (lexL 0 s.data.toList sc = preL (d ++ [(x.1, p)]) (lexL (p + x.2) (s.data.toList.drop (p + x.2)) sc)) := by
            show _ = _
            rw [hh.out, hle, preL_cons]
          clear hle hh hend hnl
          obtain ⟨⟨t1, t2, t3⟩, n⟩ := x
          simp only at hx HR hkd
          simp only [tokV] at hnx
          have ht1 : (t1 == 0) = false := int_eqb (by omega)
          have hil := ints_length d
          go_wp2_with (first
            | (go_at_call 53; refine hnx.mono ?_; rintro e W1 ⟨a', ha', ⟨rfl, rfl⟩, hR1, hK1⟩; have hbW := hb.trans (hK1.below (Nat.le_refl _) hb.size); have qb := hR1.cells.2.2.2.2)
            | (at_builtin; refine wpList_append_own _ rfl _ _ 101 rfl (w.heap.size + 1) 118 i0 _ 4 40 Tryz.underlying101 hi hz0 hz1 hz2 rfl (by decide) _ _ _ rfl (((hK1.row ht (Nat.lt_succ_self _)).alloc _).alloc _) ⟨_, 0, none⟩ 1 1 (tokCells ((t1, t2, t3), (p : Int))) rfl rfl (cells_new2 _ #[.int .i64 t1, .string ⟨t2.toArray⟩, .int .i64 t3, .int .i64 (p : Int)] _ _ (by simp)) (by intro u hu; simp [tokCells] at hu; rcases hu with rfl | rfl | rfl | rfl <;> rfl) (by unfold maxLen; omega) (by omega) (by simp; omega) ?_; intro v1 W3 ho1 hg1 hn1))
          have hR3 : Rdr W3 w.heap.size s (p + n) sc := (hg1.block _ (by simp; omega) (fun e => by have := (ht.lt _ e.symm).1; omega)).trans ((hR1.new _).new _)
          refine ⟨⟨p + n, d ++ [((t1, t2, t3), p)], ha', by simp; omega, hR3, ?_, ?_, HR⟩, ?_⟩
          · rw [ints_snoc]
            exact toks_app ho1
          · exact ((hbW.alloc hbW.size _).alloc (by have := hbW.size; simp; omega) _).grown hg1 (by have := hbW.size; simp; omega) (fun j hj => by have := (ht.lt j hj).1; omega)
          · rw [place_rdr hR, place_rdr hR3]
            omega
end Go.Proofs.YtfehmdfamndcaaaGreatDoor
