/- Own text. The program's Show, and its words. The program's Show, walked. -/
import Derived.Test.YtaiefheejgfefaaDoorL10
import Derived.Test.YtaiefheejgfefaaDoorX12
namespace Go.Proofs.YtaiefheejgfefaaDoor
open Go.RowKit
set_option linter.unusedVariables false

theorem tok_eql (W : World) (t1 t3 ta s1 s3 sa : Int) (X Y : ByteArray) :
    (binOp .eql 36 (.agg #[.int .i64 t1, .string X, .int .i64 t3, .int .i64 ta]) (.agg #[.int .i64 s1, .string Y, .int .i64 s3, .int .i64 sa])).run Tryd.prog W = .ok (.bool ((t1 == s1) && ((X.toList == Y.toList) && ((t3 == s3) && (ta == sa))))) W := by
  have a3 := Tryd.isAgg3
  have a9 := Tryd.isAgg9
  rw [run_eql_struct, run_equalIn_struct W 9999 _ _ _ tok_struct tok_held, tok_fields]
  have u3 := Tryd.underlying3
  have u9 := Tryd.underlying9
  cases e1 : (t1 == s1) <;> cases e2 : (X.toList == Y.toList) <;> cases e3 : (t3 == s3) <;> cases e4 : (ta == sa) <;> simp [Op.eqFields, go_sem, a3, a9, u3, u9, e1, e2, e3, e4]
theorem tok_cells4 {w : World} {base g c : Nat} {x : Tk × Nat} (h : ToksAt w base (.slice (some ⟨g, 0, none⟩) 1 c) (ints [x])) :
    w.cell? ⟨g, 0, none⟩ = some (.int .i64 x.1.1) ∧ w.cell? ⟨g, 1, none⟩ = some (.string ⟨x.1.2.1.toArray⟩) ∧ w.cell? ⟨g, 2, none⟩ = some (.int .i64 x.1.2.2) ∧ w.cell? ⟨g, 3, none⟩ = some (.int .i64 (x.2 : Int)) := by
  refine ⟨?_, ?_, ?_, ?_⟩
  · rw [h.cellAt 0 (by decide)]; rfl
  · rw [h.cellAt 1 (by decide)]; rfl
  · rw [h.cellAt 2 (by decide)]; rfl
  · rw [h.cellAt 3 (by decide)]; rfl
theorem just_err {s : Bs} {c : Nat × Nat} (h : lexL 0 s true = .error c) (t : Tk) : justB s t = false := by unfold justB; rw [h]
theorem just_not {s : Bs} {ts : List (Tk × Nat)} (h : lexL 0 s true = .ok ts) (hn : ts.length ≠ 1) (t : Tk) : justB s t = false := by
  unfold justB
  rw [h]
  match ts, hn with
  | [], _ => rfl
  | [x], hn => exact absurd rfl hn
  | x :: y :: r, _ => rfl
theorem just_one {s : Bs} {x : Tk × Nat} (h : lexL 0 s true = .ok [x]) (t : Tk) : justB s t = (x.1 == t && x.2 == 0) := by unfold justB; rw [h]

set_option maxHeartbeats 4000000 in
set_option maxRecDepth 100000 in
theorem isJust_any (S : ByteArray) (k n a : Int) (x : Bs) (w : World) (he : Env w) (hs : S.size < 4294967281) :
    Calls Tryd.prog 22 #[.string S, tokV (k, x, n) a] w fun e w' => e = .returned (.bool (justB S.data.toList (k, x, n))) ∧ Below w.heap.size w w' := by
  have hal := fun o => (Below.refl w.heap.size w).alloc (Nat.le_refl _) o
  have hlex := fun W h => lex_any S true W h hs
  have hg := tok_guard
  have heql := tok_eql
  simp only [tokV]
  generalize hX : (⟨x.toArray⟩ : ByteArray) = X
  go_enter Tryd.func22, Tryd.ntmps22
  go_wp2_with fail
  refine (hlex _ (env_below he (hal _))).mono ?_
  rintro e W2 ⟨hres, hb2⟩
  have hbw : Below w.heap.size w W2 := (hal _).trans (hb2.mono (by simp))
  obtain ⟨⟨c0, c1, c2, c3⟩, _⟩ := four_of (four_new hb2)
  cases hl : lexL 0 S.data.toList true with
  | error c =>
    rw [hl] at hres
    have HB : Hid (justB S.data.toList (k, x, n) = false) := just_err hl _
    have hres2 : e = .returned (.tuple #[.slice none 0 0, .int .i64 (c.1 : Nat), .int .i64 (c.2 : Nat)]) := hres
    subst hres2
    clear hl hres hlex
    go_wp2
    go_quiet (fail)
    go_wp2
    go_ret
    exact ⟨by rw [HB.out]; rfl, hbw.trans ((drewN_below4 _ _).mono hbw.size)⟩
  | ok ts =>
    rw [hl] at hres
    obtain ⟨v, rfl, hrow⟩ := hres
    by_cases h1 : ts.length = 1
    · obtain ⟨y, rfl⟩ : ∃ y, ts = [y] := List.length_eq_one_iff.1 h1
      obtain ⟨g, cg, rfl, _, _⟩ := rowSome hrow (by simp [ints])
      obtain ⟨e0, e1, e2, e3⟩ := tok_cells4 hrow
      have HB := just_one hl (k, x, n)
      obtain ⟨⟨yk, yx, yn⟩, ya⟩ := y
      rw [tk_eq] at HB
      have heq := eq_texts yx x
      rw [hX] at heq
      simp only at e0 e1 e2 e3 HB
      generalize (⟨yx.toArray⟩ : ByteArray) = Y at *
      rw [← heq] at HB
      have HBH : Hid (justB S.data.toList (k, x, n) = ((yk == k) && ((Y.toList == X.toList) && ((yn == n) && ((ya : Int) == 0))))) := by
        show _ = _
        rw [HB, Bool.and_assoc, Bool.and_assoc]
        congr 3
        rw [Bool.eq_iff_iff]
        simp
      have hln : (ints [((yk, yx, yn), ya)]).length = 1 := rfl
      rw [hln]
      clear hl hrow hlex HB heq h1 hln
      go_wp2
      go_quiet (fail)
      go_wp2
      go_ret
      exact ⟨by rw [HBH.out]; rfl, hbw.trans ((drewN_below4 _ _).mono hbw.size)⟩
    · have HB : Hid (justB S.data.toList (k, x, n) = false) := just_not hl h1 _
      obtain ⟨A, cA, rfl⟩ := rowForm hrow
      have hn1 : (((ints ts).length : Int) == 1) = false := int_eqb (by rw [ints_length]; omega)
      clear hl hrow hlex h1
      generalize (ints ts).length = N at *
      go_wp2
      go_quiet (fail)
      go_wp2
      go_ret
      exact ⟨by rw [HB.out]; rfl, hbw.trans ((drewN_below4 _ _).mono hbw.size)⟩
end Go.Proofs.YtaiefheejgfefaaDoor
namespace Go.Proofs.YtaiefheejgfefaaDoor
open Go.RowKit
set_option linter.unusedVariables false

theorem cells8_eq (l : Bs) : cells8 l = Lib.byteCells l := rfl
theorem TAt.neg {w : World} {v : Value} {ts : List (Tk × Int)} (h : TAt w v ts) : ∃ A c, v = .slice A ts.length c := by
  obtain ⟨A, c, h1, _⟩ := h
  exact ⟨A, c, h1⟩

set_option maxHeartbeats 4000000 in
set_option maxRecDepth 100000 in
theorem show_any (v : Value) (ts : List (Tk × Int)) (w : World) (he : Env w) (ht : TAt w v ts) (hn : ts.length ≤ 1048576) (hx : ∀ x ∈ ts, x.1.2.1.length ≤ 4194304 ∧ -9223372036854775808 ≤ x.1.2.2 ∧ x.1.2.2 ≤ 9223372036854775807) :
    Calls Tryd.prog 13 #[v] w fun e w' => e = .returned (.string ⟨(showL (kindsI ts)).toArray⟩) ∧ Below w.heap.size w w' := by
  obtain ⟨A, c, rfl, hel⟩ := ht
  go_enter Tryd.func13, Tryd.ntmps13
  go_wp2
  go_loopw [9] (fun v9 W => ∃ (k : Nat) (ss : List Bs), v9 = .int .i64 k ∧ k ≤ ts.length ∧ ss.length = k ∧ (joinB ss).length ≤ k * 29360150 ∧ Lib.IsBuilderF 51 5 w.heap.size w.heap.size (Lib.byteCells (joinB ss)) W ∧ Below w.heap.size w W ∧ Hid (textsL ((kindsI ts).take k) = some ss)) (fun v9 _ => ts.length - (intOf v9).toNat)
  case atStart => exact ⟨0, [], rfl, Nat.zero_le _, rfl, by simp [joinB], Lib.IsBuilderF.of (Lib.fresh_isBuilder 51 5 w), (Below.refl _ _).alloc (Nat.le_refl _) _, by simp [Hid, textsL]⟩
  case round =>
    obtain ⟨k, ss, rfl, hk, hsk, hsz, hI, hb, hh⟩ := hrel
    by_cases hkl : k < ts.length
    · have hk2 : (k : Int) < (ts.length : Int) := by omega
      obtain ⟨bl, of, q1, q2, q3, q4, q5, q6⟩ := hel k hkl
      obtain ⟨x1, x0, x2⟩ := hx ts[k] (List.getElem_mem hkl)
      have c0 := (hb.cell (p := ⟨bl, of + k * 4, none⟩) q2).trans q3
      have c1 := (hb.cell (p := ⟨bl, of + k * 4 + 1, none⟩) q2).trans q4
      have c2 := (hb.cell (p := ⟨bl, of + k * 4 + 2, none⟩) q2).trans q5
      have c3 := (hb.cell (p := ⟨bl, of + k * 4 + 3, none⟩) q2).trans q6
      have HK : Hid ((kindsI ts)[k]? = some ts[k].1) := by show _ = _; simp [kindsI, hkl]
      generalize ts[k] = tk at *
      obtain ⟨⟨t1, t2, t3⟩, ta⟩ := tk
      simp only at x1 x0 x2 c0 c1 c2 c3 HK
      clear q3 q4 q5 q6
      have hwb : w.heap.size < wr.heap.size := by
        rcases hI with h | h <;> exact h.lt
      have hal := fun o => (Below.refl wr.heap.size wr).alloc (Nat.le_refl _) o
      have henv := env_below he hb
      have hsh := fun W h => shown_any t1 t3 ta t2 W h x0 x2 x1
      have hln := shown_len (t1, t2, t3) x0 x2
      simp only at hln
      have hS : (⟨(shownL (t1, t2, t3)).toArray⟩ : ByteArray).size ≤ 29360149 := by rw [Lib.size_eq]; simp; omega
      have hju := fun W h => isJust_any ⟨(shownL (t1, t2, t3)).toArray⟩ t1 t3 ta t2 W h (by omega)
      rw [show (⟨(shownL (t1, t2, t3)).toArray⟩ : ByteArray).data.toList = shownL (t1, t2, t3) from rfl] at hju
      have htx := text_shown (t1, t2, t3)
      have hsn : textsL ((kindsI ts).take (k + 1)) = match textsL ((kindsI ts).take k), textL (t1, t2, t3) with
          | some ss, some s => some (ss ++ [s])
          | _, _ => none := by rw [List.take_add_one, HK.out]; exact textsL_snoc _ _
      rw [hh.out, htx] at hsn
      have HSL : Hid ((⟨(shownL (t1, t2, t3)).toArray⟩ : ByteArray).data.toList = shownL (t1, t2, t3)) := rfl
      simp only [tokV] at hsh hju
      clear htx
      cases hj : justB (shownL (t1, t2, t3)) (t1, t2, t3)
      · rw [hj] at hju hsn
        have HR : Hid (showL (kindsI ts) = []) := by
          have := textsL_none _ ((kindsI ts).drop (k + 1)) hsn
          rw [List.take_append_drop] at this
          show _ = _
          unfold showL
          rw [this]
        clear hsn hh hj
        generalize (⟨t2.toArray⟩ : ByteArray) = T2 at *
        generalize (⟨(shownL (t1, t2, t3)).toArray⟩ : ByteArray) = S at *
        go_wp2_with (first
          | (go_at_call 21; refine (hsh _ (env_below henv (hal _))).mono ?_; rintro e W1 ⟨rfl, hb1⟩; obtain ⟨⟨d0, d1, d2, d3⟩, _⟩ := four_of (four_new hb1); have hb1w : Below wr.heap.size wr W1 := (hal _).trans (hb1.mono (by simp)))
          | (go_at_call 22; refine (hju _ (env_below henv hb1w)).mono ?_; rintro e W2 ⟨rfl, hb2⟩))
        have hbw : Below wr.heap.size wr W2 := hb1w.trans (hb2.mono hb1w.size)
        go_ret
        exact ⟨by rw [HR.out]; rfl, hb.trans (hbw.mono hb.size)⟩
      · rw [hj] at hju hsn
        simp only [if_true] at hsn
        have HN : Hid (textsL ((kindsI ts).take (k + 1)) = some (ss ++ [shownL (t1, t2, t3)])) := hsn
        clear hsn hh hj
        generalize (⟨t2.toArray⟩ : ByteArray) = T2 at *
        generalize (⟨(shownL (t1, t2, t3)).toArray⟩ : ByteArray) = S at *
        by_cases hk0 : k = 0
        · have hs0 : ss = [] := List.eq_nil_of_length_eq_zero (by omega)
          subst hs0
          have hk02 : ¬ (0 : Int) < (k : Int) := by omega
          have HK0 : Hid (k = 0) := hk0
          clear hk0 hsk
          go_wp2_with (first
            | (go_at_call 21; refine (hsh _ (env_below henv (hal _))).mono ?_; rintro e W1 ⟨rfl, hb1⟩; obtain ⟨⟨d0, d1, d2, d3⟩, _⟩ := four_of (four_new hb1); have hb1w : Below wr.heap.size wr W1 := (hal _).trans (hb1.mono (by simp)))
            | (go_at_call 22; refine (hju _ (env_below henv hb1w)).mono ?_; rintro e W2 ⟨rfl, hb2⟩; have hbw : Below wr.heap.size wr W2 := hb1w.trans (hb2.mono hb1w.size); have hI2 := builder_below hI hbw; have hz2 := hbw.size)
            | (go_at_call 24; refine (Tryd.Builder_WriteString_k w.heap.size w.heap.size _ _ _ hI2 (by rw [Lib.byteCells_length]; omega) (by omega)).mono ?_; rintro e W4 ⟨rfl, h4, b4, k4⟩))
          go_roundw
          case rel =>
            refine ⟨k + 1, [shownL (t1, t2, t3)], by simp, by omega, by rw [HK0.out]; rfl, ?_, ?_, (hb.trans (hbw.mono hb.size)).trans b4, HN⟩
            · show (shownL (t1, t2, t3)).length ≤ _
              rw [← HSL.out, ← Lib.size_eq]; omega
            · have e1 : joinB [shownL (t1, t2, t3)] = S.data.toList := by rw [HSL.out]; rfl
              rw [e1]
              exact Or.inr h4
          case measure => simp [intOf]; omega
        · have hk02 : (0 : Int) < (k : Int) := by omega
          have hsne : ss ≠ [] := fun e => by rw [e] at hsk; simp at hsk; omega
          go_wp2_with (first
            | (go_at_call 21; refine (hsh _ (env_below henv (hal _))).mono ?_; rintro e W1 ⟨rfl, hb1⟩; obtain ⟨⟨d0, d1, d2, d3⟩, _⟩ := four_of (four_new hb1); have hb1w : Below wr.heap.size wr W1 := (hal _).trans (hb1.mono (by simp)))
            | (go_at_call 22; refine (hju _ (env_below henv hb1w)).mono ?_; rintro e W2 ⟨rfl, hb2⟩; have hbw : Below wr.heap.size wr W2 := hb1w.trans (hb2.mono hb1w.size); have hI2 := builder_below hI hbw; have hz2 := hbw.size)
            | (go_at_call 23; refine (Tryd.Builder_WriteByte_k w.heap.size w.heap.size _ 32 _ hI2 (by rw [Lib.byteCells_length]; omega) (by omega)).mono ?_; rintro e W3 ⟨rfl, h3, b3, k3⟩; have hI3 : Lib.IsBuilderF 51 5 w.heap.size w.heap.size (Lib.byteCells (joinB ss) ++ [.int .u8 32]) W3 := Or.inr h3; have hz3 := b3.size)
            | (go_at_call 24; refine (Tryd.Builder_WriteString_k w.heap.size w.heap.size _ _ _ hI3 (by rw [List.length_append, Lib.byteCells_length]; simp only [List.length_cons, List.length_nil]; omega) (by omega)).mono ?_; rintro e W4 ⟨rfl, h4, b4, k4⟩))
          go_roundw
          case rel =>
            refine ⟨k + 1, ss ++ [shownL (t1, t2, t3)], by simp, by omega, by simp [hsk], ?_, ?_, ((hb.trans (hbw.mono hb.size)).trans b3).trans b4, HN⟩
            · rw [joinB_snoc _ _ hsne]
              simp only [List.length_append, List.length_cons]
              rw [← HSL.out, ← Lib.size_eq]
              omega
            · have e1 : Lib.byteCells (joinB (ss ++ [shownL (t1, t2, t3)])) = Lib.byteCells (joinB ss) ++ [.int .u8 32] ++ Lib.strCells S := by
                rw [joinB_snoc _ _ hsne, ← HSL.out, show joinB ss ++ 32 :: S.data.toList = joinB ss ++ [32] ++ S.data.toList from by simp, Lib.byteCells_append, Lib.byteCells_append]
                rfl
              rw [e1]
              exact Or.inr h4
          case measure => simp [intOf]; omega
    · have hk2 : ¬ (k : Int) < (ts.length : Int) := by omega
      have HR : Hid (showL (kindsI ts) = joinB ss) := by
        show _ = _
        have := hh.out
        rw [List.take_of_length_le (by simp [kindsI]; omega)] at this
        unfold showL
        rw [this]
      have hwb : w.heap.size < wr.heap.size := by
        rcases hI with h | h <;> exact h.lt
      clear hh
      go_wp2_with (go_at_call 25; refine (Tryd.Builder_String_any_k w.heap.size w.heap.size _ _ hI (by omega)).mono ?_; rintro e W3 ⟨rfl, _, b3, _⟩)
      go_ret
      exact ⟨by rw [HR.out]; rfl, hb.trans b3⟩
end Go.Proofs.YtaiefheejgfefaaDoor
