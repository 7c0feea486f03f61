/- Own text. Whether two lists of tokens are the same, places too: the statements' own. -/
import Derived.Test.YtaiefheejgfefaaDoorX12
import Derived.BigQuiet
import Derived.Laws.StructEq
namespace Go.Proofs.YtaiefheejgfefaaDoor
open Go.RowKit
set_option linter.unusedVariables false

theorem tok_fields : Tryd.prog.fieldsOf 36 = #[{ name := "Kind", type := 3, offset := 0, embedded := false, tag := "", pkgPath := "", byteOffset := 0 }, { name := "Text", type := 9, offset := 1, embedded := false, tag := "", pkgPath := "", byteOffset := 8 }, { name := "N", type := 3, offset := 2, embedded := false, tag := "", pkgPath := "", byteOffset := 24 }, { name := "At", type := 3, offset := 3, embedded := false, tag := "", pkgPath := "", byteOffset := 32 }] := by kernel_rfl
theorem tok_struct : Tryd.prog.underlying 36 = some (.struct (Tryd.prog.fieldsOf 36)) := by kernel_rfl
theorem tok_held : Tryd.prog.stoodInHeld 36 = false := by kernel_rfl
theorem tok_guard : Tryd.prog.eqGuardType Tryd.prog.depth 36 = false := by kernel_rfl
theorem tok_neq (W : World) (t1 t3 ta s1 s3 sa : Int) (X Y : ByteArray) :
    (binOp .neq 36 (.agg #[.int .i64 t1, .string X, .int .i64 t3, .int .i64 ta]) (.agg #[.int .i64 s1, .string Y, .int .i64 s3, .int .i64 sa])).run Tryd.prog W = .ok (.bool (!((t1 == s1) && ((X.toList == Y.toList) && ((t3 == s3) && (ta == sa)))))) W := by
  have a3 := Tryd.isAgg3
  have a9 := Tryd.isAgg9
  rw [run_neq_struct, run_equalIn_struct W 9999 _ _ _ tok_struct tok_held, tok_fields]
  have u3 := Tryd.underlying3
  have u9 := Tryd.underlying9
  cases e1 : (t1 == s1) <;> cases e2 : (X.toList == Y.toList) <;> cases e3 : (t3 == s3) <;> cases e4 : (ta == sa) <;> simp [Op.eqFields, go_sem, a3, a9, u3, u9, e1, e2, e3, e4]

set_option maxHeartbeats 4000000 in
set_option maxRecDepth 100000 in
theorem same_law (v u : Value) (ts us : List (Tk × Int)) (w : World) (ht : TAt w v ts) (hu : TAt w u us) (hn : ts.length ≤ 4611686018427387904) : Calls Tryd.prog 11 #[v, u] w fun e w' =>
    e = .returned (.bool (decide (ts = us))) ∧ Below w.heap.size w w' := by
  obtain ⟨A, c, rfl, hel⟩ := ht
  obtain ⟨B, d, rfl, hel2⟩ := hu
  by_cases hlen : ts.length = us.length
  · have hl2 : ((ts.length : Int) == (us.length : Int)) = true := by simp [hlen]
    go_enter Tryd.func11, Tryd.ntmps11
    go_wp2
    go_loopw [5] (fun v5 W => ∃ k : Nat, v5 = .int .i64 k ∧ k ≤ ts.length ∧ Below w.heap.size w W ∧ Hid (ts.take k = us.take k)) (fun v5 _ => ts.length - (intOf v5).toNat)
    case atStart => exact ⟨0, rfl, Nat.zero_le _, Below.refl _ _, by simp [Hid]⟩
    case round =>
      obtain ⟨k, rfl, hk, hb, hh⟩ := hrel
      by_cases hkl : k < ts.length
      · have hk2 : (k : Int) < (us.length : Int) := by omega
        have hk3 : (k : Int) < (ts.length : Int) := by omega
        have hkl2 : k < us.length := by omega
        obtain ⟨bl, of, q1, q2, q3, q4, q5, q6⟩ := hel k hkl
        obtain ⟨bm, og, p1, p2, p3, p4, p5, p6⟩ := hel2 k hkl2
        have c0 := (hb.cell (p := ⟨bl, of + k * 4, none⟩) q2).trans q3
        have c1 := (hb.cell (p := ⟨bl, of + k * 4 + 1, none⟩) q2).trans q4
        have c2 := (hb.cell (p := ⟨bl, of + k * 4 + 2, none⟩) q2).trans q5
        have c3 := (hb.cell (p := ⟨bl, of + k * 4 + 3, none⟩) q2).trans q6
        have d0 := (hb.cell (p := ⟨bm, og + k * 4, none⟩) p2).trans p3
        have d1 := (hb.cell (p := ⟨bm, og + k * 4 + 1, none⟩) p2).trans p4
        have d2 := (hb.cell (p := ⟨bm, og + k * 4 + 2, none⟩) p2).trans p5
        have d3 := (hb.cell (p := ⟨bm, og + k * 4 + 3, none⟩) p2).trans p6
        have HK : Hid (ts[k]? = some ts[k] ∧ us[k]? = some us[k]) := ⟨List.getElem?_eq_getElem hkl, List.getElem?_eq_getElem hkl2⟩
        generalize ts[k] = tk at *
        generalize us[k] = uk at *
        obtain ⟨⟨t1, t2, t3⟩, ta⟩ := tk
        obtain ⟨⟨s1, s2, s3⟩, sa⟩ := uk
        simp only at c0 c1 c2 c3 d0 d1 d2 d3 HK
        clear q3 q4 q5 q6 p3 p4 p5 p6
        rw [hlen] at q1
        have heq := eq_texts t2 s2
        generalize (⟨t2.toArray⟩ : ByteArray) = X at *
        generalize (⟨s2.toArray⟩ : ByteArray) = Y at *
        have hg := tok_guard
        have hneq := fun W => tok_neq W t1 t3 ta s1 s3 sa X Y
        have HB : Hid (((t1 == s1) && ((X.toList == Y.toList) && ((t3 == s3) && (ta == sa)))) = decide (((((t1, t2, t3), ta) : Tk × Int) = ((s1, s2, s3), sa)))) := by
          show _ = _
          rw [heq, Bool.eq_iff_iff]
          simp only [Bool.and_eq_true, beq_iff_eq, decide_eq_true_eq, Prod.mk.injEq]
          constructor
          · rintro ⟨h1, h2, h3, h4⟩; exact ⟨⟨h1, h2, h3⟩, h4⟩
          · rintro ⟨⟨h1, h2, h3⟩, h4⟩; exact ⟨h1, h2, h3, h4⟩
        cases hB : ((t1 == s1) && ((X.toList == Y.toList) && ((t3 == s3) && (ta == sa))))
        · rw [hB] at hneq HB
          have HN : Hid (decide (ts = us) = false) := by
            apply decide_eq_false
            intro e
            have h1 := HK.out.1
            rw [e, HK.out.2] at h1
            have h2 := HB.out
            rw [Option.some.inj h1] at h2
            simp at h2
          clear HB hB heq HK hh
          go_wp2
          go_quiet (fail)
          go_wp2
          go_ret
          exact ⟨ret_bool HN.out.symm, hb.trans ((drewN_below4 _ _).mono hb.size)⟩
        · rw [hB] at hneq HB
          have HN : Hid (ts.take (k + 1) = us.take (k + 1)) := by
            show _ = _
            rw [List.take_add_one, List.take_add_one, HK.out.1, HK.out.2, hh.out, of_decide_eq_true HB.out.symm]
          clear HB hB heq HK hh
          go_wp2
          go_quiet (fail)
          go_wp2
          go_roundw
          case rel => exact ⟨k + 1, by simp, by omega, hb.trans ((drewN_below4 _ _).mono hb.size), HN⟩
          case measure => simp [intOf]; omega
      · have hk2 : ¬ (k : Int) < (ts.length : Int) := by omega
        have HE : Hid (decide (ts = us) = true) := by
          have h1 := hh.out
          rw [List.take_of_length_le (by omega), List.take_of_length_le (by omega)] at h1
          exact decide_eq_true h1
        clear hh
        go_wp2
        go_ret
        exact ⟨ret_bool HE.out.symm, hb⟩
  · have hl2 : ((ts.length : Int) == (us.length : Int)) = false := int_eqb (by omega)
    have HE : Hid (decide (ts = us) = false) := by
      apply decide_eq_false
      intro e
      exact hlen (by rw [e])
    go_enter Tryd.func11, Tryd.ntmps11
    go_wp2
    go_ret
    exact ⟨ret_bool HE.out.symm, Below.refl _ _⟩

end Go.Proofs.YtaiefheejgfefaaDoor
