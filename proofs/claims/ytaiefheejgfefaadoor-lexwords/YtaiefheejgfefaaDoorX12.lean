/- Own text. The document's Show. -/
import Derived.Test.YtaiefheejgfefaaDoorXC
import Derived.Lib.AppendStr
import Derived.Laws.IdiomStrings
import Derived.Laws.BytesArg
namespace Go.Proofs.YtaiefheejgfefaaDoor
open Go.RowKit
set_option linter.unusedVariables false

/-- v is a list of tokens, wherever it lies: at each place the way to it, and what lies there. -/
def TAt (w : World) (v : Value) (ts : List (Tk × Int)) : Prop := ∃ A c, v = .slice A ts.length c ∧ ∀ k (hk : k < ts.length), ∃ bl of,
    (∀ W, (Instr.indexAt 22 (.slice A ts.length c) (.int .i64 (k : Int))).run Tryd.prog W = .ok (.pointer (some ⟨bl, of + k * 4, none⟩)) W) ∧ bl < w.heap.size ∧
    w.cell? ⟨bl, of + k * 4, none⟩ = some (.int .i64 ts[k].1.1) ∧ w.cell? ⟨bl, of + k * 4 + 1, none⟩ = some (.string ⟨ts[k].1.2.1.toArray⟩) ∧
    w.cell? ⟨bl, of + k * 4 + 2, none⟩ = some (.int .i64 ts[k].1.2.2) ∧ w.cell? ⟨bl, of + k * 4 + 3, none⟩ = some (.int .i64 ts[k].2)
theorem TAt.below {B : Nat} {w w' : World} {v : Value} {ts : List (Tk × Int)} (h : TAt w v ts) (hb : Below B w w') (hB : w.heap.size ≤ B) : TAt w' v ts := by
  obtain ⟨A, c, h1, h2⟩ := h
  refine ⟨A, c, h1, fun k hk => ?_⟩
  obtain ⟨bl, of, q1, q2, q3, q4, q5, q6⟩ := h2 k hk
  have hlt : bl < B := by omega
  have hs := hb.size
  exact ⟨bl, of, q1, by omega, (hb.cell (p := ⟨bl, _, none⟩) hlt).trans q3, (hb.cell (p := ⟨bl, _, none⟩) hlt).trans q4, (hb.cell (p := ⟨bl, _, none⟩) hlt).trans q5, (hb.cell (p := ⟨bl, _, none⟩) hlt).trans q6⟩
theorem idx_tok (W : World) (bl of n c k : Nat) (hk : k < n) : (Instr.indexAt 22 (.slice (some ⟨bl, of, none⟩) n c) (.int .i64 (k : Int))).run Tryd.prog W = .ok (.pointer (some ⟨bl, of + k * 4, none⟩)) W := by
  have h1 : (0 : Int) ≤ (k : Int) := by omega
  have h2 : (k : Int) < (n : Int) := by omega
  go_simp
theorem rowT_at (ts : List (Tk × Int)) : ∀ (k : Nat) (hk : k < ts.length), (rowT ts)[k * 4]? = some (.int .i64 ts[k].1.1) ∧ (rowT ts)[k * 4 + 1]? = some (.string ⟨ts[k].1.2.1.toArray⟩) ∧ (rowT ts)[k * 4 + 2]? = some (.int .i64 ts[k].1.2.2) ∧ (rowT ts)[k * 4 + 3]? = some (.int .i64 ts[k].2) := by
  induction ts with
  | nil => intro k hk; simp at hk
  | cons t ts ih =>
    intro k hk
    have e : rowT (t :: ts) = tokCells t ++ rowT ts := by simp [rowT]
    rw [e]
    cases k with
    | zero => exact ⟨rfl, rfl, rfl, rfl⟩
    | succ k =>
      have hl : (tokCells t).length = 4 := rfl
      have := ih k (by simpa using hk)
      have sh : ∀ j, (tokCells t ++ rowT ts)[(k + 1) * 4 + j]? = (rowT ts)[k * 4 + j]? := fun j => by
        rw [List.getElem?_append_right (by rw [hl]; omega), hl]
        congr 1
        omega
      simp only [List.getElem_cons_succ]
      refine ⟨?_, ?_, ?_, ?_⟩
      · have := sh 0; simp only [Nat.add_zero] at this; rw [this]; exact (ih k (by simpa using hk)).1
      · rw [sh 1]; exact (ih k (by simpa using hk)).2.1
      · rw [sh 2]; exact (ih k (by simpa using hk)).2.2.1
      · rw [sh 3]; exact (ih k (by simpa using hk)).2.2.2
theorem tat_row {w : World} {base : Nat} {v : Value} {ts : List (Tk × Int)} (h : ToksAt w base v ts) : TAt w v ts := by
  by_cases h0 : ts.length = 0
  · obtain ⟨A, c, rfl⟩ := rowForm h
    exact ⟨A, c, rfl, fun k hk => by omega⟩
  · obtain ⟨g, c, rfl, hgb, hnc⟩ := rowSome h (by omega)
    have hlt := (h.lt g rfl).2
    refine ⟨_, c, rfl, fun k hk => ⟨g, 0, fun W => idx_tok W g 0 _ c k hk, hlt, ?_⟩⟩
    obtain ⟨r1, r2, r3, r4⟩ := rowT_at ts k hk
    rw [Nat.zero_add]
    refine ⟨?_, ?_, ?_, ?_⟩
    · rw [h.cellAt _ (by omega)]; exact r1
    · rw [h.cellAt _ (by omega)]; exact r2
    · rw [h.cellAt _ (by omega)]; exact r3
    · rw [h.cellAt _ (by omega)]; exact r4

def cells8 (l : Bs) : List Value := l.map fun b => .int .u8 b.toNat
theorem cells8_app (a b : Bs) : cells8 (a ++ b) = cells8 a ++ cells8 b := by simp [cells8]
abbrev Out (w : World) (base : Nat) (v : Value) (l : Bs) : Prop := w.ownsRow base 5 1 v l.length (cells8 l)
theorem out_str {w : World} {base : Nat} {v : Value} {l : Bs} {q : ByteArray} (h : w.ownsRow base 5 1 v (l.length + q.size) (cells8 l ++ Lib.strCells q)) : Out w base v (l ++ q.data.toList) := by
  have e1 : (l ++ q.data.toList).length = l.length + q.size := by rw [Lib.size_eq]; simp
  have e2 : cells8 (l ++ q.data.toList) = cells8 l ++ Lib.strCells q := by rw [cells8_app]; rfl
  unfold Out
  rw [e1, e2]
  exact h
theorem out_one {w : World} {base : Nat} {v : Value} {l : Bs} (h : w.ownsRow base 5 1 v (l.length + 1) (cells8 l ++ [.int .u8 32])) : Out w base v (l ++ [32]) := by
  have e1 : (l ++ [(32 : UInt8)]).length = l.length + 1 := by simp
  have e2 : cells8 (l ++ [32]) = cells8 l ++ [.int .u8 32] := by rw [cells8_app]; rfl
  unfold Out
  rw [e1, e2]
  exact h
theorem joinB_snoc : ∀ (ss : List Bs) (s : Bs), ss ≠ [] → joinB (ss ++ [s]) = joinB ss ++ 32 :: s
  | [a], s, _ => rfl
  | a :: b :: r, s, _ => by
    have := joinB_snoc (b :: r) s (by simp)
    show a ++ 32 :: joinB ((b :: r) ++ [s]) = (a ++ 32 :: joinB (b :: r)) ++ 32 :: s
    rw [this]
    simp
theorem textsL_snoc : ∀ (ts : List Tk) (t : Tk), textsL (ts ++ [t]) = match textsL ts, textL t with
    | some ss, some s => some (ss ++ [s])
    | _, _ => none
  | [], t => by
    simp only [List.nil_append, textsL]
    cases textL t <;> rfl
  | u :: ts, t => by
    simp only [List.cons_append, textsL]
    cases textL u with
    | none => rfl
    | some s =>
      simp only
      rw [textsL_snoc ts t]
      cases textsL ts with
      | none => rfl
      | some ss => cases textL t <;> rfl
theorem textsL_none : ∀ (ts us : List Tk), textsL ts = none → textsL (ts ++ us) = none
  | [], us, h => by cases h
  | t :: ts, us, h => by
    simp only [List.cons_append, textsL] at h ⊢
    cases ht : textL t with
    | none => rfl
    | some s =>
      rw [ht] at h
      simp only at h ⊢
      cases hs : textsL ts with
      | none => rw [textsL_none ts us hs]
      | some ss => rw [hs] at h; cases h

theorem info_byte : (Tryd.prog.info? 5).map (fun i => (i.zero, i.size, i.bytes)) = some (some (.int .u8 0), 1, 1) := by kernel_rfl
def kindsI (ts : List (Tk × Int)) : List Tk := ts.map Prod.fst

set_option maxHeartbeats 4000000 in
set_option maxRecDepth 100000 in
theorem show_ref (v : Value) (ts : List (Tk × Int)) (w : World) (ht : TAt w v ts) (hn : ts.length ≤ 1048576) (hx : ∀ x ∈ ts, x.1.2.1.length ≤ 1048576 ∧ x.1.2.2 ≤ 9223372036854775807) :
    Calls Tryd.prog 14 #[v] w fun e w' => e = .returned (.string ⟨(showL (kindsI ts)).toArray⟩) ∧ Below w.heap.size w w' := by
  obtain ⟨i0, hi, hz0, hz1, hz2⟩ := info_parts info_byte
  obtain ⟨A, c, rfl, hel⟩ := ht
  go_enter Tryd.func14, Tryd.ntmps14
  go_wp2
  go_loopw [3, 4] (fun v3 v4 W => ∃ (k : Nat) (ss : List Bs), v4 = .int .i64 k ∧ k ≤ ts.length ∧ ss.length = k ∧ (joinB ss).length ≤ k * 7340054 ∧ Out W w.heap.size v3 (joinB ss) ∧ Below w.heap.size w W ∧ Hid (textsL ((kindsI ts).take k) = some ss)) (fun _ v4 _ => ts.length - (intOf v4).toNat)
  case atStart => exact ⟨0, [], rfl, Nat.zero_le _, rfl, by simp [joinB], World.ownsRow_nil _ _ _ _, Below.refl _ _, by simp [Hid, textsL]⟩
  case round =>
    obtain ⟨k, ss, rfl, hk, hsk, hsz, ho, hb, hh⟩ := hrel
    by_cases hkl : k < ts.length
    · have hk2 : (k : Int) < (ts.length : Int) := by omega
      obtain ⟨bl, of, q1, q2, q3, q4, q5, q6⟩ := hel k hkl
      obtain ⟨x1, x2⟩ := hx ts[k] (List.getElem_mem hkl)
      have c0 := (hb.cell (p := ⟨bl, of + k * 4, none⟩) q2).trans q3
      have c1 := (hb.cell (p := ⟨bl, of + k * 4 + 1, none⟩) q2).trans q4
      have c2 := (hb.cell (p := ⟨bl, of + k * 4 + 2, none⟩) q2).trans q5
      have c3 := (hb.cell (p := ⟨bl, of + k * 4 + 3, none⟩) q2).trans q6
      have HK : Hid ((kindsI ts)[k]? = some ts[k].1) := by show _ = _; simp [kindsI, hkl]
      generalize ts[k] = tk at *
      obtain ⟨⟨t1, t2, t3⟩, ta⟩ := tk
      simp only at x1 x2 c0 c1 c2 c3 HK
      have htx := fun W => text_any (t1, t2, t3) ta W x1 x2
      simp only [tokV] at htx
      clear q3 q4 q5 q6
      go_wp2_with fail
      refine (htx _).mono ?_
      rintro e W1 ⟨S, b, rfl, hS, hT, hb1⟩
      have hbw := hb.trans (hb1.mono hb.size)
      have ho1 : Out W1 w.heap.size u3 (joinB ss) := ho.kept (row := none) ⟨hb1.os, hb1.tape, hb1.output, hb1.size, fun k hk _ => hb1.block k hk⟩ (by cases hv : Value.ownBlock _ <;> simp)
      have hsn : textsL ((kindsI ts).take (k + 1)) = match textsL ((kindsI ts).take k), textL (t1, t2, t3) with
          | some ss, some s => some (ss ++ [s])
          | _, _ => none := by rw [List.take_add_one, HK.out]; exact textsL_snoc _ _
      rw [hh.out] at hsn
      cases b
      · have hno : textL (t1, t2, t3) = none := by
          rcases hT.out with h | h
          · cases h.1
          · exact h.2
        have HR : Hid (showL (kindsI ts) = []) := by
          rw [hno] at hsn
          have := textsL_none _ ((kindsI ts).drop (k + 1)) hsn
          rw [List.take_append_drop] at this
          show _ = _
          unfold showL
          rw [this]
        clear hsn hT hh
        go_wp2
        go_ret
        exact ⟨by rw [HR.out]; rfl, hbw⟩
      · have hyes : textL (t1, t2, t3) = some S.data.toList := by
          rcases hT.out with h | h
          · exact h.2
          · cases h.1
        rw [hyes] at hsn
        have HN : Hid (textsL ((kindsI ts).take (k + 1)) = some (ss ++ [S.data.toList])) := hsn
        clear hsn hT hh hyes htx c0 c1 c2 c3
        by_cases hk0 : k = 0
        · subst hk0
          have hs0 : ss = [] := List.eq_nil_of_length_eq_zero hsk
          subst hs0
          go_wp2_with (at_builtin; refine Lib.wpList_append_own_string _ rfl _ _ 49 9 rfl w.heap.size 5 i0 Tryd.underlying49 Tryd.underlying9 hi hz0 hz1 hz2 _ _ _ rfl ho1 S rfl (by unfold maxLen; omega) (by omega) hbw.size ?_; intro v2 W4 ho2 hg2 hn2)
          go_roundw
          case rel =>
            refine ⟨1, [S.data.toList], by simp, by omega, rfl, ?_, ?_, hbw.grown hg2 hbw.size (fun j hj => (ho1.lt j hj).1), HN⟩
            · show S.data.toList.length ≤ _
              rw [← Lib.size_eq]; omega
            · have := out_str ho2
              simpa [joinB] using this
          case measure => simp [intOf]; omega
        · have hk02 : (0 : Int) < (k : Int) := by omega
          have hsne : ss ≠ [] := fun e => by rw [e] at hsk; simp at hsk; omega
          have tok1 : True := trivial
          go_wp2_with (first
            | (at_builtin; have _t := tok1; refine wpList_append_own _ rfl _ _ 49 rfl w.heap.size 5 i0 (.int .u8 0) 1 1 Tryd.underlying49 hi hz0 hz1 hz2 rfl (by decide) _ _ _ rfl (ho1.alloc _) ⟨_, 0, none⟩ 1 1 [.int .u8 32] rfl rfl (cell_one_new _ _ _) (ints_oneCell .u8 [32]) (by unfold maxLen; omega) (by omega) (by have := hbw.size; simp; omega) ?_; intro v1 W3 hq1 hg1 hn1; have ho3 := out_one hq1; have hbz : Below w.heap.size w W3 := (hbw.alloc hbw.size _).grown hg1 (by have := hbw.size; simp; omega) (fun j hj => (ho1.lt j hj).1); clear tok1)
            | (at_builtin; refine Lib.wpList_append_own_string _ rfl _ _ 49 9 rfl w.heap.size 5 i0 Tryd.underlying49 Tryd.underlying9 hi hz0 hz1 hz2 _ _ _ rfl ho3 S rfl (by unfold maxLen; simp; omega) (by simp; omega) hbz.size ?_; intro v2 W4 ho2 hg2 hn2))
          go_roundw
          case rel =>
            refine ⟨k + 1, ss ++ [S.data.toList], by simp, by omega, by simp [hsk], ?_, ?_, hbz.grown hg2 hbz.size (fun j hj => (ho3.lt j hj).1), HN⟩
            · rw [joinB_snoc _ _ hsne]
              simp only [List.length_append, List.length_cons]
              rw [← Lib.size_eq]
              omega
            · rw [joinB_snoc _ _ hsne]
              have := out_str ho2
              rw [List.append_assoc] at this
              exact this
          case measure => simp [intOf]; omega
    · have hk2 : ¬ (k : Int) < (ts.length : Int) := by omega
      have HR : Hid (showL (kindsI ts) = joinB ss) := by
        have h1 := hh.out
        rw [List.take_of_length_le (by simp [kindsI]; omega)] at h1
        show _ = _
        unfold showL
        rw [h1]
      clear hh
      rcases ho.2 with ⟨rfl, h0⟩ | ⟨g, cap, cur, rfl, _⟩
      · have hj : joinB ss = [] := List.eq_nil_of_length_eq_zero h0
        have hcv := run_convert_bytes_nil (P := Tryd.prog) (w := wr) 49 5 Tryd.underlying49 Tryd.underlying5 0 0 9 Tryd.underlying9
        rw [hj] at HR
        clear ho h0 hj
        go_wp2
        go_ret
        exact ⟨by rw [HR.out]; rfl, hb⟩
      · have hcv := run_convert_bytes_back (P := Tryd.prog) wr 49 9 5 ⟨g, 0, none⟩ cap (joinB ss) Tryd.underlying49 Tryd.underlying5 Tryd.underlying9 (fun j hj => by
          rw [add_plain, Nat.zero_add, ho.cellAt j (by omega)]
          simp [cells8, hj])
        clear ho
        generalize (joinB ss).length = N at *
        go_wp2
        go_ret
        exact ⟨by rw [HR.out]; rfl, hb⟩

end Go.Proofs.YtaiefheejgfefaaDoor
