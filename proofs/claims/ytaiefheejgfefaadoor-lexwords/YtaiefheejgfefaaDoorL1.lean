/- Own text. The program's package-level tables as they stand; its blanks, lines and notes. -/
import Derived.Test.YtaiefheejgfefaaDoorX9
import Derived.Test.YtaiefheejgfefaaDoorShelf
import Derived.Lib.Index
import Derived.Shelf.Unicode.DecodeSlow
import Derived.Lib.LaidTab
namespace Go.Proofs.YtaiefheejgfefaaDoor
open Go.RowKit
set_option linter.unusedVariables false

/-- all package-level variables that are read lie below B. -/
def Over (B : Nat) : Prop := 7 < B ∧ 3 < B ∧ 4 < B ∧ 0 < B ∧ 1 < B ∧ 2 < B ∧ 5 < B
theorem Over.mono {B B' : Nat} (h : Over B) (hb : B ≤ B') : Over B' := by
  obtain ⟨a, b, c, d, e, f, g⟩ := h
  exact ⟨by omega, by omega, by omega, by omega, by omega, by omega, by omega⟩

/-- the package-level variables hold what their initialisers lay. -/
structure Env (w : World) : Prop where
  tab : tabCell w
  utf : Lib.Utf8Tabs 3 4 w
  wrd : ∃ t fr, w.heap[0]? = some (.cells (textCells wordsL).toArray t fr)
  sgn : ∃ t fr, w.heap[1]? = some (.cells (textCells signsL).toArray t fr)
  len : ∃ m, w.cell? ⟨2, 0, none⟩ = some (.int .i64 m)
  pow : Lib.TabIs Tryd.prog w "internal/strconv.uint64pow10" .u64 Lib.pow10Tab
theorem gPow : Tryd.prog.globalNamed "internal/strconv.uint64pow10" = some 5 := by kernel_rfl
theorem pow_block {w : World} (h : Lib.TabIs Tryd.prog w "internal/strconv.uint64pow10" .u64 Lib.pow10Tab) : 5 < w.heap.size := by
  unfold Lib.TabIs World.var? at h
  rw [gPow] at h
  simp only [Option.bind_some] at h
  rcases Nat.lt_or_ge 5 w.heap.size with h' | h'
  · exact h'
  · rw [Array.getElem?_eq_none h'] at h; cases h
theorem Env.over {w : World} (h : Env w) : Over w.heap.size := by
  obtain ⟨t, fr, hw⟩ := h.wrd
  obtain ⟨t2, fr2, hg⟩ := h.sgn
  obtain ⟨m, hm⟩ := h.len
  exact ⟨World.block_lt_of_cell? w _ h.tab, World.block_lt_of_cell? w _ (h.utf.1 0 (by omega)), World.block_lt_of_cell? w _ (h.utf.2 0 (by omega)).1, (Array.getElem?_eq_some_iff.1 hw).1, (Array.getElem?_eq_some_iff.1 hg).1, World.block_lt_of_cell? w _ hm, pow_block h.pow⟩
theorem Env.keep {B : Nat} {w w' : World} (h : Env w) (hb : Below B w w') (ho : Over B) : Env w' := by
  obtain ⟨o1, o2, o3, o4, o5, o6, o7⟩ := ho
  obtain ⟨t, fr, hw⟩ := h.wrd
  obtain ⟨t2, fr2, hg⟩ := h.sgn
  obtain ⟨m, hm⟩ := h.len
  refine ⟨(hb.cell (p := ⟨7, 15, none⟩) o1).trans h.tab, ⟨fun c hc => (hb.cell (p := ⟨3, c, none⟩) o2).trans (h.utf.1 c hc), fun i hi => ⟨(hb.cell (p := ⟨4, 2 * i, none⟩) o3).trans (h.utf.2 i hi).1, (hb.cell (p := ⟨4, 2 * i + 1, none⟩) o3).trans (h.utf.2 i hi).2⟩⟩, ⟨t, fr, (hb.block _ o4).trans hw⟩, ⟨t2, fr2, (hb.block _ o5).trans hg⟩, ⟨m, (hb.cell (p := ⟨2, 0, none⟩) o6).trans hm⟩, ?_⟩
  have hp := h.pow
  unfold Lib.TabIs World.var? at hp ⊢
  rw [gPow] at hp ⊢
  simp only [Option.bind_some] at hp ⊢
  rw [hb.block _ o7]
  exact hp
theorem env_below {w w' : World} (h : Env w) (hb : Below w.heap.size w w') : Env w' := h.keep hb h.over

theorem blank_any (b : Int) (w : World) : Calls Tryd.prog 27 #[.int .u8 b] w fun e w' => e = .returned (.bool (decide (b = 9 ∨ b = 10 ∨ b = 13 ∨ b = 32))) ∧ w' = w := by
  go_enter Tryd.func27, Tryd.ntmps27
  go_wp2
  all_goals go_ret
  all_goals (refine ⟨ret_bool ?_, rfl⟩; rw [Bool.eq_iff_iff]; simp; try omega)

theorem indexByte_line : ∀ l : Bs, (Lib.indexByte l 10 = -1 ∧ lineL l = l.length) ∨ Lib.indexByte l 10 = (lineL l : Int)
  | [] => .inl ⟨rfl, rfl⟩
  | c :: r => by
    unfold Lib.indexByte lineL
    by_cases hc : c = 10
    · subst hc; exact .inr (by simp)
    · have hb : (c == 10) = false := by simpa using hc
      rw [hb, if_neg hc]
      rcases indexByte_line r with ⟨h1, h2⟩ | h1
      · rw [h1, h2]; exact .inl ⟨by simp, rfl⟩
      · have : ¬ (lineL r : Int) = -1 := by omega
        rw [h1]
        exact .inr (by simp [this])

theorem lineSize_any (s : ByteArray) (w : World) : Calls Tryd.prog 29 #[.string s] w fun e w' => e = .returned (.int .i64 (lineL s.data.toList : Nat)) ∧ w' = w := by
  have hib := fun W => Tryd.strings_IndexByte s 10 W
  rw [show (10 : Int).toNat.toUInt8 = 10 from rfl] at hib
  have hle := lineL_le s.data.toList
  rcases indexByte_line s.data.toList with ⟨h1, h2⟩ | h1
  · rw [h1] at hib
    have h3 : Hid (lineL s.data.toList = s.size) := by show _ = _; rw [h2, Lib.size_eq]
    clear h1 h2 hle
    go_enter Tryd.func29, Tryd.ntmps29
    go_wp2_with (go_at_call 44; refine (hib _).mono ?_; rintro e W ⟨rfl, rfl⟩)
    go_ret
    exact ⟨by rw [h3.out]; rfl, rfl⟩
  · rw [h1] at hib
    generalize lineL s.data.toList = k at *
    have h2 : ¬ (k : Int) < 0 := by omega
    go_enter Tryd.func29, Tryd.ntmps29
    go_wp2_with (go_at_call 44; refine (hib _).mono ?_; rintro e W ⟨rfl, rfl⟩)
    go_ret
    exact ⟨rfl, rfl⟩

theorem index_note : ∀ l : Bs, (Lib.index l [42, 47] = -1 ∧ noteL l = none) ∨ ∃ k : Nat, Lib.index l [42, 47] = (k : Int) ∧ noteL l = some (k + 2)
  | [] => .inl ⟨rfl, rfl⟩
  | c :: r => by
    unfold Lib.index noteL
    by_cases hc : c = 42 ∧ r.head? = some 47
    · rw [if_pos hc]
      obtain ⟨rfl, h2⟩ := hc
      cases r with
      | nil => simp at h2
      | cons d r =>
        have : d = 47 := by simpa using h2
        subst this
        exact .inr ⟨0, by simp, rfl⟩
    · rw [if_neg hc]
      have hp : ([42, 47] : Bs).isPrefixOf (c :: r) = false := by
        cases r with
        | nil => simp [List.isPrefixOf]
        | cons d r =>
          simp only [List.isPrefixOf]
          by_cases h1 : c = 42
          · have h2 : ¬ d = 47 := fun e => hc ⟨h1, by rw [e]; rfl⟩
            have : ((47 : UInt8) == d) = false := by simpa using fun e => h2 e.symm
            simp [this]
          · have : ((42 : UInt8) == c) = false := by simpa using fun e => h1 e.symm
            simp [this]
      rw [hp]
      rcases index_note r with ⟨h1, h2⟩ | ⟨k, h1, h2⟩
      · rw [h1, h2]; exact .inl ⟨by simp, rfl⟩
      · rw [h1, h2]
        have : ¬ (k : Int) = -1 := by omega
        exact .inr ⟨k + 1, by simp [this], by simp⟩

/-- the note that begins here: how many bytes, and whether it ends. -/
def noteN (l : Bs) : Nat := match noteL (l.drop 2) with | none => 0 | some k => k + 2
def noteB (l : Bs) : Bool := (noteL (l.drop 2)).isSome
theorem noteSize_any (s : ByteArray) (w : World) (he : Env w) (hs : s.size < 4294967281) (h2 : 2 ≤ s.size) : Calls Tryd.prog 30 #[.string s] w fun e w' => e = .returned (.tuple #[.int .i64 (noteN s.data.toList : Nat), .bool (noteB s.data.toList)]) ∧ w' = w := by
  obtain ⟨m, hm⟩ := he.len
  have hxl : (s.extract 2 s.size).data.toList = s.data.toList.drop 2 := drop_extract s 2
  have hxs : (s.extract 2 s.size).size < 4294967281 := by rw [Lib.size_eq, hxl, List.length_drop, ← Lib.size_eq]; omega
  have hix := Tryd.strings_Index (s.extract 2 s.size) ⟨#[42, 47]⟩ m w hxs hm
  rw [hxl, show (⟨#[42, 47]⟩ : ByteArray).data.toList = [42, 47] from rfl] at hix
  have hsr := drop_run s 2 h2
  rw [show ((2 : Nat) : Int) = 2 from rfl] at hsr
  have hnl := noteL_le (s.data.toList.drop 2)
  rw [List.length_drop, ← Lib.size_eq] at hnl
  clear hxl hxs
  generalize s.extract 2 s.size = X at *
  unfold noteN noteB
  rcases index_note (s.data.toList.drop 2) with ⟨h1, h3⟩ | ⟨k, h1, h3⟩
  · rw [h1] at hix
    rw [h3]
    clear h1 h3
    go_enter Tryd.func30, Tryd.ntmps30
    go_wp2_with (go_at_call 45; refine hix.mono ?_; rintro e W ⟨rfl, rfl⟩)
    go_ret2
    exact ⟨rfl, rfl⟩
  · rw [h1] at hix
    have hb := hnl _ h3
    rw [h3]
    clear h1 h3 hnl
    have h4 : ¬ (k : Int) < 0 := by omega
    go_enter Tryd.func30, Tryd.ntmps30
    go_wp2_with (go_at_call 45; refine hix.mono ?_; rintro e W ⟨rfl, rfl⟩)
    go_ret2
    exact ⟨ret_ib (by simp; omega) rfl, rfl⟩

/-- may a name begin with the rune? -/
def begB (r : Int) (sc : Bool) : Bool := letterB r || r == 95 || (r == 36 && sc)
theorem begins_own (b : Nat) (r : Int) (sc : Bool) (w : World) (hc : w.cell? ⟨b, 2, none⟩ = some (.bool sc)) : Calls Tryd.prog 47 #[.pointer (some ⟨b, 0, none⟩), .int .i32 r] w fun e w' => e = .returned (.bool (begB r sc)) ∧ w' = w := by
  have hl := fun W => letter_any r W
  unfold begB
  cases hlb : letterB r
  · rw [hlb] at hl
    go_enter Tryd.func47, Tryd.ntmps47
    go_wp2_with (go_at_call 66; refine (hl _).mono ?_; rintro e W ⟨rfl, rfl⟩)
    all_goals go_ret
    all_goals (refine ⟨ret_bool ?_, rfl⟩; simp_all)
  · rw [hlb] at hl
    go_enter Tryd.func47, Tryd.ntmps47
    go_wp2_with (go_at_call 66; refine (hl _).mono ?_; rintro e W ⟨rfl, rfl⟩)
    go_ret
    exact ⟨rfl, rfl⟩

theorem word_load {w : World} (h : Env w) : (Instr.loadAt 62 (.pointer (some ⟨0, 0, none⟩))).run Tryd.prog w = .ok (.agg (textCells wordsL).toArray) w := by
  obtain ⟨t, fr, hw⟩ := h.wrd
  simp only [Instr.loadAt, Instr.sureAddr, Sem.run_bind, Sem.run_pure, Result.andThen_ok]
  exact run_loadVar_row w _ t _ _ fr _ hw Tryd.underlying62 rfl (by kernel_rfl)
theorem sign_load {w : World} (h : Env w) : (Instr.loadAt 97 (.pointer (some ⟨1, 0, none⟩))).run Tryd.prog w = .ok (.agg (textCells signsL).toArray) w := by
  obtain ⟨t, fr, hw⟩ := h.sgn
  simp only [Instr.loadAt, Instr.sureAddr, Sem.run_bind, Sem.run_pure, Result.andThen_ok]
  exact run_loadVar_row w _ t _ _ fr _ hw Tryd.underlying97 rfl (by kernel_rfl)
theorem index_row {P : Program} (W : World) (t e : TypeId) (n : Nat) (l : List Bs) (k : Nat) (q : Bs) (h : P.underlying t = some (.array n e)) (hn : l.length = n) (hq : l[k]? = some q) (h1 : (isAgg e).run P W = .ok false W) (hz : (sizeOf e).run P W = .ok 1 W) :
    (Instr.index t (.agg (textCells l).toArray) (.int .i64 (k : Int))).run P W = .ok (.string ⟨q.toArray⟩) W := by
  have hk : k < n := by rw [← hn]; exact (List.getElem?_eq_some_iff.1 hq).1
  have hk2 : (k : Int) < (n : Int) := by omega
  have hv : (textCells l)[k]? = some (.string ⟨q.toArray⟩) := by simp [textCells, hq]
  simp [Instr.index, run_underlying h, asIntOf, go_sem, h1, hz, hv]
  intro hc
  omega
end Go.Proofs.YtaiefheejgfefaaDoor
