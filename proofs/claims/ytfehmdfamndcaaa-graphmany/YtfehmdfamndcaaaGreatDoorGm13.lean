/- Own text. The program's names. The contract of the document's Slice. The contracts of the document's hex and Quote. The document's text of a token. The document's text of a token, by its kind. -/
import Derived.Test.YtfehmdfamndcaaaGreatDoorGm12
import Derived.WalkKit
import Derived.Test.YtfehmdfamndcaaaGreatDoorGm11
import Derived.Test.YtfehmdfamndcaaaGreatDoorGm08
namespace Go.Proofs.YtfehmdfamndcaaaGreatDoor
open Go.RowKit
set_option linter.unusedVariables false

theorem decL_low (l : Bs) : ((decL l).1 < 128 → atL l 0 = (decL l).1 ∧ (decL l).2 = 1) ∧ (atL l 0 < 128 → decL l = (atL l 0, 1)) := by
  unfold decL
  refine ⟨fun h => ?_, fun h => by rw [if_pos h]⟩
  split at h <;> rename_i h1
  · rw [if_pos h1]; exact ⟨rfl, rfl⟩
  · exfalso
    repeat' split at h
    all_goals simp_all
    all_goals omega

def onB (r : Int) (sc : Bool) : Bool := begB r sc || digitB r
theorem begL_dec (l : Bs) (sc : Bool) (h : l ≠ []) : begL l sc = if begB ((decL l).1 : Nat) sc then (decL l).2 else 0 := by
  rw [begL_some l sc h]
  obtain ⟨lo1, lo2⟩ := decL_low l
  by_cases h1 : atL l 0 = 95 ∨ (sc = true ∧ atL l 0 = 36)
  · rw [if_pos h1]
    have hd := lo2 (by rcases h1 with h | ⟨_, h⟩ <;> omega)
    rw [hd]
    have : begB ((atL l 0 : Nat) : Int) sc = true := by
      unfold begB
      rcases h1 with h | ⟨h, h'⟩
      · rw [h]; simp
      · rw [h', h]; simp
    rw [if_pos this]
  · rw [if_neg h1]
    by_cases h2 : letterB ((decL l).1 : Nat) = true
    · have hs : strayL l = false := by
        unfold strayL
        cases hd : decL l with
        | mk r n =>
          rw [hd] at h2
          by_cases hr : r = 65533
          · subst hr; exact absurd (show letterB ((65533 : Nat) : Int) = true from h2) (by decide)
          · simp [hr]
      rw [if_pos ⟨hs, h2⟩, if_pos (by unfold begB; rw [h2]; rfl)]
    · rw [if_neg (fun hh => h2 hh.2)]
      have : begB ((decL l).1 : Nat) sc = false := by
        unfold begB
        have e1 : letterB ((decL l).1 : Nat) = false := by simpa using h2
        have e2 : ((((decL l).1 : Nat) : Int) == 95) = false := int_eqb (fun e => h1 (.inl (by rw [(lo1 (by omega)).1]; omega)))
        rw [e1, e2]
        cases sc with
        | false => simp
        | true =>
          have e3 : ((((decL l).1 : Nat) : Int) == 36) = false := int_eqb (fun e => h1 (.inr ⟨rfl, by rw [(lo1 (by omega)).1]; omega⟩))
          rw [e3]; rfl
      rw [this]; rfl
theorem digC_dec (l : Bs) : digC (atL l 0) = digitB ((decL l).1 : Nat) := by
  obtain ⟨lo1, lo2⟩ := decL_low l
  unfold digC digitB
  rw [Bool.eq_iff_iff]
  simp
  by_cases h : atL l 0 < 128
  · rw [lo2 h]; simp; omega
  · constructor
    · intro hh; omega
    · intro hh
      have := (lo1 (by omega)).1
      omega
theorem onL_dec (l : Bs) (sc : Bool) (h : l ≠ []) : onL l sc = if onB ((decL l).1 : Nat) sc then (decL l).2 else 0 := by
  have hw := (decL_width l).1
  unfold onL onB
  rw [begL_dec l sc h]
  cases hb : begB ((decL l).1 : Nat) sc
  · simp only [Bool.false_eq_true, if_false, ne_eq, not_true_eq_false, Bool.false_or]
    rw [digC_dec]
    cases hd : digitB ((decL l).1 : Nat)
    · simp
    · have : (decL l).2 = 1 := by
        refine ((decL_low l).1 ?_).2
        unfold digitB at hd
        simp at hd
        omega
      rw [this]
      simp [h]
  · simp only [if_true, Bool.true_or]
    rw [if_pos (by omega)]
theorem nameL_tail (l : Bs) (sc : Bool) (h : begL l sc ≠ 0) : nameL l sc = tailL l sc := by
  have ho : onL l sc = begL l sc := by unfold onL; rw [if_pos h]
  rw [tailL_eq, ho, if_neg h]
  unfold nameL
  rw [if_neg h]
theorem nameL_pos (l : Bs) (sc : Bool) : 0 < nameL l sc ↔ begL l sc ≠ 0 := by
  unfold nameL
  split <;> simp_all
  omega

theorem inside_any (b bb : Nat) (r : Int) (sc : Bool) (w : World) (hx : w.cell? ⟨bb, 0, none⟩ = some (.pointer (some ⟨b, 0, none⟩))) (hc : w.cell? ⟨b, 2, none⟩ = some (.bool sc)) :
    Calls Tryz.prog 135 #[.int .i32 r, .pointer (some ⟨bb, 0, none⟩)] w fun e w' => e = .returned (.bool (!onB r sc)) ∧ w' = w := by
  have hbg := begins_own b r sc w hc
  have hd := digit_any r w
  unfold onB
  cases h1 : begB r sc
  · rw [h1] at hbg
    go_enter Tryz.func135, Tryz.ntmps135
    go_wp2_with (first
      | (go_at_call 119; refine hbg.mono ?_; rintro e W ⟨rfl, rfl⟩)
      | (go_at_call 121; refine hd.mono ?_; rintro e W ⟨rfl, rfl⟩))
    go_ret
    exact ⟨by simp, rfl⟩
  · rw [h1] at hbg
    go_enter Tryz.func135, Tryz.ntmps135
    go_wp2_with (go_at_call 119; refine hbg.mono ?_; rintro e W ⟨rfl, rfl⟩)
    go_ret
    exact ⟨by simp, rfl⟩

def ixL (l : Bs) (sc : Bool) : Int := if tailL l sc = l.length then -1 else (tailL l sc : Int)

set_option maxHeartbeats 2000000 in
set_option maxRecDepth 100000 in
theorem indexFunc_own (b bb : Nat) (s : ByteArray) (sc : Bool) (w : World) (hx : w.cell? ⟨bb, 0, none⟩ = some (.pointer (some ⟨b, 0, none⟩))) (hc : w.cell? ⟨b, 2, none⟩ = some (.bool sc)) :
    Calls Tryz.prog 147 #[.string s, .func (.func 135) #[] #[.pointer (some ⟨bb, 0, none⟩)], .bool true] w fun e w' => e = .returned (.int .i64 (ixL s.data.toList sc)) ∧ Below w.heap.size w w' := by
  have hsl : Hid (s.size = s.data.toList.length) := Lib.size_eq s
  have hltx := World.block_lt_of_cell? w _ hx
  have hltc := World.block_lt_of_cell? w _ hc
  go_enter Tryz.func147, Tryz.ntmps147
  go_wp2
  go_loopw [] (fun wr => ∃ pos : Nat, wr.heap[w.heap.size]? = some (.stringIter s pos) ∧ Below w.heap.size w wr ∧ pos ≤ s.size ∧ Hid (tailL s.data.toList sc = pos + tailL (s.data.toList.drop pos) sc)) (fun wr => s.size - wr.iterPos w.heap.size)
  case atStart => exact ⟨0, World.iter_heap w s 0, (Below.refl _ w).alloc (Nat.le_refl _) _, Nat.zero_le _, by simp [Hid]⟩
  case round =>
    obtain ⟨pos, hit, hbw, hps, hh⟩ := hrel
    by_cases hp : pos < s.size
    · have hnx : ∀ ty, (Instr.next (.pointer (some ⟨w.heap.size, 0, none⟩)) true ty).run Tryz.prog wr = _ := fun ty => run_next_dec_at wr w.heap.size s pos ty hit hp
      have hne := drop_ne s pos hp
      have hwd := (decL_width (s.data.toList.drop pos)).1
      have hwl := width_le s pos hp
      have hit2 := Lib.iterAt_heap wr w.heap.size s pos (pos + (decL (s.data.toList.drop pos)).2) hit
      have hbw2 := Lib.below_iterAt hbw (k := w.heap.size) (Nat.le_refl _) s (pos + (decL (s.data.toList.drop pos)).2)
      have hod := onL_dec (s.data.toList.drop pos) sc hne
      have hte := tailL_eq (s.data.toList.drop pos) sc
      have hmeas : ∀ W : World, W.heap[w.heap.size]? = some (.stringIter s (pos + (decL (s.data.toList.drop pos)).2)) → s.size - W.iterPos w.heap.size < s.size - wr.iterPos w.heap.size := by
        intro W hW
        simp only [World.iterPos, hW, hit]
        omega
      obtain ⟨W2, hW2⟩ : ∃ W2, W2 = wr.iterAt w.heap.size s (pos + (decL (s.data.toList.drop pos)).2) := ⟨_, rfl⟩
      rw [← hW2] at hit2 hbw2
      have hnx2 : ∀ ty, (Instr.next (.pointer (some ⟨w.heap.size, 0, none⟩)) true ty).run Tryz.prog wr = .ok (.tuple #[.bool true, .int .i64 pos, .int .i32 (decL (s.data.toList.drop pos)).1]) W2 := fun ty => by rw [hW2]; exact hnx ty
      clear hnx hW2
      have hin := inside_any b bb ((decL (s.data.toList.drop pos)).1 : Nat) sc W2 ((hbw2.cell (p := ⟨bb, 0, none⟩) hltx).trans hx) ((hbw2.cell (p := ⟨b, 2, none⟩) hltc).trans hc)
      cases ho : onB ((decL (s.data.toList.drop pos)).1 : Nat) sc
      · rw [ho] at hin hod
        have HR : Hid (ixL s.data.toList sc = (pos : Int)) := by
          show _ = _
          have h0 : onL (s.data.toList.drop pos) sc = 0 := hod
          rw [if_pos h0] at hte
          unfold ixL
          rw [hh.out, hte, if_neg (by rw [← hsl.out]; omega)]
          rfl
        clear hh hte hod ho hne hwd hwl hmeas
        generalize (decL (s.data.toList.drop pos)).1 = R at *
        generalize (decL (s.data.toList.drop pos)).2 = K at *
        go_wp2_with (go_at_call 135; refine hin.mono ?_; rintro e W ⟨rfl, rfl⟩)
        go_ret
        exact ⟨by rw [HR.out]; rfl, hbw2⟩
      · rw [ho] at hin hod
        have HR : Hid (tailL s.data.toList sc = (pos + (decL (s.data.toList.drop pos)).2) + tailL (s.data.toList.drop (pos + (decL (s.data.toList.drop pos)).2)) sc) := by
          show _ = _
          have h0 : onL (s.data.toList.drop pos) sc = (decL (s.data.toList.drop pos)).2 := hod
          rw [h0, if_neg (by omega), List.drop_drop] at hte
          rw [hh.out, hte]
          omega
        clear hh hte hod ho hne hwd
        generalize (decL (s.data.toList.drop pos)).1 = R at *
        generalize (decL (s.data.toList.drop pos)).2 = K at *
        go_wp2_with (go_at_call 135; refine hin.mono ?_; rintro e W ⟨rfl, rfl⟩)
        go_roundw
        case rel => exact ⟨pos + K, hit2, hbw2, hwl, HR⟩
        case measure => exact hmeas _ hit2
    · have hnx : ∀ ty, (Instr.next (.pointer (some ⟨w.heap.size, 0, none⟩)) true ty).run Tryz.prog wr = _ := fun ty => Lib.run_next_end_at wr w.heap.size s pos ty hit hp
      have HR : Hid (ixL s.data.toList sc = -1) := by
        show _ = _
        have h0 := tailL_le s.data.toList sc
        have h1 := hh.out
        have h2 := hsl.out
        unfold ixL
        rw [if_pos (by omega)]
      clear hh
      go_wp2
      go_ret
      exact ⟨by rw [HR.out]; rfl, hbw⟩

theorem IndexFunc_own (b bb : Nat) (s : ByteArray) (sc : Bool) (w : World) (hx : w.cell? ⟨bb, 0, none⟩ = some (.pointer (some ⟨b, 0, none⟩))) (hc : w.cell? ⟨b, 2, none⟩ = some (.bool sc)) :
    Calls Tryz.prog 134 #[.string s, .func (.func 135) #[] #[.pointer (some ⟨bb, 0, none⟩)]] w fun e w' => e = .returned (.int .i64 (ixL s.data.toList sc)) ∧ Below w.heap.size w w' := by
  have hi := indexFunc_own b bb s sc w hx hc
  generalize ixL s.data.toList sc = I at *
  go_enter Tryz.func134, Tryz.ntmps134
  go_wp2_with (go_at_call 147; refine hi.mono ?_; rintro e W ⟨rfl, hb⟩)
  go_ret
  exact ⟨rfl, hb⟩

set_option maxHeartbeats 2000000 in
set_option maxRecDepth 100000 in
theorem isWordL_any (s : ByteArray) (w : World) (he : Env w) : Calls Tryz.prog 136 #[.string s] w fun e w' => e = .returned (.bool (wordB s.data.toList)) ∧ w' = w := by
  have hl19 : wordsL.length = 19 := rfl
  obtain ⟨tw, fw, hw⟩ := he.wrd
  have hwz : (Tryz.prog.info? 181).map (·.size) = some (textCells wordsL).toArray.size := by kernel_rfl
  have hix := fun (k : Nat) (q : Bs) (hq : wordsL[k]? = some q) (W : World) => index_row (P := Tryz.prog) W 181 9 19 wordsL k q Tryz.underlying181 rfl hq (Tryz.isAgg9 W) (Tryz.sizeOf9 W)
  generalize (textCells wordsL).toArray = V at *
  go_enter Tryz.func136, Tryz.ntmps136
  go_wp2_with (refine wpList_load_row rfl 181 _ rfl 4 rfl tw _ fw _ hw Tryz.underlying181 rfl hwz ?_)
  go_loopw [6] (fun v6 W' => ∃ k : Nat, v6 = .int .i64 k ∧ k ≤ 19 ∧ W' = w ∧ Hid (∀ q ∈ wordsL.take k, q ≠ s.data.toList)) (fun v6 _ => 19 - (intOf v6).toNat)
  case atStart => exact ⟨0, rfl, by omega, rfl, by intro q hq; simp at hq⟩
  case round =>
    obtain ⟨k, rfl, hk, rfl, hh⟩ := hrel
    by_cases hkl : k < 19
    · have hk2 : (k : Int) < 19 := by omega
      obtain ⟨q, hq⟩ : ∃ q, wordsL[k]? = some q := ⟨_, List.getElem?_eq_getElem (by rw [hl19]; exact hkl)⟩
      have hc := hix k q hq
      have heq : (s.toList == (⟨q.toArray⟩ : ByteArray).toList) = (s.data.toList == q) := by rw [Lib.toList_data, Lib.toList_data]
      have HQ : Hid (wordsL[k]? = some q) := hq
      clear hq hix
      generalize (⟨q.toArray⟩ : ByteArray) = Q at *
      cases hqe : (s.data.toList == q)
      · rw [hqe] at heq
        have hne : q ≠ s.data.toList := by
          intro e; rw [e] at hqe; simp at hqe
        have hh2 : Hid (∀ x ∈ wordsL.take (k + 1), x ≠ s.data.toList) := by
          intro x hx
          rw [List.take_add_one, HQ.out] at hx
          rcases List.mem_append.1 hx with hx | hx
          · exact hh.out x hx
          · rw [show x = q from by simpa using hx]; exact hne
        clear hh hqe hne
        go_wp2
        go_roundw
        case rel => exact ⟨k + 1, by simp, by omega, by simp, hh2⟩
        case measure => simp [intOf]; omega
      · rw [hqe] at heq
        have hm : Hid (wordB s.data.toList = true) := by
          have h1 : s.data.toList = q := by simpa using hqe
          have h2 := List.mem_of_getElem? HQ.out
          rw [← h1] at h2
          show wordsL.contains s.data.toList = _
          simpa using h2
        clear hh hqe
        go_wp2
        go_ret
        exact ⟨ret_bool hm.out.symm, rfl⟩
    · have hk2 : ¬ (k : Int) < 19 := by omega
      have hm : Hid (wordB s.data.toList = false) := by
        have h1 := hh.out
        rw [List.take_of_length_le (by rw [hl19]; omega)] at h1
        show wordsL.contains s.data.toList = _
        have : s.data.toList ∉ wordsL := fun hm => h1 _ hm rfl
        simpa using this
      clear hh hix
      go_wp2
      go_ret
      exact ⟨ret_bool hm.out.symm, rfl⟩
end Go.Proofs.YtfehmdfamndcaaaGreatDoor
namespace Go.Proofs.YtfehmdfamndcaaaGreatDoor
open Go.RowKit

/-- The k-th text of a row of texts. -/
theorem strs_cell {w : World} {B n : Nat} {xs : Rns} {g c : Nat} (h : w.ownsRow B 9 1 (.slice (some ⟨g, 0, none⟩) n c) n (strsV xs)) (k : Nat) (hk : k < xs.length) : w.cell? ⟨g, k, none⟩ = some (.string ⟨(xs[k]).2.toArray⟩) := by
  have := h.cells (g := g) rfl k (.string ⟨(xs[k]).2.toArray⟩) (by simp [strsV, List.getElem?_eq_getElem hk])
  have ha : (⟨g, 0, none⟩ : Addr).add k = ⟨g, k, none⟩ := by cases k <;> simp [Addr.add]
  rw [ha] at this
  exact this

theorem strs_form {w : World} {B : Nat} {v : Value} {xs : Rns} (hown : w.ownsRow B 9 1 v xs.length (strsV xs)) : ∃ (g : Option Addr) (c : Nat), (∀ k, k < xs.length → ∃ b : Nat, g = some ⟨b, 0, none⟩ ∧ ∀ j (h : j < xs.length), w.cell? ⟨b, j, none⟩ = some (.string ⟨(xs[j]).2.toArray⟩)) ∧ v = .slice g xs.length c := by
  rcases hown.2 with ⟨rfl, h0⟩ | ⟨b, cap, cur, rfl, _⟩
  · have hx : xs = [] := List.eq_nil_of_length_eq_zero h0
    subst hx
    exact ⟨none, 0, fun k hk => by simp at hk, rfl⟩
  · exact ⟨_, cap, fun k hk => ⟨b, rfl, fun j hj => strs_cell hown j hj⟩, rfl⟩

end Go.Proofs.YtfehmdfamndcaaaGreatDoor
namespace Go.Proofs.YtfehmdfamndcaaaGreatDoor
open Go.RowKit

theorem hex_cut (u : Nat) (h : u < 16) : (ByteArray.mk #[48, 49, 50, 51, 52, 53, 54, 55, 56, 57, 97, 98, 99, 100, 101, 102]).extract u (u + 1) = ⟨#[hexc u]⟩ := by
  have hall : ∀ v : Fin 16, (ByteArray.mk #[48, 49, 50, 51, 52, 53, 54, 55, 56, 57, 97, 98, 99, 100, 101, 102]).extract v.val (v.val + 1) = ⟨#[hexc v.val]⟩ := by decide +kernel
  exact hall ⟨u, h⟩

theorem piece_ascii (x : Nat × List UInt8) (c : Nat) (hc : c < 128) (hd : decL x.2 = (x.1, x.2.length)) (he : strayP x = false → Lib.encodeRune (x.1 : Int) = x.2) : x.2 = [UInt8.ofNat c] ↔ x.1 = c := by
  constructor
  · intro h
    rw [h] at hd
    have e : decL [UInt8.ofNat c] = (c, 1) := by
      have : atL [UInt8.ofNat c] 0 = c := by simp [atL]; omega
      rw [decL, this, if_pos hc]
    rw [e] at hd
    exact (Prod.mk.inj hd).1.symm
  · intro h
    have hs : strayP x = false := by
      unfold strayP
      have : (x.1 == 65533) = false := by simp; omega
      rw [this]; rfl
    rw [← he hs, h, Lib.encodeRune, Lib.encodeRuneZ_one (by omega) (by omega)]
    simp

theorem quoteP_le (x : Nat × List UInt8) : (quoteP x).length ≤ 6 + x.2.length := by
  have h1 := hexL_length (atL x.2 0)
  have h2 := hexL_length x.1
  unfold quoteP
  repeat' split
  all_goals simp
  all_goals omega
theorem flat_le (xs : Rns) : (xs.flatMap quoteP).length ≤ 6 * xs.length + (bytesOf xs).length := by
  induction xs with
  | nil => simp [bytesOf]
  | cons x xs ih =>
    have := quoteP_le x
    rw [List.flatMap_cons, List.length_append, bytesOf_cons, List.length_append, List.length_cons]
    omega

end Go.Proofs.YtfehmdfamndcaaaGreatDoor
namespace Go.Proofs.YtfehmdfamndcaaaGreatDoor
open Go.RowKit
set_option linter.unusedVariables false

theorem digitsF_more : ∀ (f g n : Nat), n < f → n < g → digitsF f n = digitsF g n
  | f + 1, g + 1, n, hf, hg => by
    unfold digitsF
    split
    · rw [digitsF_more f g (n / 10) (by omega) (by omega)]
    · rfl
theorem digitsL_eq (n : Nat) : digitsL n = if 9 < n then digitsL (n / 10) ++ [UInt8.ofNat (48 + n % 10)] else [UInt8.ofNat (48 + n % 10)] := by
  unfold digitsL
  conv => lhs; unfold digitsF
  split
  · rw [digitsF_more n (n / 10 + 1) (n / 10) (by omega) (by omega)]
  · rfl
theorem digitsL_len : ∀ (k n : Nat), n < 10 ^ (k + 1) → (digitsL n).length ≤ k + 1
  | 0, n, h => by rw [digitsL_eq, if_neg (by omega)]; simp
  | k + 1, n, h => by
    rw [digitsL_eq]
    split
    · have := digitsL_len k (n / 10) (by rw [Nat.pow_succ] at h; omega)
      simp
      omega
    · simp
theorem digitsL_small (n : Nat) (h : n ≤ 9223372036854775807) : (digitsL n).length ≤ 19 := digitsL_len 18 n (by omega)

/-- the text that a token would have. -/
def rawB (t : Tk) : ByteArray := if t.1 = 3 then ⟨(digitsL t.2.2.toNat).toArray⟩ else if t.1 = 4 then ⟨(quoteL t.2.1).toArray⟩ else ⟨t.2.1.toArray⟩
theorem rawB_list (t : Tk) (h : t.1 = 3 → 0 ≤ t.2.2) : rawL t = some (rawB t).data.toList := by
  unfold rawL rawB
  split
  · rename_i h3
    rw [if_neg (by have := h h3; omega)]
  · split
    · rfl
    · rfl
theorem eq_texts (a b : Bs) : ((⟨a.toArray⟩ : ByteArray).toList == (⟨b.toArray⟩ : ByteArray).toList) = (a == b) := by rw [Lib.toList_data, Lib.toList_data]

theorem rowForm {w : World} {base : Nat} {e : TypeId} {size : Nat} {v : Value} {n : Nat} {xs : List Value} (h : w.ownsRow base e size v n xs) : ∃ A c, v = .slice A n c := by
  rcases h.2 with ⟨rfl, rfl⟩ | ⟨g, cap, cur, rfl, _⟩
  · exact ⟨_, _, rfl⟩
  · exact ⟨_, _, rfl⟩
theorem rowSome {w : World} {base : Nat} {e : TypeId} {size : Nat} {v : Value} {n : Nat} {xs : List Value} (h : w.ownsRow base e size v n xs) (hn : 0 < n) : ∃ g c, v = .slice (some ⟨g, 0, none⟩) n c ∧ base ≤ g ∧ n ≤ c := by
  rcases h.2 with ⟨rfl, rfl⟩ | ⟨g, cap, cur, rfl, h1, h2, h3, _⟩
  · omega
  · exact ⟨_, _, rfl, h1, h3⟩
theorem lexF_err : ∀ (f a : Nat) (l : Bs) (sc : Bool) (c : Nat × Nat), lexF f a l sc = .error c → c.2 = 40 ∨ c.2 = 41
  | 0, a, l, sc, c, h => by cases h
  | f + 1, a, l, sc, c, h => by
    unfold lexF at h
    split at h
    · cases h; exact .inl rfl
    · split at h
      · cases h
      · cases hx : nextL (l.drop (pastL l).1) sc with
        | error e =>
          rw [hx] at h
          cases h
          exact next_err hx
        | ok x =>
          rw [hx] at h
          simp only at h
          cases hy : lexF f (a + (pastL l).1 + x.2) (l.drop ((pastL l).1 + x.2)) sc with
          | error d =>
            rw [hy] at h
            cases h
            exact lexF_err f _ _ sc _ hy
          | ok ts => rw [hy] at h; cases h
theorem isTk_one {s : Bs} {x : Tk × Nat} (h : lexL 0 s true = .ok [x]) (t : Tk) : isTk s t = (x.1 == t) := by unfold isTk; rw [h]
theorem isTk_err {s : Bs} {c : Nat × Nat} (h : lexL 0 s true = .error c) (t : Tk) : isTk s t = false := by unfold isTk; rw [h]
theorem isTk_not {s : Bs} {ts : List (Tk × Nat)} (h : lexL 0 s true = .ok ts) (hn : ts.length ≠ 1) (t : Tk) : isTk s t = false := by
  unfold isTk
  rw [h]
  match ts, hn with
  | [], _ => rfl
  | [x], hn => exact absurd rfl hn
  | x :: y :: r, _ => rfl
theorem tk_eq (a b c : Int) (x y : Bs) (d : Int) : (((a, x, c) : Tk) == (b, y, d)) = ((a == b) && ((x == y) && (c == d))) := rfl
theorem tok_cells {w : World} {base g c : Nat} {x : Tk × Nat} (h : ToksAt w base (.slice (some ⟨g, 0, none⟩) 1 c) (ints [x])) :
    w.cell? ⟨g, 0, none⟩ = some (.int .i64 x.1.1) ∧ w.cell? ⟨g, 1, none⟩ = some (.string ⟨x.1.2.1.toArray⟩) ∧ w.cell? ⟨g, 2, none⟩ = some (.int .i64 x.1.2.2) := by
  have h' : w.ownsRow base 118 4 (.slice (some ⟨g, 0, none⟩) 1 c) 1 (tokCells (x.1, (x.2 : Int))) := h
  refine ⟨?_, ?_, ?_⟩
  · rw [h'.cellAt 0 (by omega)]; rfl
  · rw [h'.cellAt 1 (by omega)]; rfl
  · rw [h'.cellAt 2 (by omega)]; rfl

theorem heap_at2 {W W2 : World} {n : Nat} {o : Obj} (hb : Below W.heap.size W W2) (h : W.heap[n]? = some o) : W2.heap[n]? = some o :=
  (hb.block n (Array.getElem?_eq_some_iff.1 h).1).trans h

theorem quoteL_len (x : Bs) : (quoteL x).length ≤ 7 * x.length + 2 := by
  have h1 := flat_le (scan x)
  have h2 := scan_length x
  have h3 : (bytesOf (scan x)).length = x.length := by rw [scan_bytes]
  unfold quoteL
  simp only [List.length_cons, List.length_append, List.length_nil]
  omega

end Go.Proofs.YtfehmdfamndcaaaGreatDoor
namespace Go.Proofs.YtfehmdfamndcaaaGreatDoor
open Go.RowKit
set_option linter.unusedVariables false

end Go.Proofs.YtfehmdfamndcaaaGreatDoor
