/- The contract of Quote of package runes: a text in quotes, of every text that is not too long. -/
import Derived.Test.YtaiefheejgfefaaDoorRunes1
import Derived.Test.YtaiefheejgfefaaDoorHex
import Derived.Lib.OthersKept
import Derived.BigCall
namespace Go.Proofs.YtaiefheejgfefaaDoor
open Go.RowKit

theorem grown_of_below {w w' : World} (h : Below w.heap.size w w') (row : Option Nat) : w.grownBy w' row := ⟨h.os, h.tape, h.output, h.size, fun k hk _ => h.block k hk⟩
theorem builder_below {T e : TypeId} {B b : Nat} {bs : List Value} {w w' : World} (h : Lib.IsBuilderF T e B b bs w) (hb : Below w.heap.size w w') : Lib.IsBuilderF T e B b bs w' := by
  have one : ∀ p, Lib.BuilderAtF T e B b p bs w → Lib.BuilderAtF T e B b p bs w' := by
    intro p hp
    have hlt := hp.lt
    obtain ⟨hB, v, hv, hown, hne⟩ := hp
    exact ⟨hB, v, (hb.block b hlt).trans hv, hown.kept (grown_of_below hb none) (by cases hv : v.ownBlock <;> simp), hne⟩
  exact h.elim (fun x => .inl (one _ x)) (fun x => .inr (one _ x))
theorem run_next_dec_at {P : Program} (w : World) (k : Nat) (s : ByteArray) (pos : Nat) (ty : TypeId) (hk : w.heap[k]? = some (.stringIter s pos)) (h : pos < s.size) :
    (Instr.next (.pointer (some ⟨k, 0, none⟩)) true ty).run P w =
      .ok (.tuple #[.bool true, .int .i64 pos, .int .i32 (decL (s.data.toList.drop pos)).1]) (w.iterAt k s (pos + (decL (s.data.toList.drop pos)).2)) := by
  rw [← decode_eq]
  exact Lib.run_next_any_at w k s pos ty hk h
theorem first_byte (s : ByteArray) (pos : Nat) (h : pos < s.size) : (s[pos]'h).toNat = atL (s.data.toList.drop pos) 0 := by
  rw [← get_drop, get_at s pos h]
theorem atL_take (l : List UInt8) (n : Nat) (h : 1 ≤ n) : atL (l.take n) 0 = atL l 0 := by
  unfold atL
  cases l <;> cases n <;> simp_all

def tabCell (w : World) : Prop := w.cell? ⟨7, 15, none⟩ = some (.int .u8 4)
theorem tabCell.lt {w : World} (h : tabCell w) : 7 < w.heap.size := by
  refine Decidable.byContradiction fun hn => ?_
  simp [tabCell, World.cell?, Array.getElem?_eq_none (Nat.le_of_not_lt hn)] at h
theorem tabCell.below {B : Nat} {w w' : World} (h : tabCell w) (hb : Below B w w') (hB : 7 < B) : tabCell w' := (hb.cell (p := ⟨7, 15, none⟩) hB).trans h

/-- What is carried from round to round. -/
def QuoteAt (w : World) (s : ByteArray) (k : Nat) (wr : World) (pos : Nat) (acc : List UInt8) : Prop :=
  Lib.IsBuilderF 51 5 w.heap.size w.heap.size (Lib.byteCells acc) wr ∧ wr.heap[k]? = some (.stringIter s pos) ∧ Below w.heap.size w wr ∧ acc ++ (scan (s.data.toList.drop pos)).flatMap quoteP = 34 :: (scan s.data.toList).flatMap quoteP ∧ pos ≤ s.size ∧ acc.length ≤ 1 + 6 * pos

theorem cons_cells (l : List UInt8) : [Value.int .u8 92] ++ Lib.byteCells l = Lib.byteCells (92 :: l) := by simp [Lib.byteCells]
theorem quote_round {w : World} {s : ByteArray} {k : Nat} {W4 : World} {pos : Nat} {acc p : List UInt8} {cs : List Value} (hp : pos < s.size)
    (hacc : acc ++ (scan (s.data.toList.drop pos)).flatMap quoteP = 34 :: (scan s.data.toList).flatMap quoteP) (hal : acc.length ≤ 1 + 6 * pos)
    (h4 : Lib.BuilderAtF 51 5 w.heap.size w.heap.size (.pointer (some ⟨w.heap.size, 0, none⟩)) (Lib.byteCells acc ++ cs) W4) (hcs : cs = Lib.byteCells p)
    (hit : W4.heap[k]? = some (.stringIter s (pos + (decL (s.data.toList.drop pos)).2))) (hb : Below w.heap.size w W4)
    (hq : p = quoteP ((decL (s.data.toList.drop pos)).1, (s.data.toList.drop pos).take (decL (s.data.toList.drop pos)).2)) :
    QuoteAt w s k W4 (pos + (decL (s.data.toList.drop pos)).2) (acc ++ p) := by
  have hne := drop_ne s pos hp
  have hl := quoteP_length _ hne
  rw [← hq] at hl
  refine ⟨?_, hit, hb, ?_, width_le s pos hp, by simp; omega⟩
  · rw [Lib.byteCells_append, ← hcs]; exact Or.inr h4
  · rw [← hacc, scan_drop s pos hp, List.flatMap_cons, ← hq, List.append_assoc]

set_option maxHeartbeats 4000000 in
set_option maxRecDepth 1000000 in
theorem quote_any (s : ByteArray) (w : World) (hs : s.size ≤ 1099511627776) (ht : tabCell w) :
    Calls Tryd.prog 39 #[.string s] w fun e w' => e = .returned (.string ⟨(quoteL s.data.toList).toArray⟩) ∧ Below w.heap.size w w' := by
  go_enter Tryd.func39, Tryd.ntmps39
  go_wp2_with (go_at_call 23; refine (Tryd.Builder_WriteByte_k w.heap.size w.heap.size [] 34 _ (Lib.IsBuilderF.of (Lib.fresh_isBuilder 51 5 w)) (by simp) (by simp)).mono ?_)
  rintro e W1 ⟨rfl, h1, b1, k1⟩
  have hB1 : w.heap.size < W1.heap.size := h1.lt
  have hbw1 : Below w.heap.size w W1 := ((Below.refl _ w).alloc (Nat.le_refl _) _).trans b1
  clear k1 b1
  go_wp2
  go_loopw [] (fun wr => ∃ (pos : Nat) (acc : List UInt8), QuoteAt w s W1.heap.size wr pos acc) (fun wr => s.size - wr.iterPos W1.heap.size)
  case atStart =>
    refine ⟨0, [34], Lib.IsBuilderF.alloc (Or.inr h1) _, World.iter_heap W1 s 0, hbw1.alloc (by omega) _, by simp, by omega, by simp⟩
  case round =>
    obtain ⟨pos, acc, hI, hit, hbw, hacc, hpos, hal⟩ := hrel
    have hksz : W1.heap.size < wr.heap.size := (Array.getElem?_eq_some_iff.1 hit).1
    clear h1 hbw1
    by_cases hp : pos < s.size
    · have hnx : ∀ ty, (Instr.next (.pointer (some ⟨W1.heap.size, 0, none⟩)) true ty).run Tryd.prog wr = _ := fun ty => run_next_dec_at wr W1.heap.size s pos ty hit hp
      have hne := drop_ne s pos hp
      have hwd := (decL_width (s.data.toList.drop pos)).1
      have hmx := decL_max (s.data.toList.drop pos)
      have hI2 := hI.iterAt hit (pos + (decL (s.data.toList.drop pos)).2)
      have hit2 := Lib.iterAt_heap wr W1.heap.size s pos (pos + (decL (s.data.toList.drop pos)).2) hit
      have hbw2 := Lib.below_iterAt hbw (k := W1.heap.size) (by omega) s (pos + (decL (s.data.toList.drop pos)).2)
      have hsz2 : (wr.iterAt W1.heap.size s (pos + (decL (s.data.toList.drop pos)).2)).heap.size = wr.heap.size := Lib.iterAt_size _ _ _ _
      have hst := fun w1 => stray_any s pos w1 hp
      have ht2 := ht.below hbw2 ht.lt
      have hmeas : ∀ W : World, W.heap[W1.heap.size]? = some (.stringIter s (pos + (decL (s.data.toList.drop pos)).2)) → s.size - W.iterPos W1.heap.size < s.size - wr.iterPos W1.heap.size := by
        intro W hW
        simp only [World.iterPos, hW, hit]
        omega
      obtain ⟨W2, hW2⟩ : ∃ W2, W2 = wr.iterAt W1.heap.size s (pos + (decL (s.data.toList.drop pos)).2) := ⟨_, rfl⟩
      rw [← hW2] at hI2 hit2 hbw2 hsz2 ht2
      have hnx2 : ∀ ty, (Instr.next (.pointer (some ⟨W1.heap.size, 0, none⟩)) true ty).run Tryd.prog wr = .ok (.tuple #[.bool true, .int .i64 pos, .int .i32 (decL (s.data.toList.drop pos)).1]) W2 := fun ty => by rw [hW2]; exact hnx ty
      clear hnx hW2
      by_cases hs1 : strayL (s.data.toList.drop pos) = true
      · rw [hs1] at hst
        have hq : [92, 117, 123] ++ hexL (s[pos]'hp).toNat ++ [125] = quoteP ((decL (s.data.toList.drop pos)).1, (s.data.toList.drop pos).take (decL (s.data.toList.drop pos)).2) := by
          rw [quoteP, ← strayL_eq _ hne, hs1, if_pos rfl, atL_take _ _ hwd, first_byte s pos hp]
        have HQ : Hid ([92, 117, 123] ++ hexL (s[pos]'hp).toNat ++ [125] = quoteP ((decL (s.data.toList.drop pos)).1, (s.data.toList.drop pos).take (decL (s.data.toList.drop pos)).2)) := hq
        have hbl := hexL_length (s[pos]'hp).toNat
        have h256 := (s[pos]'hp).toNat_lt
        have HACC : Hid (acc ++ (scan (s.data.toList.drop pos)).flatMap quoteP = 34 :: (scan s.data.toList).flatMap quoteP) := hacc
        clear hq hacc hs1
        have hnum := byNumber_any (s[pos]'hp).toNat W2 h256 ht2
        go_wp2_with (first | (go_at_call 57; refine (hst _).mono ?_; rintro e w' ⟨rfl, rfl⟩) | (go_at_call 58; refine hnum.mono ?_))
        rintro e W3 ⟨rfl, b3⟩
        have hI3 := builder_below hI2 b3
        have hz3 := b3.size
        go_wp2_with (go_at_call 24; refine (Tryd.Builder_WriteString_k w.heap.size w.heap.size _ _ _ hI3 (by rw [Lib.byteCells_length, Lib.size_eq]; simp; omega) (by omega)).mono ?_)
        rintro e W4 ⟨rfl, h4, b4, k4⟩
        have hit3 := (b3.block W1.heap.size (by omega)).trans hit2
        have hit4 := k4.iter hit3 (by omega)
        have hqa := quote_round (p := [92, 117, 123] ++ hexL (s[pos]'hp).toNat ++ [125]) hp HACC.out hal h4 rfl hit4 (hbw2.trans ((b3.mono (by omega)).trans b4)) HQ.out
        go_wp2
        go_roundw
        case rel => exact ⟨_, _, hqa⟩
        case measure => exact hmeas _ hit4
      · have hs2 : strayL (s.data.toList.drop pos) = false := by simpa using hs1
        rw [hs2] at hst
        have hsp : strayP ((decL (s.data.toList.drop pos)).1, (s.data.toList.drop pos).take (decL (s.data.toList.drop pos)).2) = false := by rw [← strayL_eq _ hne, hs2]
        have HE : Hid (Lib.encodeRune ((decL (s.data.toList.drop pos)).1 : Int) = (s.data.toList.drop pos).take (decL (s.data.toList.drop pos)).2) := enc_dec _ hne hs2
        have HACC : Hid (acc ++ (scan (s.data.toList.drop pos)).flatMap quoteP = 34 :: (scan s.data.toList).flatMap quoteP) := hacc
        obtain ⟨p, hpq⟩ : ∃ p, p = quoteP ((decL (s.data.toList.drop pos)).1, (s.data.toList.drop pos).take (decL (s.data.toList.drop pos)).2) := ⟨_, rfl⟩
        have HP : Hid (p = quoteP ((decL (s.data.toList.drop pos)).1, (s.data.toList.drop pos).take (decL (s.data.toList.drop pos)).2)) := hpq
        simp only [quoteP, hsp, Bool.false_eq_true, if_false] at hpq
        clear hacc hs1 hs2 hsp
        obtain ⟨r, hr⟩ : ∃ r : Int, r = ((decL (s.data.toList.drop pos)).1 : Int) := ⟨_, rfl⟩
        rw [← hr] at hst HE hnx2
        have hr0 : 0 ≤ r := by omega
        have hr1 : r ≤ 1114111 := by omega
        by_cases h34 : r = 34 ∨ r = 92
        · rw [if_pos (by omega)] at hpq
          have HPQ : Hid (p = 92 :: (s.data.toList.drop pos).take (decL (s.data.toList.drop pos)).2) := hpq
          clear hpq hr
          rcases h34 with rfl | rfl
          all_goals
            go_wp2_with (first | (go_at_call 57; refine (hst _).mono ?_; rintro e w' ⟨rfl, rfl⟩) | (go_at_call 23; refine (Tryd.Builder_WriteByte_k w.heap.size w.heap.size _ 92 _ hI2 (by rw [Lib.byteCells_length]; omega) (by omega)).mono ?_))
            rintro e W3 ⟨rfl, h3, b3, k3⟩
            have hI3 : Lib.IsBuilderF 51 5 w.heap.size w.heap.size (Lib.byteCells acc ++ [.int .u8 92]) W3 := Or.inr h3
            have hz3 := b3.size
            have hit3 := k3.iter hit2 (by omega)
            go_wp2_with (go_at_call 59; refine (Tryd.Builder_WriteRune_k w.heap.size w.heap.size _ _ (by omega) (by omega) _ hI3 (by rw [List.length_append, Lib.byteCells_length]; simp; omega) (by omega)).mono ?_)
            rintro e W4 ⟨rfl, h4, b4, k4⟩
            have hit4 := k4.iter hit3 (by omega)
            rw [List.append_assoc] at h4
            have hqa := quote_round (p := p) hp HACC.out hal h4 (by
              rw [HPQ.out, ← HE.out, ← Lib.byteCells_encodeRune]
              exact cons_cells _) hit4 (hbw2.trans (b3.trans b4)) HP.out
            go_wp2
            go_roundw
            case rel => exact ⟨_, _, hqa⟩
            case measure => exact hmeas _ hit4
        rw [if_neg (by omega)] at hpq
        by_cases h10 : r = 10 ∨ r = 9
        · have HPQ : Hid (p = [92, if r = 10 then 110 else 116]) := by
            rcases h10 with rfl | rfl
            · rw [if_pos (by omega)] at hpq; exact hpq
            · rw [if_neg (by omega), if_pos (by omega)] at hpq; exact hpq
          clear hpq hr h34
          rcases h10 with rfl | rfl
          all_goals
            go_wp2_with (first | (go_at_call 57; refine (hst _).mono ?_; rintro e w' ⟨rfl, rfl⟩) | (go_at_call 24; refine (Tryd.Builder_WriteString_k w.heap.size w.heap.size _ _ _ hI2 (by rw [Lib.byteCells_length, Lib.size_eq]; simp; omega) (by omega)).mono ?_))
            rintro e W4 ⟨rfl, h4, b4, k4⟩
            have hit4 := k4.iter hit2 (by omega)
            have hqa := quote_round (p := p) hp HACC.out hal h4 (by rw [HPQ.out]; rfl) hit4 (hbw2.trans b4) HP.out
            go_wp2
            go_roundw
            case rel => exact ⟨_, _, hqa⟩
            case measure => exact hmeas _ hit4
        rw [if_neg (by omega), if_neg (by omega)] at hpq
        have b34 : (r == 34) = false := by simp; omega
        have b92 : (r == 92) = false := by simp; omega
        have b10 : (r == 10) = false := by simp; omega
        have b9 : (r == 9) = false := by simp; omega
        clear h34 h10
        by_cases h32 : r < 32 ∨ r = 127
        · rw [if_pos (by omega)] at hpq
          obtain ⟨u, hu⟩ : ∃ u : Nat, r = (u : Int) := ⟨(decL (s.data.toList.drop pos)).1, hr⟩
          have hu2 : u = (decL (s.data.toList.drop pos)).1 := by omega
          rw [← hu2] at hpq
          have hbl := hexL_length u
          have HPQ : Hid (p = [92, 117, 123] ++ hexL u ++ [125]) := hpq
          clear hpq hu2 hr
          have hnum := byNumber_any u W2 (by omega) ht2
          rw [← hu] at hnum
          have HU : Hid (r = (u : Int)) := hu
          clear hu
          have b127 : r = 127 ∨ (r < 32 ∧ (r == 127) = false) := by simp; omega
          clear h32
          rcases b127 with rfl | ⟨b32, b127⟩
          all_goals
           go_wp2_with (first | (go_at_call 57; refine (hst _).mono ?_; rintro e w' ⟨rfl, rfl⟩) | (go_at_call 58; refine hnum.mono ?_))
           all_goals
            rintro e W3 ⟨rfl, b3⟩
            have hI3 := builder_below hI2 b3
            have hz3 := b3.size
            go_wp2_with (go_at_call 24; refine (Tryd.Builder_WriteString_k w.heap.size w.heap.size _ _ _ hI3 (by rw [Lib.byteCells_length, Lib.size_eq]; simp; omega) (by omega)).mono ?_)
            rintro e W4 ⟨rfl, h4, b4, k4⟩
            have hit3 := (b3.block W1.heap.size (by omega)).trans hit2
            have hit4 := k4.iter hit3 (by omega)
            have hqa := quote_round (p := p) hp HACC.out hal h4 (by rw [HPQ.out]; rfl) hit4 (hbw2.trans ((b3.mono (by omega)).trans b4)) HP.out
            go_wp2
            go_roundw
            case rel => exact ⟨_, _, hqa⟩
            case measure => exact hmeas _ hit4
        rw [if_neg (by omega)] at hpq
        have HPQ : Hid (p = (s.data.toList.drop pos).take (decL (s.data.toList.drop pos)).2) := hpq
        have b127 : (r == 127) = false := by simp; omega
        have b32 : 32 ≤ r := by omega
        clear hpq hr h32
        go_wp2_with (first | (go_at_call 57; refine (hst _).mono ?_; rintro e w' ⟨rfl, rfl⟩) | (go_at_call 59; refine (Tryd.Builder_WriteRune_k w.heap.size w.heap.size _ _ (by omega) (by omega) _ hI2 (by rw [Lib.byteCells_length]; omega) (by omega)).mono ?_))
        rintro e W4 ⟨rfl, h4, b4, k4⟩
        have hit4 := k4.iter hit2 (by omega)
        have hqa := quote_round (p := p) hp HACC.out hal h4 (by rw [HPQ.out, ← HE.out, Lib.byteCells_encodeRune]) hit4 (hbw2.trans b4) HP.out
        go_wp2
        go_roundw
        case rel => exact ⟨_, _, hqa⟩
        case measure => exact hmeas _ hit4
    · have hnx : ∀ ty, (Instr.next (.pointer (some ⟨W1.heap.size, 0, none⟩)) true ty).run Tryd.prog wr = _ := fun ty => Lib.run_next_end_at wr W1.heap.size s pos ty hit hp
      rw [drop_end s pos hp, scan_nil] at hacc
      have hacc' : acc = 34 :: (scan s.data.toList).flatMap quoteP := by simpa using hacc
      have HA : Hid (acc = 34 :: (scan s.data.toList).flatMap quoteP) := hacc'
      clear hacc'
      clear hacc
      go_wp2_with (go_at_call 23; refine (Tryd.Builder_WriteByte_k w.heap.size w.heap.size _ 34 _ hI (by rw [Lib.byteCells_length]; omega) (by omega)).mono ?_)
      rintro e W2 ⟨rfl, h2, b2, _⟩
      have h3 : Lib.IsBuilderF 51 5 w.heap.size w.heap.size (Lib.byteCells (acc ++ [34])) W2 := by rw [Lib.byteCells_append]; exact Or.inr h2
      have hz2 := h2.lt
      go_wp2_with (go_at_call 25; refine (Tryd.Builder_String_any_k w.heap.size w.heap.size _ _ h3 (by omega)).mono ?_)
      rintro e W3 ⟨rfl, _, b3, _⟩
      go_wp2
      go_ret
      exact ⟨ret_str (by rw [HA.out]; rfl), hbw.trans (b2.trans b3)⟩
end Go.Proofs.YtaiefheejgfefaaDoor
