/- The contracts of the document's hex and Quote. -/
import Derived.Test.YtaiefheejgfefaaDoorRefSlice
import Derived.Test.YtaiefheejgfefaaDoorPlainA
namespace Go.Proofs.YtaiefheejgfefaaDoor
open Go.RowKit

theorem hex_cut (u : Nat) (h : u < 16) : (ByteArray.mk #[48, 49, 50, 51, 52, 53, 54, 55, 56, 57, 97, 98, 99, 100, 101, 102]).extract u (u + 1) = ⟨#[hexc u]⟩ := by
  have hall : ∀ v : Fin 16, (ByteArray.mk #[48, 49, 50, 51, 52, 53, 54, 55, 56, 57, 97, 98, 99, 100, 101, 102]).extract v.val (v.val + 1) = ⟨#[hexc v.val]⟩ := by decide +kernel
  exact hall ⟨u, h⟩

theorem hex_one (u : Nat) (w : World) (h : u < 16) :
    Calls Tryd.prog 62 #[.int .i64 (u : Int)] w fun e w' => e = .returned (.string ⟨#[hexc u]⟩) ∧ w' = w := by
  have hsl : ∀ W : World, (Instr.slice 9 (.string ⟨#[48, 49, 50, 51, 52, 53, 54, 55, 56, 57, 97, 98, 99, 100, 101, 102]⟩) (some (.int .i64 (u : Int))) (some (.int .i64 ((u : Int) + 1))) none).run Tryd.prog W = .ok (.string ⟨#[hexc u]⟩) W := by
    intro W
    rw [run_slice_string W _ _ _ _ _ _ Tryd.underlying9 (by omega) (by omega) (by show _ ≤ ((16 : Nat) : Int); omega)]
    have e1 : ((u : Int)).toNat = u := by omega
    have e2 : ((u : Int) + 1).toNat = u + 1 := by omega
    rw [e1, e2, hex_cut u h]
  go_enter Tryd.func62, Tryd.ntmps62
  go_wp2
  go_ret
  exact ⟨rfl, rfl⟩
theorem hex_any (u : Nat) (w : World) (h : u < 256) :
    Calls Tryd.prog 62 #[.int .i64 (u : Int)] w fun e w' => e = .returned (.string ⟨(hexL u).toArray⟩) ∧ w' = w := by
  by_cases h1 : u < 16
  · have := hex_one u w h1
    rw [hexL_one u h1]
    exact this
  · have HL : Hid (hexL u = [hexc (u / 16), hexc (u % 16)]) := hexL_two u (by omega)
    obtain ⟨q, hq⟩ : ∃ q : Nat, (q : Int) = (u : Int) / 16 := ⟨u / 16, by omega⟩
    obtain ⟨m, hm⟩ : ∃ m : Nat, (m : Int) = (u : Int) % 16 := ⟨u % 16, by omega⟩
    have eq1 : q = u / 16 := by omega
    have em1 : m = u % 16 := by omega
    have c1 := fun w1 => hex_one q w1 (by omega)
    have c2 := fun w1 => hex_one m w1 (by omega)
    rw [hq] at c1
    rw [hm] at c2
    rw [← eq1, ← em1] at HL
    rw [HL.out]
    clear eq1 em1 hq hm HL
    go_enter Tryd.func62, Tryd.ntmps62
    go_wp2_with fail
    refine (c1 _).mono ?_
    rintro e w' ⟨rfl, rfl⟩
    go_wp2_with fail
    refine (c2 _).mono ?_
    rintro e w' ⟨rfl, rfl⟩
    go_wp2
    go_ret
    exact ⟨ret_str (by apply ByteArray.ext; simp), rfl⟩

theorem piece_ascii (x : Nat × List UInt8) (c : Nat) (hc : c < 128) (hd : decL x.2 = (x.1, x.2.length)) (he : strayP x = false → Lib.encodeRune (x.1 : Int) = x.2) : x.2 = [UInt8.ofNat c] ↔ x.1 = c := by
  constructor
  · intro h
    rw [h] at hd
    have e : decL [UInt8.ofNat c] = (c, 1) := by
      have : atL [UInt8.ofNat c] 0 = c := by simp [atL]; omega
      rw [decL, this, if_pos hc]
    rw [e] at hd
    exact (Prod.mk.inj hd).1.symm
  · intro h
    have hs : strayP x = false := by
      unfold strayP
      have : (x.1 == 65533) = false := by simp; omega
      rw [this]; rfl
    rw [← he hs, h, Lib.encodeRune, Lib.encodeRuneZ_one (by omega) (by omega)]
    simp

theorem quoteP_le (x : Nat × List UInt8) : (quoteP x).length ≤ 6 + x.2.length := by
  have h1 := hexL_length (atL x.2 0)
  have h2 := hexL_length x.1
  unfold quoteP
  repeat' split
  all_goals simp
  all_goals omega
theorem flat_le (xs : Rns) : (xs.flatMap quoteP).length ≤ 6 * xs.length + (bytesOf xs).length := by
  induction xs with
  | nil => simp [bytesOf]
  | cons x xs ih =>
    have := quoteP_le x
    rw [List.flatMap_cons, List.length_append, bytesOf_cons, List.length_append, List.length_cons]
    omega

set_option maxHeartbeats 4000000 in
set_option maxRecDepth 100000 in
theorem refQuote_any (s : ByteArray) (w : World) (hs : s.size ≤ 1099511627776) :
    Calls Tryd.prog 42 #[.string s] w fun e w' => e = .returned (.string ⟨(quoteL s.data.toList).toArray⟩) ∧ Below w.heap.size w w' := by
  have hr := refRunes_any s w hs
  have hcl := scan_length s.data.toList
  rw [← Lib.size_eq] at hcl
  have hbl : (bytesOf (scan s.data.toList)).length = s.size := by rw [scan_bytes, ← Lib.size_eq]
  have hmem := bytesOf_mem_le (scan s.data.toList)
  have hfl : ∀ k, (((scan s.data.toList).take k).flatMap quoteP).length ≤ 7 * s.size := by
    intro k
    have h1 := flat_le ((scan s.data.toList).take k)
    have h2 := bytesOf_take_le (scan s.data.toList) k
    rw [List.length_take] at h1
    omega
  rw [hbl] at hmem
  have hdec := scan_dec s.data.toList
  have henc := scan_enc s.data.toList
  have hpos := scan_pos s.data.toList
  unfold quoteL
  clear hbl
  generalize scan s.data.toList = xs at *
  have HFL : Hid (∀ k, ((xs.take k).flatMap quoteP).length ≤ 7 * s.size) := hfl
  have HME : Hid (∀ k (h : k < xs.length), (xs[k]).2.length ≤ s.size) := hmem
  have HDE : Hid (∀ x ∈ xs, decL x.2 = (x.1, x.2.length)) := hdec
  have HEN : Hid (∀ x ∈ xs, strayP x = false → Lib.encodeRune (x.1 : Int) = x.2) := henc
  have HPO : Hid (∀ x ∈ xs, x.2 ≠ []) := hpos
  clear hfl hmem hdec henc hpos
  go_enter Tryd.func42, Tryd.ntmps42
  go_wp2_with (go_at_call 61; refine hr.mono ?_)
  rintro e W1 ⟨v, rfl, hown, hb⟩
  clear hr
  obtain ⟨g, c, hcells, rfl⟩ := strs_form hown
  have HC : Hid (∀ k, k < xs.length → ∃ b : Nat, g = some ⟨b, 0, none⟩ ∧ ∀ j (h : j < xs.length), W1.cell? ⟨b, j, none⟩ = some (.string ⟨(xs[j]).2.toArray⟩)) := hcells
  clear hcells hown
  go_wp2
  go_loop [5, 6] (fun o i => ∃ (k : Nat) (out : ByteArray), k ≤ xs.length ∧ i = .int .i64 (k : Nat) ∧ o = .string out ∧ out.data.toList = 34 :: (xs.take k).flatMap quoteP) (fun _ i => xs.length - (intOf i).toNat)
  case atStart => exact ⟨0, _, by omega, rfl, rfl, by simp⟩
  case round =>
    obtain ⟨k, out, hk, rfl, rfl, hout⟩ := hrel
    by_cases hlt : k < xs.length
    · obtain ⟨b, rfl, hc⟩ := HC.out k hlt
      have hck := hc k hlt
      have hp1 := HFL.out k
      have hp2 := HME.out k hlt
      have hm := List.getElem_mem hlt
      have hde := HDE.out _ hm
      have hen := HEN.out _ hm
      have hpo := HPO.out _ hm
      have ho1 : out.size ≤ 1 + 7 * s.size := by rw [Lib.size_eq, hout, List.length_cons]; omega
      have HS : Hid (∀ o' : ByteArray, o'.data.toList = out.data.toList ++ quoteP xs[k] → o'.data.toList = 34 :: (xs.take (k + 1)).flatMap quoteP) := by
        intro o' h
        rw [h, hout, List.take_succ_eq_append_getElem hlt, List.flatMap_append]
        simp
      generalize xs[k] = x at *
      obtain ⟨pc, hpc⟩ : ∃ pc : ByteArray, pc = ⟨x.2.toArray⟩ := ⟨_, rfl⟩
      have hpl : pc.data.toList = x.2 := by rw [hpc]
      have hps : pc.size = x.2.length := by rw [Lib.size_eq, hpl]
      have hp0 : 0 < pc.size := by rw [hps]; exact List.length_pos_iff.2 hpo
      have hhd := fun w1 => head_any2 pc w1 hp0 (by unfold maxLen; omega)
      rw [← hpc] at hck
      rw [hpl, hde] at hhd
      have hps2 : pc.size ≤ s.size := by omega
      have hb0 : (pc[0]'hp0).toNat = atL x.2 0 := by rw [byte_at pc 0 hp0, hpl]
      have h34 := piece_ascii x 34 (by omega) hde hen
      have h92 := piece_ascii x 92 (by omega) hde hen
      have e34 : (pc.toList == [34]) = decide (x.1 = 34) := by rw [Lib.toList_data, hpl, Bool.eq_iff_iff]; simp only [beq_iff_eq, decide_eq_true_eq]; exact h34
      have e92 : (pc.toList == [92]) = decide (x.1 = 92) := by rw [Lib.toList_data, hpl, Bool.eq_iff_iff]; simp only [beq_iff_eq, decide_eq_true_eq]; exact h92
      have HPL : Hid (pc.data.toList = x.2) := hpl
      have hst : strayL x.2 = strayP x := by rw [strayL, hde]; rfl
      clear hpc hpl hps h34 h92 hout hc hpo hen hm hp1 hp2 HFL HME HDE HEN HPO
      by_cases hs1 : strayP x = true
      · have hv : headV x.2 = -1 := by rw [headV, hst, hs1]; rfl
        have hx1 : x.1 = 65533 := by simp [strayP] at hs1; exact hs1.1
        have hq : quoteP x = [92, 117, 123] ++ hexL (atL x.2 0) ++ [125] := by rw [quoteP, if_pos hs1]
        have b34 : (pc.toList == [34]) = false := by rw [e34, hx1]; rfl
        have b92 : (pc.toList == [92]) = false := by rw [e92, hx1]; rfl
        have h256 := atL_lt x.2 0
        rw [hv] at hhd
        have HQ : Hid (quoteP x = [92, 117, 123] ++ hexL (atL x.2 0) ++ [125]) := hq
        have hbl := hexL_length (atL x.2 0)
        clear hv hx1 hq e34 e92 hst hs1 hde
        generalize atL x.2 0 = u at *
        have hhx := fun w1 => hex_any u w1 (by omega)
        obtain ⟨hx, hhx2⟩ : ∃ hx : ByteArray, hx = ⟨(hexL u).toArray⟩ := ⟨_, rfl⟩
        have HHX : Hid (hx.data.toList = hexL u) := by rw [hhx2]; trivial
        have hsz : hx.size ≤ 2 := by rw [Lib.size_eq, HHX.out]; exact hbl
        rw [← hhx2] at hhx
        clear hhx2 hbl
        go_wp2_with (first | (go_at_call 54; refine (hhd _).mono ?_; rintro e w' ⟨rfl, rfl⟩) | (go_at_call 62; refine (hhx _).mono ?_; rintro e w' ⟨rfl, rfl⟩))
        go_round
        case rel => exact ⟨k + 1, _, hlt, by go_num, rfl, HS.out _ (by rw [HQ.out]; simp [HHX.out])⟩
        case measure => simp [intOf]; omega
      · have hs2 : strayP x = false := by simpa using hs1
        obtain ⟨r, hr⟩ : ∃ r : Int, r = (x.1 : Int) := ⟨_, rfl⟩
        have hv : headV x.2 = r := by rw [headV, hst, hs2, hde, hr]; rfl
        rw [hv] at hhd
        have hr0 : 0 ≤ r := by omega
        obtain ⟨q, hq⟩ : ∃ q, q = quoteP x := ⟨_, rfl⟩
        have HQ : Hid (q = quoteP x) := hq
        simp only [quoteP, hs2, Bool.false_eq_true, if_false] at hq
        rw [← HQ.out] at HS
        clear hv hs1 hs2 hst hde HQ
        by_cases h34 : r = 34 ∨ r = 92
        · rw [if_pos (by omega)] at hq
          have HQ : Hid (q = 92 :: pc.data.toList) := by rw [hq, HPL.out]; trivial
          have bb : (pc.toList == [34]) = true ∨ ((pc.toList == [34]) = false ∧ (pc.toList == [92]) = true) := by
            rw [e34, e92]; simp; omega
          clear hq hr e34 e92 h34
          rcases bb with b34 | ⟨b34, b92⟩
          all_goals
            go_wp2_with (go_at_call 54; refine (hhd _).mono ?_; rintro e w' ⟨rfl, rfl⟩)
            go_round
            case rel => exact ⟨k + 1, _, hlt, by go_num, rfl, HS.out _ (by rw [HQ.out]; simp)⟩
            case measure => simp [intOf]; omega
        rw [if_neg (by omega)] at hq
        have b34 : (pc.toList == [34]) = false := by rw [e34]; simp; omega
        have b92 : (pc.toList == [92]) = false := by rw [e92]; simp; omega
        clear e34 e92
        by_cases h10 : r = 10
        · rw [if_pos (by omega)] at hq
          have HQ : Hid (q = [92, 110]) := hq
          clear hq hr h34
          subst h10
          go_wp2_with (go_at_call 54; refine (hhd _).mono ?_; rintro e w' ⟨rfl, rfl⟩)
          go_round
          case rel => exact ⟨k + 1, _, hlt, by go_num, rfl, HS.out _ (by rw [HQ.out]; simp)⟩
          case measure => simp [intOf]; omega
        rw [if_neg (by omega)] at hq
        by_cases h9 : r = 9
        · rw [if_pos (by omega)] at hq
          have HQ : Hid (q = [92, 116]) := hq
          clear hq hr h34 h10
          subst h9
          go_wp2_with (go_at_call 54; refine (hhd _).mono ?_; rintro e w' ⟨rfl, rfl⟩)
          go_round
          case rel => exact ⟨k + 1, _, hlt, by go_num, rfl, HS.out _ (by rw [HQ.out]; simp)⟩
          case measure => simp [intOf]; omega
        rw [if_neg (by omega)] at hq
        have b10 : (r == 10) = false := by simp; omega
        have b9 : (r == 9) = false := by simp; omega
        clear h10 h9 h34
        by_cases h32 : r < 32 ∨ r = 127
        · rw [if_pos (by omega)] at hq
          obtain ⟨u, hu⟩ : ∃ u : Nat, u = x.1 := ⟨_, rfl⟩
          rw [← hu] at hq
          have HQ : Hid (q = [92, 117, 123] ++ hexL u ++ [125]) := hq
          have hbl := hexL_length u
          have hur : (u : Int) = r := by omega
          have hhx := fun w1 => hex_any u w1 (by omega)
          rw [hur] at hhx
          obtain ⟨hx, hhx2⟩ : ∃ hx : ByteArray, hx = ⟨(hexL u).toArray⟩ := ⟨_, rfl⟩
          have HHX : Hid (hx.data.toList = hexL u) := by rw [hhx2]; trivial
          have hsz : hx.size ≤ 2 := by rw [Lib.size_eq, HHX.out]; exact hbl
          rw [← hhx2] at hhx
          have bb : r = 127 ∨ (r < 32 ∧ (r == 127) = false) := by simp; omega
          clear hhx2 hbl hur hq hu hr h32
          rcases bb with rfl | ⟨b32, b127⟩
          all_goals
            go_wp2_with (first | (go_at_call 54; refine (hhd _).mono ?_; rintro e w' ⟨rfl, rfl⟩) | (go_at_call 62; refine (hhx _).mono ?_; rintro e w' ⟨rfl, rfl⟩))
            go_round
            case rel => exact ⟨k + 1, _, hlt, by go_num, rfl, HS.out _ (by rw [HQ.out]; simp [HHX.out])⟩
            case measure => simp [intOf]; omega
        rw [if_neg (by omega)] at hq
        have HQ : Hid (q = pc.data.toList) := by rw [hq, HPL.out]; trivial
        have b127 : (r == 127) = false := by simp; omega
        have b32 : 32 ≤ r := by omega
        clear hq hr h32
        go_wp2_with (go_at_call 54; refine (hhd _).mono ?_; rintro e w' ⟨rfl, rfl⟩)
        go_round
        case rel => exact ⟨k + 1, _, hlt, by go_num, rfl, HS.out _ (by rw [HQ.out]; simp)⟩
        case measure => simp [intOf]; omega
    · have hall : xs.take k = xs := List.take_of_length_le (by omega)
      rw [hall] at hout
      have ho1 : out.size ≤ 1 + 7 * s.size := by
        have := HFL.out k
        rw [hall] at this
        rw [Lib.size_eq, hout, List.length_cons]; omega
      have HO : Hid (out.data.toList = 34 :: xs.flatMap quoteP) := hout
      clear hout hall
      go_wp2
      go_ret
      exact ⟨ret_str (ba_of_list (by simp [HO.out])), hb⟩
end Go.Proofs.YtaiefheejgfefaaDoor
