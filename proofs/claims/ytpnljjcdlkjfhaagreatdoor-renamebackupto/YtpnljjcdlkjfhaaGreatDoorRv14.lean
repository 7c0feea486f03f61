/- Own text. Which texts are words, identifiers, property names: the document's answer. Which texts are identifiers and property names: the document's answer. Small questions on a tree: the document's answer. Which trees are expressions: the document's answer, plain kinds. Which trees are expressions: lists of them, the document's answer. -/
import Derived.Test.YtpnljjcdlkjfhaaGreatDoorRv05
import Derived.Test.YtpnljjcdlkjfhaaGreatDoorRv11
import Derived.Deep.DeepCutAuto
import Derived.Test.YtpnljjcdlkjfhaaGreatDoorRv10
import Derived.Test.YtpnljjcdlkjfhaaGreatDoorRv13
namespace Go.Proofs.YtpnljjcdlkjfhaaGreatDoor
open Go.RowKit
set_option linter.unusedVariables false
set_option linter.unusedSimpArgs false

/-- texts one behind the other. -/
structure TxAt (w : World) (bl : Nat) (L : List (List UInt8)) : Prop where
  c : ∀ k (hk : k < L.length), w.cell? ⟨bl, k, none⟩ = some (.string ⟨L[k].toArray⟩)

set_option maxRecDepth 100000 in
set_option maxHeartbeats 4000000 in
theorem in_any (w : World) (s : ByteArray) (bl c : Nat) (L : List (List UInt8)) (h : TxAt w bl L) (hl : L.length ≤ 4194304) :
    Calls Tryz.prog 154 #[.string s, .slice (some ⟨bl, 0, none⟩) L.length c] w fun e w' => e = .returned (.bool (decide (s.data.toList ∈ L))) ∧ w' = w := by
  have hcell := h.c
  clear h
  go_enter Tryz.func154, Tryz.ntmps154
  go_wp2
  go_loopw [5] (fun i wr => ∃ k : Nat, i = .int .i64 (k : Nat) ∧ k ≤ L.length ∧ wr = w ∧ Hid (s.data.toList ∉ L.take k)) (fun i _ => L.length - (intOf i).toNat)
  case atStart => exact ⟨0, rfl, by omega, rfl, by simp [Hid]⟩
  case round =>
    obtain ⟨k, rfl, hk, rfl, HT⟩ := hrel
    by_cases hkl : k < L.length
    · have hc := hcell k hkl
      have HS : Hid (L.take (k + 1) = L.take k ++ [L[k]]) := List.take_succ_eq_append_getElem hkl
      have HM : Hid (L[k] ∈ L) := List.getElem_mem _
      clear hcell
      generalize L[k] = b at *
      by_cases he : b = s.data.toList
      · have HE : Hid (s.data.toList ∈ L) := by rw [← he]; exact HM.out
        have he2 : (b == s.toList) = true := by rw [bytes_toList]; simpa using he
        clear he HM HS HT
        go_wp2
        go_ret
        exact ⟨ret_b (decide_eq_true HE.out).symm, rfl⟩
      · have HT' : Hid (s.data.toList ∉ L.take (k + 1)) := by
          show _ ∉ _
          rw [HS.out, List.mem_append]
          rintro (h | h)
          · exact HT.out h
          · exact he (show s.data.toList = b by simpa using h).symm
        have he2 : (b == s.toList) = false := by rw [bytes_toList]; simpa using he
        clear he HM HS HT
        go_wp2
        go_roundw
        case rel => exact ⟨k + 1, by simp, by omega, by first | rfl | trivial, HT'⟩
        case measure => simp [intOf]; omega
    · have e : L.take k = L := List.take_of_length_le (by omega)
      rw [e] at HT
      clear e
      go_wp2
      go_ret
      exact ⟨ret_b (decide_eq_false HT.out).symm, rfl⟩

/-- the words, as the document lists them. -/
def wordsR : List (List UInt8) := [[108, 101, 116], [99, 111, 110, 115, 116], [102, 117, 110, 99, 116, 105, 111, 110], [99, 108, 97, 115, 115], [105, 102], [101, 108, 115, 101], [119, 104, 105, 108, 101], [114, 101, 116, 117, 114, 110], [116, 104, 114, 111, 119], [110, 101, 119], [116, 104, 105, 115], [110, 117, 108, 108], [117, 110, 100, 101, 102, 105, 110, 101, 100], [116, 114, 117, 101], [102, 97, 108, 115, 101], [116, 121, 112, 101, 111, 102], [105, 109, 112, 111, 114, 116], [101, 120, 112, 111, 114, 116], [100, 101, 102, 97, 117, 108, 116]]
theorem wordsR_mem (s : List UInt8) : s ∈ wordsR ↔ s ∈ wordsF :=
  ⟨fun h => (show ∀ x ∈ wordsR, x ∈ wordsF by decide) s h, fun h => (show ∀ x ∈ wordsF, x ∈ wordsR by decide) s h⟩
set_option maxRecDepth 100000 in
set_option maxHeartbeats 4000000 in
theorem rword_any (w : World) (s : ByteArray) :
    Calls Tryz.prog 199 #[.string s] w fun e w' => e = .returned (.bool (isW s)) ∧ Below w.heap.size w w' := by
  have hW : isW s = decide (s.data.toList ∈ wordsR) := by unfold isW; exact decide_eq_decide.2 (wordsR_mem _).symm
  rw [hW]
  clear hW
  go_enter Tryz.func199, Tryz.ntmps199
  go_wp2
  obtain ⟨W0, hW0⟩ : ∃ W, w.alloc (Obj.cells (textC wordsR).toArray 9) = W := ⟨_, rfl⟩
  have hb0 : Below w.heap.size w W0 := by rw [← hW0]; exact bel_a _ _
  have hc0 : W0.heap[w.heap.size]? = some (.cells (textC wordsR).toArray 9 (0, 0)) := by rw [← hW0]; exact hnew _ rfl
  have hcell : ∀ k (hk : k < wordsR.length), W0.cell? ⟨w.heap.size, k, none⟩ = some (.string ⟨wordsR[k].toArray⟩) := fun k hk => by
    rw [cell_of_row W0 w.heap.size _ _ _ _ hc0]
    simp [textC, List.getElem?_eq_getElem hk]
  rw [show #[Value.string { data := #[108, 101, 116] }, Value.string { data := #[99, 111, 110, 115, 116] }, Value.string { data := #[102, 117, 110, 99, 116, 105, 111, 110] }, Value.string { data := #[99, 108, 97, 115, 115] }, Value.string { data := #[105, 102] }, Value.string { data := #[101, 108, 115, 101] }, Value.string { data := #[119, 104, 105, 108, 101] }, Value.string { data := #[114, 101, 116, 117, 114, 110] }, Value.string { data := #[116, 104, 114, 111, 119] }, Value.string { data := #[110, 101, 119] }, Value.string { data := #[116, 104, 105, 115] }, Value.string { data := #[110, 117, 108, 108] }, Value.string { data := #[117, 110, 100, 101, 102, 105, 110, 101, 100] }, Value.string { data := #[116, 114, 117, 101] }, Value.string { data := #[102, 97, 108, 115, 101] }, Value.string { data := #[116, 121, 112, 101, 111, 102] }, Value.string { data := #[105, 109, 112, 111, 114, 116] }, Value.string { data := #[101, 120, 112, 111, 114, 116] }, Value.string { data := #[100, 101, 102, 97, 117, 108, 116] }] = (textC wordsR).toArray from rfl, hW0]
  clear hW0 hc0
  have hl : Hid (wordsR.length = 19) := rfl
  go_loopw [4] (fun i wr => ∃ k : Nat, i = .int .i64 (k : Nat) ∧ k ≤ 19 ∧ wr = W0 ∧ Hid (s.data.toList ∉ wordsR.take k)) (fun i _ => 19 - (intOf i).toNat)
  case atStart => exact ⟨0, rfl, by omega, rfl, by simp [Hid]⟩
  case round =>
    obtain ⟨k, rfl, hk, rfl, HT⟩ := hrel
    by_cases hkl : k < 19
    · have hkL : k < wordsR.length := by have := hl.out; omega
      have hc := hcell k hkL
      have HS : Hid (wordsR.take (k + 1) = wordsR.take k ++ [wordsR[k]]) := List.take_succ_eq_append_getElem hkL
      have HM : Hid (wordsR[k] ∈ wordsR) := List.getElem_mem _
      clear hcell
      generalize wordsR[k] = b at *
      by_cases he : b = s.data.toList
      · have HE : Hid (s.data.toList ∈ wordsR) := by rw [← he]; exact HM.out
        have he2 : (b == s.toList) = true := by rw [bytes_toList]; simpa using he
        clear he HM HS HT
        go_wp2
        go_ret
        exact ⟨ret_b (decide_eq_true HE.out).symm, hb0⟩
      · have HT' : Hid (s.data.toList ∉ wordsR.take (k + 1)) := by
          show _ ∉ _
          rw [HS.out, List.mem_append]
          rintro (h | h)
          · exact HT.out h
          · exact he (show s.data.toList = b by simpa using h).symm
        have he2 : (b == s.toList) = false := by rw [bytes_toList]; simpa using he
        clear he HM HS HT
        go_wp2
        go_roundw
        case rel => exact ⟨k + 1, by simp, by omega, by first | rfl | trivial, HT'⟩
        case measure => simp [intOf]; omega
    · have e : wordsR.take k = wordsR := List.take_of_length_le (by have := hl.out; omega)
      rw [e] at HT
      clear e
      go_wp2
      go_ret
      exact ⟨ret_b (decide_eq_false HT.out).symm, hb0⟩
end Go.Proofs.YtpnljjcdlkjfhaaGreatDoor
namespace Go.Proofs.YtpnljjcdlkjfhaaGreatDoor
open Go.RowKit
set_option linter.unusedVariables false
set_option linter.unusedSimpArgs false

theorem decL_lowG (l : List UInt8) (h : atL l 0 < 128) : (decL l).1 = atL l 0 := by
  unfold decL; rw [if_pos h]
theorem decL_highG (l : List UInt8) (h : ¬ atL l 0 < 128) : 128 ≤ (decL l).1 := by
  unfold decL
  rw [if_neg h]
  split
  · split
    · rename_i h2; exact h2
    · decide
  · split
    · split
      · rename_i h2
        simp only [Bool.and_eq_true, decide_eq_true_eq, ge_iff_le] at h2
        show 128 ≤ atL l 0 % 16 * 4096 + atL l 1 % 64 * 64 + atL l 2 % 64
        omega
      · decide
    · split
      · split
        · rename_i h2
          simp only [Bool.and_eq_true, decide_eq_true_eq, ge_iff_le] at h2
          show 128 ≤ atL l 0 % 8 * 262144 + atL l 1 % 64 * 4096 + atL l 2 % 64 * 64 + atL l 3 % 64
          omega
        · decide
      · decide
/-- a sign of a name. -/
def signB (r : Int) : Bool := letterB r || (r == 95) || (r == 36) || digitB r
/-- what the document asks of a name. -/
def signsG (l : List UInt8) : Bool := validL l && !(scan l).isEmpty && !(decide (48 ≤ atL l 0) && decide (atL l 0 ≤ 57)) && (scan l).all fun x => signB (x.1 : Int)
theorem okR_false (r : Int) : okR false false r = signB r := by simp [okR, signB]
theorem signB_bad : signB 65533 = false := by decide
theorem signsL_eq (l : List UInt8) : signsG l = propT false l := by
  unfold signsG
  by_cases hl : l = []
  · subst hl; rfl
  · have hsc := scan_cons l hl
    have hv : validL l = false → ((scan l).all fun x => signB (x.1 : Int)) = false := fun hv => by
      unfold validL at hv
      obtain ⟨x, hx, hs⟩ := List.all_eq_false.1 hv
      refine List.all_eq_false.2 ⟨x, hx, ?_⟩
      have : x.1 = 65533 := by
        simp only [strayP, Bool.not_eq_true', Bool.not_eq_false, Bool.and_eq_true, beq_iff_eq] at hs
        exact hs.1
      rw [this]
      decide
    have key : ((scan l).all fun x => signB (x.1 : Int)) = (signB ((decL l).1 : Int) && (scan (l.drop (decL l).2)).all fun x => signB (x.1 : Int)) := by rw [hsc, List.all_cons]
    have hne : (scan l).isEmpty = false := by rw [hsc]; rfl
    rw [hne]
    have hok : ∀ t : List (Nat × List UInt8), (t.all fun x => okR false false (x.1 : Int)) = t.all fun x => signB (x.1 : Int) := fun t => by simp [okR_false]
    have hfin : propT false l = (okR false true ((decL l).1 : Int) && (scan (l.drop (decL l).2)).all fun x => signB (x.1 : Int)) := by
      unfold propT
      rw [hsc]
      show (okR false true _ && _) = _
      rw [hok]
    rw [hfin]
    have hd : (!(decide (48 ≤ atL l 0) && decide (atL l 0 ≤ 57)) && signB ((decL l).1 : Int)) = okR false true ((decL l).1 : Int) := by
      have hdig : (decide (48 ≤ atL l 0) && decide (atL l 0 ≤ 57)) = digitB ((decL l).1 : Int) := by
        by_cases h : atL l 0 < 128
        · rw [decL_lowG l h]
          unfold digitB
          rw [← Bool.decide_and]
          exact decide_eq_decide.2 (by omega)
        · have h2 := decL_highG l h
          unfold digitB
          rw [← Bool.decide_and]
          exact decide_eq_decide.2 (by omega)
      rw [hdig]
      have hld : digitB ((decL l).1 : Int) = true → letterB ((decL l).1 : Int) = false ∧ ((((decL l).1 : Int) == 95) = false) ∧ ((((decL l).1 : Int) == 36) = false) := fun h => by
        unfold digitB at h
        have h := of_decide_eq_true h
        refine ⟨?_, ?_, ?_⟩
        · unfold letterB
          exact decide_eq_false (by omega)
        · simp; omega
        · simp; omega
      unfold signB okR
      cases hdd : digitB ((decL l).1 : Int) with
      | false => simp
      | true =>
        obtain ⟨h1, h2, h3⟩ := hld hdd
        simp [h1, h2, h3]
    cases hvl : validL l with
    | false =>
      have := hv hvl
      rw [key] at this
      simp only [Bool.false_and]
      rw [← hd]
      cases hs : signB ((decL l).1 : Int) with
      | false => simp
      | true => rw [hs, Bool.true_and] at this; rw [this]; simp
    | true =>
      rw [key, ← hd]
      simp [Bool.and_assoc]

/-- the document's walk over the signs of a text, as plain facts of its answer. -/
theorem signs_facts (l : List UInt8) (r : Bool) (hr : signsG l = r) :
    (validL l = false → r = false) ∧ ((scan l).length = 0 → r = false) ∧ (48 ≤ atL l 0 → atL l 0 ≤ 57 → r = false) ∧ (∀ x ∈ scan l, signB (x.1 : Int) = false → r = false) ∧ (validL l = true → ¬ (scan l).length = 0 → ¬ (48 ≤ atL l 0 ∧ atL l 0 ≤ 57) → (∀ x ∈ scan l, signB (x.1 : Int) = true) → r = true) := by
  subst hr
  unfold signsG
  refine ⟨fun h => by rw [h]; rfl, fun h => ?_, fun h1 h2 => ?_, fun x hx h => ?_, fun h1 h2 h3 h4 => ?_⟩
  · rw [List.length_eq_zero_iff.1 h]; simp
  · rw [decide_eq_true h1, decide_eq_true h2]; simp
  · have : ((scan l).all fun x => signB (x.1 : Int)) = false := List.all_eq_false.2 ⟨x, hx, by rw [h]; decide⟩
    rw [this, Bool.and_false]
  · have e1 : (scan l).isEmpty = false := by cases hs : scan l with | nil => rw [hs] at h2; exact absurd rfl h2 | cons a b => rfl
    have e2 : ((scan l).all fun x => signB (x.1 : Int)) = true := List.all_eq_true.2 h4
    have e3 : (decide (48 ≤ atL l 0) && decide (atL l 0 ≤ 57)) = false := by
      rw [← Bool.decide_and]; exact decide_eq_false h3
    rw [h1, e1, e2, e3]; rfl
theorem owns_slice {w : World} {base : Nat} {e : TypeId} {v : Value} {n : Nat} {xs : List Value} (h : w.ownsRow base e 1 v n xs) : ∃ (a : Option Addr) (g c : Nat), v = .slice a n c ∧ (0 < n → a = some ⟨g, 0, none⟩ ∧ ∀ i u, xs[i]? = some u → w.cell? ⟨g, i, none⟩ = some u) := by
  rcases h.2 with ⟨rfl, rfl⟩ | ⟨g, cap, cur, rfl, hb, hg, _, _, hcs, htk⟩
  · exact ⟨none, 0, 0, rfl, fun h => absurd h (Nat.lt_irrefl _)⟩
  · refine ⟨_, g, cap, rfl, fun _ => ⟨rfl, fun i u hu => ?_⟩⟩
    rw [cell_of_row w g _ _ _ _ hg]
    rw [← htk] at hu
    have hi : i < (cur.toList.take (n * 1)).length := (List.getElem?_eq_some_iff.1 hu).1
    rw [List.getElem?_take_of_lt (by simp at hi; omega)] at hu
    simpa using hu

set_option maxRecDepth 100000 in
set_option maxHeartbeats 4000000 in
theorem rsigns_any (s : ByteArray) (w : World) (hs : s.size ≤ 4194304) :
    Calls Tryz.prog 22 #[.string s] w fun e w' => e = .returned (.bool (propT false s.data.toList)) ∧ Below w.heap.size w w' := by
  rw [← signsL_eq]
  have CR := refRunes_any s w (by omega)
  have hlen : (scan s.data.toList).length ≤ s.size := by have := scan_length s.data.toList; simpa using this
  have hpos := scan_pos s.data.toList
  have hdec := scan_dec s.data.toList
  have hstr := scan_stray s.data.toList
  have hbyt := scan_bytes s.data.toList
  have hval : validL s.data.toList = true → ∀ x ∈ scan s.data.toList, strayP x = false := fun h x hx => by
    have := List.all_eq_true.1 h x hx
    simpa using this
  have hx4 : ∀ x ∈ scan s.data.toList, x.2.length ≤ 4 := fun x hx => by
    have h1 := hdec x hx
    have h2 := decL_width x.2
    rw [h1] at h2
    exact h2.2
  have hnz : ¬ (scan s.data.toList).length = 0 → 0 < s.size := fun h => by omega
  obtain ⟨r, hr⟩ : ∃ r, signsG s.data.toList = r := ⟨_, rfl⟩
  have HF : Hid _ := signs_facts _ _ hr
  rw [hr]
  clear hr hbyt
  have e0 := byte_at s 0
  have l0 := atL_lt s.data.toList 0
  generalize atL s.data.toList 0 = b0 at *
  generalize validL s.data.toList = vl at *
  generalize scan s.data.toList = L at *
  go_enter Tryz.func22, Tryz.ntmps22
  go_upto_region 2 with (go_at_call 38; refine CR.mono ?_; rintro e W1 ⟨v, rfl, own, b1⟩)
  obtain ⟨a, g, c, rfl, hc⟩ := owns_slice own
  clear CR own
  by_cases hv : vl = true
  · subst hv
    have hval' := hval rfl
    clear hval
    by_cases hn : L.length = 0
    · obtain rfl : r = false := HF.out.2.1 hn
      rw [hn]
      clear hc hn HF hlen
      go_wp2
      go_ret
      exact ⟨rfl, b1⟩
    · have h0 := hnz hn
      have hnp : 0 < L.length := by omega
      obtain ⟨rfl, hcell⟩ := hc hnp
      have e0' := e0 h0
      clear e0 hnz
      by_cases hd : 48 ≤ b0 ∧ b0 ≤ 57
      · obtain rfl : r = false := HF.out.2.2.1 hd.1 hd.2
        obtain ⟨hd1, hd2⟩ := hd
        have hnI : ¬ ((L.length : Int) = 0) := by omega
        clear hcell HF hlen hdec hstr hval' hpos hx4
        go_wp2
        all_goals
          first
          | (go_ret; exact ⟨rfl, b1⟩)
          | (exfalso; omega)
      · have hnI : ¬ ((L.length : Int) = 0) := by omega
        have hn' : L ≠ [] := fun h => hn (by rw [h]; rfl)
        go_cut [29] (fun c wx => c = .bool false ∧ wx = W1)
        case first =>
          clear hcell HF hlen hdec hstr hval' hpos hx4
          by_cases c1 : 48 ≤ b0
          · have c2 : ¬ ((b0 : Int) ≤ 57) := by omega
            have c3 : (48 : Int) ≤ (b0 : Int) := by omega
            go_wp2
            go_meet
            exact ⟨by first | rfl | (simp [hn']; done) | (simp [hn']; omega), rfl⟩
          · have c3 : ¬ ((48 : Int) ≤ (b0 : Int)) := by omega
            go_wp2
            go_meet
            exact ⟨by first | rfl | (simp [hn']; done) | (simp [hn']; omega), rfl⟩
        case rest =>
          obtain ⟨rfl, rfl⟩ := hcut
          have hgt : ∀ k (hk : k < L.length), wc.cell? ⟨g, k, none⟩ = some (.string ⟨L[k].2.toArray⟩) := fun k hk => hcell k _ (by simp [strsV, List.getElem?_eq_getElem hk])
          clear hcell e0' l0
          go_wp2
          go_loopg [5] L.length (fun gk v5 wr => ∃ k : Nat, v5 = .int .i64 (k : Nat) ∧ Hid (gk + k = L.length) ∧ wr = wc ∧ Hid (∀ x ∈ L.take k, signB (x.1 : Int) = true))
          case atStart => exact ⟨0, rfl, by simp [Hid], rfl, by simp [Hid]⟩
          case round =>
            obtain ⟨k, rfl, hk, rfl, HT⟩ := hrel
            have hkk : k ≤ L.length := by have := hk.out; omega
            by_cases hkl : k < L.length
            · have hc := hgt k hkl
              have hm := List.getElem_mem hkl
              have HS : Hid (L.take (k + 1) = L.take k ++ [L[k]]) := List.take_succ_eq_append_getElem hkl
              have f1 := hpos _ hm
              have f2 := hdec _ hm
              have f3 := (hstr _ hm).trans (hval' _ hm)
              have f4 := hx4 _ hm
              have HB : Hid (signB (L[k].1 : Int) = false → r = false) := HF.out.2.2.2.1 _ hm
              clear hgt
              generalize L[k] = x at *
              have hsz : (⟨x.2.toArray⟩ : ByteArray).size = x.2.length := by show x.2.toArray.size = _; simp
              have f0 : 0 < x.2.length := List.length_pos_iff.2 f1
              have CH := head_any2 ⟨x.2.toArray⟩ wr (by rw [hsz]; exact f0) (by rw [hsz]; unfold maxLen; omega)
              have hh : headV (⟨x.2.toArray⟩ : ByteArray).data.toList = (x.1 : Int) := by
                show headV x.2 = _
                unfold headV
                rw [f3, f2]; rfl
              rw [hh] at CH
              have CL := refLetter_any (x.1 : Int) wr
              have ST : Hid (signB (x.1 : Int) = true → ∀ y ∈ L.take (k + 1), signB (y.1 : Int) = true) := fun h y hy => by
                rw [HS.out] at hy
                rcases List.mem_append.1 hy with hy | hy
                · exact HT.out y hy
                · obtain rfl : y = x := by simpa using hy
                  exact h
              have SU : Hid (signB (x.1 : Int) = (letterB (x.1 : Int) || ((x.1 : Int) == 95) || ((x.1 : Int) == 36) || digitB (x.1 : Int))) := rfl
              clear hh hsz f1 f2 f3 f4 f0 hm HS HT hpos hdec hstr hval' hx4
              generalize (x.1 : Int) = q at *
              obtain ⟨lb, hlb⟩ : ∃ lb, letterB q = lb := ⟨_, rfl⟩
              rw [hlb] at CL SU
              clear hlb
              go_upto_region 8 with (go_at_call 39; refine CH.mono ?_; rintro e w1 ⟨rfl, rfl⟩)
              go_cut [63] (fun c wx => c = .bool (!signB q) ∧ wx = w1)
              case first =>
                cases lb with
                | true =>
                  have HS1 : Hid (signB q = true) := by show _ = _; rw [SU.out]; rfl
                  go_wp2_with (go_at_call 40; refine CL.mono ?_; rintro e w2 ⟨rfl, rfl⟩)
                  go_meet
                  exact ⟨by rw [HS1.out]; rfl, rfl⟩
                | false =>
                  by_cases c1 : q = 95
                  · subst c1
                    go_wp2_with (go_at_call 40; refine CL.mono ?_; rintro e w2 ⟨rfl, rfl⟩)
                    go_meet
                    exact ⟨rfl, rfl⟩
                  · by_cases c2 : q = 36
                    · subst c2
                      go_wp2_with (go_at_call 40; refine CL.mono ?_; rintro e w2 ⟨rfl, rfl⟩)
                      go_meet
                      exact ⟨rfl, rfl⟩
                    · have HS1 : Hid (signB q = digitB q) := by
                        show _ = _
                        rw [SU.out]
                        have h1 : (q == 95) = false := by simpa using c1
                        have h2 : (q == 36) = false := by simpa using c2
                        rw [h1, h2]; rfl
                      by_cases c3 : 48 ≤ q
                      · by_cases c4 : q ≤ 57
                        · have HD : Hid (digitB q = true) := decide_eq_true ⟨c3, c4⟩
                          go_wp2_with (go_at_call 40; refine CL.mono ?_; rintro e w2 ⟨rfl, rfl⟩)
                          go_meet
                          exact ⟨by rw [HS1.out, HD.out]; first | rfl | (simp [c1, c2]; done) | (simp [c1, c2]; omega), rfl⟩
                        · have HD : Hid (digitB q = false) := decide_eq_false (by omega)
                          go_wp2_with (go_at_call 40; refine CL.mono ?_; rintro e w2 ⟨rfl, rfl⟩)
                          go_meet
                          exact ⟨by rw [HS1.out, HD.out]; first | rfl | (simp [c1, c2]; done) | (simp [c1, c2]; omega), rfl⟩
                      · have HD : Hid (digitB q = false) := decide_eq_false (by omega)
                        go_wp2_with (go_at_call 40; refine CL.mono ?_; rintro e w2 ⟨rfl, rfl⟩)
                        go_meet
                        exact ⟨by rw [HS1.out, HD.out]; first | rfl | (simp [c1, c2]; done) | (simp [c1, c2]; omega), rfl⟩
              case rest =>
                obtain ⟨rfl, rfl⟩ := hcut
                clear CH CL hc
                by_cases hS : signB q = true
                · have ST' : Hid _ := ST.out hS
                  rw [hS]
                  clear ST HB SU hS
                  go_wp2
                  go_roundg (gk - 1)
                  case rel => exact ⟨k + 1, by simp, by have := hk.out; show _ = _; omega, by first | rfl | trivial, ST'⟩
                  case measure => have := hk.out; omega
                · have hS' : signB q = false := by simpa using hS
                  obtain rfl : r = false := HB.out hS'
                  rw [hS']
                  clear ST HB SU hS hS'
                  go_wp2
                  go_ret
                  exact ⟨rfl, b1⟩
            · have e : L.take k = L := List.take_of_length_le (by omega)
              obtain rfl : r = true := HF.out.2.2.2.2 (by first | rfl | trivial) hn hd (by have := HT.out; rw [e] at this; exact this)
              clear HT e
              go_wp2
              go_ret
              exact ⟨rfl, b1⟩
  · have hv' : vl = false := by simpa using hv
    subst hv'
    obtain rfl : r = false := HF.out.1 rfl
    clear hc HF hlen hdec hstr hval hpos hx4
    go_wp2
    go_ret
    exact ⟨rfl, b1⟩
end Go.Proofs.YtpnljjcdlkjfhaaGreatDoor
namespace Go.Proofs.YtpnljjcdlkjfhaaGreatDoor
open Go.RowKit
set_option linter.unusedVariables false
set_option linter.unusedSimpArgs false

theorem rid_any (s : ByteArray) (w : World) (hs : s.size ≤ 4194304) :
    Calls Tryz.prog 151 #[.string s] w fun e w' => e = .returned (.bool (idT false s)) ∧ Below w.heap.size w w' := by
  have C1 := rsigns_any s w hs
  have hi : Hid (idT false s = (propT false s.data.toList && !isW s)) := rfl
  generalize idT false s = r at *
  generalize propT false s.data.toList = p at *
  have C2 := fun W => rword_any W s
  generalize isW s = q at *
  go_enter Tryz.func151, Tryz.ntmps151
  cases p with
  | false =>
    obtain rfl : r = false := by rw [hi.out]; rfl
    go_wp2_with (go_at_call 22; refine C1.mono ?_; rintro e W1 ⟨rfl, b1⟩)
    go_ret
    exact ⟨rfl, b1⟩
  | true =>
    obtain rfl : r = !q := by rw [hi.out]; rfl
    go_wp2_with (first
      | (go_at_call 22; refine C1.mono ?_; rintro e W1 ⟨rfl, b1⟩)
      | (go_at_call 199; refine (C2 _).mono ?_; rintro e W2 ⟨rfl, b2⟩))
    go_ret
    exact ⟨rfl, b1.trans (b2.mono b1.size)⟩
theorem rprop_any (s : ByteArray) (w : World) (hs : s.size ≤ 4194304) :
    Calls Tryz.prog 12 #[.string s] w fun e w' => e = .returned (.bool (propT false s.data.toList)) ∧ Below w.heap.size w w' := by
  have C1 := rsigns_any s w hs
  go_enter Tryz.func12, Tryz.ntmps12
  go_wp2_with (go_at_call 22; refine C1.mono ?_; rintro e W1 ⟨rfl, b1⟩)
  go_ret
  exact ⟨rfl, b1⟩
theorem rvalid_any (s : ByteArray) (w : World) (hs : s.size ≤ 1099511627776) :
    Calls Tryz.prog 150 #[.string s] w fun e w' => e = .returned (.bool (validL s.data.toList)) ∧ Below w.heap.size w w' := by
  have hr := refRunes_any s w hs
  go_enter Tryz.func150, Tryz.ntmps150
  go_wp2_with (go_at_call 38; refine hr.mono ?_)
  rintro e W1 ⟨v, rfl, _, b1⟩
  go_wp2
  go_ret
  exact ⟨rfl, b1⟩

/-- no kids; no text and no number. -/
def bareB (x : Nd) : Bool := ((x.ks.length : Nat) : Int) == 0
def plainB (x : Nd) : Bool := (x.t.toList == []) && (x.n == 0)
set_option maxRecDepth 100000 in
theorem rbare_any (x : Nd) (a : Option Addr) (c : Nat) (w : World) :
    Calls Tryz.prog 149 #[x.v (.slice a x.ks.length c)] w fun e w' => e = .returned (.bool (bareB x)) ∧ Below w.heap.size w w' := by
  unfold Nd.v bareB
  go_enter Tryz.func149, Tryz.ntmps149
  go_wp2
  go_ret
  exact ⟨rfl, bel_a _ _⟩
set_option maxRecDepth 100000 in
theorem rplain_any (x : Nd) (a : Option Addr) (c : Nat) (w : World) :
    Calls Tryz.prog 115 #[x.v (.slice a x.ks.length c)] w fun e w' => e = .returned (.bool (plainB x)) ∧ Below w.heap.size w w' := by
  have hp : Hid (plainB x = ((x.t.toList == []) && (x.n == 0))) := rfl
  unfold Nd.v
  generalize plainB x = r at *
  go_enter Tryz.func115, Tryz.ntmps115
  by_cases h : (x.t.toList == []) = true
  · have hr : r = (x.n == 0) := by rw [hp.out, h]; rfl
    subst hr
    go_wp2
    go_ret
    exact ⟨by first | rfl | trivial, bel_a _ _⟩
  · have h' : (x.t.toList == []) = false := by simpa using h
    have hr : r = false := by rw [hp.out, h']; rfl
    subst hr
    go_wp2
    go_ret
    exact ⟨by first | rfl | trivial, bel_a _ _⟩
end Go.Proofs.YtpnljjcdlkjfhaaGreatDoor
namespace Go.Proofs.YtpnljjcdlkjfhaaGreatDoor
open Go.RowKit
set_option linter.unusedVariables false
set_option linter.unusedSimpArgs false

/-- a tree's value, part by part. -/
abbrev nv (k : Int) (t : ByteArray) (n : Int) (a : Option Addr) (len c : Nat) : Value := .agg #[.int .i64 k, .string t, .int .i64 n, .slice a len c]
def plainT (t : ByteArray) (n : Int) : Bool := (t.toList == []) && (n == 0)
theorem bare' (k : Int) (t : ByteArray) (n : Int) (a : Option Addr) (len c : Nat) (w : World) :
    Calls Tryz.prog 149 #[nv k t n a len c] w fun e w' => e = .returned (.bool ((len : Int) == 0)) ∧ Below w.heap.size w w' := by
  go_enter Tryz.func149, Tryz.ntmps149
  go_wp2
  go_ret
  exact ⟨rfl, bel_a _ _⟩
theorem plain' (k : Int) (t : ByteArray) (n : Int) (a : Option Addr) (len c : Nat) (w : World) :
    Calls Tryz.prog 115 #[nv k t n a len c] w fun e w' => e = .returned (.bool (plainT t n)) ∧ Below w.heap.size w w' := by
  have hp : Hid (plainT t n = ((t.toList == []) && (n == 0))) := rfl
  generalize plainT t n = r at *
  go_enter Tryz.func115, Tryz.ntmps115
  by_cases h : (t.toList == []) = true
  · have hr : r = (n == 0) := by rw [hp.out, h]; rfl
    subst hr
    go_wp2
    go_ret
    exact ⟨by first | rfl | trivial, bel_a _ _⟩
  · have h' : (t.toList == []) = false := by simpa using h
    have hr : r = false := by rw [hp.out, h']; rfl
    subst hr
    go_wp2
    go_ret
    exact ⟨by first | rfl | trivial, bel_a _ _⟩
set_option maxRecDepth 100000 in
set_option maxHeartbeats 8000000 in
theorem ex_plain (k : Int) (hk : k = 4 ∨ k = 5 ∨ k = 7) (t : ByteArray) (n : Int) (a : Option Addr) (len c : Nat) (w : World) :
    Calls Tryz.prog 111 #[nv k t n a len c] w fun e w' => e = .returned (.bool (plainT t n && ((len : Int) == 0))) ∧ Below w.heap.size w w' := by
  have C1 := plain' k t n a len c
  have C2 := bare' k t n a len c
  generalize plainT t n = p at *
  generalize ((len : Int) == 0) = q at *
  have X0 : (w.alloc (Obj.cells #[Value.int IntKind.i64 k, Value.string t, Value.int IntKind.i64 n, Value.slice a len c] 51)).heap[w.heap.size]? = some (.cells #[.int .i64 k, .string t, .int .i64 n, .slice a len c] 51 (0, 0)) := hnew _ rfl
  have kp : Hid (∀ W', Below (w.heap.size + 1) (w.alloc (Obj.cells #[Value.int IntKind.i64 k, Value.string t, Value.int IntKind.i64 n, Value.slice a len c] 51)) W' → (W'.cell? ⟨w.heap.size, 0, none⟩ = some (.int .i64 k) ∧ W'.cell? ⟨w.heap.size, 1, none⟩ = some (.string t) ∧ W'.cell? ⟨w.heap.size, 2, none⟩ = some (.int .i64 n) ∧ W'.cell? ⟨w.heap.size, 3, none⟩ = some (.slice a len c))) := fun W' b => (box4 ((b.block _ (by omega)).trans X0)).1
  clear X0
  go_enter Tryz.func111, Tryz.ntmps111
  cases p with
  | false =>
    rcases hk with rfl | rfl | rfl
    all_goals
      go_wp2_with (go_at_call 115; refine (C1 _).mono ?_; rintro e W1 ⟨rfl, b1⟩)
      go_ret
      exact ⟨rfl, (bel_a w _).trans (b1.mono (by simp))⟩
  | true =>
    rcases hk with rfl | rfl | rfl
    all_goals
      go_wp2_with (first
        | (go_at_call 115; refine (C1 _).mono ?_; rintro e W1 ⟨rfl, b1⟩; obtain ⟨_, _, _, _⟩ := kp.out _ (b1.mono (by simp)))
        | (go_at_call 149; refine (C2 _).mono ?_; rintro e W2 ⟨rfl, b2⟩))
      go_ret
      exact ⟨rfl, ((bel_a w _).trans (b1.mono (by simp))).trans (b2.mono (by have := b1.size; simp at this; omega))⟩
end Go.Proofs.YtpnljjcdlkjfhaaGreatDoor
namespace Go.Proofs.YtpnljjcdlkjfhaaGreatDoor
open Go.RowKit
set_option linter.unusedVariables false
set_option linter.unusedSimpArgs false

/-- expressions, types, statements, in our words. -/
def exB (y : Nd) : Bool := (formK y.k == 1) && wholeP false y
def tyB (y : Nd) : Bool := (formK y.k == 2) && wholeP false y
def stB (y : Nd) : Bool := (formK y.k == 3) && wholeP false y
def EC (y : Nd) : Prop := ∀ (w : World) (S : Nat → Prop) (a : Option Addr) (c : Nat), LAt w S (.slice a y.ks.length c) y.ks → Calls Tryz.prog 111 #[nv y.k y.t y.n a y.ks.length c] w fun e w' => e = .returned (.bool (exB y)) ∧ Below w.heap.size w w'
def TC (y : Nd) : Prop := ∀ (w : World) (S : Nat → Prop) (a : Option Addr) (c : Nat), LAt w S (.slice a y.ks.length c) y.ks → Calls Tryz.prog 112 #[nv y.k y.t y.n a y.ks.length c] w fun e w' => e = .returned (.bool (tyB y)) ∧ Below w.heap.size w w'
def SC (y : Nd) : Prop := ∀ (w : World) (S : Nat → Prop) (a : Option Addr) (c : Nat), LAt w S (.slice a y.ks.length c) y.ks → Calls Tryz.prog 113 #[nv y.k y.t y.n a y.ks.length c] w fun e w' => e = .returned (.bool (stB y)) ∧ Below w.heap.size w w'

set_option maxRecDepth 100000 in
set_option maxHeartbeats 8000000 in
theorem exprs_any (l : List Nd) (hE : ∀ y ∈ l, EC y) (hl : l.length ≤ 4194304) (w : World) (S : Nat → Prop) (v : Value) (hx : LAt w S v l) :
    Calls Tryz.prog 152 #[v] w fun e w' => e = .returned (.bool (l.all exB)) ∧ Below w.heap.size w w' := by
  obtain ⟨ax, cx, bx, ox, fx, rfl, px, qx, rx⟩ := hx.op
  go_enter Tryz.func152, Tryz.ntmps152
  go_wp2
  go_loopg [3] l.length (fun gk v3 wr => ∃ k : Nat, v3 = .int .i64 (k : Nat) ∧ Hid (gk + k = l.length) ∧ Below w.heap.size w wr ∧ Hid (∀ y ∈ l.take k, exB y = true))
  case atStart => exact ⟨0, rfl, by simp [Hid], Below.refl _ _, by simp [Hid]⟩
  case round =>
    obtain ⟨k, rfl, hk, bel, HT⟩ := hrel
    have hkk : k ≤ l.length := by have := hk.out; omega
    by_cases hkl : k < l.length
    · obtain ⟨rfl, hSx, hbx⟩ := px (by omega)
      have hm := List.getElem_mem hkl
      have HS : Hid (l.take (k + 1) = l.take k ++ [l[k]]) := List.take_succ_eq_append_getElem hkl
      have hC := hE _ hm
      have HM : Hid (l[k] ∈ l) := hm
      obtain ⟨⟨u1, u2, u3, u4⟩, gx⟩ := kid_at (qx k hkl) (rx k hkl) hbx bel
      clear hm
      generalize l[k] = y at *
      generalize fx k = fk at *
      obtain ⟨ak, ck, rfl⟩ := gx.sl
      have C := hC wr S ak ck gx
      have HB : Hid (exB y = false → l.all exB = false) := fun h => List.all_eq_false.2 ⟨y, HM.out, by rw [h]; decide⟩
      have HG : Hid (exB y = true → ∀ z ∈ l.take (k + 1), exB z = true) := fun h z hz => by
        rw [HS.out] at hz
        rcases List.mem_append.1 hz with hz | hz
        · exact HT.out z hz
        · obtain rfl : z = y := by simpa using hz
          exact h
      clear hE px qx rx hC HM HS HT gx
      cases hb : exB y with
      | false =>
        rw [hb] at C HB
        have HR : Hid (l.all exB = false) := HB.out rfl
        clear hb HB HG
        go_wp2_with (go_at_call 111; refine C.mono ?_; rintro e W1 ⟨rfl, b1⟩)
        go_ret
        exact ⟨ret_b HR.out.symm, bel.trans (b1.mono bel.size)⟩
      | true =>
        rw [hb] at C HG
        have HR : Hid (∀ z ∈ l.take (k + 1), exB z = true) := HG.out rfl
        clear hb HB HG
        go_wp2_with (go_at_call 111; refine C.mono ?_; rintro e W1 ⟨rfl, b1⟩)
        have bel2 := bel.trans (b1.mono bel.size)
        go_roundg (gk - 1)
        case rel => exact ⟨k + 1, by simp, by have := hk.out; show _ = _; omega, bel2, HR⟩
        case measure => have := hk.out; omega
    · have e : l.take k = l := List.take_of_length_le (by omega)
      have HR : Hid (l.all exB = true) := List.all_eq_true.2 (by have := HT.out; rw [e] at this; exact this)
      clear HT e
      go_wp2
      go_ret
      exact ⟨ret_b HR.out.symm, bel⟩
end Go.Proofs.YtpnljjcdlkjfhaaGreatDoor
