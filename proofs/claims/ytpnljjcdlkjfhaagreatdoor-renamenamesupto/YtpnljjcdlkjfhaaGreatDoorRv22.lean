/- Own text. The contract of Slice of package runes, where something lies between the places. The contract of Slice of package runes for all places. The contract of the document's Unquote: it says what the reader, rune by rune, says. -/
import Derived.Test.YtpnljjcdlkjfhaaGreatDoorRv05
import Derived.Test.YtpnljjcdlkjfhaaGreatDoorRv04
import Derived.Test.YtpnljjcdlkjfhaaGreatDoorRv17
import Derived.Test.YtpnljjcdlkjfhaaGreatDoorRv21
import Derived.Deep.QuietTactic
import Derived.BigQuiet
import Derived.WalkSmall
namespace Go.Proofs.YtpnljjcdlkjfhaaGreatDoor
open Go.RowKit

/-- Where the part begins, as far as n runes have been seen. -/
def bgn (xs : Rns) (a size n : Nat) : Nat := if n ≤ a then size else offs xs a
theorem bgn_lo (xs : Rns) (a size n : Nat) (h : n ≤ a) : bgn xs a size n = size := by rw [bgn, if_pos h]
theorem bgn_hi (xs : Rns) (a size n : Nat) (h : a < n) : bgn xs a size n = offs xs a := by rw [bgn, if_neg (by omega)]
theorem bgn_step (xs : Rns) (a size n : Nat) (h : n ≠ a) : bgn xs a size (n + 1) = bgn xs a size n := by
  unfold bgn
  by_cases h1 : n ≤ a
  · rw [if_pos h1, if_pos (by omega)]
  · rw [if_neg h1, if_neg (by omega)]

/-- What a rune at hand says of the runes behind it. -/
theorem drop_facts (s : ByteArray) (n pos : Nat) (hp : pos < s.size) (h : scan (s.data.toList.drop pos) = (scan s.data.toList).drop n) (ho : pos = offs (scan s.data.toList) n) :
    n < (scan s.data.toList).length ∧ scan (s.data.toList.drop (pos + (decL (s.data.toList.drop pos)).2)) = (scan s.data.toList).drop (n + 1) ∧ pos + (decL (s.data.toList.drop pos)).2 = offs (scan s.data.toList) (n + 1) := by
  have hw := width_le s pos hp
  rw [scan_drop s pos hp] at h
  have hn : n < (scan s.data.toList).length := by
    refine Decidable.byContradiction fun hn => ?_
    have e : (scan s.data.toList).drop n = [] := List.drop_of_length_le (by omega)
    rw [e] at h
    exact absurd h (by simp)
  have hd := List.drop_eq_getElem_cons hn
  rw [hd] at h
  injection h with h1 h2
  refine ⟨hn, h2, ?_⟩
  rw [offs_succ _ n hn, ← ho, ← h1]
  simp only [List.length_take, List.length_drop, ← Lib.size_eq]
  omega

theorem extract_list (s : ByteArray) (a b : Nat) : s.extract a b = ⟨((s.data.toList.take b).drop a).toArray⟩ := by
  apply ByteArray.ext
  apply Array.ext'
  simp [ByteArray.data_extract]
  exact List.drop_take.symm
theorem part_extract (s : ByteArray) (a b : Nat) (h : a ≤ b) : s.extract (offs (scan s.data.toList) a) (offs (scan s.data.toList) b) = ⟨(part (scan s.data.toList) a b).toArray⟩ := by
  rw [extract_list, ← part_bytes _ a b h, scan_bytes]
theorem cloneS_any (s : ByteArray) (w : World) (hs : s.size ≤ 281474976710656) : Calls Tryz.prog 17 #[.string s] w fun e w' => e = .returned (.string s) ∧ Below w.heap.size w w' := by
  go_enter Tryz.func17, Tryz.ntmps17
  go_wp2_with (go_at_call 27; refine (Tryz.stringslite_Clone s _ hs).mono ?_; rintro e w' ⟨rfl, hb⟩)
  go_ret
  exact ⟨rfl, hb⟩

end Go.Proofs.YtpnljjcdlkjfhaaGreatDoor
namespace Go.Proofs.YtpnljjcdlkjfhaaGreatDoor
open Go.RowKit

def sliceZ (l : List UInt8) (f t : Int) : List UInt8 := part (scan l) (max f 0).toNat t.toNat

theorem ba_of_list {o : ByteArray} {l : List UInt8} (h : o.data.toList = l) : o = ⟨l.toArray⟩ := by
  subst h
  cases o
  simp
theorem part_le (xs : Rns) (a b : Nat) : (part xs a b).length ≤ (bytesOf xs).length := by
  have e : bytesOf xs = bytesOf (xs.take b) ++ bytesOf (xs.drop b) := by rw [← bytesOf_append, List.take_append_drop]
  have e2 : bytesOf (xs.take b) = bytesOf ((xs.take b).take a) ++ part xs a b := by rw [part, ← bytesOf_append, List.take_append_drop]
  rw [e, e2]
  simp only [List.length_append]
  omega
theorem bytesOf_take_le (xs : Rns) (k : Nat) : (bytesOf (xs.take k)).length ≤ (bytesOf xs).length := by
  have e : bytesOf xs = bytesOf (xs.take k) ++ bytesOf (xs.drop k) := by rw [← bytesOf_append, List.take_append_drop]
  rw [e, List.length_append]
  omega
theorem bytesOf_mem_le (xs : Rns) (k : Nat) (h : k < xs.length) : (xs[k]).2.length ≤ (bytesOf xs).length := by
  have h1 := offs_succ xs k h
  have h2 := bytesOf_take_le xs (k + 1)
  unfold offs at h1
  omega
end Go.Proofs.YtpnljjcdlkjfhaaGreatDoor
namespace Go.Proofs.YtpnljjcdlkjfhaaGreatDoor
open Go.RowKit
/-- What is carried from round to round: so far what has been said, and where. -/
def UnqAt2 (w : World) (L : List UInt8) (N : Nat) (q : Nat) (wr : World) (i : Nat) (v : Value) : Prop :=
  ∃ u : Unq, wr.ownsRowF w.heap.size 5 1 v u.said.length (Lib.byteCells u.said) ∧ Below w.heap.size w wr ∧ unqS (scan (L.drop i)) u i = unquoteL L ∧ u.st = 1 ∧ u.q = (q : Int) ∧ 1 ≤ i ∧ i ≤ N ∧ u.said.length ≤ i

theorem dec_low (l : List UInt8) (h : atL l 0 < 128) : decL l = (atL l 0, 1) := by rw [decL, if_pos h]

theorem slice_run (s : ByteArray) (i n : Nat) (h : i + n ≤ s.size) (W : World) : (Instr.slice 9 (.string s) (some (.int .i64 (i : Int))) (some (.int .i64 ((i : Int) + (n : Int)))) none).run Tryz.prog W = .ok (.string (s.extract i (i + n))) W := by
  rw [run_slice_string W _ _ _ _ _ _ Tryz.underlying9 (by omega) (by omega) (by omega)]
  have e1 : ((i : Int)).toNat = i := by omega
  have e2 : ((i : Int) + (n : Int)).toNat = i + n := by omega
  rw [e1, e2]
theorem unq2_mk {w W3 : World} {L : List UInt8} {N q i : Nat} {v' : Value} {u u' : Unq} {tb : ByteArray} (hown : W3.ownsRowF w.heap.size 5 1 v' (u.said.length + tb.size) (Lib.byteCells u.said ++ Lib.strCells tb)) (hb : Below w.heap.size w W3)
    (hun : unqS (scan (L.drop i)) u' i = unquoteL L) (hst : u'.st = 1) (huq : u'.q = (q : Int)) (h1 : 1 ≤ i) (hN : i ≤ N) (hsaid : u'.said = u.said ++ tb.data.toList) (hlen : u.said.length + tb.size ≤ i) : UnqAt2 w L N q W3 i v' := by
  have hl : u'.said.length = u.said.length + tb.size := by rw [hsaid, List.length_append, ← Lib.size_eq]
  refine ⟨u', ?_, hb, hun, hst, huq, h1, hN, by omega⟩
  rw [hl, hsaid, Lib.byteCells_append, ← Lib.strCells_eq]
  exact hown

set_option maxHeartbeats 4000000 in
set_option maxRecDepth 100000 in
theorem refUnquote_any (s : ByteArray) (w : World) (hs : s.size ≤ 140737488351232) :
    Calls Tryz.prog 217 #[.string s] w fun e w' => e = unqRes (unquoteL s.data.toList) ∧ Below w.heap.size w w' := by
  have hi5 : (Tryz.prog.info? 5).map (fun i => (i.zero, i.size, i.bytes)) = some (some (.int .u8 0), 1, 1) := by kernel_rfl
  obtain ⟨i0, hi, hx⟩ := Option.map_eq_some_iff.1 hi5
  simp only [Prod.mk.injEq] at hx
  obtain ⟨hz0, hz1, hz2⟩ := hx
  clear hi5
  by_cases hz : 0 < s.size
  · have hne := ne_nil_of_size s hz
    have hE : s.toList.isEmpty = false := by rw [Lib.toList_data]; simpa using hne
    have hb0 := byte_at s 0
    have hlt := atL_lt s.data.toList 0
    by_cases hq : atL s.data.toList 0 = 34 ∨ atL s.data.toList 0 = 39
    · obtain ⟨c, r, hl⟩ : ∃ c r, s.data.toList = c :: r := by
        cases h : s.data.toList with
        | nil => exact absurd h hne
        | cons c r => exact ⟨c, r, rfl⟩
      have hc0 : atL (c :: r) 0 = c.toNat := by simp [atL]
      have hstart : unqS (scan (s.data.toList.drop 1)) { Unq.start with st := 1, q := (atL s.data.toList 0 : Int) } 1 = unquoteL s.data.toList := by
        rw [hl, hc0] at hq ⊢
        rw [List.drop_succ_cons, List.drop_zero, unquoteL]
        exact (unqS_go c r Unq.start _ 0 (by omega) (by rw [step0 _ _ rfl, stepFirst, if_pos (by omega)]) (by simp)).symm
      clear hl hc0
      obtain ⟨q, hqq⟩ : ∃ q, q = atL s.data.toList 0 := ⟨_, rfl⟩
      rw [← hqq] at hb0 hlt hq hstart
      obtain ⟨L, hL⟩ : ∃ L, L = s.data.toList := ⟨_, rfl⟩
      have HBY : Hid (∀ i (h : i < s.size), (s[i]'h).toNat = atL (L.drop i) 0) := by
        intro i h
        rw [byte_at s i h, hL]
        unfold atL
        simp
      have HTL : Hid (∀ i, (s.extract i s.size).data.toList = L.drop i) := by rw [hL]; exact cut_tail s
      have HEX : Hid (∀ i j, (s.extract i j).data.toList = (L.take j).drop i) := by
        intro i j
        rw [extract_list, hL]
      have HLN : Hid (L.length = s.size) := by rw [hL]; exact (Lib.size_eq s).symm
      rw [← hL] at hstart ⊢
      have HST : Hid (unqS (scan (L.drop 1)) { Unq.start with st := 1, q := (q : Int) } 1 = unquoteL L) := hstart
      have bq : ((q : Int) != 34) = false ∨ (((q : Int) != 34) = true ∧ ((q : Int) != 39) = false) := by
        rcases hq with h | h
        · left; simp; omega
        · right; constructor <;> simp <;> omega
      have hq2 : q < 128 ∧ q ≠ 10 ∧ q ≠ 13 := by omega
      clear hL hqq hne hstart hq
      rcases bq with bq | ⟨bq1, bq2⟩
      all_goals
        go_enter Tryz.func217, Tryz.ntmps217
        go_wp2
        go_loopw [5, 6] (fun v i wr => ∃ k : Nat, i = .int .i64 (k : Nat) ∧ UnqAt2 w L s.size q wr k v) (fun _ i _ => s.size - (intOf i).toNat)
        case atStart => exact ⟨1, rfl, { Unq.start with st := 1, q := (q : Int) }, World.ownsRowF_nil _ _ _ _, Below.refl _ _, HST.out, rfl, rfl, by omega, by omega, by simp [Unq.start]⟩
        case round =>
          obtain ⟨i, rfl, u, hown, hbw, hun, hst, huq, h1, hN, hsl⟩ := hrel
          have HUN : Hid (unqS (scan (L.drop i)) u i = unquoteL L) := hun
          have hsw := hbw.size
          obtain ⟨a, c, rfl⟩ := ownsRowF_slice hown
          clear hun
          by_cases hin : i < s.size
          · have hby := HBY.out i
            have hlen : (L.drop i).length = s.size - i := by rw [List.length_drop, HLN.out]
            have hD : L.drop i ≠ [] := by intro e; rw [e] at hlen; simp at hlen; omega
            have hwl := decL_le _ hD
            have hwd := (decL_width (L.drop i)).1
            rw [hlen] at hwl
            have hba := atL_lt (L.drop i) 0
            by_cases hbq : atL (L.drop i) 0 = q
            · have hdl := dec_low (L.drop i) (by omega)
              have HR : Hid (unquoteL L = some (u.said, i + 1)) := by
                rw [← HUN.out, unqS_end _ hD (by rw [strayL, hdl]; simp; omega) u (u.to 5) i (by rw [step1 u _ hst, hdl, stepInside, if_neg (by simp only; omega), if_pos (by simp only; rw [huq, hbq])]) rfl]
                trivial
              rw [hbq] at hby
              have hcv := fun n => conv_row (w := wr.drewN n) hown
              have hb2 := fun n => below_drewN hbw n
              clear hdl hbq hba hwl hwd hD hlen huq
              go_wp2
              go_quiet (fail)
              go_wp2
              go_ret3
              exact ⟨by rw [HR.out]; rfl, hb2 _⟩
            · have hex := Lib.size_eq (s.extract i s.size)
              rw [HTL.out i, hlen] at hex
              have hhd := fun w1 => head_any2 (s.extract i s.size) w1 (by omega) (by unfold maxLen; omega)
              rw [HTL.out i] at hhd
              have hescL : (L.drop i).drop 1 = L.drop (i + 1) := by rw [List.drop_drop]
              have hex2 := Lib.size_eq (s.extract (i + 1) s.size)
              rw [HTL.out (i + 1), List.length_drop, HLN.out] at hex2
              have hes := fun w1 => escape_any (s.extract (i + 1) s.size) w1 (by omega)
              rw [HTL.out (i + 1)] at hes
              have hrd := esc_read u (L.drop (i + 1)) (i + 1)
              have helen := escL_len (L.drop (i + 1))
              rw [List.length_drop, HLN.out] at helen
              have htk : (s.extract i (i + (decL (L.drop i)).2)).data.toList = (L.drop i).take (decL (L.drop i)).2 := by
                rw [HEX.out, List.drop_take]
                congr 1
                omega
              have htz := Lib.size_eq (s.extract i (i + (decL (L.drop i)).2))
              rw [htk, List.length_take, hlen] at htz
              have hrq : (decL (L.drop i)).1 ≠ q := by
                intro e
                by_cases hlo : atL (L.drop i) 0 < 128
                · rw [dec_low _ hlo] at e; exact hbq e
                · have := decL_high _ hlo; omega
              have bneq : ((atL (L.drop i) 0 : Int) == (q : Int)) = false := by simp; omega
              have hslr := slice_run s i (decL (L.drop i)).2 (by omega)
              have hownN : ∀ n, (wr.drewN n).ownsRowF w.heap.size 5 1 (.slice a u.said.length c) u.said.length (Lib.byteCells u.said) := fun n => hown
              have hbwN := fun n => below_drewN hbw n
              have hzN : ∀ n, (wr.drewN n).heap.size = wr.heap.size := fun n => rfl
              by_cases hs1 : strayL (L.drop i) = true
              · have HR : Hid (unquoteL L = none) := by rw [← HUN.out, unqS_stray _ hD hs1]; trivial
                have hv : headV (L.drop i) = -1 := by rw [headV, if_pos hs1]
                rw [hv] at hhd
                clear hv hs1 hrd helen hes htk htz hrq hbq hescL
                generalize atL (L.drop i) 0 = b at *
                generalize (decL (L.drop i)).2 = n at *
                go_wp2
                go_quiet (fail)
                go_wp2_with (go_at_call 39; refine (hhd _).mono ?_; rintro e w' ⟨rfl, rfl⟩)
                go_ret3
                exact ⟨by rw [HR.out]; rfl, hbwN _⟩
              have hs2 : strayL (L.drop i) = false := by simpa using hs1
              have hv : headV (L.drop i) = ((decL (L.drop i)).1 : Int) := by rw [headV, if_neg hs1]
              rw [hv] at hhd
              clear hv hs1
              by_cases h10 : (decL (L.drop i)).1 = 10 ∨ (decL (L.drop i)).1 = 13
              · have HR : Hid (unquoteL L = none) := by
                  rw [← HUN.out, unqS_none _ hD hs2 u i (by rw [step1 u _ hst, stepInside, if_pos (by omega)])]; trivial
                clear hrd helen hes htk htz hrq hbq hescL hs2
                generalize atL (L.drop i) 0 = b at *
                generalize (decL (L.drop i)).2 = n at *
                generalize (decL (L.drop i)).1 = r at *
                rcases h10 with rfl | rfl
                all_goals
                  go_wp2
                  go_quiet (fail)
                  go_wp2_with (go_at_call 39; refine (hhd _).mono ?_; rintro e w' ⟨rfl, rfl⟩)
                  go_ret3
                  exact ⟨by rw [HR.out]; rfl, hbwN _⟩
              by_cases h92 : (decL (L.drop i)).1 = 92
              · have hn1 : (decL (L.drop i)).2 = 1 := by
                  by_cases hlo : atL (L.drop i) 0 < 128
                  · rw [dec_low _ hlo]
                  · have := decL_high _ hlo; omega
                have HU2 : Hid (unqS (scan (L.drop (i + 1))) (u.to 2) (i + 1) = unquoteL L) := by
                  rw [← HUN.out, unqS_more _ hD hs2 u (u.to 2) i (by rw [step1 u _ hst, stepInside, if_neg (by omega), if_neg (by rw [huq]; omega), if_pos (by omega)]) (by simp [Unq.to]), hn1, hescL]
                  trivial
                rw [hn1, h92] at hhd
                rw [hn1] at hslr
                have hslr1 : ∀ W : World, (Instr.slice 9 (.string s) (some (.int .i64 (i : Int))) (some (.int .i64 ((i : Int) + 1))) none).run Tryz.prog W = .ok (.string (s.extract i (i + 1))) W := hslr
                clear hslr
                have hwl1 : 1 ≤ s.size - i := by omega
                clear htk htz hrq hbq hescL hs2 h10 hwl hwd
                generalize atL (L.drop i) 0 = b at *
                cases hel : escL (L.drop (i + 1)) with
                | none =>
                  have HR : Hid (unquoteL L = none) := by rw [← HU2.out, hrd.1 hel]; trivial
                  rw [hel] at hes
                  simp only [numRes] at hes
                  clear hel hrd helen h92 hn1
                  go_wp2
                  go_quiet (fail)
                  go_wp2_with (first | (go_at_call 39; refine (hhd _).mono ?_; rintro e w' ⟨rfl, rfl⟩) | (go_at_call 241; refine (hes _).mono ?_))
                  rintro e W2 ⟨rfl, b2⟩
                  have hb3 := (hbwN _).trans (b2.mono (by simp; omega))
                  go_wp2
                  go_ret3
                  exact ⟨by rw [HR.out]; rfl, hb3⟩
                | some x =>
                  obtain ⟨t, k⟩ := x
                  obtain ⟨l1, l2, l3, l4⟩ := helen t k hel
                  obtain ⟨u', a1, a2, a3, a4⟩ := hrd.2 t k hel
                  rw [hel] at hes
                  simp only [numRes] at hes
                  obtain ⟨tb, htb⟩ : ∃ tb : ByteArray, tb = ⟨t.toArray⟩ := ⟨_, rfl⟩
                  rw [← htb] at hes
                  have htd : tb.data.toList = t := by rw [htb]
                  have hts : tb.size = t.length := by rw [Lib.size_eq, htd]
                  have HU3 : Hid (unqS (scan (L.drop (i + (k + 1)))) u' (i + (k + 1)) = unquoteL L) := by
                    rw [← HU2.out, a4, List.drop_drop]
                    have e : i + (k + 1) = i + 1 + k := by omega
                    rw [e]
                    trivial
                  have HSD : Hid (u'.said = u.said ++ tb.data.toList) := by rw [htd]; exact a3
                  have hts2 : tb.size ≤ k := by omega
                  have huq' : u'.q = (q : Int) := a2.trans huq
                  have HUS : Hid (u'.st = 1) := a1
                  have HUQ : Hid (u'.q = (q : Int)) := huq'
                  clear hel hrd helen h92 hn1 a1 a2 a3 a4 htb htd hts l1 huq' huq hst
                  go_wp2
                  go_quiet (fail)
                  go_wp2_with (first | (go_at_call 39; refine (hhd _).mono ?_; rintro e w' ⟨rfl, rfl⟩) | (go_at_call 241; refine (hes _).mono ?_))
                  rintro e W2 ⟨rfl, b2⟩
                  have hzb := b2.size
                  have hb3 := (hbwN _).trans (b2.mono (by simp; omega))
                  have hown2 := (hownN _).kept (grown_of_below b2 none) (by simp [Value.ownBlock]; cases a <;> simp)
                  have hz3 : w.heap.size ≤ W2.heap.size := by simp at hzb; omega
                  go_wp2_with (at_builtin; refine Lib.wpList_append_own_stringF _ rfl _ _ 57 9 rfl w.heap.size 5 i0 Tryz.underlying57 Tryz.underlying9 hi hz0 hz1 hz2 _ _ _ rfl hown2 tb rfl (by unfold maxLen; omega) (by omega) hz3 ?_)
                  intro v' W3 hown3 hg3 _
                  have hb4 := hb3.grown hg3 hz3 (fun k hk => (hown2.lt k hk).1)
                  have hqa : UnqAt2 w L s.size q W3 (i + (k + 1)) v' := unq2_mk hown3 hb4 HU3.out HUS.out HUQ.out (by omega) (by omega) HSD.out (by omega)
                  clear hown3 hg3 hb4
                  go_wp2
                  go_roundw
                  case rel => exact ⟨i + (k + 1), by go_num, hqa⟩
                  case measure => simp [intOf]; omega
              · have HU2 : Hid (unqS (scan (L.drop (i + (decL (L.drop i)).2))) (u.say (decL (L.drop i)).1) (i + (decL (L.drop i)).2) = unquoteL L) := by
                  rw [← HUN.out, unqS_more _ hD hs2 u (u.say (decL (L.drop i)).1) i (by rw [step1 u _ hst, stepInside, if_neg (by omega), if_neg (by rw [huq]; omega), if_neg (by omega)]) (by simp [Unq.say]), List.drop_drop]
                  trivial
                have hen := enc_dec _ hD hs2
                rw [← htk] at hen
                obtain ⟨tb, htb⟩ : ∃ tb, tb = s.extract i (i + (decL (L.drop i)).2) := ⟨_, rfl⟩
                rw [← htb] at hen hslr htz
                have HSD : Hid ((u.say ((decL (L.drop i)).1 : Int)).said = u.said ++ tb.data.toList) := by rw [← hen]; trivial
                have HUS : Hid ((u.say ((decL (L.drop i)).1 : Int)).st = 1) := rfl
                have HUQ : Hid ((u.say ((decL (L.drop i)).1 : Int)).q = (q : Int)) := huq
                clear hrd helen hes htk hrq hbq hescL hs2 hen huq hst htb
                generalize u.say ((decL (L.drop i)).1 : Int) = u' at *
                generalize atL (L.drop i) 0 = b at *
                generalize (decL (L.drop i)).2 = n at *
                generalize (decL (L.drop i)).1 = r at *
                have htz3 : tb.size ≤ n := by omega
                clear htz
                have b10 : ((r : Int) == 10) = false := by simp; omega
                have b13 : ((r : Int) == 13) = false := by simp; omega
                have b92 : ((r : Int) == 92) = false := by simp; omega
                clear h10 h92
                go_wp2
                go_quiet (fail)
                go_wp2_with (first | (go_at_call 39; refine (hhd _).mono ?_; rintro e w' ⟨rfl, rfl⟩) | (at_builtin; refine Lib.wpList_append_own_stringF _ rfl _ _ 57 9 rfl w.heap.size 5 i0 Tryz.underlying57 Tryz.underlying9 hi hz0 hz1 hz2 _ _ _ rfl (hownN _) tb rfl (by unfold maxLen; omega) (by omega) (by simp; omega) ?_))
                intro v' W3 hown3 hg3 _
                have hb4 := (hbwN _).grown hg3 (by simp; omega) (fun k hk => (hown.lt k hk).1)
                have hqa : UnqAt2 w L s.size q W3 (i + n) v' := unq2_mk hown3 hb4 HU2.out HUS.out HUQ.out (by omega) (by omega) HSD.out (by omega)
                clear hown3 hg3 hb4
                go_wp2
                go_roundw
                case rel => exact ⟨i + n, by go_num, hqa⟩
                case measure => simp [intOf]; omega
          · have HR : Hid (unquoteL L = none) := by
              rw [← HUN.out, List.drop_of_length_le (by rw [HLN.out]; omega)]
              trivial
            go_wp2
            go_ret3
            exact ⟨by rw [HR.out]; rfl, hbw⟩
    · have HR : Hid (unquoteL s.data.toList = none) := by
        cases hl : s.data.toList with
        | nil => rfl
        | cons c r =>
          have hc : atL (c :: r) 0 = c.toNat := by simp [atL]
          rw [hl, hc] at hq
          refine unqS_stop c r Unq.start 0 ?_
          intro x hx
          rw [step0 _ _ rfl, stepFirst, if_neg (by omega)]
      generalize atL s.data.toList 0 = b at *
      have b1 : ((b : Int) != 34) = true := by simp; omega
      have b2 : ((b : Int) != 39) = true := by simp; omega
      rw [HR.out]
      clear hq
      go_enter Tryz.func217, Tryz.ntmps217
      go_wp2_with fail
      go_ret3
      exact ⟨rfl, Below.refl _ _⟩
  · have hl : s.data.toList = [] := List.eq_nil_of_length_eq_zero (by rw [← Lib.size_eq]; omega)
    have hE : s.toList.isEmpty = true := by rw [Lib.toList_data, hl]; rfl
    rw [hl]
    clear hl
    go_enter Tryz.func217, Tryz.ntmps217
    go_wp2_with fail
    go_ret3
    exact ⟨rfl, Below.refl _ _⟩
end Go.Proofs.YtpnljjcdlkjfhaaGreatDoor
