/- Own text. The contracts of the small functions of package runes and of the document's answer: letters and digits. The contracts of stray, Valid and Count of package runes, over a text cut into runes. Which texts may stand: package tree, with the words of package lex and the runes of package runes. Which texts are property names: package tree. -/
import Derived.Test.YtpnljjcdlkjfhaaGreatDoorProg
import Derived.WalkKit
import Derived.Lib.RuneCount
import Derived.Test.YtpnljjcdlkjfhaaGreatDoorShelf
import Derived.Test.YtpnljjcdlkjfhaaGreatDoorRv04
import Derived.Laws.RangeString
import Derived.Laws.RangeAny
import Derived.LoopTactic
import Derived.Laws.Tables
namespace Go.Proofs.YtpnljjcdlkjfhaaGreatDoor
open Go.RowKit
def letterB (r : Int) : Bool :=
  decide ((97 ≤ r ∧ r ≤ 122) ∨ (65 ≤ r ∧ r ≤ 90) ∨ (192 ≤ r ∧ r ≤ 591 ∧ r ≠ 215 ∧ r ≠ 247) ∨ (913 ≤ r ∧ r ≤ 969 ∧ r ≠ 930) ∨ (1040 ≤ r ∧ r ≤ 1103))
def digitB (r : Int) : Bool := decide (48 ≤ r ∧ r ≤ 57)
/-- The digit that a rune is in a hexadecimal number; -1: none. -/
def hexv (r : Int) : Int :=
  if 48 ≤ r ∧ r ≤ 57 then r - 48 else if 97 ≤ r ∧ r ≤ 102 then r - 87 else if 65 ≤ r ∧ r ≤ 70 then r - 55 else -1

def hexd (r : Int) : Int := if hexv r < 0 then 0 else hexv r
def hexok (r : Int) : Bool := decide (0 ≤ hexv r)

theorem ret_bool {a b : Bool} (h : a = b) : Ending.returned (.bool a) = .returned (.bool b) := by rw [h]
theorem ret_int {k : IntKind} {a b : Int} (h : a = b) : Ending.returned (.int k a) = .returned (.int k b) := by rw [h]
theorem hexv_range (r : Int) : -1 ≤ hexv r ∧ hexv r ≤ 15 := by
  unfold hexv
  repeat' split
  all_goals omega

theorem letter_any (r : Int) (w : World) :
    Calls Tryz.prog 180 #[.int .i32 r] w fun e w' => e = .returned (.bool (letterB r)) ∧ w' = w := by
  go_enter Tryz.func180, Tryz.ntmps180
  go_wp2
  all_goals go_ret
  all_goals (refine ⟨ret_bool ?_, rfl⟩; rw [Bool.eq_iff_iff]; simp [letterB]; omega)

theorem refLetter_any (r : Int) (w : World) :
    Calls Tryz.prog 40 #[.int .i64 r] w fun e w' => e = .returned (.bool (letterB r)) ∧ w' = w := by
  go_enter Tryz.func40, Tryz.ntmps40
  go_wp2
  all_goals go_ret
  all_goals (refine ⟨ret_bool ?_, rfl⟩; rw [Bool.eq_iff_iff]; simp [letterB]; omega)

theorem digit_any (r : Int) (w : World) :
    Calls Tryz.prog 181 #[.int .i32 r] w fun e w' => e = .returned (.bool (digitB r)) ∧ w' = w := by
  go_enter Tryz.func181, Tryz.ntmps181
  go_wp2
  all_goals go_ret
  all_goals (refine ⟨ret_bool ?_, rfl⟩; rw [Bool.eq_iff_iff]; simp [digitB]; omega)

theorem ret_ib {k : IntKind} {a c : Int} {b d : Bool} (h : a = c) (h2 : b = d) : Ending.returned (.tuple #[.int k a, .bool b]) = .returned (.tuple #[.int k c, .bool d]) := by rw [h, h2]

theorem refDigit_any (r : Int) (w : World) (h0 : 0 ≤ r) (h1 : r ≤ 255) :
    Calls Tryz.prog 265 #[.int .u8 r] w fun e w' => e = .returned (.int .i64 (hexv r)) ∧ w' = w := by
  go_enter Tryz.func265, Tryz.ntmps265
  go_wp2
  all_goals go_ret
  all_goals (refine ⟨ret_int ?_, rfl⟩; unfold hexv; repeat' split)
  all_goals omega

theorem drop_extract (s : ByteArray) (i : Nat) : (s.extract i s.size).data.toList = s.data.toList.drop i := by
  rw [ByteArray.data_extract]
  simp
  exact List.take_of_length_le (by simp)

theorem stray_any (s : ByteArray) (pos : Nat) (w : World) (h : pos < s.size) :
    Calls Tryz.prog 182 #[.string s, .int .i64 pos, .int .i32 (decL (s.data.toList.drop pos)).1] w fun e w' => e = .returned (.bool (strayL (s.data.toList.drop pos))) ∧ w' = w := by
  have hp := prefix_stray (s.data.toList.drop pos)
  have HP : Hid (Lib.hasPrefix (s.extract pos s.size).data.toList [239, 191, 189] = Lib.hasPrefix (s.data.toList.drop pos) [239, 191, 189]) := by rw [drop_extract]; trivial
  obtain ⟨d, hd⟩ : ∃ d, d = decL (s.data.toList.drop pos) := ⟨_, rfl⟩
  have HD : Hid (strayL (s.data.toList.drop pos) = (d.1 == 65533 && d.2 == 1)) := by rw [strayL, ← hd]; trivial
  rw [← hd] at hp ⊢
  clear hd
  by_cases hr : d.1 = 65533
  · have HQ : Hid (Lib.hasPrefix (s.extract pos s.size).data.toList [239, 191, 189] = !(d.2 == 1)) := HP.out.trans (hp hr)
    clear hp HP
    rw [HD.out]
    go_enter Tryz.func182, Tryz.ntmps182
    go_wp2_with (go_at_call 212; refine (Tryz.strings_HasPrefix _ _ _).mono ?_; rintro e w' ⟨rfl, rfl⟩)
    go_ret
    refine ⟨ret_bool ?_, rfl⟩
    have e := HQ.out
    rw [drop_extract] at e
    rw [List.take_of_length_le (by rw [List.length_drop, Lib.size_eq]; omega), e, hr]
    simp
  · clear hp HP
    rw [HD.out]
    have hb : ((d.1 : Int) == 65533) = false := by simp; omega
    go_enter Tryz.func182, Tryz.ntmps182
    go_wp2_with fail
    go_ret
    refine ⟨ret_bool ?_, rfl⟩
    simp [hr]

theorem drop_ne (s : ByteArray) (pos : Nat) (h : pos < s.size) : s.data.toList.drop pos ≠ [] := by
  intro e
  have := congrArg List.length e
  rw [List.length_drop, ← Lib.size_eq] at this
  simp at this
  omega
theorem drop_end (s : ByteArray) (pos : Nat) (h : ¬ pos < s.size) : s.data.toList.drop pos = [] := by
  apply List.drop_of_length_le
  rw [← Lib.size_eq]
  omega
theorem width_le (s : ByteArray) (pos : Nat) (h : pos < s.size) : pos + (decL (s.data.toList.drop pos)).2 ≤ s.size := by
  have := decL_le _ (drop_ne s pos h)
  rw [List.length_drop, ← Lib.size_eq] at this
  omega
theorem scan_drop (s : ByteArray) (pos : Nat) (h : pos < s.size) : scan (s.data.toList.drop pos) = ((decL (s.data.toList.drop pos)).1, (s.data.toList.drop pos).take (decL (s.data.toList.drop pos)).2) :: scan (s.data.toList.drop (pos + (decL (s.data.toList.drop pos)).2)) := by
  rw [scan_cons _ (drop_ne s pos h), List.drop_drop]
theorem run_next_dec {P : Program} (w : World) (s : ByteArray) (pos : Nat) (ty : TypeId) (h : pos < s.size) :
    (Instr.next (.pointer (some ⟨w.heap.size, 0, none⟩)) true ty).run P (w.iter s pos) =
      .ok (.tuple #[.bool true, .int .i64 pos, .int .i32 (decL (s.data.toList.drop pos)).1]) (w.iter s (pos + (decL (s.data.toList.drop pos)).2)) := by
  rw [← decode_eq]
  exact run_next_any w s pos ty h


set_option maxHeartbeats 1000000 in
/-- Valid: whether a text is runes. -/
theorem valid_any (s : ByteArray) (w : World) :
    Calls Tryz.prog 134 #[.string s] w fun e w' => e = .returned (.bool (validL s.data.toList)) ∧ Below w.heap.size w w' := by
  go_enter Tryz.func134, Tryz.ntmps134
  go_wp2
  go_loopw [] (fun w' => ∃ (pos : Nat), w' = w.iter s pos ∧ validL (s.data.toList.drop pos) = validL s.data.toList ∧ pos ≤ s.size) (fun w' => s.size - w'.iterPos w.heap.size)
  case atStart => exact ⟨0, rfl, by simp, by omega⟩
  case round =>
    obtain ⟨pos, rfl, hc, hb⟩ := hrel
    by_cases hp : pos < s.size
    · have hnx : ∀ ty, (Instr.next (.pointer (some ⟨w.heap.size, 0, none⟩)) true ty).run Tryz.prog (w.iter s pos) = _ := fun ty => run_next_dec w s pos ty hp
      have hwd := (decL_width (s.data.toList.drop pos)).1
      have hwl := width_le s pos hp
      have HC : Hid (validL (s.data.toList.drop pos) = validL s.data.toList) := hc
      clear hc
      have hcall := fun w1 => stray_any s pos w1 hp
      by_cases hst : strayL (s.data.toList.drop pos) = true
      · rw [hst] at hcall
        go_wp2_with (go_at_call 182; refine (hcall _).mono ?_; rintro e w' ⟨rfl, rfl⟩)
        go_ret
        exact ⟨ret_bool (by rw [← HC.out, validL_stray _ (drop_ne s pos hp) hst]), (Below.refl _ w).alloc (Nat.le_refl _) _⟩
      · have hst' : strayL (s.data.toList.drop pos) = false := by simpa using hst
        rw [hst'] at hcall
        clear hst
        go_wp2_with (go_at_call 182; refine (hcall _).mono ?_; rintro e w' ⟨rfl, rfl⟩)
        go_roundw
        case rel => exact ⟨_, rfl, by rw [← HC.out, validL_rune _ (drop_ne s pos hp) hst', List.drop_drop], hwl⟩
        case measure =>
          simp
          omega
    · have hnx : ∀ ty, (Instr.next (.pointer (some ⟨w.heap.size, 0, none⟩)) true ty).run Tryz.prog (w.iter s pos) = _ := fun ty => run_next_end w s pos ty hp
      rw [drop_end s pos hp, validL_nil] at hc
      have HC : Hid (validL s.data.toList = true) := hc.symm
      clear hc
      go_wp2
      go_ret
      exact ⟨ret_bool (by rw [HC.out]), (Below.refl _ w).alloc (Nat.le_refl _) _⟩
set_option linter.unusedVariables false
/-- the words of the language. -/
def wordsF : List (List UInt8) := [[99, 108, 97, 115, 115], [99, 111, 110, 115, 116], [100, 101, 102, 97, 117, 108, 116], [101, 108, 115, 101], [101, 120, 112, 111, 114, 116], [102, 97, 108, 115, 101], [102, 117, 110, 99, 116, 105, 111, 110], [105, 102], [105, 109, 112, 111, 114, 116], [108, 101, 116], [110, 101, 119], [110, 117, 108, 108], [114, 101, 116, 117, 114, 110], [116, 104, 105, 115], [116, 104, 114, 111, 119], [116, 114, 117, 101], [116, 121, 112, 101, 111, 102], [117, 110, 100, 101, 102, 105, 110, 101, 100], [119, 104, 105, 108, 101]]
def textC (l : List (List UInt8)) : List Value := l.map fun b => .string ⟨b.toArray⟩
/-- the words, as package lex keeps them. -/
def WEnv (w : World) : Prop := ∃ t fr, w.heap[3]? = some (.cells (textC wordsF).toArray t fr)
/-- the words in a list. -/
def WAt (w : World) (v : Value) : Prop := ∃ bl t, v = .slice (some ⟨bl, 0, none⟩) 19 19 ∧ w.heap[bl]? = some (.cells (textC wordsF).toArray t (0, 0))
theorem WAt.bel {w w' : World} {v : Value} (h : WAt w v) (b : Below w.heap.size w w') : WAt w' v := by
  obtain ⟨bl, t, h1, h2⟩ := h
  exact ⟨bl, t, h1, (b.block bl (Array.getElem?_eq_some_iff.1 h2).1).trans h2⟩
theorem below_row {B : Nat} {a w : World} (h : Below B a w) {g : Nat} (hg : B ≤ g) (cs : Array Value) : Below B a (w.setRow g cs) := by
  refine h.trans ⟨rfl, rfl, rfl, by simp [World.setRow], fun k hk => ?_⟩
  simp only [World.setRow, Array.getElem?_modify]
  rw [if_neg (by omega)]
theorem ones_textC (l : List (List UInt8)) : (textC l).toArray.all (·.oneCell') = true := by
  rw [Array.all_eq_true_iff_forall_mem]
  intro v hv
  simp only [List.mem_toArray, textC, List.mem_map] at hv
  obtain ⟨b, _, rfl⟩ := hv
  rfl
set_option maxHeartbeats 2000000 in
set_option maxRecDepth 100000 in
theorem wordsF_any (w : World) (he : WEnv w) : Calls Tryz.prog 46 #[] w fun e w' => ∃ v, e = .returned v ∧ WAt w' v ∧ Below w.heap.size w w' := by
  obtain ⟨tw, fw, hw⟩ := he
  have hwz : (Tryz.prog.info? 130).map (·.size) = some (textC wordsF).toArray.size := by kernel_rfl
  have hone := ones_textC wordsF
  have hVs : (textC wordsF).toArray.size = 19 := rfl
  unfold WAt
  generalize (textC wordsF).toArray = V at *
  go_enter Tryz.func46, Tryz.ntmps46
  go_wp2_with (first
    | (refine wpList_load_row rfl 130 _ rfl 3 rfl tw _ fw _ hw Tryz.underlying130 rfl hwz ?_)
    | (refine wpList_store_row rfl 130 _ _ rfl w.heap.size V rfl rfl 130 _ (heap_alloc_new w _) hwz (by rw [hVs]; rfl) hone ?_))
  go_ret
  exact ⟨_, rfl, ⟨_, _, rfl, setRow_heap _ _ _ _ _ _ (heap_alloc_new w _)⟩, below_row ((Below.refl _ _).alloc (Nat.le_refl _) _) (Nat.le_refl _) _⟩

theorem bytes_toList (s : ByteArray) : s.toList = s.data.toList := ByteArray.toList_eq s
set_option maxHeartbeats 4000000 in
theorem index_any (w : World) (v : Value) (s : ByteArray) (h : WAt w v) : Calls Tryz.prog 211 #[v, .string s] w fun e w' => ∃ i : Int, e = .returned (.int .i64 i) ∧ (0 ≤ i ↔ s.data.toList ∈ wordsF) ∧ w' = w := by
  obtain ⟨bl, t, rfl, hb⟩ := h
  have hl : wordsF.length = 19 := rfl
  have hcell : ∀ k (hk : k < wordsF.length), w.cell? ⟨bl, k, none⟩ = some (.string ⟨wordsF[k].toArray⟩) := fun k hk => by
    rw [cell_of_row w bl _ _ _ _ hb]
    simp [textC, List.getElem?_eq_getElem hk]
  clear hb
  generalize wordsF = L at *
  go_enter Tryz.func211, Tryz.ntmps211
  go_wp2
  go_loopw [8] (fun i wr => ∃ k : Nat, i = .int .i64 (k : Nat) ∧ k ≤ 19 ∧ wr = w ∧ Hid (s.data.toList ∉ L.take k)) (fun i _ => 19 - (intOf i).toNat)
  case atStart => exact ⟨0, rfl, by omega, rfl, by simp [Hid]⟩
  case round =>
    obtain ⟨k, rfl, hk, rfl, HT⟩ := hrel
    by_cases hkl : k < 19
    · have hc := hcell k (by omega)
      have HS : Hid (L.take (k + 1) = L.take k ++ [L[k]]) := List.take_succ_eq_append_getElem (by omega)
      have HM : Hid (L[k] ∈ L) := List.getElem_mem _
      clear hcell
      generalize L[k] = b at *
      by_cases he : s.data.toList = b
      · have he2 : s.toList = b := by rw [bytes_toList]; exact he
        have HE : Hid (s.data.toList = b) := he
        clear he
        go_wp2
        go_ret
        exact ⟨_, rfl, ⟨fun _ => HE.out ▸ HM.out, fun _ => by omega⟩, rfl⟩
      · have HT' : Hid (s.data.toList ∉ L.take (k + 1)) := by
          show _ ∉ _
          rw [HS.out, List.mem_append]
          rintro (h | h)
          · exact HT.out h
          · exact he (by simpa using h)
        clear HT HS
        have he2 : (s.toList == b) = false := by rw [bytes_toList]; simpa using he
        go_wp2
        go_roundw
        case rel => exact ⟨k + 1, by simp, by omega, by first | rfl | trivial, HT'⟩
        case measure => simp [intOf]; omega
    · have e : L.take k = L := List.take_of_length_le (by omega)
      rw [e] at HT
      go_wp2
      go_ret
      exact ⟨_, rfl, ⟨fun h => by omega, fun h => absurd h HT.out⟩, rfl⟩
def isW (s : ByteArray) : Bool := decide (s.data.toList ∈ wordsF)
theorem contains_any (w : World) (v : Value) (s : ByteArray) (h : WAt w v) : Calls Tryz.prog 179 #[v, .string s] w fun e w' => e = .returned (.bool (isW s)) ∧ w' = w := by
  have hi := index_any w v s h
  unfold isW
  go_enter Tryz.func179, Tryz.ntmps179
  go_wp2_with (go_at_call 211; refine hi.mono ?_; rintro e w' ⟨i, rfl, hi2, rfl⟩)
  all_goals go_ret
  all_goals exact ⟨ret_bool (by rw [Bool.eq_iff_iff]; try simp [hi2]), rfl⟩

/-- may a rune stand in an identifier or property name? -/
def okR (mod first : Bool) (r : Int) : Bool := letterB r || (r == 95) || ((r == 36) && !mod) || (digitB r && !first)
def restB (mod : Bool) (l : List UInt8) : Bool := (scan l).all fun x => okR mod false x.1
def propT (mod : Bool) (l : List UInt8) : Bool := match scan l with
  | [] => false
  | h :: t => okR mod true h.1 && t.all fun x => okR mod false x.1
/-- the value of a former. -/
def fmV (v : Value) (mod : Bool) : Value := .agg #[v, .bool mod]
set_option maxRecDepth 100000 in
set_option maxHeartbeats 8000000 in
theorem isProp_any (w : World) (v : Value) (mod : Bool) (s : ByteArray) (h : WAt w v) : Calls Tryz.prog 133 #[fmV v mod, .string s] w fun e w' => e = .returned (.bool (propT mod s.data.toList)) ∧ Below w.heap.size w w' := by
  obtain ⟨bl, t, rfl, hb⟩ := h
  unfold fmV
  obtain ⟨W0, hW0⟩ : ∃ W, w.alloc (Obj.cells #[Value.slice (some { block := bl, off := 0 }) 19 19, Value.bool mod] 84) = W := ⟨_, rfl⟩
  have bel0 : Below w.heap.size w W0 := by rw [← hW0]; exact bel_a _ _
  have hs0 : w.heap.size < W0.heap.size := by rw [← hW0]; simp
  have hc0 : ∀ pos, (W0.iter s pos).cell? ⟨w.heap.size, 1, none⟩ = some (.bool mod) := fun pos => by
    have e : (W0.iter s pos).heap[w.heap.size]? = some (.cells #[Value.slice (some { block := bl, off := 0 }) 19 19, Value.bool mod] 84 (0, 0)) := by
      show (W0.heap.push _)[w.heap.size]? = _
      rw [Array.getElem?_push, if_neg (by omega), ← hW0]
      exact hnew _ rfl
    simp [World.cell?, e]
  have hit : ∀ pos, Below w.heap.size w (W0.iter s pos) := fun pos => bel0.trans ⟨rfl, rfl, rfl, by show _ ≤ (W0.heap.push _).size; simp, fun k hk => by
    show (W0.heap.push _)[k]? = _
    rw [Array.getElem?_push, if_neg (by omega)]⟩
  go_enter Tryz.func133, Tryz.ntmps133
  go_wp2
  go_loopw [] (fun w' => ∃ (pos : Nat), w' = W0.iter s pos ∧ pos ≤ s.size ∧ Hid (pos = 0 ∨ (0 < pos ∧ propT mod s.data.toList = restB mod (s.data.toList.drop pos)))) (fun w' => s.size - w'.iterPos W0.heap.size)
  case atStart => exact ⟨0, rfl, by omega, .inl rfl⟩
  case round =>
    obtain ⟨pos, rfl, hb, HR⟩ := hrel
    by_cases hp : pos < s.size
    · have hnx : ∀ ty, (Instr.next (.pointer (some ⟨W0.heap.size, 0, none⟩)) true ty).run Tryz.prog (W0.iter s pos) = _ := fun ty => run_next_dec W0 s pos ty hp
      have hwd := (decL_width (s.data.toList.drop pos)).1
      have hwl := width_le s pos hp
      have sd := scan_drop s pos hp
      obtain ⟨d, hd⟩ : ∃ d, d = decL (s.data.toList.drop pos) := ⟨_, rfl⟩
      have HY : Hid (okR mod (decide (pos = 0)) d.1 = true → propT mod s.data.toList = restB mod (s.data.toList.drop (pos + d.2))) := fun ho => by
        rw [hd] at ho ⊢
        rcases HR.out with rfl | ⟨h0, h1⟩
        · rw [List.drop_zero] at sd
          unfold propT
          rw [sd]
          simp only [Nat.zero_add, List.drop_zero] at ho ⊢
          simp only [decide_true] at ho
          simp [ho, restB]
        · rw [h1]
          unfold restB
          rw [sd, List.all_cons]
          have e : decide (pos = 0) = false := by simp; omega
          rw [e] at ho
          simp [ho]
      have HN : Hid (okR mod (decide (pos = 0)) d.1 = false → propT mod s.data.toList = false) := fun ho => by
        rw [hd] at ho
        rcases HR.out with rfl | ⟨h0, h1⟩
        · rw [List.drop_zero] at sd
          unfold propT
          rw [sd]
          simp only [List.drop_zero] at ho ⊢
          simp only [decide_true] at ho
          simp [ho]
        · rw [h1]
          unfold restB
          rw [sd, List.all_cons]
          have e : decide (pos = 0) = false := by simp; omega
          rw [e] at ho
          simp [ho]
      clear HR sd
      rw [← hd] at hnx hwd hwl
      clear hd
      have hl := fun W => letter_any d.1 W
      have hg := fun W => digit_any d.1 W
      generalize (d.1 : Int) = r at *
      by_cases hlt : letterB r = true
      · rw [hlt] at hl
        go_wp2_with (first
          | (go_at_call 180; refine (hl _).mono ?_; rintro e w' ⟨rfl, rfl⟩)
          | (go_at_call 181; refine (hg _).mono ?_; rintro e w' ⟨rfl, rfl⟩))
        go_roundw
        case rel => exact ⟨_, rfl, hwl, .inr ⟨by omega, HY.out (by simp [okR, hlt])⟩⟩
        case measure => simp; omega
      have hlt : letterB r = false := by simpa using hlt
      rw [hlt] at hl
      by_cases h95 : r = 95
      · subst h95
        go_wp2_with (first
          | (go_at_call 180; refine (hl _).mono ?_; rintro e w' ⟨rfl, rfl⟩)
          | (go_at_call 181; refine (hg _).mono ?_; rintro e w' ⟨rfl, rfl⟩))
        go_roundw
        case rel => exact ⟨_, rfl, hwl, .inr ⟨by omega, HY.out (by simp [okR])⟩⟩
        case measure => simp; omega
      by_cases h36 : r = 36
      · subst h36
        rw [show digitB 36 = false by rfl] at hg
        cases mod
        · go_wp2_with (first
            | (go_at_call 180; refine (hl _).mono ?_; rintro e w' ⟨rfl, rfl⟩)
            | (go_at_call 181; refine (hg _).mono ?_; rintro e w' ⟨rfl, rfl⟩))
          go_roundw
          case rel => exact ⟨_, rfl, hwl, .inr ⟨by omega, HY.out (by simp [okR])⟩⟩
          case measure => simp; omega
        · go_wp2_with (first
            | (go_at_call 180; refine (hl _).mono ?_; rintro e w' ⟨rfl, rfl⟩)
            | (go_at_call 181; refine (hg _).mono ?_; rintro e w' ⟨rfl, rfl⟩))
          go_ret
          exact ⟨ret_bool (HN.out (by rw [okR, hlt, show digitB 36 = false by rfl]; rfl)).symm, hit _⟩
      by_cases hdg : digitB r = true
      · rw [hdg] at hg
        by_cases hpz : pos = 0
        · subst hpz
          go_wp2_with (first
            | (go_at_call 180; refine (hl _).mono ?_; rintro e w' ⟨rfl, rfl⟩)
            | (go_at_call 181; refine (hg _).mono ?_; rintro e w' ⟨rfl, rfl⟩))
          go_ret
          exact ⟨ret_bool (HN.out (by rw [okR, hlt, hdg]; simp [h95, h36])).symm, hit _⟩
        · have hpz' : 0 < pos := by omega
          go_wp2_with (first
            | (go_at_call 180; refine (hl _).mono ?_; rintro e w' ⟨rfl, rfl⟩)
            | (go_at_call 181; refine (hg _).mono ?_; rintro e w' ⟨rfl, rfl⟩))
          go_roundw
          case rel => exact ⟨_, rfl, hwl, .inr ⟨by omega, HY.out (by rw [okR, hlt, hdg]; simp [hpz])⟩⟩
          case measure => simp; omega
      have hdg : digitB r = false := by simpa using hdg
      rw [hdg] at hg
      go_wp2_with (first
        | (go_at_call 180; refine (hl _).mono ?_; rintro e w' ⟨rfl, rfl⟩)
        | (go_at_call 181; refine (hg _).mono ?_; rintro e w' ⟨rfl, rfl⟩))
      go_ret
      exact ⟨ret_bool (HN.out (by rw [okR, hlt, hdg]; simp [h95, h36])).symm, hit _⟩
    · have hnx : ∀ ty, (Instr.next (.pointer (some ⟨W0.heap.size, 0, none⟩)) true ty).run Tryz.prog (W0.iter s pos) = _ := fun ty => run_next_end W0 s pos ty hp
      have e : s.data.toList.drop pos = [] := drop_end s pos hp
      by_cases hz : s.size = 0
      · have HZ : Hid (propT mod s.data.toList = false) := by
          show _ = _
          have : s.data.toList = [] := by
            have := hz
            rw [Lib.size_eq] at this
            exact List.length_eq_zero_iff.1 this
          rw [this]; rfl
        have hs : s.toList = [] := by
          rw [bytes_toList]
          rw [Lib.size_eq] at hz
          exact List.length_eq_zero_iff.1 hz
        clear HR e
        go_wp2
        go_ret
        exact ⟨ret_bool (by rw [HZ.out]; try simp), hit _⟩
      · have HZ : Hid (propT mod s.data.toList = true) := by
          show _ = _
          rcases HR.out with h | ⟨_, h⟩
          · omega
          · rw [h, e]; rfl
        have hs : ¬ s.toList = [] := by
          rw [bytes_toList]
          rw [Lib.size_eq] at hz
          intro h
          exact hz (by rw [h]; rfl)
        clear HR e
        go_wp2
        go_ret
        exact ⟨ret_bool (by rw [HZ.out]; try simp [hs]), hit _⟩

def unaryL : List (List UInt8) := [[45], [33], [116, 121, 112, 101, 111, 102]]
def binaryL : List (List UInt8) := [[43], [45], [42], [47], [37], [61, 61, 61], [33, 61, 61], [60], [60, 61], [62], [62, 61], [38, 38], [124, 124]]
set_option maxHeartbeats 4000000 in
theorem isUnary_any (w : World) (s : ByteArray) : Calls Tryz.prog 135 #[.string s] w fun e w' => e = .returned (.bool (decide (s.data.toList ∈ unaryL))) ∧ w' = w := by
  rw [← bytes_toList]
  go_enter Tryz.func135, Tryz.ntmps135
  go_wp2
  all_goals go_ret
  all_goals exact ⟨ret_bool (by simp_all [unaryL]), rfl⟩
set_option maxHeartbeats 4000000 in
theorem isBinary_any (w : World) (s : ByteArray) : Calls Tryz.prog 136 #[.string s] w fun e w' => e = .returned (.bool (decide (s.data.toList ∈ binaryL))) ∧ w' = w := by
  rw [← bytes_toList]
  go_enter Tryz.func136, Tryz.ntmps136
  go_wp2
  all_goals go_ret
  all_goals exact ⟨ret_bool (by simp_all [binaryL]), rfl⟩

def idT (mod : Bool) (s : ByteArray) : Bool := propT mod s.data.toList && !isW s
set_option maxHeartbeats 4000000 in
theorem isId_any (w : World) (v : Value) (mod : Bool) (s : ByteArray) (h : WAt w v) : Calls Tryz.prog 132 #[fmV v mod, .string s] w fun e w' => e = .returned (.bool (idT mod s)) ∧ Below w.heap.size w w' := by
  obtain ⟨a, ha⟩ : ∃ a, v = .slice a 19 19 := by obtain ⟨bl, t, rfl, _⟩ := h; exact ⟨_, rfl⟩
  have hp := fun W (b : Below w.heap.size w W) => isProp_any W v mod s (h.bel b)
  have hc := fun W (b : Below w.heap.size w W) => contains_any W v s (h.bel b)
  subst ha
  unfold fmV at hp ⊢
  have e1 : ∀ o W1, Below (w.alloc o).heap.size (w.alloc o) W1 → Below w.heap.size w W1 ∧ W1.cell? ⟨w.heap.size, 0, none⟩ = (w.alloc o).cell? ⟨w.heap.size, 0, none⟩ := fun o W1 b => ⟨(bel_a w o).trans (b.mono (by simp)), b.cell (p := ⟨w.heap.size, 0, none⟩) (by simp)⟩
  unfold idT
  cases hpt : propT mod s.data.toList
  · rw [hpt] at hp
    go_enter Tryz.func132, Tryz.ntmps132
    go_wp2_with (go_at_call 133; refine (hp _ (bel_a _ _)).mono ?_; rintro e W1 ⟨rfl, b1⟩)
    go_ret
    exact ⟨rfl, (e1 _ _ b1).1⟩
  · rw [hpt] at hp
    go_enter Tryz.func132, Tryz.ntmps132
    go_wp2_with (first
      | (go_at_call 133; refine (hp _ (bel_a _ _)).mono ?_; rintro e W1 ⟨rfl, b1⟩; obtain ⟨b2, c2⟩ := e1 _ _ b1; simp at c2)
      | (go_at_call 179; refine (hc _ b2).mono ?_; rintro e W2 ⟨rfl, rfl⟩))
    go_ret
    exact ⟨ret_bool (by simp), b2⟩

/-- is a text of that sort? -/
def saysT (mod : Bool) (t : Int) (s : ByteArray) : Bool :=
  if t = 1 then idT mod s
  else if t = 2 then propT mod s.data.toList
  else if t = 3 then propT mod s.data.toList && (s.toList != [99, 111, 110, 115, 116, 114, 117, 99, 116, 111, 114])
  else if t = 4 then propT mod s.data.toList || (s.toList == [42])
  else if t = 5 then idT mod s || (s.toList == [110, 117, 108, 108]) || (s.toList == [117, 110, 100, 101, 102, 105, 110, 101, 100])
  else if t = 6 then validL s.data.toList
  else if t = 7 then decide (s.data.toList ∈ unaryL)
  else if t = 8 then decide (s.data.toList ∈ binaryL)
  else s.toList == []
set_option maxRecDepth 100000 in
set_option maxHeartbeats 8000000 in
theorem says_any (w : World) (v : Value) (mod : Bool) (t : Int) (s : ByteArray) (h : WAt w v) : Calls Tryz.prog 102 #[fmV v mod, .int .i64 t, .string s] w fun e w' => e = .returned (.bool (saysT mod t s)) ∧ Below w.heap.size w w' := by
  obtain ⟨a, ha⟩ : ∃ a, v = .slice a 19 19 := by obtain ⟨bl, t, rfl, _⟩ := h; exact ⟨_, rfl⟩
  have hp := fun W (b : Below w.heap.size w W) => isProp_any W v mod s (h.bel b)
  have hi := fun W (b : Below w.heap.size w W) => isId_any W v mod s (h.bel b)
  have hv := fun W => valid_any s W
  have hu := fun W => isUnary_any W s
  have hb := fun W => isBinary_any W s
  subst ha
  unfold fmV at hp hi ⊢
  have e1 : ∀ o W1, Below (w.alloc o).heap.size (w.alloc o) W1 → Below w.heap.size w W1 := fun o W1 b => (bel_a w o).trans (b.mono (by simp))
  unfold saysT
  generalize propT mod s.data.toList = pb at *
  generalize idT mod s = ib at *
  generalize validL s.data.toList = vb at *
  generalize decide (s.data.toList ∈ unaryL) = ub at *
  generalize decide (s.data.toList ∈ binaryL) = bb at *
  cases pb <;> cases ib
  all_goals
    go_enter Tryz.func102, Tryz.ntmps102
    go_wp2_with (first
      | (go_at_call 133; refine (hp _ (bel_a _ _)).mono ?_; rintro e W1 ⟨rfl, b1⟩; replace b1 := e1 _ _ b1)
      | (go_at_call 132; refine (hi _ (bel_a _ _)).mono ?_; rintro e W1 ⟨rfl, b1⟩; replace b1 := e1 _ _ b1)
      | (go_at_call 134; refine (hv _).mono ?_; rintro e W1 ⟨rfl, b1⟩; replace b1 := e1 _ _ b1)
      | (go_at_call 135; refine (hu _).mono ?_; rintro e W1 ⟨rfl, rfl⟩)
      | (go_at_call 136; refine (hb _).mono ?_; rintro e W1 ⟨rfl, rfl⟩))
    all_goals go_ret
    all_goals exact ⟨ret_bool (by clear hp hi hv hu hb e1; first | (simp_all; done) | (simp_all [bne]; done)), by first | exact b1 | exact bel_a _ _⟩
end Go.Proofs.YtpnljjcdlkjfhaaGreatDoor
