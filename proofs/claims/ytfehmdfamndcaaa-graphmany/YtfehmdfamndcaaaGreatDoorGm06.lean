/- Own text. The signs of a part, by the program and by the document. Calls of Go's strings as the program makes them: a cut at the first slash, the last slash, a copy; Dir. The walk over a path's parts, and Normal, Join. -/
import Derived.Test.YtfehmdfamndcaaaGreatDoorGm05
import Derived.WalkKit
import Derived.WalkSmall
import Derived.Lib.Strings
import Derived.WalkLawsBesides
import Derived.Test.YtfehmdfamndcaaaGreatDoorShelf
import Derived.Lib.IndexLaws
import Derived.Laws.Rows
import Derived.Below
import Derived.Lib.AppendStr
import Derived.Laws.BytesString
import Derived.Laws.OwnMore
import Derived.OwnWalk
import Derived.Maps.AppendAt
import Derived.Deep.LoopGhost
namespace Go.Proofs.YtfehmdfamndcaaaGreatDoor.Pa
open Go.RowKit
set_option linter.unusedVariables false

set_option maxRecDepth 100000 in
theorem ret_bool {a b : Bool} (h : a = b) : Ending.returned (.bool a) = .returned (.bool b) := by rw [h]
def signI (r : Int) : Bool := decide ((97 ≤ r ∧ r ≤ 122) ∨ (65 ≤ r ∧ r ≤ 90) ∨ (48 ≤ r ∧ r ≤ 57) ∨ r = 95 ∨ r = 45 ∨ r = 46)
set_option maxRecDepth 100000 in
theorem signI_eq (c : UInt8) : signI (c.toNat : Int) = signB c := by
  have h : ∀ k : Fin 256, signI (((UInt8.ofNat k.val).toNat : Nat) : Int) = signB (UInt8.ofNat k.val) := by decide +kernel
  have := h ⟨c.toNat, c.toNat_lt⟩
  simpa using this

set_option maxRecDepth 100000 in
theorem sign_any (r : Int) (w : World) : Calls Tryz.prog 31 #[.int .u8 r] w fun e w' => e = .returned (.bool (signI r)) ∧ w' = w := by
  go_enter Tryz.func31, Tryz.ntmps31
  go_wp2
  all_goals go_ret
  all_goals (refine ⟨ret_bool ?_, rfl⟩; rw [Bool.eq_iff_iff]; simp [signI] <;> omega)
/-- a byte of a text, as the walk shows it. -/
theorem byte_at (s : ByteArray) (k : Nat) (h : k < s.size) : s.data.toList[k]? = some s[k] := by
  rw [Array.getElem?_toList]
  exact Array.getElem?_eq_getElem h
set_option maxRecDepth 100000 in
theorem all_take_succ {p : UInt8 → Bool} {l : Bs} {k : Nat} {c : UInt8} (h : l[k]? = some c) (ha : (l.take k).all p = true) (hc : p c = true) : (l.take (k + 1)).all p = true := by
  rw [List.take_add_one, h, List.all_append, ha]
  simpa using hc

set_option maxRecDepth 100000 in
theorem signs_any (s : ByteArray) (w : World) (hs : s.size < 4611686018427387904) : Calls Tryz.prog 25 #[.string s] w fun e w' => e = .returned (.bool (s.data.toList.all signB)) ∧ w' = w := by
  go_enter Tryz.func25, Tryz.ntmps25
  go_wp2
  go_loopw [6] (fun vi wr => ∃ k : Nat, k ≤ s.size ∧ vi = .int .i64 k ∧ wr = w ∧ Hid ((s.data.toList.take k).all signB = true)) (fun vi _ => s.size - (intOf vi).toNat)
  case atStart => exact ⟨0, Nat.zero_le _, rfl, rfl, (by simp [Hid])⟩
  case round =>
    obtain ⟨k, hk, rfl, rfl, hh⟩ := hrel
    go_wp2_with (go_at_call 31; refine (sign_any _ _).mono ?_; rintro e W ⟨rfl, rfl⟩)
    · have hk2 : k < s.size := by assumption
      have hb : (!signI (s[k].toNat : Int)) = true := by assumption
      go_ret
      have e := byte_at s k hk2
      refine ⟨ret_bool ?_, rfl⟩
      symm
      rw [List.all_eq_false]
      refine ⟨s[k], List.mem_of_getElem? e, ?_⟩
      rw [← signI_eq]
      simpa using hb
    · have hk2 : k < s.size := by assumption
      have hb : (!signI (s[k].toNat : Int)) = false := by assumption
      go_roundw
      case rel => exact ⟨k + 1, by omega, by simp, by simp, (all_take_succ (byte_at s k hk2) hh.out (by rw [← signI_eq]; simpa using hb))⟩
      case measure => simp [intOf]; omega
    · have hk2 : k = s.size := by omega
      subst hk2
      go_ret
      refine ⟨ret_bool ?_, rfl⟩
      have := hh.out
      rw [List.take_of_length_le (by rw [← Lib.size_eq]; omega)] at this
      exact this.symm

end Go.Proofs.YtfehmdfamndcaaaGreatDoor.Pa
namespace Go.Proofs.YtfehmdfamndcaaaGreatDoor.Pa
open Go.RowKit
set_option linter.unusedVariables false

set_option maxRecDepth 100000 in
theorem ret_str {a b : ByteArray} (h : a = b) : Ending.returned (.string a) = .returned (.string b) := by rw [h]

set_option maxRecDepth 100000 in
theorem clone_any (s : ByteArray) (w : World) (hs : s.size ≤ 281474976710656) : Calls Tryz.prog 13 #[.string s] w fun e w' => e = .returned (.string s) ∧ Below w.heap.size w w' := by
  go_enter Tryz.func13, Tryz.ntmps13
  go_wp2_with (go_at_call 20; refine (Tryz.stringslite_Clone s _ hs).mono ?_; rintro e w' ⟨rfl, hb⟩)
  go_ret
  exact ⟨rfl, hb⟩

set_option maxRecDepth 100000 in
theorem drewN_below (w : World) (n : Nat) : Below w.heap.size w (w.drewN n) := ⟨rfl, rfl, rfl, Nat.le_refl _, fun _ _ => rfl⟩

set_option maxRecDepth 100000 in
theorem toList_ext {a b : ByteArray} (h : a.data.toList = b.data.toList) : a = b := ByteArray.ext (Array.toList_inj.1 h)
set_option maxRecDepth 100000 in
theorem extract_pre (s : ByteArray) (i : Nat) : (s.extract 0 i).data.toList = s.data.toList.take i := by
  rw [ByteArray.data_extract, Array.toList_extract, List.extract_eq_take_drop]
  simp
set_option maxRecDepth 100000 in
theorem extract_suf (s : ByteArray) (i : Nat) : (s.extract i s.size).data.toList = s.data.toList.drop i := by
  rw [ByteArray.data_extract, Array.toList_extract, List.extract_eq_take_drop, Lib.size_eq, List.take_of_length_le (by simp)]
set_option maxRecDepth 100000 in
theorem extract_mid (s : ByteArray) (i j : Nat) : (s.extract i j).data.toList = (s.data.toList.drop i).take (j - i) := by
  rw [ByteArray.data_extract, Array.toList_extract, List.extract_eq_take_drop]

set_option maxRecDepth 100000 in
theorem split_at {l : Bs} {i : Nat} {c : UInt8} (h : l[i]? = some c) : l = l.take i ++ c :: l.drop (i + 1) := by
  obtain ⟨hl, e⟩ := List.getElem?_eq_some_iff.1 h
  rw [← e, ← List.drop_eq_getElem_cons hl, List.take_append_drop]

set_option maxRecDepth 100000 in
theorem cut_run (s : ByteArray) (w : World) (hs : s.size < 4611686018427387904) : Calls Tryz.prog 30 #[.string s, .string ⟨#[47]⟩] w fun e w' =>
    ∃ (q r : ByteArray) (b : Bool), e = .returned (.tuple #[.string q, .string r, .bool b]) ∧ Below w.heap.size w w' ∧ w'.heap = w.heap ∧ 47 ∉ q.data.toList ∧ splitS s.data.toList = q.data.toList :: (if b then splitS r.data.toList else []) ∧ q.size + (if b then r.size + 1 else 0) = s.size := by
  rcases (show Lib.indexByte s.data.toList 47 = -1 ∨ ∃ i : Nat, Lib.indexByte s.data.toList 47 = i from by
    have := Lib.indexByte_ge s.data.toList 47
    by_cases h : Lib.indexByte s.data.toList 47 = -1
    · exact .inl h
    · exact .inr ⟨(Lib.indexByte s.data.toList 47).toNat, by omega⟩) with h | ⟨i, h⟩
  · go_enter Tryz.func30, Tryz.ntmps30
    go_wp2_with (go_at_call 36; refine (Tryz.stringslite_Index_one s 47 _).mono ?_; rintro e w' ⟨rfl, rfl⟩; rw [h])
    go_ret3
    have h47 : (47 : UInt8) ∉ s.data.toList := fun hm => by
      obtain ⟨k, hk⟩ := List.getElem?_of_mem hm
      exact Lib.indexByte_none h k hk
    exact ⟨s, _, false, rfl, Below.refl _ _, rfl, h47, by simpa using splitS_plain h47, by simp⟩
  · obtain ⟨hi, hlo⟩ := Lib.indexByte_some h
    have hlt : i < s.size := by rw [Lib.size_eq]; exact (List.getElem?_eq_some_iff.1 hi).1
    have c1 : (0 : Int) ≤ ↑i := by omega
    have c2 : (↑i : Int) ≤ ↑s.size := by omega
    have c3 : (0 : Int) ≤ ↑i + 1 := by omega
    have c4 : (↑i + 1 : Int) ≤ ↑s.size := by omega
    have cw : IntKind.i64.wrap ((i : Int) + 1) = (i : Int) + 1 := by rw [IntKind.wrap_i64]; omega
    go_enter Tryz.func30, Tryz.ntmps30
    go_wp2_with (go_at_call 36; refine (Tryz.stringslite_Index_one s 47 _).mono ?_; rintro e w' ⟨rfl, rfl⟩; rw [h])
    go_quiet (fail)
    go_wp2
    go_ret3
    have e := split_at hi
    have h47 : (47 : UInt8) ∉ s.data.toList.take i := fun hm => by
      obtain ⟨k, hk⟩ := List.getElem?_of_mem hm
      rw [List.getElem?_take] at hk
      split at hk
      · rename_i hki
        exact hlo k hki hk
      · cases hk
    refine ⟨_, _, true, rfl, drewN_below _ _, rfl, ?_, ?_, ?_⟩
    · rw [extract_pre]; exact h47
    · simp only [if_true, extract_pre, extract_suf]
      rw [← splitS_cut _ h47, ← e]
    · have e1 := congrArg List.length (extract_pre s i)
      have e2 := congrArg List.length (extract_suf s (i + 1))
      simp only [List.length_take, List.length_drop] at e1 e2
      rw [← Lib.size_eq, ← Lib.size_eq] at e1 e2
      simp only [if_true]
      omega

set_option maxRecDepth 100000 in
theorem cut_any (s : ByteArray) (w : World) (hs : s.size < 4611686018427387904) : Calls Tryz.prog 24 #[.string s, .string ⟨#[47]⟩] w fun e w' =>
    ∃ (q r : ByteArray) (b : Bool), e = .returned (.tuple #[.string q, .string r, .bool b]) ∧ Below w.heap.size w w' ∧ w'.heap = w.heap ∧ 47 ∉ q.data.toList ∧ splitS s.data.toList = q.data.toList :: (if b then splitS r.data.toList else []) ∧ q.size + (if b then r.size + 1 else 0) = s.size := by
  go_enter Tryz.func24, Tryz.ntmps24
  go_wp2_with (go_at_call 30; refine (cut_run s _ hs).mono ?_; rintro e w' ⟨q, r, b, rfl, h1, h2, h3⟩)
  go_ret3
  exact ⟨q, r, b, rfl, h1, h2, h3⟩

/-- ahead of the last slash. -/
theorem dirS_cut (s : ByteArray) (i : Nat) (hi : s.data.toList[i]? = some 47) (hlo : ∀ j, i < j → s.data.toList[j]? ≠ some 47) : (s.extract 0 i).data.toList = dirS s.data.toList := by
  rw [extract_pre]
  have e := split_at hi
  have : (47 : UInt8) ∉ s.data.toList.drop (i + 1) := fun hm => by
    obtain ⟨k, hk⟩ := List.getElem?_of_mem hm
    rw [List.getElem?_drop] at hk
    exact hlo _ (by omega) hk
  conv => rhs; rw [e]
  rw [dirS_at this]

def dirB (s : ByteArray) : ByteArray := ⟨(dirS s.data.toList).toArray⟩
set_option maxRecDepth 100000 in
theorem dirB_list (s : ByteArray) : (dirB s).data.toList = dirS s.data.toList := by simp [dirB]
set_option maxRecDepth 100000 in
theorem dirB_size (s : ByteArray) : (dirB s).size ≤ s.size := by
  rw [Lib.size_eq, Lib.size_eq, dirB_list]; exact dirS_size _

set_option maxRecDepth 100000 in
theorem dir_any (s : ByteArray) (w : World) (hs : s.size ≤ 281474976710656) : Calls Tryz.prog 48 #[.string s] w fun e w' => e = .returned (.string (dirB s)) ∧ Below w.heap.size w w' := by
  have spec := Lib.lastIndexByte_spec s 47
  have byt : ∀ j, j < s.size → s.data.toList[j]? = some s.data[j]! := fun j hj => by
    rw [byte_at s j hj]
    exact congrArg some (getElem!_pos s.data j hj).symm
  rcases spec with ⟨h, hno⟩ | ⟨i, hlt, h, hi, hlo⟩
  · go_enter Tryz.func48, Tryz.ntmps48
    go_wp2_with (go_at_call 83; refine (Tryz.strings_LastIndexByte s 47 (by omega) _).mono ?_; rintro e w' ⟨rfl, rfl⟩; rw [h])
    go_ret
    have h47 : (47 : UInt8) ∉ s.data.toList := fun hm => by
      obtain ⟨k, hk⟩ := List.getElem?_of_mem hm
      have hkl : k < s.size := by rw [Lib.size_eq]; exact (List.getElem?_eq_some_iff.1 hk).1
      rw [byt k hkl] at hk
      exact hno k hkl (by rw [Option.some.inj hk]; rfl)
    exact ⟨ret_str (toList_ext (by rw [dirB_list, dirS_none h47])), Below.refl _ _⟩
  · have c1 : (0 : Int) ≤ ↑i := by omega
    have c2 : (↑i : Int) ≤ ↑s.size := by omega
    have hsz : (s.extract 0 i).size ≤ 281474976710656 := by
      have := (s.extract 0 i).size
      rw [Lib.size_eq, extract_pre, List.length_take, ← Lib.size_eq]; omega
    have hi' : s.data.toList[i]? = some 47 := by
      rw [byt i hlt]
      exact congrArg some (UInt8.toNat_inj.1 (by simpa using (Int.ofNat_inj.1 (by simpa using hi) : (s.data[i]!).toNat = 47)))
    have hlo' : ∀ j, i < j → s.data.toList[j]? ≠ some 47 := fun j hj hk => by
      have hkl : j < s.size := by rw [Lib.size_eq]; exact (List.getElem?_eq_some_iff.1 hk).1
      rw [byt j hkl] at hk
      exact hlo j hj hkl (by rw [Option.some.inj hk]; rfl)
    have hd := dirS_cut s i hi' hlo'
    go_enter Tryz.func48, Tryz.ntmps48
    go_wp2_with (first
      | (go_at_call 83; refine (Tryz.strings_LastIndexByte s 47 (by omega) _).mono ?_; rintro e w' ⟨rfl, rfl⟩; rw [h])
      | (go_at_call 13; refine (clone_any _ _ hsz).mono ?_; rintro e w' ⟨rfl, hb⟩))
    go_ret
    exact ⟨ret_str (toList_ext (by rw [dirB_list, hd])), hb⟩

end Go.Proofs.YtfehmdfamndcaaaGreatDoor.Pa
namespace Go.Proofs.YtfehmdfamndcaaaGreatDoor.Pa
open Go.RowKit
set_option linter.unusedVariables false

/-- bytes as cells. -/
def cellsB (l : Bs) : List Value := l.map fun b => .int .u8 b.toNat
set_option maxRecDepth 100000 in
theorem cellsB_length (l : Bs) : (cellsB l).length = l.length := by simp [cellsB]
set_option maxRecDepth 100000 in
theorem cellsB_app (a b : Bs) : cellsB (a ++ b) = cellsB a ++ cellsB b := by simp [cellsB]

abbrev Kept (w : World) (base : Nat) (v : Value) (l : Bs) : Prop := w.ownsRow base 5 1 v l.length (cellsB l)

set_option maxRecDepth 100000 in
theorem row_form {w : World} {base : Nat} {e : TypeId} {size : Nat} {v : Value} {n : Nat} {xs : List Value} (h : w.ownsRow base e size v n xs) : ∃ A c, v = .slice A n c := by
  rcases h.2 with ⟨rfl, rfl⟩ | ⟨g, cap, cur, rfl, _⟩
  · exact ⟨_, _, rfl⟩
  · exact ⟨_, _, rfl⟩
set_option maxRecDepth 100000 in
theorem row_some {w : World} {base : Nat} {e : TypeId} {size : Nat} {v : Value} {n : Nat} {xs : List Value} (h : w.ownsRow base e size v n xs) (hn : 0 < n) : ∃ g c, v = .slice (some ⟨g, 0, none⟩) n c ∧ base ≤ g ∧ n ≤ c := by
  rcases h.2 with ⟨rfl, rfl⟩ | ⟨g, cap, cur, rfl, h1, h2, h3, _⟩
  · omega
  · exact ⟨_, _, rfl, h1, h3⟩
set_option maxRecDepth 100000 in
theorem row_cut {w : World} {base : Nat} {e : TypeId} {size g cap n k : Nat} {xs : List Value} (h : w.ownsRow base e size (.slice (some ⟨g, 0, none⟩) n cap) n xs) (hk : k ≤ n) : w.ownsRow base e size (.slice (some ⟨g, 0, none⟩) k cap) k (xs.take (k * size)) := by
  obtain ⟨h1, h2⟩ := h
  have hm : k * size ≤ n * size := Nat.mul_le_mul_right _ hk
  refine ⟨by rw [List.length_take, h1]; omega, ?_⟩
  rcases h2 with ⟨h0, _⟩ | ⟨g', cap', cur, hv, hg, hh, hn, hcap, hsz, htake⟩
  · cases h0
  · cases hv
    refine .inr ⟨g, cap, cur, rfl, hg, hh, by omega, hcap, hsz, ?_⟩
    rw [← htake, List.take_take, Nat.min_eq_left hm]
set_option maxRecDepth 100000 in
theorem row_same {w w' : World} {base : Nat} {e : TypeId} {size : Nat} {v : Value} {n : Nat} {xs : List Value} (h : w.ownsRow base e size v n xs) (hh : w'.heap = w.heap) : w'.ownsRow base e size v n xs := by
  unfold World.ownsRow at *
  rw [hh]
  exact h

def strLen : Value → Nat
  | .string s => s.size
  | _ => 0
def boolN : Value → Nat
  | .bool true => 1
  | _ => 0

set_option maxRecDepth 100000 in
theorem next_some {X : Option (List Bs)} {L L' : List Bs} {R q r : Bs} {b : Bool} (hw : X = walkL L (splitS R)) (hsp : splitS R = q :: (if b then splitS r else [])) (hst : step L q = some L') : X = if b then walkL L' (splitS r) else some L' := by
  rw [hw, hsp]
  cases b <;> simp [walkL, hst]
set_option maxRecDepth 100000 in
theorem next_none {X : Option (List Bs)} {L : List Bs} {R q r : Bs} {b : Bool} (hw : X = walkL L (splitS R)) (hsp : splitS R = q :: (if b then splitS r else [])) (hst : step L q = none) : X = none := by
  rw [hw, hsp]
  simp [walkL, hst]

set_option maxRecDepth 100000 in
theorem kept_app {w : World} {base : Nat} {v : Value} {l : Bs} {q : ByteArray} (h : w.ownsRow base 5 1 v (l.length + 1 + q.size) (cellsB l ++ [.int .u8 47] ++ Lib.strCells q)) : Kept w base v (l ++ 47 :: q.data.toList) := by
  have e1 : (l ++ 47 :: q.data.toList).length = l.length + 1 + q.size := by rw [Lib.size_eq]; simp; omega
  have e2 : cellsB (l ++ 47 :: q.data.toList) = cellsB l ++ [.int .u8 47] ++ Lib.strCells q := by
    rw [cellsB_app, List.append_assoc]
    rfl
  unfold Kept
  rw [e1, e2]
  exact h

set_option maxRecDepth 100000 in
theorem info_u8 : (Tryz.prog.info? 5).map (fun i => (i.zero, i.size, i.bytes)) = some (some (.int .u8 0), 1, 1) := by kernel_rfl

set_option maxHeartbeats 4000000 in
set_option maxRecDepth 100000 in
theorem walk_any (s : ByteArray) (w : World) (hs : s.size < 140737488355328) : Calls Tryz.prog 18 #[.string s] w fun e w' =>
    Below w.heap.size w w' ∧ ((walkL [] (splitS s.data.toList) = none ∧ e = .returned (.tuple #[.slice none 0 0, .bool false])) ∨
      ∃ L kv, walkL [] (splitS s.data.toList) = some L ∧ e = .returned (.tuple #[kv, .bool true]) ∧ Kept w' w.heap.size kv (joinS L)) := by
  obtain ⟨i0, hi, hz0, hz1, hz2⟩ := info_parts info_u8
  go_enter Tryz.func18, Tryz.ntmps18
  go_wp2
  go_step3
  go_wp2
  go_step3
  go_wp2
  go_loopg [0, 4, 6] (s.size + 1) (fun gh v0 v4 v6 W => ∃ (L : List Bs) (R : ByteArray) (m : Bool), v0 = .string R ∧ v6 = .bool m ∧ gh = (if m then R.size + 1 else 0) ∧ (∀ x ∈ L, Good x) ∧ Kept W w.heap.size v4 (joinS L) ∧ Below w.heap.size w W ∧
      Hid (walkL [] (splitS s.data.toList) = if m then walkL L (splitS R.data.toList) else some L) ∧ (joinS L).length + gh ≤ s.size + 1)
  case atStart => exact ⟨[], s, true, rfl, rfl, by simp, by simp, World.ownsRow_nil _ _ _ _, Below.refl _ _, by simp [Hid], by simp [joinS]⟩
  case round =>
    obtain ⟨L, R, m, rfl, rfl, hgk, hg, hown, hb, hw, hlen⟩ := hrel
    cases m
    · go_wp2
      rw [Exit.noGoto_ret]
      go_ret2
      exact ⟨hb, .inr ⟨L, _, by simpa [Hid] using hw.out, rfl, hown⟩⟩
    · simp only [if_true] at hgk hw
      go_wp2_with fail
      refine (cut_any R _ (by omega)).mono ?_
      rintro e W1 ⟨q, r, b, rfl, hb1, hh1, h47, hsp, hsz⟩
      have hown1 : Kept W1 w.heap.size u4 (joinS L) := row_same hown hh1
      have hbW : Below w.heap.size w W1 := hb.trans (hb1.mono hb.size)
      have HI : Hid (splitS R.data.toList = q.data.toList :: (if b then splitS r.data.toList else []) ∧ 47 ∉ q.data.toList) := ⟨hsp, h47⟩
      obtain ⟨gh, hgh⟩ : ∃ gh, gh = (if b then r.size + 1 else 0) := ⟨_, rfl⟩
      have HG : Hid (gh = (if b then r.size + 1 else 0)) := hgh
      rw [← hgh] at hsz
      clear hsp h47 hgh hh1 hb1 hown hb
      by_cases q0 : q.data.toList = []
      · have c1 : q.toList.isEmpty = true := by rw [Lib.toList_data, q0]; rfl
        have hst : step L q.data.toList = some L := by rw [q0]; exact step_none L
        have HW : Hid (walkL [] (splitS s.data.toList) = if b then walkL L (splitS r.data.toList) else some L) := next_some hw.out HI.out.1 hst
        clear q0 hst
        go_wp2
        go_roundg gh
        case measure => omega
        case rel => exact ⟨L, r, b, rfl, rfl, HG.out, hg, hown1, hbW, HW, by omega⟩
      · have c1 : q.toList.isEmpty = false := by
          rw [Lib.toList_data]
          cases h : q.data.toList with
          | nil => exact absurd h q0
          | cons _ _ => rfl
        by_cases q1 : q.data.toList = [46]
        · have c2 : (q.toList == [46]) = true := by rw [Lib.toList_data, q1]; rfl
          have hst : step L q.data.toList = some L := by rw [q1]; exact step_dot L
          have HW : Hid (walkL [] (splitS s.data.toList) = if b then walkL L (splitS r.data.toList) else some L) := next_some hw.out HI.out.1 hst
          clear q0 q1 hst
          go_wp2
          go_roundg gh
          case measure => omega
          case rel => exact ⟨L, r, b, rfl, rfl, HG.out, hg, hown1, hbW, HW, by omega⟩
        · have c2 : (q.toList == [46]) = false := by rw [Lib.toList_data]; simpa using q1
          by_cases q2 : q.data.toList = [46, 46]
          · have c3 : (q.toList == [46, 46]) = true := by rw [Lib.toList_data, q2]; rfl
            by_cases hL : L = []
            · subst hL
              have hst : step [] q.data.toList = none := by rw [q2]; simp [step]
              have HW : Hid (walkL [] (splitS s.data.toList) = none) := next_none hw.out HI.out.1 hst
              obtain ⟨A4, c4, rfl⟩ := row_form hown1
              clear q0 q1 q2 hst
              go_wp2
              go_loopg [7] 0 (fun _ v7 W => v7 = .int .i64 (-1) ∧ W = W1)
              case atStart => exact ⟨by first | rfl | simp, rfl⟩
              case round =>
                obtain ⟨rfl, rfl⟩ := hrel
                go_wp2
                rw [Exit.noGoto_ret]
                go_ret2
                exact ⟨hbW, .inl ⟨HW.out, rfl⟩⟩
            · obtain ⟨M, p0, rfl⟩ := snoc_of hL
              have hp0 := hg p0 (by simp)
              have hst : step (M ++ [p0]) q.data.toList = some M := by rw [q2]; simp [step]
              have HW : Hid (walkL [] (splitS s.data.toList) = if b then walkL M (splitS r.data.toList) else some M) := next_some hw.out HI.out.1 hst
              have hjl : (joinS (M ++ [p0])).length = (joinS M).length + 1 + p0.length := by rw [joinS_snoc]; simp; omega
              obtain ⟨g, c, rfl, hgb, hnc⟩ := row_some hown1 (by omega)
              have hce : ∀ j (hj : j < (joinS (M ++ [p0])).length), W1.cell? ⟨g, j, none⟩ = some (.int .u8 ((joinS (M ++ [p0]))[j]).toNat) := fun j hj => by
                rw [hown1.cellAt j (by omega)]
                simp [cellsB, hj]
              obtain ⟨n, hn⟩ : ∃ n, n = (joinS (M ++ [p0])).length := ⟨_, rfl⟩
              have HC : Hid ((∀ j (hj : j < (joinS (M ++ [p0])).length), W1.cell? ⟨g, j, none⟩ = some (.int .u8 ((joinS (M ++ [p0]))[j]).toNat)) ∧ n = (joinS (M ++ [p0])).length) := ⟨hce, hn⟩
              have HN : Hid (n = (joinS M).length + 1 + p0.length) := by show _ = _; omega
              have hMn : (joinS M).length < n := by omega
              rw [← hn] at hnc hlen
              clear hce q0 q1 q2 hst hL hjl
              rw [← hn]
              clear hn
              go_wp2
              go_loopg [4, 7] (n - 1) (fun g7 v4 v7 W => ∃ j : Nat, j = g7 ∧ (joinS M).length ≤ j ∧ j < n ∧ v4 = .slice (some ⟨g, 0, none⟩) n c ∧ v7 = .int .i64 (j : Int) ∧ W = W1)
              case atStart => exact ⟨n - 1, rfl, by omega, by omega, rfl, by congr 1; omega, rfl⟩
              case round =>
                obtain ⟨j, rfl, hj1, hj2, rfl, rfl, rfl⟩ := hrel
                have hjl : j < (joinS (M ++ [p0])).length := by have := HC.out.2; omega
                have hcell := HC.out.1 j hjl
                by_cases hj : j = (joinS M).length
                · have hx : (joinS (M ++ [p0]))[j] = 47 := by
                    apply Option.some.inj
                    rw [← List.getElem?_eq_getElem hjl, joinS_snoc, List.getElem?_append_right (by omega)]
                    simp [hj]
                  rw [hx] at hcell
                  have hk : Kept wr w.heap.size (.slice (some ⟨g, 0, none⟩) j c) (joinS M) := by
                    have h1 := row_cut hown1 (k := j) (by omega)
                    have h2 : (cellsB (joinS (M ++ [p0]))).take (j * 1) = cellsB (joinS M) := by
                      rw [joinS_snoc, cellsB_app, Nat.mul_one, hj, ← cellsB_length (joinS M)]
                      exact List.take_left
                    rw [h2] at h1
                    unfold Kept
                    rw [← hj]
                    exact h1
                  have hjc : (j : Int) ≤ (c : Int) := by omega
                  clear hx hj HC
                  have HK : Hid (Kept wr w.heap.size (.slice (some ⟨g, 0, none⟩) j c) (joinS M)) := hk
                  clear hk
                  go_wp2
                  go_roundg gh
                  case measure => omega
                  case rel => exact ⟨M, r, b, rfl, rfl, HG.out, fun x hx => hg x (by simp [hx]), HK.out, hbW, HW, by omega⟩
                · have hx : (joinS (M ++ [p0]))[j] ≠ 47 := fun e => by
                    have e1 : (joinS (M ++ [p0]))[j]? = some 47 := by rw [List.getElem?_eq_getElem hjl, e]
                    rw [joinS_snoc, List.getElem?_append_right (by omega)] at e1
                    obtain ⟨k, hk⟩ : ∃ k, j - (joinS M).length = k + 1 := ⟨j - (joinS M).length - 1, by omega⟩
                    rw [hk, List.getElem?_cons_succ] at e1
                    exact hp0.plain (List.mem_of_getElem? e1)
                  generalize (joinS (M ++ [p0]))[j] = x at *
                  have hx2 : ((x.toNat : Nat) : Int) ≠ 47 := fun e => hx (UInt8.toNat_inj.1 (by simpa using (Int.ofNat_inj.1 (by simpa using e) : x.toNat = 47)))
                  clear hx HC
                  go_wp2
                  go_roundg (j - 1)
                  case measure => omega
                  case rel => exact ⟨j - 1, rfl, by omega, by omega, rfl, by congr 1; omega, rfl⟩
          · have c3 : (q.toList == [46, 46]) = false := by rw [Lib.toList_data]; simpa using q2
            have hqs : q.size ≤ R.size := by omega
            cases hsg : q.data.toList.all signB
            · have hst : step L q.data.toList = none := by simp [step, q0, q1, q2, hsg]
              have HW : Hid (walkL [] (splitS s.data.toList) = none) := next_none hw.out HI.out.1 hst
              clear q0 q1 q2 hst
              go_wp2_with (go_at_call 25; refine (signs_any _ _ (by omega)).mono ?_; rintro e W2 ⟨rfl, rfl⟩; rw [hsg])
              rw [Exit.noGoto_ret]
              go_ret2
              exact ⟨hbW, .inl ⟨HW.out, rfl⟩⟩
            · have hgood : Good q.data.toList := ⟨q0, q1, q2, hsg⟩
              have HW : Hid (walkL [] (splitS s.data.toList) = if b then walkL (L ++ [q.data.toList]) (splitS r.data.toList) else some (L ++ [q.data.toList])) := next_some hw.out HI.out.1 (step_good hgood)
              have hjl : (joinS (L ++ [q.data.toList])).length = (joinS L).length + 1 + q.size := by rw [joinS_snoc, Lib.size_eq]; simp; omega
              clear q0 q1 q2
              have tok1 : True := trivial
              go_wp2_with (first
                | (go_at_call 25; refine (signs_any _ _ (by omega)).mono ?_; rintro e W2 ⟨rfl, rfl⟩; rw [hsg])
                | (at_builtin; have _t := tok1; refine wpList_append_own _ rfl _ _ 37 rfl w.heap.size 5 i0 (.int .u8 0) 1 1 Tryz.underlying37 hi hz0 hz1 hz2 rfl (by decide) _ _ _ rfl (hown1.alloc _) ⟨_, 0, none⟩ 1 1 [.int .u8 47] rfl rfl (cell_one_new _ _ _) (ints_oneCell .u8 [47]) (by unfold maxLen; omega) (by omega) (by have := hbW.size; simp; omega) ?_; intro v1 W3 ho1 hg1 hn1; clear tok1)
                | (at_builtin; refine Lib.wpList_append_own_string _ rfl _ _ 37 9 rfl w.heap.size 5 i0 Tryz.underlying37 Tryz.underlying9 hi hz0 hz1 hz2 _ _ _ rfl ho1 q rfl (by unfold maxLen; omega) (by omega) (by have h1 := hbW.size; have h2 := hg1.size; simp at h2; omega) ?_; intro v2 W4 ho2 hg2 hn2))
              go_roundg gh
              case measure => omega
              case rel =>
                refine ⟨L ++ [q.data.toList], r, b, rfl, rfl, HG.out, ?_, ?_, ?_, HW, by omega⟩
                · intro x hx
                  rcases List.mem_append.1 hx with hx | hx
                  · exact hg x hx
                  · rw [List.mem_singleton.1 hx]; exact hgood
                · rw [joinS_snoc]; exact kept_app ho2
                · have hb2 : Below w.heap.size w W3 := (hbW.alloc hbW.size _).grown hg1 (by have := hbW.size; simp; omega) (fun j hj => (hown1.lt j hj).1)
                  exact hb2.grown hg2 hb2.size (fun j hj => (ho1.lt j hj).1)
end Go.Proofs.YtfehmdfamndcaaaGreatDoor.Pa
