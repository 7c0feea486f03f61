/- Own text. The contracts of stray,Valid and Count of package runes,over a text cut into runes. The contract of byNumber of package runes: the number of a byte in hexadecimal digits. The contract of Quote of package runes: a text in quotes,of every text that is not too long. -/
import Derived.Test.YthfkfbcopinmiaaGreatDoorShelf
import Derived.Test.YthfkfbcopinmiaaGreatDoorGk21
import Derived.WalkKit
import Derived.Laws.RangeString
import Derived.Laws.RangeAny
import Derived.LoopTactic
import Derived.Handy
import Derived.Lib.OthersKept
import Derived.BigCall
namespace Go.Proofs.YthfkfbcopinmiaaGreatDoor
open Go.RowKit
theorem drop_extract (s : ByteArray) (i : Nat) : (s.extract i s.size).data.toList=s.data.toList.drop i:=by
 rw [ByteArray.data_extract]
 simp
 exact List.take_of_length_le (by simp)
theorem stray_any (s : ByteArray) (pos : Nat) (w : World) (h : pos < s.size) :
 Calls Tryz.prog 140 #[.string s,.int .i64 pos,.int .i32 (decL (s.data.toList.drop pos)).1] w fun e w'=>e = .returned (.bool (strayL (s.data.toList.drop pos)))∧w'=w:=by
 have hp:=prefix_stray (s.data.toList.drop pos)
 have HP : Hid (Lib.hasPrefix (s.extract pos s.size).data.toList [239,191,189]=Lib.hasPrefix (s.data.toList.drop pos) [239,191,189]):=by rw [drop_extract];trivial
 obtain ⟨d,hd⟩ : ∃ d,d=decL (s.data.toList.drop pos):=⟨_,rfl⟩
 have HD : Hid (strayL (s.data.toList.drop pos)=(d.1 == 65533 && d.2 == 1)):=by rw [strayL,← hd];trivial
 rw [← hd] at hp ⊢
 clear hd
 by_cases hr : d.1=65533
 ·have HQ : Hid (Lib.hasPrefix (s.extract pos s.size).data.toList [239,191,189] = !(d.2 == 1)):=HP.out.trans (hp hr)
  clear hp HP
  rw [HD.out]
  go_enter Tryz.func140,Tryz.ntmps140
  go_wp2_with (go_at_call 66;refine (Tryz.strings_HasPrefix _ _ _).mono ?_;rintro e w' ⟨rfl,rfl⟩)
  go_ret
  refine ⟨ret_bool ?_,rfl⟩
  have e:=HQ.out
  rw [drop_extract] at e
  rw [List.take_of_length_le (by rw [List.length_drop,Lib.size_eq];omega),e,hr]
  simp
 ·clear hp HP
  rw [HD.out]
  have hb : ((d.1 : Int) == 65533)=false:=by simp;omega
  go_enter Tryz.func140,Tryz.ntmps140
  go_wp2_with fail
  go_ret
  refine ⟨ret_bool ?_,rfl⟩
  simp [hr]
theorem drop_ne (s : ByteArray) (pos : Nat) (h : pos < s.size) : s.data.toList.drop pos ≠ []:=by
 intro e
 have:=congrArg List.length e
 rw [List.length_drop,← Lib.size_eq] at this
 simp at this
 omega
theorem drop_end (s : ByteArray) (pos : Nat) (h : ¬ pos < s.size) : s.data.toList.drop pos=[]:=by
 apply List.drop_of_length_le
 rw [← Lib.size_eq]
 omega
theorem width_le (s : ByteArray) (pos : Nat) (h : pos < s.size) : pos+(decL (s.data.toList.drop pos)).2 ≤ s.size:=by
 have:=decL_le _ (drop_ne s pos h)
 rw [List.length_drop,← Lib.size_eq] at this
 omega
theorem ret_str {a b : ByteArray} (h : a=b) : Ending.returned (.string a) = .returned (.string b):=by rw [h]
theorem grown_of_below {w w' : World} (h : Below w.heap.size w w') (row : Option Nat) : w.grownBy w' row:=⟨h.os,h.tape,h.output,h.size,fun k hk _=>h.block k hk⟩
theorem run_next_dec_at {P : Program} (w : World) (k : Nat) (s : ByteArray) (pos : Nat) (ty : TypeId) (hk : w.heap[k]?=some (.stringIter s pos)) (h : pos < s.size) :
 (Instr.next (.pointer (some ⟨k,0,none⟩)) true ty).run P w =
  .ok (.tuple #[.bool true,.int .i64 pos,.int .i32 (decL (s.data.toList.drop pos)).1]) (w.iterAt k s (pos+(decL (s.data.toList.drop pos)).2)):=by
 rw [← decode_eq]
 exact Lib.run_next_any_at w k s pos ty hk h
end Go.Proofs.YthfkfbcopinmiaaGreatDoor
