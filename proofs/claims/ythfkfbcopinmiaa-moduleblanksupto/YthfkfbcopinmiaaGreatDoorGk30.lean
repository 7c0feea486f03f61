/- Own text. The program's package-level tables as they stand;its blanks,lines and notes. The program's names. The contract of the document's Slice. The contracts of the document's hex and Quote. The document's text of a token. The document's text of a token,by its kind. -/
import Derived.Test.YthfkfbcopinmiaaGreatDoorGk28
import Derived.Test.YthfkfbcopinmiaaGreatDoorShelf
import Derived.Lib.Index
import Derived.Shelf.Unicode.DecodeSlow
import Derived.Lib.LaidTab
import Derived.Test.YthfkfbcopinmiaaGreatDoorGk27
import Derived.WalkKit
import Derived.Test.YthfkfbcopinmiaaGreatDoorGk26
import Derived.Test.YthfkfbcopinmiaaGreatDoorGk25
import Derived.Test.YthfkfbcopinmiaaGreatDoorGk21
set_option linter.unusedVariables false
namespace Go.Proofs.YthfkfbcopinmiaaGreatDoor
open Go.RowKit
def Over (B : Nat) : Prop:=2 < B∧3 < B∧4 < B∧0 < B∧1 < B
theorem Over.mono {B B' : Nat} (h : Over B) (hb : B ≤ B') : Over B':=by
 obtain ⟨b,c,d,e,f⟩:=h
 exact ⟨by omega,by omega,by omega,by omega,by omega⟩
structure Env (w : World) : Prop where
 utf : Lib.Utf8Tabs 2 3 w
 wrd : ∃ t fr,w.heap[4]?=some (.cells (textCells wordsL).toArray t fr)
 sgn : ∃ t fr,w.heap[0]?=some (.cells (textCells signsL).toArray t fr)
 len : ∃ m,w.cell? ⟨1,0,none⟩=some (.int .i64 m)
theorem Env.over {w : World} (h : Env w) : Over w.heap.size:=by
 obtain ⟨t,fr,hw⟩:=h.wrd
 obtain ⟨t2,fr2,hg⟩:=h.sgn
 obtain ⟨m,hm⟩:=h.len
 exact ⟨World.block_lt_of_cell? w _ (h.utf.1 0 (by omega)),World.block_lt_of_cell? w _ (h.utf.2 0 (by omega)).1,(Array.getElem?_eq_some_iff.1 hw).1,(Array.getElem?_eq_some_iff.1 hg).1,World.block_lt_of_cell? w _ hm⟩
theorem Env.keep {B : Nat} {w w' : World} (h : Env w) (hb : Below B w w') (ho : Over B) : Env w':=by
 obtain ⟨o2,o3,o4,o5,o6⟩:=ho
 obtain ⟨t,fr,hw⟩:=h.wrd
 obtain ⟨t2,fr2,hg⟩:=h.sgn
 obtain ⟨m,hm⟩:=h.len
 exact ⟨⟨fun c hc=>(hb.cell (p:=⟨2,c,none⟩) o2).trans (h.utf.1 c hc),fun i hi=>⟨(hb.cell (p:=⟨3,2 * i,none⟩) o3).trans (h.utf.2 i hi).1,(hb.cell (p:=⟨3,2 * i+1,none⟩) o3).trans (h.utf.2 i hi).2⟩⟩,⟨t,fr,(hb.block _ o4).trans hw⟩,⟨t2,fr2,(hb.block _ o5).trans hg⟩,⟨m,(hb.cell (p:=⟨1,0,none⟩) o6).trans hm⟩⟩
theorem env_below {w w' : World} (h : Env w) (hb : Below w.heap.size w w') : Env w':=h.keep hb h.over
theorem blank_any (b : Int) (w : World) : Calls Tryz.prog 65 #[.int .u8 b] w fun e w'=>e = .returned (.bool (decide (b=9 ∨ b=10 ∨ b=13 ∨ b=32)))∧w'=w:=by
 go_enter Tryz.func65,Tryz.ntmps65
 go_wp2
 all_goals go_ret
 all_goals (refine ⟨ret_bool ?_,rfl⟩;rw [Bool.eq_iff_iff];simp;try omega)
theorem indexByte_line : ∀ l : Bs,(Lib.indexByte l 10 = -1∧lineL l=l.length) ∨ Lib.indexByte l 10=(lineL l : Int)
 | []=>.inl ⟨rfl,rfl⟩
 | c :: r=>by
  unfold Lib.indexByte lineL
  by_cases hc : c=10
  ·subst hc;exact .inr (by simp)
  ·have hb : (c == 10)=false:=by simpa using hc
   rw [hb,if_neg hc]
   rcases indexByte_line r with ⟨h1,h2⟩ | h1
   ·rw [h1,h2];exact .inl ⟨by simp,rfl⟩
   ·have : ¬ (lineL r : Int) = -1:=by omega
    rw [h1]
    exact .inr (by simp [this])
theorem lineSize_any (s : ByteArray) (w : World) : Calls Tryz.prog 67 #[.string s] w fun e w'=>e = .returned (.int .i64 (lineL s.data.toList : Nat))∧w'=w:=by
 have hib:=fun W=>Tryz.strings_IndexByte s 10 W
 rw [show (10 : Int).toNat.toUInt8=10 from rfl] at hib
 have hle:=lineL_le s.data.toList
 rcases indexByte_line s.data.toList with ⟨h1,h2⟩ | h1
 ·rw [h1] at hib
  have h3 : Hid (lineL s.data.toList=s.size):=by show _=_;rw [h2,Lib.size_eq]
  clear h1 h2 hle
  go_enter Tryz.func67,Tryz.ntmps67
  go_wp2_with (go_at_call 99;refine (hib _).mono ?_;rintro e W ⟨rfl,rfl⟩)
  go_ret
  exact ⟨by rw [h3.out];rfl,rfl⟩
 ·rw [h1] at hib
  generalize lineL s.data.toList=k at *
  have h2 : ¬ (k : Int) < 0:=by omega
  go_enter Tryz.func67,Tryz.ntmps67
  go_wp2_with (go_at_call 99;refine (hib _).mono ?_;rintro e W ⟨rfl,rfl⟩)
  go_ret
  exact ⟨rfl,rfl⟩
theorem index_note : ∀ l : Bs,(Lib.index l [42,47] = -1∧noteL l=none) ∨ ∃ k : Nat,Lib.index l [42,47]=(k : Int)∧noteL l=some (k+2)
 | []=>.inl ⟨rfl,rfl⟩
 | c :: r=>by
  unfold Lib.index noteL
  by_cases hc : c=42∧r.head?=some 47
  ·rw [if_pos hc]
   obtain ⟨rfl,h2⟩:=hc
   cases r with
   | nil=>simp at h2
   | cons d r =>
    have : d=47:=by simpa using h2
    subst this
    exact .inr ⟨0,by simp,rfl⟩
  ·rw [if_neg hc]
   have hp : ([42,47] : Bs).isPrefixOf (c :: r)=false:=by
    cases r with
    | nil=>simp [List.isPrefixOf]
    | cons d r =>
     simp only [List.isPrefixOf]
     by_cases h1 : c=42
     ·have h2 : ¬ d=47:=fun e=>hc ⟨h1,by rw [e];rfl⟩
      have : ((47 : UInt8) == d)=false:=by simpa using fun e=>h2 e.symm
      simp [this]
     ·have : ((42 : UInt8) == c)=false:=by simpa using fun e=>h1 e.symm
      simp [this]
   rw [hp]
   rcases index_note r with ⟨h1,h2⟩ | ⟨k,h1,h2⟩
   ·rw [h1,h2];exact .inl ⟨by simp,rfl⟩
   ·rw [h1,h2]
    have : ¬ (k : Int) = -1:=by omega
    exact .inr ⟨k+1,by simp [this],by simp⟩
def noteN (l : Bs) : Nat:=match noteL (l.drop 2) with | none=>0 | some k=>k+2
def noteB (l : Bs) : Bool:=(noteL (l.drop 2)).isSome
theorem noteSize_any (s : ByteArray) (w : World) (he : Env w) (hs : s.size < 4294967281) (h2 : 2 ≤ s.size) : Calls Tryz.prog 68 #[.string s] w fun e w'=>e = .returned (.tuple #[.int .i64 (noteN s.data.toList : Nat),.bool (noteB s.data.toList)])∧w'=w:=by
 obtain ⟨m,hm⟩:=he.len
 have hxl : (s.extract 2 s.size).data.toList=s.data.toList.drop 2:=drop_extract s 2
 have hxs : (s.extract 2 s.size).size < 4294967281:=by rw [Lib.size_eq,hxl,List.length_drop,← Lib.size_eq];omega
 have hix:=Tryz.strings_Index (s.extract 2 s.size) ⟨#[42,47]⟩ m w hxs hm
 rw [hxl,show (⟨#[42,47]⟩ : ByteArray).data.toList=[42,47] from rfl] at hix
 have hsr:=drop_run s 2 h2
 rw [show ((2 : Nat) : Int)=2 from rfl] at hsr
 have hnl:=noteL_le (s.data.toList.drop 2)
 rw [List.length_drop,← Lib.size_eq] at hnl
 clear hxl hxs
 generalize s.extract 2 s.size=X at *
 unfold noteN noteB
 rcases index_note (s.data.toList.drop 2) with ⟨h1,h3⟩ | ⟨k,h1,h3⟩
 ·rw [h1] at hix
  rw [h3]
  clear h1 h3
  go_enter Tryz.func68,Tryz.ntmps68
  go_wp2_with (go_at_call 100;refine hix.mono ?_;rintro e W ⟨rfl,rfl⟩)
  go_ret2
  exact ⟨rfl,rfl⟩
 ·rw [h1] at hix
  have hb:=hnl _ h3
  rw [h3]
  clear h1 h3 hnl
  have h4 : ¬ (k : Int) < 0:=by omega
  go_enter Tryz.func68,Tryz.ntmps68
  go_wp2_with (go_at_call 100;refine hix.mono ?_;rintro e W ⟨rfl,rfl⟩)
  go_ret2
  exact ⟨ret_ib (by simp;omega) rfl,rfl⟩
def begB (r : Int) (sc : Bool) : Bool:=letterB r || r == 95 || (r == 36 && sc)
theorem begins_own (b : Nat) (r : Int) (sc : Bool) (w : World) (hc : w.cell? ⟨b,2,none⟩=some (.bool sc)) : Calls Tryz.prog 102 #[.pointer (some ⟨b,0,none⟩),.int .i32 r] w fun e w'=>e = .returned (.bool (begB r sc))∧w'=w:=by
 have hl:=fun W=>letter_any r W
 unfold begB
 cases hlb : letterB r
 ·rw [hlb] at hl
  go_enter Tryz.func102,Tryz.ntmps102
  go_wp2_with (go_at_call 121;refine (hl _).mono ?_;rintro e W ⟨rfl,rfl⟩)
  all_goals go_ret
  all_goals (refine ⟨ret_bool ?_,rfl⟩;simp_all)
 ·rw [hlb] at hl
  go_enter Tryz.func102,Tryz.ntmps102
  go_wp2_with (go_at_call 121;refine (hl _).mono ?_;rintro e W ⟨rfl,rfl⟩)
  go_ret
  exact ⟨rfl,rfl⟩
theorem index_row {P : Program} (W : World) (t e : TypeId) (n : Nat) (l : List Bs) (k : Nat) (q : Bs) (h : P.underlying t=some (.array n e)) (hn : l.length=n) (hq : l[k]?=some q) (h1 : (isAgg e).run P W = .ok false W) (hz : (sizeOf e).run P W = .ok 1 W) :
 (Instr.index t (.agg (textCells l).toArray) (.int .i64 (k : Int))).run P W = .ok (.string ⟨q.toArray⟩) W:=by
 have hk : k < n:=by rw [← hn];exact (List.getElem?_eq_some_iff.1 hq).1
 have hk2 : (k : Int) < (n : Int):=by omega
 have hv : (textCells l)[k]?=some (.string ⟨q.toArray⟩):=by simp [textCells,hq]
 simp [Instr.index,run_underlying h,asIntOf,go_sem,h1,hz,hv]
 intro hc
 omega
set_option maxRecDepth 100000
set_option maxHeartbeats 2000000
theorem decL_low (l : Bs) : ((decL l).1 < 128→atL l 0=(decL l).1∧(decL l).2=1)∧(atL l 0 < 128→decL l=(atL l 0,1)):=by
 unfold decL
 refine ⟨fun h=>?_,fun h=>by rw [if_pos h]⟩
 split at h <;> rename_i h1
 ·rw [if_pos h1];exact ⟨rfl,rfl⟩
 ·exfalso
  repeat' split at h
  all_goals simp_all
  all_goals omega
def onB (r : Int) (sc : Bool) : Bool:=begB r sc || digitB r
theorem begL_dec (l : Bs) (sc : Bool) (h : l ≠ []) : begL l sc=if begB ((decL l).1 : Nat) sc then (decL l).2 else 0:=by
 rw [begL_some l sc h]
 obtain ⟨lo1,lo2⟩:=decL_low l
 by_cases h1 : atL l 0=95 ∨ (sc=true∧atL l 0=36)
 ·rw [if_pos h1]
  have hd:=lo2 (by rcases h1 with h | ⟨_,h⟩ <;> omega)
  rw [hd]
  have : begB ((atL l 0 : Nat) : Int) sc=true:=by
   unfold begB
   rcases h1 with h | ⟨h,h'⟩
   ·rw [h];simp
   ·rw [h',h];simp
  rw [if_pos this]
 ·rw [if_neg h1]
  by_cases h2 : letterB ((decL l).1 : Nat)=true
  ·have hs : strayL l=false:=by
    unfold strayL
    cases hd : decL l with
    | mk r n =>
     rw [hd] at h2
     by_cases hr : r=65533
     ·subst hr;exact absurd (show letterB ((65533 : Nat) : Int)=true from h2) (by decide)
     ·simp [hr]
   rw [if_pos ⟨hs,h2⟩,if_pos (by unfold begB;rw [h2];rfl)]
  ·rw [if_neg (fun hh=>h2 hh.2)]
   have : begB ((decL l).1 : Nat) sc=false:=by
    unfold begB
    have e1 : letterB ((decL l).1 : Nat)=false:=by simpa using h2
    have e2 : ((((decL l).1 : Nat) : Int) == 95)=false:=int_eqb (fun e=>h1 (.inl (by rw [(lo1 (by omega)).1];omega)))
    rw [e1,e2]
    cases sc with
    | false=>simp
    | true =>
     have e3 : ((((decL l).1 : Nat) : Int) == 36)=false:=int_eqb (fun e=>h1 (.inr ⟨rfl,by rw [(lo1 (by omega)).1];omega⟩))
     rw [e3];rfl
   rw [this];rfl
theorem digC_dec (l : Bs) : digC (atL l 0)=digitB ((decL l).1 : Nat):=by
 obtain ⟨lo1,lo2⟩:=decL_low l
 unfold digC digitB
 rw [Bool.eq_iff_iff]
 simp
 by_cases h : atL l 0 < 128
 ·rw [lo2 h];simp;omega
 ·constructor
  ·intro hh;omega
  ·intro hh
   have:=(lo1 (by omega)).1
   omega
theorem onL_dec (l : Bs) (sc : Bool) (h : l ≠ []) : onL l sc=if onB ((decL l).1 : Nat) sc then (decL l).2 else 0:=by
 have hw:=(decL_width l).1
 unfold onL onB
 rw [begL_dec l sc h]
 cases hb : begB ((decL l).1 : Nat) sc
 ·simp only [Bool.false_eq_true,if_false,ne_eq,not_true_eq_false,Bool.false_or]
  rw [digC_dec]
  cases hd : digitB ((decL l).1 : Nat)
  ·simp
  ·have : (decL l).2=1:=by
    refine ((decL_low l).1 ?_).2
    unfold digitB at hd
    simp at hd
    omega
   rw [this]
   simp [h]
 ·simp only [if_true,Bool.true_or]
  rw [if_pos (by omega)]
theorem nameL_tail (l : Bs) (sc : Bool) (h : begL l sc ≠ 0) : nameL l sc=tailL l sc:=by
 have ho : onL l sc=begL l sc:=by unfold onL;rw [if_pos h]
 rw [tailL_eq,ho,if_neg h]
 unfold nameL
 rw [if_neg h]
theorem nameL_pos (l : Bs) (sc : Bool) : 0 < nameL l sc ↔ begL l sc ≠ 0:=by
 unfold nameL
 split <;> simp_all
 omega
theorem inside_any (b bb : Nat) (r : Int) (sc : Bool) (w : World) (hx : w.cell? ⟨bb,0,none⟩=some (.pointer (some ⟨b,0,none⟩))) (hc : w.cell? ⟨b,2,none⟩=some (.bool sc)) :
 Calls Tryz.prog 123 #[.int .i32 r,.pointer (some ⟨bb,0,none⟩)] w fun e w'=>e = .returned (.bool (!onB r sc))∧w'=w:=by
 have hbg:=begins_own b r sc w hc
 have hd:=digit_any r w
 unfold onB
 cases h1 : begB r sc
 ·rw [h1] at hbg
  go_enter Tryz.func123,Tryz.ntmps123
  go_wp2_with (first
   | (go_at_call 102;refine hbg.mono ?_;rintro e W ⟨rfl,rfl⟩)
   | (go_at_call 104;refine hd.mono ?_;rintro e W ⟨rfl,rfl⟩))
  go_ret
  exact ⟨by simp,rfl⟩
 ·rw [h1] at hbg
  go_enter Tryz.func123,Tryz.ntmps123
  go_wp2_with (go_at_call 102;refine hbg.mono ?_;rintro e W ⟨rfl,rfl⟩)
  go_ret
  exact ⟨by simp,rfl⟩
def ixL (l : Bs) (sc : Bool) : Int:=if tailL l sc=l.length then -1 else (tailL l sc : Int)
theorem indexFunc_own (b bb : Nat) (s : ByteArray) (sc : Bool) (w : World) (hx : w.cell? ⟨bb,0,none⟩=some (.pointer (some ⟨b,0,none⟩))) (hc : w.cell? ⟨b,2,none⟩=some (.bool sc)) :
 Calls Tryz.prog 139 #[.string s,.func (.func 123) #[] #[.pointer (some ⟨bb,0,none⟩)],.bool true] w fun e w'=>e = .returned (.int .i64 (ixL s.data.toList sc))∧Below w.heap.size w w':=by
 have hsl : Hid (s.size=s.data.toList.length):=Lib.size_eq s
 have hltx:=World.block_lt_of_cell? w _ hx
 have hltc:=World.block_lt_of_cell? w _ hc
 go_enter Tryz.func139,Tryz.ntmps139
 go_wp2
 go_loopw [] (fun wr=>∃ pos : Nat,wr.heap[w.heap.size]?=some (.stringIter s pos)∧Below w.heap.size w wr∧pos ≤ s.size∧Hid (tailL s.data.toList sc=pos+tailL (s.data.toList.drop pos) sc)) (fun wr=>s.size - wr.iterPos w.heap.size)
 case atStart=>exact ⟨0,World.iter_heap w s 0,(Below.refl _ w).alloc (Nat.le_refl _) _,Nat.zero_le _,by simp [Hid]⟩
 case round =>
  obtain ⟨pos,hit,hbw,hps,hh⟩:=hrel
  by_cases hp : pos < s.size
  ·have hnx : ∀ ty,(Instr.next (.pointer (some ⟨w.heap.size,0,none⟩)) true ty).run Tryz.prog wr=_:=fun ty=>run_next_dec_at wr w.heap.size s pos ty hit hp
   have hne:=drop_ne s pos hp
   have hwd:=(decL_width (s.data.toList.drop pos)).1
   have hwl:=width_le s pos hp
   have hit2:=Lib.iterAt_heap wr w.heap.size s pos (pos+(decL (s.data.toList.drop pos)).2) hit
   have hbw2:=Lib.below_iterAt hbw (k:=w.heap.size) (Nat.le_refl _) s (pos+(decL (s.data.toList.drop pos)).2)
   have hod:=onL_dec (s.data.toList.drop pos) sc hne
   have hte:=tailL_eq (s.data.toList.drop pos) sc
   have hmeas : ∀ W : World,W.heap[w.heap.size]?=some (.stringIter s (pos+(decL (s.data.toList.drop pos)).2))→s.size - W.iterPos w.heap.size < s.size - wr.iterPos w.heap.size:=by
    intro W hW
    simp only [World.iterPos,hW,hit]
    omega
   obtain ⟨W2,hW2⟩ : ∃ W2,W2=wr.iterAt w.heap.size s (pos+(decL (s.data.toList.drop pos)).2):=⟨_,rfl⟩
   rw [← hW2] at hit2 hbw2
   have hnx2 : ∀ ty,(Instr.next (.pointer (some ⟨w.heap.size,0,none⟩)) true ty).run Tryz.prog wr = .ok (.tuple #[.bool true,.int .i64 pos,.int .i32 (decL (s.data.toList.drop pos)).1]) W2:=fun ty=>by rw [hW2];exact hnx ty
   clear hnx hW2
   have hin:=inside_any b bb ((decL (s.data.toList.drop pos)).1 : Nat) sc W2 ((hbw2.cell (p:=⟨bb,0,none⟩) hltx).trans hx) ((hbw2.cell (p:=⟨b,2,none⟩) hltc).trans hc)
   cases ho : onB ((decL (s.data.toList.drop pos)).1 : Nat) sc
   ·rw [ho] at hin hod
    have HR : Hid (ixL s.data.toList sc=(pos : Int)):=by
     show _=_
     have h0 : onL (s.data.toList.drop pos) sc=0:=hod
     rw [if_pos h0] at hte
     unfold ixL
     rw [hh.out,hte,if_neg (by rw [← hsl.out];omega)]
     rfl
    clear hh hte hod ho hne hwd hwl hmeas
    generalize (decL (s.data.toList.drop pos)).1=R at *
    generalize (decL (s.data.toList.drop pos)).2=K at *
    go_wp2_with (go_at_call 123;refine hin.mono ?_;rintro e W ⟨rfl,rfl⟩)
    go_ret
    exact ⟨by rw [HR.out];rfl,hbw2⟩
   ·rw [ho] at hin hod
    have HR : Hid (tailL s.data.toList sc=(pos+(decL (s.data.toList.drop pos)).2)+tailL (s.data.toList.drop (pos+(decL (s.data.toList.drop pos)).2)) sc):=by
     show _=_
     have h0 : onL (s.data.toList.drop pos) sc=(decL (s.data.toList.drop pos)).2:=hod
     rw [h0,if_neg (by omega),List.drop_drop] at hte
     rw [hh.out,hte]
     omega
    clear hh hte hod ho hne hwd
    generalize (decL (s.data.toList.drop pos)).1=R at *
    generalize (decL (s.data.toList.drop pos)).2=K at *
    go_wp2_with (go_at_call 123;refine hin.mono ?_;rintro e W ⟨rfl,rfl⟩)
    go_roundw
    case rel=>exact ⟨pos+K,hit2,hbw2,hwl,HR⟩
    case measure=>exact hmeas _ hit2
  ·have hnx : ∀ ty,(Instr.next (.pointer (some ⟨w.heap.size,0,none⟩)) true ty).run Tryz.prog wr=_:=fun ty=>Lib.run_next_end_at wr w.heap.size s pos ty hit hp
   have HR : Hid (ixL s.data.toList sc = -1):=by
    show _=_
    have h0:=tailL_le s.data.toList sc
    have h1:=hh.out
    have h2:=hsl.out
    unfold ixL
    rw [if_pos (by omega)]
   clear hh
   go_wp2
   go_ret
   exact ⟨by rw [HR.out];rfl,hbw⟩
theorem IndexFunc_own (b bb : Nat) (s : ByteArray) (sc : Bool) (w : World) (hx : w.cell? ⟨bb,0,none⟩=some (.pointer (some ⟨b,0,none⟩))) (hc : w.cell? ⟨b,2,none⟩=some (.bool sc)) :
 Calls Tryz.prog 122 #[.string s,.func (.func 123) #[] #[.pointer (some ⟨bb,0,none⟩)]] w fun e w'=>e = .returned (.int .i64 (ixL s.data.toList sc))∧Below w.heap.size w w':=by
 have hi:=indexFunc_own b bb s sc w hx hc
 generalize ixL s.data.toList sc=I at *
 go_enter Tryz.func122,Tryz.ntmps122
 go_wp2_with (go_at_call 139;refine hi.mono ?_;rintro e W ⟨rfl,hb⟩)
 go_ret
 exact ⟨rfl,hb⟩
theorem isWordL_any (s : ByteArray) (w : World) (he : Env w) : Calls Tryz.prog 124 #[.string s] w fun e w'=>e = .returned (.bool (wordB s.data.toList))∧w'=w:=by
 have hl19 : wordsL.length=19:=rfl
 obtain ⟨tw,fw,hw⟩:=he.wrd
 have hwz : (Tryz.prog.info? 143).map (·.size)=some (textCells wordsL).toArray.size:=by kernel_rfl
 have hix:=fun (k : Nat) (q : Bs) (hq : wordsL[k]?=some q) (W : World)=>index_row (P:=Tryz.prog) W 143 9 19 wordsL k q Tryz.underlying143 rfl hq (Tryz.isAgg9 W) (Tryz.sizeOf9 W)
 generalize (textCells wordsL).toArray=V at *
 go_enter Tryz.func124,Tryz.ntmps124
 go_wp2_with (refine wpList_load_row rfl 143 _ rfl 4 rfl tw _ fw _ hw Tryz.underlying143 rfl hwz ?_)
 go_loopw [6] (fun v6 W'=>∃ k : Nat,v6 = .int .i64 k∧k ≤ 19∧W'=w∧Hid (∀ q ∈ wordsL.take k,q ≠ s.data.toList)) (fun v6 _=>19 - (intOf v6).toNat)
 case atStart=>exact ⟨0,rfl,by omega,rfl,by intro q hq;simp at hq⟩
 case round =>
  obtain ⟨k,rfl,hk,rfl,hh⟩:=hrel
  by_cases hkl : k < 19
  ·have hk2 : (k : Int) < 19:=by omega
   obtain ⟨q,hq⟩ : ∃ q,wordsL[k]?=some q:=⟨_,List.getElem?_eq_getElem (by rw [hl19];exact hkl)⟩
   have hc:=hix k q hq
   have heq : (s.toList == (⟨q.toArray⟩ : ByteArray).toList)=(s.data.toList == q):=by rw [Lib.toList_data,Lib.toList_data]
   have HQ : Hid (wordsL[k]?=some q):=hq
   clear hq hix
   generalize (⟨q.toArray⟩ : ByteArray)=Q at *
   cases hqe : (s.data.toList == q)
   ·rw [hqe] at heq
    have hne : q ≠ s.data.toList:=by
     intro e;rw [e] at hqe;simp at hqe
    have hh2 : Hid (∀ x ∈ wordsL.take (k+1),x ≠ s.data.toList):=by
     intro x hx
     rw [List.take_add_one,HQ.out] at hx
     rcases List.mem_append.1 hx with hx | hx
     ·exact hh.out x hx
     ·rw [show x=q from by simpa using hx];exact hne
    clear hh hqe hne
    go_wp2
    go_roundw
    case rel=>exact ⟨k+1,by simp,by omega,by simp,hh2⟩
    case measure=>simp [intOf];omega
   ·rw [hqe] at heq
    have hm : Hid (wordB s.data.toList=true):=by
     have h1 : s.data.toList=q:=by simpa using hqe
     have h2:=List.mem_of_getElem? HQ.out
     rw [← h1] at h2
     show wordsL.contains s.data.toList=_
     simpa using h2
    clear hh hqe
    go_wp2
    go_ret
    exact ⟨ret_bool hm.out.symm,rfl⟩
  ·have hk2 : ¬ (k : Int) < 19:=by omega
   have hm : Hid (wordB s.data.toList=false):=by
    have h1:=hh.out
    rw [List.take_of_length_le (by rw [hl19];omega)] at h1
    show wordsL.contains s.data.toList=_
    have : s.data.toList ∉ wordsL:=fun hm=>h1 _ hm rfl
    simpa using this
   clear hh hix
   go_wp2
   go_ret
   exact ⟨ret_bool hm.out.symm,rfl⟩
end Go.Proofs.YthfkfbcopinmiaaGreatDoor
set_option linter.unusedVariables false
namespace Go.Proofs.YthfkfbcopinmiaaGreatDoor
open Go.RowKit
theorem lexF_err : ∀ (f a : Nat) (l : Bs) (sc : Bool) (c : Nat × Nat),lexF f a l sc = .error c→c.2=40 ∨ c.2=41
 | 0,a,l,sc,c,h=>by cases h
 | f+1,a,l,sc,c,h=>by
  unfold lexF at h
  split at h
  ·cases h;exact .inl rfl
  ·split at h
   ·cases h
   ·cases hx : nextL (l.drop (pastL l).1) sc with
    | error e =>
     rw [hx] at h
     cases h
     exact next_err hx
    | ok x =>
     rw [hx] at h
     simp only at h
     cases hy : lexF f (a+(pastL l).1+x.2) (l.drop ((pastL l).1+x.2)) sc with
     | error d =>
      rw [hy] at h
      cases h
      exact lexF_err f _ _ sc _ hy
     | ok ts=>rw [hy] at h;cases h
theorem heap_at2 {W W2 : World} {n : Nat} {o : Obj} (hb : Below W.heap.size W W2) (h : W.heap[n]?=some o) : W2.heap[n]?=some o :=
 (hb.block n (Array.getElem?_eq_some_iff.1 h).1).trans h
end Go.Proofs.YthfkfbcopinmiaaGreatDoor
namespace Go.Proofs.YthfkfbcopinmiaaGreatDoor
open Go.RowKit
end Go.Proofs.YthfkfbcopinmiaaGreatDoor
