/- Own text. The document's words,signs and numbers. The contract of the document's Encode: a rune's bytes. What is said by a text in quotes: reading back what was quoted. A text in quotes says the text,whatever stands behind;no byte of it is below 32. The contract of the document's function that cuts a text into runes. -/
import Derived.Test.YthfkfbcopinmiaaGreatDoorGk24
import Derived.Laws.OwnMore
import Derived.OwnWalk
import Derived.Below
import Derived.Lib.Small
import Derived.Test.YthfkfbcopinmiaaGreatDoorGk22
import Derived.Lib.RuneBytes
import Derived.Test.YthfkfbcopinmiaaGreatDoorGk23
import Derived.Test.YthfkfbcopinmiaaGreatDoorGk21
import Derived.Maps.AppendAt
set_option linter.unusedVariables false
set_option maxRecDepth 100000
set_option maxHeartbeats 4000000
namespace Go.Proofs.YthfkfbcopinmiaaGreatDoor
open Go.RowKit
def textCells (l : List Bs) : List Value:=l.map fun b=>.string ⟨b.toArray⟩
theorem text_at {w : World} {base g n c : Nat} {l : List Bs} (h : w.ownsRow base 9 1 (.slice (some ⟨g,0,none⟩) n c) n (textCells l)) {i : Nat} {q : Bs} (hi : l[i]?=some q) (hn : i < n) : w.cell? ⟨g,i,none⟩=some (.string ⟨q.toArray⟩):=by
 rw [h.cellAt i (by omega)]
 simp [textCells,hi]
theorem words_any (w : World) : Calls Tryz.prog 62 #[] w fun e w'=>e = .returned (.slice (some ⟨w.heap.size,0,none⟩) 19 19)∧w'.ownsRow w.heap.size 9 1 (.slice (some ⟨w.heap.size,0,none⟩) 19 19) 19 (textCells wordsL)∧Below w.heap.size w w':=by
 go_enter Tryz.func62,Tryz.ntmps62
 go_wp2
 go_ret
 exact ⟨rfl,World.ownsRow_lit w _ 19 (Nat.le_refl _) (by unfold maxLen;decide) rfl,(Below.refl _ w).alloc (Nat.le_refl _) _⟩
theorem signs_any (w : World) : Calls Tryz.prog 30 #[] w fun e w'=>e = .returned (.slice (some ⟨w.heap.size,0,none⟩) 28 28)∧w'.ownsRow w.heap.size 9 1 (.slice (some ⟨w.heap.size,0,none⟩) 28 28) 28 (textCells signsL)∧Below w.heap.size w w':=by
 go_enter Tryz.func30,Tryz.ntmps30
 go_wp2
 go_ret
 exact ⟨rfl,World.ownsRow_lit w _ 28 (Nat.le_refl _) (by unfold maxLen;decide) rfl,(Below.refl _ w).alloc (Nat.le_refl _) _⟩
theorem eq_bytes (q : Bs) (s : ByteArray) : ((⟨q.toArray⟩ : ByteArray).toList == s.toList)=(q == s.data.toList):=by rw [Lib.toList_data,Lib.toList_data]
theorem word_any (s : ByteArray) (w : World) : Calls Tryz.prog 26 #[.string s] w fun e w'=>e = .returned (.bool (wordB s.data.toList))∧Below w.heap.size w w':=by
 have hl19 : wordsL.length=19:=rfl
 go_enter Tryz.func26,Tryz.ntmps26
 go_wp2_with (go_at_call 62;refine (words_any _).mono ?_;rintro e W ⟨rfl,ho,hb⟩)
 go_loopw [4] (fun v4 W'=>∃ k : Nat,v4 = .int .i64 k∧k ≤ 19∧W'=W∧Hid (∀ q ∈ wordsL.take k,q ≠ s.data.toList)) (fun v4 _=>19 - (intOf v4).toNat)
 case atStart=>exact ⟨0,rfl,by omega,rfl,by intro q hq;simp at hq⟩
 case round =>
  obtain ⟨k,rfl,hk,rfl,hh⟩:=hrel
  by_cases hkl : k < 19
  ·have hk2 : (k : Int) < 19:=by omega
   obtain ⟨q,hq⟩ : ∃ q,wordsL[k]?=some q:=⟨_,List.getElem?_eq_getElem (by rw [hl19];exact hkl)⟩
   have hc:=text_at ho hq hkl
   have heq:=eq_bytes q s
   have HQ : Hid (wordsL[k]?=some q):=hq
   clear hq
   generalize (⟨q.toArray⟩ : ByteArray)=Q at *
   cases he : (q == s.data.toList)
   ·rw [he] at heq
    have hne : q ≠ s.data.toList:=by simpa using he
    have hh2 : Hid (∀ x ∈ wordsL.take (k+1),x ≠ s.data.toList):=by
     intro x hx
     rw [List.take_add_one,HQ.out] at hx
     rcases List.mem_append.1 hx with hx | hx
     ·exact hh.out x hx
     ·rw [show x=q from by simpa using hx];exact hne
    clear hh he hne
    go_wp2
    go_roundw
    case rel=>exact ⟨k+1,by simp,by omega,by simp,hh2⟩
    case measure=>simp [intOf];omega
   ·rw [he] at heq
    have hm : Hid (wordB s.data.toList=true):=by
     have h1 : q=s.data.toList:=by simpa using he
     have h2:=List.mem_of_getElem? HQ.out
     rw [h1] at h2
     show wordsL.contains s.data.toList=_
     simpa using h2
    clear hh he
    go_wp2
    go_ret
    exact ⟨ret_bool hm.out.symm,hb⟩
  ·have hk2 : ¬ (k : Int) < 19:=by omega
   have hm : Hid (wordB s.data.toList=false):=by
    have h1:=hh.out
    rw [List.take_of_length_le (by rw [hl19];omega)] at h1
    show wordsL.contains s.data.toList=_
    have : s.data.toList ∉ wordsL:=fun hm=>h1 _ hm rfl
    simpa using this
   clear hh
   go_wp2
   go_ret
   exact ⟨ret_bool hm.out.symm,hb⟩
theorem digsL_at {l : Bs} {k : Nat} (hk : k ≤ l.length) (h1 : ∀ j,j < k→digC (atL l j)=true) (h2 : k=l.length ∨ digC (atL l k)=false) : digsL l=l.take k:=by
 induction k generalizing l with
 | zero =>
  cases l with
  | nil=>rfl
  | cons c r =>
   have : digC c.toNat=false:=by
    rcases h2 with h | h
    ·simp at h
    ·simpa [atL] using h
   simp [digsL,this]
 | succ k ih =>
  cases l with
  | nil=>simp at hk
  | cons c r =>
   have h0 : digC c.toNat=true:=by simpa [atL] using h1 0 (by omega)
   have:=ih (l:=r) (by simpa using hk) (fun j hj=>by simpa [atL] using h1 (j+1) (by omega)) (by
    rcases h2 with h | h
    ·exact .inl (by simpa using h)
    ·exact .inr (by simpa [atL] using h))
   unfold digsL at this ⊢
   simp only [List.takeWhile_cons,h0,if_true,List.take_succ_cons,this]
theorem decN_succ (l : Bs) (k : Nat) (hk : k < l.length) : decN 0 (l.take (k+1))=10 * decN 0 (l.take k)+(atL l k - 48):=by
 unfold decN atL
 rw [List.take_add_one,List.getElem?_eq_getElem hk,List.foldl_append]
 simp [List.getD,List.getElem?_eq_getElem hk]
def numbRes : Nx→Ending
 | .ok x=>.returned (.tuple #[.int .i64 x.1.2.2,.int .i64 (x.2 : Nat),.int .i64 0])
 | .error e=>.returned (.tuple #[.int .i64 0,.int .i64 0,.int .i64 (e : Nat)])
def NumAt (l : Bs) (k : Nat) (n : Nat) (gr : Bool) : Prop:=k ≤ l.length∧(∀ j,j < k→digC (atL l j)=true)∧n ≤ 9007199254740999∧(gr=false→n=decN 0 (l.take k)∧n ≤ 9007199254740991)∧(gr=true→9007199254740991 < decN 0 (l.take k))
theorem NumAt.big {l : Bs} {k n : Nat} {gr : Bool} (h : NumAt l k n gr) (hk : k < l.length) (hd : digC (atL l k)=true) (hn : 900719925474099 < n) : NumAt l (k+1) n true:=by
 obtain ⟨h1,h2,h3,h4,h5⟩:=h
 refine ⟨by omega,fun j hj=>?_,h3,fun h=>(by cases h),fun _=>?_⟩
 ·by_cases e : j=k
  ·subst e;exact hd
  ·exact h2 j (by omega)
 ·rw [decN_succ l k hk]
  cases gr
  ·have:=(h4 rfl).1;omega
  ·have:=h5 rfl;omega
theorem NumAt.go {l : Bs} {k n : Nat} {gr : Bool} (h : NumAt l k n gr) (hk : k < l.length) (hd : digC (atL l k)=true) (hn : ¬ 900719925474099 < n) : NumAt l (k+1) (10 * n+(atL l k - 48)) (gr || decide (9007199254740991 < 10 * n+(atL l k - 48))):=by
 obtain ⟨h1,h2,h3,h4,h5⟩:=h
 have hd9 : atL l k - 48 ≤ 9:=by unfold digC at hd;simp at hd;omega
 refine ⟨by omega,fun j hj=>?_,by omega,fun h=>?_,fun h=>?_⟩
 ·by_cases e : j=k
  ·subst e;exact hd
  ·exact h2 j (by omega)
 ·simp at h
  rw [decN_succ l k hk,← (h4 h.1).1]
  exact ⟨rfl,by omega⟩
 ·rw [decN_succ l k hk]
  cases gr
  ·simp at h
   rw [← (h4 rfl).1]
   omega
  ·have:=h5 rfl;omega
theorem number_any4 (s : ByteArray) (sc : Bool) (w : World) (hs : s.size ≤ 140737488355328) : Calls Tryz.prog 28 #[.string s,.bool sc] w fun e w'=>e=numbRes (numbL s.data.toList sc)∧w'=w:=by
 have hsl : Hid (s.size=s.data.toList.length):=Lib.size_eq s
 go_enter Tryz.func28,Tryz.ntmps28
 go_wp2
 go_loopw [7,8,9] (fun v7 v8 v9 W=>∃ (k n : Nat) (gr : Bool),v7 = .int .i64 k∧v8 = .int .i64 n∧v9 = .bool gr∧k ≤ s.size∧n ≤ 9007199254740999∧W=w∧Hid (NumAt s.data.toList k n gr)) (fun v7 _ _ _=>s.size - (intOf v7).toNat)
 case atStart=>exact ⟨0,0,false,rfl,rfl,rfl,Nat.zero_le _,by omega,rfl,by omega,fun j hj=>by omega,by omega,fun _=>⟨rfl,by omega⟩,fun h=>by cases h⟩
 case round =>
  obtain ⟨k,n,gr,rfl,rfl,rfl,hk,hn,rfl,hh⟩:=hrel
  by_cases hkd : k < s.size∧digC (atL s.data.toList k)=true
  ·obtain ⟨hkl,hd⟩:=hkd
   have hkl2 : (k : Int) < (s.size : Int):=by omega
   have hby:=byteI s k hkl
   have hd1:=fun W=>rdigit_any (atL s.data.toList k) W
   rw [hd] at hd1
   have hdd : 48 ≤ atL s.data.toList k∧atL s.data.toList k ≤ 57:=by unfold digC at hd;simpa using hd
   by_cases hbig : 900719925474099 < n
   ·have hb2 : (900719925474099 : Int) < (n : Int):=by omega
    have HR : Hid (NumAt s.data.toList (k+1) n true):=hh.out.big (by rw [← hsl.out];exact hkl) hd hbig
    clear hh hd
    generalize atL s.data.toList k=c at *
    go_wp2_with (go_at_call 27;refine (hd1 _).mono ?_;rintro e W ⟨rfl,rfl⟩)
    go_roundw
    case rel=>exact ⟨k+1,n,true,by simp,rfl,rfl,by omega,hn,by simp,HR⟩
    case measure=>simp [intOf];omega
   ·have hb2 : ¬ (900719925474099 : Int) < (n : Int):=by omega
    have HR : Hid (NumAt s.data.toList (k+1) (10 * n+(atL s.data.toList k - 48)) (gr || decide (9007199254740991 < 10 * n+(atL s.data.toList k - 48)))):=hh.out.go (by rw [← hsl.out];exact hkl) hd hbig
    clear hh hd
    generalize atL s.data.toList k=c at *
    go_wp2_with (go_at_call 27;refine (hd1 _).mono ?_;rintro e W ⟨rfl,rfl⟩)
    ·have hg : gr=true:=by assumption
     rw [hg] at HR
     go_roundw
     case rel=>exact ⟨k+1,10 * n+(c - 48),true,by simp,by congr 1;omega,rfl,by omega,by omega,by simp,HR⟩
     case measure=>simp [intOf];omega
    ·have hg : ¬ gr=true:=by assumption
     have hg2 : gr=false:=by simpa using hg
     rw [hg2] at HR
     go_roundw
     case rel =>
      refine ⟨k+1,10 * n+(c - 48),_,by simp,by congr 1;omega,rfl,by omega,by omega,by simp,?_⟩
      have e : decide ((9007199254740991 : Int) < 10 * (n : Int)+((c : Int) - 48))=decide (9007199254740991 < 10 * n+(c - 48)):=by
       rw [Bool.eq_iff_iff]
       simp
       omega
      rw [e]
      exact HR
     case measure=>simp [intOf];omega
  ·have hend : digsL s.data.toList=s.data.toList.take k:=digsL_at hh.out.1 hh.out.2.1 (by
    by_cases hkl : k < s.size
    ·exact .inr (by simpa using fun h=>hkd ⟨hkl,h⟩)
    ·exact .inl (by rw [← hsl.out];omega))
   have hdl : (digsL s.data.toList).length=k:=by
    rw [hend,List.length_take,← hsl.out];omega
   have HV : Hid ((gr=false→n=decN 0 (digsL s.data.toList)∧n ≤ 9007199254740991)∧(gr=true→9007199254740991 < decN 0 (digsL s.data.toList))):=by
    rw [hend];exact ⟨hh.out.2.2.2.1,hh.out.2.2.2.2⟩
   have HL : Hid (numbL s.data.toList sc=if (1 < k∧atL s.data.toList 0=48) ∨ 0 < begL (s.data.toList.drop k) sc then .error 40 else if 9007199254740991 < decN 0 (digsL s.data.toList) then .error 41 else .ok ((3,[],(decN 0 (digsL s.data.toList) : Int)),k)):=by
    show _=_
    unfold numbL
    rw [hdl]
   clear hend hdl hh
   have hsr:=drop_run s k hk
   have hxl : (s.extract k s.size).data.toList=s.data.toList.drop k:=drop_extract s k
   have hb1:=fun W=>begins_any (s.extract k s.size) sc W (by unfold maxLen;rw [Lib.size_eq,hxl,List.length_drop,← Lib.size_eq];omega)
   rw [hxl] at hb1
   generalize s.extract k s.size=X at *
   have hd1:=fun W=>rdigit_any (atL s.data.toList k) W
   have hex : (((k : Int) < (s.size : Int))∧digC (atL s.data.toList k)=false∧∀ h : k < s.size,((s[k].toNat : Nat) : Int)=((atL s.data.toList k : Nat) : Int)) ∨ ¬ (k : Int) < (s.size : Int):=by
    by_cases hkl : k < s.size
    ·exact .inl ⟨by omega,by simpa using fun h=>hkd ⟨hkl,h⟩,fun h=>byteI s k h⟩
    ·exact .inr (by omega)
   clear hkd
   have hcase : ((1 : Int) < (k : Int)∧atL s.data.toList 0=48) ∨ ((1 : Int) < (k : Int)∧atL s.data.toList 0 ≠ 48) ∨ ¬ (1 : Int) < (k : Int):=by
    by_cases h1 : (1 : Int) < (k : Int)
    ·by_cases h2 : atL s.data.toList 0=48
     ·exact .inl ⟨h1,h2⟩
     ·exact .inr (.inl ⟨h1,h2⟩)
    ·exact .inr (.inr h1)
   generalize begL (s.data.toList.drop k) sc=bg at *
   rcases hcase with ⟨hk1,h48⟩ | hno
   ·have HR : Hid (numbL s.data.toList sc = .error 40):=by
     show _=_
     rw [HL.out,if_pos (.inl ⟨by omega,h48⟩)]
    have hy0:=byteI s 0 (by omega)
    rw [h48] at hy0
    clear HL HV
    rcases hex with ⟨x1,x2,x3⟩ | x1
    ·have x4:=x3 (by omega)
     rw [x2] at hd1
     clear x2 x3
     generalize atL s.data.toList k=c at *
     go_wp2_with (go_at_call 27;refine (hd1 _).mono ?_;rintro e W ⟨rfl,rfl⟩)
     go_ret3
     exact ⟨by rw [HR.out];rfl,rfl⟩
    ·go_wp2
     go_ret3
     exact ⟨by rw [HR.out];rfl,rfl⟩
   ·have hn1 : ¬ (1 < k∧atL s.data.toList 0=48):=fun h=>by
     rcases hno with ⟨_,h2⟩ | h2
     ·exact h2 h.2
     ·omega
    have hz : ((1 : Int) < (k : Int)∧∀ h : 0 < s.size,(((s[0].toNat : Nat) : Int) == 48)=false) ∨ ¬ (1 : Int) < (k : Int):=by
     rcases hno with ⟨h1,h2⟩ | h2
     ·exact .inl ⟨h1,fun h=>int_eqb (by rw [byteI s 0 h];omega)⟩
     ·exact .inr h2
    clear hno
    by_cases hbg : 0 < bg
    ·have hbg2 : (0 : Int) < (bg : Int):=by omega
     have HR : Hid (numbL s.data.toList sc = .error 40):=by
      show _=_
      rw [HL.out,if_pos (.inr hbg)]
     clear HL HV
     rcases hz with ⟨z1,z2⟩ | z1
     ·have z3:=z2 (by omega)
      clear z2
      rcases hex with ⟨x1,x2,x3⟩ | x1
      ·have x4:=x3 (by omega)
       rw [x2] at hd1
       clear x2 x3
       generalize atL s.data.toList k=c at *
       go_wp2_with (first
        | (go_at_call 27;refine (hd1 _).mono ?_;rintro e W ⟨rfl,rfl⟩)
        | (go_at_call 61;refine (hb1 _).mono ?_;rintro e W ⟨rfl,rfl⟩))
       go_ret3
       exact ⟨by rw [HR.out];rfl,rfl⟩
      ·go_wp2_with (go_at_call 61;refine (hb1 _).mono ?_;rintro e W ⟨rfl,rfl⟩)
       go_ret3
       exact ⟨by rw [HR.out];rfl,rfl⟩
     ·rcases hex with ⟨x1,x2,x3⟩ | x1
      ·have x4:=x3 (by omega)
       rw [x2] at hd1
       clear x2 x3
       generalize atL s.data.toList k=c at *
       go_wp2_with (first
        | (go_at_call 27;refine (hd1 _).mono ?_;rintro e W ⟨rfl,rfl⟩)
        | (go_at_call 61;refine (hb1 _).mono ?_;rintro e W ⟨rfl,rfl⟩))
       go_ret3
       exact ⟨by rw [HR.out];rfl,rfl⟩
      ·go_wp2_with (go_at_call 61;refine (hb1 _).mono ?_;rintro e W ⟨rfl,rfl⟩)
       go_ret3
       exact ⟨by rw [HR.out];rfl,rfl⟩
    ·have hbg0 : bg=0:=by omega
     subst hbg0
     have HR : Hid (numbRes (numbL s.data.toList sc)=if gr then .returned (.tuple #[.int .i64 0,.int .i64 0,.int .i64 41]) else .returned (.tuple #[.int .i64 (n : Int),.int .i64 (k : Int),.int .i64 0])):=by
      show _=_
      rw [HL.out,if_neg (fun h=>h.elim hn1 (by omega))]
      cases gr
      ·have:=HV.out.1 rfl
       rw [if_neg (by omega),← this.1]
       rfl
      ·rw [if_pos (HV.out.2 rfl)]
       rfl
     clear HL HV hn1
     cases gr
     all_goals
      rcases hz with ⟨z1,z2⟩ | z1
      ·have z3:=z2 (by omega)
       clear z2
       rcases hex with ⟨x1,x2,x3⟩ | x1
       ·have x4:=x3 (by omega)
        rw [x2] at hd1
        clear x2 x3
        generalize atL s.data.toList k=c at *
        go_wp2_with (first
         | (go_at_call 27;refine (hd1 _).mono ?_;rintro e W ⟨rfl,rfl⟩)
         | (go_at_call 61;refine (hb1 _).mono ?_;rintro e W ⟨rfl,rfl⟩))
        go_ret3
        exact ⟨by rw [HR.out];rfl,rfl⟩
       ·go_wp2_with (go_at_call 61;refine (hb1 _).mono ?_;rintro e W ⟨rfl,rfl⟩)
        go_ret3
        exact ⟨by rw [HR.out];rfl,rfl⟩
      ·rcases hex with ⟨x1,x2,x3⟩ | x1
       ·have x4:=x3 (by omega)
        rw [x2] at hd1
        clear x2 x3
        generalize atL s.data.toList k=c at *
        go_wp2_with (first
         | (go_at_call 27;refine (hd1 _).mono ?_;rintro e W ⟨rfl,rfl⟩)
         | (go_at_call 61;refine (hb1 _).mono ?_;rintro e W ⟨rfl,rfl⟩))
        go_ret3
        exact ⟨by rw [HR.out];rfl,rfl⟩
       ·go_wp2_with (go_at_call 61;refine (hb1 _).mono ?_;rintro e W ⟨rfl,rfl⟩)
        go_ret3
        exact ⟨by rw [HR.out];rfl,rfl⟩
theorem conv_nums (W : World) (xs : List Int) (t : TypeId) :
 (convert 96 9 (.slice (some ⟨W.heap.size,0,none⟩) xs.length xs.length)).run Tryz.prog (W.alloc (.cells (xs.map (Value.int .u8)).toArray t)) = .ok (.string (strOfNums xs)) (W.alloc (.cells (xs.map (Value.int .u8)).toArray t)):=by
 refine run_convert_bytes_arg _ 96 5 Tryz.underlying96 Tryz.underlying5 W.heap.size 0 xs.length xs.length xs rfl ?_ 9 Tryz.underlying9
 intro i hi
 have hb : (W.alloc (.cells (xs.map (Value.int .u8)).toArray t)).heap[W.heap.size]?=some (.cells (xs.map (Value.int .u8)).toArray t):=by
  show (W.heap.push _)[W.heap.size]?=_
  simp
 simp only [World.cell?,hb]
 simp [hi]
theorem conv_1 (W : World) (t : TypeId) (a : Int) : (convert 96 9 (.slice (some ⟨W.heap.size,0,none⟩) 1 1)).run Tryz.prog (W.alloc (.cells #[.int .u8 a] t)) = .ok (.string ⟨#[UInt8.ofNat a.toNat]⟩) (W.alloc (.cells #[.int .u8 a] t)):=conv_nums W [a] t
theorem conv_2 (W : World) (t : TypeId) (a b : Int) : (convert 96 9 (.slice (some ⟨W.heap.size,0,none⟩) 2 2)).run Tryz.prog (W.alloc (.cells #[.int .u8 a,.int .u8 b] t)) = .ok (.string ⟨#[UInt8.ofNat a.toNat,UInt8.ofNat b.toNat]⟩) (W.alloc (.cells #[.int .u8 a,.int .u8 b] t)):=conv_nums W [a,b] t
theorem conv_3 (W : World) (t : TypeId) (a b c : Int) : (convert 96 9 (.slice (some ⟨W.heap.size,0,none⟩) 3 3)).run Tryz.prog (W.alloc (.cells #[.int .u8 a,.int .u8 b,.int .u8 c] t)) = .ok (.string ⟨#[UInt8.ofNat a.toNat,UInt8.ofNat b.toNat,UInt8.ofNat c.toNat]⟩) (W.alloc (.cells #[.int .u8 a,.int .u8 b,.int .u8 c] t)):=conv_nums W [a,b,c] t
theorem conv_4 (W : World) (t : TypeId) (a b c d : Int) : (convert 96 9 (.slice (some ⟨W.heap.size,0,none⟩) 4 4)).run Tryz.prog (W.alloc (.cells #[.int .u8 a,.int .u8 b,.int .u8 c,.int .u8 d] t)) = .ok (.string ⟨#[UInt8.ofNat a.toNat,UInt8.ofNat b.toNat,UInt8.ofNat c.toNat,UInt8.ofNat d.toNat]⟩) (W.alloc (.cells #[.int .u8 a,.int .u8 b,.int .u8 c,.int .u8 d] t)):=conv_nums W [a,b,c,d] t
theorem encode_any (v : Int) (w : World) (h0 : 0 ≤ v) (h1 : v ≤ 1114111) (hs : v < 55296 ∨ 57344 ≤ v) :
 Calls Tryz.prog 117 #[.int .i64 v] w fun e w'=>e = .returned (.string ⟨(Lib.encodeRune v).toArray⟩)∧Below w.heap.size w w':=by
 by_cases c1 : v < 128
 ·have HE : Hid (Lib.encodeRuneZ v=[v]):=Lib.encodeRuneZ_one (by omega) (by omega)
  rw [Lib.encodeRune,HE.out]
  clear hs HE
  have hcv:=conv_1 w
  go_enter Tryz.func117,Tryz.ntmps117
  go_wp2
  go_ret
  exact ⟨ret_str rfl,(Below.refl _ w).alloc (Nat.le_refl _) _⟩
 by_cases c2 : v < 2048
 ·have HE : Hid (Lib.encodeRuneZ v=[192+v / 64,128+v % 64]):=Lib.encodeRuneZ_two (by omega) (by omega)
  rw [Lib.encodeRune,HE.out]
  clear hs HE
  have hcv:=conv_2 w
  go_enter Tryz.func117,Tryz.ntmps117
  go_wp2
  go_ret
  exact ⟨ret_str rfl,(Below.refl _ w).alloc (Nat.le_refl _) _⟩
 by_cases c3 : v < 65536
 ·have HE : Hid (Lib.encodeRuneZ v=[224+v / 4096,128+v / 64 % 64,128+v % 64]):=Lib.encodeRuneZ_three (by omega)
  rw [Lib.encodeRune,HE.out]
  clear hs HE
  have hcv:=conv_3 w
  go_enter Tryz.func117,Tryz.ntmps117
  go_wp2
  go_ret
  exact ⟨ret_str rfl,(Below.refl _ w).alloc (Nat.le_refl _) _⟩
 ·have HE : Hid (Lib.encodeRuneZ v=[240+v / 262144,128+v / 4096 % 64,128+v / 64 % 64,128+v % 64]):=Lib.encodeRuneZ_four (by omega) (by omega)
  rw [Lib.encodeRune,HE.out]
  clear hs HE
  have hcv:=conv_4 w
  go_enter Tryz.func117,Tryz.ntmps117
  go_wp2
  go_ret
  exact ⟨ret_str rfl,(Below.refl _ w).alloc (Nat.le_refl _) _⟩
def digs : Nat→List UInt8→Nat × Nat→Nat × Nat
 | 0,_,s=>s
 | _+1,[],s=>s
 | f+1,c :: l,(k,v)=>if hexv (c.toNat : Int) < 0 then (k,v) else digs f l (k+1,v * 16+(hexv (c.toNat : Int)).toNat)
def numL (l : List UInt8) : Option (List UInt8 × Nat) :=
 match l with
 | []=>none
 | c :: r =>
  if c.toNat ≠ 123 then none
  else if (digs 6 r (0,0)).1=0 ∨ atL r (digs 6 r (0,0)).1 ≠ 125 ∨ r.length ≤ (digs 6 r (0,0)).1 ∨ Lib.validRune ((digs 6 r (0,0)).2 : Int)=false then none
  else some (Lib.encodeRune ((digs 6 r (0,0)).2 : Int),(digs 6 r (0,0)).1+2)
end Go.Proofs.YthfkfbcopinmiaaGreatDoor
namespace Go.Proofs.YthfkfbcopinmiaaGreatDoor
theorem atL_app (p q : List UInt8) (k : Nat) (h : k < p.length) : atL (p ++ q) k=atL p k:=by
 unfold atL
 rw [List.getD_eq_getElem?_getD,List.getD_eq_getElem?_getD,List.getElem?_append_left h]
theorem take_app (p q : List UInt8) : (p ++ q).take p.length=p:=List.take_left
theorem decL_app (p q : List UInt8) (hne : p ≠ []) (hd : (decL p).2=p.length) (hs : strayL p=false) : decL (p ++ q)=decL p:=by
 have h0 : 0 < p.length:=List.length_pos_iff.2 hne
 obtain ⟨d,hdd⟩ : ∃ d,decL p=d:=⟨_,rfl⟩
 have hs' : ¬ (d.1=65533∧d.2=1):=by
  rw [strayL,hdd] at hs
  simp at hs
  intro h
  exact hs h.1 h.2
 rw [hdd] at hd ⊢
 unfold decL contL at hdd
 unfold decL contL
 rw [List.length_append]
 rw [atL_app p q 0 h0]
 split at hdd
 ·rename_i h1
  rw [if_pos h1];exact hdd
 rename_i h1
 rw [if_neg h1]
 split at hdd
 ·rename_i h2
  split at hdd
  ·rename_i h3
   subst hdd
   replace hd : 2=p.length:=hd
   rw [atL_app p q 1 (by omega)]
   simp at h2
   rw [if_pos (by simp;omega),if_pos h3]
  ·subst hdd;exact absurd ⟨rfl,rfl⟩ hs'
 rename_i h2
 split at hdd
 ·rename_i h3
  split at hdd
  ·rename_i h4
   subst hdd
   replace hd : 3=p.length:=hd
   rw [atL_app p q 1 (by omega),atL_app p q 2 (by omega)]
   simp at h3
   rw [if_neg (by simp;omega),if_pos (by simp;omega),if_pos h4]
  ·subst hdd;exact absurd ⟨rfl,rfl⟩ hs'
 rename_i h3
 split at hdd
 ·rename_i h4
  split at hdd
  ·rename_i h5
   subst hdd
   replace hd : 4=p.length:=hd
   rw [atL_app p q 1 (by omega),atL_app p q 2 (by omega),atL_app p q 3 (by omega)]
   simp at h4
   rw [if_neg (by simp;omega),if_neg (by simp;omega),if_pos (by simp;omega),if_pos h5]
  ·subst hdd;exact absurd ⟨rfl,rfl⟩ hs'
 ·subst hdd;exact absurd ⟨rfl,rfl⟩ hs'
theorem unqS_rune (p q : List UInt8) (r : Nat) (u : Unq) (pos : Nat) (hne : p ≠ []) (hd : decL p=(r,p.length)) (hs : strayL p=false) :
 unqS (scan (p ++ q)) u pos=match stepU u r with
  | none=>none
  | some u'=>if u'.st=5 then some (u'.said,pos+1) else unqS (scan q) u' (pos+p.length):=by
 have hd2:=decL_app p q hne (by rw [hd]) hs
 rw [hd] at hd2
 have hpq : p ++ q ≠ []:=by simp [hne]
 have hst : strayP (r,p)=false:=by
  rw [strayL,hd] at hs
  exact hs
 rw [scan_cons _ hpq,hd2]
 simp only
 rw [take_app,List.drop_left,unqS,hst]
 rfl
theorem dec_ascii (c : UInt8) (h : c.toNat < 128) : decL [c]=(c.toNat,1):=by
 have : atL [c] 0=c.toNat:=by simp [atL]
 rw [decL,this,if_pos h]
theorem unqS_ascii (c : UInt8) (q : List UInt8) (u : Unq) (pos : Nat) (h : c.toNat < 128) :
 unqS (scan (c :: q)) u pos=match stepU u c.toNat with
  | none=>none
  | some u'=>if u'.st=5 then some (u'.said,pos+1) else unqS (scan q) u' (pos+1):=by
 have hd:=dec_ascii c h
 exact unqS_rune [c] q c.toNat u pos (by simp) hd (by
  rw [strayL,hd]
  have : (c.toNat == 65533)=false:=by simp;omega
  simp [this])
theorem unqS_go (c : UInt8) (q : List UInt8) (u u' : Unq) (pos : Nat) (h : c.toNat < 128) (hs : stepU u c.toNat=some u') (h5 : u'.st ≠ 5) : unqS (scan (c :: q)) u pos=unqS (scan q) u' (pos+1):=by
 rw [unqS_ascii c q u pos h,hs]
 simp [h5]
theorem hexv_hexc : ∀ d : Fin 16,hexv ((hexc d.val).toNat : Int)=(d.val : Int)∧(hexc d.val).toNat < 128∧(hexc d.val).toNat ≠ 125∧48 ≤ (hexc d.val).toNat:=by decide +kernel
end Go.Proofs.YthfkfbcopinmiaaGreatDoor
namespace Go.Proofs.YthfkfbcopinmiaaGreatDoor
theorem step0 (u : Unq) (r : Int) (h : u.st=0) : stepU u r=stepFirst u r:=by simp [stepU,h]
theorem step1 (u : Unq) (r : Int) (h : u.st=1) : stepU u r=stepInside u r:=by simp [stepU,h]
theorem step2 (u : Unq) (r : Int) (h : u.st=2) : stepU u r=stepEscaped u r:=by simp [stepU,h]
theorem step3 (u : Unq) (r : Int) (h : u.st=3) : stepU u r=stepNumbered u r:=by simp [stepU,h]
theorem step4 (u : Unq) (r : Int) (h : u.st=4) : stepU u r=stepCounting u r:=by simp [stepU,h]
theorem go_num (u : Unq) (n : Nat) (hn : n < 128) (q : List UInt8) (pos : Nat) :
 ∃ u',u'.st=1∧u'.q=u.q∧u'.said=u.said ++ Lib.encodeRune (n : Int)∧unqS (scan ([117,123] ++ hexL n ++ 125 :: q)) (u.to 2) pos=unqS (scan q) u' (pos+2+(hexL n).length+1):=by
 have e1 : unqS (scan ([117,123] ++ hexL n ++ 125 :: q)) (u.to 2) pos=unqS (scan (hexL n ++ 125 :: q)) { u with st:=4,num:=0,dig:=0 } (pos+2):=by
  show unqS (scan (117 :: 123 :: (hexL n ++ 125 :: q))) (u.to 2) pos=_
  rw [unqS_go 117 _ (u.to 2) (u.to 3) pos (by decide) (by rw [step2 _ _ rfl,stepEscaped,if_neg (by decide),if_neg (by decide),if_neg (by decide),if_pos (by decide)];rfl) (by simp [Unq.to]),
   unqS_go 123 _ (u.to 3) { u with st:=4,num:=0,dig:=0 } (pos+1) (by decide) (by rw [step3 _ _ rfl,stepNumbered,if_pos (by decide)];rfl) (by simp)]
 have hdig : ∀ (v : Unq) (d : Nat) (rest : List UInt8) (p : Nat),d < 16→v.st=4→v.dig ≤ 5→unqS (scan (hexc d :: rest)) v p=unqS (scan rest) { v with num:=v.num * 16+d,dig:=v.dig+1 } (p+1):=by
  intro v d rest p hd h4 h5
  obtain ⟨h1,h2,h3,_⟩:=hexv_hexc ⟨d,hd⟩
  simp only at h1 h2 h3
  refine unqS_go _ rest v _ p h2 ?_ (by simp [h4])
  rw [step4 _ _ h4,stepCounting,if_neg (by omega),if_neg (by rw [h1];omega),h1]
  rfl
 have hend : ∀ (v : Unq) (p : Nat),v.st=4→v.num=n→v.dig ≠ 0→unqS (scan (125 :: q)) v p=unqS (scan q) (v.say n) (p+1):=by
  intro v p h4 hv hd
  refine unqS_go 125 q v (v.say n) p (by decide) ?_ (by simp [Unq.say])
  have hvr : Lib.validRune (n : Int)=true:=by
   unfold Lib.validRune
   simp
   omega
  rw [step4 _ _ h4,stepCounting,if_pos (by decide),hv,if_neg (by rw [hvr];simp;exact hd)]
 by_cases h16 : n < 16
 ·refine ⟨({ u with st:=4,num:=n,dig:=1 } : Unq).say n,rfl,rfl,rfl,?_⟩
  rw [e1,hexL_one n h16]
  show unqS (scan (hexc n :: 125 :: q)) _ _=_
  rw [hdig _ n _ _ h16 rfl (by simp),hend _ _ rfl (by simp) (by simp)]
  simp [Unq.say]
 ·refine ⟨({ u with st:=4,num:=n,dig:=2 } : Unq).say n,rfl,rfl,rfl,?_⟩
  rw [e1,hexL_two n (by omega)]
  show unqS (scan (hexc (n / 16) :: hexc (n % 16) :: 125 :: q)) _ _=_
  rw [hdig _ (n / 16) _ _ (by omega) rfl (by simp),hdig _ (n % 16) _ _ (by omega) rfl (by simp),hend _ _ rfl (by simp;omega) (by simp)]
  have e2 : n / 16 * 16+n % 16=n:=by omega
  simp [Unq.say,e2]
end Go.Proofs.YthfkfbcopinmiaaGreatDoor
namespace Go.Proofs.YthfkfbcopinmiaaGreatDoor
open Go.RowKit
def headV (l : List UInt8) : Int:=if strayL l then -1 else ((decL l).1 : Int)
theorem headL_split (l : List UInt8) : headL l=(((decL l).2 : Int),headV l):=by
 unfold headL headV
 by_cases h : strayL l=true
 ·rw [if_pos h,if_pos h]
  have : (decL l).2=1:=by simp [strayL] at h;exact h.2
  rw [this];rfl
 ·rw [if_neg h,if_neg h]
theorem head_any2 (s : ByteArray) (w : World) (h0 : 0 < s.size) (hs : s.size ≤ maxLen) :
 Calls Tryz.prog 63 #[.string s] w fun e w'=>e = .returned (.tuple #[.int .i64 ((decL s.data.toList).2 : Int),.int .i64 (headV s.data.toList)])∧w'=w:=by
 have h:=head_any s w h0 hs
 rw [headL_split] at h
 exact h
theorem cut_head (t : ByteArray) (n : Nat) : t.extract 0 n=⟨(t.data.toList.take n).toArray⟩:=by
 apply ByteArray.ext
 simp [ByteArray.data_extract]
 apply Array.ext'
 simp
theorem cut_tail (t : ByteArray) (n : Nat) : (t.extract n t.size).data.toList=t.data.toList.drop n:=drop_extract t n
theorem ne_nil_of_size (t : ByteArray) (h : 0 < t.size) : t.data.toList ≠ []:=by
 intro e
 have:=Lib.size_eq t
 rw [e,List.length_nil] at this
 omega
end Go.Proofs.YthfkfbcopinmiaaGreatDoor
