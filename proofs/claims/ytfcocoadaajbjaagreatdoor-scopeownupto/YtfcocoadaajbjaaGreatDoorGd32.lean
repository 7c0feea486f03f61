/- Own text. The contract of the document's function that reads the rune with which a text begins. The contract of the document's function that cuts a text into runes. Copy of package tree. Size and At of package tree. A tree with another in one of its places,in memory. Replace of package tree. A tree in a cell of its own. -/
import Derived.Test.YtfcocoadaajbjaaGreatDoorGd07
import Derived.Handy
import Derived.OwnWalk
import Derived.Maps.AppendAt
import Derived.Test.YtfcocoadaajbjaaGreatDoorGd05
import Derived.Test.YtfcocoadaajbjaaGreatDoorGd16
set_option maxRecDepth 100000
set_option maxHeartbeats 4000000
namespace Go.Proofs.YtfcocoadaajbjaaGreatDoor
open Go.RowKit
def headL (l : List UInt8) : Int × Int:=if strayL l then (1,-1) else (((decL l).2 : Int),((decL l).1 : Int))
def headZ (n b0 b1 b2 b3 : Int) : Int × Int :=
 if b0 < 128 then (1,b0)
 else if b0 < 192 then (1,-1)
 else if b0 < 224 then
  if 2 ≤ n∧128 ≤ b1∧b1 < 192∧128 ≤ (b0 - 192) * 64+b1 - 128 then (2,(b0 - 192) * 64+b1 - 128) else (1,-1)
 else if b0 < 240 then
  if 3 ≤ n∧128 ≤ b1∧b1 < 192∧128 ≤ b2∧b2 < 192∧2048 ≤ ((b0 - 224) * 64+b1 - 128) * 64+b2 - 128∧¬ (55296 ≤ ((b0 - 224) * 64+b1 - 128) * 64+b2 - 128∧((b0 - 224) * 64+b1 - 128) * 64+b2 - 128 < 57344) then (3,((b0 - 224) * 64+b1 - 128) * 64+b2 - 128) else (1,-1)
 else if b0 < 248 then
  if 4 ≤ n∧128 ≤ b1∧b1 < 192∧128 ≤ b2∧b2 < 192∧128 ≤ b3∧b3 < 192∧65536 ≤ (((b0 - 240) * 64+b1 - 128) * 64+b2 - 128) * 64+b3 - 128∧(((b0 - 240) * 64+b1 - 128) * 64+b2 - 128) * 64+b3 - 128 ≤ 1114111 then (4,(((b0 - 240) * 64+b1 - 128) * 64+b2 - 128) * 64+b3 - 128) else (1,-1)
 else (1,-1)
theorem headL_of {l : List UInt8} {r n : Nat} (h : decL l=(r,n)) (hne : ¬ (r=65533∧n=1)) : headL l=((n : Int),(r : Int)):=by
 rw [headL,strayL,h,if_neg (by simp;omega)]
theorem headL_bad {l : List UInt8} (h : decL l=(65533,1)) : headL l=(1,-1):=by
 rw [headL,strayL,h];rfl
theorem pair_eq {a b c d : Int} (h1 : a=c) (h2 : b=d) : (a,b)=(c,d):=by rw [h1,h2]
theorem headL_eq (l : List UInt8) : headL l=headZ l.length (atL l 0) (atL l 1) (atL l 2) (atL l 3):=by
 have a0:=atL_lt l 0
 have a1:=atL_lt l 1
 have a2:=atL_lt l 2
 have a3:=atL_lt l 3
 obtain ⟨d,hd⟩ : ∃ d,decL l=d:=⟨_,rfl⟩
 have hd':=hd
 unfold decL contL Utf8.valid at hd
 generalize atL l 0=b0 at *
 generalize atL l 1=b1 at *
 generalize atL l 2=b2 at *
 generalize atL l 3=b3 at *
 generalize l.length=n at *
 unfold headZ
 by_cases h1 : b0 < 128
 ·rw [if_pos h1] at hd
  rw [if_pos (by omega),headL_of (hd'.trans hd.symm) (by omega)]
  rfl
 rw [if_neg h1] at hd
 rw [if_neg (by omega)]
 by_cases h2 : b0 < 192
 ·rw [if_neg (by simp;omega),if_neg (by simp;omega),if_neg (by simp;omega)] at hd
  rw [if_pos (by omega),headL_bad (hd'.trans hd.symm)]
 rw [if_neg (by omega)]
 by_cases h3 : b0 < 224
 ·rw [if_pos (by omega)]
  by_cases hq : (b0 / 32 == 6 && (decide (1 < n) && b1 / 64 == 2))=true
  ·rw [if_pos hq] at hd
   simp at hq
   by_cases hv : 128 ≤ b0 % 32 * 64+b1 % 64
   ·rw [if_pos (by omega)] at hd
    rw [if_pos (by omega),headL_of (hd'.trans hd.symm) (by omega)]
    exact pair_eq rfl (by omega)
   ·rw [if_neg (by omega)] at hd
    rw [if_neg (by omega),headL_bad (hd'.trans hd.symm)]
  ·rw [if_neg hq,if_neg (by simp;omega),if_neg (by simp;omega)] at hd
   simp at hq
   rw [if_neg (by omega),headL_bad (hd'.trans hd.symm)]
 rw [if_neg (by omega)]
 rw [if_neg (show ¬ (b0 / 32 == 6 && (decide (1 < n) && b1 / 64 == 2))=true by simp;omega)] at hd
 by_cases h4 : b0 < 240
 ·rw [if_pos (by omega)]
  by_cases hq : (b0 / 16 == 14 && (decide (1 < n) && b1 / 64 == 2) && (decide (2 < n) && b2 / 64 == 2))=true
  ·rw [if_pos hq] at hd
   simp at hq
   by_cases hv : (2048 ≤ b0 % 16 * 4096+b1 % 64 * 64+b2 % 64∧¬ (55296 ≤ b0 % 16 * 4096+b1 % 64 * 64+b2 % 64∧b0 % 16 * 4096+b1 % 64 * 64+b2 % 64 < 57344))
   ·rw [if_pos (by simp;omega)] at hd
    rw [if_pos (by omega),headL_of (hd'.trans hd.symm) (by omega)]
    exact pair_eq rfl (by omega)
   ·rw [if_neg (by simp;omega)] at hd
    rw [if_neg (by omega),headL_bad (hd'.trans hd.symm)]
  ·rw [if_neg hq,if_neg (by simp;omega)] at hd
   simp at hq
   rw [if_neg (by omega),headL_bad (hd'.trans hd.symm)]
 rw [if_neg (by omega)]
 rw [if_neg (show ¬ (b0 / 16 == 14 && (decide (1 < n) && b1 / 64 == 2) && (decide (2 < n) && b2 / 64 == 2))=true by simp;omega)] at hd
 by_cases h5 : b0 < 248
 ·rw [if_pos (by omega)]
  by_cases hq : (b0 / 8 == 30 && (decide (1 < n) && b1 / 64 == 2) && (decide (2 < n) && b2 / 64 == 2) && (decide (3 < n) && b3 / 64 == 2))=true
  ·rw [if_pos hq] at hd
   simp at hq
   by_cases hv : (65536 ≤ b0 % 8 * 262144+b1 % 64 * 4096+b2 % 64 * 64+b3 % 64∧b0 % 8 * 262144+b1 % 64 * 4096+b2 % 64 * 64+b3 % 64 ≤ 1114111)
   ·rw [if_pos (by simp;omega)] at hd
    rw [if_pos (by omega),headL_of (hd'.trans hd.symm) (by omega)]
    exact pair_eq rfl (by omega)
   ·rw [if_neg (by simp;omega)] at hd
    rw [if_neg (by omega),headL_bad (hd'.trans hd.symm)]
  ·rw [if_neg hq] at hd
   simp at hq
   rw [if_neg (by omega),headL_bad (hd'.trans hd.symm)]
 rw [if_neg (by simp;omega)] at hd
 rw [if_neg (by omega),headL_bad (hd'.trans hd.symm)]
theorem ret_ii {a b c d : Int} (h : (a,b)=(c,d)) : Ending.returned (.tuple #[.int .i64 a,.int .i64 b]) = .returned (.tuple #[.int .i64 c,.int .i64 d]):=by
 cases h;rfl
theorem byte_at (s : ByteArray) (k : Nat) (h : k < s.size) : (s[k]'h).toNat=atL s.data.toList k:=by
 rw [← get_at s k h,get_drop]
 unfold atL
 simp
theorem head_any (s : ByteArray) (w : World) (h0 : 0 < s.size) (hs : s.size ≤ maxLen) :
 Calls Tryz.prog 50 #[.string s] w fun e w'=>e = .returned (.tuple #[.int .i64 (headL s.data.toList).1,.int .i64 (headL s.data.toList).2])∧w'=w:=by
 unfold maxLen at hs
 have hz:=headL_eq s.data.toList
 rw [← Lib.size_eq] at hz
 have l0:=atL_lt s.data.toList 0
 have l1:=atL_lt s.data.toList 1
 have l2:=atL_lt s.data.toList 2
 have l3:=atL_lt s.data.toList 3
 have e0:=byte_at s 0
 have e1:=byte_at s 1
 have e2:=byte_at s 2
 have e3:=byte_at s 3
 generalize atL s.data.toList 0=b0 at *
 generalize atL s.data.toList 1=b1 at *
 generalize atL s.data.toList 2=b2 at *
 generalize atL s.data.toList 3=b3 at *
 generalize headL s.data.toList=r at *
 obtain ⟨r1,r2⟩:=r
 have HZ : Hid ((r1,r2)=headZ s.size b0 b1 b2 b3):=hz
 clear hz
 by_cases c1 : b0 < 192
 ·clear e1 e2 e3 l1 l2 l3
  go_enter Tryz.func50,Tryz.ntmps50
  go_wp2
  all_goals go_ret2
  all_goals (refine ⟨ret_ii ?_,rfl⟩;rw [HZ.out,headZ];repeat' (first | rw [if_pos (by omega)] | rw [if_neg (by omega)]))
 by_cases c2 : b0 < 224
 ·clear e2 e3 l2 l3
  by_cases hn : s.size < 2
  ·clear e1
   go_enter Tryz.func50,Tryz.ntmps50
   go_wp2
   all_goals go_ret2
   all_goals (refine ⟨ret_ii ?_,rfl⟩;rw [HZ.out,headZ];repeat' (first | rw [if_pos (by omega)] | rw [if_neg (by omega)]))
  ·go_enter Tryz.func50,Tryz.ntmps50
   go_wp2
   go_rounds 2
   all_goals go_ret2
   all_goals (refine ⟨ret_ii ?_,rfl⟩;rw [HZ.out,headZ];repeat' (first | rw [if_pos (by omega)] | rw [if_neg (by omega)]))
 by_cases c3 : b0 < 240
 ·clear e3 l3
  by_cases hn : s.size < 3
  ·clear e1 e2
   go_enter Tryz.func50,Tryz.ntmps50
   go_wp2
   all_goals go_ret2
   all_goals (refine ⟨ret_ii ?_,rfl⟩;rw [HZ.out,headZ];repeat' (first | rw [if_pos (by omega)] | rw [if_neg (by omega)]))
  ·go_enter Tryz.func50,Tryz.ntmps50
   go_wp2
   go_rounds 3
   all_goals go_ret2
   all_goals (refine ⟨ret_ii ?_,rfl⟩;rw [HZ.out,headZ];repeat' (first | rw [if_pos (by omega)] | rw [if_neg (by omega)]))
 by_cases c4 : b0 < 248
 ·by_cases hn : s.size < 4
  ·clear e1 e2 e3
   go_enter Tryz.func50,Tryz.ntmps50
   go_wp2
   all_goals go_ret2
   all_goals (refine ⟨ret_ii ?_,rfl⟩;rw [HZ.out,headZ];repeat' (first | rw [if_pos (by omega)] | rw [if_neg (by omega)]))
  ·go_enter Tryz.func50,Tryz.ntmps50
   go_wp2
   go_rounds 4
   all_goals go_ret2
   all_goals (refine ⟨ret_ii ?_,rfl⟩;rw [HZ.out,headZ];repeat' (first | rw [if_pos (by omega)] | rw [if_neg (by omega)]))
 ·clear e1 e2 e3 l1 l2 l3
  go_enter Tryz.func50,Tryz.ntmps50
  go_wp2
  all_goals go_ret2
  all_goals (refine ⟨ret_ii ?_,rfl⟩;rw [HZ.out,headZ];repeat' (first | rw [if_pos (by omega)] | rw [if_neg (by omega)]))
def headV (l : List UInt8) : Int:=if strayL l then -1 else ((decL l).1 : Int)
theorem headL_split (l : List UInt8) : headL l=(((decL l).2 : Int),headV l):=by
 unfold headL headV
 by_cases h : strayL l=true
 ·rw [if_pos h,if_pos h]
  have : (decL l).2=1:=by simp [strayL] at h;exact h.2
  rw [this];rfl
 ·rw [if_neg h,if_neg h]
theorem head_any2 (s : ByteArray) (w : World) (h0 : 0 < s.size) (hs : s.size ≤ maxLen) :
 Calls Tryz.prog 50 #[.string s] w fun e w'=>e = .returned (.tuple #[.int .i64 ((decL s.data.toList).2 : Int),.int .i64 (headV s.data.toList)])∧w'=w:=by
 have h:=head_any s w h0 hs
 rw [headL_split] at h
 exact h
def strsV (xs : List (Nat × List UInt8)) : List Value:=xs.map fun x=>.string ⟨x.2.toArray⟩
theorem strsV_append (xs ys : List (Nat × List UInt8)) : strsV (xs ++ ys)=strsV xs ++ strsV ys:=by simp [strsV]
theorem cut_head (t : ByteArray) (n : Nat) : t.extract 0 n=⟨(t.data.toList.take n).toArray⟩:=by
 apply ByteArray.ext
 simp [ByteArray.data_extract]
 apply Array.ext'
 simp
theorem cut_tail (t : ByteArray) (n : Nat) : (t.extract n t.size).data.toList=t.data.toList.drop n:=drop_extract t n
def strLen : Value→Nat
 | .string t=>t.size
 | _=>0
theorem ne_nil_of_size (t : ByteArray) (h : 0 < t.size) : t.data.toList ≠ []:=by
 intro e
 have:=Lib.size_eq t
 rw [e,List.length_nil] at this
 omega
def RunesAt (w : World) (L : List UInt8) (N : Nat) (wr : World) (t : ByteArray) (v : Value) (b : Bool) : Prop :=
 ∃ done,wr.ownsRow w.heap.size 9 1 v done.length (strsV done)∧Below w.heap.size w wr∧done ++ scan t.data.toList=scan L∧b=(done.all fun x=>!strayP x)∧done.length+t.size ≤ N
theorem refRunes_any (s : ByteArray) (w : World) (hs : s.size ≤ 1099511627776) :
 Calls Tryz.prog 49 #[.string s] w fun e w'=>∃ v,e = .returned (.tuple #[v,.bool (validL s.data.toList)])∧w'.ownsRow w.heap.size 9 1 v (scan s.data.toList).length (strsV (scan s.data.toList))∧Below w.heap.size w w':=by
 have hi9 : (Tryz.prog.info? 9).map (fun i=>(i.zero,i.size,i.bytes))=some (some (.string ByteArray.empty),1,16):=by kernel_rfl
 obtain ⟨i0,hi,hx⟩:=Option.map_eq_some_iff.1 hi9
 simp only [Prod.mk.injEq] at hx
 obtain ⟨hz0,hz1,hz2⟩:=hx
 clear hi9
 go_enter Tryz.func49,Tryz.ntmps49
 go_wp2
 go_loopw [0,4,5] (fun x v b wr=>∃ (t : ByteArray) (bo : Bool),x = .string t∧b = .bool bo∧RunesAt w s.data.toList s.size wr t v bo) (fun x _ _ _=>strLen x)
 case atStart=>exact ⟨s,true,rfl,rfl,[],World.ownsRow_nil _ _ _ _,Below.refl _ _,rfl,rfl,by simp⟩
 case round =>
  obtain ⟨t,bo,rfl,rfl,done,hown,hbw,hdone,hbo,hlen⟩:=hrel
  by_cases h0 : 0 < t.size
  ·have hne:=ne_nil_of_size t h0
   have hwd:=(decL_width t.data.toList).1
   have hwl:=decL_le _ hne
   rw [← Lib.size_eq] at hwl
   have hcons:=scan_cons _ hne
   have hstr:=strayL_eq _ hne
   have hhead:=fun w1=>head_any2 t w1 h0 (by unfold maxLen;omega)
   have htl:=Lib.size_eq (t.extract (decL t.data.toList).2 t.size)
   have hcut:=cut_tail t (decL t.data.toList).2
   rw [hcut,List.length_drop,← Lib.size_eq] at htl
   obtain ⟨n,hn⟩ : ∃ n,n=(decL t.data.toList).2:=⟨_,rfl⟩
   have Hstep : Hid (∀ W v,W.ownsRow w.heap.size 9 1 v (done.length+1) (strsV done ++ [.string (t.extract 0 n)])→Below w.heap.size w W→RunesAt w s.data.toList s.size W (t.extract n t.size) v (bo && !strayL t.data.toList)):=by
    intro W v hv hW
    refine ⟨done ++ [((decL t.data.toList).1,t.data.toList.take (decL t.data.toList).2)],?_,hW,?_,?_,?_⟩
    ·rw [cut_head,hn] at hv
     rw [List.length_append,strsV_append]
     exact hv
    ·rw [hn,hcut,List.append_assoc,← hdone,hcons]
     rfl
    ·rw [hbo,List.all_append,hstr]
     simp
    ·rw [List.length_append,hn,htl,List.length_singleton]
     omega
   have hnew : (t.extract n t.size).size < t.size:=by rw [hn,htl];omega
   rw [← hn] at hhead hwd hwl
   clear hcons hstr hcut htl hdone hbo hn
   have hE : t.toList.isEmpty=false:=by rw [Lib.toList_data];simpa using hne
   clear hne
   have hsz:=hbw.size
   by_cases hst : strayL t.data.toList=true
   ·have hv : headV t.data.toList = -1:=by rw [headV,if_pos hst]
    rw [hv] at hhead
    rw [hst] at Hstep
    clear hv hst
    cases bo
    all_goals
     go_wp2_with (first | (go_at_call 50;refine (hhead _).mono ?_;rintro e w' ⟨rfl,rfl⟩) | (at_builtin;refine wpList_append_own _ rfl _ _ 48 rfl w.heap.size 9 i0 (.string ByteArray.empty) 1 16 Tryz.underlying48 hi hz0 hz1 hz2 rfl (by decide) _ _ _ rfl (hown.alloc _) ⟨_,0,none⟩ 1 1 [.string (t.extract 0 n)] rfl rfl (cell_one_new _ _ _) (fun x hx=>by simp at hx;subst hx;rfl) (by unfold maxLen;omega) (by omega) (by simp;omega) ?_))
     intro v' W2 hown' hg _
     have hb2:=(hbw.alloc (by omega) _).grown hg (by simp;omega) (fun k hk=>(hown.lt k hk).1)
     have hqa:=Hstep.out W2 v' hown' hb2
     clear hown' hg hb2
     go_wp2
     go_roundw
     case rel=>exact ⟨_,_,rfl,rfl,hqa⟩
     case measure=>exact hnew
   ·have hst' : strayL t.data.toList=false:=by simpa using hst
    have hv : headV t.data.toList=((decL t.data.toList).1 : Int):=by rw [headV,if_neg hst]
    rw [hv] at hhead
    rw [hst'] at Hstep
    clear hv hst hst'
    cases bo
    all_goals
     go_wp2_with (first | (go_at_call 50;refine (hhead _).mono ?_;rintro e w' ⟨rfl,rfl⟩) | (at_builtin;refine wpList_append_own _ rfl _ _ 48 rfl w.heap.size 9 i0 (.string ByteArray.empty) 1 16 Tryz.underlying48 hi hz0 hz1 hz2 rfl (by decide) _ _ _ rfl (hown.alloc _) ⟨_,0,none⟩ 1 1 [.string (t.extract 0 n)] rfl rfl (cell_one_new _ _ _) (fun x hx=>by simp at hx;subst hx;rfl) (by unfold maxLen;omega) (by omega) (by simp;omega) ?_))
     intro v' W2 hown' hg _
     have hb2:=(hbw.alloc (by omega) _).grown hg (by simp;omega) (fun k hk=>(hown.lt k hk).1)
     have hqa:=Hstep.out W2 v' hown' hb2
     clear hown' hg hb2
     go_wp2
     go_roundw
     case rel=>exact ⟨_,_,rfl,rfl,hqa⟩
     case measure=>exact hnew
  ·have hE : t.toList.isEmpty=true:=by
    rw [Lib.toList_data,List.isEmpty_iff]
    exact List.eq_nil_of_length_eq_zero (by rw [← Lib.size_eq];omega)
   have hnil : scan t.data.toList=[]:=by
    rw [Lib.toList_data,List.isEmpty_iff] at hE
    rw [hE];rfl
   rw [hnil,List.append_nil] at hdone
   subst hdone
   go_wp2
   go_ret2
   exact ⟨_,by rw [validL,← hbo];rfl,hown,hbw⟩
set_option linter.unusedVariables false
attribute [local go_sem] Oper.semAt_some
theorem Sep.op {w : World} {S : Nat→Prop} {v : Value} {ks : List Nd} (h : Sep w S v ks) : (v = .slice none 0 0∧ks=[]) ∨ ∃ (bl : Nat) (f : Nat→Value) (T : Nat→Nat→Prop) (cur : Array Value),v = .slice (some ⟨bl,0,none⟩) ks.length ks.length∧0 < ks.length∧S bl∧(∀ i b,T i b→S b)∧(∀ i,¬ T i bl)∧(∀ i j b,i ≠ j→T i b→¬ T j b) ∧
 w.heap[bl]?=some (.cells cur 24 (0,0))∧cur.size=ks.length * 4∧(∀ i (h : i < ks.length),Four w bl (i * 4) ks[i] (f i))∧(∀ i (h : i < ks.length),Sep w (T i) (f i) ks[i].ks):=by
 cases h with
 | nil=>exact .inl ⟨rfl,rfl⟩
 | row _ bl ks f T cur hn hS hT hTb hd hg hcs hf4 hk=>exact .inr ⟨bl,f,T,cur,rfl,hn,hS,hT,hTb,hd,hg,hcs,hf4,hk⟩
theorem PlT.block {w : World} {b o : Nat} {x : Nd} {k b' o' : Nat} {y : Nd} (h : PlT w b o x k b' o' y) : ∀ {S : Nat→Prop} {v : Value},Sep w S v x.ks→Four w b o x v→(b'=b∧o'=o) ∨ (S b'∧∃ cur,w.heap[b']?=some (.cells cur 24 (0,0))∧o'+4 ≤ cur.size):=by
 induction h with
 | here b o x=>intro S v _ _;exact .inl ⟨rfl,rfl⟩
 | kid b o x bl ol c i hi hc k b' o' y h ih =>
  intro S v hs h4
  have e:=h4.2.2.2.symm.trans hc
  rcases hs.op with ⟨_,h0⟩ | ⟨bl',f,T,cur,rfl,hn,hS,hT,hTb,hd,hg,hcs,hf4,hk⟩
  ·simp [h0] at hi
  ·simp only [Option.some.injEq,Value.slice.injEq,Addr.mk.injEq] at e
   obtain ⟨⟨rfl,rfl,_⟩,_,_⟩:=e
   simp only [Nat.zero_add] at ih
   rcases ih (hk i hi) (hf4 i hi) with ⟨rfl,rfl⟩ | ⟨h1,h2⟩
   ·exact .inr ⟨hS,cur,hg,by rw [hcs];omega⟩
   ·exact .inr ⟨hT i _ h1,h2⟩
attribute [local go_sem] Oper.semAt_some
structure Bx (W : World) (p : Nat) (x : Nd) (a : Option Addr) (c : Nat) : Prop where
 h : W.heap[p]?=some (.cells #[.int .i64 x.k,.string x.t,.int .i64 x.n,.slice a x.ks.length c] 24 (0,0))
theorem Bx.bel {W W' : World} {p : Nat} {x : Nd} {a : Option Addr} {c : Nat} (h : Bx W p x a c) (b : Below W.heap.size W W') : Bx W' p x a c:=⟨(b.block p (Array.getElem?_eq_some_iff.1 h.h).1).trans h.h⟩
theorem Bx.new (W : World) (x : Nd) (a : Option Addr) (c : Nat) : Bx (W.alloc (Obj.cells #[.int .i64 x.k,.string x.t,.int .i64 x.n,.slice a x.ks.length c] 24)) W.heap.size x a c:=⟨hnew _ rfl⟩
theorem Bx.cs {W : World} {p : Nat} {x : Nd} {a : Option Addr} {c : Nat} (h : Bx W p x a c) : NqZ W p x.k x.t x.n a x.ks.length c:=(box4 h.h).1
theorem Bx.fr {W : World} {p : Nat} {x : Nd} {a : Option Addr} {c : Nat} (h : Bx W p x a c) : W.frozen? ⟨p,0,none⟩=false∧W.frozen? ⟨p,1,none⟩=false∧W.frozen? ⟨p,2,none⟩=false∧W.frozen? ⟨p,3,none⟩=false:=(box4 h.h).2
theorem Bx.lt {W : World} {p : Nat} {x : Nd} {a : Option Addr} {c : Nat} (h : Bx W p x a c) : p < W.heap.size:=(Array.getElem?_eq_some_iff.1 h.h).1
end Go.Proofs.YtfcocoadaajbjaaGreatDoor
