/- Own text. The reader of texts in quotes,rune by rune: its steps as plain mathematics,and how it lies in memory. The contracts of the reader's steps: what each rune does to it. The contract of Unquote of package runes: what the text in quotes says with which a text begins,or that there is none. -/
import Derived.Lib.Small
import Derived.Test.YthfkfbcopinmiaaGreatDoorGk22
set_option maxRecDepth 100000
set_option maxHeartbeats 4000000
namespace Go.Proofs.YthfkfbcopinmiaaGreatDoor
open Go.RowKit
structure Unq where
 st : Int
 q : Int
 num : Nat
 dig : Nat
 said : List UInt8
def Unq.say (u : Unq) (r : Int) : Unq:={ u with said:=u.said ++ Lib.encodeRune r,st:=1 }
def Unq.to (u : Unq) (x : Int) : Unq:={ u with st:=x }
def stepFirst (u : Unq) (r : Int) : Option Unq:=if r=34 ∨ r=39 then some { u with st:=1,q:=r } else none
def stepInside (u : Unq) (r : Int) : Option Unq :=
 if r=10 ∨ r=13 then none else if r=u.q then some (u.to 5) else if r=92 then some (u.to 2) else some (u.say r)
def stepEscaped (u : Unq) (r : Int) : Option Unq :=
 if r=110 then some (u.say 10) else if r=116 then some (u.say 9) else if r=34 ∨ r=39 ∨ r=92 then some (u.say r) else if r=117 then some (u.to 3) else none
def stepNumbered (u : Unq) (r : Int) : Option Unq:=if r=123 then some { u with st:=4,num:=0,dig:=0 } else none
def stepCounting (u : Unq) (r : Int) : Option Unq :=
 if r=125 then (if u.dig=0 ∨ Lib.validRune (u.num : Int)=false then none else some (u.say u.num))
 else if hexv r < 0 ∨ u.dig=6 then none else some { u with num:=u.num * 16+(hexv r).toNat,dig:=u.dig+1 }
def stepU (u : Unq) (r : Int) : Option Unq :=
 if u.st=0 then stepFirst u r else if u.st=1 then stepInside u r else if u.st=2 then stepEscaped u r else if u.st=3 then stepNumbered u r else if u.st=4 then stepCounting u r else none
def Unq.ok (u : Unq) : Prop:=0 ≤ u.st∧u.st ≤ 5∧u.dig ≤ 6∧u.num < 16 ^ u.dig
def IsUnq (b : Nat) (u : Unq) (w : World) : Prop :=
 ∃ a c,w.heap[b]?=some (.cells #[.int .i64 u.st,.int .i32 u.q,.slice a u.said.length c,.int .i32 (u.num : Int),.int .i64 (u.dig : Int)] 145 (0,0))∧w.ownsRowF (b+1) 5 1 (.slice a u.said.length c) u.said.length (Lib.byteCells u.said)
def UnqPost (b : Nat) (o : Option Unq) (w : World) (e : Ending) (w' : World) : Prop :=
 Below b w w'∧match o with
  | none=>e = .returned (.bool false)
  | some u'=>e = .returned (.bool true)∧IsUnq b u' w'∧Lib.OthersKept 5 (some b) w w'
theorem unqPost_none {b : Nat} {o : Option Unq} {w w' : World} {e : Ending} (h : o=none) (he : e = .returned (.bool false)) (hb : Below b w w') : UnqPost b o w e w':=by
 subst h;exact ⟨hb,he⟩
theorem unqPost_some {b : Nat} {o : Option Unq} {u' : Unq} {w w' : World} {e : Ending} (h : o=some u') (he : e = .returned (.bool true)) (hb : Below b w w') (hi : IsUnq b u' w') (hk : Lib.OthersKept 5 (some b) w w') : UnqPost b o w e w':=by
 subst h;exact ⟨hb,he,hi,hk⟩
theorem IsUnq.lt {b : Nat} {u : Unq} {w : World} (h : IsUnq b u w) : b < w.heap.size:=by
 obtain ⟨a,c,hb,_⟩:=h
 exact (Array.getElem?_eq_some_iff.1 hb).1
theorem ownsRowF_slice {w : World} {B : Nat} {e : TypeId} {v : Value} {n : Nat} {xs : List Value} (h : w.ownsRowF B e 1 v n xs) : ∃ a c,v = .slice a n c:=by
 rcases h.2 with ⟨rfl,rfl⟩ | ⟨g,cap,cur,fz,rfl,_⟩
 ·exact ⟨_,_,rfl⟩
 ·exact ⟨_,_,rfl⟩
theorem row_ne {w : World} {b : Nat} {e : TypeId} {v : Value} {n : Nat} {xs : List Value} (h : w.ownsRowF (b+1) e 1 v n xs) : v.ownBlock ≠ some b:=by
 intro hv
 have:=(h.lt b hv).1
 omega
theorem row_setCell {w : World} {b i : Nat} {e : TypeId} {v x : Value} {n : Nat} {xs : List Value} (h : w.ownsRowF (b+1) e 1 v n xs) : (w.setCell ⟨b,i,none⟩ x).ownsRowF (b+1) e 1 v n xs :=
 h.kept (row:=some b) ⟨rfl,rfl,rfl,by simp [World.setCell],fun k _ hk=>Below.heap_setCell _ _ _ _ (fun e=>hk (by simp [e]))⟩ (Or.inr (row_ne h))
theorem IsUnq.cells {b : Nat} {u : Unq} {w : World} (h : IsUnq b u w) : ∃ a c,w.cell? ⟨b,0,none⟩=some (.int .i64 u.st)∧w.cell? ⟨b,1,none⟩=some (.int .i32 u.q)∧w.cell? ⟨b,2,none⟩=some (.slice a u.said.length c)∧w.cell? ⟨b,3,none⟩=some (.int .i32 (u.num : Int))∧w.cell? ⟨b,4,none⟩=some (.int .i64 (u.dig : Int))∧w.ownsRowF (b+1) 5 1 (.slice a u.said.length c) u.said.length (Lib.byteCells u.said):=by
 obtain ⟨a,c,hb,ho⟩:=h
 exact ⟨a,c,by simp [World.cell?,hb],by simp [World.cell?,hb],by simp [World.cell?,hb],by simp [World.cell?,hb],by simp [World.cell?,hb],ho⟩
theorem IsUnq.free {b : Nat} {u : Unq} {w : World} (h : IsUnq b u w) (i : Nat) : w.frozen? ⟨b,i,none⟩=false:=by
 obtain ⟨a,c,hb,_⟩:=h
 simp [World.frozen?,hb]
theorem IsUnq.set0 {b : Nat} {u : Unq} {w : World} (h : IsUnq b u w) (x : Int) : IsUnq b { u with st:=x } (w.setCell ⟨b,0,none⟩ (.int .i64 x)):=by
 obtain ⟨a,c,hb,ho⟩:=h
 exact ⟨a,c,by simp [World.setCell,Array.getElem?_modify,hb],row_setCell ho⟩
theorem IsUnq.set1 {b : Nat} {u : Unq} {w : World} (h : IsUnq b u w) (x : Int) : IsUnq b { u with q:=x } (w.setCell ⟨b,1,none⟩ (.int .i32 x)):=by
 obtain ⟨a,c,hb,ho⟩:=h
 exact ⟨a,c,by simp [World.setCell,Array.getElem?_modify,hb],row_setCell ho⟩
theorem IsUnq.set3 {b : Nat} {u : Unq} {w : World} (h : IsUnq b u w) (x : Nat) : IsUnq b { u with num:=x } (w.setCell ⟨b,3,none⟩ (.int .i32 (x : Int))):=by
 obtain ⟨a,c,hb,ho⟩:=h
 exact ⟨a,c,by simp [World.setCell,Array.getElem?_modify,hb],row_setCell ho⟩
theorem IsUnq.set4 {b : Nat} {u : Unq} {w : World} (h : IsUnq b u w) (x : Nat) : IsUnq b { u with dig:=x } (w.setCell ⟨b,4,none⟩ (.int .i64 (x : Int))):=by
 obtain ⟨a,c,hb,ho⟩:=h
 exact ⟨a,c,by simp [World.setCell,Array.getElem?_modify,hb],row_setCell ho⟩
theorem keep_set {b i : Nat} {w w' : World} {x : Value} (h : Lib.OthersKept 5 (some b) w w') : Lib.OthersKept 5 (some b) w (w'.setCell ⟨b,i,none⟩ x):=h.setCell _ rfl _
theorem below_set {b i : Nat} {w w' : World} {x : Value} (h : Below b w w') : Below b w (w'.setCell ⟨b,i,none⟩ x):=h.setCell (Nat.le_refl _) _
theorem unq_said {b : Nat} {u : Unq} {w : World} {a a1 : Option Addr} {n c c1 m : Nat} {said : List UInt8} (hb : w.heap[b]?=some (.cells #[.int .i64 u.st,.int .i32 u.q,.slice a n c,.int .i32 (u.num : Int),.int .i64 (u.dig : Int)] 145 (0,0)))
 (ho : w.ownsRowF (b+1) 5 1 (.slice a1 m c1) m (Lib.byteCells said)) (hm : m=said.length) : IsUnq b { u with said:=said } (w.setCell ⟨b,2,none⟩ (.slice a1 m c1)):=by
 subst hm
 exact ⟨a1,c1,by simp [World.setCell,Array.getElem?_modify,hb],row_setCell ho⟩
theorem say_any (b : Nat) (u : Unq) (r : Int) (w : World) (hr0 : -2147483648 ≤ r) (hr1 : r ≤ 2147483647) (hI : IsUnq b u w) (hl : u.said.length+4 ≤ 140737488355328) :
 Calls Tryz.prog 155 #[.pointer (some ⟨b,0,none⟩),.int .i32 r] w fun e w'=>e = .returned (.tuple #[])∧Below b w w'∧IsUnq b (u.say r) w'∧Lib.OthersKept 5 (some b) w w':=by
 have hlt:=hI.lt
 have hfr:=hI.free
 obtain ⟨a,c,hb,ho⟩:=hI
 have h0 : w.cell? ⟨b,0,none⟩=some (.int .i64 u.st):=by simp [World.cell?,hb]
 have h2 : w.cell? ⟨b,2,none⟩=some (.slice a u.said.length c):=by simp [World.cell?,hb]
 go_enter Tryz.func155,Tryz.ntmps155
 go_wp2_with (go_at_call 160;refine (Tryz.utf8_AppendRune_row (b+1) _ _ _ _ hr0 hr1 _ ho hl (by omega)).mono ?_)
 rintro e w1 ⟨v',rfl,ho1,o,hg⟩
 obtain ⟨m,hm⟩ : ∃ m,m=u.said.length+(Lib.runeCells r).length:=⟨_,rfl⟩
 rw [← hm,← Lib.byteCells_encodeRune,← Lib.byteCells_append] at ho1
 have hlen : m=(u.said ++ Lib.encodeRune r).length:=by rw [List.length_append,hm,Lib.runeCells_length]
 clear hm
 obtain ⟨a1,c1,rfl⟩:=ownsRowF_slice ho1
 have hb1 : w1.heap[b]?=w.heap[b]?:=(hg.block b (by simp;omega) (fun e=>row_ne ho e.symm)).trans (Below.heap_alloc w o b hlt)
 rw [hb] at hb1
 have hfr1 : ∀ i,w1.frozen? ⟨b,i,none⟩=false:=fun i=>by simp [World.frozen?,hb1]
 have h01 : w1.cell? ⟨b,0,none⟩=some (.int .i64 u.st):=by simp [World.cell?,hb1]
 have h21 : w1.cell? ⟨b,2,none⟩=some (.slice a u.said.length c):=by simp [World.cell?,hb1]
 clear hb h0 h2 hfr
 have hk1 : Lib.OthersKept 5 (some b) w w1:=by
  refine ((Lib.OthersKept.refl _ _ _).alloc o).grown hg ?_
  intro g hgg
  obtain ⟨cc,fz,hcc⟩:=Lib.ownsRowF_kind ho g hgg
  exact ⟨cc,fz,(Below.heap_alloc w o g (ho.lt g hgg).2).trans hcc⟩
 have hbl : Below b w w1:=((Below.refl b w).alloc (by omega) o).grown hg (by simp;omega) (fun k hk=>by have:=(ho.lt k hk).1;omega)
 have HIU : Hid (IsUnq b (u.say r) ((w1.setCell ⟨b,2,none⟩ (.slice a1 m c1)).setCell ⟨b,0,none⟩ (.int .i64 1))):=(unq_said (u:=u) hb1 ho1 hlen).set0 1
 clear ho1 hlen
 go_wp2
 go_end0
 exact ⟨rfl,below_set (below_set hbl),HIU.out,keep_set (keep_set hk1)⟩
end Go.Proofs.YthfkfbcopinmiaaGreatDoor
namespace Go.Proofs.YthfkfbcopinmiaaGreatDoor
open Go.RowKit
theorem takeFirst_any (b : Nat) (u : Unq) (r : Int) (w : World) (hI : IsUnq b u w) :
 Calls Tryz.prog 149 #[.pointer (some ⟨b,0,none⟩),.int .i32 r] w fun e w'=>UnqPost b (stepFirst u r) w e w':=by
 have hf:=hI.free
 obtain ⟨a,c,h0,h1,h2,h3,h4,ho⟩:=hI.cells
 clear h2 h3 h4 ho
 go_enter Tryz.func149,Tryz.ntmps149
 by_cases hr : r=34 ∨ r=39
 ·have HS : Hid (stepFirst u r=some { u with st:=1,q:=r }):=by rw [stepFirst,if_pos hr];trivial
  rcases hr with rfl | rfl
  all_goals
   go_wp2
   go_ret
   exact unqPost_some HS.out rfl (below_set (below_set (Below.refl _ _))) ((hI.set0 1).set1 _) (keep_set (keep_set (Lib.OthersKept.refl _ _ _)))
 ·have HS : Hid (stepFirst u r=none):=by rw [stepFirst,if_neg hr];trivial
  have b1 : (r == 34)=false:=by simp;omega
  have b2 : (r == 39)=false:=by simp;omega
  clear hr
  go_wp2
  go_ret
  exact unqPost_none HS.out rfl (below_set (below_set (Below.refl _ _)))
theorem takeInside_any (b : Nat) (u : Unq) (r : Int) (w : World) (hr0 : -2147483648 ≤ r) (hr1 : r ≤ 2147483647) (hI : IsUnq b u w) (hl : u.said.length+4 ≤ 140737488355328) :
 Calls Tryz.prog 150 #[.pointer (some ⟨b,0,none⟩),.int .i32 r] w fun e w'=>UnqPost b (stepInside u r) w e w':=by
 have hf:=hI.free
 obtain ⟨a,c,h0,h1,h2,h3,h4,ho⟩:=hI.cells
 clear h2 h3 h4 ho
 have hsay:=say_any b u r w hr0 hr1 hI hl
 go_enter Tryz.func150,Tryz.ntmps150
 by_cases hr : r=10 ∨ r=13
 ·have HS : Hid (stepInside u r=none):=by rw [stepInside,if_pos hr];trivial
  rcases hr with rfl | rfl
  all_goals
   go_wp2
   go_ret
   exact unqPost_none HS.out rfl (Below.refl _ _)
 ·have b10 : (r == 10)=false:=by simp;omega
  have b13 : (r == 13)=false:=by simp;omega
  by_cases hq : r=u.q
  ·have HS : Hid (stepInside u r=some (u.to 5)):=by rw [stepInside,if_neg hr,if_pos hq];trivial
   have bq : (r == u.q)=true:=by simp;exact hq
   clear hr hq
   go_wp2_with fail
   go_ret
   exact unqPost_some HS.out rfl (below_set (Below.refl _ _)) (hI.set0 5) (keep_set (Lib.OthersKept.refl _ _ _))
  ·have bq : (r == u.q)=false:=by simp;exact hq
   by_cases h92 : r=92
   ·have HS : Hid (stepInside u r=some (u.to 2)):=by rw [stepInside,if_neg hr,if_neg hq,if_pos h92];trivial
    clear hr hq
    subst h92
    go_wp2_with fail
    go_ret
    exact unqPost_some HS.out rfl (below_set (Below.refl _ _)) (hI.set0 2) (keep_set (Lib.OthersKept.refl _ _ _))
   ·have HS : Hid (stepInside u r=some (u.say r)):=by rw [stepInside,if_neg hr,if_neg hq,if_neg h92];trivial
    have b92 : (r == 92)=false:=by simp;exact h92
    clear hr hq h92
    go_wp2_with (go_at_call 155;refine hsay.mono ?_;rintro e w' ⟨rfl,hb,hi,hk⟩)
    go_ret
    exact unqPost_some HS.out rfl hb hi hk
theorem takeEscaped_any (b : Nat) (u : Unq) (r : Int) (w : World) (hr0 : -2147483648 ≤ r) (hr1 : r ≤ 2147483647) (hI : IsUnq b u w) (hl : u.said.length+4 ≤ 140737488355328) :
 Calls Tryz.prog 151 #[.pointer (some ⟨b,0,none⟩),.int .i32 r] w fun e w'=>UnqPost b (stepEscaped u r) w e w':=by
 have hf:=hI.free
 obtain ⟨a,c,h0,h1,h2,h3,h4,ho⟩:=hI.cells
 clear h1 h2 h3 h4 ho
 have hsay:=fun r h0 h1=>say_any b u r w h0 h1 hI hl
 go_enter Tryz.func151,Tryz.ntmps151
 by_cases h110 : r=110
 ·have HS : Hid (stepEscaped u r=some (u.say 10)):=by rw [stepEscaped,if_pos h110];trivial
  subst h110
  go_wp2_with (go_at_call 155;refine (hsay 10 (by omega) (by omega)).mono ?_;rintro e w' ⟨rfl,hb,hi,hk⟩)
  go_ret
  exact unqPost_some HS.out rfl hb hi hk
 have b110 : (r == 110)=false:=by simp;exact h110
 by_cases h116 : r=116
 ·have HS : Hid (stepEscaped u r=some (u.say 9)):=by rw [stepEscaped,if_neg h110,if_pos h116];trivial
  clear h110
  subst h116
  go_wp2_with (go_at_call 155;refine (hsay 9 (by omega) (by omega)).mono ?_;rintro e w' ⟨rfl,hb,hi,hk⟩)
  go_ret
  exact unqPost_some HS.out rfl hb hi hk
 have b116 : (r == 116)=false:=by simp;exact h116
 by_cases hs3 : r=34 ∨ r=39 ∨ r=92
 ·have HS : Hid (stepEscaped u r=some (u.say r)):=by rw [stepEscaped,if_neg h110,if_neg h116,if_pos hs3];trivial
  clear h110 h116
  rcases hs3 with rfl | rfl | rfl
  all_goals
   go_wp2_with (go_at_call 155;refine (hsay _ (by omega) (by omega)).mono ?_;rintro e w' ⟨rfl,hb,hi,hk⟩)
   go_ret
   exact unqPost_some HS.out rfl hb hi hk
 have b34 : (r == 34)=false:=by simp;omega
 have b39 : (r == 39)=false:=by simp;omega
 have b92 : (r == 92)=false:=by simp;omega
 by_cases h117 : r=117
 ·have HS : Hid (stepEscaped u r=some (u.to 3)):=by rw [stepEscaped,if_neg h110,if_neg h116,if_neg hs3,if_pos h117];trivial
  clear h110 h116 hs3
  subst h117
  go_wp2_with fail
  go_ret
  exact unqPost_some HS.out rfl (below_set (Below.refl _ _)) (hI.set0 3) (keep_set (Lib.OthersKept.refl _ _ _))
 have b117 : (r == 117)=false:=by simp;exact h117
 have HS : Hid (stepEscaped u r=none):=by rw [stepEscaped,if_neg h110,if_neg h116,if_neg hs3,if_neg h117];trivial
 clear h110 h116 hs3 h117
 go_wp2_with fail
 go_ret
 exact unqPost_none HS.out rfl (Below.refl _ _)
theorem pow_dig (n : Nat) (h : n ≤ 5) : 16 ^ n ≤ 1048576:=Nat.le_trans (Nat.pow_le_pow_right (by omega) h) (by decide)
theorem pow_dig6 (n : Nat) (h : n ≤ 6) : 16 ^ n ≤ 16777216:=Nat.le_trans (Nat.pow_le_pow_right (by omega) h) (by decide)
theorem takeCounting_any (b : Nat) (u : Unq) (r : Int) (w : World) (hr0 : -2147483648 ≤ r) (hr1 : r ≤ 2147483647) (hI : IsUnq b u w) (hl : u.said.length+4 ≤ 140737488355328) (hd : u.dig ≤ 6) (hn : u.num < 16 ^ u.dig) :
 Calls Tryz.prog 152 #[.pointer (some ⟨b,0,none⟩),.int .i32 r] w fun e w'=>UnqPost b (stepCounting u r) w e w':=by
 have hf:=hI.free
 obtain ⟨a,c,h0,h1,h2,h3,h4,ho⟩:=hI.cells
 clear h0 h1 h2 ho
 have h6:=pow_dig6 u.dig hd
 by_cases h125 : r=125
 ·have hsay:=say_any b u u.num w (by omega) (by omega) hI hl
  by_cases hno : u.dig=0
  ·have HS : Hid (stepCounting u r=none):=by rw [stepCounting,if_pos h125,if_pos (Or.inl hno)];trivial
   rw [hno] at h4
   subst h125
   clear hno hn h6 hd
   go_enter Tryz.func152,Tryz.ntmps152
   go_wp2_with fail
   go_ret
   exact unqPost_none HS.out rfl (Below.refl _ _)
  ·have bd : ((u.dig : Int) == 0)=false:=by simp;exact hno
   have hvr:=fun w1=>Tryz.utf8_ValidRune (u.num : Int) w1
   by_cases hv : Lib.validRune (u.num : Int)=false
   ·have hs0 : stepCounting u r=none:=by rw [stepCounting,if_pos h125,if_pos (Or.inr hv)]
    have HS : Hid (stepCounting u r=none):=hs0
    clear hs0
    rw [hv] at hvr
    subst h125
    clear hno hn h6 hd hv
    go_enter Tryz.func152,Tryz.ntmps152
    go_wp2_with (go_at_call 156;refine (hvr _).mono ?_;rintro e w' ⟨rfl,rfl⟩)
    go_ret
    exact unqPost_none HS.out rfl (Below.refl _ _)
   ·have hv' : Lib.validRune (u.num : Int)=true:=by simpa using hv
    have hs0 : stepCounting u r=some (u.say u.num):=by rw [stepCounting,if_pos h125,if_neg (by simp [hno,hv'])]
    have HS : Hid (stepCounting u r=some (u.say u.num)):=hs0
    clear hs0
    rw [hv'] at hvr
    subst h125
    clear hno hn h6 hd hv hv'
    go_enter Tryz.func152,Tryz.ntmps152
    go_wp2_with (first | (go_at_call 156;refine (hvr _).mono ?_;rintro e w' ⟨rfl,rfl⟩) | (go_at_call 155;refine hsay.mono ?_;rintro e w' ⟨rfl,hb,hi,hk⟩))
    go_ret
    exact unqPost_some HS.out rfl hb hi hk
 ·have b125 : (r == 125)=false:=by simp;exact h125
  by_cases hx : hexv r < 0
  ·have HS : Hid (stepCounting u r=none):=by rw [stepCounting,if_neg h125,if_pos (Or.inl hx)];trivial
   have hh:=fun w1=>hexDigit_no r w1 hr0 hr1 hx
   clear h125 hx hn h6
   go_enter Tryz.func152,Tryz.ntmps152
   go_wp2_with (go_at_call 157;refine (hh _).mono ?_;rintro e w' ⟨rfl,rfl⟩)
   go_ret
   exact unqPost_none HS.out rfl (Below.refl _ _)
  ·have hh:=fun w1=>hexDigit_yes r w1 hr0 hr1 (by omega)
   have hrg:=hexv_range r
   obtain ⟨d,hdd⟩ : ∃ d : Nat,hexv r=(d : Int):=⟨(hexv r).toNat,by omega⟩
   rw [hdd] at hh
   have hd15 : d ≤ 15:=by omega
   by_cases h6d : u.dig=6
   ·have HS : Hid (stepCounting u r=none):=by rw [stepCounting,if_neg h125,if_pos (Or.inr h6d)];trivial
    rw [h6d] at h4
    clear h125 hx hn h6 hdd hrg h6d hd
    go_enter Tryz.func152,Tryz.ntmps152
    go_wp2_with (go_at_call 157;refine (hh _).mono ?_;rintro e w' ⟨rfl,rfl⟩)
    go_ret
    exact unqPost_none HS.out rfl (Below.refl _ _)
   ·have HS : Hid (stepCounting u r=some { u with num:=u.num * 16+d,dig:=u.dig+1 }):=by
     rw [stepCounting,if_neg h125,if_neg (by omega),hdd]
     exact rfl
    have b6 : ((u.dig : Int) == 6)=false:=by simp;omega
    have h5:=pow_dig u.dig (by omega)
    have hnum : u.num < 1048576:=by omega
    have HI2 : Hid (IsUnq b { u with num:=u.num * 16+d,dig:=u.dig+1 } ((w.setCell ⟨b,3,none⟩ (.int .i32 ((u.num * 16+d : Nat) : Int))).setCell ⟨b,4,none⟩ (.int .i64 ((u.dig+1 : Nat) : Int)))):=(hI.set3 _).set4 _
    clear h125 hx hn h6 hdd hrg h6d h5
    go_enter Tryz.func152,Tryz.ntmps152
    go_wp2_with (go_at_call 157;refine (hh _).mono ?_;rintro e w' ⟨rfl,rfl⟩)
    go_ret
    refine unqPost_some HS.out rfl (below_set (below_set (Below.refl _ _))) ?_ (keep_set (keep_set (Lib.OthersKept.refl _ _ _)))
    have:=HI2.out
    simpa using this
end Go.Proofs.YthfkfbcopinmiaaGreatDoor
namespace Go.Proofs.YthfkfbcopinmiaaGreatDoor
open Go.RowKit
def Unq.pend (u : Unq) : Nat:=if u.st=2 then 1 else if u.st=3 then 2 else if u.st=4 then 3+u.dig else 0
theorem enc_small (r : Int) (h0 : 0 ≤ r) (h1 : r ≤ 127) : (Lib.encodeRune r).length=1:=by rw [Lib.encodeRune,Lib.encodeRuneZ_one h0 h1];rfl
theorem stepU_ok (u u' : Unq) (r : Int) (n : Nat) (h : stepU u r=some u') (hok : u.ok) (hn1 : 1 ≤ n) (hrn : (Lib.encodeRune r).length ≤ n) : u'.ok∧u'.said.length+u'.pend ≤ u.said.length+u.pend+n:=by
 obtain ⟨h0,h5,hd,hn⟩:=hok
 have hsay : ∀ x : Int,(Lib.encodeRune x).length ≤ u.pend+n→(u.say x).ok∧(u.say x).said.length+(u.say x).pend ≤ u.said.length+u.pend+n:=by
  intro x hx
  refine ⟨⟨by simp [Unq.say],by simp [Unq.say],hd,hn⟩,?_⟩
  have hp : (u.say x).pend=0:=by simp [Unq.pend,Unq.say]
  rw [hp]
  simp only [Unq.say,List.length_append]
  omega
 unfold stepU at h
 split at h
 ·unfold stepFirst at h
  split at h
  ·cases h
   refine ⟨⟨by simp,by simp,hd,hn⟩,?_⟩
   simp [Unq.pend]
   omega
  ·cases h
 ·split at h
  ·rename_i hs1
   have hp : u.pend=0:=by simp [Unq.pend,hs1]
   unfold stepInside at h
   repeat' split at h
   all_goals cases h
   ·refine ⟨⟨by simp [Unq.to],by simp [Unq.to],hd,hn⟩,?_⟩
    simp [Unq.pend,Unq.to]
    omega
   ·refine ⟨⟨by simp [Unq.to],by simp [Unq.to],hd,hn⟩,?_⟩
    rw [hp]
    simp [Unq.pend,Unq.to]
    omega
   ·exact hsay r (by omega)
  ·split at h
   ·rename_i hs2
    have hp : u.pend=1:=by simp [Unq.pend,hs2]
    unfold stepEscaped at h
    repeat' split at h
    all_goals cases h
    ·exact hsay 10 (by rw [enc_small 10 (by omega) (by omega)];omega)
    ·exact hsay 9 (by rw [enc_small 9 (by omega) (by omega)];omega)
    ·exact hsay r (by omega)
    ·refine ⟨⟨by simp [Unq.to],by simp [Unq.to],hd,hn⟩,?_⟩
     rw [hp]
     simp [Unq.pend,Unq.to]
     omega
   ·split at h
    ·rename_i hs3
     have hp : u.pend=2:=by simp [Unq.pend,hs3]
     unfold stepNumbered at h
     split at h
     ·cases h
      refine ⟨⟨by simp,by simp,by simp,by simp⟩,?_⟩
      rw [hp]
      simp [Unq.pend]
      omega
     ·cases h
    ·split at h
     ·rename_i hs4
      have hp : u.pend=3+u.dig:=by simp [Unq.pend,hs4]
      unfold stepCounting at h
      split at h
      ·split at h
       ·cases h
       ·rename_i hnn
        cases h
        have hl:=Lib.runeCells_le (u.num : Int)
        rw [Lib.runeCells_length] at hl
        exact hsay _ (by omega)
      ·split at h
       ·cases h
       ·rename_i hne
        cases h
        have hr:=hexv_range r
        refine ⟨⟨h0,h5,?_,?_⟩,?_⟩
        ·show u.dig+1 ≤ 6
         omega
        ·show u.num * 16+(hexv r).toNat < 16 ^ (u.dig+1)
         rw [Nat.pow_succ]
         omega
        ·rw [hp]
         simp [Unq.pend,hs4]
         omega
     ·cases h
theorem unqPost_ret {b : Nat} {o : Option Unq} {w w' : World} {e : Ending} (h : UnqPost b o w e w') : ∃ bo,e = .returned (.bool bo)∧UnqPost b o w (.returned (.bool bo)) w':=by
 obtain ⟨hb,hm⟩:=h
 cases o with
 | none=>exact ⟨false,hm,hb,rfl⟩
 | some u'=>exact ⟨true,hm.1,hb,rfl,hm.2⟩
theorem takeU_any (b : Nat) (u : Unq) (r : Int) (w : World) (hr0 : -2147483648 ≤ r) (hr1 : r ≤ 2147483647) (hI : IsUnq b u w) (hl : u.said.length+4 ≤ 140737488355328) (hok : u.ok) (h5 : u.st ≠ 5) :
 Calls Tryz.prog 141 #[.pointer (some ⟨b,0,none⟩),.int .i32 r] w fun e w'=>UnqPost b (stepU u r) w e w':=by
 obtain ⟨hs0,hs5,hd,hn⟩:=hok
 have hf:=hI.free
 obtain ⟨a,c,h0,h1,h2,h3,h4,ho⟩:=hI.cells
 clear h1 h2 ho
 have hcase : u.st=0 ∨ u.st=1 ∨ u.st=2 ∨ u.st=3 ∨ u.st=4:=by omega
 rcases hcase with hs | hs | hs | hs | hs
 ·have hs1 : stepU u r=stepFirst u r:=by simp [stepU,hs]
  have hc:=takeFirst_any b u r w hI
  rw [← hs1] at hc
  rw [hs] at h0
  clear hs hs0 hs5 h5 hn hd hs1 h3 h4
  go_enter Tryz.func141,Tryz.ntmps141
  go_wp2_with (go_at_call 149;refine hc.mono ?_;intro e w' hp0;obtain ⟨bo,rfl,hp⟩:=unqPost_ret hp0)
  go_ret
  exact hp
 ·have hs1 : stepU u r=stepInside u r:=by simp [stepU,hs]
  have hc:=takeInside_any b u r w hr0 hr1 hI hl
  rw [← hs1] at hc
  rw [hs] at h0
  clear hs hs0 hs5 h5 hn hd hs1 h3 h4
  go_enter Tryz.func141,Tryz.ntmps141
  go_wp2_with (go_at_call 150;refine hc.mono ?_;intro e w' hp0;obtain ⟨bo,rfl,hp⟩:=unqPost_ret hp0)
  go_ret
  exact hp
 ·have hs1 : stepU u r=stepEscaped u r:=by simp [stepU,hs]
  have hc:=takeEscaped_any b u r w hr0 hr1 hI hl
  rw [← hs1] at hc
  rw [hs] at h0
  clear hs hs0 hs5 h5 hn hd hs1 h3 h4
  go_enter Tryz.func141,Tryz.ntmps141
  go_wp2_with (go_at_call 151;refine hc.mono ?_;intro e w' hp0;obtain ⟨bo,rfl,hp⟩:=unqPost_ret hp0)
  go_ret
  exact hp
 ·have hs1 : stepU u r=stepNumbered u r:=by simp [stepU,hs]
  rw [hs] at h0
  have HI2 : Hid (IsUnq b { u with st:=4,num:=0,dig:=0 } (((w.setCell ⟨b,0,none⟩ (.int .i64 4)).setCell ⟨b,3,none⟩ (.int .i32 ((0 : Nat) : Int))).setCell ⟨b,4,none⟩ (.int .i64 ((0 : Nat) : Int)))):=((hI.set0 4).set3 0).set4 0
  by_cases h123 : r=123
  ·have HS : Hid (stepU u r=some { u with st:=4,num:=0,dig:=0 }):=by rw [hs1,stepNumbered,if_pos h123];trivial
   clear hs hs0 hs5 h5 hn hd hs1
   subst h123
   go_enter Tryz.func141,Tryz.ntmps141
   go_wp2_with fail
   go_ret
   exact unqPost_some HS.out rfl (below_set (below_set (below_set (Below.refl _ _)))) HI2.out (keep_set (keep_set (keep_set (Lib.OthersKept.refl _ _ _))))
  ·have HS : Hid (stepU u r=none):=by rw [hs1,stepNumbered,if_neg h123];trivial
   have b123 : (r == 123)=false:=by simp;exact h123
   clear hs hs0 hs5 h5 hn hd hs1 h123
   go_enter Tryz.func141,Tryz.ntmps141
   go_wp2_with fail
   go_ret
   exact unqPost_none HS.out rfl (below_set (below_set (below_set (Below.refl _ _))))
 ·have hs1 : stepU u r=stepCounting u r:=by simp [stepU,hs]
  have hc:=takeCounting_any b u r w hr0 hr1 hI hl hd hn
  rw [← hs1] at hc
  rw [hs] at h0
  clear hs hs0 hs5 h5 hn hd hs1 h3 h4
  go_enter Tryz.func141,Tryz.ntmps141
  go_wp2_with (go_at_call 152;refine hc.mono ?_;intro e w' hp0;obtain ⟨bo,rfl,hp⟩:=unqPost_ret hp0)
  go_ret
  exact hp
def Unq.start : Unq:={ st:=0,q:=0,num:=0,dig:=0,said:=[] }
def unqS : List (Nat × List UInt8)→Unq→Nat→Option (List UInt8 × Nat)
 | [],_,_=>none
 | x :: xs,u,pos=>if strayP x then none else match stepU u x.1 with
  | none=>none
  | some u'=>if u'.st=5 then some (u'.said,pos+1) else unqS xs u' (pos+x.2.length)
def unquoteL (l : List UInt8) : Option (List UInt8 × Nat):=unqS (scan l) Unq.start 0
def unqRes : Option (List UInt8 × Nat)→Ending
 | none=>.returned (.tuple #[.string ⟨#[]⟩,.int .i64 0,.int .i64 10])
 | some x=>.returned (.tuple #[.string ⟨x.1.toArray⟩,.int .i64 (x.2 : Int),.int .i64 0])
theorem unqS_stray (l : List UInt8) (h : l ≠ []) (hs : strayL l=true) (u : Unq) (pos : Nat) : unqS (scan l) u pos=none:=by
 rw [scan_cons l h,unqS,← strayL_eq l h,hs];rfl
theorem unqS_none (l : List UInt8) (h : l ≠ []) (hs : strayL l=false) (u : Unq) (pos : Nat) (hu : stepU u (decL l).1=none) : unqS (scan l) u pos=none:=by
 rw [scan_cons l h,unqS,← strayL_eq l h,hs,hu];rfl
theorem unqS_end (l : List UInt8) (h : l ≠ []) (hs : strayL l=false) (u u' : Unq) (pos : Nat) (hu : stepU u (decL l).1=some u') (h5 : u'.st=5) : unqS (scan l) u pos=some (u'.said,pos+1):=by
 rw [scan_cons l h,unqS,← strayL_eq l h,hs,hu]
 simp [h5]
theorem unqS_more (l : List UInt8) (h : l ≠ []) (hs : strayL l=false) (u u' : Unq) (pos : Nat) (hu : stepU u (decL l).1=some u') (h5 : u'.st ≠ 5) : unqS (scan l) u pos=unqS (scan (l.drop (decL l).2)) u' (pos+(decL l).2):=by
 have:=decL_le l h
 rw [scan_cons l h,unqS,← strayL_eq l h,hs,hu]
 simp [h5,Nat.min_eq_left this]
theorem conv_row {w : World} {B n c : Nat} {a : Option Addr} {l : List UInt8} (h : w.ownsRowF B 5 1 (.slice a n c) n (Lib.byteCells l)) :
 (convert 96 9 (.slice a n c)).run Tryz.prog w = .ok (.string ⟨l.toArray⟩) w:=by
 have hn : n=l.length:=by have:=h.1;rw [Lib.byteCells_length] at this;omega
 rcases h.2 with ⟨hv,h0⟩ | ⟨g,cap,cur,fz,hv,_⟩
 ·cases hv
  have hl : l=[]:=List.eq_nil_of_length_eq_zero (by omega)
  subst hl
  exact run_convert_bytes_nil w 96 5 Tryz.underlying96 Tryz.underlying5 _ _ 9 Tryz.underlying9
 ·cases hv
  subst hn
  refine run_convert_bytes_back w _ _ 5 _ _ l Tryz.underlying96 Tryz.underlying5 Tryz.underlying9 ?_
  intro j hj
  refine h.cells (g:=g) rfl j _ ?_
  simp [Lib.byteCells,List.getElem?_eq_getElem hj]
theorem unq_iter {b : Nat} {u : Unq} {w : World} {k : Nat} {s : ByteArray} {pos : Nat} (h : IsUnq b u w) (hk : w.heap[k]?=some (.stringIter s pos)) (pos' : Nat) : IsUnq b u (w.iterAt k s pos'):=by
 obtain ⟨a,c,hb,ho⟩:=h
 have hkb : b ≠ k:=by intro e;rw [e,hk] at hb;cases hb
 refine ⟨a,c,(Lib.iterAt_other w k b s pos' hkb).trans hb,ho.1,?_⟩
 rcases ho.2 with hn | ⟨g,cap,cur,fz,hv,hbg,hg,rest⟩
 ·exact .inl hn
 ·have hkg : g ≠ k:=by intro e;rw [e,hk] at hg;cases hg
  exact .inr ⟨g,cap,cur,fz,hv,hbg,(Lib.iterAt_other w k g s pos' hkg).trans hg,rest⟩
def UnqAt (w : World) (s : ByteArray) (wr : World) (pos : Nat) (u : Unq) : Prop :=
 IsUnq w.heap.size u wr∧wr.heap[w.heap.size+1]?=some (.stringIter s pos)∧Below w.heap.size w wr∧unqS (scan (s.data.toList.drop pos)) u pos=unquoteL s.data.toList∧pos ≤ s.size∧u.said.length+u.pend ≤ pos∧u.ok∧u.st ≠ 5
theorem unquote_any (s : ByteArray) (w : World) (hs : s.size ≤ 140737488351232) :
 Calls Tryz.prog 125 #[.string s] w fun e w'=>e=unqRes (unquoteL s.data.toList)∧Below w.heap.size w w':=by
 go_enter Tryz.func125,Tryz.ntmps125
 go_wp2
 go_loopw [] (fun wr=>∃ (pos : Nat) (u : Unq),UnqAt w s wr pos u) (fun wr=>s.size - wr.iterPos (w.heap.size+1))
 case atStart =>
  refine ⟨0,Unq.start,⟨none,0,?_,World.ownsRowF_nil _ _ _ _⟩,?_,((Below.refl _ w).alloc (Nat.le_refl _) _).alloc (by simp) _,by simp [unquoteL],by omega,by simp [Unq.start,Unq.pend],⟨by simp [Unq.start],by simp [Unq.start],by simp [Unq.start],by simp [Unq.start]⟩,by simp [Unq.start]⟩
  ·refine (Below.heap_alloc _ _ w.heap.size (by simp)).trans ?_
   show (w.heap.push _)[w.heap.size]?=_
   rw [Array.getElem?_push_size]
   rfl
  ·have:=World.iter_heap (w.alloc (.cells #[.int .i64 0,.int .i32 0,.slice none 0 0,.int .i32 0,.int .i64 0] 145)) s 0
   simpa using this
 case round =>
  obtain ⟨pos,u,hI,hit,hbw,hun,hpos,hsl,hok,h5⟩:=hrel
  have hksz : w.heap.size+1 < wr.heap.size:=(Array.getElem?_eq_some_iff.1 hit).1
  have HUN : Hid (unqS (scan (s.data.toList.drop pos)) u pos=unquoteL s.data.toList):=hun
  clear hun
  by_cases hp : pos < s.size
  ·have hnx : ∀ ty,(Instr.next (.pointer (some ⟨w.heap.size+1,0,none⟩)) true ty).run Tryz.prog wr=_:=fun ty=>run_next_dec_at wr (w.heap.size+1) s pos ty hit hp
   have hne:=drop_ne s pos hp
   have hwd:=(decL_width (s.data.toList.drop pos)).1
   have hwl:=width_le s pos hp
   have hmx:=decL_max (s.data.toList.drop pos)
   have hI2:=unq_iter hI hit (pos+(decL (s.data.toList.drop pos)).2)
   have hit2:=Lib.iterAt_heap wr (w.heap.size+1) s pos (pos+(decL (s.data.toList.drop pos)).2) hit
   have hbw2:=Lib.below_iterAt hbw (k:=w.heap.size+1) (by omega) s (pos+(decL (s.data.toList.drop pos)).2)
   have hst:=fun w1=>stray_any s pos w1 hp
   have hmeas : ∀ W : World,W.heap[w.heap.size+1]?=some (.stringIter s (pos+(decL (s.data.toList.drop pos)).2))→s.size - W.iterPos (w.heap.size+1) < s.size - wr.iterPos (w.heap.size+1):=by
    intro W hW
    simp only [World.iterPos,hW,hit]
    omega
   obtain ⟨W2,hW2⟩ : ∃ W2,W2=wr.iterAt (w.heap.size+1) s (pos+(decL (s.data.toList.drop pos)).2):=⟨_,rfl⟩
   rw [← hW2] at hI2 hit2 hbw2
   have hnx2 : ∀ ty,(Instr.next (.pointer (some ⟨w.heap.size+1,0,none⟩)) true ty).run Tryz.prog wr = .ok (.tuple #[.bool true,.int .i64 pos,.int .i32 (decL (s.data.toList.drop pos)).1]) W2:=fun ty=>by rw [hW2];exact hnx ty
   clear hnx hW2
   by_cases hs1 : strayL (s.data.toList.drop pos)=true
   ·rw [hs1] at hst
    have HR : Hid (unquoteL s.data.toList=none):=by rw [← HUN.out,unqS_stray _ hne hs1];trivial
    clear hs1
    go_wp2_with (go_at_call 140;refine (hst _).mono ?_;rintro e w' ⟨rfl,rfl⟩)
    go_ret3
    exact ⟨by rw [HR.out];rfl,hbw2⟩
   ·have hs2 : strayL (s.data.toList.drop pos)=false:=by simpa using hs1
    rw [hs2] at hst
    have htk:=takeU_any w.heap.size u (decL (s.data.toList.drop pos)).1 W2 (by omega) (by omega) hI2 (by omega) hok h5
    cases hsu : stepU u (decL (s.data.toList.drop pos)).1 with
    | none =>
     have HR : Hid (unquoteL s.data.toList=none):=by rw [← HUN.out,unqS_none _ hne hs2 u pos hsu];trivial
     rw [hsu] at htk
     clear hs1 hs2 hsu
     go_wp2_with (first | (go_at_call 140;refine (hst _).mono ?_;rintro e w' ⟨rfl,rfl⟩) | (go_at_call 141;refine htk.mono ?_;rintro e w' ⟨hb3,rfl⟩))
     go_ret3
     exact ⟨by rw [HR.out];rfl,hbw2.trans hb3⟩
    | some u' =>
     have henc:=enc_dec _ hne hs2
     have hok2:=stepU_ok u u' _ (decL (s.data.toList.drop pos)).2 hsu hok hwd (by rw [henc,List.length_take];omega)
     clear henc
     rw [hsu] at htk
     by_cases h55 : u'.st=5
     ·have HR : Hid (unquoteL s.data.toList=some (u'.said,pos+1)):=by rw [← HUN.out,unqS_end _ hne hs2 u u' pos hsu h55];trivial
      clear hs1 hs2 hsu
      go_wp2_with (first | (go_at_call 140;refine (hst _).mono ?_;rintro e w' ⟨rfl,rfl⟩) | (go_at_call 141;refine htk.mono ?_))
      rintro e W3 ⟨hb3,rfl,hI3,hk3⟩
      obtain ⟨a,c,g0,g1,g2,g3,g4,go⟩:=hI3.cells
      have hcv:=conv_row go
      rw [h55] at g0
      clear g1 g3 g4 go h55
      go_wp2_with fail
      go_ret3
      exact ⟨by rw [HR.out];rfl,hbw2.trans hb3⟩
     ·have HR : Hid (unqS (scan (s.data.toList.drop (pos+(decL (s.data.toList.drop pos)).2))) u' (pos+(decL (s.data.toList.drop pos)).2)=unquoteL s.data.toList):=by
       rw [← HUN.out,unqS_more _ hne hs2 u u' pos hsu h55,List.drop_drop];trivial
      clear hs1 hs2 hsu
      have b5 : (u'.st == 5)=false:=by simp;exact h55
      go_wp2_with (first | (go_at_call 140;refine (hst _).mono ?_;rintro e w' ⟨rfl,rfl⟩) | (go_at_call 141;refine htk.mono ?_))
      rintro e W3 ⟨hb3,rfl,hI3,hk3⟩
      obtain ⟨a,c,g0,g1,g2,g3,g4,go⟩:=hI3.cells
      have hit3:=hk3.iter hit2 (by omega)
      have hqa : UnqAt w s W3 _ u':=⟨hI3,hit3,hbw2.trans hb3,HR.out,hwl,by omega,hok2.1,h55⟩
      clear g1 g2 g3 g4 go h55
      go_wp2_with fail
      go_roundw
      case rel=>exact ⟨_,_,hqa⟩
      case measure=>exact hmeas _ hit3
  ·have hnx : ∀ ty,(Instr.next (.pointer (some ⟨w.heap.size+1,0,none⟩)) true ty).run Tryz.prog wr=_:=fun ty=>Lib.run_next_end_at wr (w.heap.size+1) s pos ty hit hp
   have HR : Hid (unquoteL s.data.toList=none):=by rw [← HUN.out,drop_end s pos hp];trivial
   go_wp2
   go_ret3
   exact ⟨by rw [HR.out];rfl,hbw⟩
end Go.Proofs.YthfkfbcopinmiaaGreatDoor
