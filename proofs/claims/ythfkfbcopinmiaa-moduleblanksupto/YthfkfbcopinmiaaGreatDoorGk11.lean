/- Own text. Package module: names that stand here,requests. Package module: what an item begins with;whether an import is of types alone. Package module: what may be declared,what may stand behind export default,what an item is read by. Package module: an item is read,or the fault is answered. Package module: tokens behind a call;what a whole source answers. -/
import Derived.Test.YthfkfbcopinmiaaGreatDoorGk10
set_option linter.unusedVariables false
set_option linter.unusedSimpArgs false
set_option maxRecDepth 100000
set_option maxHeartbeats 4000000
namespace Go.Proofs.YthfkfbcopinmiaaGreatDoor
open Go.RowKit
theorem takeName_any {w : World} {P : Pl} {L : List Tok} {a : Nat} {o : Ex} (h : Rd w P L a o) (s : ByteArray) :
 Calls Tryz.prog 86 #[.pointer (some ⟨P.R,0,none⟩),.string s] w fun e w'=>e = .returned (.bool (isNm L a s))∧Rd w' P L (adv (isNm L a s) a) o∧KeptR P.R w w':=by
 have C1:=token_any h
 have C2:=isName_any (tokA L a) s
 have hR:=h
 have C3:=fun W (r : Rd W P L a o)=>passIf_any r (isNm L a s) isNm_lt
 have e0 : ((tokA L a).k == 1 && (tokA L a).t.toList == s.toList)=isNm L a s:=rfl
 rw [e0] at C2
 generalize isNm L a s=q at *
 clear e0
 generalize tokA L a=x at *
 go_enter Tryz.func86,Tryz.ntmps86
 go_wp2_with (first
  | (go_at_call 36;refine C1.mono ?_;rintro e W1 ⟨rfl,b1⟩;have r1:=hR.bel b1)
  | (go_at_call 54;refine (C2 _).mono ?_;rintro e W2 ⟨rfl,b2⟩;have r2:=r1.bel b2)
  | (go_at_call 73;refine (C3 _ r2).mono ?_;rintro e W3 ⟨rfl,r3,b3⟩))
 go_ret
 exact ⟨rfl,r3,((KeptR.of b1).trans (.of b2)).trans b3⟩
theorem from_any {w : World} {P : Pl} {L : List Tok} {a : Nat} (h : Rd w P L a mE) :
 Calls Tryz.prog 46 #[.pointer (some ⟨P.R,0,none⟩)] w (AnsU P L mE w (nameM L nFrom a)):=by
 have C1:=takeName_any h nFrom
 unfold nameM
 cases hq : isNm L a nFrom with
 | false =>
  rw [hq] at C1
  rw [if_neg (by decide)]
  unfold AnsU
  unfold nFrom at C1
  go_enter Tryz.func46,Tryz.ntmps46
  go_wp2_with (first
   | (go_at_call 86;refine C1.mono ?_;rintro e W1 ⟨rfl,r1,b1⟩)
   | (go_at_call 72;refine (wrong_any r1).mono ?_;rintro e W2 ⟨rfl,b2⟩))
  exact ⟨rfl,rfl,b1.trans (.of b2)⟩
 | true =>
  rw [hq] at C1
  rw [if_pos rfl]
  unfold AnsU
  unfold nFrom at C1
  go_enter Tryz.func46,Tryz.ntmps46
  go_wp2_with (go_at_call 86;refine C1.mono ?_;rintro e W1 ⟨rfl,r1,b1⟩)
  first
   | (go_end0;exact ⟨rfl,r1,b1⟩)
   | (refine bodyPost_ret (results_none rfl _ _ _) rfl ?_;exact ⟨rfl,r1,b1⟩)
theorem request_any {w : World} {P : Pl} {L : List Tok} {a : Nat} (h : Rd w P L a mE) (hs : Small L) :
 Calls Tryz.prog 47 #[.pointer (some ⟨P.R,0,none⟩)] w (AnsT P L mE w (requestM L a)):=by
 have C3:=token_any h
 have HN : Hid ((tokA L a).k=4→a < L.length):=fun q=>kind_lt (by rw [q];decide)
 have hR:=h
 have ht:=hs.at a
 have C2:=fun (hlt : a < L.length) {W : World} (r : Rd W P L a mE)=>pass_any r hlt ht
 unfold requestM
 generalize tokA L a=x at *
 have hf:=fld0 (.int .i64 x.k) (.string x.t) (.int .i64 x.n) (.int .i64 x.p)
 unfold Tok.v at C3
 by_cases hk : x.k=4
 ·have hlt:=HN.out hk
  replace C2:=@C2 hlt
  clear HN
  rw [if_pos hk]
  rw [hk] at C3 hf
  unfold AnsT
  go_enter Tryz.func47,Tryz.ntmps47
  go_wp2_with (first
   | (go_at_call 36;refine C3.mono ?_;rintro e W3 ⟨rfl,b3⟩)
   | (go_at_call 37;refine (C2 (hR.bel b3)).mono ?_;rintro e W2 ⟨rfl,r2,b2⟩))
  go_ret
  exact ⟨rfl,r2,(KeptR.of b3).trans b2⟩
 ·clear HN C2
  rw [if_neg hk]
  unfold AnsT
  go_enter Tryz.func47,Tryz.ntmps47
  go_wp2_with (first
   | (go_at_call 36;refine C3.mono ?_;rintro e W3 ⟨rfl,b3⟩)
   | (go_at_call 72;refine (wrong_any (hR.bel b3)).mono ?_;rintro e W2 ⟨rfl,b2⟩))
  exact ⟨rfl,rfl,(KeptR.of b3).trans (.of b2)⟩
theorem requested_any {w : World} {P : Pl} {L : List Tok} {a : Nat} (h : Rd w P L a mE) (hs : Small L) :
 Calls Tryz.prog 88 #[.pointer (some ⟨P.R,0,none⟩)] w (AnsT P L mE w (requestedM L a)):=by
 have C3:=token_any h
 have hR:=h
 have C2:=fun {W : World} (r : Rd W P L a mE)=>request_any r hs
 unfold requestedM
 generalize requestM L a=rr at *
 generalize tokA L a=x at *
 have hf:=fld1 (.int .i64 x.k) (.string x.t) (.int .i64 x.n) (.int .i64 x.p)
 unfold Tok.v at C3
 by_cases hk : x.t.toList=[]
 ·have hk2 : x.t.toList.isEmpty=true:=by rw [hk];rfl
  rw [if_pos hk]
  unfold AnsT
  clear hk C2
  go_enter Tryz.func88,Tryz.ntmps88
  go_wp2_with (first
   | (go_at_call 36;refine C3.mono ?_;rintro e W3 ⟨rfl,b3⟩)
   | (go_at_call 72;refine (wrong_any (hR.bel b3)).mono ?_;rintro e W2 ⟨rfl,b2⟩))
  exact ⟨rfl,rfl,(KeptR.of b3).trans (.of b2)⟩
 ·have hk2 : x.t.toList.isEmpty=false:=by
   cases hl : x.t.toList with
   | nil=>exact absurd hl hk
   | cons c l=>rfl
  rw [if_neg hk]
  clear hk
  go_enter Tryz.func88,Tryz.ntmps88
  go_wp2_with fail
  go_at_call 36
  refine C3.mono ?_
  rintro e W3 ⟨rfl,b3⟩
  go_wp2_with fail
  go_at_call 47
  refine (C2 (hR.bel b3)).mono ?_
  rintro e W2 A2
  cases rr with
  | bad p er =>
   obtain ⟨rfl,b2⟩:=A2
   exact ⟨rfl,rfl,(KeptR.of b3).trans b2⟩
  | ok t a1 =>
   obtain ⟨rfl,r2,b2⟩:=A2
   go_wp2
   go_ret
   exact ⟨rfl,r2,(KeptR.of b3).trans b2⟩
theorem opens_any {w : World} {P : Pl} {L : List Tok} {a : Nat} (h : Rd w P L a mE) (n s : ByteArray) :
 Calls Tryz.prog 22 #[.pointer (some ⟨P.R,0,none⟩),.string n,.string s] w fun e w'=>e = .returned (.bool (opensM L a n s))∧Below w.heap.size w w':=by
 have C1:=token_any h
 have C2 : ∀ W,Calls Tryz.prog 54 #[(tokA L a).v,.string n] W fun e w'=>e = .returned (.bool (isNm L a n))∧Below W.heap.size W w':=fun W=>isName_any (tokA L a) n W
 have C3:=fun {W : World} (b : Below w.heap.size w W)=>ahead_any (h.bel b) 1 (by omega)
 have C4:=fun {W : World} (b : Below w.heap.size w W)=>ahead_any (h.bel b) 2 (by omega)
 have C5 : ∀ W,Calls Tryz.prog 55 #[(tokA L (a+2)).v,.string s] W fun e w'=>e = .returned (.bool (isS L (a+2) s))∧Below W.heap.size W w':=fun W=>isSign_any (tokA L (a+2)) s W
 unfold opensM
 have en : isN L (a+1)=((tokA L (a+1)).k == 1):=rfl
 rw [en]
 generalize isNm L a n=q1 at *
 generalize isS L (a+2) s=q3 at *
 generalize tokA L a=x at *
 generalize tokA L (a+1)=y at *
 generalize tokA L (a+2)=z at *
 have hf:=fld0 (.int .i64 y.k) (.string y.t) (.int .i64 y.n) (.int .i64 y.p)
 unfold Tok.v at C3
 cases q1 with
 | false =>
  go_enter Tryz.func22,Tryz.ntmps22
  go_wp2_with (first
   | (go_at_call 36;refine C1.mono ?_;rintro e W1 ⟨rfl,b1⟩)
   | (go_at_call 54;refine (C2 _).mono ?_;rintro e W2 ⟨rfl,b2⟩))
  go_ret
  exact ⟨by simp,b1.trans (b2.mono b1.size)⟩
 | true =>
  by_cases hk : y.k=1
  ·have hk2 : (y.k == 1)=true:=by simp [hk]
   have e1 : (true && (y.k == 1) && q3)=q3:=by simp [hk]
   rw [e1]
   clear en e1 hk
   go_enter Tryz.func22,Tryz.ntmps22
   go_wp2_with fail
   go_at_call 36
   refine C1.mono ?_
   rintro e W1 ⟨rfl,b1⟩
   go_wp2_with fail
   go_at_call 54
   refine (C2 _).mono ?_
   rintro e W2 ⟨rfl,b2⟩
   have c2:=b1.trans (b2.mono b1.size)
   go_wp2_with fail
   go_at_call 56
   refine (C3 c2).mono ?_
   rintro e W3 ⟨rfl,b3⟩
   have c3:=c2.trans (b3.mono c2.size)
   go_wp2_with fail
   go_at_call 56
   refine (C4 c3).mono ?_
   rintro e W4 ⟨rfl,b4⟩
   have c4:=c3.trans (b4.mono c3.size)
   go_wp2_with fail
   go_at_call 55
   refine (C5 _).mono ?_
   rintro e W5 ⟨rfl,b5⟩
   have c5:=c4.trans (b5.mono c4.size)
   go_wp2
   go_ret
   exact ⟨rfl,c5⟩
  ·have hk2 : (y.k == 1)=false:=by simp [hk]
   have e1 : (true && (y.k == 1) && q3)=false:=by simp [hk]
   rw [e1]
   clear en e1
   go_enter Tryz.func22,Tryz.ntmps22
   go_wp2_with (first
    | (go_at_call 36;refine C1.mono ?_;rintro e W1 ⟨rfl,b1⟩)
    | (go_at_call 54;refine (C2 _).mono ?_;rintro e W2 ⟨rfl,b2⟩;have c2:=b1.trans (b2.mono b1.size))
    | (go_at_call 56;refine (C3 c2).mono ?_;rintro e W3 ⟨rfl,b3⟩;have c3:=c2.trans (b3.mono c2.size)))
   go_ret
   exact ⟨rfl,c3⟩
theorem typesAlone_any {w : World} {P : Pl} {L : List Tok} {a : Nat} (h : Rd w P L a mE) :
 Calls Tryz.prog 44 #[.pointer (some ⟨P.R,0,none⟩)] w fun e w'=>e = .returned (.bool (typesAloneM L a))∧Below w.heap.size w w':=by
 have C1:=token_any h
 have C2 : ∀ W,Calls Tryz.prog 54 #[(tokA L a).v,.string nType] W fun e w'=>e = .returned (.bool (isNm L a nType))∧Below W.heap.size W w':=fun W=>isName_any (tokA L a) nType W
 have C3:=fun {W : World} (b : Below w.heap.size w W)=>ahead_any (h.bel b) 1 (by omega)
 have C4:=fun {W : World} (b : Below w.heap.size w W)=>ahead_any (h.bel b) 2 (by omega)
 have C5 : ∀ W,Calls Tryz.prog 54 #[(tokA L (a+1)).v,.string nFrom] W fun e w'=>e = .returned (.bool (isNm L (a+1) nFrom))∧Below W.heap.size W w':=fun W=>isName_any (tokA L (a+1)) nFrom W
 have C6 : ∀ W,Calls Tryz.prog 55 #[(tokA L (a+1)).v,.string sCb] W fun e w'=>e = .returned (.bool (isS L (a+1) sCb))∧Below W.heap.size W w':=fun W=>isSign_any (tokA L (a+1)) sCb W
 unfold typesAloneM
 have en : isN L (a+1)=((tokA L (a+1)).k == 1):=rfl
 rw [en]
 clear en
 generalize isNm L a nType=q1 at *
 generalize isNm L (a+1) nFrom=q2 at *
 generalize isS L (a+1) sCb=q3 at *
 generalize tokA L a=x at *
 generalize tokA L (a+1)=y at *
 generalize tokA L (a+2)=z at *
 have hf:=fld0 (.int .i64 z.k) (.string z.t) (.int .i64 z.n) (.int .i64 z.p)
 unfold Tok.v at C3 C4 C5 C6
 unfold nType at C2
 unfold nFrom at C5
 unfold sCb at C6
 have HT : Hid (∀ W : World,(W.alloc (Obj.cells #[.int .i64 y.k,.string y.t,.int .i64 y.n,.int .i64 y.p] 37)).heap[W.heap.size]?=some (.cells #[.int .i64 y.k,.string y.t,.int .i64 y.n,.int .i64 y.p] 37 (0,0))):=fun W=>heap_alloc_new W _
 cases q1 with
 | false =>
  rw [Bool.false_and]
  clear C3 C4 C5 C6
  go_enter Tryz.func44,Tryz.ntmps44
  go_wp2_with fail
  go_at_call 36
  refine C1.mono ?_
  rintro e W1 ⟨rfl,b1⟩
  go_wp2_with fail
  go_at_call 54
  refine (C2 _).mono ?_
  rintro e W2 ⟨rfl,b2⟩
  have c2:=b1.trans (b2.mono b1.size)
  go_wp2
  go_ret
  exact ⟨rfl,c2⟩
 | true =>
  rw [Bool.true_and]
  cases q2 with
  | true =>
   rw [if_pos rfl]
   clear C6
   go_enter Tryz.func44,Tryz.ntmps44
   go_wp2_with fail
   go_at_call 36
   refine C1.mono ?_
   rintro e W1 ⟨rfl,b1⟩
   go_wp2_with fail
   go_at_call 54
   refine (C2 _).mono ?_
   rintro e W2 ⟨rfl,b2⟩
   have c2:=b1.trans (b2.mono b1.size)
   go_wp2_with fail
   go_at_call 56
   refine (C3 c2).mono ?_
   rintro e W3 ⟨rfl,b3⟩
   have c3:=c2.trans (b3.mono c2.size)
   have mT:=HT.out W3
   obtain ⟨⟨_,_,_,_⟩,_,_,_,_⟩:=t4 mT
   have bT : Below W3.heap.size W3 (W3.alloc (Obj.cells #[.int .i64 y.k,.string y.t,.int .i64 y.n,.int .i64 y.p] 37)):=B0.alloc le0 _
   have c4:=c3.trans (bT.mono c3.size)
   go_wp2_with fail
   go_at_call 54
   refine (C5 _).mono ?_
   rintro e W5 ⟨rfl,b5⟩
   have c5:=c4.trans (b5.mono c4.size)
   have m5:=(b5.block W3.heap.size (by simp)).trans mT
   obtain ⟨⟨_,_,_,_⟩,_,_,_,_⟩:=t4 m5
   go_wp2_with fail
   go_at_call 56
   refine (C4 c5).mono ?_
   rintro e W6 ⟨rfl,b6⟩
   have c6:=c5.trans (b6.mono c5.size)
   go_wp2
   go_ret
   exact ⟨by simp [bne],c6⟩
  | false =>
   rw [if_neg (by decide)]
   by_cases hk : y.k=1
   ·have hk2 : (y.k == 1)=true:=by simp [hk]
    rw [hk2,Bool.true_or]
    clear hk C4 C6
    go_enter Tryz.func44,Tryz.ntmps44
    go_wp2_with fail
    go_at_call 36
    refine C1.mono ?_
    rintro e W1 ⟨rfl,b1⟩
    go_wp2_with fail
    go_at_call 54
    refine (C2 _).mono ?_
    rintro e W2 ⟨rfl,b2⟩
    have c2:=b1.trans (b2.mono b1.size)
    go_wp2_with fail
    go_at_call 56
    refine (C3 c2).mono ?_
    rintro e W3 ⟨rfl,b3⟩
    have c3:=c2.trans (b3.mono c2.size)
    have mT:=HT.out W3
    obtain ⟨⟨_,_,_,_⟩,_,_,_,_⟩:=t4 mT
    have bT : Below W3.heap.size W3 (W3.alloc (Obj.cells #[.int .i64 y.k,.string y.t,.int .i64 y.n,.int .i64 y.p] 37)):=B0.alloc le0 _
    have c4:=c3.trans (bT.mono c3.size)
    go_wp2_with fail
    go_at_call 54
    refine (C5 _).mono ?_
    rintro e W5 ⟨rfl,b5⟩
    have c5:=c4.trans (b5.mono c4.size)
    have m5:=(b5.block W3.heap.size (by simp)).trans mT
    obtain ⟨⟨_,_,_,_⟩,_,_,_,_⟩:=t4 m5
    go_wp2
    go_ret
    exact ⟨rfl,c5⟩
   ·have hk2 : (y.k == 1)=false:=by simp [hk]
    rw [hk2,Bool.false_or]
    clear hk C4
    go_enter Tryz.func44,Tryz.ntmps44
    go_wp2_with fail
    go_at_call 36
    refine C1.mono ?_
    rintro e W1 ⟨rfl,b1⟩
    go_wp2_with fail
    go_at_call 54
    refine (C2 _).mono ?_
    rintro e W2 ⟨rfl,b2⟩
    have c2:=b1.trans (b2.mono b1.size)
    go_wp2_with fail
    go_at_call 56
    refine (C3 c2).mono ?_
    rintro e W3 ⟨rfl,b3⟩
    have c3:=c2.trans (b3.mono c2.size)
    have mT:=HT.out W3
    obtain ⟨⟨_,_,_,_⟩,_,_,_,_⟩:=t4 mT
    have bT : Below W3.heap.size W3 (W3.alloc (Obj.cells #[.int .i64 y.k,.string y.t,.int .i64 y.n,.int .i64 y.p] 37)):=B0.alloc le0 _
    have c4:=c3.trans (bT.mono c3.size)
    go_wp2_with fail
    go_at_call 54
    refine (C5 _).mono ?_
    rintro e W5 ⟨rfl,b5⟩
    have c5:=c4.trans (b5.mono c4.size)
    have m5:=(b5.block W3.heap.size (by simp)).trans mT
    obtain ⟨⟨_,_,_,_⟩,_,_,_,_⟩:=t4 m5
    go_wp2_with fail
    go_at_call 55
    refine (C6 _).mono ?_
    rintro e W6 ⟨rfl,b6⟩
    have c6:=c5.trans (b6.mono c5.size)
    go_wp2
    go_ret
    exact ⟨rfl,c6⟩
abbrev bound (P : Pl) (k : FuncId) : Value:=.func (.func k) #[.pointer (some ⟨P.R,0,none⟩)] #[]
def dfK (L : List Tok) (a : Nat) : FuncId:=if isWd L a wFunc=true then 24 else if isWd L a wClass=true then 19 else 87
theorem defaulted_any {w : World} {P : Pl} {L : List Tok} {a : Nat} (h : Rd w P L a mE) :
 Calls Tryz.prog 50 #[.pointer (some ⟨P.R,0,none⟩)] w fun e w'=>e = .returned (bound P (dfK L a))∧Below w.heap.size w w':=by
 have C1:=standsWord_any h wFunc
 have C2:=fun {W : World} (b : Below w.heap.size w W)=>standsWord_any (h.bel b) wClass
 unfold dfK
 unfold wFunc at C1
 unfold wClass at C2
 cases q1 : isWd L a wFunc with
 | true =>
  unfold wFunc at q1
  rw [q1] at C1
  rw [if_pos rfl]
  go_enter Tryz.func50,Tryz.ntmps50
  go_wp2_with (go_at_call 18;refine C1.mono ?_;rintro e W1 ⟨rfl,b1⟩)
  go_ret
  exact ⟨rfl,b1⟩
 | false =>
  unfold wFunc at q1
  rw [q1] at C1
  rw [if_neg (by decide)]
  cases q2 : isWd L a wClass with
  | true =>
   unfold wClass at q2
   rw [if_pos rfl]
   go_enter Tryz.func50,Tryz.ntmps50
   go_wp2_with fail
   go_at_call 18
   refine C1.mono ?_
   rintro e W1 ⟨rfl,b1⟩
   have C3:=C2 b1
   rw [q2] at C3
   go_wp2_with fail
   go_at_call 18
   refine C3.mono ?_
   rintro e W2 ⟨rfl,b2⟩
   go_wp2
   go_ret
   exact ⟨rfl,b1.trans (b2.mono b1.size)⟩
  | false =>
   unfold wClass at q2
   rw [if_neg (by decide)]
   go_enter Tryz.func50,Tryz.ntmps50
   go_wp2_with fail
   go_at_call 18
   refine C1.mono ?_
   rintro e W1 ⟨rfl,b1⟩
   have C3:=C2 b1
   rw [q2] at C3
   go_wp2_with fail
   go_at_call 18
   refine C3.mono ?_
   rintro e W2 ⟨rfl,b2⟩
   go_wp2
   go_ret
   exact ⟨rfl,b1.trans (b2.mono b1.size)⟩
set_option maxHeartbeats 8000000
theorem res_readM {W : World} {p q r : Nat} {a b c d vq vr : Value} {tmps : Array Value} (mp : W.heap[p]?=some (.cells #[a,b,c,d] 24 (0,0))) (mq : W.heap[q]?=some (.cells #[vq] 3 (0,0))) (mr : W.heap[r]?=some (.cells #[vr] 25 (0,0)))
 (h6 : tmps[6]?.getD undef = .pointer (some ⟨p,0,none⟩)) (h7 : tmps[7]?.getD undef = .pointer (some ⟨q,0,none⟩)) (h8 : tmps[8]?.getD undef = .pointer (some ⟨r,0,none⟩)) : (results Tryz.f15 tmps).run Tryz.prog W = .ok (.tuple #[.agg #[a,b,c,d],vq,vr]) W:=by
 obtain ⟨⟨c0,c1,c2,c3⟩,_⟩:=t4 mp
 have cq : W.cell? ⟨q,0,none⟩=some vq:=by rw [cell_of_row _ _ _ _ _ _ mq];rfl
 have cr : W.cell? ⟨r,0,none⟩=some vr:=by rw [cell_of_row _ _ _ _ _ _ mr];rfl
 simp [results,Tryz.results15,go_sem,h6,h7,h8,c0,c1,c2,c3,cq,cr]
theorem door_okM {w W3 : World} {x : Nd} {b : Nat} {ad : Option Addr} {c : Nat} {tmps : Array Value} (j3 : W3.heap[w.heap.size]?=some (.cells #[.int .i64 x.k,.string x.t,.int .i64 x.n,.slice ad x.ks.length c] 24 (0,0))) (m2 : W3.heap[w.heap.size+1]?=some (.cells #[.int .i64 0] 3 (0,0))) (m3 : W3.heap[w.heap.size+1+1]?=some (.cells #[.int .i64 0] 25 (0,0)))
 (l3 : LAt W3 (fun b=>w.heap.size+3 ≤ b) (.slice ad x.ks.length c) x.ks) (b3 : Below w.heap.size w W3) (h6 : tmps[6]?.getD undef = .pointer (some ⟨w.heap.size,0,none⟩)) (h7 : tmps[7]?.getD undef = .pointer (some ⟨w.heap.size+1,0,none⟩)) (h8 : tmps[8]?.getD undef = .pointer (some ⟨w.heap.size+1+1,0,none⟩)) :
 bodyPostD Tryz.prog Tryz.f15 (AnsF w (faceR (Rs.ok x b))) Exit.ret { tmps:=tmps,defers:=[{ target:=Target.fn (Fn.func 32) #[Value.pointer (some ⟨w.heap.size,0,none⟩),Value.pointer (some ⟨w.heap.size+1,0,none⟩),Value.pointer (some ⟨w.heap.size+1+1,0,none⟩)],args:=#[] }] }
  ((((((W3.setCell ⟨w.heap.size,0,none⟩ (Value.int IntKind.i64 x.k)).setCell ⟨w.heap.size,1,none⟩ (Value.string x.t)).setCell ⟨w.heap.size,2,none⟩ (Value.int IntKind.i64 x.n)).setCell ⟨w.heap.size,3,none⟩ (Value.slice ad x.ks.length c)).setCell ⟨w.heap.size+1,0,none⟩ (Value.int IntKind.i64 (b : Int))).setCell ⟨w.heap.size+1+1,0,none⟩ (Value.int IntKind.i64 0)).drew:=by
 obtain ⟨W4,hW4⟩ : ∃ W,((((W3.setCell ⟨w.heap.size,0,none⟩ (Value.int IntKind.i64 x.k)).setCell ⟨w.heap.size,1,none⟩ (Value.string x.t)).setCell ⟨w.heap.size,2,none⟩ (Value.int IntKind.i64 x.n)).setCell ⟨w.heap.size,3,none⟩ (Value.slice ad x.ks.length c))=W:=⟨_,rfl⟩
 have n1 : W4.heap[w.heap.size]?=some (.cells #[.int .i64 x.k,.string x.t,.int .i64 x.n,.slice ad x.ks.length c] 24 (0,0)):=by rw [← hW4];exact t4_set _ _ _ _ j3
 have o4 : ∀ j,j ≠ w.heap.size→W4.heap[j]?=W3.heap[j]?:=fun j hj=>by rw [← hW4];exact blk_set4 hj _ _ _ _
 have s4 : W4.heap.size=W3.heap.size:=by rw [← hW4];simp [World.setCell]
 have e4 : W4.os=W3.os∧W4.tape=W3.tape∧W4.output=W3.output:=by rw [← hW4];exact ⟨rfl,rfl,rfl⟩
 rw [hW4]
 clear hW4
 obtain ⟨W5,hW5⟩ : ∃ W,W4.setCell ⟨w.heap.size+1,0,none⟩ (Value.int IntKind.i64 (b : Int))=W:=⟨_,rfl⟩
 have n2 : W5.heap[w.heap.size+1]?=some (.cells #[.int .i64 (b : Int)] 3 (0,0)):=by rw [← hW5];exact set1 ((o4 _ (by omega)).trans m2) _
 have o5 : ∀ j,j ≠ w.heap.size+1→W5.heap[j]?=W4.heap[j]?:=fun j hj=>by rw [← hW5];exact Below.heap_setCell _ _ _ _ hj
 have s5 : W5.heap.size=W3.heap.size:=by rw [← hW5];simp [World.setCell,s4]
 have e5 : W5.os=W3.os∧W5.tape=W3.tape∧W5.output=W3.output:=by rw [← hW5];exact e4
 rw [hW5]
 clear hW5
 obtain ⟨W6,hW6⟩ : ∃ W,W5.setCell ⟨w.heap.size+1+1,0,none⟩ (Value.int IntKind.i64 0)=W:=⟨_,rfl⟩
 have n3 : W6.heap[w.heap.size+1+1]?=some (.cells #[.int .i64 0] 25 (0,0)):=by rw [← hW6];exact set1 ((o5 _ (by omega)).trans ((o4 _ (by omega)).trans m3)) _
 have o6 : ∀ j,j ≠ w.heap.size+1+1→W6.heap[j]?=W5.heap[j]?:=fun j hj=>by rw [← hW6];exact Below.heap_setCell _ _ _ _ hj
 have s6 : W6.drew.heap.size=W3.heap.size:=by rw [← hW6];simp [World.setCell,World.drew,s5]
 have e6 : W6.os=W3.os∧W6.tape=W3.tape∧W6.output=W3.output:=by rw [← hW6];exact e5
 rw [hW6]
 clear hW6
 have q1 : W6.drew.heap[w.heap.size]?=_:=(o6 _ (by omega)).trans ((o5 _ (by omega)).trans n1)
 have q2 : W6.drew.heap[w.heap.size+1]?=some (.cells #[.int .i64 (b : Int)] 3 (0,0)):=(o6 _ (by omega)).trans n2
 have q3 : W6.drew.heap[w.heap.size+1+1]?=some (.cells #[.int .i64 0] 25 (0,0)):=n3
 have o7 : ∀ j,j ≠ w.heap.size→j ≠ w.heap.size+1→j ≠ w.heap.size+1+1→W6.drew.heap[j]?=W3.heap[j]?:=fun j h1 h2 h3=>(o6 j h3).trans ((o5 j h2).trans (o4 j h1))
 refine leaves_cons (f:=32) (args:=#[.pointer (some ⟨w.heap.size,0,none⟩),.pointer (some ⟨w.heap.size+1,0,none⟩),.pointer (some ⟨w.heap.size+1+1,0,none⟩)]) (by simp) (by simp [go_sem]) ?_
 refine (catch_idleM w.heap.size (w.heap.size+1) (w.heap.size+1+1) _).mono ?_
 rintro e u' W7 ⟨rfl,rfl,rfl⟩
 have zb:=b3.size
 refine ⟨_,res_readM q1 q2 q3 h6 h7 h8,ad,c,rfl,?_,?_⟩
 ·exact ((l3.keep (by omega) (fun j hj hl=>o7 j (by omega) (by omega) (by omega))).mono (fun b hb=>by omega))
 ·exact ⟨e6.1.trans b3.os,e6.2.1.trans b3.tape,e6.2.2.trans b3.output,by omega,fun j hj=>(o7 j (by omega) (by omega) (by omega)).trans (b3.block j hj)⟩
theorem readM_any (L : List Tok) (kc : FuncId) (egc : ∀ args w,(callFunc kc args).run Tryz.prog w = .ok (.enter kc args) w) (K : Nat→FuncId) (egK : ∀ a args w,(callFunc (K a) args).run Tryz.prog w = .ok (.enter (K a) args) w) (F : Nat→Rs Nd) (w : World) (v : Value) (a : Nat) (hv : TkV w v L) (hal : a ≤ L.length)
 (hCh : ∀ W P,Rd W P L a mE→Calls Tryz.prog kc #[.pointer (some ⟨P.R,0,none⟩)] W fun e w'=>e = .returned (bound P (K a))∧Below W.heap.size W w') (hIt : ∀ W P,Rd W P L a mE→Calls Tryz.prog (K a) #[.pointer (some ⟨P.R,0,none⟩)] W (AnsN P L mE W (F a))) :
 Calls Tryz.prog 15 #[v,.int .i64 (a : Int),.func (.func kc) #[] #[]] w (AnsF w (faceR (F a))):=by
 obtain ⟨⟨ta,tc,bl,of,rfl,hta,hx,hcp⟩,hsm,htx⟩:=hv
 have hmf : ∀ (fn : Fn) (first cap : Array Value) (w : World),(Instr.makeFunc fn first cap).run Tryz.prog w = .ok (.func fn first cap) w:=fun _ _ _ _=>rfl
 have HCh : Hid (∀ W P,Rd W P L a mE→Calls Tryz.prog kc #[.pointer (some ⟨P.R,0,none⟩)] W fun e w'=>e = .returned (bound P (K a))∧Below W.heap.size W w'):=hCh
 have HIt : Hid (∀ W P,Rd W P L a mE→Calls Tryz.prog (K a) #[.pointer (some ⟨P.R,0,none⟩)] W (AnsN P L mE W (F a))):=hIt
 clear hCh hIt
 obtain ⟨rr,hrr⟩ : ∃ r,F a=r:=⟨_,rfl⟩
 have HRR : Hid (F a=rr):=hrr
 rw [hrr]
 clear hrr
 obtain ⟨W0,hW0⟩ : ∃ W,((w.alloc (Obj.cells #[.int .i64 0,.string ⟨#[]⟩,.int .i64 0,.slice none 0 0] 24)).alloc (Obj.cells #[.int .i64 0] 3)).alloc (Obj.cells #[.int .i64 0] 25)=W:=⟨_,rfl⟩
 have b0 : Below w.heap.size w W0:=by rw [← hW0];exact ((B0.alloc le0 _).alloc (by simp) _).alloc (by simp;omega) _
 have mp : W0.heap[w.heap.size]?=some (.cells #[.int .i64 0,.string ⟨#[]⟩,.int .i64 0,.slice none 0 0] 24 (0,0)):=by rw [← hW0];exact hold _ (by simp;omega) (hold _ (by simp) (hnew _ rfl))
 have mq : W0.heap[w.heap.size+1]?=some (.cells #[.int .i64 0] 3 (0,0)):=by rw [← hW0];exact hold _ (by simp) (hnew _ (by simp))
 have mr : W0.heap[w.heap.size+1+1]?=some (.cells #[.int .i64 0] 25 (0,0)):=by rw [← hW0];exact hnew _ (by simp)
 have s0 : W0.heap.size=w.heap.size+3:=by rw [← hW0];simp
 go_enter_defers Tryz.func15,Tryz.ntmps15
 go_wp2_with fail
 go_at_call 33
 refine (new_any _ ta L.length tc rfl (a : Int) _).mono ?_
 rintro e W1 ⟨rfl,b1⟩
 obtain ⟨WR,hWR⟩ : ∃ W,W1.alloc (Obj.cells #[.slice ta L.length tc,.int .i64 (a : Int)] 60)=W:=⟨_,rfl⟩
 have bR : Below W1.heap.size W1 WR:=by rw [← hWR];exact B0.alloc le0 _
 have mR : WR.heap[W1.heap.size]?=some (.cells #[.slice ta L.length tc,.int .i64 (a : Int)] 60 (0,0)):=by rw [← hWR];exact hnew _ rfl
 have s1:=b1.size
 have sR:=bR.size
 have bW : Below w.heap.size w WR:=b0.trans ((b1.mono (by omega)).trans (bR.mono (by omega)))
 have rR : Rd WR ⟨W1.heap.size,bl,of,tc,ta⟩ L a mE:=⟨mR,hta,hx.bel bW,fun q=>by have:=hx.lt q;show bl ≠ W1.heap.size;omega,hal,hsm,hcp⟩
 have CC:=HCh.out _ _ rR
 go_wp2_with fail
 go_at_fn kc
 refine CC.mono ?_
 rintro e WC ⟨rfl,bC⟩
 have rC:=rR.bel bC
 have CR:=HIt.out _ _ rC
 rw [HRR.out] at CR
 obtain ⟨k,hk⟩ : ∃ k,K a=k:=⟨_,rfl⟩
 rw [hk] at CR
 have eg:=egK a
 rw [hk] at eg
 unfold bound
 rw [hk]
 clear hk
 have sC:=bC.size
 go_wp2_with fail
 go_at_fn k
 refine CR.mono ?_
 rintro e W2 A2
 have kp : ∀ {W : World},KeptR W1.heap.size WR W→W.heap[w.heap.size]?=some (.cells #[.int .i64 0,.string ⟨#[]⟩,.int .i64 0,.slice none 0 0] 24 (0,0))∧W.heap[w.heap.size+1]?=some (.cells #[.int .i64 0] 3 (0,0))∧W.heap[w.heap.size+1+1]?=some (.cells #[.int .i64 0] 25 (0,0)):=fun {W} kk=>by
  have g : ∀ j,j < W0.heap.size→W.heap[j]?=W0.heap[j]?:=fun j hj=>(kk.block j (by omega) (by omega)).trans ((bR.block j (by omega)).trans (b1.block j hj))
  exact ⟨(g _ (by omega)).trans mp,(g _ (by omega)).trans mq,(g _ (by omega)).trans mr⟩
 have KP : Hid (∀ {W : World},KeptR W1.heap.size WR W→W.heap[w.heap.size]?=some (.cells #[.int .i64 0,.string ⟨#[]⟩,.int .i64 0,.slice none 0 0] 24 (0,0))∧W.heap[w.heap.size+1]?=some (.cells #[.int .i64 0] 3 (0,0))∧W.heap[w.heap.size+1+1]?=some (.cells #[.int .i64 0] 25 (0,0))):=kp
 clear kp
 cases rr with
 | bad p er =>
  obtain ⟨rfl,b2'⟩:=A2
  have b2 : KeptR W1.heap.size WR W2:=(KeptR.of bC).trans b2'
  obtain ⟨m1,m2,m3⟩:=KP.out b2
  have s2:=b2.size
  go_wp2
  refine leaves_cons (f:=32) (args:=#[.pointer (some ⟨w.heap.size,0,none⟩),.pointer (some ⟨w.heap.size+1,0,none⟩),.pointer (some ⟨w.heap.size+1+1,0,none⟩)]) (by simp) (by simp [go_sem]) ?_
  refine (catch_panickingM w.heap.size (w.heap.size+1) (w.heap.size+1+1) p er _ _ _ _ _ _ _ m1 m2 m3 (by omega) (by omega) (by omega) []).mono ?_
  rintro e u' W3 ⟨rfl,rfl,n1,n2,n3,k3⟩
  refine ⟨_,res_readM n1 n2 n3 rfl rfl rfl,none,0,rfl,.nil _ _,?_⟩
  refine ⟨k3.os.trans (b2.os.trans bW.os),k3.tape.trans (b2.tape.trans bW.tape),k3.output.trans (b2.output.trans bW.output),by have:=bW.size;have:=k3.size;omega,fun j hj=>?_⟩
  exact (k3.block j (by have:=bW.size;omega) (by omega) (by omega) (by omega)).trans ((b2.block j (by have:=bW.size;omega) (by show j ≠ W1.heap.size;omega)).trans (bW.block j hj))
 | ok x b =>
  obtain ⟨ad,c,rfl,l2',r2,b2'⟩:=A2
  have b2 : KeptR W1.heap.size WR W2:=(KeptR.of bC).trans b2'
  have l2:=l2'.mono (T:=fun b=>WR.heap.size ≤ b) (fun b hb=>Nat.le_trans sC hb)
  obtain ⟨m1,m2,m3⟩:=KP.out b2
  have s2:=b2.size
  obtain ⟨⟨_,_,_,_⟩,_,_,_,_⟩:=t4 m1
  go_wp2_with fail
  obtain ⟨W3,hW3⟩ : ∃ W,((((W2.setCell ⟨w.heap.size,0,none⟩ (Value.int IntKind.i64 x.k)).setCell ⟨w.heap.size,1,none⟩ (Value.string x.t)).setCell ⟨w.heap.size,2,none⟩ (Value.int IntKind.i64 x.n)).setCell ⟨w.heap.size,3,none⟩ (Value.slice ad x.ks.length c))=W:=⟨_,rfl⟩
  have j3 : W3.heap[w.heap.size]?=some (.cells #[.int .i64 x.k,.string x.t,.int .i64 x.n,.slice ad x.ks.length c] 24 (0,0)):=by rw [← hW3];exact t4_set _ _ _ _ m1
  have o3 : ∀ j,j ≠ w.heap.size→W3.heap[j]?=W2.heap[j]?:=fun j hj=>by rw [← hW3];exact blk_set4 hj _ _ _ _
  have s3 : W3.heap.size=W2.heap.size:=by rw [← hW3];simp [World.setCell]
  have e3 : W3.os=W2.os∧W3.tape=W2.tape∧W3.output=W2.output:=by rw [← hW3];exact ⟨rfl,rfl,rfl⟩
  have r3 : Rd W3 ⟨W1.heap.size,bl,of,tc,ta⟩ L b mE:=by rw [← hW3];exact r2.set4 (by show W1.heap.size ≠ _;omega) (fun q=>by have:=hx.lt q;show bl ≠ _;omega) _ _ _ _
  have l3 : LAt W3 (fun b=>w.heap.size+1 ≤ b) (.slice ad x.ks.length c) x.ks:=by rw [← hW3];exact l2.set4 (by omega) (by omega) _ _ _ _
  rw [hW3]
  have m2':=(o3 _ (by omega)).trans m2
  have m3':=(o3 _ (by omega)).trans m3
  have cq : W3.cell? ⟨w.heap.size+1,0,none⟩=some (Value.int IntKind.i64 0):=by rw [cell_of_row _ _ _ _ _ _ m2'];rfl
  have fq : W3.frozen? ⟨w.heap.size+1,0,none⟩=false:=by simp [World.frozen?,m2']
  have cr : W3.cell? ⟨w.heap.size+1+1,0,none⟩=some (Value.int IntKind.i64 0):=by rw [cell_of_row _ _ _ _ _ _ m3'];rfl
  have fr : W3.frozen? ⟨w.heap.size+1+1,0,none⟩=false:=by simp [World.frozen?,m3']
  obtain ⟨⟨_,_,_,_⟩,_,_,_,_⟩:=t4 j3
  have CP:=place_any (r3.bel (B0.drew))
  refine wp_region_noPanic ?_
  refine wp_region_any (by kernel_rfl) ?_
  change wpAny _ _ _ _ _ _ _ (World.drew _)
  have cqd : W3.drew.cell? ⟨w.heap.size+1,0,none⟩=some (Value.int IntKind.i64 0):=cq
  have j3d : W3.drew.heap[w.heap.size]?=_:=j3
  obtain ⟨⟨_,_,_,_⟩,_,_,_,_⟩:=t4 j3d
  refine tk 1 (.pointer (some ⟨W1.heap.size,0,none⟩)) ?_
  refine tk 2 (.pointer (some ⟨W1.heap.size,0,none⟩)) ?_
  refine tk 3 (.pointer (some ⟨W1.heap.size,0,none⟩)) ?_
  refine wpAny_two (i:=0) (j:=4) (is:=[4,5,6,7]) (js:=[0,5,6,7]) (os:=[_,_,_,_]) (us:=[_,_,_,_]) (by kernel_rfl) rfl rfl (by kernel_rfl) (by kernel_rfl) rfl rfl (by decide) (by decide) ?_ ?_
  all_goals
   go_wp2_with fail
   go_at_call 34
   refine CP.mono ?_
   rintro e W5 ⟨rfl,rfl⟩
   go_wp2_with fail
   refine NoPanic.normal ?_
   go_wp2
   have zW:=bW.size
   refine door_okM j3 m2' m3' ?_ ?_ rfl rfl rfl
   ·exact ((l2.mono' (T:=fun b=>WR.heap.size ≤ b) (fun b hl hb=>hb)).keep (by omega) (fun j hj hl=>o3 j (by omega))).mono (fun b hb=>by omega)
   ·exact ⟨e3.1.trans (b2.os.trans bW.os),e3.2.1.trans (b2.tape.trans bW.tape),e3.2.2.trans (b2.output.trans bW.output),by omega,fun j hj=>(o3 j (by omega)).trans ((b2.block j (by omega) (by show j ≠ W1.heap.size;omega)).trans (bW.block j hj))⟩
theorem TkV.bel {w w' : World} {v : Value} {L : List Tok} (h : TkV w v L) (b : Below w.heap.size w w') : TkV w' v L:=by
 obtain ⟨⟨ta,tc,bl,of,e,h1,h2,h3⟩,h4,h5⟩:=h
 exact ⟨⟨ta,tc,bl,of,e,h1,h2.bel b,h3⟩,h4,h5⟩
theorem TkV.keep {w w' : World} {v : Value} {L : List Tok} {B : Nat} (h : TkV w v L) (hB : w.heap.size ≤ B) (hs : w.heap.size ≤ w'.heap.size) (b : ∀ j,j < w.heap.size→w'.heap[j]?=w.heap[j]?) : TkV w' v L:=by
 obtain ⟨⟨ta,tc,bl,of,e,h1,h2,h3⟩,h4,h5⟩:=h
 refine ⟨⟨ta,tc,bl,of,e,h1,⟨fun q=>Nat.lt_of_lt_of_le (h2.lt q) hs,fun i hi=>?_⟩,h3⟩,h4,h5⟩
 have hl:=h2.lt (by omega)
 obtain ⟨c0,c1,c2,c3⟩:=h2.c i hi
 exact ⟨(World.cell?_of_block (a:=⟨bl,_,none⟩) (b bl hl)).trans c0,(World.cell?_of_block (a:=⟨bl,_,none⟩) (b bl hl)).trans c1,(World.cell?_of_block (a:=⟨bl,_,none⟩) (b bl hl)).trans c2,(World.cell?_of_block (a:=⟨bl,_,none⟩) (b bl hl)).trans c3⟩
theorem res_whole {fn : Func} {p q r : Nat} (h : fn.results=#[.cell p 24,.tmp q,.tmp r]) {W : World} {n : Nat} {a b c d : Value} {t : TypeId} {tmps : Array Value} (hb : W.heap[n]?=some (.cells #[a,b,c,d] t (0,0))) (ht : tmps[p]?.getD undef = .pointer (some ⟨n,0,none⟩)) :
 (results fn tmps).run Tryz.prog W = .ok (.tuple #[.agg #[a,b,c,d],tmps[q]?.getD undef,tmps[r]?.getD undef]) W:=by
 obtain ⟨⟨c0,c1,c2,c3⟩,_⟩:=t4 hb
 simp [results,h,go_sem,ht,c0,c1,c2,c3]
end Go.Proofs.YthfkfbcopinmiaaGreatDoor
