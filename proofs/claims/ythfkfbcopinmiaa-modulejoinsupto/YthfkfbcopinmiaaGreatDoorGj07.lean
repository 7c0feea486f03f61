/- Own text. Package parse: rules opened and closed,brackets ahead of an arrow,the line of an operator. Package parse: whether an arrow stands behind brackets. Package parse: the rules,one by one. Package parse: what is given up is caught at the face. -/
import Derived.Test.YthfkfbcopinmiaaGreatDoorGj06
import Derived.Deep.LoopGhost
import Derived.Defers
import Derived.Recover
set_option linter.unusedVariables false
set_option linter.unusedSimpArgs false
set_option maxRecDepth 100000
set_option maxHeartbeats 8000000
namespace Go.Proofs.YthfkfbcopinmiaaGreatDoor
open Go.RowKit
def opE (o : Nat) : Ex:=⟨[.int .i64 (o : Int)],128⟩
theorem Rd.cell2 {w : World} {P : Pl} {L : List Tok} {a o : Nat} (h : Rd w P L a (opE o)) : w.cell? ⟨P.R,2,none⟩ = some (.int .i64 (o : Int)) ∧ w.frozen? ⟨P.R,2,none⟩ = false:=by
 simp [World.cell?,World.frozen?,h.r,opE]
theorem Rd.op {w : World} {P : Pl} {L : List Tok} {a o : Nat} (h : Rd w P L a (opE o)) (n : Nat) : Rd (w.setCell ⟨P.R,2,none⟩ (.int .i64 (n : Int))) P L a (opE n):=by
 refine ⟨by simp [World.setCell,Array.getElem?_modify,h.r,opE],h.t,⟨fun h0=>by simpa [World.setCell] using h.x.lt h0,fun i hi=>?_⟩,h.ne,h.le,h.small,h.cap⟩
 have hb : (w.setCell ⟨P.R,2,none⟩ (.int .i64 (n : Int))).heap[P.bl]? = w.heap[P.bl]?:=Below.heap_setCell _ _ _ _ (h.ne (by omega))
 have hc : ∀ j,(w.setCell ⟨P.R,2,none⟩ (.int .i64 (n : Int))).cell? ⟨P.bl,j,none⟩ = w.cell? ⟨P.bl,j,none⟩:=fun j=>World.cell?_of_block (a:=⟨P.bl,j,none⟩) hb
 rw [hc,hc,hc,hc]
 exact h.x.c i hi
theorem begin_any {w : World} {P : Pl} {L : List Tok} {a o : Nat} (h : Rd w P L a (opE o)) (ho : o ≤ 400) :
 Calls Tryz.prog 112 #[.pointer (some ⟨P.R,0,none⟩)] w (AnsU P L (opE (o + 1)) w (beginR L a o)):=by
 obtain ⟨⟨c0,c1⟩,f1⟩:=h.cells
 obtain ⟨c2,f2⟩:=h.cell2
 have hle:=h.le
 have C1:=rest_any h
 have CP:=fun {W : World} (r : Rd W P L a (opE o))=>place_any r
 unfold beginR
 have hR:=h
 by_cases hl : L.length ≤ a
 ·rw [if_pos hl]
  unfold AnsU
  have hz : ((L.length - a : Nat) : Int) = 0:=by omega
  go_enter Tryz.func112,Tryz.ntmps112
  go_wp2_with (first
   | (go_at_call 91;refine C1.mono ?_;rintro e W1 ⟨⟨v,rfl,ad,rfl,had⟩,b1⟩;have r1:=hR.bel b1)
   | (go_at_call 72;refine (wrong_any r1).mono ?_;rintro e W2 ⟨rfl,b2⟩))
  exact ⟨rfl,rfl,(KeptR.of b1).trans (.of b2)⟩
 ·rw [if_neg hl]
  have hz : ¬ ((L.length - a : Nat) : Int) = 0:=by omega
  have hz2 : (((L.length - a : Nat) : Int) == 0) = false:=by simpa using hz
  by_cases h4 : 400 ≤ o
  ·rw [if_pos h4]
   obtain rfl : o = 400:=by omega
   unfold AnsU
   go_enter Tryz.func112,Tryz.ntmps112
   go_wp2_with (first
    | (go_at_call 91;refine C1.mono ?_;rintro e W1 ⟨⟨v,rfl,ad,rfl,had⟩,b1⟩;have r1:=hR.bel b1;obtain ⟨d2,g2⟩:=r1.cell2)
    | (go_at_call 34;refine (CP r1).mono ?_;rintro e W2 ⟨rfl,rfl⟩))
   exact ⟨rfl,rfl,KeptR.of b1⟩
  ·rw [if_neg h4]
   have hw : IntKind.i64.wrap ((o : Int) + 1) = (o : Int) + 1:=by rw [IntKind.wrap_i64];omega
   have ho' : ¬ (o : Int) = 400:=by omega
   unfold AnsU
   go_enter Tryz.func112,Tryz.ntmps112
   go_wp2_with (go_at_call 91;refine C1.mono ?_;rintro e W1 ⟨⟨v,rfl,ad,rfl,had⟩,b1⟩;have r1:=hR.bel b1;obtain ⟨d2,g2⟩:=r1.cell2)
   go_end0
   exact ⟨rfl,by simpa using r1.op (o + 1),(KeptR.of b1).trans (KeptR.set P.R W1 2 _)⟩
theorem end_any {w : World} {P : Pl} {L : List Tok} {a o : Nat} (h : Rd w P L a (opE (o + 1))) (ho : o < 400) :
 Calls Tryz.prog 114 #[.pointer (some ⟨P.R,0,none⟩)] w fun e w'=>e = .returned (.tuple #[]) ∧ Rd w' P L a (opE o) ∧ KeptR P.R w w':=by
 obtain ⟨c2,f2⟩:=h.cell2
 have hw : IntKind.i64.wrap (((o + 1 : Nat) : Int) - 1) = (o : Int):=by rw [IntKind.wrap_i64];omega
 have hw2 : ((o + 1 : Nat) : Int) - 1 = (o : Int):=by omega
 go_enter Tryz.func114,Tryz.ntmps114
 go_wp2
 go_end0
 refine ⟨rfl,?_,KeptR.set P.R w 2 _⟩
 first
  | exact h.op o
  | simpa using h.op o
theorem opened_any (x : Tok) (w : World) : Calls Tryz.prog 154 #[x.v] w fun e w'=>e = .returned (.int .i64 (openI x)) ∧ Below w.heap.size w w':=by
 obtain ⟨k,t,n,p⟩:=x
 have bel_n : ∀ o,Below w.heap.size w (w.alloc o):=fun o=>B0.alloc le0 o
 obtain ⟨z,hz⟩ : ∃ z,openI ⟨k,t,n,p⟩ = z:=⟨_,rfl⟩
 rw [hz]
 have HZ : Hid (z = if k = 5 then (if t.toList = [40] ∨ t.toList = [91] ∨ t.toList = [123] then 1 else if t.toList = [41] ∨ t.toList = [93] ∨ t.toList = [125] then -1 else 0) else 0):=hz.symm
 clear hz
 unfold Tok.v
 by_cases hk : k = 5
 ·subst hk
  cases h1 : (t.toList == [40]) with
  | true =>
   obtain rfl : z = 1:=by rw [HZ.out,eq_of_beq h1];rfl
   clear HZ
   go_enter Tryz.func154,Tryz.ntmps154
   go_wp2
   go_ret
   exact ⟨rfl,bel_n _⟩
  | false =>
   cases h2 : (t.toList == [91]) with
   | true =>
    obtain rfl : z = 1:=by rw [HZ.out,eq_of_beq h2];rfl
    clear HZ
    go_enter Tryz.func154,Tryz.ntmps154
    go_wp2
    go_ret
    exact ⟨rfl,bel_n _⟩
   | false =>
    cases h3 : (t.toList == [123]) with
    | true =>
     obtain rfl : z = 1:=by rw [HZ.out,eq_of_beq h3];rfl
     clear HZ
     go_enter Tryz.func154,Tryz.ntmps154
     go_wp2
     go_ret
     exact ⟨rfl,bel_n _⟩
    | false =>
     cases h4 : (t.toList == [41]) with
     | true =>
      obtain rfl : z = -1:=by rw [HZ.out,eq_of_beq h4];rfl
      clear HZ
      go_enter Tryz.func154,Tryz.ntmps154
      go_wp2
      go_ret
      exact ⟨rfl,bel_n _⟩
     | false =>
      cases h5 : (t.toList == [93]) with
      | true =>
       obtain rfl : z = -1:=by rw [HZ.out,eq_of_beq h5];rfl
       clear HZ
       go_enter Tryz.func154,Tryz.ntmps154
       go_wp2
       go_ret
       exact ⟨rfl,bel_n _⟩
      | false =>
       cases h6 : (t.toList == [125]) with
       | true =>
        obtain rfl : z = -1:=by rw [HZ.out,eq_of_beq h6];rfl
        clear HZ
        go_enter Tryz.func154,Tryz.ntmps154
        go_wp2
        go_ret
        exact ⟨rfl,bel_n _⟩
       | false =>
        have g : ∀ l : List UInt8,(t.toList == l) = false → ¬ t.toList = l:=fun l h e=>by rw [e] at h;simp at h
        obtain rfl : z = 0:=by rw [HZ.out,if_pos rfl,if_neg (by rintro (e | e | e);exact g _ h1 e;exact g _ h2 e;exact g _ h3 e),if_neg (by rintro (e | e | e);exact g _ h4 e;exact g _ h5 e;exact g _ h6 e)]
        clear HZ g
        go_enter Tryz.func154,Tryz.ntmps154
        go_wp2
        go_ret
        exact ⟨rfl,bel_n _⟩
 ·obtain rfl : z = 0:=by rw [HZ.out,if_neg hk]
  clear HZ
  go_enter Tryz.func154,Tryz.ntmps154
  go_wp2
  go_ret
  exact ⟨rfl,bel_n _⟩
theorem lineOf_any (x : Tok) (w : World) : Calls Tryz.prog 159 #[x.v] w fun e w'=>e = .returned (.int .i64 (lineI x : Nat)) ∧ Below w.heap.size w w':=by
 obtain ⟨k,t,n,p⟩:=x
 have bel_n : ∀ o,Below w.heap.size w (w.alloc o):=fun o=>B0.alloc le0 o
 obtain ⟨z,hz⟩ : ∃ z,lineI ⟨k,t,n,p⟩ = z:=⟨_,rfl⟩
 rw [hz]
 have HZ : Hid (z = if k = 5 then
  (if t.toList = [124,124] then 1 else if t.toList = [38,38] then 2 else if t.toList = [61,61,61] ∨ t.toList = [33,61,61] then 3
  else if t.toList = [60] ∨ t.toList = [60,61] ∨ t.toList = [62] ∨ t.toList = [62,61] then 4 else if t.toList = [43] ∨ t.toList = [45] then 5
  else if t.toList = [42] ∨ t.toList = [47] ∨ t.toList = [37] then 6 else 0) else 0):=hz.symm
 clear hz
 unfold Tok.v
 by_cases hk : k = 5
 ·subst hk
  cases h1 : (t.toList == [124,124]) with
  | true =>
   obtain rfl : z = 1:=by rw [HZ.out,eq_of_beq h1];rfl
   clear HZ
   go_enter Tryz.func159,Tryz.ntmps159
   go_wp2
   go_ret
   exact ⟨rfl,bel_n _⟩
  | false =>
   cases h2 : (t.toList == [38,38]) with
   | true =>
    obtain rfl : z = 2:=by rw [HZ.out,eq_of_beq h2];rfl
    clear HZ
    go_enter Tryz.func159,Tryz.ntmps159
    go_wp2
    go_ret
    exact ⟨rfl,bel_n _⟩
   | false =>
    cases h3 : (t.toList == [61,61,61]) with
    | true =>
     obtain rfl : z = 3:=by rw [HZ.out,eq_of_beq h3];rfl
     clear HZ
     go_enter Tryz.func159,Tryz.ntmps159
     go_wp2
     go_ret
     exact ⟨rfl,bel_n _⟩
    | false =>
     cases h4 : (t.toList == [33,61,61]) with
     | true =>
      obtain rfl : z = 3:=by rw [HZ.out,eq_of_beq h4];rfl
      clear HZ
      go_enter Tryz.func159,Tryz.ntmps159
      go_wp2
      go_ret
      exact ⟨rfl,bel_n _⟩
     | false =>
      cases h5 : (t.toList == [60]) with
      | true =>
       obtain rfl : z = 4:=by rw [HZ.out,eq_of_beq h5];rfl
       clear HZ
       go_enter Tryz.func159,Tryz.ntmps159
       go_wp2
       go_ret
       exact ⟨rfl,bel_n _⟩
      | false =>
       cases h6 : (t.toList == [60,61]) with
       | true =>
        obtain rfl : z = 4:=by rw [HZ.out,eq_of_beq h6];rfl
        clear HZ
        go_enter Tryz.func159,Tryz.ntmps159
        go_wp2
        go_ret
        exact ⟨rfl,bel_n _⟩
       | false =>
        cases h7 : (t.toList == [62]) with
        | true =>
         obtain rfl : z = 4:=by rw [HZ.out,eq_of_beq h7];rfl
         clear HZ
         go_enter Tryz.func159,Tryz.ntmps159
         go_wp2
         go_ret
         exact ⟨rfl,bel_n _⟩
        | false =>
         cases h8 : (t.toList == [62,61]) with
         | true =>
          obtain rfl : z = 4:=by rw [HZ.out,eq_of_beq h8];rfl
          clear HZ
          go_enter Tryz.func159,Tryz.ntmps159
          go_wp2
          go_ret
          exact ⟨rfl,bel_n _⟩
         | false =>
          cases h9 : (t.toList == [43]) with
          | true =>
           obtain rfl : z = 5:=by rw [HZ.out,eq_of_beq h9];rfl
           clear HZ
           go_enter Tryz.func159,Tryz.ntmps159
           go_wp2
           go_ret
           exact ⟨rfl,bel_n _⟩
          | false =>
           cases h10 : (t.toList == [45]) with
           | true =>
            obtain rfl : z = 5:=by rw [HZ.out,eq_of_beq h10];rfl
            clear HZ
            go_enter Tryz.func159,Tryz.ntmps159
            go_wp2
            go_ret
            exact ⟨rfl,bel_n _⟩
           | false =>
            cases h11 : (t.toList == [42]) with
            | true =>
             obtain rfl : z = 6:=by rw [HZ.out,eq_of_beq h11];rfl
             clear HZ
             go_enter Tryz.func159,Tryz.ntmps159
             go_wp2
             go_ret
             exact ⟨rfl,bel_n _⟩
            | false =>
             cases h12 : (t.toList == [47]) with
             | true =>
              obtain rfl : z = 6:=by rw [HZ.out,eq_of_beq h12];rfl
              clear HZ
              go_enter Tryz.func159,Tryz.ntmps159
              go_wp2
              go_ret
              exact ⟨rfl,bel_n _⟩
             | false =>
              cases h13 : (t.toList == [37]) with
              | true =>
               obtain rfl : z = 6:=by rw [HZ.out,eq_of_beq h13];rfl
               clear HZ
               go_enter Tryz.func159,Tryz.ntmps159
               go_wp2
               go_ret
               exact ⟨rfl,bel_n _⟩
              | false =>
               have g : ∀ l : List UInt8,(t.toList == l) = false → ¬ t.toList = l:=fun l h e=>by rw [e] at h;simp at h
               obtain rfl : z = 0:=by rw [HZ.out,if_pos rfl,if_neg (g _ h1),if_neg (g _ h2),if_neg (by rintro (e | e);exact g _ h3 e;exact g _ h4 e),if_neg (by rintro (e | e | e | e);exact g _ h5 e;exact g _ h6 e;exact g _ h7 e;exact g _ h8 e),if_neg (by rintro (e | e);exact g _ h9 e;exact g _ h10 e),if_neg (by rintro (e | e | e);exact g _ h11 e;exact g _ h12 e;exact g _ h13 e)]
               clear HZ g
               go_enter Tryz.func159,Tryz.ntmps159
               go_wp2
               go_ret
               exact ⟨rfl,bel_n _⟩
 ·obtain rfl : z = 0:=by rw [HZ.out,if_neg hk]
  clear HZ
  go_enter Tryz.func159,Tryz.ntmps159
  go_wp2
  go_ret
  exact ⟨rfl,bel_n _⟩
theorem rb {b c : Bool} (h : b = c) : Ending.returned (Value.bool b) = Ending.returned (Value.bool c):=by rw [h]
theorem openI_le (x : Tok) : -1 ≤ openI x ∧ openI x ≤ 1:=by
 unfold openI
 repeat' split
 all_goals omega
theorem arrL_cons (L : List Tok) {i : Nat} (h : i < L.length) (d : Int) : arrL L (L.drop i) i d = if d + openI L[i] = 0 then isS L (i + 1) sAr else arrL L (L.drop (i + 1)) (i + 1) (d + openI L[i]):=by
 rw [List.drop_eq_getElem_cons h,arrL]
end Go.Proofs.YthfkfbcopinmiaaGreatDoor
set_option linter.unusedVariables false
set_option linter.unusedSimpArgs false
set_option maxRecDepth 100000
set_option maxHeartbeats 8000000
namespace Go.Proofs.YthfkfbcopinmiaaGreatDoor
open Go.RowKit
theorem beforeArrow_any {w : World} {P : Pl} {L : List Tok} {a : Nat} {o : Ex} (h : Rd w P L a o) (hlt : a < L.length) :
 Calls Tryz.prog 145 #[.pointer (some ⟨P.R,0,none⟩)] w fun e w'=>e = .returned (.bool (arrow L a)) ∧ Below w.heap.size w w':=by
 have hle:=h.le
 have hsm:=h.small
 have HA : Hid (arrow L a = arrL L (L.drop a) a 0):=rfl
 generalize arrow L a = z at *
 have C1:=rest_any h
 go_enter Tryz.func145,Tryz.ntmps145
 go_wp2_with (go_at_call 91;refine C1.mono ?_;rintro e W0 ⟨⟨v,rfl,ad,rfl,had⟩,b0⟩;obtain rfl:=had (by omega))
 have hm : Hid (L.length = a + (L.length - a)):=by show _ = _;omega
 have hR:=h
 clear h C1
 generalize L.length - a = m at *
 go_loopg [3,11] m (fun gk v3 v11 wr=>∃ (i : Nat) (d : Int),v3 = .int .i64 d ∧ v11 = .int .i64 (i : Nat) ∧ Hid (gk + i = m) ∧ Below w.heap.size w wr ∧ -(i : Int) ≤ d ∧ d ≤ (i : Int) ∧ Hid (z = arrL L (L.drop (a + i)) (a + i) d))
 case atStart=>exact ⟨0,0,rfl,rfl,by simp [Hid],b0,by omega,by omega,HA.out⟩
 case round =>
  obtain ⟨i,d,rfl,rfl,hk,bel,hd1,hd2,HZ⟩:=hrel
  have him : i ≤ m:=by have:=hk.out;omega
  by_cases hi : i < m
  ·have hj : a + i < L.length:=by have:=hm.out;omega
   have ho:=openI_le L[a + i]
   obtain ⟨d0,d1,d2,d3⟩:=(hR.x.bel bel).c (a + i) hj
   have ea : P.of + (a + i) * 4 = P.of + a * 4 + i * 4:=by omega
   rw [ea] at d0 d1 d2 d3
   have HX : Hid (z = if d + openI L[a + i] = 0 then isS L (a + i + 1) sAr else arrL L (L.drop (a + i + 1)) (a + i + 1) (d + openI L[a + i])):=HZ.out.trans (arrL_cons L hj d)
   have CO:=fun W=>opened_any L[a + i] W
   clear HZ
   generalize L[a + i] = x at *
   unfold Tok.v at CO
   generalize openI x = y at *
   have hw1 : IntKind.i64.wrap (d + y) = d + y:=by rw [IntKind.wrap_i64];omega
   have hw2 : IntKind.i64.wrap ((i : Int) + 1) = ((i + 1 : Nat) : Int):=by rw [IntKind.wrap_i64];omega
   have hi' : (i : Int) < (m : Int):=by omega
   by_cases h0 : d + y = 0
   ·have HQ : Hid (z = isS L (a + (i + 1)) sAr):=by show _ = _;rw [HX.out,if_pos h0];rfl
    clear HX
    have CA:=fun {W : World} (r : Rd W P L a o)=>ahead_any r (i + 1) (by omega)
    have CS:=fun W=>isSign_any (tokA L (a + (i + 1))) ⟨#[61,62]⟩ W
    have HQ2 : Hid (z = (((tokA L (a + (i + 1))).k == 5) && ((tokA L (a + (i + 1))).t.toList == (⟨#[61,62]⟩ : ByteArray).toList))):=HQ.out
    clear HQ
    generalize tokA L (a + (i + 1)) = x2 at *
    generalize ((x2.k == 5) && (x2.t.toList == (⟨#[61,62]⟩ : ByteArray).toList)) = y2 at *
    go_wp2_with (first
     | (go_at_call 154;refine (CO _).mono ?_;rintro e W1 ⟨rfl,b1⟩;have bel1:=bel.trans ((((Below.refl wr.heap.size wr).alloc le0 _).trans (b1.mono (by simp))).mono bel.size);have r1:=hR.bel bel1)
     | (go_at_call 56;refine (CA r1).mono ?_;rintro e W2 ⟨rfl,b2⟩)
     | (go_at_call 55;refine (CS _).mono ?_;rintro e W3 ⟨rfl,b3⟩))
    go_ret
    exact ⟨rb HQ2.out.symm,(bel1.trans (b2.mono bel1.size)).trans (b3.mono (by have:=b2.size;have:=bel1.size;omega))⟩
   ·have HQ : Hid (z = arrL L (L.drop (a + (i + 1))) (a + (i + 1)) (d + y)):=by show _ = _;rw [HX.out,if_neg h0];rfl
    clear HX
    go_wp2_with (go_at_call 154;refine (CO _).mono ?_;rintro e W1 ⟨rfl,b1⟩)
    have bel1:=bel.trans ((((Below.refl wr.heap.size wr).alloc le0 _).trans (b1.mono (by simp))).mono bel.size)
    go_roundg (gk - 1)
    case rel=>exact ⟨i + 1,d + y,by simp,by simp,by have:=hk.out;show _ = _;omega,bel1,by omega,by omega,HQ⟩
    case measure=>have:=hk.out;omega
  ·have HQ : Hid (z = false):=by
    show _ = _
    rw [HZ.out,List.drop_eq_nil_of_le (by have:=hm.out;omega)]
    rfl
   have hi' : ¬ (i : Int) < (m : Int):=by omega
   clear HZ
   go_wp2
   go_ret
   exact ⟨rb HQ.out.symm,bel⟩
end Go.Proofs.YthfkfbcopinmiaaGreatDoor
set_option linter.unusedVariables false
set_option linter.unusedSimpArgs false
namespace Go.Proofs.YthfkfbcopinmiaaGreatDoor
open Go.RowKit
def Ms (L : List Tok) (a o rk : Nat) : Nat:=((L.length - a) * 402 + (400 - o)) * 32 + rk
def CN (fn : FuncId) (L : List Tok) (f rk : Nat) (F : Nat → Nat → Rs Nd) : Prop:=∀ (w : World) (P : Pl) (a o : Nat),Rd w P L a (opE o) → o ≤ 400 → Ms L a o rk ≤ f → Calls Tryz.prog fn #[.pointer (some ⟨P.R,0,none⟩)] w (AnsN P L (opE o) w (F a o))
theorem LAt.n1 {W : World} {S : Nat → Prop} {b : Nat} {x : Nd} {v : Value} {t : TypeId} {fr : Nat × Nat} (hb : W.heap[b]? = some (.cells #[.int .i64 x.k,.string x.t,.int .i64 x.n,v] t fr)) (hS : S b) (hx : LAt W S v x.ks) : LAt W S (.slice (some ⟨b,0,none⟩) 1 1) [x]:=LAt.single hb hS hx
theorem LAt.n2 {W : World} {S : Nat → Prop} {b : Nat} {x y : Nd} {v u : Value} {t : TypeId} {fr : Nat × Nat} (hb : W.heap[b]? = some (.cells #[.int .i64 x.k,.string x.t,.int .i64 x.n,v,.int .i64 y.k,.string y.t,.int .i64 y.n,u] t fr)) (hS : S b) (hx : LAt W S v x.ks) (hy : LAt W S u y.ks) : LAt W S (.slice (some ⟨b,0,none⟩) 2 2) [x,y]:=by
 have hc : ∀ i,W.cell? ⟨b,i,none⟩ = (#[Value.int .i64 x.k,.string x.t,.int .i64 x.n,v,.int .i64 y.k,.string y.t,.int .i64 y.n,u] : Array Value)[i]?:=fun i=>cell_of_row W b i _ _ _ hb
 refine .row b 0 2 [x,y] (fun i=>if i = 0 then v else u) hS (Array.getElem?_eq_some_iff.1 hb).1 (fun i hi=>?_) (fun i hi=>?_)
 ·rcases i with _ | _ | i
  ·exact ⟨hc 0,hc 1,hc 2,hc 3⟩
  ·exact ⟨hc 4,hc 5,hc 6,hc 7⟩
  ·simp at hi;omega
 ·rcases i with _ | _ | i
  ·exact hx
  ·exact hy
  ·simp at hi;omega
theorem LAt.n3 {W : World} {S : Nat → Prop} {b : Nat} {x y z : Nd} {v u r : Value} {t : TypeId} {fr : Nat × Nat} (hb : W.heap[b]? = some (.cells #[.int .i64 x.k,.string x.t,.int .i64 x.n,v,.int .i64 y.k,.string y.t,.int .i64 y.n,u,.int .i64 z.k,.string z.t,.int .i64 z.n,r] t fr)) (hS : S b) (hx : LAt W S v x.ks) (hy : LAt W S u y.ks) (hz : LAt W S r z.ks) : LAt W S (.slice (some ⟨b,0,none⟩) 3 3) [x,y,z]:=by
 have hc : ∀ i,W.cell? ⟨b,i,none⟩ = (#[Value.int .i64 x.k,.string x.t,.int .i64 x.n,v,.int .i64 y.k,.string y.t,.int .i64 y.n,u,.int .i64 z.k,.string z.t,.int .i64 z.n,r] : Array Value)[i]?:=fun i=>cell_of_row W b i _ _ _ hb
 refine .row b 0 3 [x,y,z] (fun i=>if i = 0 then v else if i = 1 then u else r) hS (Array.getElem?_eq_some_iff.1 hb).1 (fun i hi=>?_) (fun i hi=>?_)
 ·rcases i with _ | _ | _ | i
  ·exact ⟨hc 0,hc 1,hc 2,hc 3⟩
  ·exact ⟨hc 4,hc 5,hc 6,hc 7⟩
  ·exact ⟨hc 8,hc 9,hc 10,hc 11⟩
  ·simp at hi;omega
 ·rcases i with _ | _ | _ | i
  ·exact hx
  ·exact hy
  ·exact hz
  ·simp at hi;omega
theorem listE_any {P : Pl} {L : List Tok} {o : Ex} {s : ByteArray} {k : FuncId} {rs caps : Array Value} (eg : ∀ args w,(callFunc k args).run Tryz.prog w = .ok (.enter k args) w) (hs : Small L) {w : World} {a : Nat} (h : Rd w P L a o) (E : Nat → Rs Nd) (hE : ∀ b,Ge (b + 1) (E b))
 (hT : ∀ W b,a ≤ b → Rd W P L b o → Calls Tryz.prog k (rs ++ caps) W (AnsN P L o W (E b))) :
 Calls Tryz.prog 84 #[.pointer (some ⟨P.R,0,none⟩),.string s,.func (.func k) rs caps] w (AnsL P L o P.R w (listE L E s a)):=by
 unfold listE
 refine list_any eg (fun (_ : Unit) b=>(E b).bind fun x c=>.ok (x,()) c) (fun _ _=>True) (fun _ _=>True) P.R w a () h trivial trivial h.lt (fun _ b x c hx=>?_) (fun _ _ _ _ _ _ _ _=>trivial) (fun _ _ _ _ _ _ _=>trivial) (fun W _ b hb _ r _ _ _=>?_)
 ·cases hEb : E b with
  | bad p e=>rw [hEb] at hx;cases hx
  | ok y d=>rw [hEb] at hx;cases hx;exact hE b _ _ hEb
 ·refine (hT W b hb r).mono ?_
  intro e W' hA
  cases hEb : E b with
  | bad p er =>
   rw [hEb] at hA
   obtain ⟨h1,h2⟩:=hA
   exact ⟨h1,.of h2⟩
  | ok y d =>
   rw [hEb] at hA
   obtain ⟨ad,c,h1,h2,h3,h4⟩:=hA
   exact ⟨ad,c,h1,h2,h3,trivial,.of h4⟩
theorem eg_anExpr : ∀ args w,(callFunc 126 args).run Tryz.prog w = .ok (.enter 126 args) w:=Go.Proofs.enters_of Tryz.func126 (by kernel_rfl) rfl
theorem eg_objectProp : ∀ args w,(callFunc 166 args).run Tryz.prog w = .ok (.enter 166 args) w:=Go.Proofs.enters_of Tryz.func166 (by kernel_rfl) rfl
theorem eg_typeOrNone : ∀ args w,(callFunc 129 args).run Tryz.prog w = .ok (.enter 129 args) w:=Go.Proofs.enters_of Tryz.func129 (by kernel_rfl) rfl
theorem eg_typing : ∀ args w,(callFunc 147 args).run Tryz.prog w = .ok (.enter 147 args) w:=Go.Proofs.enters_of Tryz.func147 (by kernel_rfl) rfl
theorem eg_aStmt : ∀ args w,(callFunc 95 args).run Tryz.prog w = .ok (.enter 95 args) w:=Go.Proofs.enters_of Tryz.func95 (by kernel_rfl) rfl
theorem propR_t {L : List Tok} {a b : Nat} {t : ByteArray} (h : propR' L a = .ok t b) : t = (tokA L a).t:=by
 unfold propR' at h
 split at h
 ·cases h;rfl
 ·cases h
def fuelL (L : List Tok) : Nat:=((L.length + 1) * 402 + 400) * 32 + 32
theorem fuel_ok (L : List Tok) (a o rk : Nat) (h : rk ≤ 32) : Ms L a o rk ≤ fuelL L:=by
 unfold Ms fuelL
 have : L.length - a ≤ L.length:=Nat.sub_le _ _
 omega
def AnsW (P : Pl) (L : List Tok) (o : Ex) (v : Value) (w : World) (r : Rs Unit) (e : Ending) (w' : World) : Prop:=match r with
 | .ok _ a=>e = .returned v ∧ Rd w' P L a o ∧ KeptR P.R w w'
 | .bad p er=>Gave p er e ∧ KeptR P.R w w'
end Go.Proofs.YthfkfbcopinmiaaGreatDoor
set_option linter.unusedVariables false
set_option linter.unusedSimpArgs false
set_option maxRecDepth 100000
set_option maxHeartbeats 8000000
namespace Go.Proofs.YthfkfbcopinmiaaGreatDoor
open Go.RowKit
theorem catch_idle (p q r : Nat) (w : World) :
 CallsD Tryz.prog 111 #[.pointer (some ⟨p,0,none⟩),.pointer (some ⟨q,0,none⟩),.pointer (some ⟨r,0,none⟩)] .returning w fun e u' w'=>e = .returned (.tuple #[]) ∧ u' = .returning ∧ w' = w:=by
 refine callsD_of_wpS Tryz.func111 rfl fun c₀ cs hu=>?_
 apply wpS_seq
 apply wpS_region
 simp [wpOpsS,go_sem,recoverD,hu,Tryz.ntmps111,Exit.thenS]
 refine wpS_of_wp ?_
 simp only [List.size_toArray,List.length_cons,List.length_nil,Nat.reduceAdd,Nat.reduceSub,Array.replicate_succ,Array.replicate_zero,List.push_toArray,List.append_toArray,List.nil_append,List.cons_append,List.setIfInBounds_toArray,List.set_cons_zero,List.set_cons_succ]
 go_wp2
 cases c₀
 simp_all [bodyPostS,results,Tryz.results111]
structure Kept3 (p q r : Nat) (w w' : World) : Prop where
 os : w'.os = w.os
 tape : w'.tape = w.tape
 output : w'.output = w.output
 size : w.heap.size ≤ w'.heap.size
 block : ∀ k,k < w.heap.size → k ≠ p → k ≠ q → k ≠ r → w'.heap[k]? = w.heap[k]?
theorem catch_panicking (p q r a : Nat) (er : Int) (n0 n1 n2 n3 q0 r0 : Value) (w : World) (mp : w.heap[p]? = some (.cells #[n0,n1,n2,n3] 24 (0,0))) (mq : w.heap[q]? = some (.cells #[q0] 3 (0,0))) (mr : w.heap[r]? = some (.cells #[r0] 25 (0,0))) (hpq : p ≠ q) (hpr : p ≠ r) (hqr : q ≠ r) (older : List PanicEntry) :
 CallsD Tryz.prog 111 #[.pointer (some ⟨p,0,none⟩),.pointer (some ⟨q,0,none⟩),.pointer (some ⟨r,0,none⟩)] (.panicking ({ v:=faultV a er,recovered:=false } :: older)) w fun e u' w'=>e = .returned (.tuple #[]) ∧ u' = .panicking ({ v:=faultV a er,recovered:=true } :: older) ∧
  w'.heap[p]? = some (.cells #[.int .i64 0,.string ⟨#[]⟩,.int .i64 0,.slice none 0 0] 24 (0,0)) ∧ w'.heap[q]? = some (.cells #[.int .i64 (a : Int)] 3 (0,0)) ∧ w'.heap[r]? = some (.cells #[.int .i64 er] 25 (0,0)) ∧ Kept3 p q r w w':=by
 refine callsD_of_wpS Tryz.func111 rfl fun c₀ cs hu=>?_
 apply wpS_seq
 apply wpS_region
 unfold faultV at *
 simp [wpOpsS,go_sem,recoverD,hu,Tryz.ntmps111,Exit.thenS]
 refine wpS_of_wp ?_
 simp only [List.size_toArray,List.length_cons,List.length_nil,Nat.reduceAdd,Nat.reduceSub,Array.replicate_succ,Array.replicate_zero,List.push_toArray,List.append_toArray,List.nil_append,List.cons_append,List.setIfInBounds_toArray,List.set_cons_zero,List.set_cons_succ]
 obtain ⟨⟨_,_,_,_⟩,_,_,_,_⟩:=t4 mp
 have cq : w.cell? ⟨q,0,none⟩ = some q0:=by simp [World.cell?,mq]
 have fq : w.frozen? ⟨q,0,none⟩ = false:=by simp [World.frozen?,mq]
 have cr : w.cell? ⟨r,0,none⟩ = some r0:=by simp [World.cell?,mr]
 have fr : w.frozen? ⟨r,0,none⟩ = false:=by simp [World.frozen?,mr]
 have lp : p < w.heap.size:=(Array.getElem?_eq_some_iff.1 mp).1
 have lq : q < w.heap.size:=(Array.getElem?_eq_some_iff.1 mq).1
 have lr : r < w.heap.size:=(Array.getElem?_eq_some_iff.1 mr).1
 have hta : ∀ w : World,(Instr.typeAssert (Value.iface 73 (Value.agg #[Value.int IntKind.i64 (a : Int),Value.int IntKind.i64 er])) 20 73 false).run Tryz.prog w = .ok (Value.agg #[Value.int IntKind.i64 (a : Int),Value.int IntKind.i64 er]) w:=fun w=>by
  first
   | rfl
   | kernel_rfl
   | simp [Instr.typeAssert,go_sem]
 go_wp2
 go_region
 obtain ⟨W1,hW1⟩ : ∃ W,((((w.setCell ⟨p,0,none⟩ (Value.int IntKind.i64 0)).setCell ⟨p,1,none⟩ (Value.string ⟨#[]⟩)).setCell ⟨p,2,none⟩ (Value.int IntKind.i64 0)).setCell ⟨p,3,none⟩ (Value.slice none 0 0)) = W:=⟨_,rfl⟩
 have p1 : W1.heap[p]? = some (.cells #[.int .i64 0,.string ⟨#[]⟩,.int .i64 0,.slice none 0 0] 24 (0,0)):=by rw [← hW1];exact t4_set _ _ _ _ mp
 have o1 : ∀ j,j ≠ p → W1.heap[j]? = w.heap[j]?:=fun j hj=>by rw [← hW1];exact blk_set4 hj _ _ _ _
 have s1 : W1.heap.size = w.heap.size:=by rw [← hW1];simp [World.setCell]
 have e1 : W1.os = w.os ∧ W1.tape = w.tape ∧ W1.output = w.output:=by rw [← hW1];exact ⟨rfl,rfl,rfl⟩
 rw [hW1]
 obtain ⟨W2,hW2⟩ : ∃ W,W1.setCell ⟨q,0,none⟩ (Value.int IntKind.i64 (a : Int)) = W:=⟨_,rfl⟩
 have q2 : W2.heap[q]? = some (.cells #[.int .i64 (a : Int)] 3 (0,0)):=by rw [← hW2];simp [World.setCell,Array.getElem?_modify,o1 q (fun e=>hpq e.symm),mq]
 have o2 : ∀ j,j ≠ q → W2.heap[j]? = W1.heap[j]?:=fun j hj=>by rw [← hW2];exact Below.heap_setCell _ _ _ _ hj
 have s2 : W2.heap.size = w.heap.size:=by rw [← hW2];simp [World.setCell,s1]
 have e2 : W2.os = w.os ∧ W2.tape = w.tape ∧ W2.output = w.output:=by rw [← hW2];exact e1
 rw [hW2]
 obtain ⟨W3,hW3⟩ : ∃ W,W2.setCell ⟨r,0,none⟩ (Value.int IntKind.i64 er) = W:=⟨_,rfl⟩
 have r3 : W3.heap[r]? = some (.cells #[.int .i64 er] 25 (0,0)):=by rw [← hW3];simp [World.setCell,Array.getElem?_modify,o2 r (fun e=>hqr e.symm),o1 r (fun e=>hpr e.symm),mr]
 have o3 : ∀ j,j ≠ r → W3.heap[j]? = W2.heap[j]?:=fun j hj=>by rw [← hW3];exact Below.heap_setCell _ _ _ _ hj
 have s3 : W3.heap.size = w.heap.size:=by rw [← hW3];simp [World.setCell,s2]
 have e3 : W3.os = w.os ∧ W3.tape = w.tape ∧ W3.output = w.output:=by rw [← hW3];exact e2
 rw [hW3]
 have oa : ∀ ob j,j < w.heap.size → (W3.alloc ob).drew.heap[j]? = W3.heap[j]?:=fun ob j hj=>Below.heap_alloc W3 ob j (by omega)
 refine ⟨rfl,_,rfl,.tuple #[],by simp [results,Tryz.results111],rfl,rfl,?_,?_,?_,e3.1,e3.2.1,e3.2.2,?_,?_⟩
 ·exact (oa _ p lp).trans ((o3 p hpr).trans ((o2 p hpq).trans p1))
 ·exact (oa _ q lq).trans ((o3 q hqr).trans q2)
 ·exact (oa _ r lr).trans r3
 ·show w.heap.size ≤ (W3.alloc _).heap.size
  simp
  omega
 ·intro k hk h1 h2 h3
  exact (oa _ k hk).trans ((o3 k h3).trans ((o2 k h2).trans (o1 k h1)))
end Go.Proofs.YthfkfbcopinmiaaGreatDoor
