/- Own text. Package parse: whether an arrow stands behind brackets. Package parse: the rules,one by one. Package parse: what is given up is caught at the face. Package module: the rules as functions of the tokens (a model of the program's own text;no program is named here). -/
import Derived.Test.YthfkfbcopinmiaaGreatDoorGk05
import Derived.Defers
import Derived.Recover
set_option linter.unusedVariables false
set_option linter.unusedSimpArgs false
set_option maxRecDepth 100000
set_option maxHeartbeats 8000000
namespace Go.Proofs.YthfkfbcopinmiaaGreatDoor
open Go.RowKit
theorem beforeArrow_any {w : World} {P : Pl} {L : List Tok} {a : Nat} {o : Ex} (h : Rd w P L a o) (hlt : a < L.length) :
 Calls Tryz.prog 145 #[.pointer (some ⟨P.R,0,none⟩)] w fun e w'=>e = .returned (.bool (arrow L a))∧Below w.heap.size w w':=by
 have hle:=h.le
 have hsm:=h.small
 have HA : Hid (arrow L a=arrL L (L.drop a) a 0):=rfl
 generalize arrow L a=z at *
 have C1:=rest_any h
 go_enter Tryz.func145,Tryz.ntmps145
 go_wp2_with (go_at_call 91;refine C1.mono ?_;rintro e W0 ⟨⟨v,rfl,ad,rfl,had⟩,b0⟩;obtain rfl:=had (by omega))
 have hm : Hid (L.length=a+(L.length - a)):=by show _=_;omega
 have hR:=h
 clear h C1
 generalize L.length - a=m at *
 go_loopg [3,11] m (fun gk v3 v11 wr=>∃ (i : Nat) (d : Int),v3 = .int .i64 d∧v11 = .int .i64 (i : Nat)∧Hid (gk+i=m)∧Below w.heap.size w wr∧-(i : Int) ≤ d∧d ≤ (i : Int)∧Hid (z=arrL L (L.drop (a+i)) (a+i) d))
 case atStart=>exact ⟨0,0,rfl,rfl,by simp [Hid],b0,by omega,by omega,HA.out⟩
 case round =>
  obtain ⟨i,d,rfl,rfl,hk,bel,hd1,hd2,HZ⟩:=hrel
  have him : i ≤ m:=by have:=hk.out;omega
  by_cases hi : i < m
  ·have hj : a+i < L.length:=by have:=hm.out;omega
   have ho:=openI_le L[a+i]
   obtain ⟨d0,d1,d2,d3⟩:=(hR.x.bel bel).c (a+i) hj
   have ea : P.of+(a+i) * 4=P.of+a * 4+i * 4:=by omega
   rw [ea] at d0 d1 d2 d3
   have HX : Hid (z=if d+openI L[a+i]=0 then isS L (a+i+1) sAr else arrL L (L.drop (a+i+1)) (a+i+1) (d+openI L[a+i])):=HZ.out.trans (arrL_cons L hj d)
   have CO:=fun W=>opened_any L[a+i] W
   clear HZ
   generalize L[a+i]=x at *
   unfold Tok.v at CO
   generalize openI x=y at *
   have hw1 : IntKind.i64.wrap (d+y)=d+y:=by rw [IntKind.wrap_i64];omega
   have hw2 : IntKind.i64.wrap ((i : Int)+1)=((i+1 : Nat) : Int):=by rw [IntKind.wrap_i64];omega
   have hi' : (i : Int) < (m : Int):=by omega
   by_cases h0 : d+y=0
   ·have HQ : Hid (z=isS L (a+(i+1)) sAr):=by show _=_;rw [HX.out,if_pos h0];rfl
    clear HX
    have CA:=fun {W : World} (r : Rd W P L a o)=>ahead_any r (i+1) (by omega)
    have CS:=fun W=>isSign_any (tokA L (a+(i+1))) ⟨#[61,62]⟩ W
    have HQ2 : Hid (z=(((tokA L (a+(i+1))).k == 5) && ((tokA L (a+(i+1))).t.toList == (⟨#[61,62]⟩ : ByteArray).toList))):=HQ.out
    clear HQ
    generalize tokA L (a+(i+1))=x2 at *
    generalize ((x2.k == 5) && (x2.t.toList == (⟨#[61,62]⟩ : ByteArray).toList))=y2 at *
    go_wp2_with (first
     | (go_at_call 154;refine (CO _).mono ?_;rintro e W1 ⟨rfl,b1⟩;have bel1:=bel.trans ((((Below.refl wr.heap.size wr).alloc le0 _).trans (b1.mono (by simp))).mono bel.size);have r1:=hR.bel bel1)
     | (go_at_call 56;refine (CA r1).mono ?_;rintro e W2 ⟨rfl,b2⟩)
     | (go_at_call 55;refine (CS _).mono ?_;rintro e W3 ⟨rfl,b3⟩))
    go_ret
    exact ⟨rb HQ2.out.symm,(bel1.trans (b2.mono bel1.size)).trans (b3.mono (by have:=b2.size;have:=bel1.size;omega))⟩
   ·have HQ : Hid (z=arrL L (L.drop (a+(i+1))) (a+(i+1)) (d+y)):=by show _=_;rw [HX.out,if_neg h0];rfl
    clear HX
    go_wp2_with (go_at_call 154;refine (CO _).mono ?_;rintro e W1 ⟨rfl,b1⟩)
    have bel1:=bel.trans ((((Below.refl wr.heap.size wr).alloc le0 _).trans (b1.mono (by simp))).mono bel.size)
    go_roundg (gk - 1)
    case rel=>exact ⟨i+1,d+y,by simp,by simp,by have:=hk.out;show _=_;omega,bel1,by omega,by omega,HQ⟩
    case measure=>have:=hk.out;omega
  ·have HQ : Hid (z=false):=by
    show _=_
    rw [HZ.out,List.drop_eq_nil_of_le (by have:=hm.out;omega)]
    rfl
   have hi' : ¬ (i : Int) < (m : Int):=by omega
   clear HZ
   go_wp2
   go_ret
   exact ⟨rb HQ.out.symm,bel⟩
def Ms (L : List Tok) (a o rk : Nat) : Nat:=((L.length - a) * 402+(400 - o)) * 32+rk
def CN (fn : FuncId) (L : List Tok) (f rk : Nat) (F : Nat→Nat→Rs Nd) : Prop:=∀ (w : World) (P : Pl) (a o : Nat),Rd w P L a (opE o)→o ≤ 400→Ms L a o rk ≤ f→Calls Tryz.prog fn #[.pointer (some ⟨P.R,0,none⟩)] w (AnsN P L (opE o) w (F a o))
theorem LAt.n1 {W : World} {S : Nat→Prop} {b : Nat} {x : Nd} {v : Value} {t : TypeId} {fr : Nat × Nat} (hb : W.heap[b]?=some (.cells #[.int .i64 x.k,.string x.t,.int .i64 x.n,v] t fr)) (hS : S b) (hx : LAt W S v x.ks) : LAt W S (.slice (some ⟨b,0,none⟩) 1 1) [x]:=LAt.single hb hS hx
theorem LAt.n2 {W : World} {S : Nat→Prop} {b : Nat} {x y : Nd} {v u : Value} {t : TypeId} {fr : Nat × Nat} (hb : W.heap[b]?=some (.cells #[.int .i64 x.k,.string x.t,.int .i64 x.n,v,.int .i64 y.k,.string y.t,.int .i64 y.n,u] t fr)) (hS : S b) (hx : LAt W S v x.ks) (hy : LAt W S u y.ks) : LAt W S (.slice (some ⟨b,0,none⟩) 2 2) [x,y]:=by
 have hc : ∀ i,W.cell? ⟨b,i,none⟩=(#[Value.int .i64 x.k,.string x.t,.int .i64 x.n,v,.int .i64 y.k,.string y.t,.int .i64 y.n,u] : Array Value)[i]?:=fun i=>cell_of_row W b i _ _ _ hb
 refine .row b 0 2 [x,y] (fun i=>if i=0 then v else u) hS (Array.getElem?_eq_some_iff.1 hb).1 (fun i hi=>?_) (fun i hi=>?_)
 ·rcases i with _ | _ | i
  ·exact ⟨hc 0,hc 1,hc 2,hc 3⟩
  ·exact ⟨hc 4,hc 5,hc 6,hc 7⟩
  ·simp at hi;omega
 ·rcases i with _ | _ | i
  ·exact hx
  ·exact hy
  ·simp at hi;omega
theorem LAt.n3 {W : World} {S : Nat→Prop} {b : Nat} {x y z : Nd} {v u r : Value} {t : TypeId} {fr : Nat × Nat} (hb : W.heap[b]?=some (.cells #[.int .i64 x.k,.string x.t,.int .i64 x.n,v,.int .i64 y.k,.string y.t,.int .i64 y.n,u,.int .i64 z.k,.string z.t,.int .i64 z.n,r] t fr)) (hS : S b) (hx : LAt W S v x.ks) (hy : LAt W S u y.ks) (hz : LAt W S r z.ks) : LAt W S (.slice (some ⟨b,0,none⟩) 3 3) [x,y,z]:=by
 have hc : ∀ i,W.cell? ⟨b,i,none⟩=(#[Value.int .i64 x.k,.string x.t,.int .i64 x.n,v,.int .i64 y.k,.string y.t,.int .i64 y.n,u,.int .i64 z.k,.string z.t,.int .i64 z.n,r] : Array Value)[i]?:=fun i=>cell_of_row W b i _ _ _ hb
 refine .row b 0 3 [x,y,z] (fun i=>if i=0 then v else if i=1 then u else r) hS (Array.getElem?_eq_some_iff.1 hb).1 (fun i hi=>?_) (fun i hi=>?_)
 ·rcases i with _ | _ | _ | i
  ·exact ⟨hc 0,hc 1,hc 2,hc 3⟩
  ·exact ⟨hc 4,hc 5,hc 6,hc 7⟩
  ·exact ⟨hc 8,hc 9,hc 10,hc 11⟩
  ·simp at hi;omega
 ·rcases i with _ | _ | _ | i
  ·exact hx
  ·exact hy
  ·exact hz
  ·simp at hi;omega
theorem listE_any {P : Pl} {L : List Tok} {o : Ex} {s : ByteArray} {k : FuncId} {rs caps : Array Value} (eg : ∀ args w,(callFunc k args).run Tryz.prog w = .ok (.enter k args) w) (hs : Small L) {w : World} {a : Nat} (h : Rd w P L a o) (E : Nat→Rs Nd) (hE : ∀ b,Ge (b+1) (E b))
 (hT : ∀ W b,a ≤ b→Rd W P L b o→Calls Tryz.prog k (rs ++ caps) W (AnsN P L o W (E b))) :
 Calls Tryz.prog 84 #[.pointer (some ⟨P.R,0,none⟩),.string s,.func (.func k) rs caps] w (AnsL P L o P.R w (listE L E s a)):=by
 unfold listE
 refine list_any eg (fun (_ : Unit) b=>(E b).bind fun x c=>.ok (x,()) c) (fun _ _=>True) (fun _ _=>True) P.R w a () h trivial trivial h.lt (fun _ b x c hx=>?_) (fun _ _ _ _ _ _ _ _=>trivial) (fun _ _ _ _ _ _ _=>trivial) (fun W _ b hb _ r _ _ _=>?_)
 ·cases hEb : E b with
  | bad p e=>rw [hEb] at hx;cases hx
  | ok y d=>rw [hEb] at hx;cases hx;exact hE b _ _ hEb
 ·refine (hT W b hb r).mono ?_
  intro e W' hA
  cases hEb : E b with
  | bad p er =>
   rw [hEb] at hA
   obtain ⟨h1,h2⟩:=hA
   exact ⟨h1,.of h2⟩
  | ok y d =>
   rw [hEb] at hA
   obtain ⟨ad,c,h1,h2,h3,h4⟩:=hA
   exact ⟨ad,c,h1,h2,h3,trivial,.of h4⟩
theorem eg_anExpr : ∀ args w,(callFunc 126 args).run Tryz.prog w = .ok (.enter 126 args) w:=Go.Proofs.enters_of Tryz.func126 (by kernel_rfl) rfl
theorem eg_objectProp : ∀ args w,(callFunc 166 args).run Tryz.prog w = .ok (.enter 166 args) w:=Go.Proofs.enters_of Tryz.func166 (by kernel_rfl) rfl
theorem eg_typeOrNone : ∀ args w,(callFunc 129 args).run Tryz.prog w = .ok (.enter 129 args) w:=Go.Proofs.enters_of Tryz.func129 (by kernel_rfl) rfl
theorem eg_typing : ∀ args w,(callFunc 147 args).run Tryz.prog w = .ok (.enter 147 args) w:=Go.Proofs.enters_of Tryz.func147 (by kernel_rfl) rfl
theorem eg_aStmt : ∀ args w,(callFunc 95 args).run Tryz.prog w = .ok (.enter 95 args) w:=Go.Proofs.enters_of Tryz.func95 (by kernel_rfl) rfl
theorem propR_t {L : List Tok} {a b : Nat} {t : ByteArray} (h : propR' L a = .ok t b) : t=(tokA L a).t:=by
 unfold propR' at h
 split at h
 ·cases h;rfl
 ·cases h
def fuelL (L : List Tok) : Nat:=((L.length+1) * 402+400) * 32+32
theorem fuel_ok (L : List Tok) (a o rk : Nat) (h : rk ≤ 32) : Ms L a o rk ≤ fuelL L:=by
 unfold Ms fuelL
 have : L.length - a ≤ L.length:=Nat.sub_le _ _
 omega
def AnsW (P : Pl) (L : List Tok) (o : Ex) (v : Value) (w : World) (r : Rs Unit) (e : Ending) (w' : World) : Prop:=match r with
 | .ok _ a=>e = .returned v∧Rd w' P L a o∧KeptR P.R w w'
 | .bad p er=>Gave p er e∧KeptR P.R w w'
theorem catch_idle (p q r : Nat) (w : World) :
 CallsD Tryz.prog 111 #[.pointer (some ⟨p,0,none⟩),.pointer (some ⟨q,0,none⟩),.pointer (some ⟨r,0,none⟩)] .returning w fun e u' w'=>e = .returned (.tuple #[])∧u' = .returning∧w'=w:=by
 refine callsD_of_wpS Tryz.func111 rfl fun c₀ cs hu=>?_
 apply wpS_seq
 apply wpS_region
 simp [wpOpsS,go_sem,recoverD,hu,Tryz.ntmps111,Exit.thenS]
 refine wpS_of_wp ?_
 simp only [List.size_toArray,List.length_cons,List.length_nil,Nat.reduceAdd,Nat.reduceSub,Array.replicate_succ,Array.replicate_zero,List.push_toArray,List.append_toArray,List.nil_append,List.cons_append,List.setIfInBounds_toArray,List.set_cons_zero,List.set_cons_succ]
 go_wp2
 cases c₀
 simp_all [bodyPostS,results,Tryz.results111]
structure Kept3 (p q r : Nat) (w w' : World) : Prop where
 os : w'.os=w.os
 tape : w'.tape=w.tape
 output : w'.output=w.output
 size : w.heap.size ≤ w'.heap.size
 block : ∀ k,k < w.heap.size→k ≠ p→k ≠ q→k ≠ r→w'.heap[k]?=w.heap[k]?
theorem catch_panicking (p q r a : Nat) (er : Int) (n0 n1 n2 n3 q0 r0 : Value) (w : World) (mp : w.heap[p]?=some (.cells #[n0,n1,n2,n3] 24 (0,0))) (mq : w.heap[q]?=some (.cells #[q0] 3 (0,0))) (mr : w.heap[r]?=some (.cells #[r0] 25 (0,0))) (hpq : p ≠ q) (hpr : p ≠ r) (hqr : q ≠ r) (older : List PanicEntry) :
 CallsD Tryz.prog 111 #[.pointer (some ⟨p,0,none⟩),.pointer (some ⟨q,0,none⟩),.pointer (some ⟨r,0,none⟩)] (.panicking ({ v:=faultV a er,recovered:=false } :: older)) w fun e u' w'=>e = .returned (.tuple #[])∧u' = .panicking ({ v:=faultV a er,recovered:=true } :: older) ∧
  w'.heap[p]?=some (.cells #[.int .i64 0,.string ⟨#[]⟩,.int .i64 0,.slice none 0 0] 24 (0,0))∧w'.heap[q]?=some (.cells #[.int .i64 (a : Int)] 3 (0,0))∧w'.heap[r]?=some (.cells #[.int .i64 er] 25 (0,0))∧Kept3 p q r w w':=by
 refine callsD_of_wpS Tryz.func111 rfl fun c₀ cs hu=>?_
 apply wpS_seq
 apply wpS_region
 unfold faultV at *
 simp [wpOpsS,go_sem,recoverD,hu,Tryz.ntmps111,Exit.thenS]
 refine wpS_of_wp ?_
 simp only [List.size_toArray,List.length_cons,List.length_nil,Nat.reduceAdd,Nat.reduceSub,Array.replicate_succ,Array.replicate_zero,List.push_toArray,List.append_toArray,List.nil_append,List.cons_append,List.setIfInBounds_toArray,List.set_cons_zero,List.set_cons_succ]
 obtain ⟨⟨_,_,_,_⟩,_,_,_,_⟩:=t4 mp
 have cq : w.cell? ⟨q,0,none⟩=some q0:=by simp [World.cell?,mq]
 have fq : w.frozen? ⟨q,0,none⟩=false:=by simp [World.frozen?,mq]
 have cr : w.cell? ⟨r,0,none⟩=some r0:=by simp [World.cell?,mr]
 have fr : w.frozen? ⟨r,0,none⟩=false:=by simp [World.frozen?,mr]
 have lp : p < w.heap.size:=(Array.getElem?_eq_some_iff.1 mp).1
 have lq : q < w.heap.size:=(Array.getElem?_eq_some_iff.1 mq).1
 have lr : r < w.heap.size:=(Array.getElem?_eq_some_iff.1 mr).1
 have hta : ∀ w : World,(Instr.typeAssert (Value.iface 73 (Value.agg #[Value.int IntKind.i64 (a : Int),Value.int IntKind.i64 er])) 20 73 false).run Tryz.prog w = .ok (Value.agg #[Value.int IntKind.i64 (a : Int),Value.int IntKind.i64 er]) w:=fun w=>by
  first
   | rfl
   | kernel_rfl
   | simp [Instr.typeAssert,go_sem]
 go_wp2
 go_region
 obtain ⟨W1,hW1⟩ : ∃ W,((((w.setCell ⟨p,0,none⟩ (Value.int IntKind.i64 0)).setCell ⟨p,1,none⟩ (Value.string ⟨#[]⟩)).setCell ⟨p,2,none⟩ (Value.int IntKind.i64 0)).setCell ⟨p,3,none⟩ (Value.slice none 0 0))=W:=⟨_,rfl⟩
 have p1 : W1.heap[p]?=some (.cells #[.int .i64 0,.string ⟨#[]⟩,.int .i64 0,.slice none 0 0] 24 (0,0)):=by rw [← hW1];exact t4_set _ _ _ _ mp
 have o1 : ∀ j,j ≠ p→W1.heap[j]?=w.heap[j]?:=fun j hj=>by rw [← hW1];exact blk_set4 hj _ _ _ _
 have s1 : W1.heap.size=w.heap.size:=by rw [← hW1];simp [World.setCell]
 have e1 : W1.os=w.os∧W1.tape=w.tape∧W1.output=w.output:=by rw [← hW1];exact ⟨rfl,rfl,rfl⟩
 rw [hW1]
 obtain ⟨W2,hW2⟩ : ∃ W,W1.setCell ⟨q,0,none⟩ (Value.int IntKind.i64 (a : Int))=W:=⟨_,rfl⟩
 have q2 : W2.heap[q]?=some (.cells #[.int .i64 (a : Int)] 3 (0,0)):=by rw [← hW2];simp [World.setCell,Array.getElem?_modify,o1 q (fun e=>hpq e.symm),mq]
 have o2 : ∀ j,j ≠ q→W2.heap[j]?=W1.heap[j]?:=fun j hj=>by rw [← hW2];exact Below.heap_setCell _ _ _ _ hj
 have s2 : W2.heap.size=w.heap.size:=by rw [← hW2];simp [World.setCell,s1]
 have e2 : W2.os=w.os∧W2.tape=w.tape∧W2.output=w.output:=by rw [← hW2];exact e1
 rw [hW2]
 obtain ⟨W3,hW3⟩ : ∃ W,W2.setCell ⟨r,0,none⟩ (Value.int IntKind.i64 er)=W:=⟨_,rfl⟩
 have r3 : W3.heap[r]?=some (.cells #[.int .i64 er] 25 (0,0)):=by rw [← hW3];simp [World.setCell,Array.getElem?_modify,o2 r (fun e=>hqr e.symm),o1 r (fun e=>hpr e.symm),mr]
 have o3 : ∀ j,j ≠ r→W3.heap[j]?=W2.heap[j]?:=fun j hj=>by rw [← hW3];exact Below.heap_setCell _ _ _ _ hj
 have s3 : W3.heap.size=w.heap.size:=by rw [← hW3];simp [World.setCell,s2]
 have e3 : W3.os=w.os∧W3.tape=w.tape∧W3.output=w.output:=by rw [← hW3];exact e2
 rw [hW3]
 have oa : ∀ ob j,j < w.heap.size→(W3.alloc ob).drew.heap[j]?=W3.heap[j]?:=fun ob j hj=>Below.heap_alloc W3 ob j (by omega)
 refine ⟨rfl,_,rfl,.tuple #[],by simp [results,Tryz.results111],rfl,rfl,?_,?_,?_,e3.1,e3.2.1,e3.2.2,?_,?_⟩
 ·exact (oa _ p lp).trans ((o3 p hpr).trans ((o2 p hpq).trans p1))
 ·exact (oa _ q lq).trans ((o3 q hqr).trans q2)
 ·exact (oa _ r lr).trans r3
 ·show w.heap.size ≤ (W3.alloc _).heap.size
  simp
  omega
 ·intro k hk h1 h2 h3
  exact (oa _ k hk).trans ((o3 k h3).trans ((o2 k h2).trans (o1 k h1)))
def wClass : ByteArray:=⟨#[99,108,97,115,115]⟩
def wImport : ByteArray:=⟨#[105,109,112,111,114,116]⟩
def wExport : ByteArray:=⟨#[101,120,112,111,114,116]⟩
def wDefault : ByteArray:=⟨#[100,101,102,97,117,108,116]⟩
def nType : ByteArray:=⟨#[116,121,112,101]⟩
def nFrom : ByteArray:=⟨#[102,114,111,109]⟩
def nAs : ByteArray:=⟨#[97,115]⟩
def nCtor : ByteArray:=⟨#[99,111,110,115,116,114,117,99,116,111,114]⟩
def sSt : ByteArray:=⟨#[42]⟩
def isNm (L : List Tok) (a : Nat) (s : ByteArray) : Bool:=((tokA L a).k == 1) && ((tokA L a).t.toList == s.toList)
def exprM (L : List Tok) (a : Nat) : Rs Nd:=exprF L (fuelL L) a 0
def typeM (L : List Tok) (a : Nat) : Rs Nd:=typeF L (fuelL L) a 0
def stmtM (L : List Tok) (a : Nat) : Rs Nd:=stmtF L (fuelL L) a 0
def toM (L : List Tok) (a : Nat) : Rs Nd:=if isS L a sCo=true then typeM L (a+1) else .ok noneN a
def endM (L : List Tok) (n : Nd) (a : Nat) : Rs Nd:=(wantR L sSe a).bind fun _ a1=>.ok n a1
def opensM (L : List Tok) (a : Nat) (n s : ByteArray) : Bool:=isNm L a n && isN L (a+1) && isS L (a+2) s
def aliasM (L : List Tok) (a : Nat) : Rs Nd:=(idR L (a+1)).bind fun t a1=>(wantR L sAs a1).bind fun _ a2=>(typeM L a2).bind fun y a3=>endM L (mk0 46 t [y]) a3
structure Mem where
 fs : List Nd
 cs : List Nd
 ms : List Nd
 ns : List (List UInt8)
def ctorM (L : List Tok) (m : Mem) (a : Nat) : Rs Mem:=if m.cs = [] then
    (paramsG L (toM L) (a+1)).bind fun p a1=>(blockG L (stmtM L) a1).bind fun b a2=>.ok { m with cs:=m.cs ++ [mk0 44 mtT [p,b]] } a2
 else .bad a 60
def methodM (L : List Tok) (m : Mem) (t : ByteArray) (a : Nat) : Rs Mem:=(paramsG L (toM L) a).bind fun p a1=>(toM L a1).bind fun y a2=>(blockG L (stmtM L) a2).bind fun b a3=>.ok { m with ms:=m.ms ++ [mk0 45 t [p,y,b]] } a3
def fieldM (L : List Tok) (m : Mem) (t : ByteArray) (a : Nat) : Rs Mem:=(toM L a).bind fun y a1=>(wantR L sAs a1).bind fun _ a2=>(exprM L a2).bind fun e a3=>(wantR L sSe a3).bind fun _ a4=>.ok { m with fs:=m.fs ++ [mk0 43 t [y,e]] } a4
def memberM (L : List Tok) (m : Mem) (a : Nat) : Rs Mem:=if isNm L a nCtor=true∧isS L (a+1) sPo=true then ctorM L m a
 else (addR L m.ns a).bind fun ns _=>(propR' L a).bind fun t a1=>if isS L a1 sPo=true then methodM L { m with ns:=ns } t a1 else fieldM L { m with ns:=ns } t a1
def membersM (L : List Tok) : Nat→Mem→Nat→Rs Mem
 | 0,_,a=>.bad a 0
 | n+1,m,a=>if isS L a sCc=true then .ok m (a+1) else (memberM L m a).bind fun m1 a1=>membersM L n m1 a1
def classM (L : List Tok) (a : Nat) : Rs Nd:=(idR L (a+1)).bind fun t a1=>(wantR L sCb a1).bind fun _ a2=>(membersM L (L.length+1 - a2) ⟨[],[],[],[nCtor.data.toList]⟩ a2).bind fun m a3=>.ok (mk0 42 t (m.fs ++ m.cs ++ m.ms)) a3
def impAs (t u : ByteArray) : Nd:=mk0 61 t [mk0 6 u []]
def nameM (L : List Tok) (s : ByteArray) (a : Nat) : Rs Unit:=if isNm L a s=true then .ok () (a+1) else .bad a 60
def requestM (L : List Tok) (a : Nat) : Rs ByteArray:=if (tokA L a).k=4 then .ok (tokA L a).t (a+1) else .bad a 60
def typesAloneM (L : List Tok) (a : Nat) : Bool:=isNm L a nType && (if isNm L (a+1) nFrom=true then (tokA L (a+2)).k != 4 else isN L (a+1) || isS L (a+1) sCb)
def starM (L : List Tok) (a : Nat) : Rs Nd:=(nameM L nAs (a+1)).bind fun _ a1=>(idR L a1).bind fun u a2=>.ok (impAs (tokA L a).t u) a2
def importOneM (L : List Tok) (a : Nat) : Rs Nd:=(propR' L a).bind fun t a1=>if isNm L a1 nAs=true then (idR L (a1+1)).bind fun u a2=>.ok (impAs t u) a2
 else if isN L a=true then .ok (impAs t t) a1 else .bad a1 60
def clauseRestM (L : List Tok) (types : Bool) (acc : List Nd) (a : Nat) : Rs (List Nd):=if types=false∧isS L a sSt=true then (starM L a).bind fun x a1=>.ok (acc ++ [x]) a1
 else (wantR L sCb a).bind fun _ a1=>if types=true∧acc=[]∧isS L a1 sCc=true then .bad a1 60 else (listE L (importOneM L) sCc a1).bind fun l a2=>.ok (acc ++ l) a2
def clauseM (L : List Tok) (types : Bool) (a : Nat) : Rs (List Nd):=if isN L a = true then
    (if isS L (a+1) sCm=true then clauseRestM L types [impAs wDefault (tokA L a).t] (a+2) else .ok [impAs wDefault (tokA L a).t] (a+1))
 else clauseRestM L types [] a
def importM (L : List Tok) (a : Nat) : Rs Nd:=if (tokA L (a+1)).k=4 then (requestM L (a+1)).bind fun t a1=>endM L (mk0 60 t []) a1
 else (clauseM L (typesAloneM L (a+1)) (a+1+(typesAloneM L (a+1)).toNat)).bind fun l a1=>(nameM L nFrom a1).bind fun _ a2=>(requestM L a2).bind fun t a3=>endM L (.mk 60 t (if typesAloneM L (a+1)=true then 1 else 0) l) a3
def requestedM (L : List Tok) (a : Nat) : Rs ByteArray:=if (tokA L a).t.toList=[] then .bad a 60 else requestM L a
def exportAllM (L : List Tok) (a : Nat) : Rs Nd:=(if isNm L (a+1) nAs=true then (propR' L (a+2)).bind fun u a1=>.ok (mk0 6 u []) a1 else .ok noneN (a+1)).bind fun y a1 =>
 (nameM L nFrom a1).bind fun _ a2=>(requestedM L a2).bind fun t a3=>endM L (mk0 64 t [mk0 65 (tokA L a).t [y]]) a3
def exportOneM (L : List Tok) (a : Nat) : Rs Nd:=(propR' L a).bind fun t a1=>if isNm L a1 nAs=true then (propR' L (a1+1)).bind fun u a2=>.ok (if u.toList=t.toList then mk0 65 t [noneN] else mk0 65 t [mk0 6 u []]) a2
 else .ok (mk0 65 t [noneN]) a1
def hereM (L : List Tok) : Nat→Bool→Nat→Bool
 | 0,h,_=>h
 | n+1,h,a=>if isS L a sCc=true then h else match exportOneM L a with
  | .bad _ _=>h
  | .ok _ a1=>hereM L n (h && isN L a) (if isS L a1 sCc=true then a1 else a1+1)
def exportNamesM (L : List Tok) (types : Int) (a : Nat) : Rs Nd:=if isS L (a+1) sCc=true then .bad (a+1) 60
 else (listE L (exportOneM L) sCc (a+1)).bind fun l a1=>if hereM L (L.length+1) true (a+1)=true∧isS L a1 sSe=true then endM L (.mk 64 mtT types l) a1
  else (nameM L nFrom a1).bind fun _ a2=>(requestedM L a2).bind fun t a3=>endM L (.mk 64 t types l) a3
def declaredM (L : List Tok) (a : Nat) : Rs Nd:=if isWd L a wLet=true ∨ isWd L a wConst=true ∨ isWd L a wFunc=true then stmtM L a
 else if isWd L a wClass=true then classM L a else if isNm L a nType=true then aliasM L a else .bad a 60
def defaultedM (L : List Tok) (a : Nat) : Rs Nd:=if isWd L a wFunc=true then stmtM L a else if isWd L a wClass=true then classM L a else (exprM L a).bind fun e a1=>endM L e a1
def exportM (L : List Tok) (a : Nat) : Rs Nd:=if isWd L (a+1) wDefault=true then (defaultedM L (a+2)).bind fun x a1=>.ok (mk0 63 mtT [x]) a1
 else if isS L (a+1) sSt=true then exportAllM L (a+1)
 else if isS L (a+1) sCb=true then exportNamesM L 0 (a+1)
 else if isNm L (a+1) nType=true∧isS L (a+2) sCb=true then exportNamesM L 1 (a+2)
 else (declaredM L (a+1)).bind fun x a1=>.ok (mk0 62 mtT [x]) a1
def itemM (L : List Tok) (a : Nat) : Rs Nd:=if isWd L a wClass=true then classM L a else if isWd L a wImport=true then importM L a else if isWd L a wExport=true then exportM L a
 else if opensM L a nType sAs=true then aliasM L a else stmtM L a
def itemsM (L : List Tok) (I : Nat→Rs Nd) : Nat→List Nd→Nat→Rs (List Nd)
 | 0,_,a=>.bad a 0
 | n+1,acc,a=>if L.length ≤ a then .ok acc a else (I a).bind fun x a1=>itemsM L I n (acc ++ [x]) a1
theorem isNm_lt {L : List Tok} {a : Nat} {s : ByteArray} (h : isNm L a s=true) : a < L.length:=by
 unfold isNm at h
 simp only [Bool.and_eq_true,beq_iff_eq] at h
 exact kind_lt (by rw [h.1];decide)
end Go.Proofs.YthfkfbcopinmiaaGreatDoor
