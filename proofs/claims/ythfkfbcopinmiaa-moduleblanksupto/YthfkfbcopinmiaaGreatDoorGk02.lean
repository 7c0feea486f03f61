/- Own text. Package cursor: signs,words and names that stand here,are passed over,or given up at. -/
import Derived.Test.YthfkfbcopinmiaaGreatDoorGk01
import Derived.Test.YthfkfbcopinmiaaGreatDoorShelf
set_option linter.unusedVariables false
set_option linter.unusedSimpArgs false
set_option maxRecDepth 100000
set_option maxHeartbeats 4000000
namespace Go.Proofs.YthfkfbcopinmiaaGreatDoor
open Go.RowKit
def isS (L : List Tok) (a : Nat) (s : ByteArray) : Bool:=((tokA L a).k == 5) && ((tokA L a).t.toList == s.toList)
def isWd (L : List Tok) (a : Nat) (s : ByteArray) : Bool:=((tokA L a).k == 2) && ((tokA L a).t.toList == s.toList)
def isN (L : List Tok) (a : Nat) : Bool:=(tokA L a).k == 1
def adv (q : Bool) (a : Nat) : Nat:=a+q.toNat
theorem kind_lt {L : List Tok} {a : Nat} (h : (tokA L a).k ≠ 0) : a < L.length:=by
 by_cases hl : a < L.length
 ·exact hl
 ·exfalso
  apply h
  unfold tokA
  rw [List.getElem?_eq_none (by omega)]
  rfl
theorem isS_lt {L : List Tok} {a : Nat} {s : ByteArray} (h : isS L a s=true) : a < L.length:=by
 unfold isS at h
 rw [Bool.and_eq_true] at h
 exact kind_lt (by have:=h.1;simp at this;omega)
theorem isWd_lt {L : List Tok} {a : Nat} {s : ByteArray} (h : isWd L a s=true) : a < L.length:=by
 unfold isWd at h
 rw [Bool.and_eq_true] at h
 exact kind_lt (by have:=h.1;simp at this;omega)
theorem isN_lt {L : List Tok} {a : Nat} (h : isN L a=true) : a < L.length:=by
 unfold isN at h
 exact kind_lt (by simp at h;omega)
structure KeptR (b : Nat) (w w' : World) : Prop where
 os : w'.os=w.os
 tape : w'.tape=w.tape
 output : w'.output=w.output
 size : w.heap.size ≤ w'.heap.size
 block : ∀ k,k < w.heap.size→k ≠ b→w'.heap[k]?=w.heap[k]?
theorem KeptR.refl (b : Nat) (w : World) : KeptR b w w:=⟨rfl,rfl,rfl,Nat.le_refl _,fun _ _ _=>rfl⟩
theorem KeptR.trans {b : Nat} {w w' w'' : World} (h : KeptR b w w') (k : KeptR b w' w'') : KeptR b w w'' :=
 ⟨k.os.trans h.os,k.tape.trans h.tape,k.output.trans h.output,Nat.le_trans h.size k.size,fun i hi hb=>(k.block i (Nat.lt_of_lt_of_le hi h.size) hb).trans (h.block i hi hb)⟩
theorem KeptR.of {b : Nat} {w w' : World} (h : Below w.heap.size w w') : KeptR b w w':=⟨h.os,h.tape,h.output,h.size,fun k hk _=>h.block k hk⟩
theorem KeptR.set (b : Nat) (w : World) (i : Nat) (v : Value) : KeptR b w (w.setCell ⟨b,i,none⟩ v) :=
 ⟨rfl,rfl,rfl,by simp [World.setCell],fun k hk hb=>Below.heap_setCell _ _ _ _ hb⟩
theorem KeptR.new {b : Nat} {w w' : World} (h : KeptR b w w') {n : Nat} (hn : w.heap.size ≤ n) (i : Nat) (v : Value) : KeptR b w (w'.setCell ⟨n,i,none⟩ v) :=
 ⟨h.os,h.tape,h.output,by simpa [World.setCell] using h.size,fun k hk hb=>(Below.heap_setCell _ _ _ _ (by show k ≠ n;omega)).trans (h.block k hk hb)⟩
theorem KeptR.alloc {b : Nat} {w w' : World} (h : KeptR b w w') (o : Obj) : KeptR b w (w'.alloc o):=h.trans (.of (B0.alloc le0 o))
theorem Rd.go {w : World} {P : Pl} {L : List Tok} {a : Nat} {o : Ex} (h : Rd w P L a o) (n : Nat) (hn : n ≤ L.length) : Rd (w.setCell ⟨P.R,1,none⟩ (.int .i64 (n : Int))) P L n o:=by
 refine ⟨by simp [World.setCell,Array.getElem?_modify,h.r],h.t,⟨fun h0=>by simpa [World.setCell] using h.x.lt h0,fun i hi=>?_⟩,h.ne,hn,h.small,h.cap⟩
 have hb : (w.setCell ⟨P.R,1,none⟩ (.int .i64 (n : Int))).heap[P.bl]?=w.heap[P.bl]?:=Below.heap_setCell _ _ _ _ (h.ne (by omega))
 have hc : ∀ j,(w.setCell ⟨P.R,1,none⟩ (.int .i64 (n : Int))).cell? ⟨P.bl,j,none⟩=w.cell? ⟨P.bl,j,none⟩:=fun j=>World.cell?_of_block (a:=⟨P.bl,j,none⟩) hb
 rw [hc,hc,hc,hc]
 exact h.x.c i hi
theorem Rd.other {w : World} {P : Pl} {L : List Tok} {a : Nat} {o : Ex} (h : Rd w P L a o) {n : Nat} (hR : P.R ≠ n) (hb : 0 < L.length→P.bl ≠ n) (i : Nat) (v : Value) : Rd (w.setCell ⟨n,i,none⟩ v) P L a o:=by
 refine ⟨(Below.heap_setCell _ _ _ _ hR).trans h.r,h.t,⟨fun h0=>by simpa [World.setCell] using h.x.lt h0,fun j hj=>?_⟩,h.ne,h.le,h.small,h.cap⟩
 have hc : ∀ q,(w.setCell ⟨n,i,none⟩ v).cell? ⟨P.bl,q,none⟩=w.cell? ⟨P.bl,q,none⟩:=fun q=>World.cell?_of_block (a:=⟨P.bl,q,none⟩) (Below.heap_setCell _ _ _ _ (hb (by omega)))
 rw [hc,hc,hc,hc]
 exact h.x.c j hj
theorem Rd.keep {w w' : World} {P : Pl} {L : List Tok} {a : Nat} {o : Ex} (h : Rd w P L a o) (hs : w.heap.size ≤ w'.heap.size) (h1 : w'.heap[P.R]?=w.heap[P.R]?) (h2 : 0 < L.length→w'.heap[P.bl]?=w.heap[P.bl]?) : Rd w' P L a o:=by
 refine ⟨h1.trans h.r,h.t,⟨fun h0=>Nat.lt_of_lt_of_le (h.x.lt h0) hs,fun j hj=>?_⟩,h.ne,h.le,h.small,h.cap⟩
 have hc : ∀ q,w'.cell? ⟨P.bl,q,none⟩=w.cell? ⟨P.bl,q,none⟩:=fun q=>World.cell?_of_block (a:=⟨P.bl,q,none⟩) (h2 (by omega))
 rw [hc,hc,hc,hc]
 exact h.x.c j hj
theorem fld0 (a b c d : Value) (W : World) : (Instr.field 37 (.agg #[a,b,c,d]) 0).run Tryz.prog W = .ok a W:=by
 first
  | kernel_rfl
  | rfl
theorem fld1 (a b c d : Value) (W : World) : (Instr.field 37 (.agg #[a,b,c,d]) 1).run Tryz.prog W = .ok b W:=by
 first
  | kernel_rfl
  | rfl
theorem clone_any (s : ByteArray) (w : World) (hs : s.size ≤ 281474976710656) : Calls Tryz.prog 70 #[.string s] w fun e w'=>e = .returned (.string s)∧Below w.heap.size w w':=by
 go_enter Tryz.func70,Tryz.ntmps70
 go_wp2_with (go_at_call 108;refine (Tryz.stringslite_Clone s _ hs).mono ?_;rintro e w' ⟨rfl,hb⟩)
 go_ret
 exact ⟨rfl,hb⟩
theorem stands_any {w : World} {P : Pl} {L : List Tok} {a : Nat} {o : Ex} (h : Rd w P L a o) (s : ByteArray) :
 Calls Tryz.prog 51 #[.pointer (some ⟨P.R,0,none⟩),.string s] w fun e w'=>e = .returned (.bool (isS L a s))∧Below w.heap.size w w':=by
 have C1:=token_any h
 have C2:=isSign_any (tokA L a) s
 unfold isS
 generalize tokA L a=x at *
 go_enter Tryz.func51,Tryz.ntmps51
 go_wp2_with (first
  | (go_at_call 36;refine C1.mono ?_;rintro e W1 ⟨rfl,b1⟩)
  | (go_at_call 55;refine (C2 _).mono ?_;rintro e W2 ⟨rfl,b2⟩))
 go_ret
 exact ⟨rfl,b1.trans (b2.mono b1.size)⟩
theorem standsWord_any {w : World} {P : Pl} {L : List Tok} {a : Nat} {o : Ex} (h : Rd w P L a o) (s : ByteArray) :
 Calls Tryz.prog 18 #[.pointer (some ⟨P.R,0,none⟩),.string s] w fun e w'=>e = .returned (.bool (isWd L a s))∧Below w.heap.size w w':=by
 have C1:=token_any h
 have C2:=isWord_any (tokA L a) s
 unfold isWd
 generalize tokA L a=x at *
 go_enter Tryz.func18,Tryz.ntmps18
 go_wp2_with (first
  | (go_at_call 36;refine C1.mono ?_;rintro e W1 ⟨rfl,b1⟩)
  | (go_at_call 35;refine (C2 _).mono ?_;rintro e W2 ⟨rfl,b2⟩))
 go_ret
 exact ⟨rfl,b1.trans (b2.mono b1.size)⟩
theorem standsId_any {w : World} {P : Pl} {L : List Tok} {a : Nat} {o : Ex} (h : Rd w P L a o) :
 Calls Tryz.prog 71 #[.pointer (some ⟨P.R,0,none⟩)] w fun e w'=>e = .returned (.bool (isN L a))∧Below w.heap.size w w':=by
 have C1:=token_any h
 unfold isN
 generalize tokA L a=x at *
 unfold Tok.v at C1
 have hf:=fld0 (.int .i64 x.k) (.string x.t) (.int .i64 x.n) (.int .i64 x.p)
 go_enter Tryz.func71,Tryz.ntmps71
 go_wp2_with (go_at_call 36;refine C1.mono ?_;rintro e W1 ⟨rfl,b1⟩)
 go_ret
 exact ⟨rfl,b1⟩
theorem passIf_any {w : World} {P : Pl} {L : List Tok} {a : Nat} {o : Ex} (h : Rd w P L a o) (q : Bool) (hq : q=true→a < L.length) :
 Calls Tryz.prog 73 #[.pointer (some ⟨P.R,0,none⟩),.bool q] w fun e w'=>e = .returned (.bool q)∧Rd w' P L (adv q a) o∧KeptR P.R w w':=by
 obtain ⟨⟨c0,c1⟩,f1⟩:=h.cells
 have hsm:=h.small
 have hle:=h.le
 cases q with
 | false =>
  go_enter Tryz.func73,Tryz.ntmps73
  go_wp2
  go_ret
  exact ⟨rfl,h,KeptR.refl _ _⟩
 | true =>
  have hlt:=hq rfl
  have hw : IntKind.i64.wrap ((a : Int)+1)=(a : Int)+1:=by rw [IntKind.wrap_i64];omega
  go_enter Tryz.func73,Tryz.ntmps73
  go_wp2
  go_ret
  exact ⟨rfl,h.go (a+1) (by omega),KeptR.set P.R w 1 _⟩
theorem take_any {w : World} {P : Pl} {L : List Tok} {a : Nat} {o : Ex} (h : Rd w P L a o) (s : ByteArray) :
 Calls Tryz.prog 40 #[.pointer (some ⟨P.R,0,none⟩),.string s] w fun e w'=>e = .returned (.bool (isS L a s))∧Rd w' P L (adv (isS L a s) a) o∧KeptR P.R w w':=by
 have C1:=stands_any h s
 have hR:=h
 have C2:=fun W (r : Rd W P L a o)=>passIf_any r (isS L a s) isS_lt
 generalize isS L a s=q at *
 go_enter Tryz.func40,Tryz.ntmps40
 go_wp2_with (first
  | (go_at_call 51;refine C1.mono ?_;rintro e W1 ⟨rfl,b1⟩;have r1:=hR.bel b1)
  | (go_at_call 73;refine (C2 _ r1).mono ?_;rintro e W2 ⟨rfl,r2,b2⟩))
 go_ret
 exact ⟨rfl,r2,(KeptR.of b1).trans b2⟩
theorem takeWord_any {w : World} {P : Pl} {L : List Tok} {a : Nat} {o : Ex} (h : Rd w P L a o) (s : ByteArray) :
 Calls Tryz.prog 49 #[.pointer (some ⟨P.R,0,none⟩),.string s] w fun e w'=>e = .returned (.bool (isWd L a s))∧Rd w' P L (adv (isWd L a s) a) o∧KeptR P.R w w':=by
 have C1:=standsWord_any h s
 have hR:=h
 have C2:=fun W (r : Rd W P L a o)=>passIf_any r (isWd L a s) isWd_lt
 generalize isWd L a s=q at *
 go_enter Tryz.func49,Tryz.ntmps49
 go_wp2_with (first
  | (go_at_call 18;refine C1.mono ?_;rintro e W1 ⟨rfl,b1⟩;have r1:=hR.bel b1)
  | (go_at_call 73;refine (C2 _ r1).mono ?_;rintro e W2 ⟨rfl,r2,b2⟩))
 go_ret
 exact ⟨rfl,r2,(KeptR.of b1).trans b2⟩
def faultV (p : Nat) (e : Int) : Value:=.iface 73 (.agg #[.int .i64 (p : Int),.int .i64 e])
abbrev Gave (p : Nat) (er : Int) (e : Ending) : Prop:=e = .panicked [{ v:=faultV p er,recovered:=false }]
theorem res_ft {fn : Func} {p : Nat} (h : fn.results=#[.cell p 73]) {W : World} {n : Nat} {a b : Value} {t : TypeId} {tmps : Array Value} (hb : W.heap[n]?=some (.cells #[a,b] t (0,0))) (ht : tmps[p]?.getD undef = .pointer (some ⟨n,0,none⟩)) :
 (results fn tmps).run Tryz.prog W = .ok (.agg #[a,b]) W:=by
 have c0 : W.cell? ⟨n,0,none⟩=some a:=by simp [World.cell?,hb]
 have c1 : W.cell? ⟨n,1,none⟩=some b:=by simp [World.cell?,hb]
 simp [results,h,go_sem,ht,c0,c1]
theorem wrong_any {w : World} {P : Pl} {L : List Tok} {a : Nat} {o : Ex} (h : Rd w P L a o) :
 Calls Tryz.prog 72 #[.pointer (some ⟨P.R,0,none⟩)] w fun e w'=>e = .returned (.agg #[.int .i64 (a : Int),.int .i64 60])∧Below w.heap.size w w':=by
 have bel_n : ∀ o,Below w.heap.size w (w.alloc o):=fun o=>B0.alloc le0 o
 obtain ⟨⟨c0,c1⟩,f1⟩:=h.cells
 have k1 : ∀ o,(w.alloc o).cell? ⟨P.R,1,none⟩=some (.int .i64 (a : Int)):=fun o=>((bel_n o).cell (p:=⟨P.R,1,none⟩) h.lt).trans c1
 go_enter Tryz.func72,Tryz.ntmps72
 go_wp2
 have m0 : (w.alloc (Obj.cells #[.int .i64 (a : Int),.int .i64 60] 73)).heap[w.heap.size]?=some (.cells #[.int .i64 (a : Int),.int .i64 60] 73 (0,0)):=heap_alloc_new w _
 refine bodyPost_ret (res_ft Tryz.results72 m0 rfl) rfl ⟨rfl,bel_n _⟩
inductive Rs (α : Type) where
 | ok (v : α) (a : Nat)
 | bad (p : Nat) (e : Int)
def Rs.bind {α β : Type} (r : Rs α) (f : α→Nat→Rs β) : Rs β:=match r with
 | .ok v a=>f v a
 | .bad p e=>.bad p e
theorem Rs.bind_ok {α β : Type} (v : α) (a : Nat) (f : α→Nat→Rs β) : (Rs.ok v a).bind f=f v a:=rfl
theorem Rs.bind_bad {α β : Type} (p : Nat) (e : Int) (f : α→Nat→Rs β) : (Rs.bad p e : Rs α).bind f = .bad p e:=rfl
def AnsU (P : Pl) (L : List Tok) (o : Ex) (w : World) (r : Rs Unit) (e : Ending) (w' : World) : Prop:=match r with
 | .ok _ a=>e = .returned (.tuple #[])∧Rd w' P L a o∧KeptR P.R w w'
 | .bad p er=>Gave p er e∧KeptR P.R w w'
def AnsT (P : Pl) (L : List Tok) (o : Ex) (w : World) (r : Rs ByteArray) (e : Ending) (w' : World) : Prop:=match r with
 | .ok t a=>e = .returned (.string t)∧Rd w' P L a o∧KeptR P.R w w'
 | .bad p er=>Gave p er e∧KeptR P.R w w'
def wantR (L : List Tok) (s : ByteArray) (a : Nat) : Rs Unit:=if isS L a s=true then .ok () (a+1) else .bad a 60
def idR (L : List Tok) (a : Nat) : Rs ByteArray:=if isN L a=true then .ok (tokA L a).t (a+1) else .bad a 60
def propR' (L : List Tok) (a : Nat) : Rs ByteArray:=if isN L a=true ∨ (tokA L a).k=2 then .ok (tokA L a).t (a+1) else .bad a 60
theorem wantR_yes {L : List Tok} {s : ByteArray} {a : Nat} (h : isS L a s=true) : wantR L s a = .ok () (a+1):=by unfold wantR;rw [if_pos h]
theorem wantR_no {L : List Tok} {s : ByteArray} {a : Nat} (h : isS L a s=false) : wantR L s a = .bad a 60:=by unfold wantR;rw [if_neg (by rw [h];decide)]
theorem want_any {w : World} {P : Pl} {L : List Tok} {a : Nat} {o : Ex} (h : Rd w P L a o) (s : ByteArray) :
 Calls Tryz.prog 39 #[.pointer (some ⟨P.R,0,none⟩),.string s] w (AnsU P L o w (wantR L s a)):=by
 have C1:=take_any h s
 unfold wantR
 cases hq : isS L a s with
 | false =>
  rw [hq] at C1
  rw [if_neg (by decide)]
  unfold AnsU
  go_enter Tryz.func39,Tryz.ntmps39
  go_wp2_with (first
   | (go_at_call 40;refine C1.mono ?_;rintro e W1 ⟨rfl,r1,b1⟩)
   | (go_at_call 72;refine (wrong_any r1).mono ?_;rintro e W2 ⟨rfl,b2⟩))
  exact ⟨rfl,rfl,b1.trans (.of b2)⟩
 | true =>
  rw [hq] at C1
  rw [if_pos rfl]
  unfold AnsU
  go_enter Tryz.func39,Tryz.ntmps39
  go_wp2_with (go_at_call 40;refine C1.mono ?_;rintro e W1 ⟨rfl,r1,b1⟩)
  first
   | (go_end0;exact ⟨rfl,r1,b1⟩)
   | (refine bodyPost_ret (results_none rfl _ _ _) rfl ?_;exact ⟨rfl,r1,b1⟩)
theorem pass_any {w : World} {P : Pl} {L : List Tok} {a : Nat} {o : Ex} (h : Rd w P L a o) (hlt : a < L.length) (ht : (tokA L a).t.size ≤ 4194304) :
 Calls Tryz.prog 37 #[.pointer (some ⟨P.R,0,none⟩)] w fun e w'=>e = .returned (.string (tokA L a).t)∧Rd w' P L (a+1) o∧KeptR P.R w w':=by
 have e : tokA L a=L[a]:=by unfold tokA;rw [List.getElem?_eq_getElem hlt];rfl
 have hsm:=h.small
 have hta:=h.t (by omega)
 obtain ⟨⟨c0,c1⟩,f1⟩:=h.cells
 rw [hta] at c0
 obtain ⟨d0,d1,d2,d3⟩:=h.x.c a hlt
 rw [e] at ht ⊢
 have C1:=fun W=>clone_any L[a].t W (by omega)
 clear e hta
 generalize L[a]=x at *
 have ha2 : (a : Int) < (L.length : Int):=by omega
 have hw : IntKind.i64.wrap ((a : Int)+1)=(a : Int)+1:=by rw [IntKind.wrap_i64];omega
 go_enter Tryz.func37,Tryz.ntmps37
 go_wp2
 go_region
 have r1:=h.bel (B0.drew)
 obtain ⟨⟨_,_⟩,_⟩:=r1.cells
 go_wp2_with (go_at_call 70;refine (C1 _).mono ?_;rintro e W1 ⟨rfl,b1⟩)
 go_ret
 have r2:=r1.go (a+1) (by omega)
 exact ⟨rfl,by simpa using r2.bel b1,((KeptR.of (B0.drew)).trans (KeptR.set P.R w.drew 1 _)).trans (.of b1)⟩
def Small (L : List Tok) : Prop:=∀ x ∈ L,x.t.size ≤ 4194304
theorem Small.at {L : List Tok} (h : Small L) (a : Nat) : (tokA L a).t.size ≤ 4194304:=by
 unfold tokA
 cases hx : L[a]? with
 | none=>show ByteArray.empty.size ≤ _;decide
 | some x=>exact h x (List.mem_of_getElem? hx)
theorem id_any {w : World} {P : Pl} {L : List Tok} {a : Nat} {o : Ex} (h : Rd w P L a o) (hs : Small L) :
 Calls Tryz.prog 38 #[.pointer (some ⟨P.R,0,none⟩)] w (AnsT P L o w (idR L a)):=by
 have C1:=standsId_any h
 have HN : Hid (isN L a=true→a < L.length):=isN_lt
 have hR:=h
 have ht:=hs.at a
 unfold idR
 generalize isN L a=q at *
 cases q with
 | true =>
  have hlt:=HN.out rfl
  have C2:=fun {W : World} (r : Rd W P L a o)=>pass_any r hlt ht
  generalize (tokA L a).t=t at *
  clear HN
  rw [if_pos rfl]
  unfold AnsT
  go_enter Tryz.func38,Tryz.ntmps38
  go_wp2_with (first
   | (go_at_call 71;refine C1.mono ?_;rintro e W1 ⟨rfl,b1⟩)
   | (go_at_call 37;refine (C2 (hR.bel b1)).mono ?_;rintro e W2 ⟨rfl,r2,b2⟩))
  go_ret
  exact ⟨rfl,r2,(KeptR.of b1).trans b2⟩
 | false =>
  clear HN
  rw [if_neg (by decide)]
  unfold AnsT
  go_enter Tryz.func38,Tryz.ntmps38
  go_wp2_with (first
   | (go_at_call 71;refine C1.mono ?_;rintro e W1 ⟨rfl,b1⟩)
   | (go_at_call 72;refine (wrong_any (hR.bel b1)).mono ?_;rintro e W2 ⟨rfl,b2⟩))
  exact ⟨rfl,rfl,(KeptR.of b1).trans (.of b2)⟩
theorem prop_any {w : World} {P : Pl} {L : List Tok} {a : Nat} {o : Ex} (h : Rd w P L a o) (hs : Small L) :
 Calls Tryz.prog 76 #[.pointer (some ⟨P.R,0,none⟩)] w (AnsT P L o w (propR' L a)):=by
 have C1:=standsId_any h
 have C3:=fun {W : World} (r : Rd W P L a o)=>token_any r
 have HN : Hid (isN L a=true ∨ (tokA L a).k=2→a < L.length):=fun q=>q.elim isN_lt (fun q=>kind_lt (by rw [q];decide))
 have hR:=h
 have ht:=hs.at a
 have C2:=fun (hlt : a < L.length) {W : World} (r : Rd W P L a o)=>pass_any r hlt ht
 unfold propR'
 generalize isN L a=q at *
 generalize tokA L a=x at *
 have hf:=fld0 (.int .i64 x.k) (.string x.t) (.int .i64 x.n) (.int .i64 x.p)
 unfold Tok.v at C3
 cases q with
 | true =>
  have hlt:=HN.out (.inl rfl)
  replace C2:=@C2 hlt
  clear HN
  rw [if_pos (.inl rfl)]
  unfold AnsT
  go_enter Tryz.func76,Tryz.ntmps76
  go_wp2_with (first
   | (go_at_call 71;refine C1.mono ?_;rintro e W1 ⟨rfl,b1⟩)
   | (go_at_call 37;refine (C2 (hR.bel b1)).mono ?_;rintro e W2 ⟨rfl,r2,b2⟩))
  go_ret
  exact ⟨rfl,r2,(KeptR.of b1).trans b2⟩
 | false =>
  by_cases hk : x.k=2
  ·have hlt:=HN.out (.inr hk)
   replace C2:=@C2 hlt
   clear HN
   rw [if_pos (.inr hk)]
   rw [hk] at C3 hf
   unfold AnsT
   go_enter Tryz.func76,Tryz.ntmps76
   go_wp2_with (first
    | (go_at_call 71;refine C1.mono ?_;rintro e W1 ⟨rfl,b1⟩;have r1:=hR.bel b1)
    | (go_at_call 36;refine (C3 r1).mono ?_;rintro e W3 ⟨rfl,b3⟩)
    | (go_at_call 37;refine (C2 (r1.bel b3)).mono ?_;rintro e W2 ⟨rfl,r2,b2⟩))
   go_ret
   exact ⟨rfl,r2,((KeptR.of b1).trans (.of b3)).trans b2⟩
  ·clear HN C2
   rw [if_neg (by rintro (e | e);cases e;exact hk e)]
   unfold AnsT
   go_enter Tryz.func76,Tryz.ntmps76
   go_wp2_with (first
    | (go_at_call 71;refine C1.mono ?_;rintro e W1 ⟨rfl,b1⟩;have r1:=hR.bel b1)
    | (go_at_call 36;refine (C3 r1).mono ?_;rintro e W3 ⟨rfl,b3⟩)
    | (go_at_call 72;refine (wrong_any (r1.bel b3)).mono ?_;rintro e W2 ⟨rfl,b2⟩))
   exact ⟨rfl,rfl,((KeptR.of b1).trans (.of b3)).trans (.of b2)⟩
theorem res_n4 {fn : Func} {p : Nat} (h : fn.results=#[.cell p 24]) {W : World} {n : Nat} {a b c d : Value} {t : TypeId} {tmps : Array Value} (hb : W.heap[n]?=some (.cells #[a,b,c,d] t (0,0))) (ht : tmps[p]?.getD undef = .pointer (some ⟨n,0,none⟩)) :
 (results fn tmps).run Tryz.prog W = .ok (.agg #[a,b,c,d]) W:=by
 obtain ⟨⟨c0,c1,c2,c3⟩,_⟩:=t4 hb
 simp [results,h,go_sem,ht,c0,c1,c2,c3]
theorem node_any (k : Int) (t : ByteArray) (ad : Option Addr) (n c : Nat) (w : World) :
 Calls Tryz.prog 42 #[.int .i64 k,.string t,.slice ad n c] w fun e w'=>e = .returned (.agg #[.int .i64 k,.string t,.int .i64 0,.slice ad n c])∧Below w.heap.size w w':=by
 have m0 : (w.alloc (Obj.cells #[.int .i64 k,.string t,.int .i64 0,.slice ad n c] 24)).heap[w.heap.size]?=some (.cells #[.int .i64 k,.string t,.int .i64 0,.slice ad n c] 24 (0,0)):=heap_alloc_new w _
 have bel_n : ∀ o,Below w.heap.size w (w.alloc o):=fun o=>B0.alloc le0 o
 go_enter Tryz.func42,Tryz.ntmps42
 go_wp2
 exact bodyPost_ret (res_n4 Tryz.results42 m0 rfl) rfl ⟨rfl,bel_n _⟩
end Go.Proofs.YthfkfbcopinmiaaGreatDoor
