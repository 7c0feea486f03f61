/- Own text. Package cursor: tokens in memory,the cursor's block,tokens looked at. -/
import Derived.Test.YthfkfbcopinmiaaGreatDoorGj01
import Derived.Deep.AppendLies
import Derived.Recover
set_option linter.unusedVariables false
set_option linter.unusedSimpArgs false
set_option maxRecDepth 100000
set_option maxHeartbeats 4000000
namespace Go.Proofs.YthfkfbcopinmiaaGreatDoor
open Go.RowKit
structure Tok where
 k : Int
 t : ByteArray
 n : Int
 p : Int
def Tok.v (x : Tok) : Value:=.agg #[.int .i64 x.k,.string x.t,.int .i64 x.n,.int .i64 x.p]
def endT : Tok:=⟨0,ByteArray.empty,0,0⟩
def tokA (L : List Tok) (i : Nat) : Tok:=(L[i]?).getD endT
structure Toks (w : World) (bl of : Nat) (L : List Tok) : Prop where
 lt : 0 < L.length → bl < w.heap.size
 c : ∀ i (h : i < L.length),w.cell? ⟨bl,of + i * 4,none⟩ = some (.int .i64 L[i].k) ∧ w.cell? ⟨bl,of + i * 4 + 1,none⟩ = some (.string L[i].t) ∧ w.cell? ⟨bl,of + i * 4 + 2,none⟩ = some (.int .i64 L[i].n) ∧ w.cell? ⟨bl,of + i * 4 + 3,none⟩ = some (.int .i64 L[i].p)
structure Ex where
 vs : List Value
 ty : TypeId
structure Pl where
 R : Nat
 bl : Nat
 of : Nat
 tc : Nat
 ta : Option Addr
structure Rd (w : World) (P : Pl) (L : List Tok) (a : Nat) (o : Ex) : Prop where
 r : w.heap[P.R]? = some (.cells ⟨.slice P.ta L.length P.tc :: .int .i64 (a : Int) :: o.vs⟩ o.ty (0,0))
 t : 0 < L.length → P.ta = some ⟨P.bl,P.of,none⟩
 x : Toks w P.bl P.of L
 ne : 0 < L.length → P.bl ≠ P.R
 le : a ≤ L.length
 small : L.length ≤ 4194304
 cap : L.length ≤ P.tc
theorem Rd.cells {w : World} {P : Pl} {L : List Tok} {a : Nat} {o : Ex} (h : Rd w P L a o) : (w.cell? ⟨P.R,0,none⟩ = some (.slice P.ta L.length P.tc) ∧ w.cell? ⟨P.R,1,none⟩ = some (.int .i64 (a : Int))) ∧ w.frozen? ⟨P.R,1,none⟩ = false:=by
 simp [World.cell?,World.frozen?,h.r]
theorem Rd.lt {w : World} {P : Pl} {L : List Tok} {a : Nat} {o : Ex} (h : Rd w P L a o) : P.R < w.heap.size:=(Array.getElem?_eq_some_iff.1 h.r).1
theorem Toks.bel {w w' : World} {bl of : Nat} {L : List Tok} (h : Toks w bl of L) (b : Below w.heap.size w w') : Toks w' bl of L :=
 ⟨fun h0=>Nat.lt_of_lt_of_le (h.lt h0) b.size,fun i hi=>by
  have hl:=h.lt (by omega)
  obtain ⟨c0,c1,c2,c3⟩:=h.c i hi
  exact ⟨(b.cell (p:=⟨bl,of + i * 4,none⟩) hl).trans c0,(b.cell (p:=⟨bl,of + i * 4 + 1,none⟩) hl).trans c1,(b.cell (p:=⟨bl,of + i * 4 + 2,none⟩) hl).trans c2,(b.cell (p:=⟨bl,of + i * 4 + 3,none⟩) hl).trans c3⟩⟩
theorem Rd.bel {w w' : World} {P : Pl} {L : List Tok} {a : Nat} {o : Ex} (h : Rd w P L a o) (b : Below w.heap.size w w') : Rd w' P L a o :=
 ⟨(b.block P.R h.lt).trans h.r,h.t,h.x.bel b,h.ne,h.le,h.small,h.cap⟩
theorem t4 {w : World} {b : Nat} {p q r s : Value} {t : TypeId} (h : w.heap[b]? = some (.cells #[p,q,r,s] t (0,0))) :
 (w.cell? ⟨b,0,none⟩ = some p ∧ w.cell? ⟨b,1,none⟩ = some q ∧ w.cell? ⟨b,2,none⟩ = some r ∧ w.cell? ⟨b,3,none⟩ = some s) ∧ (w.frozen? ⟨b,0,none⟩ = false ∧ w.frozen? ⟨b,1,none⟩ = false ∧ w.frozen? ⟨b,2,none⟩ = false ∧ w.frozen? ⟨b,3,none⟩ = false):=by
 simp [World.cell?,World.frozen?,h]
theorem t4_set {w : World} {b : Nat} {p q r s : Value} {t : TypeId} {fr : Nat × Nat} (p' q' r' s' : Value) (h : w.heap[b]? = some (.cells #[p,q,r,s] t fr)) :
 ((((w.setCell ⟨b,0,none⟩ p').setCell ⟨b,1,none⟩ q').setCell ⟨b,2,none⟩ r').setCell ⟨b,3,none⟩ s').heap[b]? = some (.cells #[p',q',r',s'] t fr):=by
 simp [World.setCell,Array.getElem?_modify,h]
theorem res_tk {fn : Func} {p : Nat} (h : fn.results = #[.cell p 37]) {W : World} {n : Nat} {a b c d : Value} {t : TypeId} {tmps : Array Value} (hb : W.heap[n]? = some (.cells #[a,b,c,d] t (0,0))) (ht : tmps[p]?.getD undef = .pointer (some ⟨n,0,none⟩)) :
 (results fn tmps).run Tryz.prog W = .ok (.agg #[a,b,c,d]) W:=by
 obtain ⟨⟨c0,c1,c2,c3⟩,_⟩:=t4 hb
 simp [results,h,go_sem,ht,c0,c1,c2,c3]
theorem isSign_any (x : Tok) (s : ByteArray) (w : World) :
 Calls Tryz.prog 55 #[x.v,.string s] w fun e w'=>e = .returned (.bool ((x.k == 5) && (x.t.toList == s.toList))) ∧ Below w.heap.size w w':=by
 obtain ⟨k,t,n,p⟩:=x
 unfold Tok.v
 go_enter Tryz.func55,Tryz.ntmps55
 by_cases h : k = 5
 ·subst h
  go_wp2
  go_ret
  exact ⟨by simp,B0.alloc le0 _⟩
 ·go_wp2
  go_ret
  exact ⟨by simp [h],B0.alloc le0 _⟩
theorem isWord_any (x : Tok) (s : ByteArray) (w : World) :
 Calls Tryz.prog 35 #[x.v,.string s] w fun e w'=>e = .returned (.bool ((x.k == 2) && (x.t.toList == s.toList))) ∧ Below w.heap.size w w':=by
 obtain ⟨k,t,n,p⟩:=x
 unfold Tok.v
 go_enter Tryz.func35,Tryz.ntmps35
 by_cases h : k = 2
 ·subst h
  go_wp2
  go_ret
  exact ⟨by simp,B0.alloc le0 _⟩
 ·go_wp2
  go_ret
  exact ⟨by simp [h],B0.alloc le0 _⟩
theorem isName_any (x : Tok) (s : ByteArray) (w : World) :
 Calls Tryz.prog 54 #[x.v,.string s] w fun e w'=>e = .returned (.bool ((x.k == 1) && (x.t.toList == s.toList))) ∧ Below w.heap.size w w':=by
 obtain ⟨k,t,n,p⟩:=x
 unfold Tok.v
 go_enter Tryz.func54,Tryz.ntmps54
 by_cases h : k = 1
 ·subst h
  go_wp2
  go_ret
  exact ⟨by simp,B0.alloc le0 _⟩
 ·go_wp2
  go_ret
  exact ⟨by simp [h],B0.alloc le0 _⟩
theorem place_any {w : World} {P : Pl} {L : List Tok} {a : Nat} {o : Ex} (h : Rd w P L a o) :
 Calls Tryz.prog 34 #[.pointer (some ⟨P.R,0,none⟩)] w fun e w'=>e = .returned (.int .i64 (a : Int)) ∧ w' = w:=by
 obtain ⟨⟨c0,c1⟩,f1⟩:=h.cells
 go_enter Tryz.func34,Tryz.ntmps34
 go_wp2
 go_ret
 exact ⟨rfl,rfl⟩
def restV (P : Pl) (L : List Tok) (a : Nat) (v : Value) : Prop:=∃ ad,v = .slice ad (L.length - a) (P.tc - a) ∧ (a < L.length → ad = some ⟨P.bl,P.of + a * 4,none⟩)
theorem rest_any {w : World} {P : Pl} {L : List Tok} {a : Nat} {o : Ex} (h : Rd w P L a o) :
 Calls Tryz.prog 91 #[.pointer (some ⟨P.R,0,none⟩)] w fun e w'=>(∃ v,e = .returned v ∧ restV P L a v) ∧ Below w.heap.size w w':=by
 obtain ⟨⟨c0,c1⟩,f1⟩:=h.cells
 have hle:=h.le
 have hcp:=h.cap
 have hsm:=h.small
 have ht:=h.t
 obtain ⟨R,bl,of,tc,ta⟩:=P
 simp only at *
 have i1 : (a : Int) ≤ (L.length : Int):=by omega
 have i2 : (L.length : Int) ≤ (tc : Int):=by omega
 have i3 : (0 : Int) ≤ (a : Int):=by omega
 have i4 : (a : Int) ≤ (tc : Int):=by omega
 have h0 : ∀ v W,(∃ ad,v = .slice ad (L.length - a) (tc - a) ∧ (a < L.length → ad = some ⟨bl,of + a * 4,none⟩)) → Below w.heap.size w W → (∃ u,Ending.returned v = .returned u ∧ restV ⟨R,bl,of,tc,ta⟩ L a u) ∧ Below w.heap.size w W:=fun v W h1 h2=>⟨⟨v,rfl,h1⟩,h2⟩
 rcases ta with _ | ⟨b0,o0,z0⟩
 ·obtain hl : L.length = 0:=by
   by_cases q : 0 < L.length
   ·exact absurd (ht q) (by simp)
   ·omega
  obtain rfl : a = 0:=by omega
  go_enter Tryz.func91,Tryz.ntmps91
  go_wp2
  go_region
  go_wp2
  go_ret
  exact h0 _ _ ⟨none,by simp [hl],fun q=>by omega⟩ B0.drew
 ·by_cases hc : a < tc
  ·have i5 : (a : Int) < (tc : Int):=by omega
   go_enter Tryz.func91,Tryz.ntmps91
   go_wp2
   go_region
   go_wp2
   go_ret
   exact h0 _ _ ⟨_,rfl,fun q=>by have:=ht (by omega);cases this;simp [Addr.add]⟩ B0.drew
  ·obtain rfl : a = tc:=by omega
   go_enter Tryz.func91,Tryz.ntmps91
   go_wp2
   go_region
   go_wp2
   go_ret
   exact h0 _ _ ⟨some ⟨b0,o0,z0⟩,by simp;omega,fun q=>by omega⟩ B0.drew
theorem ahead_any {w : World} {P : Pl} {L : List Tok} {a : Nat} {o : Ex} (h : Rd w P L a o) (n : Nat) (hn : n ≤ 4194304) :
 Calls Tryz.prog 56 #[.pointer (some ⟨P.R,0,none⟩),.int .i64 (n : Int)] w fun e w'=>e = .returned (tokA L (a + n)).v ∧ Below w.heap.size w w':=by
 have hle:=h.le
 have hsm:=h.small
 have bel_n : ∀ o,Below w.heap.size w (w.alloc o):=fun o=>B0.alloc le0 o
 have C1:=fun o=>rest_any (h.bel (bel_n o))
 have M0 : Hid (∀ W,Below (w.alloc (Obj.cells #[.int .i64 0,.string ⟨#[]⟩,.int .i64 0,.int .i64 0] 37)).heap.size (w.alloc (Obj.cells #[.int .i64 0,.string ⟨#[]⟩,.int .i64 0,.int .i64 0] 37)) W → W.heap[w.heap.size]? = some (.cells #[.int .i64 0,.string ⟨#[]⟩,.int .i64 0,.int .i64 0] 37 (0,0))):=fun W b=>(b.block _ (by simp)).trans (heap_alloc_new w _)
 have B0 : Hid (∀ W,Below (w.alloc (Obj.cells #[.int .i64 0,.string ⟨#[]⟩,.int .i64 0,.int .i64 0] 37)).heap.size (w.alloc (Obj.cells #[.int .i64 0,.string ⟨#[]⟩,.int .i64 0,.int .i64 0] 37)) W → Below w.heap.size w W):=fun W b=>(bel_n _).trans (b.mono (by simp))
 have hR:=h
 by_cases ha : a + n < L.length
 ·have e : tokA L (a + n) = L[a + n]:=by unfold tokA;rw [List.getElem?_eq_getElem ha];rfl
  rw [e]
  clear e
  have HC : Hid (∀ W,Below w.heap.size w W → W.cell? ⟨P.bl,P.of + (a + n) * 4,none⟩ = some (.int .i64 L[a + n].k) ∧ W.cell? ⟨P.bl,P.of + (a + n) * 4 + 1,none⟩ = some (.string L[a + n].t) ∧ W.cell? ⟨P.bl,P.of + (a + n) * 4 + 2,none⟩ = some (.int .i64 L[a + n].n) ∧ W.cell? ⟨P.bl,P.of + (a + n) * 4 + 3,none⟩ = some (.int .i64 L[a + n].p)):=fun W b=>(h.x.bel b).c (a + n) ha
  generalize L[a + n] = x at *
  have ea : P.of + (a + n) * 4 = P.of + a * 4 + n * 4:=by omega
  rw [ea] at HC
  have i1 : (n : Int) < ((L.length - a : Nat) : Int):=by omega
  unfold Tok.v
  go_enter Tryz.func56,Tryz.ntmps56
  go_wp2_with (go_at_call 91;refine (C1 _).mono ?_;rintro e W1 ⟨⟨v,rfl,ad,rfl,had⟩,b1⟩;obtain rfl:=had (by omega);obtain ⟨d0,d1,d2,d3⟩:=HC.out _ (B0.out _ b1);have m0:=M0.out _ b1;obtain ⟨⟨e0,e1,e2,e3⟩,g0,g1,g2,g3⟩:=t4 m0)
  have b0:=B0.out _ b1
  refine bodyPost_ret (res_tk Tryz.results56 (t4_set _ _ _ _ m0) rfl) rfl ⟨rfl,?_⟩
  exact (((b0.setCell le0 _).setCell le0 _).setCell le0 _).setCell le0 _
 ·have e : tokA L (a + n) = endT:=by unfold tokA;rw [List.getElem?_eq_none (by omega)];rfl
  rw [e]
  clear e
  have i1 : ¬ (n : Int) < ((L.length - a : Nat) : Int):=by omega
  unfold Tok.v
  go_enter Tryz.func56,Tryz.ntmps56
  go_wp2_with (go_at_call 91;refine (C1 _).mono ?_;rintro e W1 ⟨⟨v,rfl,ad,rfl,had⟩,b1⟩;have m0:=M0.out _ b1;obtain ⟨⟨e0,e1,e2,e3⟩,g0,g1,g2,g3⟩:=t4 m0)
  have b0:=B0.out _ b1
  refine bodyPost_ret (res_tk Tryz.results56 (t4_set _ _ _ _ m0) rfl) rfl ⟨rfl,?_⟩
  exact (((b0.setCell le0 _).setCell le0 _).setCell le0 _).setCell le0 _
theorem token_any {w : World} {P : Pl} {L : List Tok} {a : Nat} {o : Ex} (h : Rd w P L a o) :
 Calls Tryz.prog 36 #[.pointer (some ⟨P.R,0,none⟩)] w fun e w'=>e = .returned (tokA L a).v ∧ Below w.heap.size w w':=by
 have bel_n : ∀ o,Below w.heap.size w (w.alloc o):=fun o=>B0.alloc le0 o
 have C1:=fun o=>ahead_any (h.bel (bel_n o)) 0 (by omega)
 have M0 : Hid (∀ W,Below (w.alloc (Obj.cells #[.int .i64 0,.string ⟨#[]⟩,.int .i64 0,.int .i64 0] 37)).heap.size (w.alloc (Obj.cells #[.int .i64 0,.string ⟨#[]⟩,.int .i64 0,.int .i64 0] 37)) W → W.heap[w.heap.size]? = some (.cells #[.int .i64 0,.string ⟨#[]⟩,.int .i64 0,.int .i64 0] 37 (0,0))):=fun W b=>(b.block _ (by simp)).trans (heap_alloc_new w _)
 have B0 : Hid (∀ W,Below (w.alloc (Obj.cells #[.int .i64 0,.string ⟨#[]⟩,.int .i64 0,.int .i64 0] 37)).heap.size (w.alloc (Obj.cells #[.int .i64 0,.string ⟨#[]⟩,.int .i64 0,.int .i64 0] 37)) W → Below w.heap.size w W):=fun W b=>(bel_n _).trans (b.mono (by simp))
 simp only [Nat.add_zero,Int.natCast_zero] at C1
 generalize tokA L a = x at *
 unfold Tok.v at *
 go_enter Tryz.func36,Tryz.ntmps36
 go_wp2_with (go_at_call 56;refine (C1 _).mono ?_;rintro e W1 ⟨rfl,b1⟩;have m0:=M0.out _ b1;obtain ⟨⟨e0,e1,e2,e3⟩,g0,g1,g2,g3⟩:=t4 m0)
 have b0:=B0.out _ b1
 refine bodyPost_ret (res_tk Tryz.results36 (t4_set _ _ _ _ m0) rfl) rfl ⟨rfl,?_⟩
 exact (((b0.setCell le0 _).setCell le0 _).setCell le0 _).setCell le0 _
end Go.Proofs.YthfkfbcopinmiaaGreatDoor
