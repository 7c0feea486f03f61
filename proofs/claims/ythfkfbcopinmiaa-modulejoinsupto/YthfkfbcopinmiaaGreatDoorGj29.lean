/- Own text. The program's next token: a source read from a place on. The program's token. The program's next token,walked. -/
import Derived.Test.YthfkfbcopinmiaaGreatDoorGj28
import Derived.ScopeJumps
import Derived.WalkMore
import Derived.Deep.QuietTactic
import Derived.BigQuiet
import Derived.Deep.RegionWith
set_option linter.unusedVariables false
namespace Go.Proofs.YthfkfbcopinmiaaGreatDoor
open Go.RowKit
theorem scope_again {P : Program} {X : Code} {Q : Exit → Act → World → Prop} {a : Act} {w : World} (l : Nat) (J : Act → World → Prop) (μ : Act → World → Nat) (hf : findLabel ((Code.label l).seq X) l = some (Code.skip.seq X)) (h0 : J a w)
 (pass : ∀ a w,J a w → X.wp P (Exit.jump l (fun a' w'=>J a' w' ∧ μ a' w' < μ a w) Q) a w) : (Code.scope ((Code.label l).seq X)).wp P Q a w:=by
 refine wp_scope_jumps l J μ hf (wp_seq (wp_label ?_)) (fun a w h=>wp_seq (wp_skip (pass a w h)))
 refine Code.wp_mono (fun e a' w' h=>?_) (pass a w h0)
 cases e <;> first | exact h | exact ⟨h.1,h.2.1⟩
theorem ofFn90 (g : Nat → Value) : Array.ofFn (n:=90) (fun i=>g i.val) = #[g 0,g 1,g 2,g 3,g 4,g 5,g 6,g 7,g 8,g 9,g 10,g 11,g 12,g 13,g 14,g 15,g 16,g 17,g 18,g 19,g 20,g 21,g 22,g 23,g 24,g 25,g 26,g 27,g 28,g 29,g 30,g 31,g 32,g 33,g 34,g 35,g 36,g 37,g 38,g 39,g 40,g 41,g 42,g 43,g 44,g 45,g 46,g 47,g 48,g 49,g 50,g 51,g 52,g 53,g 54,g 55,g 56,g 57,g 58,g 59,g 60,g 61,g 62,g 63,g 64,g 65,g 66,g 67,g 68,g 69,g 70,g 71,g 72,g 73,g 74,g 75,g 76,g 77,g 78,g 79,g 80,g 81,g 82,g 83,g 84,g 85,g 86,g 87,g 88,g 89]:=by kernel_rfl
theorem frame90 {t : Array Value} {p0 p2 p3 : Value} (hs : t.size = 90) (h0 : t.getD 0 undef = p0) (h2 : t.getD 2 undef = p2) (h3 : t.getD 3 undef = p3) : ∃ f : Nat → Value,t = #[p0,f 1,p2,p3,f 4,f 5,f 6,f 7,f 8,f 9,f 10,f 11,f 12,f 13,f 14,f 15,f 16,f 17,f 18,f 19,f 20,f 21,f 22,f 23,f 24,f 25,f 26,f 27,f 28,f 29,f 30,f 31,f 32,f 33,f 34,f 35,f 36,f 37,f 38,f 39,f 40,f 41,f 42,f 43,f 44,f 45,f 46,f 47,f 48,f 49,f 50,f 51,f 52,f 53,f 54,f 55,f 56,f 57,f 58,f 59,f 60,f 61,f 62,f 63,f 64,f 65,f 66,f 67,f 68,f 69,f 70,f 71,f 72,f 73,f 74,f 75,f 76,f 77,f 78,f 79,f 80,f 81,f 82,f 83,f 84,f 85,f 86,f 87,f 88,f 89]:=by
 subst h0 h2 h3
 refine ⟨fun i=>t.getD i undef,?_⟩
 rw [← ofFn90 (fun i=>t.getD i undef)]
 refine Array.ext (by rw [hs,Array.size_ofFn]) (fun i h1 h2=>?_)
 rw [Array.getElem_ofFn]
 simp [h1]
structure Kept (b : Nat) (w w' : World) : Prop where
 os : w'.os = w.os
 tape : w'.tape = w.tape
 output : w'.output = w.output
 size : w.heap.size ≤ w'.heap.size
 block : ∀ k,k < w.heap.size → k ≠ b → w'.heap[k]? = w.heap[k]?
theorem Kept.refl (b : Nat) (w : World) : Kept b w w:=⟨rfl,rfl,rfl,Nat.le_refl _,fun _ _ _=>rfl⟩
theorem Kept.trans {b : Nat} {w w' w'' : World} (h : Kept b w w') (k : Kept b w' w'') : Kept b w w'' :=
 ⟨k.os.trans h.os,k.tape.trans h.tape,k.output.trans h.output,Nat.le_trans h.size k.size,fun i hi hb=>(k.block i (Nat.lt_of_lt_of_le hi h.size) hb).trans (h.block i hi hb)⟩
theorem Kept.of {B b : Nat} {w w' : World} (h : Below B w w') (hB : w.heap.size ≤ B) : Kept b w w':=⟨h.os,h.tape,h.output,h.size,fun k hk _=>h.block k (Nat.lt_of_lt_of_le hk hB)⟩
theorem Kept.then {b : Nat} {w w' w'' : World} (h : Kept b w w') (k : Below w'.heap.size w' w'') : Kept b w w'':=h.trans (.of k (Nat.le_refl _))
theorem Kept.set {b : Nat} {w w' : World} (h : Kept b w w') (i : Nat) (v : Value) : Kept b w (w'.setCell ⟨b,i,none⟩ v) :=
 h.trans ⟨rfl,rfl,rfl,by simp [World.setCell],fun k hk hb=>Below.heap_setCell _ _ _ _ hb⟩
theorem Kept.new {b : Nat} {w w' : World} (h : Kept b w w') {n : Nat} (hn : w.heap.size ≤ n) (i : Nat) (v : Value) : Kept b w (w'.setCell ⟨n,i,none⟩ v) :=
 ⟨h.os,h.tape,h.output,by simpa [World.setCell] using h.size,fun k hk hb=>(Below.heap_setCell _ _ _ _ (by show k ≠ n;omega)).trans (h.block k hk hb)⟩
theorem Kept.alloc {b : Nat} {w w' : World} (h : Kept b w w') (o : Obj) : Kept b w (w'.alloc o):=h.then ((Below.refl _ _).alloc (Nat.le_refl _) o)
theorem Kept.drewN {b : Nat} {w w' : World} (h : Kept b w w') (n : Nat) : Kept b w (w'.drewN n):=h.then (drewN_below4 _ _)
theorem Kept.below {B b : Nat} {w w' : World} (h : Kept b w w') (hB : B ≤ b) (hs : B ≤ w.heap.size) : Below B w w' :=
 ⟨h.os,h.tape,h.output,h.size,fun k hk=>h.block k (by omega) (by omega)⟩
def Rdr (w : World) (b : Nat) (s : ByteArray) (a : Nat) (sc : Bool) : Prop:=w.heap[b]? = some (.cells #[.string s,.int .i64 (a : Int),.bool sc] 69)
theorem Rdr.cells {w : World} {b : Nat} {s : ByteArray} {a : Nat} {sc : Bool} (h : Rdr w b s a sc) : w.cell? ⟨b,0,none⟩ = some (.string s) ∧ w.cell? ⟨b,1,none⟩ = some (.int .i64 (a : Int)) ∧ w.cell? ⟨b,2,none⟩ = some (.bool sc) ∧ w.frozen? ⟨b,1,none⟩ = false ∧ b < w.heap.size:=by
 refine ⟨?_,?_,?_,frozen_of_row w _ 1 _ _ h,(Array.getElem?_eq_some_iff.1 h).1⟩
 ·rw [cell_of_row w _ 0 _ _ _ h];rfl
 ·rw [cell_of_row w _ 1 _ _ _ h];rfl
 ·rw [cell_of_row w _ 2 _ _ _ h];rfl
theorem Rdr.set {w : World} {b : Nat} {s : ByteArray} {a : Nat} {sc : Bool} (h : Rdr w b s a sc) (n : Nat) : Rdr (w.setCell ⟨b,1,none⟩ (.int .i64 (n : Int))) b s n sc:=heap_setCell_same w b 1 _ _ _ h
theorem Rdr.other {w : World} {b : Nat} {s : ByteArray} {a : Nat} {sc : Bool} (h : Rdr w b s a sc) {n : Nat} (hn : b ≠ n) (i : Nat) (v : Value) : Rdr (w.setCell ⟨n,i,none⟩ v) b s a sc:=(Below.heap_setCell _ _ _ _ hn).trans h
theorem Rdr.below {B : Nat} {w w' : World} {b : Nat} {s : ByteArray} {a : Nat} {sc : Bool} (h : Rdr w b s a sc) (k : Below B w w') (hB : b < B) : Rdr w' b s a sc:=(k.block _ hB).trans h
def absP (l : Bs) (p : Nat) : Nat × Bool:=(p + (pastL (l.drop p)).1,(pastL (l.drop p)).2)
def nxtRes (l : Bs) (p : Nat × Bool) (sc : Bool) (e : Ending) (a' : Nat) : Prop :=
 if p.2 = false then e = .returned (.tuple #[tokV (0,[],0) 0,.int .i64 40]) ∧ a' = p.1
 else if l.drop p.1 = [] then e = .returned (.tuple #[tokV (0,[],0) 0,.int .i64 0])
 else match nextL (l.drop p.1) sc with
  | .error c=>e = .returned (.tuple #[tokV (0,[],0) 0,.int .i64 (c : Nat)]) ∧ a' = p.1
  | .ok x=>e = .returned (.tuple #[tokV x.1 (p.1 : Nat),.int .i64 0]) ∧ a' = p.1 + x.2
theorem nextP_res {W : World} {n : Nat} {a b c d : Value} {tmps : Array Value} (hb : W.heap[n]? = some (.cells #[a,b,c,d] 37)) (ht : tmps[2]?.getD undef = .pointer (some ⟨n,0,none⟩)) :
 (results Tryz.f31 tmps).run Tryz.prog W = .ok (.tuple #[.agg #[a,b,c,d],tmps.getD 3 undef]) W:=by
 obtain ⟨⟨c0,c1,c2,c3⟩,_⟩:=four_of hb
 simp [results,Tryz.results31,go_sem,ht,c0,c1,c2,c3]
structure NextAt (w : World) (b : Nat) (s : ByteArray) (sc : Bool) (a p : Nat) (W : World) : Prop where
 le : p ≤ s.size
 rdr : Rdr W b s p sc
 res : W.heap[w.heap.size]? = some (.cells #[.int .i64 0,.string ByteArray.empty,.int .i64 0,.int .i64 0] 37)
 kept : Kept b w W
 past : absP s.data.toList p = absP s.data.toList a
theorem NextAt.go {w : World} {b : Nat} {s : ByteArray} {sc : Bool} {a p q n : Nat} {W : World} (h : NextAt w b s sc a p W) (hb : b < w.heap.size) (hq : q ≤ s.size) (hp : absP s.data.toList q = absP s.data.toList p) :
 NextAt w b s sc a q ((W.setCell ⟨b,1,none⟩ (.int .i64 (q : Int))).drewN n):=by
 refine ⟨hq,?_,?_,((h.kept.set 1 _).drewN n),hp.trans h.past⟩
 ·exact h.rdr.set q
 ·refine Eq.trans ?_ h.res
  exact Below.heap_setCell W ⟨b,1,none⟩ _ _ (by show w.heap.size ≠ b;omega)
theorem NextAt.go2 {w : World} {b : Nat} {s : ByteArray} {sc : Bool} {a p q n : Nat} {v : Int} {W : World} (h : NextAt w b s sc a p W) (hb : b < w.heap.size) (hq : q ≤ s.size) (hp : absP s.data.toList q = absP s.data.toList p) (hv : v = (q : Int)) :
 NextAt w b s sc a q ((W.drewN n).setCell ⟨b,1,none⟩ (.int .i64 v)):=by
 subst hv
 exact h.go (n:=n) hb hq hp
def placeOf (b : Nat) (w : World) : Nat:=(intOf ((w.cell? ⟨b,1,none⟩).getD undef)).toNat
theorem place_rdr {w : World} {b : Nat} {s : ByteArray} {a : Nat} {sc : Bool} (h : Rdr w b s a sc) : placeOf b w = a:=by
 unfold placeOf
 rw [h.cells.2.1]
 simp [intOf]
theorem abs_blank {l : Bs} {p : Nat} {c : UInt8} (hp : l[p]? = some c) (h : isBl c = true) : absP l (p + 1) = absP l p:=by
 unfold absP
 rw [past_blank hp h]
 simp only [Prod.mk.injEq,and_true]
 omega
theorem abs_line {l : Bs} {p : Nat} (hp : l[p]? = some 47) (h2 : l[p + 1]? = some 47) : absP l (p + lineL (l.drop p)) = absP l p:=by
 conv=>rhs;unfold absP
 rw [past_line hp h2]
 unfold absP
 simp only [Prod.mk.injEq,and_true]
 omega
theorem abs_open {l : Bs} {p : Nat} (hp : l[p]? = some 47) (h2 : l[p + 1]? = some 42) (h : noteL (l.drop (p + 2)) = none) : absP l p = (p,false):=by
 unfold absP
 rw [past_note hp h2,h]
 rfl
theorem abs_note {l : Bs} {p k : Nat} (hp : l[p]? = some 47) (h2 : l[p + 1]? = some 42) (h : noteL (l.drop (p + 2)) = some k) : absP l (p + (k + 2)) = absP l p:=by
 conv=>rhs;unfold absP
 rw [past_note hp h2,h]
 unfold absP
 simp only [Prod.mk.injEq]
 refine ⟨?_,?_⟩
 ·rw [show p + 2 + k = p + (k + 2) from by omega];omega
 ·rw [show p + 2 + k = p + (k + 2) from by omega]
theorem abs_stop {l : Bs} {p : Nat} {c : UInt8} (hp : l[p]? = some c) (h : isBl c = false) (h1 : ¬ (c = 47 ∧ l[p + 1]? = some 47)) (h2 : ¬ (c = 47 ∧ l[p + 1]? = some 42)) : absP l p = (p,true):=by
 unfold absP
 rw [past_stop hp h h1 h2]
 rfl
theorem abs_end {l : Bs} {p : Nat} (h : l.length ≤ p) : absP l p = (p,true):=by
 unfold absP
 rw [List.drop_eq_nil_of_le h]
 rfl
theorem lead2 (l : Bs) (p : Nat) (c d e : UInt8) (hp : l[p]? = some e) : ([c,d] : Bs).isPrefixOf (l.drop p) = (decide (e = c ∧ l[p + 1]? = some d)):=by
 obtain ⟨hl,he⟩:=List.getElem?_eq_some_iff.1 hp
 rw [List.drop_eq_getElem_cons hl,he]
 cases hd : l[p + 1]? with
 | none =>
  have : l.drop (p + 1) = []:=List.drop_eq_nil_of_le (List.getElem?_eq_none_iff.1 hd)
  rw [this]
  simp [List.isPrefixOf]
 | some x =>
  obtain ⟨hl2,hx⟩:=List.getElem?_eq_some_iff.1 hd
  rw [List.drop_eq_getElem_cons hl2,hx]
  simp only [List.isPrefixOf,Bool.and_true]
  rw [Bool.eq_iff_iff]
  simp only [Bool.and_eq_true,beq_iff_eq,decide_eq_true_eq,Option.some.injEq]
  constructor
  ·rintro ⟨a,b⟩;exact ⟨a.symm,b.symm⟩
  ·rintro ⟨a,b⟩;exact ⟨a.symm,b.symm⟩
theorem blank_dec (c : UInt8) : decide (((c.toNat : Nat) : Int) = 9 ∨ ((c.toNat : Nat) : Int) = 10 ∨ ((c.toNat : Nat) : Int) = 13 ∨ ((c.toNat : Nat) : Int) = 32) = isBl c:=by
 rw [isBl_of,Bool.eq_iff_iff]
 simp only [decide_eq_true_eq,Bool.or_eq_true,or_assoc]
end Go.Proofs.YthfkfbcopinmiaaGreatDoor
set_option linter.unusedVariables false
set_option maxRecDepth 100000
set_option maxHeartbeats 4000000
namespace Go.Proofs.YthfkfbcopinmiaaGreatDoor
open Go.RowKit
theorem token_res {W : World} {n : Nat} {a b c d : Value} {tmps : Array Value} (hb : W.heap[n]? = some (.cells #[a,b,c,d] 37)) (ht : tmps[4]?.getD undef = .pointer (some ⟨n,0,none⟩)) :
 (results Tryz.f69 tmps).run Tryz.prog W = .ok (.tuple #[.agg #[a,b,c,d],tmps.getD 5 undef,tmps.getD 6 undef]) W:=by
 obtain ⟨⟨c0,c1,c2,c3⟩,_⟩:=four_of hb
 simp [results,Tryz.results69,go_sem,ht,c0,c1,c2,c3]
theorem tokRes_ex {n : Nx} {e : Ending} (h : tokRes n e) : ∃ (t1 : Int) (X : ByteArray) (t3 m c : Int),e = .returned (.tuple #[.agg #[.int .i64 t1,.string X,.int .i64 t3,.int .i64 0],.int .i64 m,.int .i64 c]):=by
 cases n with
 | error c=>exact ⟨_,_,_,_,_,h⟩
 | ok x=>exact ⟨_,_,_,_,_,h⟩
theorem dec1_some {l : Bs} (h : l ≠ []) : dec1 l = (decL l).1:=by unfold dec1;rw [if_neg h]
theorem quote_dec (l : Bs) (h : l ≠ []) (q : Nat) (hq : q < 128) : atL l 0 = q ↔ dec1 l = q:=by
 rw [dec1_some h]
 obtain ⟨lo1,lo2⟩:=decL_low l
 constructor
 ·intro e;rw [lo2 (by omega)];exact e
 ·intro e;rw [(lo1 (by omega)).1];exact e
theorem token_own (b : Nat) (s : ByteArray) (sc : Bool) (w : World) (he : Env w) (hc : w.cell? ⟨b,2,none⟩ = some (.bool sc)) (hs : s.size < 4294967281) (hp0 : 0 < s.size) :
 Calls Tryz.prog 69 #[.pointer (some ⟨b,0,none⟩),.string s] w fun e w'=>tokRes (nextL s.data.toList sc) e ∧ Below w.heap.size w w':=by
 have hne : s.data.toList ≠ []:=fun e=>by rw [Lib.size_eq,e] at hp0;simp at hp0
 have hltc:=World.block_lt_of_cell? w _ hc
 have hal:=fun o=>(Below.refl w.heap.size w).alloc (Nat.le_refl _) o
 have hdc:=fun o=>decode_own s _ (env_below he (hal o))
 have hcell : ∀ W,Below w.heap.size w W → W.cell? ⟨b,2,none⟩ = some (.bool sc):=fun W hb=>(hb.cell (p:=⟨b,2,none⟩) hltc).trans hc
 have hbn:=fun W (hb : Below w.heap.size w W)=>begins_own b (dec1 s.data.toList : Nat) sc W (hcell W hb)
 have hdg:=fun W=>digit_any (dec1 s.data.toList : Nat) W
 have hbg:=begB_dec1 s.data.toList sc
 have hdd : digitB (dec1 s.data.toList : Nat) = digC (atL s.data.toList 0):=by rw [dec1_some hne];exact (digC_dec _).symm
 rw [hbg] at hbn
 rw [hdd] at hdg
 clear hbg hdd
 by_cases hN : 0 < begL s.data.toList sc
 ·have hnm:=fun W (hb : Below w.heap.size w W)=>name_own b s sc W (env_below he hb) (hcell W hb) hs (by omega)
  have hn0:=(nameL_pos s.data.toList sc).2 (by omega)
  have HR : Hid (nextL s.data.toList sc = .ok (((if wordB (s.data.toList.take (nameL s.data.toList sc)) then 2 else 1),s.data.toList.take (nameL s.data.toList sc),0),nameL s.data.toList sc)):=by
   show _ = _
   unfold nextL
   rw [if_pos hn0]
  rw [decide_eq_true hN] at hbn
  simp only [tokV] at hnm
  clear hN hcell hdg
  generalize (if wordB (s.data.toList.take (nameL s.data.toList sc)) then (2 : Int) else 1) = K at *
  generalize s.data.toList.take (nameL s.data.toList sc) = x at *
  generalize nameL s.data.toList sc = n at *
  go_enter Tryz.func69,Tryz.ntmps69
  go_wp2_with (first
   | (go_at_call 101;refine (hdc _).mono ?_;rintro e W1 ⟨m,rfl,hb1⟩;have hbw : Below w.heap.size w W1:=(hal _).trans (hb1.mono (by simp)))
   | (go_at_call 102;refine (hbn _ hbw).mono ?_;rintro e W ⟨rfl,rfl⟩)
   | (go_at_call 103;refine (hnm _ hbw).mono ?_;rintro e W2 ⟨rfl,hb2⟩;obtain ⟨⟨c0,c1,c2,c3⟩,f0,f1,f2,f3⟩:=four_of (heap_at2 hb2 (four_new hb1))))
  refine bodyPost_ret (token_res (four_set (heap_at2 hb2 (four_new hb1))) rfl) rfl ⟨by rw [HR.out];rfl,?_⟩
  exact four_below (hbw.trans (hb2.mono hbw.size)) (Nat.le_refl _)
 ·have hn0 : ¬ 0 < nameL s.data.toList sc:=fun h=>hN (by have:=(nameL_pos s.data.toList sc).1 h;omega)
  rw [decide_eq_false hN] at hbn
  cases hD : digC (atL s.data.toList 0)
  ·rw [hD] at hdg
   by_cases hQ : atL s.data.toList 0 = 34 ∨ atL s.data.toList 0 = 39
   ·have HR : Hid (nextL s.data.toList sc = unqNx s.data.toList):=by
     show _ = _
     unfold nextL
     rw [if_neg hn0,hD,if_neg (by simp),if_pos hQ]
    have hqt:=fun W=>quoted_own s W hs
    have hQ2 : (((dec1 s.data.toList : Nat) : Int) == 34) = true ∨ ((((dec1 s.data.toList : Nat) : Int) == 34) = false ∧ (((dec1 s.data.toList : Nat) : Int) == 39) = true):=by
     rcases hQ with h | h
     ·exact .inl (by rw [(quote_dec _ hne 34 (by omega)).1 h];rfl)
     ·exact .inr ⟨by rw [(quote_dec _ hne 39 (by omega)).1 h];rfl,by rw [(quote_dec _ hne 39 (by omega)).1 h];rfl⟩
    clear hN hcell hQ hD hn0 hne
    generalize dec1 s.data.toList = R at *
    rcases hQ2 with q1 | ⟨q1,q2⟩
    all_goals
     go_enter Tryz.func69,Tryz.ntmps69
     go_wp2_with (first
      | (go_at_call 101;refine (hdc _).mono ?_;rintro e W1 ⟨m,rfl,hb1⟩;have hbw : Below w.heap.size w W1:=(hal _).trans (hb1.mono (by simp)))
      | (go_at_call 102;refine (hbn _ hbw).mono ?_;rintro e W ⟨rfl,rfl⟩)
      | (go_at_call 104;refine (hdg _).mono ?_;rintro e W ⟨rfl,rfl⟩)
      | (go_at_call 106;refine (hqt _).mono ?_;rintro e W2 ⟨hr,hb2⟩;obtain ⟨t1,X,t3,m2,cc,rfl⟩:=tokRes_ex hr;obtain ⟨⟨c0,c1,c2,c3⟩,f0,f1,f2,f3⟩:=four_of (heap_at2 hb2 (four_new hb1))))
     refine bodyPost_ret (token_res (four_set (heap_at2 hb2 (four_new hb1))) rfl) rfl ⟨by rw [HR.out];exact hr,?_⟩
     exact four_below (hbw.trans (hb2.mono hbw.size)) (Nat.le_refl _)
   ·have HR : Hid (nextL s.data.toList sc = signNx s.data.toList):=by
     show _ = _
     unfold nextL
     rw [if_neg hn0,hD,if_neg (by simp),if_neg hQ]
    have hsg:=fun W (hb : Below w.heap.size w W)=>sign_own s W (env_below he hb)
    have q1 : (((dec1 s.data.toList : Nat) : Int) == 34) = false:=int_eqb (fun e=>hQ (.inl ((quote_dec _ hne 34 (by omega)).2 (by omega))))
    have q2 : (((dec1 s.data.toList : Nat) : Int) == 39) = false:=int_eqb (fun e=>hQ (.inr ((quote_dec _ hne 39 (by omega)).2 (by omega))))
    clear hN hcell hQ hD hn0 hne
    generalize dec1 s.data.toList = R at *
    go_enter Tryz.func69,Tryz.ntmps69
    go_wp2_with (first
     | (go_at_call 101;refine (hdc _).mono ?_;rintro e W1 ⟨m,rfl,hb1⟩;have hbw : Below w.heap.size w W1:=(hal _).trans (hb1.mono (by simp)))
     | (go_at_call 102;refine (hbn _ hbw).mono ?_;rintro e W ⟨rfl,rfl⟩)
     | (go_at_call 104;refine (hdg _).mono ?_;rintro e W ⟨rfl,rfl⟩)
     | (go_at_call 107;refine (hsg _ hbw).mono ?_;rintro e W2 ⟨hr,hb2⟩;obtain ⟨t1,X,t3,m2,cc,rfl⟩:=tokRes_ex hr;obtain ⟨⟨c0,c1,c2,c3⟩,f0,f1,f2,f3⟩:=four_of (heap_at2 hb2 (four_new hb1))))
    refine bodyPost_ret (token_res (four_set (heap_at2 hb2 (four_new hb1))) rfl) rfl ⟨by rw [HR.out];exact hr,?_⟩
    exact four_below (hbw.trans (hb2.mono hbw.size)) (Nat.le_refl _)
  ·rw [hD] at hdg
   have HR : Hid (nextL s.data.toList sc = numbL s.data.toList sc):=by
    show _ = _
    unfold nextL
    rw [if_neg hn0,if_pos hD]
   have hnb:=fun W (hb : Below w.heap.size w W)=>number_own b s sc W (env_below he hb) (hcell W hb) hs hp0
   clear hN hcell hD hn0 hne
   generalize dec1 s.data.toList = R at *
   go_enter Tryz.func69,Tryz.ntmps69
   go_wp2_with (first
    | (go_at_call 101;refine (hdc _).mono ?_;rintro e W1 ⟨m,rfl,hb1⟩;have hbw : Below w.heap.size w W1:=(hal _).trans (hb1.mono (by simp)))
    | (go_at_call 102;refine (hbn _ hbw).mono ?_;rintro e W ⟨rfl,rfl⟩)
    | (go_at_call 104;refine (hdg _).mono ?_;rintro e W ⟨rfl,rfl⟩)
    | (go_at_call 105;refine (hnb _ hbw).mono ?_;rintro e W2 ⟨hr,hb2⟩;obtain ⟨t1,X,t3,m2,cc,rfl⟩:=tokRes_ex hr;obtain ⟨⟨c0,c1,c2,c3⟩,f0,f1,f2,f3⟩:=four_of (heap_at2 hb2 (four_new hb1))))
   refine bodyPost_ret (token_res (four_set (heap_at2 hb2 (four_new hb1))) rfl) rfl ⟨by rw [HR.out];exact hr,?_⟩
   exact four_below (hbw.trans (hb2.mono hbw.size)) (Nat.le_refl _)
end Go.Proofs.YthfkfbcopinmiaaGreatDoor
set_option linter.unusedVariables false
set_option maxRecDepth 100000
set_option maxHeartbeats 8000000
namespace Go.Proofs.YthfkfbcopinmiaaGreatDoor
open Go.RowKit
theorem fin4 {w W : World} {b : Nat} {s : ByteArray} {p : Nat} {sc : Bool} {x y z u : Value} (hb : b < w.heap.size) (hR : Rdr W b s p sc) (hK : Kept b w W) :
 Rdr ((((W.setCell ⟨w.heap.size,0,none⟩ x).setCell ⟨w.heap.size,1,none⟩ y).setCell ⟨w.heap.size,2,none⟩ z).setCell ⟨w.heap.size,3,none⟩ u) b s p sc ∧
 Kept b w ((((W.setCell ⟨w.heap.size,0,none⟩ x).setCell ⟨w.heap.size,1,none⟩ y).setCell ⟨w.heap.size,2,none⟩ z).setCell ⟨w.heap.size,3,none⟩ u):=by
 have hne : b ≠ w.heap.size:=by omega
 exact ⟨(((hR.other hne 0 x).other hne 1 y).other hne 2 z).other hne 3 u,(((hK.new (Nat.le_refl _) 0 x).new (Nat.le_refl _) 1 y).new (Nat.le_refl _) 2 z).new (Nat.le_refl _) 3 u⟩
theorem new_at {V : World} {n : Nat} {x : Obj} (h : V.heap[n]? = some x) (o : Obj) : (V.alloc o).heap[n]? = some x:=(Below.heap_alloc V o n (Array.getElem?_eq_some_iff.1 h).1).trans h
theorem Rdr.drewN {w : World} {b : Nat} {s : ByteArray} {a : Nat} {sc : Bool} (h : Rdr w b s a sc) (n : Nat) : Rdr (w.drewN n) b s a sc:=h
theorem Rdr.new {w : World} {b : Nat} {s : ByteArray} {a : Nat} {sc : Bool} (h : Rdr w b s a sc) (o : Obj) : Rdr (w.alloc o) b s a sc:=new_at h o
theorem nextP_own (b : Nat) (s : ByteArray) (a : Nat) (sc : Bool) (w : World) (he : Env w) (ho : Over b) (hR : Rdr w b s a sc) (ha : a ≤ s.size) (hs : s.size < 4294967281) :
 Calls Tryz.prog 31 #[.pointer (some ⟨b,0,none⟩)] w fun e w'=>∃ a',a' ≤ s.size ∧ nxtRes s.data.toList (absP s.data.toList a) sc e a' ∧ Rdr w' b s a' sc ∧ Kept b w w':=by
 have hbw:=hR.cells.2.2.2.2
 have hsl : Hid (s.size = s.data.toList.length):=Lib.size_eq s
 go_enter Tryz.func31,Tryz.ntmps31
 go_wp2
 refine scope_again 0 (fun a' W=>a'.defers = [] ∧ a'.tmps.size = 90 ∧ a'.tmps.getD 0 undef = .pointer (some ⟨b,0,none⟩) ∧ a'.tmps.getD 2 undef = .pointer (some ⟨w.heap.size,0,none⟩) ∧ a'.tmps.getD 3 undef = .int .i64 0 ∧ ∃ p,NextAt w b s sc a p W) (fun _ W=>s.size - placeOf b W) rfl ⟨rfl,rfl,rfl,rfl,rfl,a,ha,hR.below ((Below.refl _ _).alloc (Nat.le_refl _) _) hbw,heap_alloc_new w _,(Kept.refl b w).alloc _,rfl⟩ ?_
 rintro ⟨tmps,defers⟩ W ⟨rfl,hz,h0,h2,h3,p,hN⟩
 obtain ⟨f,rfl⟩:=frame90 hz h0 h2 h3
 clear hz h0 h2 h3
 obtain ⟨r0,r1,r2,rf,rb⟩:=hN.rdr.cells
 have hsr:=drop_run s p hN.le
 have hxl : (s.extract p s.size).data.toList = s.data.toList.drop p:=drop_extract s p
 have hxs : (s.extract p s.size).size = s.size - p:=by rw [Lib.size_eq,hxl,List.length_drop,← Lib.size_eq]
 have HX : Hid ((s.extract p s.size).data.toList = s.data.toList.drop p):=hxl
 clear hxl
 generalize s.extract p s.size = X at *
 obtain ⟨⟨c0,c1,c2,c3⟩,f0,f1,f2,f3⟩:=four_of hN.res
 have hple:=hN.le
 by_cases hend : p = s.size
 ·have hX0 : X.toList.isEmpty = true:=empty_iff (by rw [HX.out];exact List.drop_eq_nil_of_le (by rw [← hsl.out];omega))
  have HA : Hid (absP s.data.toList a = (p,true) ∧ s.data.toList.drop p = []):=⟨by rw [← hN.past];exact abs_end (by rw [← hsl.out];omega),List.drop_eq_nil_of_le (by rw [← hsl.out];omega)⟩
  clear hend hxs
  go_wp2
  go_quiet (fail)
  go_wp2
  simp only [Exit.jump]
  refine bodyPost_ret (nextP_res (four_set (W:=W.drewN nq) hN.res) rfl) rfl ⟨p,hple,?_,fin4 hbw hN.rdr (hN.kept.drewN nq)⟩
  unfold nxtRes
  rw [HA.out.1,if_neg (by simp),if_pos HA.out.2]
  rfl
 ·have hlt : p < s.size:=by omega
  have hxp : 0 < X.size:=by omega
  have hX0 : X.toList.isEmpty = false:=empty_not (by rw [HX.out];exact drop_ne s p hlt)
  obtain ⟨c,hc⟩ : ∃ c,s.data.toList[p]? = some c:=⟨_,List.getElem?_eq_getElem (by rw [← hsl.out];exact hlt)⟩
  have hb0 : ((X[0].toNat : Nat) : Int) = ((c.toNat : Nat) : Int):=by
   rw [byteI X 0 hxp,HX.out,atL_drop]
   simp only [Nat.add_zero,atL,List.getD_eq_getElem?_getD,hc,Option.getD_some]
  have hbl:=fun W=>blank_any ((c.toNat : Nat) : Int) W
  rw [blank_dec] at hbl
  have hcl : c.toNat < 256:=c.toNat_lt
  have henv : Env W:=he.keep (hN.kept.below (Nat.le_refl b) (by omega)) ho
  clear hend
  cases hB : isBl c
  ·rw [hB] at hbl
   have hp1:=fun W=>Tryz.strings_HasPrefix X ⟨#[47,47]⟩ W
   have hp2:=fun W=>Tryz.strings_HasPrefix X ⟨#[47,42]⟩ W
   unfold Lib.hasPrefix at hp1 hp2
   rw [show (⟨#[47,47]⟩ : ByteArray).data.toList = [47,47] from rfl,HX.out,lead2 _ _ _ _ _ hc] at hp1
   rw [show (⟨#[47,42]⟩ : ByteArray).data.toList = [47,42] from rfl,HX.out,lead2 _ _ _ _ _ hc] at hp2
   by_cases hA : c = 47 ∧ s.data.toList[p + 1]? = some 47
   ·rw [decide_eq_true hA] at hp1
    obtain ⟨rfl,h47⟩:=hA
    have hls:=fun W=>lineSize_any X W
    rw [HX.out] at hls
    have hl1 : 1 ≤ lineL (s.data.toList.drop p):=by rw [lineL_go hc (by decide)];omega
    have hl2:=lineL_le (s.data.toList.drop p)
    rw [List.length_drop,← hsl.out] at hl2
    have HP : Hid (absP s.data.toList (p + lineL (s.data.toList.drop p)) = absP s.data.toList p):=abs_line hc h47
    clear hc h47 hp2 hB
    generalize lineL (s.data.toList.drop p) = L at *
    have tok1 : True:=trivial
    go_wp2
    go_quiet (fail)
    go_wp2_with (first
     | (go_at_call 65;refine (hbl _).mono ?_;rintro e W1 ⟨rfl,rfl⟩)
     | (go_at_call 66;refine (hp1 _).mono ?_;rintro e W1 ⟨rfl,rfl⟩))
    go_region_with (go_at_call 67;refine (hls _).mono ?_;rintro e W1 ⟨rfl,rfl⟩)
    all_goals
     go_wp2
     go_step3
     have hN2:=hN.go2 (n:=nq + 1) (v:=IntKind.i64.wrap ((p : Int) + (L : Int))) (q:=p + L) hbw (by omega) HP.out (by rw [IntKind.wrap_i64];omega)
     refine ⟨rfl,⟨rfl,rfl,rfl,rfl,rfl,p + L,hN2⟩,?_⟩
     rw [place_rdr hN.rdr,place_rdr hN2.rdr]
     omega
   ·rw [decide_eq_false hA] at hp1
    by_cases hO : c = 47 ∧ s.data.toList[p + 1]? = some 42
    ·rw [decide_eq_true hO] at hp2
     obtain ⟨rfl,h42⟩:=hO
     have hx2 : 2 ≤ X.size:=by
      have:=(List.getElem?_eq_some_iff.1 h42).1
      rw [← hsl.out] at this
      omega
     have hns:=fun W (h : Env W)=>noteSize_any X W h (by omega) hx2
     have hnd : X.data.toList.drop 2 = s.data.toList.drop (p + 2):=by rw [HX.out,List.drop_drop]
     unfold noteN noteB at hns
     rw [hnd] at hns
     cases hnl : noteL (s.data.toList.drop (p + 2)) with
     | none =>
      rw [hnl] at hns
      have HA : Hid (absP s.data.toList a = (p,false)):=by
       show _ = _
       rw [← hN.past]
       exact abs_open hc h42 hnl
      clear hc h42 hB hA hnl hnd
      have tok1 : True:=trivial
      go_wp2
      go_quiet (fail)
      go_wp2_with (first
       | (go_at_call 65;refine (hbl _).mono ?_;rintro e W1 ⟨rfl,rfl⟩)
       | (go_at_call 66;have _t:=tok1;refine (hp1 _).mono ?_;rintro e W1 ⟨rfl,rfl⟩;clear tok1)
       | (go_at_call 66;refine (hp2 _).mono ?_;rintro e W1 ⟨rfl,rfl⟩)
       | (go_at_call 68;refine (hns _ (env_below henv (drewN_below4 _ _))).mono ?_;rintro e W1 ⟨rfl,rfl⟩))
      simp only [Exit.jump]
      refine bodyPost_ret (nextP_res (four_set (W:=W.drewN nq) hN.res) rfl) rfl ⟨p,hple,?_,fin4 hbw hN.rdr (hN.kept.drewN nq)⟩
      unfold nxtRes
      rw [HA.out,if_pos rfl]
      exact ⟨rfl,rfl⟩
     | some k =>
      rw [hnl] at hns
      have hkl:=noteL_le _ _ hnl
      rw [List.length_drop,← hsl.out] at hkl
      have HP : Hid (absP s.data.toList (p + (k + 2)) = absP s.data.toList p):=abs_note hc h42 hnl
      clear hc h42 hB hA hnl hnd
      have tok1 : True:=trivial
      go_wp2
      go_quiet (fail)
      go_wp2_with (first
       | (go_at_call 65;refine (hbl _).mono ?_;rintro e W1 ⟨rfl,rfl⟩)
       | (go_at_call 66;have _t:=tok1;refine (hp1 _).mono ?_;rintro e W1 ⟨rfl,rfl⟩;clear tok1)
       | (go_at_call 66;refine (hp2 _).mono ?_;rintro e W1 ⟨rfl,rfl⟩)
       | (go_at_call 68;refine (hns _ (env_below henv (drewN_below4 _ _))).mono ?_;rintro e W1 ⟨rfl,rfl⟩))
      go_step3
      have hN2:=hN.go2 (n:=nq) (v:=(p : Int) + ((k : Int) + 2)) (q:=p + (k + 2)) hbw (by omega) HP.out (by omega)
      refine ⟨rfl,⟨rfl,rfl,rfl,rfl,rfl,p + (k + 2),hN2⟩,?_⟩
      rw [place_rdr hN.rdr,place_rdr hN2.rdr]
      omega
    ·rw [decide_eq_false hO] at hp2
     have HA : Hid (absP s.data.toList a = (p,true) ∧ s.data.toList.drop p ≠ []):=⟨by rw [← hN.past];exact abs_stop hc hB hA hO,drop_ne s p hlt⟩
     have htk:=fun W h1 h2=>token_own b X sc W h1 h2 (by omega) hxp
     rw [HX.out] at htk
     have hRlt:=(Array.getElem?_eq_some_iff.1 hN.res).1
     have hlen:=fun x=>next_len (l:=s.data.toList.drop p) (sc:=sc) (x:=x) (drop_ne s p hlt)
     clear hc hB hA hO
     generalize c.toNat = C at *
     have tok1 : True:=trivial
     cases hnx : nextL (s.data.toList.drop p) sc with
     | error ce =>
      rw [hnx] at htk
      have hce : ((ce : Int) == 0) = false:=int_eqb (by rcases next_err hnx with h | h <;> omega)
      simp only [tokRes,tokV] at htk
      go_wp2
      go_quiet (fail)
      go_wp2_with (first
       | (go_at_call 65;refine (hbl _).mono ?_;rintro e W1 ⟨rfl,rfl⟩)
       | (go_at_call 66;have _t:=tok1;refine (hp1 _).mono ?_;rintro e W1 ⟨rfl,rfl⟩;clear tok1)
       | (go_at_call 66;refine (hp2 _).mono ?_;rintro e W1 ⟨rfl,rfl⟩)
       | (go_at_call 69;refine (htk _ (env_below henv (drewN_below4 _ _)) r2).mono ?_;rintro e W2 ⟨rfl,hb2⟩;have hr2 : W2.heap[w.heap.size]? = _:=(hb2.block _ hRlt).trans hN.res;obtain ⟨⟨d0,d1,d2,d3⟩,g0,g1,g2,g3⟩:=four_of hr2;have hlt2 : w.heap.size < W2.heap.size:=Nat.lt_of_lt_of_le hRlt hb2.size))
      have hR2 : Rdr W2 b s p sc:=Rdr.below (Rdr.drewN hN.rdr _) hb2 rb
      have hK2 : Kept b w W2:=(hN.kept.drewN nq).then hb2
      simp only [Exit.jump]
      refine bodyPost_ret (nextP_res (new_at (four_set hr2) _) rfl) rfl ⟨p,hple,?_,(fin4 hbw hR2 hK2).1.new _,(fin4 hbw hR2 hK2).2.alloc _⟩
      unfold nxtRes
      rw [HA.out.1,if_neg (by simp),if_neg HA.out.2,hnx]
      exact ⟨rfl,rfl⟩
     | ok x =>
      have hx:=hlen x hnx
      rw [List.length_drop,← hsl.out] at hx
      rw [hnx] at htk
      simp only [tokRes,tokV] at htk
      have HX2 : Hid (nextL (s.data.toList.drop p) sc = .ok x):=hnx
      obtain ⟨⟨t1,t2,t3⟩,n⟩:=x
      simp only at htk hx
      clear hnx hlen
      generalize hT2 : (⟨t2.toArray⟩ : ByteArray) = T2 at *
      go_wp2
      go_quiet (fail)
      go_wp2_with (first
       | (go_at_call 65;refine (hbl _).mono ?_;rintro e W1 ⟨rfl,rfl⟩)
       | (go_at_call 66;have _t:=tok1;refine (hp1 _).mono ?_;rintro e W1 ⟨rfl,rfl⟩;clear tok1)
       | (go_at_call 66;refine (hp2 _).mono ?_;rintro e W1 ⟨rfl,rfl⟩)
       | (go_at_call 69;refine (htk _ (env_below henv (drewN_below4 _ _)) r2).mono ?_;rintro e W2 ⟨rfl,hb2⟩;have hr2 : W2.heap[w.heap.size]? = _:=(hb2.block _ hRlt).trans hN.res;obtain ⟨⟨d0,d1,d2,d3⟩,g0,g1,g2,g3⟩:=four_of hr2;have hlt2 : w.heap.size < W2.heap.size:=Nat.lt_of_lt_of_le hRlt hb2.size;have hR2 : Rdr W2 b s p sc:=Rdr.below (Rdr.drewN hN.rdr _) hb2 rb;obtain ⟨q0,q1,q2,qf,qb⟩:=hR2.cells;have hne : b ≠ w.heap.size:=Nat.ne_of_lt hbw))
      have hr3:=(Below.heap_setCell W2 ⟨b,1,none⟩ (.int .i64 ((p : Int) + (n : Int))) w.heap.size hne.symm).trans hr2
      have hR3 : Rdr (W2.setCell ⟨b,1,none⟩ (.int .i64 ((p : Int) + (n : Int)))) b s (p + n) sc:=hR2.set (p + n)
      have hK3:=((hN.kept.drewN nq).then hb2).set 1 (.int .i64 ((p : Int) + (n : Int)))
      simp only [Exit.jump]
      refine bodyPost_ret (nextP_res (new_at (four_set hr3) _) rfl) rfl ⟨p + n,by omega,?_,(fin4 hbw hR3 hK3).1.new _,(fin4 hbw hR3 hK3).2.alloc _⟩
      unfold nxtRes
      rw [HA.out.1,if_neg (by simp),if_neg HA.out.2,HX2.out]
      exact ⟨by simp only [tokV,hT2];rfl,rfl⟩
  ·rw [hB] at hbl
   have HP : Hid (absP s.data.toList (p + 1) = absP s.data.toList p):=abs_blank hc hB
   clear hc hB
   generalize c.toNat = C at *
   go_wp2
   go_quiet (fail)
   go_wp2_with (go_at_call 65;refine (hbl _).mono ?_;rintro e W1 ⟨rfl,rfl⟩)
   go_step3
   have hN2:=hN.go2 (n:=nq) (v:=(p : Int) + 1) (q:=p + 1) hbw (by omega) HP.out (by omega)
   refine ⟨rfl,⟨rfl,rfl,rfl,rfl,rfl,p + 1,hN2⟩,?_⟩
   rw [place_rdr hN.rdr,place_rdr hN2.rdr]
   omega
end Go.Proofs.YthfkfbcopinmiaaGreatDoor
