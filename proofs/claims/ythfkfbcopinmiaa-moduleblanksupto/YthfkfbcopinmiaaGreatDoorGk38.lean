/- Own text. An element that is stored into a row behind the append that made room for it. -/
import Derived.Test.YthfkfbcopinmiaaGreatDoorGk37
set_option linter.unusedVariables false
set_option linter.unusedSimpArgs false
namespace Go.Proofs.YthfkfbcopinmiaaGreatDoor
open Go.RowKit
theorem own_form {w : World} {B : Nat} {v : Value} {n : Nat} {xs : List Value} (h : w.ownsRow B 24 4 v n xs) : ∃ ad c,v = .slice ad n c:=by
 rcases h.2 with ⟨rfl,rfl⟩ | ⟨g,cap,cur,rfl,_⟩
 all_goals
  exact ⟨_,_,rfl⟩
theorem own_last {w : World} {B g n cap : Nat} {xs : List Value} {z0 z1 z2 z3 : Value} (h : w.ownsRow B 24 4 (.slice (some ⟨g,0,none⟩) (n+1) cap) (n+1) (xs ++ [z0,z1,z2,z3])) :
 (w.cell? ⟨g,n * 4,none⟩=some z0∧w.cell? ⟨g,n * 4+1,none⟩=some z1∧w.cell? ⟨g,n * 4+2,none⟩=some z2∧w.cell? ⟨g,n * 4+3,none⟩=some z3)∧(w.frozen? ⟨g,n * 4,none⟩=false∧w.frozen? ⟨g,n * 4+1,none⟩=false∧w.frozen? ⟨g,n * 4+2,none⟩=false∧w.frozen? ⟨g,n * 4+3,none⟩=false):=by
 have hl : xs.length=n * 4:=by have:=h.1;simp at this;omega
 rcases h.2 with ⟨e,_⟩ | ⟨g',cap',cur,e1,e2,e3,e4,e5,e6,e7⟩
 ·cases e
 cases e1
 have hc : ∀ j,j < 4→w.cell? ⟨g,n * 4+j,none⟩=([z0,z1,z2,z3] : List Value)[j]?:=fun j hj=>by
  rw [cell_of_row _ _ _ _ _ _ e3]
  have h1 : (cur.toList.take ((n+1) * 4))[n * 4+j]?=(xs ++ [z0,z1,z2,z3])[n * 4+j]?:=by rw [e7]
  rw [List.getElem?_take_of_lt (by omega),List.getElem?_append_right (by omega)] at h1
  rw [show n * 4+j - xs.length=j by omega] at h1
  simpa using h1
 have hf : ∀ j,w.frozen? ⟨g,j,none⟩=false:=fun j=>by simp [World.frozen?,e3]
 exact ⟨⟨hc 0 (by omega),hc 1 (by omega),hc 2 (by omega),hc 3 (by omega)⟩,hf _,hf _,hf _,hf _⟩
theorem own_set {w : World} {B g n cap : Nat} {xs : List Value} {z0 z1 z2 z3 : Value} (c0 c1 c2 c3 : Value) (h : w.ownsRow B 24 4 (.slice (some ⟨g,0,none⟩) (n+1) cap) (n+1) (xs ++ [z0,z1,z2,z3])) :
 ((((w.setCell ⟨g,n * 4,none⟩ c0).setCell ⟨g,n * 4+1,none⟩ c1).setCell ⟨g,n * 4+2,none⟩ c2).setCell ⟨g,n * 4+3,none⟩ c3).ownsRow B 24 4 (.slice (some ⟨g,0,none⟩) (n+1) cap) (n+1) (xs ++ [c0,c1,c2,c3]):=by
 have hl : xs.length=n * 4:=by have:=h.1;simp at this;omega
 refine ⟨by simp;omega,?_⟩
 rcases h.2 with ⟨e,_⟩ | ⟨g',cap',cur,e1,e2,e3,e4,e5,e6,e7⟩
 ·cases e
 cases e1
 refine .inr ⟨g,cap,(((cur.setIfInBounds (n * 4) c0).setIfInBounds (n * 4+1) c1).setIfInBounds (n * 4+2) c2).setIfInBounds (n * 4+3) c3,rfl,e2,?_,e4,e5,by simpa using e6,?_⟩
 ·simp [World.setCell,Array.getElem?_modify,e3]
 ·apply List.ext_getElem?
  intro j
  by_cases hj : j < (n+1) * 4
  ·rw [List.getElem?_take_of_lt hj]
   have h1 : j < n * 4→cur.toList[j]?=xs[j]?:=fun hj'=>by
    have:=congrArg (·[j]?) e7
    rw [List.getElem?_take_of_lt hj,List.getElem?_append_left (by omega)] at this
    exact this
   have hsz : j < cur.size:=by rw [e6];exact Nat.lt_of_lt_of_le hj (Nat.mul_le_mul_right 4 e4)
   by_cases h2 : j < n * 4
   ·rw [List.getElem?_append_left (by omega),← h1 h2]
    simp [Array.getElem?_setIfInBounds,List.getElem?_set,show n * 4 ≠ j by omega,show n * 4+1 ≠ j by omega,show n * 4+2 ≠ j by omega,show n * 4+3 ≠ j by omega]
   ·rw [List.getElem?_append_right (by omega),hl]
    have hm : j=n * 4 ∨ j=n * 4+1 ∨ j=n * 4+2 ∨ j=n * 4+3:=by omega
    rcases hm with rfl | rfl | rfl | rfl <;> simp [List.getElem?_set,hsz]
  ·rw [List.getElem?_eq_none (by simp;omega),List.getElem?_eq_none (by simp;omega)]
abbrev put4 (w : World) (g n : Nat) (c0 c1 c2 c3 : Value) : World:=(((w.setCell ⟨g,n * 4,none⟩ c0).setCell ⟨g,n * 4+1,none⟩ c1).setCell ⟨g,n * 4+2,none⟩ c2).setCell ⟨g,n * 4+3,none⟩ c3
theorem put4_other {w : World} {g n k : Nat} (h : k ≠ g) (c0 c1 c2 c3 : Value) : (put4 w g n c0 c1 c2 c3).heap[k]?=w.heap[k]?:=by
 unfold put4
 rw [Below.heap_setCell _ _ _ _ h,Below.heap_setCell _ _ _ _ h,Below.heap_setCell _ _ _ _ h,Below.heap_setCell _ _ _ _ h]
theorem put4_same {w u : World} {g n : Nat} (h : u.heap[g]?=w.heap[g]?) (c0 c1 c2 c3 : Value) : (put4 u g n c0 c1 c2 c3).heap[g]?=(put4 w g n c0 c1 c2 c3).heap[g]?:=by
 simp [put4,World.setCell,Array.getElem?_modify,h]
theorem set_os (w : World) (a : Addr) (v : Value) : (w.setCell a v).os=w.os:=rfl
theorem set_tape (w : World) (a : Addr) (v : Value) : (w.setCell a v).tape=w.tape:=rfl
theorem set_output (w : World) (a : Addr) (v : Value) : (w.setCell a v).output=w.output:=rfl
theorem mem_done {B MB MN i gg cap N : Nat} {W1 WA W4 : World} {v : Nat→Value} {F : Nat→List (Nd × Value)} {ns : List (List UInt8)} {x : Nd} {v1 z0 z1 z2 z3 : Value} (h : MemAt B W1 MB MN v F ns) (hi : i < 3)
 (hN : ∀ j,j < 3→∀ g,(v j).ownBlock=some g→g < N) (l1 : LAt W1 (fun b=>N ≤ b∧B ≤ b) v1 x.ks)
 (hg : W1.grownBy WA (v i).ownBlock) (hat : (v i).ownBlock=some gg ∨ gg=W1.heap.size)
 (hown : WA.ownsRow B 24 4 (.slice (some ⟨gg,0,none⟩) ((F i).length+1) cap) ((F i).length+1) (rowN (F i) ++ [z0,z1,z2,z3]))
 (hW4 : W4=(put4 WA gg (F i).length (.int .i64 x.k) (.string x.t) (.int .i64 x.n) v1).setCell ⟨MB,i,none⟩ (.slice (some ⟨gg,0,none⟩) ((F i).length+1) cap) ∨
  W4=put4 (WA.setCell ⟨MB,i,none⟩ (.slice (some ⟨gg,0,none⟩) ((F i).length+1) cap)) gg (F i).length (.int .i64 x.k) (.string x.t) (.int .i64 x.n) v1) :
 MemAt B W4 MB MN (upd v i (.slice (some ⟨gg,0,none⟩) ((F i).length+1) cap)) (upd F i (F i ++ [(x,v1)])) ns∧W4.os=W1.os∧W4.tape=W1.tape∧W4.output=W1.output∧W1.heap.size ≤ W4.heap.size∧(∀ k,k < B→k ≠ MB→W4.heap[k]?=W1.heap[k]?):=by
 have hlt:=h.lt
 have hle:=h.le
 have olt : ∀ g,(v i).ownBlock=some g→B ≤ g∧g < W1.heap.size:=fun g hg=>row_lt (h.own i hi) g hg
 have hgB : B ≤ gg:=by rcases hat with e | e;exact (olt gg e).1;omega
 have hgM : gg ≠ MB:=by omega
 have hbA : ∀ k,k < W1.heap.size→some k ≠ (v i).ownBlock→WA.heap[k]?=W1.heap[k]?:=fun k h1 h2=>hg.block k h1 h2
 have e4 : W4.heap.size=WA.heap.size:=by rcases hW4 with e | e <;> rw [e] <;> simp [put4,World.setCell]
 have eo : W4.os=WA.os∧W4.tape=WA.tape∧W4.output=WA.output:=by
  rcases hW4 with e | e
  all_goals
   rw [e];simp only [put4,set_os,set_tape,set_output,and_self]
 have o4 : ∀ k,k ≠ MB→W4.heap[k]?=(put4 WA gg (F i).length (.int .i64 x.k) (.string x.t) (.int .i64 x.n) v1).heap[k]?:=fun k hk=>by
  rcases hW4 with e | e
  ·rw [e];exact Below.heap_setCell _ _ _ _ hk
  ·rw [e]
   by_cases hkg : k=gg
   ·subst hkg;exact put4_same (Below.heap_setCell _ _ _ _ hk) _ _ _ _
   ·rw [put4_other hkg,put4_other hkg];exact Below.heap_setCell _ _ _ _ hk
 have hA : WA.heap[MB]?=some (.cells #[v 0,v 1,v 2,.map (some MN)] 86 (0,0)):=(hbA MB (by omega) (fun e=>by have:=(olt MB e.symm).1;omega)).trans h.blk
 have m4 : W4.heap[MB]?=some (.cells #[upd v i (.slice (some ⟨gg,0,none⟩) ((F i).length+1) cap) 0,upd v i (.slice (some ⟨gg,0,none⟩) ((F i).length+1) cap) 1,upd v i (.slice (some ⟨gg,0,none⟩) ((F i).length+1) cap) 2,.map (some MN)] 86 (0,0)):=by
  have e : W4.heap[MB]?=(WA.setCell ⟨MB,i,none⟩ (.slice (some ⟨gg,0,none⟩) ((F i).length+1) cap)).heap[MB]?:=by
   rcases hW4 with e | e
   ·rw [e];simp [World.setCell,Array.getElem?_modify,put4,hgM,Ne.symm hgM]
   ·rw [e];exact put4_other (Ne.symm hgM) _ _ _ _
  rw [e]
  have hi3 : i=0 ∨ i=1 ∨ i=2:=by omega
  rcases hi3 with rfl | rfl | rfl <;> simp [World.setCell,Array.getElem?_modify,hA,upd]
 have hs3 : (put4 WA gg (F i).length (.int .i64 x.k) (.string x.t) (.int .i64 x.n) v1).heap.size=WA.heap.size:=by simp [put4,World.setCell]
 refine ⟨MemAt.push h hi hN l1 (by rw [hs3];exact hg.size) (fun k h1 h2=>(put4_other (fun e=>?_) _ _ _ _).trans (hbA k h1 h2)) (hat.imp id (fun e=>by omega)) (own_set _ _ _ _ hown) (by rw [e4,hs3]) o4 m4,?_,?_,?_,by rw [e4];exact hg.size,fun k h1 h2=>?_⟩
 ·subst e
  rcases hat with e | e
  ·exact h2 e.symm
  ·omega
 ·exact eo.1.trans hg.os
 ·exact eo.2.1.trans hg.tape
 ·exact eo.2.2.trans hg.output
 ·rw [o4 k h2,put4_other (by omega)]
  exact hbA k (by omega) (fun e=>by have:=(olt k e.symm).1;omega)
end Go.Proofs.YthfkfbcopinmiaaGreatDoor
