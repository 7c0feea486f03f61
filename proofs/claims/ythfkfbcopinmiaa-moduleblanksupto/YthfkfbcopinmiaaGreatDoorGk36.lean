/- Own text. Package parse: the tokens of what is read have their brackets closed (of the model;no program is named here). Package parse: the same tokens between a bracket and its end,one rule more being open (of the model;no program is named here). Package parse: what is read,and has a token behind it,is read alike if more tokens follow (of the model;no program is named here). Package parse: a statement that ends where the tokens end is read alike if more tokens follow,none of them an else at once (of the model;no program is named here). Package module: an item is read alike if more tokens follow (of the model;no program is named here). Package module: the items of a module are read alike if more tokens follow (of the model;no program is named here). Package module: an item ends within the tokens;none begins with else (of the model;no program is named here). -/
import Derived.Test.YthfkfbcopinmiaaGreatDoorGk08
import Derived.Test.YthfkfbcopinmiaaGreatDoorGk06
import Derived.Test.YthfkfbcopinmiaaGreatDoorGk21
import Derived.Test.YthfkfbcopinmiaaGreatDoorGk29
set_option linter.unusedVariables false
set_option linter.unusedSimpArgs false
set_option maxHeartbeats 8000000
namespace Go.Proofs.YthfkfbcopinmiaaGreatDoor
open Go.RowKit
def sumO (L : List Tok) : Nat→Int
 | 0=>0
 | c+1=>sumO L c+openI (tokA L c)
structure AtO (L : List Tok) (a0 d c : Nat) : Prop where
 le : a0 ≤ c
 sum : sumO L c=sumO L a0+(d : Int)
 pos : ∀ i,a0 ≤ i→i ≤ c→sumO L a0 ≤ sumO L i
variable {L : List Tok}
theorem AtO.refl (a : Nat) : AtO L a 0 a:=by
 refine ⟨Nat.le_refl _,by simp,fun i h1 h2=>?_⟩
 obtain rfl : i=a:=by omega
 exact Int.le_refl _
theorem AtO.go {a0 d c c' : Nat} (h : AtO L a0 d c) (h2 : AtO L c 0 c') : AtO L a0 d c':=by
 refine ⟨Nat.le_trans h.le h2.le,by have:=h.sum;have:=h2.sum;omega,fun i h3 h4=>?_⟩
 by_cases hi : i ≤ c
 ·exact h.pos i h3 hi
 ·have:=h2.pos i (by omega) h4
  have:=h.sum
  omega
theorem AtO.step {a0 d c : Nat} (h : AtO L a0 d c) (d' : Nat) (e : (d : Int)+openI (tokA L c)=d') : AtO L a0 d' (c+1):=by
 have hs : sumO L (c+1)=sumO L c+openI (tokA L c):=rfl
 have h1:=h.sum
 refine ⟨Nat.le_succ_of_le h.le,by omega,fun i h3 h4=>?_⟩
 by_cases hi : i ≤ c
 ·exact h.pos i h3 hi
 ·obtain rfl : i=c+1:=by omega
  omega
theorem AtO.plain {a0 d c : Nat} (h : AtO L a0 d c) (e : openI (tokA L c)=0) : AtO L a0 d (c+1):=h.step d (by omega)
def opS (s : ByteArray) : Int:=if s.toList=[40] ∨ s.toList=[91] ∨ s.toList=[123] then 1 else if s.toList=[41] ∨ s.toList=[93] ∨ s.toList=[125] then -1 else 0
theorem open_isS {a : Nat} {s : ByteArray} (h : isS L a s=true) : openI (tokA L a)=opS s:=by
 unfold isS at h
 simp only [Bool.and_eq_true,beq_iff_eq] at h
 unfold openI opS
 rw [if_pos h.1,h.2]
theorem open_kind {a : Nat} (h : (tokA L a).k ≠ 5) : openI (tokA L a)=0:=by unfold openI;rw [if_neg h]
theorem open_isWd {a : Nat} {s : ByteArray} (h : isWd L a s=true) : openI (tokA L a)=0:=by
 unfold isWd at h
 simp only [Bool.and_eq_true,beq_iff_eq] at h
 exact open_kind (by omega)
theorem open_isN {a : Nat} (h : isN L a=true) : openI (tokA L a)=0:=by
 unfold isN at h
 simp only [beq_iff_eq] at h
 exact open_kind (by omega)
def Bl {α : Type} (L : List Tok) (a0 d : Nat) (r : Rs α) : Prop:=∀ x b,r = .ok x b→AtO L a0 d b
theorem Bl.bad {α : Type} {a0 d p : Nat} {e : Int} : Bl L a0 d (.bad p e : Rs α):=fun x b h=>by cases h
theorem Bl.ok {α : Type} {a0 d b : Nat} {v : α} (h : AtO L a0 d b) : Bl L a0 d (.ok v b):=fun x c e=>by cases e;exact h
theorem Bl.bind {α β : Type} {a0 d d' : Nat} {r : Rs α} {f : α→Nat→Rs β} (hr : Bl L a0 d' r) (hf : ∀ u a1,AtO L a0 d' a1→Bl L a0 d (f u a1)) : Bl L a0 d (r.bind f):=by
 cases r with
 | ok u a1=>exact hf u a1 (hr u a1 rfl)
 | bad p e=>exact Bl.bad
theorem Bl.iteW {α : Type} {a0 d d' a : Nat} {s : ByteArray} {x y : Rs α} (hA : AtO L a0 d a) (hx : AtO L a0 d (a+1)→Bl L a0 d' x) (hy : Bl L a0 d' y) : Bl L a0 d' (if isWd L a s=true then x else y):=by
 split
 ·rename_i h;exact hx (hA.plain (open_isWd h))
 ·exact hy
theorem Bl.iteN {α : Type} {a0 d d' a : Nat} {x y : Rs α} (hx : Bl L a0 d' x) (hy : Bl L a0 d' y) : Bl L a0 d' (if isN L a=true then x else y):=by
 split
 ·exact hx
 ·exact hy
theorem Bl.iteK {α : Type} {a0 d d' a : Nat} {k : Int} (hk : k ≠ 5) {x y : Rs α} (hA : AtO L a0 d a) (hx : AtO L a0 d (a+1)→Bl L a0 d' x) (hy : Bl L a0 d' y) : Bl L a0 d' (if (tokA L a).k=k then x else y):=by
 split
 ·rename_i h;exact hx (hA.plain (open_kind (by omega)))
 ·exact hy
theorem Bl.ite3 {α : Type} {a0 d d' a : Nat} {s1 s2 : ByteArray} {w : ByteArray} {x y : Rs α} (h1 : opS s1=0) (h2 : opS s2=0) (hA : AtO L a0 d a) (hx : AtO L a0 d (a+1)→Bl L a0 d' x) (hy : Bl L a0 d' y) : Bl L a0 d' (if isS L a s1=true ∨ isS L a s2=true ∨ isWd L a w=true then x else y):=by
 split
 ·rename_i h;exact hx (hA.plain (h.elim (fun h=>by rw [open_isS h,h1]) (fun h=>h.elim (fun h=>by rw [open_isS h,h2]) open_isWd)))
 ·exact hy
theorem Bl.iteT {α : Type} {a0 d d' a : Nat} {s2 : ByteArray} {w : ByteArray} {x y : Rs α} (hA : AtO L a0 d a) (hx : AtO L a0 d (a+1)→Bl L a0 d' x) (hy : Bl L a0 d' y) : Bl L a0 d' (if isN L a=true ∨ isWd L a s2=true ∨ isWd L a w=true then x else y):=by
 split
 ·rename_i h;exact hx (hA.plain (h.elim open_isN (fun h=>h.elim open_isWd open_isWd)))
 ·exact hy
theorem Bl.ite {α : Type} {a0 d : Nat} {p : Prop} [Decidable p] {x y : Rs α} (hx : Bl L a0 d x) (hy : Bl L a0 d y) : Bl L a0 d (if p then x else y):=by
 split
 ·exact hx
 ·exact hy
structure Br (L M : List Tok) : Prop where
 len : M.length=L.length+2
 same : ∀ a,a < L.length→(tokA M (a+1)).k=(tokA L a).k∧(tokA M (a+1)).t=(tokA L a).t∧(tokA M (a+1)).n=(tokA L a).n
 fin : (tokA M (L.length+1)).k=5∧(tokA M (L.length+1)).t.toList=[41]
variable {L M : List Tok}
theorem tok_end {a : Nat} (h : L.length ≤ a) : tokA L a=endT:=by
 unfold tokA
 rw [List.getElem?_eq_none h]
 rfl
theorem Br.isSl (h : Br L M) {a : Nat} (ha : a < L.length) (s : ByteArray) : isS M (a+1) s=isS L a s:=by
 obtain ⟨h1,h2,_⟩:=h.same a ha
 unfold isS
 rw [h1,h2]
theorem Br.isS (h : Br L M) {a : Nat} (ha : a ≤ L.length) {s : ByteArray} (hs : s.toList ≠ [41]) : isS M (a+1) s=isS L a s:=by
 by_cases hl : a < L.length
 ·exact h.isSl hl s
 ·obtain rfl : a=L.length:=by omega
  have e : ([41] == s.toList)=false:=beq_eq_false_iff_ne.2 (fun e=>hs e.symm)
  unfold Go.Proofs.YthfkfbcopinmiaaGreatDoor.isS
  rw [tok_end (Nat.le_refl _),h.fin.1,h.fin.2,e]
  rfl
theorem Br.kind (h : Br L M) {a : Nat} (ha : a ≤ L.length) {k : Int} (h0 : k ≠ 0) (h5 : k ≠ 5) : ((tokA M (a+1)).k=k)=((tokA L a).k=k):=by
 by_cases hl : a < L.length
 ·rw [(h.same a hl).1]
 ·obtain rfl : a=L.length:=by omega
  rw [tok_end (Nat.le_refl _),h.fin.1]
  simp only [eq_iff_iff]
  constructor
  ·intro e;exact absurd e.symm h5
  ·intro e;exact absurd e.symm h0
theorem Br.kindB (h : Br L M) {a : Nat} (ha : a ≤ L.length) {k : Int} (h0 : k ≠ 0) (h5 : k ≠ 5) : ((tokA M (a+1)).k == k)=((tokA L a).k == k):=by
 have:=h.kind ha h0 h5
 rw [Bool.eq_iff_iff,beq_iff_eq,beq_iff_eq,this]
theorem Br.isWd (h : Br L M) {a : Nat} (ha : a ≤ L.length) (s : ByteArray) : isWd M (a+1) s=isWd L a s:=by
 by_cases hl : a < L.length
 ·obtain ⟨h1,h2,_⟩:=h.same a hl
  unfold Go.Proofs.YthfkfbcopinmiaaGreatDoor.isWd
  rw [h1,h2]
 ·unfold Go.Proofs.YthfkfbcopinmiaaGreatDoor.isWd
  rw [h.kindB ha (by decide) (by decide)]
  obtain rfl : a=L.length:=by omega
  rw [tok_end (Nat.le_refl _)]
  rfl
theorem Br.isN (h : Br L M) {a : Nat} (ha : a ≤ L.length) : isN M (a+1)=isN L a:=by
 unfold Go.Proofs.YthfkfbcopinmiaaGreatDoor.isN
 exact h.kindB ha (by decide) (by decide)
theorem line_eq {x y : Tok} (hk : x.k=y.k) (ht : x.t=y.t) : lineI x=lineI y:=by unfold lineI;rw [hk,ht]
theorem open_eq {x y : Tok} (hk : x.k=y.k) (ht : x.t=y.t) : openI x=openI y:=by unfold openI;rw [hk,ht]
theorem Br.line (h : Br L M) {a : Nat} (ha : a ≤ L.length) : lineI (tokA M (a+1))=lineI (tokA L a):=by
 by_cases hl : a < L.length
 ·exact line_eq (h.same a hl).1 (h.same a hl).2.1
 ·obtain rfl : a=L.length:=by omega
  rw [tok_end (Nat.le_refl _)]
  unfold lineI
  rw [h.fin.1,h.fin.2]
  decide
theorem arr_at {j : Nat} (hj : j < L.length) : ∀ (m i : Nat) (d : Int),i+m=j→(∀ c,i ≤ c→c < j→d+(sumO L (c+1) - sumO L i) ≠ 0)→d+(sumO L (j+1) - sumO L i)=0→arrL L (L.drop i) i d=isS L (j+1) sAr
 | 0,i,d,h,_,hz=>by
  obtain rfl : i=j:=by omega
  have e : tokA L i=L[i]:=by simp [tokA,hj]
  have e1 : sumO L (i+1)=sumO L i+openI (tokA L i):=rfl
  rw [List.drop_eq_getElem_cons hj,arrL,if_pos (by rw [← e];omega)]
 | m+1,i,d,h,hn,hz=>by
  have hi : i < L.length:=by omega
  have e : tokA L i=L[i]:=by simp [tokA,hi]
  have e1 : sumO L (i+1)=sumO L i+openI (tokA L i):=rfl
  have h1:=hn i (by omega) (by omega)
  rw [List.drop_eq_getElem_cons hi,arrL,if_neg (by rw [← e];omega)]
  refine arr_at hj m (i+1) _ (by omega) (fun c hc1 hc2=>?_) ?_
  ·have:=hn c (by omega) hc2
   rw [← e]
   omega
  ·rw [← e]
   omega
theorem least {P : Nat→Prop} (m : Nat) (h : P m) : ∃ j,j ≤ m∧P j∧∀ c,c < j→¬ P c:=by
 induction m using Nat.strongRecOn with
 | _ m ih =>
  by_cases hc : ∃ c,c < m∧P c
  ·obtain ⟨c,h1,h2⟩:=hc
   obtain ⟨j,h3,h4,h5⟩:=ih c h1 h2
   exact ⟨j,by omega,h4,h5⟩
  ·exact ⟨m,Nat.le_refl _,h,fun c h1 h2=>hc ⟨c,h1,h2⟩⟩
theorem first_zero {a b : Nat} (h : AtO L a 0 b) (hab : a < b) : ∃ j,a ≤ j∧j < b∧sumO L (j+1)=sumO L a∧∀ c,a ≤ c→c < j→sumO L (c+1) ≠ sumO L a:=by
 obtain ⟨j,h1,h2,h3⟩:=least (P:=fun c=>a ≤ c∧sumO L (c+1)=sumO L a) (b - 1) ⟨by omega,by rw [show b - 1+1=b by omega,h.sum];simp⟩
 exact ⟨j,h2.1,by omega,h2.2,fun c h4 h5 h6=>h3 c h5 ⟨h4,h6⟩⟩
def Sm {α : Type} (L : List Tok) (r r' : Rs α) : Prop:=∀ x b,r = .ok x b→(b ≤ L.length∧r' = .ok x (b+1)) ∨ ∃ p,r' = .bad p 2
theorem Sm.bad {α : Type} {p : Nat} {e : Int} {r' : Rs α} : Sm L (.bad p e) r':=fun x b h=>by cases h
theorem Sm.ok {α : Type} {b : Nat} {v : α} (h : b ≤ L.length) : Sm L (.ok v b) (.ok v (b+1)):=fun x c e=>by cases e;exact .inl ⟨h,rfl⟩
theorem Sm.bind {α β : Type} {r r' : Rs α} {f g : α→Nat→Rs β} (hr : Sm L r r') (hf : ∀ u a1,a1 ≤ L.length→Sm L (f u a1) (g u (a1+1))) : Sm L (r.bind f) (r'.bind g):=by
 cases r with
 | bad p e=>exact Sm.bad
 | ok u a1 =>
  rcases hr u a1 rfl with ⟨h,rfl⟩ | ⟨p,rfl⟩
  ·exact hf u a1 h
  ·intro x b _
   exact .inr ⟨p,rfl⟩
theorem Sm.iteS {α : Type} {a : Nat} {s : ByteArray} {x y x' y' : Rs α} (hB : Br L M) (hs : s.toList ≠ [41]) (ha : a ≤ L.length) (hx : a < L.length→isS L a s=true→Sm L x x') (hy : Sm L y y') : Sm L (if isS L a s=true then x else y) (if isS M (a+1) s=true then x' else y'):=by
 rw [hB.isS ha hs]
 split
 ·rename_i h;exact hx (isS_lt h) h
 ·exact hy
theorem Sm.iteW {α : Type} {a : Nat} {s : ByteArray} {x y x' y' : Rs α} (hB : Br L M) (ha : a ≤ L.length) (hx : a < L.length→Sm L x x') (hy : Sm L y y') : Sm L (if isWd L a s=true then x else y) (if isWd M (a+1) s=true then x' else y'):=by
 rw [hB.isWd ha]
 split
 ·rename_i h;exact hx (isWd_lt h)
 ·exact hy
theorem Sm.iteN {α : Type} {a : Nat} {x y x' y' : Rs α} (hB : Br L M) (ha : a ≤ L.length) (hx : a < L.length→Sm L x x') (hy : Sm L y y') : Sm L (if isN L a=true then x else y) (if isN M (a+1)=true then x' else y'):=by
 rw [hB.isN ha]
 split
 ·rename_i h;exact hx (isN_lt h)
 ·exact hy
theorem Sm.iteK {α : Type} {a : Nat} {k : Int} {x y x' y' : Rs α} (hB : Br L M) (h0 : k ≠ 0) (h5 : k ≠ 5) (ha : a ≤ L.length) (hx : a < L.length→(tokA M (a+1)).t=(tokA L a).t→(tokA M (a+1)).n=(tokA L a).n→Sm L x x') (hy : Sm L y y') : Sm L (if (tokA L a).k=k then x else y) (if (tokA M (a+1)).k=k then x' else y'):=by
 simp only [hB.kind ha h0 h5]
 split
 ·rename_i h
  have hl : a < L.length:=kind_lt (by rw [h];exact h0)
  exact hx hl (hB.same a hl).2.1 (hB.same a hl).2.2
 ·exact hy
theorem Sm.ite3 {α : Type} {a : Nat} {s1 s2 w : ByteArray} {x y x' y' : Rs α} (hB : Br L M) (h1 : s1.toList ≠ [41]) (h2 : s2.toList ≠ [41]) (ha : a ≤ L.length) (hx : a < L.length→(tokA M (a+1)).t=(tokA L a).t→Sm L x x') (hy : Sm L y y') : Sm L (if isS L a s1=true ∨ isS L a s2=true ∨ isWd L a w=true then x else y) (if isS M (a+1) s1=true ∨ isS M (a+1) s2=true ∨ isWd M (a+1) w=true then x' else y'):=by
 rw [hB.isS ha h1,hB.isS ha h2,hB.isWd ha]
 split
 ·rename_i h
  have hl : a < L.length:=h.elim isS_lt (fun h=>h.elim isS_lt isWd_lt)
  exact hx hl (hB.same a hl).2.1
 ·exact hy
theorem Sm.iteT {α : Type} {a : Nat} {s2 w : ByteArray} {x y x' y' : Rs α} (hB : Br L M) (ha : a ≤ L.length) (hx : a < L.length→(tokA M (a+1)).t=(tokA L a).t→Sm L x x') (hy : Sm L y y') : Sm L (if isN L a=true ∨ isWd L a s2=true ∨ isWd L a w=true then x else y) (if isN M (a+1)=true ∨ isWd M (a+1) s2=true ∨ isWd M (a+1) w=true then x' else y'):=by
 rw [hB.isN ha,hB.isWd ha,hB.isWd ha]
 split
 ·rename_i h
  have hl : a < L.length:=h.elim isN_lt (fun h=>h.elim isWd_lt isWd_lt)
  exact hx hl (hB.same a hl).2.1
 ·exact hy
theorem Sm.ite {α : Type} {p : Prop} [Decidable p] {x y x' y' : Rs α} (hx : Sm L x x') (hy : Sm L y y') : Sm L (if p then x else y) (if p then x' else y'):=by
 split
 ·exact hx
 ·exact hy
set_option maxRecDepth 100000
set_option maxHeartbeats 20000000
structure Pre (L M : List Tok) : Prop where
 len : L.length ≤ M.length
 same : ∀ a,a < L.length→(tokA M a).k=(tokA L a).k∧(tokA M a).t=(tokA L a).t∧(tokA M a).n=(tokA L a).n
variable {L M : List Tok}
theorem Pre.isS (h : Pre L M) {a : Nat} (ha : a < L.length) (s : ByteArray) : isS M a s=isS L a s:=by unfold Go.Proofs.YthfkfbcopinmiaaGreatDoor.isS;rw [(h.same a ha).1,(h.same a ha).2.1]
theorem Pre.isWd (h : Pre L M) {a : Nat} (ha : a < L.length) (s : ByteArray) : isWd M a s=isWd L a s:=by unfold Go.Proofs.YthfkfbcopinmiaaGreatDoor.isWd;rw [(h.same a ha).1,(h.same a ha).2.1]
theorem Pre.isN (h : Pre L M) {a : Nat} (ha : a < L.length) : isN M a=isN L a:=by unfold Go.Proofs.YthfkfbcopinmiaaGreatDoor.isN;rw [(h.same a ha).1]
theorem Pre.sum (h : Pre L M) : ∀ c,c ≤ L.length→sumO M c=sumO L c
 | 0,_=>rfl
 | c+1,hc=>by
  show sumO M c+openI (tokA M c)=sumO L c+openI (tokA L c)
  rw [h.sum c (by omega),open_eq (h.same c (by omega)).1 (h.same c (by omega)).2.1]
theorem Pre.arrow (h : Pre L M) {a b : Nat} (hA : AtO L a 0 b) (hab : a < b) (hb : b < L.length) : arrow M a=arrow L a:=by
 obtain ⟨j,h1,h2,h3,h4⟩:=first_zero hA hab
 have hl:=h.len
 unfold Go.Proofs.YthfkfbcopinmiaaGreatDoor.arrow
 rw [arr_at (L:=L) (j:=j) (by omega) (j - a) a 0 (by omega) (fun c hc1 hc2=>by have:=h4 c hc1 hc2;omega) (by omega)]
 rw [arr_at (L:=M) (j:=j) (by omega) (j - a) a 0 (by omega) ?_ ?_]
 ·exact h.isS (by omega) _
 ·intro c hc1 hc2
  have:=h4 c hc1 hc2
  rw [h.sum _ (by omega),h.sum _ (by omega)]
  omega
 ·rw [h.sum _ (by omega),h.sum _ (by omega)]
  omega
def Sx {α : Type} (L : List Tok) (c : Nat) (r r' : Rs α) : Prop:=∀ x b,r = .ok x b→c ≤ b∧(b < L.length→r' = .ok x b)
theorem Sx.bad {α : Type} {c p : Nat} {e : Int} {r' : Rs α} : Sx L c (.bad p e) r':=fun x b h=>by cases h
theorem Sx.ok {α : Type} {c b : Nat} {v : α} (h : c ≤ b) : Sx L c (.ok v b) (.ok v b):=fun x d e=>by cases e;exact ⟨h,fun _=>rfl⟩
theorem Sx.weak {α : Type} {c d : Nat} {r r' : Rs α} (h : Sx L d r r') (hc : c ≤ d) : Sx L c r r':=fun x b e=>⟨Nat.le_trans hc (h x b e).1,(h x b e).2⟩
theorem Sx.bind {α β : Type} {c d : Nat} {r r' : Rs α} {f g : α→Nat→Rs β} (hr : Sx L d r r') (hf : ∀ u a1,d ≤ a1→Sx L (max c a1) (f u a1) (g u a1)) : Sx L c (r.bind f) (r'.bind g):=by
 cases r with
 | bad p e=>exact Sx.bad
 | ok u a1 =>
  obtain ⟨h1,h2⟩:=hr u a1 rfl
  intro x b e
  obtain ⟨h3,h4⟩:=hf u a1 h1 x b e
  refine ⟨by omega,fun hb=>?_⟩
  rw [h2 (by omega)]
  exact h4 hb
theorem Sx.ite {α : Type} {c a : Nat} {p p' : Prop} [Decidable p] [Decidable p'] {x y x' y' : Rs α} (ha : a ≤ c) (hp : a < L.length→p'=p) (hx : p→Sx L c x x') (hy : ¬ p→Sx L c y y') : Sx L c (if p then x else y) (if p' then x' else y'):=by
 by_cases hl : a < L.length
 ·have:=hp hl
  subst this
  split
  ·rename_i h;exact hx h
  ·rename_i h;exact hy h
 ·intro z b e
  split at e
  ·rename_i h
   have:=(hx h z b e).1
   exact ⟨this,fun _=>by omega⟩
  ·rename_i h
   have:=(hy h z b e).1
   exact ⟨this,fun _=>by omega⟩
theorem Sx.same {α : Type} {c : Nat} {p : Prop} [Decidable p] {x y x' y' : Rs α} (hx : p→Sx L c x x') (hy : ¬ p→Sx L c y y') : Sx L c (if p then x else y) (if p then x' else y'):=by
 split
 ·rename_i h;exact hx h
 ·rename_i h;exact hy h
theorem Sx.iteS {α : Type} (h : Pre L M) {c a : Nat} {s : ByteArray} {x y x' y' : Rs α} (ha : a ≤ c) (hx : isS L a s=true→Sx L c x x') (hy : Sx L c y y') : Sx L c (if isS L a s=true then x else y) (if isS M a s=true then x' else y'):=Sx.ite ha (fun hl=>by rw [h.isS hl]) hx (fun _=>hy)
theorem Sx.iteW {α : Type} (h : Pre L M) {c a : Nat} {s : ByteArray} {x y x' y' : Rs α} (ha : a ≤ c) (hx : Sx L c x x') (hy : Sx L c y y') : Sx L c (if isWd L a s=true then x else y) (if isWd M a s=true then x' else y'):=Sx.ite ha (fun hl=>by rw [h.isWd hl]) (fun _=>hx) (fun _=>hy)
theorem Sx.iteN {α : Type} (h : Pre L M) {c a : Nat} {x y x' y' : Rs α} (ha : a ≤ c) (hx : Sx L c x x') (hy : Sx L c y y') : Sx L c (if isN L a=true then x else y) (if isN M a=true then x' else y'):=Sx.ite ha (fun hl=>by rw [h.isN hl]) (fun _=>hx) (fun _=>hy)
theorem Sx.iteK {α : Type} (h : Pre L M) {c a : Nat} {k : Int} {x y x' y' : Rs α} (ha : a ≤ c) (hx : Sx L c x x') (hy : Sx L c y y') : Sx L c (if (tokA L a).k=k then x else y) (if (tokA M a).k=k then x' else y'):=Sx.ite ha (fun hl=>by rw [(h.same a hl).1]) (fun _=>hx) (fun _=>hy)
theorem Sx.ite3 {α : Type} (h : Pre L M) {c a : Nat} {s1 s2 w : ByteArray} {x y x' y' : Rs α} (ha : a ≤ c) (hx : Sx L c x x') (hy : Sx L c y y') : Sx L c (if isS L a s1=true ∨ isS L a s2=true ∨ isWd L a w=true then x else y) (if isS M a s1=true ∨ isS M a s2=true ∨ isWd M a w=true then x' else y'):=Sx.ite ha (fun hl=>by rw [h.isS hl,h.isS hl,h.isWd hl]) (fun _=>hx) (fun _=>hy)
theorem Sx.iteT {α : Type} (h : Pre L M) {c a : Nat} {s2 w : ByteArray} {x y x' y' : Rs α} (ha : a ≤ c) (hx : Sx L c x x') (hy : Sx L c y y') : Sx L c (if isN L a=true ∨ isWd L a s2=true ∨ isWd L a w=true then x else y) (if isN M a=true ∨ isWd M a s2=true ∨ isWd M a w=true then x' else y'):=Sx.ite ha (fun hl=>by rw [h.isN hl,h.isWd hl,h.isWd hl]) (fun _=>hx) (fun _=>hy)
variable {L M : List Tok}
def Sy {α : Type} (L : List Tok) (c : Nat) (r r' : Rs α) : Prop:=∀ x b,r = .ok x b→c ≤ b∧(b ≤ L.length→r' = .ok x b)
theorem Sy.bad {α : Type} {c p : Nat} {e : Int} {r' : Rs α} : Sy L c (.bad p e) r':=fun x b h=>by cases h
theorem Sy.ok {α : Type} {c b : Nat} {v : α} (h : c ≤ b) : Sy L c (.ok v b) (.ok v b):=fun x d e=>by cases e;exact ⟨h,fun _=>rfl⟩
theorem Sy.weak {α : Type} {c d : Nat} {r r' : Rs α} (h : Sy L d r r') (hc : c ≤ d) : Sy L c r r':=fun x b e=>⟨Nat.le_trans hc (h x b e).1,(h x b e).2⟩
theorem Sy.bind {α β : Type} {c d : Nat} {r r' : Rs α} {f g : α→Nat→Rs β} (hr : Sy L d r r') (hf : ∀ u a1,d ≤ a1→Sy L (max c a1) (f u a1) (g u a1)) : Sy L c (r.bind f) (r'.bind g):=by
 cases r with
 | bad p e=>exact Sy.bad
 | ok u a1 =>
  obtain ⟨h1,h2⟩:=hr u a1 rfl
  intro x b e
  obtain ⟨h3,h4⟩:=hf u a1 h1 x b e
  refine ⟨by omega,fun hb=>?_⟩
  rw [h2 (by omega)]
  exact h4 hb
theorem Sx.then {α β : Type} {c d : Nat} {r r' : Rs α} {f g : α→Nat→Rs β} (hr : Sx L d r r') (hf : ∀ u a1,d ≤ a1→Sy L (max c (a1+1)) (f u a1) (g u a1)) : Sy L c (r.bind f) (r'.bind g):=by
 cases r with
 | bad p e=>exact Sy.bad
 | ok u a1 =>
  obtain ⟨h1,h2⟩:=hr u a1 rfl
  intro x b e
  obtain ⟨h3,h4⟩:=hf u a1 h1 x b e
  refine ⟨by omega,fun hb=>?_⟩
  rw [h2 (by omega)]
  exact h4 hb
theorem Sy.ite {α : Type} {c a : Nat} {p p' : Prop} [Decidable p] [Decidable p'] {x y x' y' : Rs α} (ha : a < c) (hp : a < L.length→p'=p) (hx : p→Sy L c x x') (hy : ¬ p→Sy L c y y') : Sy L c (if p then x else y) (if p' then x' else y'):=by
 by_cases hl : a < L.length
 ·have:=hp hl
  subst this
  split
  ·rename_i h;exact hx h
  ·rename_i h;exact hy h
 ·intro z b e
  split at e
  ·rename_i h
   have:=(hx h z b e).1
   exact ⟨this,fun _=>by omega⟩
  ·rename_i h
   have:=(hy h z b e).1
   exact ⟨this,fun _=>by omega⟩
variable {L M : List Tok}
theorem Pre.isNm (h : Pre L M) {a : Nat} (ha : a < L.length) (s : ByteArray) : isNm M a s=isNm L a s:=by unfold Go.Proofs.YthfkfbcopinmiaaGreatDoor.isNm;rw [(h.same a ha).1,(h.same a ha).2.1]
variable {L M : List Tok}
theorem opens_lt {a : Nat} {n s : ByteArray} (h : opensM L a n s=true) : a+2 < L.length:=by
 unfold opensM at h
 simp only [Bool.and_eq_true] at h
 exact isS_lt h.2
variable {L : List Tok}
def InL {α : Type} (L : List Tok) (r : Rs α) : Prop:=Zg (fun _ b=>b ≤ L.length) r
theorem InL.bad {α : Type} {p : Nat} {e : Int} : InL L (.bad p e : Rs α):=Zg.bad
theorem InL.keep {α β : Type} {r : Rs α} {f : α→β} (h : InL L r) : InL L (r.bind fun u a1=>.ok (f u) a1):=Zg.bind h fun u a1 h1=>Zg.ok h1
def No {α : Type} (r : Rs α) : Prop:=Zg (fun _ _=>False) r
theorem No.bind {α β : Type} {r : Rs α} {f : α→Nat→Rs β} (h : No r) : No (r.bind f):=Zg.bind h fun _ _ q=>q.elim
end Go.Proofs.YthfkfbcopinmiaaGreatDoor
