/- Own text. Package module: an item ends within the tokens;none begins with else (of the model;no program is named here). Package module: two rows of tokens,one behind the other,are the items of both (of the model;no program is named here). Package module: expressions,types,statements by layer 6. Package module: what ends an item. -/
import Derived.Test.YthfkfbcopinmiaaGreatDoorGj35
import Derived.Test.YthfkfbcopinmiaaGreatDoorGj08
import Derived.Test.YthfkfbcopinmiaaGreatDoorGj10
import Derived.Test.YthfkfbcopinmiaaGreatDoorGj11
import Derived.Test.YthfkfbcopinmiaaGreatDoorGj22
set_option linter.unusedVariables false
set_option linter.unusedSimpArgs false
set_option maxRecDepth 100000
namespace Go.Proofs.YthfkfbcopinmiaaGreatDoor
open Go.RowKit
set_option maxRecDepth 100000
variable {L : List Tok}
def InL {α : Type} (L : List Tok) (r : Rs α) : Prop:=Zg (fun _ b=>b ≤ L.length) r
theorem InL.bad {α : Type} {p : Nat} {e : Int} : InL L (.bad p e : Rs α):=Zg.bad
theorem InL.last {α β : Type} {r : Rs α} {f : α → Nat → Rs β} (h : ∀ u a1,InL L (f u a1)) : InL L (r.bind f):=(show Zg (fun _ _=>True) r from fun _ _ _=>trivial).bind fun u a1 _=>h u a1
theorem want_in {a : Nat} {s : ByteArray} : InL L (wantR L s a):=Zg.ite (fun q=>Zg.ok (isS_lt q)) (fun _=>Zg.bad)
theorem InL.keep {α β : Type} {r : Rs α} {f : α → β} (h : InL L r) : InL L (r.bind fun u a1=>.ok (f u) a1):=Zg.bind h fun u a1 h1=>Zg.ok h1
theorem endM_in {n : Nd} {a : Nat} : InL L (endM L n a):=want_in.keep
theorem stmtM_in (a : Nat) : InL L (stmtM L a):=by
 intro x b e
 by_cases ha : a ≤ L.length
 ·have:=(bd_all L (fuelL L)).stmt' a 0 ha
  unfold stmtM at e
  rw [e] at this
  exact this
 ·exfalso
  unfold stmtM at e
  obtain ⟨g,hg⟩ : ∃ g,fuelL L = g + 1:=⟨fuelL L - 1,by unfold fuelL;omega⟩
  rw [hg,stmtF,beginR,if_pos (by omega)] at e
  cases e
theorem members_in : ∀ (n : Nat) (m : Mem) (a : Nat),InL L (membersM L n m a)
 | 0,_,_=>Zg.bad
 | n + 1,m,a=>Zg.ite (fun q=>Zg.ok (isS_lt q)) (fun _=>InL.last fun m1 a1=>members_in n m1 a1)
theorem classM_in (a : Nat) : InL L (classM L a):=InL.last fun _ _=>InL.last fun _ _=>(members_in _ _ _).keep
theorem aliasM_in (a : Nat) : InL L (aliasM L a):=InL.last fun _ _=>InL.last fun _ _=>InL.last fun _ _=>endM_in
theorem importM_in (a : Nat) : InL L (importM L a):=Zg.ite (fun _=>InL.last fun _ _=>endM_in) (fun _=>InL.last fun _ _=>InL.last fun _ _=>InL.last fun _ _=>endM_in)
theorem exportAllM_in (a : Nat) : InL L (exportAllM L a):=InL.last fun _ _=>InL.last fun _ _=>InL.last fun _ _=>endM_in
theorem exportNamesM_in (t : Int) (a : Nat) : InL L (exportNamesM L t a):=Zg.ite (fun _=>Zg.bad) (fun _=>InL.last fun _ _=>Zg.ite (fun _=>endM_in) (fun _=>InL.last fun _ _=>InL.last fun _ _=>endM_in))
theorem declaredM_in (a : Nat) : InL L (declaredM L a):=Zg.ite (fun _=>stmtM_in a) (fun _=>Zg.ite (fun _=>classM_in a) (fun _=>Zg.ite (fun _=>aliasM_in a) (fun _=>Zg.bad)))
theorem defaultedM_in (a : Nat) : InL L (defaultedM L a):=Zg.ite (fun _=>stmtM_in a) (fun _=>Zg.ite (fun _=>classM_in a) (fun _=>InL.last fun _ _=>endM_in))
theorem exportM_in (a : Nat) : InL L (exportM L a):=Zg.ite (fun _=>(defaultedM_in _).keep) (fun _=>Zg.ite (fun _=>exportAllM_in _) (fun _=>Zg.ite (fun _=>exportNamesM_in _ _) (fun _=>Zg.ite (fun _=>exportNamesM_in _ _) (fun _=>(declaredM_in _).keep))))
theorem itemM_in (a : Nat) : InL L (itemM L a):=Zg.ite (fun _=>classM_in a) (fun _=>Zg.ite (fun _=>importM_in a) (fun _=>Zg.ite (fun _=>exportM_in a) (fun _=>Zg.ite (fun _=>aliasM_in a) (fun _=>stmtM_in a))))
def No {α : Type} (r : Rs α) : Prop:=Zg (fun _ _=>False) r
theorem No.bind {α β : Type} {r : Rs α} {f : α → Nat → Rs β} (h : No r) : No (r.bind f):=Zg.bind h fun _ _ q=>q.elim
section
variable {a : Nat}
theorem else_k (h : isWd L a wElse = true) : (tokA L a).k = 2 ∧ (tokA L a).t.toList = wElse.toList:=by
 unfold isWd at h
 simpa using h
theorem else_wd (h : isWd L a wElse = true) {s : ByteArray} (hs : (wElse.toList == s.toList) = false) : isWd L a s = false:=by
 unfold isWd
 rw [(else_k h).2,hs,Bool.and_false]
theorem else_s (h : isWd L a wElse = true) (s : ByteArray) : isS L a s = false:=by
 unfold isS
 rw [(else_k h).1]
 rfl
theorem else_wprim (h : isWd L a wElse = true) (f o : Nat) : No (wprimF L f a o):=by
 cases f with
 | zero=>rw [wprimF];exact Zg.bad
 | succ f =>
  rw [wprimF,else_wd h (by decide +kernel),else_wd h (by decide +kernel),else_wd h (by decide +kernel),else_wd h (by decide +kernel),else_wd h (by decide +kernel),else_wd h (by decide +kernel),else_wd h (by decide +kernel)]
  exact Zg.bad
theorem else_prim (h : isWd L a wElse = true) (f o : Nat) : No (primF L f a o):=by
 cases f with
 | zero=>rw [primF];exact Zg.bad
 | succ f =>
  rw [primF,(else_k h).1,if_neg (by decide),if_neg (by decide),if_neg (by decide),if_pos rfl]
  exact else_wprim h f o
theorem else_post (h : isWd L a wElse = true) (f o : Nat) : No (postF L f a o):=by
 cases f with
 | zero=>rw [postF];exact Zg.bad
 | succ f=>rw [postF];exact (else_prim h f o).bind
theorem else_unary (h : isWd L a wElse = true) (f o : Nat) : No (unaryF L f a o):=by
 cases f with
 | zero=>rw [unaryF];exact Zg.bad
 | succ f =>
  rw [unaryF,else_s h,else_s h,else_wd h (by decide +kernel),if_neg (by decide)]
  exact else_post h f o
theorem else_expr (h : isWd L a wElse = true) (f o : Nat) : No (exprF L f a o):=by
 cases f with
 | zero=>rw [exprF];exact Zg.bad
 | succ f =>
  rw [exprF]
  refine Zg.bind (show Zg (fun _ _=>True) (beginR L a o) from fun _ _ _=>trivial) fun _ _ _=>No.bind ?_
  cases f with
  | zero=>rw [condF];exact Zg.bad
  | succ f =>
   rw [condF]
   refine No.bind ?_
   cases f with
   | zero=>rw [binF];exact Zg.bad
   | succ f=>rw [binF];exact (else_unary h f _).bind
theorem else_stmt (h : isWd L a wElse = true) (f o : Nat) : No (stmtF L f a o):=by
 cases f with
 | zero=>rw [stmtF];exact Zg.bad
 | succ f =>
  rw [stmtF]
  refine Zg.bind (show Zg (fun _ _=>True) (beginR L a o) from fun _ _ _=>trivial) fun _ _ _=>?_
  cases f with
  | zero=>rw [anyF];exact Zg.bad
  | succ f =>
   rw [anyF,else_wd h (by decide +kernel),else_wd h (by decide +kernel),else_wd h (by decide +kernel),else_wd h (by decide +kernel),else_wd h (by decide +kernel),else_wd h (by decide +kernel),else_wd h (by decide +kernel),else_s h]
   exact (else_expr h f _).bind
theorem else_nm (h : isWd L a wElse = true) (s : ByteArray) : isNm L a s = false:=by
 unfold isNm
 rw [(else_k h).1]
 rfl
theorem else_item (h : isWd L a wElse = true) : No (itemM L a):=by
 unfold itemM opensM
 rw [else_wd h (by decide +kernel),else_wd h (by decide +kernel),else_wd h (by decide +kernel),else_nm h]
 exact else_stmt h _ _
end
theorem no_else {n : Nat} {l : List Nd} {b : Nat} (e : itemsM L (itemM L) n [] 0 = .ok l b) : isWd L 0 wElse = false:=by
 cases hw : isWd L 0 wElse with
 | false=>rfl
 | true =>
  exfalso
  cases n with
  | zero=>rw [itemsM] at e;cases e
  | succ n =>
   have:=isWd_lt hw
   rw [itemsM,if_neg (by omega)] at e
   cases hx : itemM L 0 with
   | bad p er=>rw [hx] at e;cases e
   | ok x a1=>exact else_item hw x a1 hx
end Go.Proofs.YthfkfbcopinmiaaGreatDoor
set_option linter.unusedVariables false
set_option linter.unusedSimpArgs false
set_option maxRecDepth 100000
namespace Go.Proofs.YthfkfbcopinmiaaGreatDoor
open Go.RowKit
set_option maxRecDepth 100000
variable {L M : List Tok} {c : Nat}
theorem fuel_sh (h : Sh L M c) : fuelL M ≤ fuelL L:=by
 have:=h.len
 unfold fuelL
 omega
theorem far_expr {a : Nat} (ha : ¬ a ≤ M.length) (g : Nat) : exprF M (g + 1) a 0 = .bad a 60:=by rw [exprF,beginR,if_pos (by omega)];rfl
theorem far_type {a : Nat} (ha : ¬ a ≤ M.length) (g : Nat) : typeF M (g + 1) a 0 = .bad a 60:=by rw [typeF,beginR,if_pos (by omega)];rfl
theorem far_stmt {a : Nat} (ha : ¬ a ≤ M.length) (g : Nat) : stmtF M (g + 1) a 0 = .bad a 60:=by rw [stmtF,beginR,if_pos (by omega)];rfl
theorem fuel_succ (N : List Tok) : ∃ g,fuelL N = g + 1:=⟨fuelL N - 1,by unfold fuelL;omega⟩
theorem exprM_up (h : Sh L M c) (a : Nat) : Up c (exprM L (a + c)) (exprM M a):=by
 unfold exprM
 have e : exprF M (fuelL L) a 0 = exprF M (fuelL M) a 0:=by
  by_cases ha : a ≤ M.length
  ·exact expr_more rfl ((gd_all M _).expr' a 0 ha (fuel_ok M a 0 20 (by omega))).1 (fuel_sh h)
  ·obtain ⟨g,hg⟩:=fuel_succ L
   obtain ⟨k,hk⟩:=fuel_succ M
   rw [hg,hk,far_expr ha,far_expr ha]
 rw [← e]
 exact (up_all h _).expr' a 0
theorem typeM_up (h : Sh L M c) (a : Nat) : Up c (typeM L (a + c)) (typeM M a):=by
 unfold typeM
 have e : typeF M (fuelL L) a 0 = typeF M (fuelL M) a 0:=by
  by_cases ha : a ≤ M.length
  ·exact type_more rfl ((gd_all M _).type' a 0 ha (fuel_ok M a 0 20 (by omega))).1 (fuel_sh h)
  ·obtain ⟨g,hg⟩:=fuel_succ L
   obtain ⟨k,hk⟩:=fuel_succ M
   rw [hg,hk,far_type ha,far_type ha]
 rw [← e]
 exact (up_all h _).type' a 0
theorem stmtM_up (h : Sh L M c) (a : Nat) : Up c (stmtM L (a + c)) (stmtM M a):=by
 unfold stmtM
 have e : stmtF M (fuelL L) a 0 = stmtF M (fuelL M) a 0:=by
  by_cases ha : a ≤ M.length
  ·exact stmt_more rfl ((gd_all M _).stmt' a 0 ha (fuel_ok M a 0 20 (by omega))).1 (fuel_sh h)
  ·obtain ⟨g,hg⟩:=fuel_succ L
   obtain ⟨k,hk⟩:=fuel_succ M
   rw [hg,hk,far_stmt ha,far_stmt ha]
 rw [← e]
 exact (up_all h _).stmt' a 0
theorem isNm_up (h : Sh L M c) (a : Nat) (s : ByteArray) : isNm L (a + c) s = isNm M a s:=by unfold isNm;rw [h.k,h.t]
theorem toM_up (h : Sh L M c) (a : Nat) : Up c (toM L (a + c)) (toM M a):=by
 unfold toM
 rw [isS_up h,Nat.add_right_comm]
 exact Up.ite rfl (typeM_up h _) Up.ok
theorem endM_up (h : Sh L M c) (n : Nd) (a : Nat) : Up c (endM L n (a + c)) (endM M n a):=(want_up h a _).bind fun _ _=>Up.ok
theorem aliasM_up (h : Sh L M c) (a : Nat) : Up c (aliasM L (a + c)) (aliasM M a):=by
 unfold aliasM
 rw [Nat.add_right_comm]
 exact (id_up h _).bind fun _ _=>(want_up h _ _).bind fun _ _=>(typeM_up h _).bind fun _ _=>endM_up h _ _
theorem ctorM_up (h : Sh L M c) (m : Mem) (a : Nat) : Up c (ctorM L m (a + c)) (ctorM M m a):=by
 unfold ctorM
 rw [Nat.add_right_comm]
 exact Up.ite rfl ((paramsG_up h (toM_up h) _).bind fun _ _=>(blockG_up h (stmtM_up h) _).bind fun _ _=>Up.ok) Up.bad
theorem methodM_up (h : Sh L M c) (m : Mem) (t : ByteArray) (a : Nat) : Up c (methodM L m t (a + c)) (methodM M m t a):=(paramsG_up h (toM_up h) _).bind fun _ _=>(toM_up h _).bind fun _ _=>(blockG_up h (stmtM_up h) _).bind fun _ _=>Up.ok
theorem fieldM_up (h : Sh L M c) (m : Mem) (t : ByteArray) (a : Nat) : Up c (fieldM L m t (a + c)) (fieldM M m t a):=(toM_up h _).bind fun _ _=>(want_up h _ _).bind fun _ _=>(exprM_up h _).bind fun _ _=>(want_up h _ _).bind fun _ _=>Up.ok
theorem memberM_up (h : Sh L M c) (m : Mem) (a : Nat) : Up c (memberM L m (a + c)) (memberM M m a):=by
 unfold memberM
 rw [isNm_up h,Nat.add_right_comm,isS_up h]
 refine Up.ite rfl (ctorM_up h m a) ((add_up h _ a).bind fun ns _=>(prop_up h a).bind fun t a1=>?_)
 rw [isS_up h]
 exact Up.ite rfl (methodM_up h _ _ _) (fieldM_up h _ _ _)
theorem membersM_up (h : Sh L M c) : ∀ (n : Nat) (m : Mem) (a : Nat),Up c (membersM L n m (a + c)) (membersM M n m a)
 | 0,_,_=>Up.bad
 | n + 1,m,a=>by
  rw [membersM,membersM,isS_up h,Nat.add_right_comm]
  exact Up.ite rfl Up.ok ((memberM_up h m a).bind fun _ _=>membersM_up h n _ _)
theorem classM_up (h : Sh L M c) (a : Nat) : Up c (classM L (a + c)) (classM M a):=by
 unfold classM
 rw [Nat.add_right_comm]
 refine (id_up h _).bind fun _ _=>(want_up h _ _).bind fun _ a2=>?_
 rw [len_up h]
 exact (membersM_up h _ _ _).bind fun _ _=>Up.ok
theorem nameM_up (h : Sh L M c) (s : ByteArray) (a : Nat) : Up c (nameM L s (a + c)) (nameM M s a):=by
 unfold nameM
 rw [isNm_up h,Nat.add_right_comm]
 exact Up.ite rfl Up.ok Up.bad
theorem requestM_up (h : Sh L M c) (a : Nat) : Up c (requestM L (a + c)) (requestM M a):=by
 unfold requestM
 rw [h.k,h.t,Nat.add_right_comm]
 exact Up.ite rfl Up.ok Up.bad
theorem requestedM_up (h : Sh L M c) (a : Nat) : Up c (requestedM L (a + c)) (requestedM M a):=by
 unfold requestedM
 rw [h.t]
 exact Up.ite rfl Up.bad (requestM_up h a)
theorem typesAlone_up (h : Sh L M c) (a : Nat) : typesAloneM L (a + c) = typesAloneM M a:=by
 unfold typesAloneM
 rw [Nat.add_right_comm a c 1,Nat.add_right_comm a c 2,isNm_up h,isNm_up h,isN_up h,isS_up h,h.k]
theorem starM_up (h : Sh L M c) (a : Nat) : Up c (starM L (a + c)) (starM M a):=by
 unfold starM
 rw [h.t,Nat.add_right_comm]
 exact (nameM_up h _ _).bind fun _ _=>(id_up h _).bind fun _ _=>Up.ok
theorem importOneM_up (h : Sh L M c) (a : Nat) : Up c (importOneM L (a + c)) (importOneM M a):=by
 unfold importOneM
 refine (prop_up h a).bind fun t a1=>?_
 rw [isNm_up h,Nat.add_right_comm,isN_up h]
 exact Up.ite rfl ((id_up h _).bind fun _ _=>Up.ok) (Up.ite rfl Up.ok Up.bad)
theorem clauseRestM_up (h : Sh L M c) (types : Bool) (acc : List Nd) (a : Nat) : Up c (clauseRestM L types acc (a + c)) (clauseRestM M types acc a):=by
 unfold clauseRestM
 rw [isS_up h]
 refine Up.ite rfl ((starM_up h a).bind fun _ _=>Up.ok) ((want_up h a _).bind fun _ a1=>?_)
 rw [isS_up h]
 exact Up.ite rfl Up.bad ((listE_up h (importOneM_up h) _).bind fun _ _=>Up.ok)
theorem clauseM_up (h : Sh L M c) (types : Bool) (a : Nat) : Up c (clauseM L types (a + c)) (clauseM M types a):=by
 unfold clauseM
 rw [isN_up h,h.t,Nat.add_right_comm a c 1,Nat.add_right_comm a c 2,isS_up h]
 exact Up.ite rfl (Up.ite rfl (clauseRestM_up h types _ _) Up.ok) (clauseRestM_up h types _ _)
theorem importM_up (h : Sh L M c) (a : Nat) : Up c (importM L (a + c)) (importM M a):=by
 unfold importM
 rw [Nat.add_right_comm a c 1,typesAlone_up h,h.k,Nat.add_right_comm (a + 1) c _]
 exact Up.ite rfl ((requestM_up h _).bind fun _ _=>endM_up h _ _) ((clauseM_up h _ _).bind fun _ _=>(nameM_up h _ _).bind fun _ _=>(requestM_up h _).bind fun _ _=>endM_up h _ _)
theorem exportOneM_up (h : Sh L M c) (a : Nat) : Up c (exportOneM L (a + c)) (exportOneM M a):=by
 unfold exportOneM
 refine (prop_up h a).bind fun t a1=>?_
 rw [isNm_up h,Nat.add_right_comm]
 exact Up.ite rfl ((prop_up h _).bind fun _ _=>Up.ok) Up.ok
theorem exportAllM_up (h : Sh L M c) (a : Nat) : Up c (exportAllM L (a + c)) (exportAllM M a):=by
 unfold exportAllM
 rw [h.t,Nat.add_right_comm a c 1,Nat.add_right_comm a c 2,isNm_up h]
 exact (Up.ite rfl ((prop_up h _).bind fun _ _=>Up.ok) Up.ok).bind fun _ _=>(nameM_up h _ _).bind fun _ _=>(requestedM_up h _).bind fun _ _=>endM_up h _ _
theorem hereM_up (h : Sh L M c) : ∀ (n : Nat) (H : Bool) (a : Nat),hereM L n H (a + c) = hereM M n H a
 | 0,_,_=>rfl
 | n + 1,H,a=>by
  have e:=exportOneM_up h a
  unfold Up at e
  rw [hereM,hereM,isS_up h,e,isN_up h]
  cases hx : exportOneM M a with
  | bad p er=>rfl
  | ok x a1 =>
   show (if _ then _ else hereM L n _ (if isS L (a1 + c) sCc = true then a1 + c else a1 + c + 1)) = _
   rw [isS_up h,Nat.add_right_comm]
   by_cases q : isS M a1 sCc = true
   ·rw [if_pos q,hereM_up h n]
    simp only [q,if_true]
   ·rw [if_neg q,hereM_up h n]
    simp only [q,if_false]
    rfl
theorem exportOne_low {N : List Tok} {a b : Nat} {x : Nd} (e : exportOneM N a = .ok x b) : a < N.length ∧ a + 1 ≤ b:=by
 unfold exportOneM propR' at e
 by_cases q : isN N a = true ∨ (tokA N a).k = 2
 ·have hl : a < N.length:=q.elim isN_lt (fun q=>kind_lt (by rw [q];decide))
  refine ⟨hl,?_⟩
  rw [if_pos q,Rs.bind_ok] at e
  split at e
  ·split at e
   ·rw [Rs.bind_ok] at e
    injection e with e1 e2
    omega
   ·cases e
  ·injection e with e1 e2
   omega
 ·rw [if_neg q] at e
  cases e
theorem here_more {N : List Tok} : ∀ (m k k' : Nat) (H : Bool) (a : Nat),N.length ≤ a + m → m ≤ k → m ≤ k' → hereM N k H a = hereM N k' H a
 | m,0,0,_,_,_,_,_=>rfl
 | m,0,k' + 1,H,a,hm,h0,_=>by
  have hl : N.length ≤ a:=by omega
  rw [hereM,hereM]
  split
  ·rfl
  ·cases hx : exportOneM N a with
   | bad p er=>rfl
   | ok x a1=>exact absurd (exportOne_low hx).1 (by omega)
 | m,k + 1,0,H,a,hm,_,h0=>by
  have hl : N.length ≤ a:=by omega
  rw [hereM,hereM]
  split
  ·rfl
  ·cases hx : exportOneM N a with
   | bad p er=>rfl
   | ok x a1=>exact absurd (exportOne_low hx).1 (by omega)
 | m,k + 1,k' + 1,H,a,hm,h1,h2=>by
  rw [hereM,hereM]
  split
  ·rfl
  ·cases hx : exportOneM N a with
   | bad p er=>rfl
   | ok x a1 =>
    have:=exportOne_low hx
    simp only
    split
    ·exact here_more (m - 1) k k' _ _ (by omega) (by omega) (by omega)
    ·exact here_more (m - 1) k k' _ _ (by omega) (by omega) (by omega)
theorem exportNamesM_up (h : Sh L M c) (types : Int) (a : Nat) : Up c (exportNamesM L types (a + c)) (exportNamesM M types a):=by
 have hl:=h.len
 unfold exportNamesM
 rw [Nat.add_right_comm,isS_up h,hereM_up h,here_more M.length (L.length + 1) (M.length + 1) true (a + 1) (by omega) (by omega) (by omega)]
 refine Up.ite rfl Up.bad ((listE_up h (exportOneM_up h) _).bind fun l a1=>?_)
 rw [isS_up h]
 exact Up.ite rfl (endM_up h _ _) ((nameM_up h _ _).bind fun _ _=>(requestedM_up h _).bind fun _ _=>endM_up h _ _)
theorem declaredM_up (h : Sh L M c) (a : Nat) : Up c (declaredM L (a + c)) (declaredM M a):=by
 unfold declaredM
 rw [isWd_up h,isWd_up h,isWd_up h,isWd_up h,isNm_up h]
 exact Up.ite rfl (stmtM_up h a) (Up.ite rfl (classM_up h a) (Up.ite rfl (aliasM_up h a) Up.bad))
theorem defaultedM_up (h : Sh L M c) (a : Nat) : Up c (defaultedM L (a + c)) (defaultedM M a):=by
 unfold defaultedM
 rw [isWd_up h,isWd_up h]
 exact Up.ite rfl (stmtM_up h a) (Up.ite rfl (classM_up h a) ((exprM_up h a).bind fun _ _=>endM_up h _ _))
theorem exportM_up (h : Sh L M c) (a : Nat) : Up c (exportM L (a + c)) (exportM M a):=by
 unfold exportM
 rw [Nat.add_right_comm a c 1,Nat.add_right_comm a c 2,isWd_up h,isS_up h,isS_up h,isNm_up h,isS_up h]
 exact Up.ite rfl ((defaultedM_up h _).bind fun _ _=>Up.ok) (Up.ite rfl (exportAllM_up h _) (Up.ite rfl (exportNamesM_up h _ _) (Up.ite rfl (exportNamesM_up h _ _) ((declaredM_up h _).bind fun _ _=>Up.ok))))
theorem itemM_up (h : Sh L M c) (a : Nat) : Up c (itemM L (a + c)) (itemM M a):=by
 unfold itemM opensM
 rw [Nat.add_right_comm a c 1,Nat.add_right_comm a c 2,isWd_up h,isWd_up h,isWd_up h,isNm_up h,isN_up h,isS_up h]
 exact Up.ite rfl (classM_up h a) (Up.ite rfl (importM_up h a) (Up.ite rfl (exportM_up h a) (Up.ite rfl (aliasM_up h a) (stmtM_up h a))))
theorem items_up (h : Sh L M c) : ∀ (n : Nat) (pre acc : List Nd) (a : Nat) (l : List Nd) (b : Nat),itemsM M (itemM M) n acc a = .ok l b → ∀ k,itemsM L (itemM L) (n + k) (pre ++ acc) (a + c) = .ok (pre ++ l) (b + c)
 | 0,_,_,_,_,_,e,_=>by rw [itemsM] at e;cases e
 | n + 1,pre,acc,a,l,b,e,k=>by
  have hl:=h.len
  rw [itemsM] at e
  rw [show n + 1 + k = (n + k) + 1 by omega,itemsM]
  by_cases ha : M.length ≤ a
  ·rw [if_pos ha] at e
   cases e
   rw [if_pos (by omega)]
  ·rw [if_neg ha] at e
   rw [if_neg (by omega)]
   have hu:=itemM_up h a
   unfold Up at hu
   rw [hu]
   cases hx : itemM M a with
   | bad p er=>rw [hx] at e;cases e
   | ok x a1 =>
    rw [hx,Rs.bind_ok] at e
    show itemsM L (itemM L) (n + k) (pre ++ acc ++ [x]) (a1 + c) = _
    rw [List.append_assoc]
    exact items_up h n pre _ a1 l b e k
theorem joins {L1 L2 : List Tok} (hP : Pre L1 L) (hS : Sh L L2 L1.length) {n1 n2 b1 b2 : Nat} {l1 l2 : List Nd} (e1 : itemsM L1 (itemM L1) n1 [] 0 = .ok l1 b1) (e2 : itemsM L2 (itemM L2) n2 [] 0 = .ok l2 b2) :
 ∃ j,j ≤ L1.length ∧ ∀ k,itemsM L (itemM L) (j + (n2 + k)) [] 0 = .ok (l1 ++ l2) (b2 + L1.length):=by
 have he : NoElse L1 L:=by
  have:=no_else e2
  have q:=isWd_up hS 0 wElse
  rw [Nat.zero_add] at q
  unfold NoElse
  rw [q,this]
 obtain ⟨j,_,h2,h3⟩:=items_sy hP (itemM_sy hP he) (fun a x b e=>itemM_in a x b e) n1 [] 0 l1 b1 (Nat.zero_le _) e1
 refine ⟨j,by omega,fun k=>?_⟩
 rw [h3]
 have:=items_up hS n2 l1 [] 0 l2 b2 e2 k
 rw [List.append_nil,Nat.zero_add] at this
 exact this
end Go.Proofs.YthfkfbcopinmiaaGreatDoor
set_option linter.unusedVariables false
set_option linter.unusedSimpArgs false
namespace Go.Proofs.YthfkfbcopinmiaaGreatDoor
open Go.RowKit
theorem eg_pExpr : ∀ args w,(callFunc 110 args).run Tryz.prog w = .ok (.enter 110 args) w:=Go.Proofs.enters_of Tryz.func110 (by kernel_rfl) rfl
theorem eg_pType : ∀ args w,(callFunc 59 args).run Tryz.prog w = .ok (.enter 59 args) w:=Go.Proofs.enters_of Tryz.func59 (by kernel_rfl) rfl
theorem eg_pStmt : ∀ args w,(callFunc 60 args).run Tryz.prog w = .ok (.enter 60 args) w:=Go.Proofs.enters_of Tryz.func60 (by kernel_rfl) rfl
theorem read_0 (L : List Tok) (F : Nat → Nat → Rs Nd) : readP L F 0 = faceR (F 0 0):=by
 unfold readP
 rw [if_neg (by omega),if_neg (by omega)]
 rfl
theorem by_expr {L : List Tok} (hs : Small L) {w : World} {P : Pl} {a : Nat} (h : Rd w P L a mE) : Calls Tryz.prog 58 #[.pointer (some ⟨P.R,0,none⟩),.func (.func 110) #[] #[]] w (AnsN P L mE w (exprM L a)):=by
 have e : exprM L a = (exprF (L.drop a) (fuelL (L.drop a)) 0 0).up a:=by
  have:=exprM_up (sh_drop h.le) 0
  rwa [Nat.zero_add] at this
 rw [e]
 refine by_any hs h eg_pExpr _ (fun W v hv=>?_) (((gd_all _ _).expr' 0 0 (Nat.zero_le _) (fuel_ok _ 0 0 20 (by omega))).weak (Nat.zero_le _)) ((bd_all _ _).expr' 0 0 (Nat.zero_le _))
 have:=faceExpr (L.drop a) W v 0 hv (by decide)
 rwa [read_0] at this
theorem by_type {L : List Tok} (hs : Small L) {w : World} {P : Pl} {a : Nat} (h : Rd w P L a mE) : Calls Tryz.prog 58 #[.pointer (some ⟨P.R,0,none⟩),.func (.func 59) #[] #[]] w (AnsN P L mE w (typeM L a)):=by
 have e : typeM L a = (typeF (L.drop a) (fuelL (L.drop a)) 0 0).up a:=by
  have:=typeM_up (sh_drop h.le) 0
  rwa [Nat.zero_add] at this
 rw [e]
 refine by_any hs h eg_pType _ (fun W v hv=>?_) (((gd_all _ _).type' 0 0 (Nat.zero_le _) (fuel_ok _ 0 0 20 (by omega))).weak (Nat.zero_le _)) ((bd_all _ _).type' 0 0 (Nat.zero_le _))
 have:=faceType (L.drop a) W v 0 hv (by decide)
 rwa [read_0] at this
theorem by_stmt {L : List Tok} (hs : Small L) {w : World} {P : Pl} {a : Nat} (h : Rd w P L a mE) : Calls Tryz.prog 58 #[.pointer (some ⟨P.R,0,none⟩),.func (.func 60) #[] #[]] w (AnsN P L mE w (stmtM L a)):=by
 have e : stmtM L a = (stmtF (L.drop a) (fuelL (L.drop a)) 0 0).up a:=by
  have:=stmtM_up (sh_drop h.le) 0
  rwa [Nat.zero_add] at this
 rw [e]
 refine by_any hs h eg_pStmt _ (fun W v hv=>?_) (((gd_all _ _).stmt' 0 0 (Nat.zero_le _) (fuel_ok _ 0 0 20 (by omega))).weak (Nat.zero_le _)) ((bd_all _ _).stmt' 0 0 (Nat.zero_le _))
 have:=faceStmt (L.drop a) W v 0 hv (by decide)
 rwa [read_0] at this
end Go.Proofs.YthfkfbcopinmiaaGreatDoor
set_option linter.unusedVariables false
set_option linter.unusedSimpArgs false
set_option maxRecDepth 100000
set_option maxHeartbeats 8000000
namespace Go.Proofs.YthfkfbcopinmiaaGreatDoor
open Go.RowKit
theorem endedm_any {w : World} {P : Pl} {L : List Tok} {a : Nat} {o : Ex} (h : Rd w P L a o) (k : Int) (t : ByteArray) (n : Int) (ad : Option Addr) (ln cp : Nat) :
 Calls Tryz.prog 48 #[.pointer (some ⟨P.R,0,none⟩),.agg #[.int .i64 k,.string t,.int .i64 n,.slice ad ln cp]] w (AnsW P L o (.agg #[.int .i64 k,.string t,.int .i64 n,.slice ad ln cp]) w (wantR L sSe a)):=by
 have hRw:=h.lt
 have hbl0:=h.x.lt
 obtain ⟨wA,hwA⟩ : ∃ W,w.alloc (.cells #[.int .i64 k,.string t,.int .i64 n,.slice ad ln cp] 24) = W:=⟨_,rfl⟩
 have bA : Below w.heap.size w wA:=by rw [← hwA];exact B0.alloc le0 _
 have sA : wA.heap.size = w.heap.size + 1:=by rw [← hwA];simp
 have mA : wA.heap[w.heap.size]? = some (.cells #[.int .i64 k,.string t,.int .i64 n,.slice ad ln cp] 24 (0,0)):=by rw [← hwA];exact hnew _ rfl
 obtain ⟨h0,a0,z0,M0⟩:=begin_cell (h.bel bA)
 have C1:=want_any h0 sSe
 generalize wantR L sSe a = rr at *
 go_enter Tryz.func48,Tryz.ntmps48
 go_wp2_with fail
 go_at_call 39
 refine C1.mono ?_
 rintro e W1 A1
 cases rr with
 | bad p er =>
  obtain ⟨rfl,b1⟩:=A1
  exact ⟨rfl,rfl,((KeptR.of bA).trans a0).trans b1⟩
 | ok u a1 =>
  obtain ⟨rfl,r1,b1⟩:=A1
  have m0:=M0.out _ b1
  rw [sA] at m0
  have v0 : W1.heap[w.heap.size]? = some (.cells #[.int .i64 k,.string t,.int .i64 n,.slice ad ln cp] 24 (0,0)):=(b1.block _ (by omega) (by omega)).trans ((a0.block _ (by omega) (by omega)).trans mA)
  obtain ⟨⟨_,_,_,_⟩,_,_,_,_⟩:=t4 m0
  obtain ⟨⟨_,_,_,_⟩,_,_,_,_⟩:=t4 v0
  have kf : KeptR P.R w W1:=((KeptR.of bA).trans a0).trans b1
  have hbl : 0 < L.length → P.bl ≠ w.heap.size + 1:=fun q=>by have:=hbl0 q;omega
  go_wp2
  refine bodyPost_ret (res_n4 Tryz.results48 (t4_set _ _ _ _ m0) rfl) rfl ?_
  exact ⟨rfl,r1.set4 (by omega) hbl _ _ _ _,(((kf.new (by omega) _ _).new (by omega) _ _).new (by omega) _ _).new (by omega) _ _⟩
end Go.Proofs.YthfkfbcopinmiaaGreatDoor
