/- Own text. Package module: two rows of tokens,one behind the other,are the items of both (of the model;no program is named here). Package module: expressions,types,statements by layer 6. Package module: what ends an item. Package module: the rules,one by one: statements,types,an alias,one of a space. Package module: the rules,one by one: a field. -/
import Derived.Test.YthfkfbcopinmiaaGreatDoorGk36
import Derived.Test.YthfkfbcopinmiaaGreatDoorGk07
import Derived.Test.YthfkfbcopinmiaaGreatDoorGk09
import Derived.Test.YthfkfbcopinmiaaGreatDoorGk10
import Derived.Test.YthfkfbcopinmiaaGreatDoorGk21
import Derived.Test.YthfkfbcopinmiaaGreatDoorGk35
set_option linter.unusedVariables false
set_option linter.unusedSimpArgs false
set_option maxRecDepth 100000
set_option maxRecDepth 100000
namespace Go.Proofs.YthfkfbcopinmiaaGreatDoor
open Go.RowKit
variable {L M : List Tok} {c : Nat}
theorem fuel_sh (h : Sh L M c) : fuelL M ≤ fuelL L:=by
 have:=h.len
 unfold fuelL
 omega
theorem far_expr {a : Nat} (ha : ¬ a ≤ M.length) (g : Nat) : exprF M (g+1) a 0 = .bad a 60:=by rw [exprF,beginR,if_pos (by omega)];rfl
theorem far_type {a : Nat} (ha : ¬ a ≤ M.length) (g : Nat) : typeF M (g+1) a 0 = .bad a 60:=by rw [typeF,beginR,if_pos (by omega)];rfl
theorem far_stmt {a : Nat} (ha : ¬ a ≤ M.length) (g : Nat) : stmtF M (g+1) a 0 = .bad a 60:=by rw [stmtF,beginR,if_pos (by omega)];rfl
theorem fuel_succ (N : List Tok) : ∃ g,fuelL N=g+1:=⟨fuelL N - 1,by unfold fuelL;omega⟩
theorem exprM_up (h : Sh L M c) (a : Nat) : Up c (exprM L (a+c)) (exprM M a):=by
 unfold exprM
 have e : exprF M (fuelL L) a 0=exprF M (fuelL M) a 0:=by
  by_cases ha : a ≤ M.length
  ·exact expr_more rfl ((gd_all M _).expr' a 0 ha (fuel_ok M a 0 20 (by omega))).1 (fuel_sh h)
  ·obtain ⟨g,hg⟩:=fuel_succ L
   obtain ⟨k,hk⟩:=fuel_succ M
   rw [hg,hk,far_expr ha,far_expr ha]
 rw [← e]
 exact (up_all h _).expr' a 0
theorem typeM_up (h : Sh L M c) (a : Nat) : Up c (typeM L (a+c)) (typeM M a):=by
 unfold typeM
 have e : typeF M (fuelL L) a 0=typeF M (fuelL M) a 0:=by
  by_cases ha : a ≤ M.length
  ·exact type_more rfl ((gd_all M _).type' a 0 ha (fuel_ok M a 0 20 (by omega))).1 (fuel_sh h)
  ·obtain ⟨g,hg⟩:=fuel_succ L
   obtain ⟨k,hk⟩:=fuel_succ M
   rw [hg,hk,far_type ha,far_type ha]
 rw [← e]
 exact (up_all h _).type' a 0
theorem stmtM_up (h : Sh L M c) (a : Nat) : Up c (stmtM L (a+c)) (stmtM M a):=by
 unfold stmtM
 have e : stmtF M (fuelL L) a 0=stmtF M (fuelL M) a 0:=by
  by_cases ha : a ≤ M.length
  ·exact stmt_more rfl ((gd_all M _).stmt' a 0 ha (fuel_ok M a 0 20 (by omega))).1 (fuel_sh h)
  ·obtain ⟨g,hg⟩:=fuel_succ L
   obtain ⟨k,hk⟩:=fuel_succ M
   rw [hg,hk,far_stmt ha,far_stmt ha]
 rw [← e]
 exact (up_all h _).stmt' a 0
theorem isNm_up (h : Sh L M c) (a : Nat) (s : ByteArray) : isNm L (a+c) s=isNm M a s:=by unfold isNm;rw [h.k,h.t]
theorem toM_up (h : Sh L M c) (a : Nat) : Up c (toM L (a+c)) (toM M a):=by
 unfold toM
 rw [isS_up h,Nat.add_right_comm]
 exact Up.ite rfl (typeM_up h _) Up.ok
theorem endM_up (h : Sh L M c) (n : Nd) (a : Nat) : Up c (endM L n (a+c)) (endM M n a):=(want_up h a _).bind fun _ _=>Up.ok
theorem aliasM_up (h : Sh L M c) (a : Nat) : Up c (aliasM L (a+c)) (aliasM M a):=by
 unfold aliasM
 rw [Nat.add_right_comm]
 exact (id_up h _).bind fun _ _=>(want_up h _ _).bind fun _ _=>(typeM_up h _).bind fun _ _=>endM_up h _ _
theorem ctorM_up (h : Sh L M c) (m : Mem) (a : Nat) : Up c (ctorM L m (a+c)) (ctorM M m a):=by
 unfold ctorM
 rw [Nat.add_right_comm]
 exact Up.ite rfl ((paramsG_up h (toM_up h) _).bind fun _ _=>(blockG_up h (stmtM_up h) _).bind fun _ _=>Up.ok) Up.bad
theorem methodM_up (h : Sh L M c) (m : Mem) (t : ByteArray) (a : Nat) : Up c (methodM L m t (a+c)) (methodM M m t a):=(paramsG_up h (toM_up h) _).bind fun _ _=>(toM_up h _).bind fun _ _=>(blockG_up h (stmtM_up h) _).bind fun _ _=>Up.ok
theorem fieldM_up (h : Sh L M c) (m : Mem) (t : ByteArray) (a : Nat) : Up c (fieldM L m t (a+c)) (fieldM M m t a):=(toM_up h _).bind fun _ _=>(want_up h _ _).bind fun _ _=>(exprM_up h _).bind fun _ _=>(want_up h _ _).bind fun _ _=>Up.ok
theorem memberM_up (h : Sh L M c) (m : Mem) (a : Nat) : Up c (memberM L m (a+c)) (memberM M m a):=by
 unfold memberM
 rw [isNm_up h,Nat.add_right_comm,isS_up h]
 refine Up.ite rfl (ctorM_up h m a) ((add_up h _ a).bind fun ns _=>(prop_up h a).bind fun t a1=>?_)
 rw [isS_up h]
 exact Up.ite rfl (methodM_up h _ _ _) (fieldM_up h _ _ _)
theorem membersM_up (h : Sh L M c) : ∀ (n : Nat) (m : Mem) (a : Nat),Up c (membersM L n m (a+c)) (membersM M n m a)
 | 0,_,_=>Up.bad
 | n+1,m,a=>by
  rw [membersM,membersM,isS_up h,Nat.add_right_comm]
  exact Up.ite rfl Up.ok ((memberM_up h m a).bind fun _ _=>membersM_up h n _ _)
theorem classM_up (h : Sh L M c) (a : Nat) : Up c (classM L (a+c)) (classM M a):=by
 unfold classM
 rw [Nat.add_right_comm]
 refine (id_up h _).bind fun _ _=>(want_up h _ _).bind fun _ a2=>?_
 rw [len_up h]
 exact (membersM_up h _ _ _).bind fun _ _=>Up.ok
theorem nameM_up (h : Sh L M c) (s : ByteArray) (a : Nat) : Up c (nameM L s (a+c)) (nameM M s a):=by
 unfold nameM
 rw [isNm_up h,Nat.add_right_comm]
 exact Up.ite rfl Up.ok Up.bad
theorem requestM_up (h : Sh L M c) (a : Nat) : Up c (requestM L (a+c)) (requestM M a):=by
 unfold requestM
 rw [h.k,h.t,Nat.add_right_comm]
 exact Up.ite rfl Up.ok Up.bad
theorem requestedM_up (h : Sh L M c) (a : Nat) : Up c (requestedM L (a+c)) (requestedM M a):=by
 unfold requestedM
 rw [h.t]
 exact Up.ite rfl Up.bad (requestM_up h a)
theorem typesAlone_up (h : Sh L M c) (a : Nat) : typesAloneM L (a+c)=typesAloneM M a:=by
 unfold typesAloneM
 rw [Nat.add_right_comm a c 1,Nat.add_right_comm a c 2,isNm_up h,isNm_up h,isN_up h,isS_up h,h.k]
theorem starM_up (h : Sh L M c) (a : Nat) : Up c (starM L (a+c)) (starM M a):=by
 unfold starM
 rw [h.t,Nat.add_right_comm]
 exact (nameM_up h _ _).bind fun _ _=>(id_up h _).bind fun _ _=>Up.ok
theorem importOneM_up (h : Sh L M c) (a : Nat) : Up c (importOneM L (a+c)) (importOneM M a):=by
 unfold importOneM
 refine (prop_up h a).bind fun t a1=>?_
 rw [isNm_up h,Nat.add_right_comm,isN_up h]
 exact Up.ite rfl ((id_up h _).bind fun _ _=>Up.ok) (Up.ite rfl Up.ok Up.bad)
theorem clauseRestM_up (h : Sh L M c) (types : Bool) (acc : List Nd) (a : Nat) : Up c (clauseRestM L types acc (a+c)) (clauseRestM M types acc a):=by
 unfold clauseRestM
 rw [isS_up h]
 refine Up.ite rfl ((starM_up h a).bind fun _ _=>Up.ok) ((want_up h a _).bind fun _ a1=>?_)
 rw [isS_up h]
 exact Up.ite rfl Up.bad ((listE_up h (importOneM_up h) _).bind fun _ _=>Up.ok)
theorem clauseM_up (h : Sh L M c) (types : Bool) (a : Nat) : Up c (clauseM L types (a+c)) (clauseM M types a):=by
 unfold clauseM
 rw [isN_up h,h.t,Nat.add_right_comm a c 1,Nat.add_right_comm a c 2,isS_up h]
 exact Up.ite rfl (Up.ite rfl (clauseRestM_up h types _ _) Up.ok) (clauseRestM_up h types _ _)
theorem importM_up (h : Sh L M c) (a : Nat) : Up c (importM L (a+c)) (importM M a):=by
 unfold importM
 rw [Nat.add_right_comm a c 1,typesAlone_up h,h.k,Nat.add_right_comm (a+1) c _]
 exact Up.ite rfl ((requestM_up h _).bind fun _ _=>endM_up h _ _) ((clauseM_up h _ _).bind fun _ _=>(nameM_up h _ _).bind fun _ _=>(requestM_up h _).bind fun _ _=>endM_up h _ _)
theorem exportOneM_up (h : Sh L M c) (a : Nat) : Up c (exportOneM L (a+c)) (exportOneM M a):=by
 unfold exportOneM
 refine (prop_up h a).bind fun t a1=>?_
 rw [isNm_up h,Nat.add_right_comm]
 exact Up.ite rfl ((prop_up h _).bind fun _ _=>Up.ok) Up.ok
theorem exportAllM_up (h : Sh L M c) (a : Nat) : Up c (exportAllM L (a+c)) (exportAllM M a):=by
 unfold exportAllM
 rw [h.t,Nat.add_right_comm a c 1,Nat.add_right_comm a c 2,isNm_up h]
 exact (Up.ite rfl ((prop_up h _).bind fun _ _=>Up.ok) Up.ok).bind fun _ _=>(nameM_up h _ _).bind fun _ _=>(requestedM_up h _).bind fun _ _=>endM_up h _ _
theorem hereM_up (h : Sh L M c) : ∀ (n : Nat) (H : Bool) (a : Nat),hereM L n H (a+c)=hereM M n H a
 | 0,_,_=>rfl
 | n+1,H,a=>by
  have e:=exportOneM_up h a
  unfold Up at e
  rw [hereM,hereM,isS_up h,e,isN_up h]
  cases hx : exportOneM M a with
  | bad p er=>rfl
  | ok x a1 =>
   show (if _ then _ else hereM L n _ (if isS L (a1+c) sCc=true then a1+c else a1+c+1))=_
   rw [isS_up h,Nat.add_right_comm]
   by_cases q : isS M a1 sCc=true
   ·rw [if_pos q,hereM_up h n]
    simp only [q,if_true]
   ·rw [if_neg q,hereM_up h n]
    simp only [q,if_false]
    rfl
theorem exportOne_low {N : List Tok} {a b : Nat} {x : Nd} (e : exportOneM N a = .ok x b) : a < N.length∧a+1 ≤ b:=by
 unfold exportOneM propR' at e
 by_cases q : isN N a=true ∨ (tokA N a).k=2
 ·have hl : a < N.length:=q.elim isN_lt (fun q=>kind_lt (by rw [q];decide))
  refine ⟨hl,?_⟩
  rw [if_pos q,Rs.bind_ok] at e
  split at e
  ·split at e
   ·rw [Rs.bind_ok] at e
    injection e with e1 e2
    omega
   ·cases e
  ·injection e with e1 e2
   omega
 ·rw [if_neg q] at e
  cases e
theorem here_more {N : List Tok} : ∀ (m k k' : Nat) (H : Bool) (a : Nat),N.length ≤ a+m→m ≤ k→m ≤ k'→hereM N k H a=hereM N k' H a
 | m,0,0,_,_,_,_,_=>rfl
 | m,0,k'+1,H,a,hm,h0,_=>by
  have hl : N.length ≤ a:=by omega
  rw [hereM,hereM]
  split
  ·rfl
  ·cases hx : exportOneM N a with
   | bad p er=>rfl
   | ok x a1=>exact absurd (exportOne_low hx).1 (by omega)
 | m,k+1,0,H,a,hm,_,h0=>by
  have hl : N.length ≤ a:=by omega
  rw [hereM,hereM]
  split
  ·rfl
  ·cases hx : exportOneM N a with
   | bad p er=>rfl
   | ok x a1=>exact absurd (exportOne_low hx).1 (by omega)
 | m,k+1,k'+1,H,a,hm,h1,h2=>by
  rw [hereM,hereM]
  split
  ·rfl
  ·cases hx : exportOneM N a with
   | bad p er=>rfl
   | ok x a1 =>
    have:=exportOne_low hx
    simp only
    split
    ·exact here_more (m - 1) k k' _ _ (by omega) (by omega) (by omega)
    ·exact here_more (m - 1) k k' _ _ (by omega) (by omega) (by omega)
theorem exportNamesM_up (h : Sh L M c) (types : Int) (a : Nat) : Up c (exportNamesM L types (a+c)) (exportNamesM M types a):=by
 have hl:=h.len
 unfold exportNamesM
 rw [Nat.add_right_comm,isS_up h,hereM_up h,here_more M.length (L.length+1) (M.length+1) true (a+1) (by omega) (by omega) (by omega)]
 refine Up.ite rfl Up.bad ((listE_up h (exportOneM_up h) _).bind fun l a1=>?_)
 rw [isS_up h]
 exact Up.ite rfl (endM_up h _ _) ((nameM_up h _ _).bind fun _ _=>(requestedM_up h _).bind fun _ _=>endM_up h _ _)
theorem declaredM_up (h : Sh L M c) (a : Nat) : Up c (declaredM L (a+c)) (declaredM M a):=by
 unfold declaredM
 rw [isWd_up h,isWd_up h,isWd_up h,isWd_up h,isNm_up h]
 exact Up.ite rfl (stmtM_up h a) (Up.ite rfl (classM_up h a) (Up.ite rfl (aliasM_up h a) Up.bad))
theorem defaultedM_up (h : Sh L M c) (a : Nat) : Up c (defaultedM L (a+c)) (defaultedM M a):=by
 unfold defaultedM
 rw [isWd_up h,isWd_up h]
 exact Up.ite rfl (stmtM_up h a) (Up.ite rfl (classM_up h a) ((exprM_up h a).bind fun _ _=>endM_up h _ _))
theorem exportM_up (h : Sh L M c) (a : Nat) : Up c (exportM L (a+c)) (exportM M a):=by
 unfold exportM
 rw [Nat.add_right_comm a c 1,Nat.add_right_comm a c 2,isWd_up h,isS_up h,isS_up h,isNm_up h,isS_up h]
 exact Up.ite rfl ((defaultedM_up h _).bind fun _ _=>Up.ok) (Up.ite rfl (exportAllM_up h _) (Up.ite rfl (exportNamesM_up h _ _) (Up.ite rfl (exportNamesM_up h _ _) ((declaredM_up h _).bind fun _ _=>Up.ok))))
theorem itemM_up (h : Sh L M c) (a : Nat) : Up c (itemM L (a+c)) (itemM M a):=by
 unfold itemM opensM
 rw [Nat.add_right_comm a c 1,Nat.add_right_comm a c 2,isWd_up h,isWd_up h,isWd_up h,isNm_up h,isN_up h,isS_up h]
 exact Up.ite rfl (classM_up h a) (Up.ite rfl (importM_up h a) (Up.ite rfl (exportM_up h a) (Up.ite rfl (aliasM_up h a) (stmtM_up h a))))
theorem items_up (h : Sh L M c) : ∀ (n : Nat) (pre acc : List Nd) (a : Nat) (l : List Nd) (b : Nat),itemsM M (itemM M) n acc a = .ok l b→∀ k,itemsM L (itemM L) (n+k) (pre ++ acc) (a+c) = .ok (pre ++ l) (b+c)
 | 0,_,_,_,_,_,e,_=>by rw [itemsM] at e;cases e
 | n+1,pre,acc,a,l,b,e,k=>by
  have hl:=h.len
  rw [itemsM] at e
  rw [show n+1+k=(n+k)+1 by omega,itemsM]
  by_cases ha : M.length ≤ a
  ·rw [if_pos ha] at e
   cases e
   rw [if_pos (by omega)]
  ·rw [if_neg ha] at e
   rw [if_neg (by omega)]
   have hu:=itemM_up h a
   unfold Up at hu
   rw [hu]
   cases hx : itemM M a with
   | bad p er=>rw [hx] at e;cases e
   | ok x a1 =>
    rw [hx,Rs.bind_ok] at e
    show itemsM L (itemM L) (n+k) (pre ++ acc ++ [x]) (a1+c)=_
    rw [List.append_assoc]
    exact items_up h n pre _ a1 l b e k
theorem eg_pExpr : ∀ args w,(callFunc 110 args).run Tryz.prog w = .ok (.enter 110 args) w:=Go.Proofs.enters_of Tryz.func110 (by kernel_rfl) rfl
theorem eg_pType : ∀ args w,(callFunc 59 args).run Tryz.prog w = .ok (.enter 59 args) w:=Go.Proofs.enters_of Tryz.func59 (by kernel_rfl) rfl
theorem eg_pStmt : ∀ args w,(callFunc 60 args).run Tryz.prog w = .ok (.enter 60 args) w:=Go.Proofs.enters_of Tryz.func60 (by kernel_rfl) rfl
theorem read_0 (L : List Tok) (F : Nat→Nat→Rs Nd) : readP L F 0=faceR (F 0 0):=by
 unfold readP
 rw [if_neg (by omega),if_neg (by omega)]
 rfl
theorem by_expr {L : List Tok} (hs : Small L) {w : World} {P : Pl} {a : Nat} (h : Rd w P L a mE) : Calls Tryz.prog 58 #[.pointer (some ⟨P.R,0,none⟩),.func (.func 110) #[] #[]] w (AnsN P L mE w (exprM L a)):=by
 have e : exprM L a=(exprF (L.drop a) (fuelL (L.drop a)) 0 0).up a:=by
  have:=exprM_up (sh_drop h.le) 0
  rwa [Nat.zero_add] at this
 rw [e]
 refine by_any hs h eg_pExpr _ (fun W v hv=>?_) (((gd_all _ _).expr' 0 0 (Nat.zero_le _) (fuel_ok _ 0 0 20 (by omega))).weak (Nat.zero_le _)) ((bd_all _ _).expr' 0 0 (Nat.zero_le _))
 have:=faceExpr (L.drop a) W v 0 hv (by decide)
 rwa [read_0] at this
theorem by_type {L : List Tok} (hs : Small L) {w : World} {P : Pl} {a : Nat} (h : Rd w P L a mE) : Calls Tryz.prog 58 #[.pointer (some ⟨P.R,0,none⟩),.func (.func 59) #[] #[]] w (AnsN P L mE w (typeM L a)):=by
 have e : typeM L a=(typeF (L.drop a) (fuelL (L.drop a)) 0 0).up a:=by
  have:=typeM_up (sh_drop h.le) 0
  rwa [Nat.zero_add] at this
 rw [e]
 refine by_any hs h eg_pType _ (fun W v hv=>?_) (((gd_all _ _).type' 0 0 (Nat.zero_le _) (fuel_ok _ 0 0 20 (by omega))).weak (Nat.zero_le _)) ((bd_all _ _).type' 0 0 (Nat.zero_le _))
 have:=faceType (L.drop a) W v 0 hv (by decide)
 rwa [read_0] at this
theorem by_stmt {L : List Tok} (hs : Small L) {w : World} {P : Pl} {a : Nat} (h : Rd w P L a mE) : Calls Tryz.prog 58 #[.pointer (some ⟨P.R,0,none⟩),.func (.func 60) #[] #[]] w (AnsN P L mE w (stmtM L a)):=by
 have e : stmtM L a=(stmtF (L.drop a) (fuelL (L.drop a)) 0 0).up a:=by
  have:=stmtM_up (sh_drop h.le) 0
  rwa [Nat.zero_add] at this
 rw [e]
 refine by_any hs h eg_pStmt _ (fun W v hv=>?_) (((gd_all _ _).stmt' 0 0 (Nat.zero_le _) (fuel_ok _ 0 0 20 (by omega))).weak (Nat.zero_le _)) ((bd_all _ _).stmt' 0 0 (Nat.zero_le _))
 have:=faceStmt (L.drop a) W v 0 hv (by decide)
 rwa [read_0] at this
set_option maxHeartbeats 8000000
theorem endedm_any {w : World} {P : Pl} {L : List Tok} {a : Nat} {o : Ex} (h : Rd w P L a o) (k : Int) (t : ByteArray) (n : Int) (ad : Option Addr) (ln cp : Nat) :
 Calls Tryz.prog 48 #[.pointer (some ⟨P.R,0,none⟩),.agg #[.int .i64 k,.string t,.int .i64 n,.slice ad ln cp]] w (AnsW P L o (.agg #[.int .i64 k,.string t,.int .i64 n,.slice ad ln cp]) w (wantR L sSe a)):=by
 have hRw:=h.lt
 have hbl0:=h.x.lt
 obtain ⟨wA,hwA⟩ : ∃ W,w.alloc (.cells #[.int .i64 k,.string t,.int .i64 n,.slice ad ln cp] 24)=W:=⟨_,rfl⟩
 have bA : Below w.heap.size w wA:=by rw [← hwA];exact B0.alloc le0 _
 have sA : wA.heap.size=w.heap.size+1:=by rw [← hwA];simp
 have mA : wA.heap[w.heap.size]?=some (.cells #[.int .i64 k,.string t,.int .i64 n,.slice ad ln cp] 24 (0,0)):=by rw [← hwA];exact hnew _ rfl
 obtain ⟨h0,a0,z0,M0⟩:=begin_cell (h.bel bA)
 have C1:=want_any h0 sSe
 generalize wantR L sSe a=rr at *
 go_enter Tryz.func48,Tryz.ntmps48
 go_wp2_with fail
 go_at_call 39
 refine C1.mono ?_
 rintro e W1 A1
 cases rr with
 | bad p er =>
  obtain ⟨rfl,b1⟩:=A1
  exact ⟨rfl,rfl,((KeptR.of bA).trans a0).trans b1⟩
 | ok u a1 =>
  obtain ⟨rfl,r1,b1⟩:=A1
  have m0:=M0.out _ b1
  rw [sA] at m0
  have v0 : W1.heap[w.heap.size]?=some (.cells #[.int .i64 k,.string t,.int .i64 n,.slice ad ln cp] 24 (0,0)):=(b1.block _ (by omega) (by omega)).trans ((a0.block _ (by omega) (by omega)).trans mA)
  obtain ⟨⟨_,_,_,_⟩,_,_,_,_⟩:=t4 m0
  obtain ⟨⟨_,_,_,_⟩,_,_,_,_⟩:=t4 v0
  have kf : KeptR P.R w W1:=((KeptR.of bA).trans a0).trans b1
  have hbl : 0 < L.length→P.bl ≠ w.heap.size+1:=fun q=>by have:=hbl0 q;omega
  go_wp2
  refine bodyPost_ret (res_n4 Tryz.results48 (t4_set _ _ _ _ m0) rfl) rfl ?_
  exact ⟨rfl,r1.set4 (by omega) hbl _ _ _ _,(((kf.new (by omega) _ _).new (by omega) _ _).new (by omega) _ _).new (by omega) _ _⟩
theorem stmt_m {L : List Tok} (hs : Small L) {w : World} {P : Pl} {a : Nat} (h : Rd w P L a mE) : Calls Tryz.prog 24 #[.pointer (some ⟨P.R,0,none⟩)] w (AnsN P L mE w (stmtM L a)):=by
 have hRw:=h.lt
 have hle:=h.le
 obtain ⟨h0,a0,z0,M0⟩:=begin_cell h
 obtain ⟨res,hres⟩ : ∃ r,stmtM L a=r:=⟨_,rfl⟩
 have HR : Hid (stmtM L a=res):=hres
 rw [hres]
 clear hres
 go_enter Tryz.func24,Tryz.ntmps24
 go_wp2_with fail
 go_at_call 58
 refine (by_stmt hs h0).mono ?_
 rintro e W1 A1
 cases h1 : stmtM L a with
 | bad p er =>
  rw [h1] at A1
  obtain ⟨rfl,b1⟩:=A1
  obtain rfl : Rs.bad p er=res:=by rw [← HR.out];simp [Rs.bind,mtT,endM,h1]
  exact ⟨rfl,rfl,a0.trans ((KeptR.refl P.R (w.alloc zN)).trans b1)⟩
 | ok x1 a1 =>
  rw [h1] at A1
  obtain ⟨ad1,c1,rfl,l1',r1,b1⟩:=A1
  have y1:=r1.le
  have k1:=(KeptR.refl P.R (w.alloc zN)).trans b1
  have z1:=k1.size
  have l1:=l1'.mono (T:=fun b=>w.heap.size+1 ≤ b) (fun b hb=>by have:=(KeptR.refl P.R (w.alloc zN)).size;omega)
  obtain rfl : Rs.ok x1 a1=res:=by rw [← HR.out];simp [Rs.bind,mtT,endM,h1]
  have m0:=M0.out _ k1
  obtain ⟨⟨_,_,_,_⟩,_,_,_,_⟩:=t4 m0
  go_wp2
  refine bodyPost_ret (res_n4 Tryz.results24 (t4_set _ _ _ _ m0) rfl) rfl ?_
  exact close_ok (x:=x1) h (a0.trans k1) (l1.keepR (KeptR.refl P.R W1) (by omega)) (by omega) r1
theorem to_m {L : List Tok} (hs : Small L) {w : World} {P : Pl} {a : Nat} (h : Rd w P L a mE) : Calls Tryz.prog 78 #[.pointer (some ⟨P.R,0,none⟩)] w (AnsN P L mE w (toM L a)):=by
 have hRw:=h.lt
 have hle:=h.le
 obtain ⟨h0,a0,z0,M0⟩:=begin_cell h
 obtain ⟨res,hres⟩ : ∃ r,toM L a=r:=⟨_,rfl⟩
 have HR : Hid (toM L a=res):=hres
 rw [hres]
 clear hres
 go_enter Tryz.func78,Tryz.ntmps78
 cases q2 : isS L a sCo with
 | true =>
  have T2:=take_any h0 sCo
  rw [q2] at T2
  have u2:=isS_lt q2
  go_wp2_with fail
  go_at_call 40
  refine T2.mono ?_
  rintro e W2 ⟨rfl,r2',b2⟩
  have r2 : Rd W2 P L (a+1) mE:=r2'
  clear r2'
  have k2:=(KeptR.refl P.R (w.alloc zN)).trans b2
  have z2:=k2.size
  have y2:=r2.le
  go_wp2_with fail
  go_at_call 58
  refine (by_type hs r2).mono ?_
  rintro e W3 A3
  cases h3 : typeM L (a+1) with
  | bad p er =>
   rw [h3] at A3
   obtain ⟨rfl,b3⟩:=A3
   obtain rfl : Rs.bad p er=res:=by rw [← HR.out,toM];simp [Rs.bind,mtT,endM,q2,h3]
   exact ⟨rfl,rfl,a0.trans (k2.trans b3)⟩
  | ok x3 a3 =>
   rw [h3] at A3
   obtain ⟨ad3,c3,rfl,l3',r3,b3⟩:=A3
   have y3:=r3.le
   have k3:=k2.trans b3
   have z3:=k3.size
   have l3:=l3'.mono (T:=fun b=>w.heap.size+1 ≤ b) (fun b hb=>by have:=k2.size;omega)
   obtain rfl : Rs.ok x3 a3=res:=by rw [← HR.out,toM];simp [Rs.bind,mtT,endM,q2,h3]
   have m0:=M0.out _ k3
   obtain ⟨⟨_,_,_,_⟩,_,_,_,_⟩:=t4 m0
   go_wp2
   refine bodyPost_ret (res_n4 Tryz.results78 (t4_set _ _ _ _ m0) rfl) rfl ?_
   exact close_ok (x:=x3) h (a0.trans k3) (l3.keepR (KeptR.refl P.R W3) (by omega)) (by omega) r3
 | false =>
  have T2:=take_any h0 sCo
  rw [q2] at T2
  go_wp2_with fail
  go_at_call 40
  refine T2.mono ?_
  rintro e W2 ⟨rfl,r2',b2⟩
  have r2 : Rd W2 P L a mE:=r2'
  clear r2'
  have k2:=(KeptR.refl P.R (w.alloc zN)).trans b2
  have z2:=k2.size
  have y2:=r2.le
  go_wp2_with fail
  go_at_call 42
  refine (node_any 14 ⟨#[]⟩ none 0 0 _).mono ?_
  rintro e W5 ⟨rfl,b5'⟩
  have r5:=r2.bel b5'
  have b5:=KeptR.of (b:=P.R) b5'
  have k5:=k2.trans b5
  have z5:=k5.size
  obtain rfl : Rs.ok noneN a=res:=by rw [← HR.out,toM];simp [Rs.bind,mtT,endM,q2]
  have m0:=M0.out _ k5
  obtain ⟨⟨_,_,_,_⟩,_,_,_,_⟩:=t4 m0
  go_wp2
  refine bodyPost_ret (res_n4 Tryz.results78 (t4_set _ _ _ _ m0) rfl) rfl ?_
  exact close_ok (x:=noneN) h (a0.trans k5) (LAt.nil (S:=fun b=>w.heap.size+1 ≤ b) none 0) (by omega) r5
theorem alias_m {L : List Tok} (hs : Small L) {w : World} {P : Pl} {a : Nat} (h : Rd w P L a mE) (hlt : a < L.length) : Calls Tryz.prog 23 #[.pointer (some ⟨P.R,0,none⟩)] w (AnsN P L mE w (aliasM L a)):=by
 have hRw:=h.lt
 have hle:=h.le
 obtain ⟨h0,a0,z0,M0⟩:=begin_cell h
 obtain ⟨res,hres⟩ : ∃ r,aliasM L a=r:=⟨_,rfl⟩
 have HR : Hid (aliasM L a=res):=hres
 rw [hres]
 clear hres
 go_enter Tryz.func23,Tryz.ntmps23
 go_wp2_with fail
 go_at_call 37
 refine (pass_any h0 hlt (hs.at _)).mono ?_
 rintro e W6 ⟨rfl,r6,b6⟩
 have k6:=(KeptR.refl P.R (w.alloc zN)).trans b6
 have z6:=k6.size
 have y6:=r6.le
 go_wp2_with fail
 go_at_call 38
 refine (id_any r6 hs).mono ?_
 rintro e W7 A7
 cases h7 : idR L (a+1) with
 | bad p er =>
  rw [h7] at A7
  obtain ⟨rfl,b7⟩:=A7
  obtain rfl : Rs.bad p er=res:=by rw [← HR.out,aliasM];simp [Rs.bind,mtT,endM,h7]
  exact ⟨rfl,rfl,a0.trans (k6.trans b7)⟩
 | ok x7 a7 =>
  rw [h7] at A7
  obtain ⟨rfl,r7,b7⟩:=A7
  have g7:=(id_ge L (a+1)) _ _ h7
  have y7:=r7.le
  have k7:=k6.trans b7
  have z7:=k7.size
  go_wp2_with fail
  go_at_call 39
  refine (want_any r7 sAs).mono ?_
  rintro e W8 A8
  cases h8 : wantR L sAs a7 with
  | bad p er =>
   rw [h8] at A8
   obtain ⟨rfl,b8⟩:=A8
   obtain rfl : Rs.bad p er=res:=by rw [← HR.out,aliasM];simp [Rs.bind,mtT,endM,h7,h8]
   exact ⟨rfl,rfl,a0.trans (k7.trans b8)⟩
  | ok x8 a8 =>
   rw [h8] at A8
   obtain ⟨rfl,r8,b8⟩:=A8
   have g8:=(want_ge L sAs a7) _ _ h8
   have y8:=r8.le
   have k8:=k7.trans b8
   have z8:=k8.size
   go_wp2_with fail
   go_at_call 58
   refine (by_type hs r8).mono ?_
   rintro e W9 A9
   cases h9 : typeM L a8 with
   | bad p er =>
    rw [h9] at A9
    obtain ⟨rfl,b9⟩:=A9
    obtain rfl : Rs.bad p er=res:=by rw [← HR.out,aliasM];simp [Rs.bind,mtT,endM,h7,h8,h9]
    exact ⟨rfl,rfl,a0.trans (k8.trans b9)⟩
   | ok x9 a9 =>
    rw [h9] at A9
    obtain ⟨ad9,c9,rfl,l9',r9,b9⟩:=A9
    have y9:=r9.le
    have k9:=k8.trans b9
    have z9:=k9.size
    have l9:=l9'.mono (T:=fun b=>w.heap.size+1 ≤ b) (fun b hb=>by have:=k8.size;omega)
    go_wp2_with fail
    go_at_call 42
    refine (node_any 46 x7 (some ⟨W9.heap.size,0,none⟩) 1 1 _).mono ?_
    rintro e W10 ⟨rfl,b10'⟩
    have j10 : W10.heap[W9.heap.size]?=_:=(b10'.block _ (by simp)).trans (heap_alloc_new W9 _)
    have r10:=(r9.bel (B0.alloc le0 _)).bel b10'
    have b10 : KeptR P.R W9 W10:=(KeptR.of (B0.alloc le0 _)).trans (.of b10')
    have k10:=k9.trans b10
    have z10:=k10.size
    have l10 : LAt W10 (fun b=>w.heap.size+1 ≤ b) (.slice (some ⟨W9.heap.size,0,none⟩) 1 1) [x9]:=LAt.n1 j10 (by have:=k9.size;show _ ≤ _;omega) (l9.keepR ((KeptR.refl P.R W9).trans b10) (by omega))
    go_wp2_with fail
    go_at_call 48
    refine (endedm_any r10 _ _ _ _ _ _).mono ?_
    rintro e W11 A11
    cases h11 : wantR L sSe a9 with
    | bad p er =>
     rw [h11] at A11
     obtain ⟨rfl,b11⟩:=A11
     obtain rfl : Rs.bad p er=res:=by rw [← HR.out,aliasM];simp [Rs.bind,mtT,endM,h7,h8,h9,h11]
     exact ⟨rfl,rfl,a0.trans (k10.trans b11)⟩
    | ok x11 a11 =>
     rw [h11] at A11
     obtain ⟨rfl,r11,b11⟩:=A11
     have y11:=r11.le
     have k11:=k10.trans b11
     have z11:=k11.size
     obtain rfl : Rs.ok (mk0 46 x7 [x9]) a11=res:=by rw [← HR.out,aliasM];simp [Rs.bind,mtT,endM,h7,h8,h9,h11]
     have m0:=M0.out _ k11
     obtain ⟨⟨_,_,_,_⟩,_,_,_,_⟩:=t4 m0
     go_wp2
     refine bodyPost_ret (res_n4 Tryz.results23 (t4_set _ _ _ _ m0) rfl) rfl ?_
     exact close_ok (x:=(mk0 46 x7 [x9])) h (a0.trans k11) (l10.keepR ((KeptR.refl P.R W10).trans b11) (by omega)) (by omega) r11
def defExprM (L : List Tok) (a : Nat) : Rs Nd:=(exprM L a).bind fun e a1=>endM L e a1
theorem defaultExpr_m {L : List Tok} (hs : Small L) {w : World} {P : Pl} {a : Nat} (h : Rd w P L a mE) : Calls Tryz.prog 87 #[.pointer (some ⟨P.R,0,none⟩)] w (AnsN P L mE w (defExprM L a)):=by
 have hRw:=h.lt
 have hle:=h.le
 obtain ⟨h0,a0,z0,M0⟩:=begin_cell h
 obtain ⟨res,hres⟩ : ∃ r,defExprM L a=r:=⟨_,rfl⟩
 have HR : Hid (defExprM L a=res):=hres
 rw [hres]
 clear hres
 go_enter Tryz.func87,Tryz.ntmps87
 go_wp2_with fail
 go_at_call 58
 refine (by_expr hs h0).mono ?_
 rintro e W19 A19
 cases h19 : exprM L a with
 | bad p er =>
  rw [h19] at A19
  obtain ⟨rfl,b19⟩:=A19
  obtain rfl : Rs.bad p er=res:=by rw [← HR.out,defExprM];simp [Rs.bind,mtT,endM,h19]
  exact ⟨rfl,rfl,a0.trans ((KeptR.refl P.R (w.alloc zN)).trans b19)⟩
 | ok x19 a19 =>
  rw [h19] at A19
  obtain ⟨ad19,c19,rfl,l19',r19,b19⟩:=A19
  have y19:=r19.le
  have k19:=(KeptR.refl P.R (w.alloc zN)).trans b19
  have z19:=k19.size
  have l19:=l19'.mono (T:=fun b=>w.heap.size+1 ≤ b) (fun b hb=>by have:=(KeptR.refl P.R (w.alloc zN)).size;omega)
  go_wp2_with fail
  go_at_call 48
  refine (endedm_any r19 _ _ _ _ _ _).mono ?_
  rintro e W20 A20
  cases h20 : wantR L sSe a19 with
  | bad p er =>
   rw [h20] at A20
   obtain ⟨rfl,b20⟩:=A20
   obtain rfl : Rs.bad p er=res:=by rw [← HR.out,defExprM];simp [Rs.bind,mtT,endM,h19,h20]
   exact ⟨rfl,rfl,a0.trans (k19.trans b20)⟩
  | ok x20 a20 =>
   rw [h20] at A20
   obtain ⟨rfl,r20,b20⟩:=A20
   have y20:=r20.le
   have k20:=k19.trans b20
   have z20:=k20.size
   obtain rfl : Rs.ok x19 a20=res:=by rw [← HR.out,defExprM];simp [Rs.bind,mtT,endM,h19,h20]
   have m0:=M0.out _ k20
   obtain ⟨⟨_,_,_,_⟩,_,_,_,_⟩:=t4 m0
   go_wp2
   refine bodyPost_ret (res_n4 Tryz.results87 (t4_set _ _ _ _ m0) rfl) rfl ?_
   exact close_ok (x:=x19) h (a0.trans k20) (l19.keepR ((KeptR.refl P.R W19).trans b20) (by omega)) (by omega) r20
def fieldN (L : List Tok) (t : ByteArray) (a : Nat) : Rs Nd:=(toM L a).bind fun y a1=>(wantR L sAs a1).bind fun _ a2=>(exprM L a2).bind fun e a3=>endM L (mk0 43 t [y,e]) a3
theorem field_m {L : List Tok} (hs : Small L) {w : World} {P : Pl} {a : Nat} (h : Rd w P L a mE) (t : ByteArray) : Calls Tryz.prog 80 #[.pointer (some ⟨P.R,0,none⟩),.string t] w (AnsN P L mE w (fieldN L t a)):=by
 have hRw:=h.lt
 have hle:=h.le
 obtain ⟨h0,a0,z0,M0⟩:=begin_cell h
 obtain ⟨res,hres⟩ : ∃ r,fieldN L t a=r:=⟨_,rfl⟩
 have HR : Hid (fieldN L t a=res):=hres
 rw [hres]
 clear hres
 go_enter Tryz.func80,Tryz.ntmps80
 go_wp2_with fail
 go_at_call 78
 refine (to_m hs h0).mono ?_
 rintro e W1 A1
 cases h1 : toM L a with
 | bad p er =>
  rw [h1] at A1
  obtain ⟨rfl,b1⟩:=A1
  obtain rfl : Rs.bad p er=res:=by rw [← HR.out,fieldN];simp [Rs.bind,mtT,endM,nameM,h1]
  exact ⟨rfl,rfl,a0.trans ((KeptR.refl P.R (w.alloc zN)).trans b1)⟩
 | ok x1 a1 =>
  rw [h1] at A1
  obtain ⟨ad1,c1,rfl,l1',r1,b1⟩:=A1
  have y1:=r1.le
  have k1:=(KeptR.refl P.R (w.alloc zN)).trans b1
  have z1:=k1.size
  have l1:=l1'.mono (T:=fun b=>w.heap.size+1 ≤ b) (fun b hb=>by have:=(KeptR.refl P.R (w.alloc zN)).size;omega)
  go_wp2_with fail
  go_at_call 39
  refine (want_any (r1.bel (B0.alloc le0 _)) sAs).mono ?_
  rintro e W3 A3
  cases h3 : wantR L sAs a1 with
  | bad p er =>
   rw [h3] at A3
   obtain ⟨rfl,b3⟩:=A3
   obtain rfl : Rs.bad p er=res:=by rw [← HR.out,fieldN];simp [Rs.bind,mtT,endM,nameM,h1,h3]
   exact ⟨rfl,rfl,a0.trans ((k1.alloc _).trans b3)⟩
  | ok x3 a3 =>
   rw [h3] at A3
   obtain ⟨rfl,r3,b3⟩:=A3
   have g3:=(want_ge L sAs a1) _ _ h3
   have y3:=r3.le
   have k3:=(k1.alloc (Obj.cells #[.int .i64 x1.k,.string x1.t,.int .i64 x1.n,.slice ad1 x1.ks.length c1] 24)).trans b3
   have z3:=k3.size
   go_wp2_with fail
   refine wp_region_any (by kernel_rfl) ?_
   change wpAny _ _ _ _ _ _ _ (World.drew _)
   have zd4 : W3.drew.heap.size=W3.heap.size:=rfl
   refine tk 0 (.pointer (some ⟨P.R,0,none⟩)) ?_
   refine tk 1 (.string t) ?_
   refine tk 3 (.pointer (some ⟨P.R,0,none⟩)) ?_
   have v2 : W3.drew.heap[W1.heap.size]?=_:=((((KeptR.refl P.R _).trans b3).trans (.of (B0.drew))).block (W1.heap.size) (by simp) (by have:=k1.size;omega)).trans (heap_alloc_new W1 _)
   obtain ⟨⟨_,_,_,_⟩,_,_,_,_⟩:=t4 v2
   refine wpAny_two (i:=2) (j:=4) (is:=[4,5,6,7,8]) (js:=[2,5,6,7,8]) (os:=[_,_,_,_,_]) (us:=[_,_,_,_,_]) (by kernel_rfl) rfl rfl (by kernel_rfl) (by kernel_rfl) rfl rfl (by decide) (by decide) ?_ ?_
   all_goals
    go_wp2_with fail
    go_at_call 58
    refine (by_expr hs (r3.bel (B0.drew))).mono ?_
    rintro e W5 A5
    cases h5 : exprM L a3 with
    | bad p er =>
     rw [h5] at A5
     obtain ⟨rfl,b5⟩:=A5
     obtain rfl : Rs.bad p er=res:=by rw [← HR.out,fieldN];simp [Rs.bind,mtT,endM,nameM,h1,h3,h5]
     exact ⟨rfl,rfl,a0.trans ((k3.trans (.of (B0.drew))).trans b5)⟩
    | ok x5 a5 =>
     rw [h5] at A5
     obtain ⟨ad5,c5,rfl,l5',r5,b5⟩:=A5
     have y5:=r5.le
     have k5:=(k3.trans (.of (B0.drew))).trans b5
     have z5:=k5.size
     have l5:=l5'.mono (T:=fun b=>w.heap.size+1 ≤ b) (fun b hb=>by have:=(k3.trans (.of (B0.drew))).size;omega)
     have v2 : W5.heap[W1.heap.size]?=_:=(((((KeptR.refl P.R _).trans b3).trans (.of (B0.drew))).trans b5).block (W1.heap.size) (by simp) (by have:=k1.size;omega)).trans (heap_alloc_new W1 _)
     obtain ⟨⟨_,_,_,_⟩,_,_,_,_⟩:=t4 v2
     go_wp2_with fail
     go_at_call 42
     refine (node_any 43 t (some ⟨W5.heap.size,0,none⟩) 2 2 _).mono ?_
     rintro e W6 ⟨rfl,b6'⟩
     have j6 : W6.heap[W5.heap.size]?=_:=(b6'.block _ (by simp)).trans (heap_alloc_new W5 _)
     have r6:=(r5.bel (B0.alloc le0 _)).bel b6'
     have b6 : KeptR P.R W5 W6:=(KeptR.of (B0.alloc le0 _)).trans (.of b6')
     have k6:=k5.trans b6
     have z6:=k6.size
     have l6 : LAt W6 (fun b=>w.heap.size+1 ≤ b) (.slice (some ⟨W5.heap.size,0,none⟩) 2 2) [x1,x5]:=LAt.n2 j6 (by have:=k5.size;show _ ≤ _;omega) (l1.keepR ((((((KeptR.refl P.R W1).alloc _).trans b3).trans (.of (B0.drew))).trans b5).trans b6) (by omega)) (l5.keepR ((KeptR.refl P.R W5).trans b6) (by omega))
     go_wp2_with fail
     go_at_call 48
     refine (endedm_any r6 _ _ _ _ _ _).mono ?_
     rintro e W7 A7
     cases h7 : wantR L sSe a5 with
     | bad p er =>
      rw [h7] at A7
      obtain ⟨rfl,b7⟩:=A7
      obtain rfl : Rs.bad p er=res:=by rw [← HR.out,fieldN];simp [Rs.bind,mtT,endM,nameM,h1,h3,h5,h7]
      exact ⟨rfl,rfl,a0.trans (k6.trans b7)⟩
     | ok x7 a7 =>
      rw [h7] at A7
      obtain ⟨rfl,r7,b7⟩:=A7
      have y7:=r7.le
      have k7:=k6.trans b7
      have z7:=k7.size
      obtain rfl : Rs.ok (mk0 43 t [x1,x5]) a7=res:=by rw [← HR.out,fieldN];simp [Rs.bind,mtT,endM,nameM,h1,h3,h5,h7]
      have m0:=M0.out _ k7
      obtain ⟨⟨_,_,_,_⟩,_,_,_,_⟩:=t4 m0
      go_wp2
      refine bodyPost_ret (res_n4 Tryz.results80 (t4_set _ _ _ _ m0) rfl) rfl ?_
      exact close_ok (x:=(mk0 43 t [x1,x5])) h (a0.trans k7) (l6.keepR ((KeptR.refl P.R W6).trans b7) (by omega)) (by omega) r7
end Go.Proofs.YthfkfbcopinmiaaGreatDoor
