/- Own text. slices.Grow of nothing,slices.Concat of three lists of trees. slices.Concat of three lists of trees. Package module: the rules,one by one: a class. -/
import Derived.Test.YthfkfbcopinmiaaGreatDoorGk20
import Derived.Lib.AppendZerosOnto
import Derived.Test.YthfkfbcopinmiaaGreatDoorGk40
set_option linter.unusedVariables false
set_option linter.unusedSimpArgs false
set_option maxRecDepth 100000
set_option maxHeartbeats 2000000
namespace Go.Proofs.YthfkfbcopinmiaaGreatDoor
open Go.RowKit
theorem wpList_zeros (w : World) {ops : Array Oper} {rest : List Oper} {o : Oper} {a : Act} {Q : Exit→Act→World→Prop} (hgd : o.guard=none) (s x : Operand)
 (ho : o.op = .call { callee:=.builtin .append,args:=#[s,x],argTypes:=#[22,3] }) (n : Nat) (h0 : 0 < n) (hn : n ≤ 12582912) (hs : a.eval s = .slice none 0 0) (hx : a.eval x = .int .i64 (n : Int))
 (h : ∀ (cap : Nat) (cur : Array Value),n ≤ cap→cap ≤ maxLen→cur.size=cap * 4→wpList Tryz.prog ops Q rest (a.put o.dst (.slice (some ⟨w.heap.size,0,none⟩) n cap)) (w.drew.alloc (.cells cur 24))) : wpList Tryz.prog ops Q (o :: rest) a w:=by
 obtain ⟨i0,hi0,hz0,hz1,hz2⟩:=info_parts info_nd
 have hnc : Builtin.nextslicecap (0+n) 0 * i0.bytes ≤ 281474976710656:=by
  rw [hz2]
  have : Builtin.nextslicecap (0+n) 0 ≤ n:=by
   unfold Builtin.nextslicecap
   simp
   split <;> omega
  omega
 have hr:=fun ty=>Lib.run_append_grow_zeros (P:=Tryz.prog) w 22 3 ty 24 i0 _ .i64 .i64 Tryz.underlying22 Tryz.underlying3 hi0 hz0 none 0 0 [] (by simp [Builtin.firstCells,hz1]) n h0 (by omega) (by omega) (by omega) (by rw [hz2];omega) hnc
 have hge:=grownCap_ge w (0+n) 0 24
 have hml:=grownCap_le_maxLen w (0+n) 0 24 (by unfold maxLen;omega)
 simp only [Nat.zero_add] at hr hge hml
 refine wpList_plain hgd fun K hK=>?_
 unfold Oper.wp
 have e : (execOp a.eval o).run Tryz.prog w = .ok (.value (.slice (some ⟨w.heap.size,0,none⟩) n (grownCap w n 0 24))) (w.drew.alloc (.cells (([] : List Value).toArray ++ Builtin.zeroCells zeroN.cells n ++ Builtin.zeroCells zeroN.cells (grownCap w n 0 24 - n)) 24)):=by
  obtain ⟨dst,op,ty,pos,after,guard⟩:=o
  simp only at ho
  subst ho
  rw [BigFrame.execOp_builtin,BigFrame.builtin_append]
  have e2 : (#[s,x] : Array Operand).map a.eval=#[.slice none 0 0,.int .i64 (n : Int)]:=by simp [hs,hx]
  rw [e2]
  simp only [Sem.run_bind,hr,Result.andThen]
  rfl
 rw [e]
 have hz : zeroN.cells.size=4:=by decide
 refine hK _ _ ?_
 have:=h (grownCap w n 0 24) (([] : List Value).toArray ++ Builtin.zeroCells zeroN.cells n ++ Builtin.zeroCells zeroN.cells (grownCap w n 0 24 - n)) (by omega) hml (by simp [size_zeroCells,hz];omega)
 simpa using this
theorem grow_any (n : Nat) (hn : n ≤ 12582912) (w : World) : Calls Tryz.prog 81 #[.slice none 0 0,.int .i64 (n : Int)] w fun e w'=>∃ v,e = .returned v∧w'.ownsRow w.heap.size 24 4 v 0 []∧Below w.heap.size w w':=by
 obtain ⟨i0,hi0,hz0,hz1,hz2⟩:=info_parts info_nd
 have i1 : ¬ (n : Int) < 0:=by omega
 have hw1 : IntKind.i64.wrap ((n : Int) - 0)=(n : Int):=by rw [IntKind.wrap_i64];omega
 have hw0 : IntKind.i64.wrap ((0 : Int) - 0)=0:=by decide
 by_cases h0 : n=0
 ·subst h0
  go_enter Tryz.func81,Tryz.ntmps81
  go_wp2
  go_ret
  exact ⟨_,rfl,World.ownsRow_nil _ _ _ _,Below.refl _ _⟩
 ·have i2 : (0 : Int) < (n : Int):=by omega
  go_enter Tryz.func81,Tryz.ntmps81
  go_wp2_with (at_builtin;refine wpList_zeros _ (by rfl) _ _ (by rfl) n (by omega) hn (by rfl) (by rfl) ?_;intro cap cur hc1 hc2 hc3;have hc4 : (0 : Int) ≤ (cap : Int):=by omega)
  go_ret
  refine ⟨_,rfl,⟨rfl,.inr ⟨w.heap.size,cap,cur,rfl,Nat.le_refl _,heap_alloc_new _ _,Nat.zero_le _,hc2,hc3,by simp⟩⟩,?_⟩
  exact (B0.drew).alloc le0 _
set_option maxHeartbeats 4000000
def sumL (ks : Nat→List Nd) : Nat→Nat
 | 0=>0
 | i+1=>sumL ks i+(ks i).length
def catL (ks : Nat→List Nd) : Nat→List Nd
 | 0=>[]
 | i+1=>catL ks i ++ ks i
theorem sumL_le (ks : Nat→List Nd) : ∀ i j,i ≤ j→sumL ks i ≤ sumL ks j
 | i,0,h=>by obtain rfl : i = 0:=by omega
             exact Nat.le_refl _
 | i,j+1,h=>by
  by_cases e : i=j+1
  ·subst e;exact Nat.le_refl _
  ·have:=sumL_le ks i j (by omega)
   show _ ≤ sumL ks j+(ks j).length
   omega
theorem row3 {w : World} {sb : Nat} {s : Nat→Value} (hs : w.heap[sb]?=some (.cells #[s 0,s 1,s 2] 22 (0,0))) {i : Nat} (hi : i < 3) : w.cell? ⟨sb,i,none⟩=some (s i):=by
 rw [cell_of_row _ _ _ _ _ _ hs]
 have : i=0 ∨ i=1 ∨ i=2:=by omega
 rcases this with rfl | rfl | rfl <;> rfl
theorem LAt.back {w w' : World} {S : Nat→Prop} {v : Value} {ks : List Nd} (h : LAt w' (fun b=>S b∧b < w.heap.size) v ks) (b : Below w.heap.size w w') : LAt w S v ks :=
 by
 induction h with
 | nil a c=>exact .nil a c
 | row bl o c ks f hS' hl h4 hk ih=>exact .row bl o c ks f hS'.1 hS'.2 (fun i hi=>(h4 i hi).of_block (b.block bl hS'.2).symm) ih
theorem concat_any {w : World} {sb : Nat} {s : Nat→Value} {ks : Nat→List Nd} {S : Nat→Prop} (hs : w.heap[sb]?=some (.cells #[s 0,s 1,s 2] 22 (0,0))) (hl : ∀ i,i < 3→LAt w S (s i) (ks i)) (hn : sumL ks 3 ≤ 4194304) :
 Calls Tryz.prog 43 #[.slice (some ⟨sb,0,none⟩) 3 3] w fun e w'=>∃ ad c,e = .returned (.slice ad (catL ks 3).length c)∧LAt w' (fun b=>(S b∧b < w.heap.size) ∨ w.heap.size ≤ b) (.slice ad (catL ks 3).length c) (catL ks 3)∧Below w.heap.size w w':=by
 obtain ⟨i0,hi0,hz0,hz1,hz2⟩:=info_parts info_nd
 have HS : Hid (∀ i,i < 3→w.cell? ⟨sb,i,none⟩=some (s i)):=fun i hi=>row3 hs hi
 have hsb : sb < w.heap.size:=(Array.getElem?_eq_some_iff.1 hs).1
 have HL : Hid (∀ i,i < 3→LAt w S (s i) (ks i)):=hl
 clear hs hl
 have HC:=fun W=>grow_any (sumL ks 3) (by omega) W
 have HG : Hid (∀ W,Calls Tryz.prog 81 #[.slice none 0 0,.int .i64 ((sumL ks 3 : Nat) : Int)] W fun e w'=>∃ v,e = .returned v∧w'.ownsRow W.heap.size 24 4 v 0 []∧Below W.heap.size W w'):=HC
 clear HC
 go_enter Tryz.func43,Tryz.ntmps43
 go_wp2
 go_loopg [3,11] 3 (fun gk v3 v11 wr=>∃ i : Nat,Hid (gk+i=3)∧v3 = .int .i64 ((sumL ks i : Nat) : Int)∧v11 = .int .i64 (i : Int)∧wr=w)
 case atStart=>exact ⟨0,rfl,rfl,rfl,rfl⟩
 case round =>
  obtain ⟨i,hgi,rfl,rfl,hwr⟩:=hrel
  obtain rfl : w=wr:=hwr.symm
  have hgi':=hgi.out
  by_cases hi : i < 3
  ·have i1 : (i : Int) < 3:=by omega
   obtain ⟨ad,c,hv⟩:=(HL.out i hi).sl
   have ci:=HS.out i hi
   rw [hv] at ci
   have hsum:=sumL_le ks (i+1) 3 (by omega)
   have e1 : sumL ks (i+1)=sumL ks i+(ks i).length:=rfl
   have hw : IntKind.i64.wrap (((sumL ks i : Nat) : Int)+((ks i).length : Int))=((sumL ks i+(ks i).length : Nat) : Int):=by rw [IntKind.wrap_i64];omega
   have hw2 : IntKind.i64.wrap ((i : Int)+1)=((i+1 : Nat) : Int):=by rw [IntKind.wrap_i64];omega
   have i2 : ¬ ((sumL ks i+(ks i).length : Nat) : Int) < 0:=by omega
   clear e1 hsum hv
   go_wp2
   go_roundg (gk - 1)
   case rel=>exact ⟨i+1,by show _=_;omega,rfl,rfl,rfl⟩
   case measure=>omega
  ·obtain rfl : i=3:=by omega
   have i1 : ¬ ((3 : Nat) : Int) < 3:=by omega
   go_wp2_with fail
   go_at_call 81
   refine (HG.out _).mono ?_
   rintro e W1 ⟨v,rfl,o1,b1⟩
   go_wp2
   go_loopg [6,27] 3 (fun gk v6 v27 wq=>∃ (i : Nat) (F : List (Nd × Value)),Hid (gk+i=3)∧v27 = .int .i64 (i : Int)∧wq.ownsRow w.heap.size 24 4 v6 (sumL ks i) (rowN F)∧Hid (F.map (·.1)=catL ks i)∧Hid (∀ p ∈ F,LAt w S p.2 p.1.ks)∧Below w.heap.size w wq)
   case atStart=>exact ⟨0,[],rfl,rfl,o1,rfl,fun p hp=>(by cases hp),b1⟩
   case round =>
    obtain ⟨i,F,hgj,rfl,oF,hF,hk,bF⟩:=hrel
    have hgj':=hgj.out
    have sF:=bF.size
    by_cases hi : i < 3
    ·have i1 : (i : Int) < 3:=by omega
     have hLi:=HL.out i hi
     obtain ⟨ad,c,hv⟩:=hLi.sl
     have ci:=(bF.cell (p:=⟨sb,i,none⟩) hsb).trans (HS.out i hi)
     rw [hv] at ci hLi
     have hLw : LAt wr (fun b=>S b∧b < w.heap.size) (.slice ad (ks i).length c) (ks i):=(hLi.mono' (T:=fun b=>S b∧b < w.heap.size) (fun b h1 h2=>⟨h2,h1⟩)).bel bF
     have hsum:=sumL_le ks (i+1) 3 (by omega)
     have e1 : sumL ks (i+1)=sumL ks i+(ks i).length:=rfl
     have hw2 : IntKind.i64.wrap ((i : Int)+1)=((i+1 : Nat) : Int):=by rw [IntKind.wrap_i64];omega
     rw [e1] at hsum
     clear e1 hv
     have HO : Hid (wr.ownsRow w.heap.size 24 4 u6 (sumL ks i) (rowN F)):=oF
     go_wp2_with (at_builtin;refine wpList_append_lat _ (by rfl) _ _ (by rfl) w.heap.size _ (sumL ks i) _ (by rfl) HO.out (fun b=>S b∧b < w.heap.size) ad c (ks i) (by rfl) hLw (by omega) (by omega) ?_;intro vA WA FA hFA oA gA hA kA)
     go_roundg (gk - 1)
     case rel =>
      have bA : Below w.heap.size w WA:=⟨gA.os.trans bF.os,gA.tape.trans bF.tape,gA.output.trans bF.output,Nat.le_trans bF.size gA.size,fun k hk'=>(gA.block k (by omega) (fun e=>by have:=(row_lt HO.out k e.symm).1;omega)).trans (bF.block k hk')⟩
      refine ⟨i+1,F ++ FA,by show _=_;omega,rfl,by rw [rowN_append];exact oA,by show _=_;rw [List.map_append,hF.out,hFA];rfl,fun p hp=>?_,bA⟩
      rcases List.mem_append.1 hp with hp | hp
      ·exact hk.out p hp
      ·exact ((kA p hp).mono (T:=fun b=>S b∧b < w.heap.size) (fun b hb=>hb)).back bF
     case measure=>omega
    ·obtain rfl : i=3:=by omega
     have i1 : ¬ ((3 : Nat) : Int) < 3:=by omega
     have hFl : F.length=sumL ks 3:=by have:=oF.1;rw [rowN_length] at this;omega
     have lA : LAt wr (fun b=>(S b∧b < w.heap.size) ∨ w.heap.size ≤ b) u6 (F.map (·.1)):=lat_of_row (base:=w.heap.size) (by rw [hFl];exact oF) (fun p hp=>((((hk.out p hp).mono' (T:=fun b=>S b∧b < w.heap.size) (fun b h1 h2=>⟨h2,h1⟩)).bel bF).mono (fun b hb=>.inl hb))) (fun g hg=>.inr (row_lt oF g hg).1)
     rw [hF.out] at lA
     obtain ⟨ad,c,hv⟩:=lA.sl
     subst hv
     clear hFl
     go_wp2
     go_ret
     exact ⟨ad,c,rfl,lA,bF⟩
set_option maxHeartbeats 8000000
theorem three {f : Nat→Nat} {n : Nat} (h0 : f 0 ≤ n) (h1 : f 1 ≤ n) (h2 : f 2 ≤ n) : ∀ i,i < 3→f i ≤ n:=fun i hi=>by
 have : i=0 ∨ i=1 ∨ i=2:=by omega
 rcases this with rfl | rfl | rfl
 ·exact h0
 ·exact h1
 ·exact h2
theorem NM.put {w : World} {M : Nat} {ns : List (List UInt8)} (h : NM w M ns) {s : ByteArray} (hs : s.size ≤ 281474976710656) (hn : ns.length ≤ 4194304) : ∃ w',(Instr.mapUpdate 84 (.map (some M)) (.string s) (.agg #[])).run Tryz.prog w = .ok () w'∧NM w' M (ns ++ [s.data.toList])∧w.grownBy w' (some M):=by
 obtain ⟨D,h1,h2⟩:=h
 obtain ⟨w',hr,h3,h4⟩:=h1.update lawS Tryz.underlying84 (by unfold maxLen;omega) (key:=.string s) (val:=.agg #[]) (keyS hs) (d:=.lit (.bool true)) (ps:=[]) rfl
 refine ⟨w',hr,⟨_,by simpa using h3,fun k=>?_⟩,h4⟩
 by_cases hk : k=s.data.toList
 ·subst hk
  rw [Maps.has_put_same h1.isMap (lawS.key (keyS hs))]
  simp
 ·rw [Maps.has_put_other (by intro e;injection e with e;exact hk e),h2]
  simp [hk]
theorem Rs.bind_inv {α β : Type} {r : Rs α} {f : α→Nat→Rs β} {v : β} {b : Nat} (h : r.bind f = .ok v b) : ∃ u c,r = .ok u c∧f u c = .ok v b:=by
 cases r with
 | ok u c=>exact ⟨u,c,rfl,h⟩
 | bad p e=>cases h
theorem ctorM_grow {L : List Tok} {m m2 : Mem} {a b : Nat} (h : ctorM L m a = .ok m2 b) : a+1 ≤ b∧m2.fs.length+m2.cs.length+m2.ms.length ≤ m.fs.length+m.cs.length+m.ms.length+1∧m2.ns.length ≤ m.ns.length+1:=by
 unfold ctorM at h
 split at h
 ·obtain ⟨p,a1,e1,h⟩:=Rs.bind_inv h
  obtain ⟨q,a2,e2,h⟩:=Rs.bind_inv h
  have g1:=paramsG_ge (toM_ge L) (a+1) _ _ e1
  have g2:=blockG_ge (stmtM_ge L) a1 _ _ e2
  cases h
  refine ⟨by omega,?_,by simp⟩
  simp
  omega
 ·cases h
theorem memberM_grow {L : List Tok} {m m2 : Mem} {a b : Nat} (h : memberM L m a = .ok m2 b) : a+1 ≤ b∧m2.fs.length+m2.cs.length+m2.ms.length ≤ m.fs.length+m.cs.length+m.ms.length+1∧m2.ns.length ≤ m.ns.length+1:=by
 unfold memberM at h
 split at h
 ·exact ctorM_grow h
 ·obtain ⟨ns,a0,e0,h⟩:=Rs.bind_inv h
  obtain ⟨t,a1,e1,h⟩:=Rs.bind_inv h
  have g1:=prop_ge L a _ _ e1
  have g0 : ns.length=m.ns.length+1:=by
   unfold addR at e0
   split at e0
   ·cases e0
   ·cases e0;simp
  split at h
  ·unfold methodM at h
   obtain ⟨p,a2,e2,h⟩:=Rs.bind_inv h
   obtain ⟨y,a3,e3,h⟩:=Rs.bind_inv h
   obtain ⟨q,a4,e4,h⟩:=Rs.bind_inv h
   have g2:=paramsG_ge (toM_ge L) a1 _ _ e2
   have g3:=toM_ge L a2 _ _ e3
   have g4:=blockG_ge (stmtM_ge L) a3 _ _ e4
   cases h
   refine ⟨by omega,?_,by simp [g0]⟩
   simp
   omega
  ·rw [fieldM_eq] at h
   obtain ⟨x,a2,e2,h⟩:=Rs.bind_inv h
   unfold fieldN at e2
   obtain ⟨y,a3,e3,e2⟩:=Rs.bind_inv e2
   obtain ⟨u,a4,e4,e2⟩:=Rs.bind_inv e2
   obtain ⟨z,a5,e5,e2⟩:=Rs.bind_inv e2
   have g3:=toM_ge L a1 _ _ e3
   have g4:=want_ge L sAs a3 _ _ e4
   have g5:=exprM_ge L a4 _ _ e5
   have g6:=endM_ge L _ a5 _ _ e2
   cases h
   refine ⟨by omega,?_,by simp [g0]⟩
   simp
   omega
theorem class_m {L : List Tok} (hs : Small L) {w : World} {P : Pl} {a : Nat} (h : Rd w P L a mE) (hlt : a < L.length) : Calls Tryz.prog 19 #[.pointer (some ⟨P.R,0,none⟩)] w (AnsN P L mE w (classM L a)):=by
 have hRw:=h.lt
 have hle:=h.le
 obtain ⟨h0,a0,z0,M0⟩:=begin_cell h
 obtain ⟨res,hres⟩ : ∃ r,classM L a=r:=⟨_,rfl⟩
 have HR : Hid (classM L a=res):=hres
 rw [hres]
 clear hres
 go_enter Tryz.func19,Tryz.ntmps19
 go_wp2_with fail
 go_at_call 37
 refine (pass_any h0 hlt (hs.at _)).mono ?_
 rintro e W1 ⟨rfl,r1,b1⟩
 have k1:=(KeptR.refl P.R (w.alloc zN)).trans b1
 have z1:=k1.size
 have y1:=r1.le
 go_wp2_with fail
 go_at_call 38
 refine (id_any r1 hs).mono ?_
 rintro e W2 A2
 cases h2 : idR L (a+1) with
 | bad p er =>
  rw [h2] at A2
  obtain ⟨rfl,b2⟩:=A2
  obtain rfl : Rs.bad p er=res:=by rw [← HR.out,classM];simp [Rs.bind,mtT,h2]
  exact ⟨rfl,rfl,a0.trans (k1.trans b2)⟩
 | ok x2 a2 =>
  rw [h2] at A2
  obtain ⟨rfl,r2,b2⟩:=A2
  have g2:=(id_ge L (a+1)) _ _ h2
  have y2:=r2.le
  have k2:=k1.trans b2
  have z2:=k2.size
  go_wp2_with fail
  go_at_call 39
  refine (want_any r2 sCb).mono ?_
  rintro e W3 A3
  cases h3 : wantR L sCb a2 with
  | bad p er =>
   rw [h3] at A3
   obtain ⟨rfl,b3⟩:=A3
   obtain rfl : Rs.bad p er=res:=by rw [← HR.out,classM];simp [Rs.bind,mtT,h2,h3]
   exact ⟨rfl,rfl,a0.trans (k2.trans b3)⟩
  | ok x3 a3 =>
   rw [h3] at A3
   obtain ⟨rfl,r3,b3⟩:=A3
   have g3:=(want_ge L sCb a2) _ _ h3
   have y3:=r3.le
   have k3:=k2.trans b3
   have z3:=k3.size
   have hmm:=@run_makeMap Tryz.prog
   obtain ⟨WM,hrun,nM,gM⟩:=(NM.nil W3).put (s:=nCtor) (by decide) (by simp)
   unfold nCtor at hrun
   have sM:=gM.size
   simp at sM
   obtain ⟨WB,hWB⟩ : ∃ W,WM.alloc (Obj.cells #[.slice none 0 0,.slice none 0 0,.slice none 0 0,.map (some W3.heap.size)] 86)=W:=⟨_,rfl⟩
   have bB : Below WM.heap.size WM WB:=by rw [← hWB];exact B0.alloc le0 _
   have mB : WB.heap[WM.heap.size]?=some (.cells #[.slice none 0 0,.slice none 0 0,.slice none 0 0,.map (some W3.heap.size)] 86 (0,0)):=by rw [← hWB];exact hnew _ rfl
   have sB : WM.heap.size < WB.heap.size:=(Array.getElem?_eq_some_iff.1 mB).1
   have zk:=k3.size
   have kB : KeptR P.R (w.alloc zN) WB:=⟨bB.os.trans (gM.os.trans k3.os),bB.tape.trans (gM.tape.trans k3.tape),bB.output.trans (gM.output.trans k3.output),by omega,fun j h1 h2=>(bB.block j (by omega)).trans ((gM.block j (by simp;omega) (fun e=>by injection e with e;omega)).trans ((Below.heap_alloc _ _ _ (by omega)).trans (k3.block j h1 h2)))⟩
   have rM : Rd WB P L a3 mE:=(((r3.bel (B0.alloc le0 (.map #[] 0))).keep gM.size (gM.block _ (by have:=r3.lt;simp;omega) (fun e=>by injection e with e;have:=r3.lt;omega)) (fun q=>gM.block _ (by have:=r3.x.lt q;simp;omega) (fun e=>by injection e with e;have:=r3.x.lt q;omega))).bel bB)
   have hM0 : MemM (WM.heap.size+1) WB WM.heap.size W3.heap.size (fun _=>.slice none 0 0) (fun _=>[]) ⟨[],[],[],[nCtor.data.toList]⟩:=⟨⟨mB,fun i hi=>World.ownsRow_nil _ _ _ _,fun i hi p hp=>(by cases hp),fun i j _ _ _ g hg=>(by cases hg),nM.keep (bB.block _ (by omega)),⟨by omega,by omega,by omega⟩,by omega⟩,rfl,rfl,rfl⟩
   have HR2 : Hid ((membersM L (L.length+1 - a3) ⟨[],[],[],[nCtor.data.toList]⟩ a3).bind (fun m a3=>Rs.ok (mk0 42 x2 (m.fs ++ m.cs ++ m.ms)) a3)=res):=by show _=_;rw [← HR.out,classM];simp [Rs.bind,h2,h3]
   clear HR
   have HR:=HR2
   clear HR2
   have hsm:=h.small
   have gRB : P.R < WM.heap.size:=by omega
   go_wp2
   go_loopg [22] (L.length+1 - a3) (fun gk u22 wr=>∃ (b : Nat) (m : Mem) (v : Nat→Value) (F : Nat→List (Nd × Value)),Hid ((membersM L gk m b).bind (fun m a3=>Rs.ok (mk0 42 x2 (m.fs ++ m.cs ++ m.ms)) a3)=res)∧Hid (L.length+1 ≤ gk+b)∧Rd wr P L b mE∧MemM (WM.heap.size+1) wr WM.heap.size W3.heap.size v F m∧KeptR P.R (w.alloc zN) wr∧Hid (m.fs.length+m.cs.length+m.ms.length ≤ b∧m.ns.length ≤ b))
   case atStart=>exact ⟨a3,⟨[],[],[],[nCtor.data.toList]⟩,_,_,HR.out,by show _ ≤ _;omega,rM,hM0,kB,by show _∧_;simp;omega⟩
   case round =>
    clear HR hM0 rM kB
    obtain ⟨b,m,v,F,HR,HG,r0,hm,k0,hb⟩:=hrel
    have hgk:=HG.out
    have hbl:=r0.le
    obtain ⟨hb2,hb3⟩:=hb.out
    obtain ⟨g,rfl⟩ : ∃ g,gk=g+1:=⟨gk - 1,by omega⟩
    have z0k:=k0.size
    have hlf : (F 0).length=m.fs.length:=by rw [← hm.fs];simp
    have hlc : (F 1).length=m.cs.length:=by rw [← hm.cs];simp
    have hlm : (F 2).length=m.ms.length:=by rw [← hm.ms];simp
    have HNL : Hid (∀ i,i < 3→(F i).length ≤ 4194304):=three (f:=fun i=>(F i).length) (by omega) (by omega) (by omega)
    have HSM : Hid ((F 0).length+(F 1).length+(F 2).length ≤ 4194304):=by show _ ≤ _;omega
    clear hlf hlc hlm
    have hBl:=hm.at_.le
    cases q4 : isS L b sCc with
    | true =>
     have T4:=take_any r0 sCc
     rw [q4] at T4
     have u4:=isS_lt q4
     go_wp2_with fail
     go_at_call 40
     refine T4.mono ?_
     rintro e W4 ⟨rfl,r4',b4⟩
     have r4 : Rd W4 P L (b+1) mE:=r4'
     clear r4'
     have k4:=k0.trans b4
     have z4:=k4.size
     have y4:=r4.le
     obtain ⟨ks,hks⟩ : ∃ ks,m.fs ++ m.cs ++ m.ms=ks:=⟨_,rfl⟩
     have HK : Hid (m.fs ++ m.cs ++ m.ms=ks):=hks
     have HRk : Hid (Rs.ok (mk0 42 x2 ks) (b+1)=res):=by show _=_;rw [← HR.out,membersM,if_pos q4,Rs.bind_ok,hks]
     clear hks
     have blk:=hm.at_.blk
     obtain ⟨ad0,c0,e0⟩:=own_form (hm.at_.own 0 (by omega))
     obtain ⟨ad1,c1,e1⟩:=own_form (hm.at_.own 1 (by omega))
     obtain ⟨ad2,c2,e2⟩:=own_form (hm.at_.own 2 (by omega))
     rw [e0,e1,e2] at blk
     have HE : Hid (v 0=Value.slice ad0 (F 0).length c0∧v 1=Value.slice ad1 (F 1).length c1∧v 2=Value.slice ad2 (F 2).length c2):=⟨e0,e1,e2⟩
     clear e0 e1 e2
     have HMB : Hid (∀ W,KeptR P.R wr W→W.heap[WM.heap.size]?=some (.cells #[.slice ad0 (F 0).length c0,.slice ad1 (F 1).length c1,.slice ad2 (F 2).length c2,.map (some W3.heap.size)] 86 (0,0))):=fun W k=>(k.block _ (by omega) (by omega)).trans blk
     clear blk
     go_wp2_with fail
     refine wp_region_any (by kernel_rfl) ?_
     change wpAny _ _ _ _ _ _ _ (World.drew _)
     have zd5 : W4.drew.heap.size=W4.heap.size:=rfl
     refine tk 0 (.string x2) ?_
     refine tk 1 (.pointer (some ⟨WM.heap.size,0,none⟩)) ?_
     refine tk 2 (.pointer (some ⟨WM.heap.size,0,none⟩)) ?_
     refine tk 3 (.pointer (some ⟨WM.heap.size,0,none⟩)) ?_
     refine tk 5 (.pointer (some ⟨WM.heap.size,0,none⟩)) ?_
     refine tk 6 (.pointer (some ⟨WM.heap.size,0,none⟩)) ?_
     refine tk 7 (.pointer (some ⟨WM.heap.size,1,none⟩)) ?_
     refine tk 9 (.pointer (some ⟨WM.heap.size,0,none⟩)) ?_
     refine tk 10 (.pointer (some ⟨WM.heap.size,0,none⟩)) ?_
     refine tk 11 (.pointer (some ⟨WM.heap.size,2,none⟩)) ?_
     refine any_of_U (S:=fun W=>W.heap[WM.heap.size]?=some (.cells #[.slice ad0 (F 0).length c0,.slice ad1 (F 1).length c1,.slice ad2 (F 2).length c2,.map (some W3.heap.size)] 86 (0,0))) (u:=13) _ _ _ _ ?_
     refine U_take (i:=4) (v:=(Value.slice ad0 (F 0).length c0)) rfl (by kernel_rfl) (by kernel_rfl) (by kernel_rfl) (by kernel_rfl) (fun _ _ _ h=>h) (Or.inl ⟨by rfl,fun w hw=>by have hcw:=cell_of_row w WM.heap.size 0 _ _ _ hw;simp at hcw;go_simp⟩) (HMB.out _ (((KeptR.refl P.R wr).trans b4).trans (.of (B0.drew)))) ?_
     refine U_take (i:=8) (v:=(Value.slice ad1 (F 1).length c1)) rfl (by kernel_rfl) (by kernel_rfl) (by kernel_rfl) (by kernel_rfl) (fun _ _ _ h=>h) (Or.inl ⟨by rfl,fun w hw=>by have hcw:=cell_of_row w WM.heap.size 1 _ _ _ hw;simp at hcw;go_simp⟩) (HMB.out _ (((KeptR.refl P.R wr).trans b4).trans (.of (B0.drew)))) ?_
     refine U_take (i:=12) (v:=(Value.slice ad2 (F 2).length c2)) rfl (by kernel_rfl) (by kernel_rfl) (by kernel_rfl) (by kernel_rfl) (fun _ _ _ h=>h) (Or.inl ⟨by rfl,fun w hw=>by have hcw:=cell_of_row w WM.heap.size 2 _ _ _ hw;simp at hcw;go_simp⟩) (HMB.out _ (((KeptR.refl P.R wr).trans b4).trans (.of (B0.drew)))) ?_
     refine U_end (by kernel_rfl) ?_
     refine wpAny_chain [_,_,_,_] [13,14,15,16] _ _ _ _ (by kernel_rfl) rfl (by decide) ?_
     simp only [List.getElem_toArray,List.getElem_cons_zero,List.getElem_cons_succ]
     have hMW:=hm.at_.keepR (((KeptR.refl P.R wr).trans b4).trans (.of (B0.drew))) (by omega) (by omega) (by omega)
     have hLs : ∀ i,i < 3→LAt (W4.drew.alloc (Obj.cells #[.slice ad0 (F 0).length c0,.slice ad1 (F 1).length c1,.slice ad2 (F 2).length c2] 22)) (fun b=>WM.heap.size+1 ≤ b) (v i) ((F i).map (·.1)):=fun i hi=>(lat_of_row (hMW.own i hi) (fun p hp=>(hMW.kids i hi p hp).mono (fun b hb=>hb.1)) (fun g hg=>(row_lt (hMW.own i hi) g hg).1)).bel (B0.alloc le0 _)
     have eC : catL (fun i=>(F i).map (·.1)) 3=m.fs ++ m.cs ++ m.ms:=by show (([] ++ (F 0).map (·.1)) ++ (F 1).map (·.1)) ++ (F 2).map (·.1)=_;rw [hm.fs,hm.cs,hm.ms,List.nil_append]
     have CC:=concat_any (w:=(W4.drew.alloc (Obj.cells #[.slice ad0 (F 0).length c0,.slice ad1 (F 1).length c1,.slice ad2 (F 2).length c2] 22))) (s:=v) (ks:=fun i=>(F i).map (·.1)) (by rw [HE.out.1,HE.out.2.1,HE.out.2.2];exact heap_alloc_new W4.drew _) hLs (by have:=HSM.out;show ((0+((F 0).map (·.1)).length)+((F 1).map (·.1)).length)+((F 2).map (·.1)).length ≤ _;simp only [List.length_map];omega)
     rw [eC,HK.out] at CC
     clear eC hLs
     go_wp2_with fail
     go_at_call 43
     refine CC.mono ?_
     rintro e W6 ⟨ad6,c6,rfl,l6',b6'⟩
     have b6 : KeptR P.R W4.drew W6:=(KeptR.of (B0.alloc le0 _)).trans (.of b6')
     have k6:=(k4.trans (.of (B0.drew))).trans b6
     have z6:=k6.size
     have r6:=((r4.bel (B0.drew)).bel (B0.alloc le0 _)).bel b6'
     have l6:=l6'.mono (T:=fun b=>w.heap.size+1 ≤ b) (fun b hb=>hb.elim (fun hb=>by have:=hb.1;omega) (fun hb=>by have:=(k4.trans (.of (B0.drew))).size;simp at hb;omega))
     go_wp2_with fail
     go_at_call 42
     refine (node_any 42 x2 ad6 ks.length c6 _).mono ?_
     rintro e W7 ⟨rfl,b7'⟩
     have r7:=r6.bel b7'
     have b7:=KeptR.of (b:=P.R) b7'
     have k7:=k6.trans b7
     have z7:=k7.size
     obtain rfl : Rs.ok (mk0 42 x2 ks) (b+1)=res:=HRk.out
     have m0:=M0.out _ k7
     obtain ⟨⟨_,_,_,_⟩,_,_,_,_⟩:=t4 m0
     go_wp2
     refine bodyPost_ret (res_n4 Tryz.results19 (t4_set _ _ _ _ m0) rfl) rfl ?_
     exact close_ok (x:=(mk0 42 x2 ks)) h (a0.trans k7) (l6.keepR ((KeptR.refl P.R W6).trans b7) (by omega)) (by omega) r7
    | false =>
     have T4:=take_any r0 sCc
     rw [q4] at T4
     go_wp2_with fail
     go_at_call 40
     refine T4.mono ?_
     rintro e W4 ⟨rfl,r4',b4⟩
     have r4 : Rd W4 P L b mE:=r4'
     clear r4'
     have k4:=k0.trans b4
     have z4:=k4.size
     have y4:=r4.le
     have hm1 : MemM (WM.heap.size+1) W4 WM.heap.size W3.heap.size v F m:=⟨hm.at_.keepR ((KeptR.refl P.R wr).trans b4) (by omega) (by omega) (by omega),hm.fs,hm.cs,hm.ms⟩
     have CM:=member_m hs r4 hm1 ⟨by omega,by omega,by omega⟩ (fun q=>by have:=h.x.lt q;exact ⟨by omega,by omega,by omega⟩) HNL.out (by omega)
     go_wp2_with fail
     go_at_call 41
     refine CM.mono ?_
     rintro e W8 A8
     cases hM : memberM L m b with
     | bad p er =>
      rw [hM] at A8
      obtain ⟨rfl,bM⟩:=A8
      obtain rfl : Rs.bad p er=res:=by rw [← HR.out,membersM];simp [Rs.bind,mtT,q4,hM]
      exact ⟨rfl,rfl,a0.trans ⟨bM.os.trans k4.os,bM.tape.trans k4.tape,bM.output.trans k4.output,Nat.le_trans k4.size bM.size,fun j h1 h2=>(bM.block j (by omega) h2 (by omega) (by omega)).trans (k4.block j h1 h2)⟩⟩
     | ok m2 a8 =>
      rw [hM] at A8
      obtain ⟨rfl,rN,⟨v2,F2,hm2⟩,bM⟩:=A8
      obtain ⟨g1,g2,g3⟩:=memberM_grow hM
      have kN : KeptR P.R (w.alloc zN) W8:=⟨bM.os.trans k4.os,bM.tape.trans k4.tape,bM.output.trans k4.output,Nat.le_trans k4.size bM.size,fun j h1 h2=>(bM.block j (by omega) h2 (by omega) (by omega)).trans (k4.block j h1 h2)⟩
      have yN:=rN.le
      go_wp2
      go_roundg g
      case rel=>exact ⟨a8,m2,v2,F2,by show _=_;rw [← HR.out,membersM];simp [Rs.bind,q4,hM],by show _ ≤ _;omega,rN,hm2,kN,by exact ⟨by omega,by omega⟩⟩
      case measure=>omega
end Go.Proofs.YthfkfbcopinmiaaGreatDoor
