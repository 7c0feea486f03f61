/- Own text. Package scope: what is looked at in one place. -/
import Derived.Test.YtfcocoadaajbjaaGreatDoorGd17
set_option linter.unusedVariables false
set_option linter.unusedSimpArgs false
set_option maxRecDepth 100000
set_option maxHeartbeats 8000000
namespace Go.Proofs.YtfcocoadaajbjaaGreatDoor
open Go.RowKit Go.MapKept
structure Wh where
 pk : Int
 pt : ByteArray
 pn : Int
 pa : Option Addr
 pl : Nat
 pc : Nat
 th : Bool
 rt : Bool
def Wh.v (q : Wh) (vf : Value) : Value:=.agg #[vf,.int .i64 q.pk,.string q.pt,.int .i64 q.pn,.slice q.pa q.pl q.pc,.bool q.th,.bool q.rt]
def Wh.o (q : Wh) (vf : Value) : Obj:=.cells #[vf,.int .i64 q.pk,.string q.pt,.int .i64 q.pn,.slice q.pa q.pl q.pc,.bool q.th,.bool q.rt] 82
abbrev nO (x : Nd) (v : Value) : Obj:=.cells #[.int .i64 x.k,.string x.t,.int .i64 x.n,v] 24
theorem box7 {w : World} {b : Nat} {p q r s u x y : Value} {t : TypeId} (h : w.heap[b]?=some (.cells #[p,q,r,s,u,x,y] t (0,0))) :
 (w.cell? ⟨b,0,none⟩=some p∧w.cell? ⟨b,1,none⟩=some q∧w.cell? ⟨b,2,none⟩=some r∧w.cell? ⟨b,3,none⟩=some s∧w.cell? ⟨b,4,none⟩=some u∧w.cell? ⟨b,5,none⟩=some x∧w.cell? ⟨b,6,none⟩=some y)∧(∀ i,w.frozen? ⟨b,i,none⟩=false):=by
 refine ⟨by simp [World.cell?,h],fun i=>by simp [World.frozen?,h]⟩
def fixB (F : List (List Dc)) (a : Nd) : Bool:=decide (a.k=6) && (match fndF F a.t with | some d=>!d.fr | none=>false)
theorem fixed_any {W : World} (a : Nd) (va : Value) (hv : ∃ x n c,va = .slice x n c) (q : Wh) {S : Nat→Prop} {vf : Value} {F : List (List Dc)} (hF : SAt W S vf F) :
 Calls Tryz.prog 62 #[a.v va,q.v vf] W fun e W'=>e = .returned (.bool (fixB F a))∧Below W.heap.size W W':=by
 obtain ⟨ax,an,ac,rfl⟩:=hv
 obtain ⟨pf,rfl⟩:=hF.ptr
 obtain ⟨W0,hW0⟩ : ∃ X,(W.alloc (nO a (.slice ax an ac))).alloc (q.o (.pointer pf))=X:=⟨_,rfl⟩
 have b0 : Below W.heap.size W W0:=by rw [← hW0];exact bel2 _ _ _
 have m0 : W0.heap[W.heap.size]?=some (nO a (.slice ax an ac)):=by rw [← hW0];exact hold _ (by simp) (hnew _ rfl)
 have m1 : W0.heap[W.heap.size+1]?=some (q.o (.pointer pf)):=by rw [← hW0];exact hnew _ (by simp)
 obtain ⟨⟨a0,a1,a2,a3⟩,_⟩:=box4 m0
 obtain ⟨⟨c0,c1,c2,c3,c4,c5,c6⟩,_⟩:=box7 m1
 have CF:=find_any (hF.bel b0) a.t
 rw [no_zdc] at CF
 unfold nO Wh.o at hW0
 unfold Nd.v Wh.v
 obtain ⟨res,hres⟩ : ∃ r,fixB F a=r:=⟨_,rfl⟩
 rw [hres]
 have HR : Hid ((decide (a.k=6) && (match fndF F a.t with | some d=>!d.fr | none=>false))=res):=hres
 clear hres
 cases hk : (a.k == 6) with
 | false =>
  have e1 : decide (a.k=6)=false:=by simpa using hk
  have e2 : (a.k != 6)=true:=by simpa [bne] using hk
  obtain rfl : false=res:=by rw [← HR.out,e1,Bool.false_and]
  clear CF HR
  go_enter Tryz.func62,Tryz.ntmps62
  go_wp2
  go_ret
  exact ⟨rfl,b0⟩
 | true =>
  have e1 : decide (a.k=6)=true:=by simpa using hk
  have e2 : (a.k != 6)=false:=by simpa [bne] using hk
  go_enter Tryz.func62,Tryz.ntmps62
  go_wp2_with fail
  go_at_call 100
  refine CF.mono ?_
  rintro e W1 ⟨rfl,b1⟩
  have bw : Below W.heap.size W W1:=b0.trans (b1.mono b0.size)
  clear CF hW0 a0 a1 a2 a3 c0 c1 c2 c3 c4 c5 c6
  cases hf : fndF F a.t with
  | none =>
   obtain rfl : false=res:=by rw [← HR.out,e1,Bool.true_and,hf]
   clear HR
   simp only [Option.getD,Option.isSome]
   go_wp2
   go_ret
   exact ⟨rfl,bw.trans ((bel_a _ _).mono bw.size)⟩
  | some d =>
   obtain rfl : (!d.fr)=res:=by rw [← HR.out,e1,Bool.true_and,hf]
   clear HR
   simp only [Option.getD,Option.isSome]
   obtain ⟨W2,hW2⟩ : ∃ X,W1.alloc (Obj.cells #[.int .i64 d.kd,.int .i64 d.at_,.int .i64 d.us,.bool d.fr] 72)=X:=⟨_,rfl⟩
   have m2 : W2.heap[W1.heap.size]?=some (.cells #[.int .i64 d.kd,.int .i64 d.at_,.int .i64 d.us,.bool d.fr] 72 (0,0)):=by rw [← hW2];exact hnew _ rfl
   have b2 : Below W.heap.size W W2:=by rw [← hW2];exact bw.trans ((bel_a _ _).mono bw.size)
   obtain ⟨⟨d0,d1,d2,d3⟩,_⟩:=box4 m2
   go_wp2
   go_ret
   exact ⟨rfl,b2⟩
def askV (x : Nd) (q : Wh) (vf va : Value) : ByteArray × Value :=
 if x.k=6 then (if q.pk ≠ 61∧q.pk ≠ 65 then (x.t,vf) else (⟨#[]⟩,.pointer none))
 else if x.k=20 then (x.t,vf)
 else if x.k=65 then (if q.pt.toList=[] then (x.t,va) else (⟨#[]⟩,.pointer none))
 else if x.k=30 then (if plnB x.t=false then (x.t,va) else (⟨#[]⟩,.pointer none))
 else (⟨#[]⟩,.pointer none)
theorem asked_any {c : Rc} {W : World} {p0 : Int} {E : List ByteArray} {vu : Value} {U : List Us} (h : Rv c W p0 E vu U) (x : Nd) (v : Value) (hv : ∃ a n c,v = .slice a n c) (q : Wh) (vf : Value) (hf : ∃ a,vf = .pointer a) (hva : ∃ a,c.va = .pointer a) :
 Calls Tryz.prog 60 #[.pointer (some ⟨c.rb,0,none⟩),x.v v,q.v vf] W fun e W'=>e = .returned (.tuple #[.string (askV x q vf c.va).1,(askV x q vf c.va).2])∧Below W.heap.size W W':=by
 obtain ⟨av,nv,cv,rfl⟩:=hv
 obtain ⟨pf,rfl⟩:=hf
 obtain ⟨pa,hpa⟩:=hva
 obtain ⟨W0,hW0⟩ : ∃ X,(W.alloc (nO x (.slice av nv cv))).alloc (q.o (.pointer pf))=X:=⟨_,rfl⟩
 have b0 : Below W.heap.size W W0:=by rw [← hW0];exact bel2 _ _ _
 have m0 : W0.heap[W.heap.size]?=some (nO x (.slice av nv cv)):=by rw [← hW0];exact hold _ (by simp) (hnew _ rfl)
 have m1 : W0.heap[W.heap.size+1]?=some (q.o (.pointer pf)):=by rw [← hW0];exact hnew _ (by simp)
 obtain ⟨⟨a0,a1,a2,a3⟩,_⟩:=box4 m0
 obtain ⟨⟨c0,c1,c2,c3,c4,c5,c6⟩,_⟩:=box7 m1
 have hr:=(h.bel b0).r
 rw [hpa] at hr ⊢
 obtain ⟨⟨r0,r1,r2,r3,r4,r5⟩,_⟩:=box6 hr
 have CB:=basic_any x.t W0
 unfold nO Wh.o at hW0
 unfold Nd.v Wh.v
 have HA : Hid (askV x q (.pointer pf) (.pointer pa)=if x.k=6 then (if q.pk ≠ 61∧q.pk ≠ 65 then (x.t,.pointer pf) else (⟨#[]⟩,.pointer none)) else if x.k=20 then (x.t,.pointer pf) else if x.k=65 then (if q.pt.toList=[] then (x.t,.pointer pa) else (⟨#[]⟩,.pointer none)) else if x.k=30 then (if plnB x.t=false then (x.t,.pointer pa) else (⟨#[]⟩,.pointer none)) else (⟨#[]⟩,.pointer none)):=rfl
 obtain ⟨res,hres⟩ : ∃ r,askV x q (.pointer pf) (.pointer pa)=r:=⟨_,rfl⟩
 rw [hres]
 rw [hres] at HA
 clear hres h hr hpa m0 m1
 by_cases k6 : x.k=6
 ·have e6 : (x.k == 6)=true:=by simpa using k6
  by_cases kp : q.pk ≠ 61∧q.pk ≠ 65
  ·obtain rfl : res=(x.t,.pointer pf):=by rw [HA.out,if_pos k6,if_pos kp]
   have f1 : (q.pk != 61)=true:=by simpa [bne] using kp.1
   have f2 : (q.pk != 65)=true:=by simpa [bne] using kp.2
   clear HA k6 kp CB
   go_enter Tryz.func60,Tryz.ntmps60
   go_wp2
   go_region
   all_goals
    go_wp2
    go_ret2
    exact ⟨rfl,by first | exact b0 | exact b0.drew⟩
  ·obtain rfl : res=(⟨#[]⟩,.pointer none):=by rw [HA.out,if_pos k6,if_neg kp]
   have f1 : (q.pk != 61)=true∧(q.pk != 65)=false ∨ (q.pk != 61)=false:=by
    by_cases z : q.pk=61
    ·exact .inr (by simpa [bne] using z)
    ·exact .inl ⟨by simpa [bne] using z,by simpa [bne] using Classical.byContradiction fun w=>kp ⟨z,w⟩⟩
   clear HA k6 kp CB
   rcases f1 with ⟨f1,f2⟩ | f1
   all_goals
    go_enter Tryz.func60,Tryz.ntmps60
    go_wp2
    go_ret2
    exact ⟨rfl,b0⟩
 have e6 : (x.k == 6)=false:=by simpa using k6
 by_cases k20 : x.k=20
 ·have e20 : (x.k == 20)=true:=by simpa using k20
  obtain rfl : res=(x.t,.pointer pf):=by rw [HA.out,if_neg k6,if_pos k20]
  clear HA k6 k20 CB
  go_enter Tryz.func60,Tryz.ntmps60
  go_wp2
  go_region
  all_goals
   go_wp2
   go_ret2
   exact ⟨rfl,by first | exact b0 | exact b0.drew⟩
 have e20 : (x.k == 20)=false:=by simpa using k20
 by_cases k65 : x.k=65
 ·have e65 : (x.k == 65)=true:=by simpa using k65
  cases hp : (q.pt.toList == []) with
  | true =>
   obtain rfl : res=(x.t,.pointer pa):=by rw [HA.out,if_neg k6,if_neg k20,if_pos k65,if_pos (by simpa using hp)]
   clear HA k6 k20 k65 CB
   go_enter Tryz.func60,Tryz.ntmps60
   go_wp2
   go_region
   all_goals
    go_wp2
    go_ret2
    exact ⟨rfl,by first | exact b0 | exact b0.drew⟩
  | false =>
   obtain rfl : res=(⟨#[]⟩,.pointer none):=by rw [HA.out,if_neg k6,if_neg k20,if_pos k65,if_neg (by simpa using hp)]
   clear HA k6 k20 k65 CB
   go_enter Tryz.func60,Tryz.ntmps60
   go_wp2
   go_ret2
   exact ⟨rfl,b0⟩
 have e65 : (x.k == 65)=false:=by simpa using k65
 by_cases k30 : x.k=30
 ·have e30 : (x.k == 30)=true:=by simpa using k30
  cases hp : plnB x.t with
  | false =>
   obtain rfl : res=(x.t,.pointer pa):=by rw [HA.out,if_neg k6,if_neg k20,if_neg k65,if_pos k30,if_pos hp]
   rw [hp] at CB
   clear HA k6 k20 k65 k30
   go_enter Tryz.func60,Tryz.ntmps60
   go_wp2_with (go_at_call 99;refine CB.mono ?_;rintro e W1 ⟨rfl,hW1⟩;obtain rfl:=hW1.symm)
   go_region
   all_goals
    go_wp2
    go_ret2
    exact ⟨rfl,by first | exact b0 | exact b0.drew⟩
  | true =>
   obtain rfl : res=(⟨#[]⟩,.pointer none):=by rw [HA.out,if_neg k6,if_neg k20,if_neg k65,if_pos k30,if_neg (by rw [hp];decide)]
   rw [hp] at CB
   clear HA k6 k20 k65 k30
   go_enter Tryz.func60,Tryz.ntmps60
   go_wp2_with (go_at_call 99;refine CB.mono ?_;rintro e W1 ⟨rfl,hW1⟩;obtain rfl:=hW1.symm)
   go_ret2
   exact ⟨rfl,b0⟩
 ·have e30 : (x.k == 30)=false:=by simpa using k30
  obtain rfl : res=(⟨#[]⟩,.pointer none):=by rw [HA.out,if_neg k6,if_neg k20,if_neg k65,if_neg k30]
  clear HA k6 k20 k65 k30 CB
  go_enter Tryz.func60,Tryz.ntmps60
  go_wp2
  go_ret2
  exact ⟨rfl,b0⟩
theorem ex_upd (E : List ByteArray) (a : ByteArray) : exF (E ++ [a])=upd (exF E) a ():=by
 funext x
 unfold exF upd
 rw [List.any_append,List.any_cons,List.any_nil,Bool.or_false]
 by_cases e : x=a
 ·subst e
  rw [if_pos rfl,if_pos (by rw [eqT_eq];simp)]
 ·rw [if_neg e]
  have : eqT a x=false:=by rw [eqT_eq];exact decide_eq_false (fun q=>e q.symm)
  rw [this,Bool.or_false]
theorem Rv.give {c : Rc} {W W1 : World} {p : Int} {E : List ByteArray} {vu : Value} {U : List Us} (h : Rv c W p E vu U) (a : ByteArray) (he : ∃ n,Em W1 c.eb n (E ++ [a])) (g : W.grownBy W1 (some c.eb)) : Rv c W1 p (E ++ [a]) vu U∧Kpt (Own c vu) W W1:=by
 obtain ⟨n,hm⟩:=h.e
 obtain ⟨es,clock,heb,_⟩:=hm
 have far : ∀ {k : Nat} {cs : Array Value} {t : TypeId} {fr : Nat × Nat},W.heap[k]?=some (Obj.cells cs t fr)→W1.heap[k]?=W.heap[k]?:=fun {k cs t fr} hk=>g.block k (gl hk) (fun e=>by
  injection e with e;rw [e,heb] at hk;injection hk with hk;cases hk)
 obtain ⟨base,hz⟩:=h.z
 obtain ⟨cz,hzc⟩:=own_cells hz (g:=c.sb) rfl
 refine ⟨⟨(far h.r).trans h.r,(far h.a).trans h.a,he,rw_keep h.u fun k hk=>?_,h.z.keep (far hzc),h.d,Nat.le_trans h.b g.size⟩,Kpt.grown g (fun k e=>by injection e with e;exact .inr (.inl e.symm))⟩
 obtain ⟨cur,hb⟩:=own_cells h.u hk
 exact far hb
theorem zeroE (w : World) : (zeroValue 124).run Tryz.prog w = .ok (.agg #[]) w:=Tryz.zeroValue124 w
theorem fldD (a b d e : Value) (W : World) : (Instr.field 72 (.agg #[a,b,d,e]) 1).run Tryz.prog W = .ok b W:=by
 first
  | kernel_rfl
  | rfl
def twB (F : List (List Dc)) (E : List ByteArray) (x : Nd) (p : Int) : Bool × List ByteArray :=
 if (dclN x).toList ≠ []∧((fnd1 (F.headD []) (dclN x)).map (·.at_)).getD 0 ≠ p then (true,E)
 else if (expN x).toList=[] then (false,E) else (E.any (eqT · (expN x)),E ++ [expN x])
theorem twice_any {c : Rc} {W : World} {p0 : Int} {E : List ByteArray} {vu : Value} {U : List Us} (h : Rv c W p0 E vu U) (x : Nd) (v : Value) {S : Nat→Prop} (hx : LAt W S v x.ks) (hp : Pre x) (p : Int) (q : Wh) {vf : Value} {f : List Dc} {F : List (List Dc)} (hF : SAt W (fun k=>k ≠ c.eb) vf (f :: F)) :
 Calls Tryz.prog 59 #[.pointer (some ⟨c.rb,0,none⟩),x.v v,.int .i64 p,q.v vf] W fun e W'=>e = .returned (.bool (twB (f :: F) E x p).1)∧Rv c W' p0 (twB (f :: F) E x p).2 vu U∧Kpt (Own c vu) W W':=by
 obtain ⟨av,cv,rfl⟩:=hx.sl
 obtain ⟨pf,rfl⟩:=hF.ptr
 obtain ⟨W0,hW0⟩ : ∃ X,(W.alloc (nO x (.slice av x.ks.length cv))).alloc (q.o (.pointer pf))=X:=⟨_,rfl⟩
 have b0 : Below W.heap.size W W0:=by rw [← hW0];exact bel2 _ _ _
 have m0 : W0.heap[W.heap.size]?=some (nO x (.slice av x.ks.length cv)):=by rw [← hW0];exact hold _ (by simp) (hnew _ rfl)
 have m1 : W0.heap[W.heap.size+1]?=some (q.o (.pointer pf)):=by rw [← hW0];exact hnew _ (by simp)
 have HS0 : Hid (W0.heap.size=W.heap.size+2):=by show _=_;rw [← hW0];simp
 obtain ⟨⟨a0,a1,a2,a3⟩,_⟩:=box4 m0
 have CD:=declares_any x _ W0 S (hx.bel b0) hp
 unfold nO Wh.o at hW0
 unfold Nd.v Wh.v
 unfold Nd.v at CD
 obtain ⟨res,hres⟩ : ∃ r,twB (f :: F) E x p=r:=⟨_,rfl⟩
 rw [hres]
 have HR : Hid ((if (dclN x).toList ≠ []∧((fnd1 f (dclN x)).map (·.at_)).getD 0 ≠ p then (true,E) else if (expN x).toList=[] then (false,E) else (E.any (eqT · (expN x)),E ++ [expN x]))=res):=hres
 clear hres
 go_enter Tryz.func59,Tryz.ntmps59
 go_wp2_with fail
 go_at_call 64
 refine CD.mono ?_
 rintro e W1 ⟨rfl,b1⟩
 have bw1 : Below W.heap.size W W1:=b0.trans (b1.mono b0.size)
 have n0:=(b1.block W.heap.size (by have:=HS0.out;omega)).trans m0
 have n1:=(b1.block (W.heap.size+1) (by have:=HS0.out;omega)).trans m1
 clear CD hW0 m0 m1 a0 a1 a2 a3
 obtain ⟨⟨a0,a1,a2,a3⟩,_⟩:=box4 n0
 obtain ⟨⟨c0,c1,c2,c3,c4,c5,c6⟩,_⟩:=box7 n1
 have hF1:=hF.bel bw1
 cases hF1 with
 | cons b m n v2 f F hS hM hb hm hs =>
  have cb : W1.cell? ⟨b,0,none⟩=some (.map (some m)):=by rw [cell_of_row W1 _ 0 _ _ _ hb];rfl
  have LK:=MF.look hm keyTX Tryz.underlying74 (zeroDc W1) (dclN x) trivial false
  have CE:=exports_any x (.slice av x.ks.length cv) W1 S (hx.bel bw1) hp
  unfold Nd.v at CE
  obtain ⟨d,hd,hda⟩ : ∃ d : Dc,(Instr.lookup 74 (.map (some m)) (.string (dclN x)) false).run Tryz.prog W1 = .ok (.agg #[.int .i64 d.kd,.int .i64 d.at_,.int .i64 d.us,.bool d.fr]) W1∧d.at_=((fnd1 f (dclN x)).map (·.at_)).getD 0:=by
   cases hf : fnd1 f (dclN x) with
   | none=>rw [hf] at LK;exact ⟨zDc,LK,rfl⟩
   | some y=>rw [hf] at LK;exact ⟨y,LK,rfl⟩
  rw [← hda] at HR
  have FD : (Instr.field 72 (.agg #[.int .i64 d.kd,.int .i64 d.at_,.int .i64 d.us,.bool d.fr]) 1).run Tryz.prog W1 = .ok (.int .i64 d.at_) W1:=fldD _ _ _ _ W1
  clear LK hda hm hb hs hF
  by_cases z1 : (dclN x).toList ≠ []∧d.at_ ≠ p
  ·obtain rfl : (true,E)=res:=by rw [← HR.out,if_pos z1]
   have e1 : (dclN x).toList.isEmpty=false:=by simpa using z1.1
   have e2 : (d.at_ != p)=true:=by simpa [bne] using z1.2
   clear z1 HR CE
   go_wp2
   go_ret
   exact ⟨rfl,h.bel bw1,Kpt.of bw1⟩
  ·have hr : (if (expN x).toList=[] then (false,E) else (E.any (eqT · (expN x)),E ++ [expN x]))=res:=by rw [← HR.out,if_neg z1]
   have HR2 : Hid ((if (expN x).toList=[] then (false,E) else (E.any (eqT · (expN x)),E ++ [expN x]))=res):=hr
   have cls : (dclN x).toList.isEmpty=true ∨ (dclN x).toList.isEmpty=false∧(d.at_ != p)=false:=by
    by_cases z : (dclN x).toList=[]
    ·exact .inl (by simpa using z)
    ·exact .inr ⟨by simpa using z,by simpa [bne] using Classical.byContradiction fun w=>z1 ⟨z,w⟩⟩
   clear z1 HR hr
   have HN : Hid (∀ X,Below W1.heap.size W1 X→Below W.heap.size W X∧X.cell? ⟨c.rb,3,none⟩=some (.map (some c.eb))):=fun X bX=>by
    have bb : Below W.heap.size W X:=bw1.trans (bX.mono bw1.size)
    exact ⟨bb,(box6 (h.bel bb).r).1.2.2.2.1⟩
   rcases cls with e1 | ⟨e1,e2⟩
   all_goals
    go_wp2_with fail
    go_at_call 98
    refine CE.mono ?_
    rintro e W2 ⟨rfl,b2⟩
    obtain ⟨bw2,r3⟩:=HN.out W2 b2
    clear CE
    cases z2 : (expN x).toList.isEmpty with
    | true =>
     obtain rfl : (false,E)=res:=by rw [← HR2.out,if_pos (by simpa using z2)]
     clear HR2
     go_wp2
     go_ret
     exact ⟨rfl,h.bel bw2,Kpt.of bw2⟩
    | false =>
     obtain rfl : (E.any (eqT · (expN x)),E ++ [expN x])=res:=by rw [← HR2.out,if_neg (by simpa using z2)]
     have h2:=h.bel bw2
     obtain ⟨ne,hme⟩:=h2.e
     have LE:=MF.look hme keyTX Tryz.underlying56 (zeroE W2) (expN x) trivial true
     have LE' : (Instr.lookup 56 (.map (some c.eb)) (.string (expN x)) true).run Tryz.prog W2 = .ok (.tuple #[.agg #[],.bool (E.any (eqT · (expN x)))]) W2:=by
      rw [LE]
      unfold exF
      cases E.any (eqT · (expN x)) <;> rfl
     have b3 : Below W2.heap.size W2 (W2.alloc (Obj.cells #[] 124)):=bel_a _ _
     have h3:=h2.bel b3
     obtain ⟨ne3,hme3⟩:=h3.e
     obtain ⟨W4,hrun,hmf,hgr⟩:=MF.update hme3 keyTX Tryz.underlying56 (expN x) trivial ()
     have G4:=h3.give (expN x) ⟨ne3+1,by unfold Em;rw [ex_upd];exact hmf⟩ hgr
     have HG4 : Hid _:=G4
     have r33:=(box6 h3.r).1.2.2.2.1
     clear HR2 LE hme hme3 hmf hgr G4 h2 h3
     go_wp2
     go_ret
     exact ⟨rfl,HG4.out.1,(Kpt.of (bw2.trans (b3.mono bw2.size))).trans HG4.out.2 (fun _ _ q=>q)⟩
end Go.Proofs.YtfcocoadaajbjaaGreatDoor
