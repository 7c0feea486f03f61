/- Own text. Package scope: the first error at a place,and the use that stands there. Package scope: what stands around the kids of a tree. -/
import Derived.Test.YtfcocoadaajbjaaGreatDoorGd18
set_option linter.unusedVariables false
set_option linter.unusedSimpArgs false
set_option maxRecDepth 100000
set_option maxHeartbeats 8000000
namespace Go.Proofs.YtfcocoadaajbjaaGreatDoor
open Go.RowKit Go.MapKept
def restL (A : List Dc) (F : List (List Dc)) (pk : Int) (pt : ByteArray) (th rt : Bool) (x : Nd) (p : Int) (S1 : Ps) : Except (Int × Int) Ps :=
 if x.k=6∧pk ≠ 61∧pk ≠ 65 then pUse x.k p x.t F S1
 else if x.k=20 then pUse x.k p x.t F S1
 else if x.k=65∧pt.toList=[] then pUse x.k p x.t [A] S1
 else if x.k=30∧plnB x.t=false then pUse x.k p x.t [A] S1
 else if x.k=18∧fix1 F x.ks=true then .error (p,92)
 else if x.k=7∧th=false then .error (p,93)
 else if x.k=50∧rt=false then .error (p,93)
 else .ok S1
theorem look_tw (A : List Dc) (F : List (List Dc)) (pk : Int) (pt : ByteArray) (th rt : Bool) (x : Nd) (p : Int) (E : List ByteArray) (U : List Us) :
 pLook A F pk pt th rt x p (E,U)=if (twB F E x p).1=true then .error (p,90) else restL A F pk pt th rt x p ((twB F E x p).2,U):=by
 unfold pLook twB
 by_cases z1 : (dclN x).toList ≠ []∧((fnd1 (F.headD []) (dclN x)).map (·.at_)).getD 0 ≠ p
 ·rw [if_pos z1,if_pos z1,if_pos rfl]
 ·rw [if_neg z1,if_neg z1]
  by_cases z2 : (expN x).toList=[]
  ·rw [if_neg (fun w=>w.1 z2),if_pos z2]
   have hS : (if (expN x).toList ≠ [] then ((E ++ [expN x],U) : Ps) else (E,U))=(E,U):=if_neg (fun w=>w z2)
   dsimp only
   rw [hS]
   rfl
  ·rw [if_neg z2]
   by_cases z3 : E.any (eqT · (expN x))=true
   ·rw [if_pos ⟨z2,z3⟩,if_pos z3]
   ·rw [if_neg (fun w=>z3 w.2),if_neg z3]
    have hS : (if (expN x).toList ≠ [] then ((E ++ [expN x],U) : Ps) else (E,U))=(E ++ [expN x],U):=if_pos z2
    dsimp only
    rw [hS]
    rfl
def LookA (c : Rc) (W : World) (p0 : Int) (vu : Value) (res : Except (Int × Int) Ps) (e : Ending) (W' : World) : Prop :=
 ∃ er E' vu' U',e = .returned (.int .i64 er)∧Ans res er E' U'∧Rv c W' p0 E' vu' U'∧Kpt (Own c vu) W W'∧∀ k,vu'.ownBlock=some k→vu.ownBlock=some k ∨ W.heap.size ≤ k
theorem look_any {c : Rc} {W : World} {p0 : Int} {E : List ByteArray} {vu : Value} {U : List Us} (h : Rv c W p0 E vu U) (x : Nd) (v : Value) {S : Nat→Prop} (hx : LAt W S v x.ks) (hS : ∀ b,S b→b < c.B∧b ≠ c.rb∧b ≠ c.eb∧b ≠ c.ax) (hp : Pre x) (p : Int) (q : Wh) {vf : Value} {f A : List Dc} {F : List (List Dc)} (hF : SAt W (fun k=>k ≠ c.eb) vf (f :: F)) (hA : SAt W (fun k=>k ≠ c.eb) c.va [A]) (hn : x.t.size ≤ 4194304) (hU : U.length ≤ 4194304) :
 Calls Tryz.prog 36 #[.pointer (some ⟨c.rb,0,none⟩),x.v v,.int .i64 p,q.v vf] W (LookA c W p0 vu (pLook A (f :: F) q.pk q.pt q.th q.rt x p (E,U))):=by
 obtain ⟨res,hres⟩ : ∃ r,pLook A (f :: F) q.pk q.pt q.th q.rt x p (E,U)=r:=⟨_,rfl⟩
 rw [hres]
 have HR0 : Hid (pLook A (f :: F) q.pk q.pt q.th q.rt x p (E,U)=res):=hres
 clear hres
 obtain ⟨av,cv,rfl⟩:=hx.sl
 have CT:=fun X (b : Below W.heap.size W X)=>twice_any (h.bel b) x _ (hx.bel b) hp p q (hF.bel b)
 obtain ⟨pf,rfl⟩:=hF.ptr
 obtain ⟨pa,hpa⟩:=hA.ptr
 obtain ⟨W0,hW0⟩ : ∃ X,(W.alloc (nO x (.slice av x.ks.length cv))).alloc (q.o (.pointer pf))=X:=⟨_,rfl⟩
 have b0 : Below W.heap.size W W0:=by rw [← hW0];exact bel2 _ _ _
 have m0 : W0.heap[W.heap.size]?=some (nO x (.slice av x.ks.length cv)):=by rw [← hW0];exact hold _ (by simp) (hnew _ rfl)
 have m1 : W0.heap[W.heap.size+1]?=some (q.o (.pointer pf)):=by rw [← hW0];exact hnew _ (by simp)
 have h0:=h.bel b0
 obtain ⟨⟨a0,a1,a2,a3⟩,_⟩:=box4 m0
 obtain ⟨⟨c0,c1,c2,c3,c4,c5,c6⟩,_⟩:=box7 m1
 have CT0:=CT W0 b0
 clear CT
 have hnil : ∃ b,pf=some ⟨b,0,none⟩:=by cases hF with | cons b m n v f F hS hM hb hm h=>exact ⟨b,rfl⟩
 obtain ⟨bf,rfl⟩:=hnil
 have hanil : ∃ b,c.va = .pointer (some ⟨b,0,none⟩):=by
  generalize c.va=va at hA
  cases hA with | cons b m n v f F hS hM hb hm h=>exact ⟨b,rfl⟩
 obtain ⟨ba,hba⟩:=hanil
 unfold nO Wh.o at hW0
 unfold Nd.v Wh.v at CT0 ⊢
 go_enter Tryz.func36,Tryz.ntmps36
 go_wp2_with fail
 go_at_call 59
 refine CT0.mono ?_
 rintro e W1 ⟨rfl,h1,k1⟩
 clear CT0 hW0 a0 a1 a2 a3 c0 c1 c2 c3 c4 c5 c6
 have kw1 : Kpt (Own c vu) W W1:=(Kpt.of b0).trans k1 (fun _ _ q=>q)
 have n0:=h0.kept k1 m0 (by decide)
 have n1:=h0.kept k1 m1 (by decide)
 have hF1:=h0.sat k1 (hF.bel b0)
 have hA1:=h0.sat k1 (hA.bel b0)
 cases htw : (twB (f :: F) E x p).1 with
 | true =>
  obtain rfl : Except.error (p,90)=res:=by rw [← HR0.out,look_tw,htw,if_pos rfl]
  go_wp2
  go_ret
  exact ⟨90,_,_,_,rfl,⟨rfl,(by decide : (90 : Int) ≠ 0)⟩,h1,kw1,fun k hk=>.inl hk⟩
 | false =>
  have HR : Hid (restL A (f :: F) q.pk q.pt q.th q.rt x p ((twB (f :: F) E x p).2,U)=res):=by show _=_;rw [← HR0.out,look_tw,htw,if_neg (by decide)]
  clear HR0
  generalize (twB (f :: F) E x p).2=E1 at *
  obtain ⟨⟨a0,a1,a2,a3⟩,_⟩:=box4 n0
  obtain ⟨⟨c0,c1,c2,c3,c4,c5,c6⟩,_⟩:=box7 n1
  have CA:=asked_any h1 x (.slice av x.ks.length cv) ⟨_,_,_,rfl⟩ q (.pointer (some ⟨bf,0,none⟩)) ⟨_,rfl⟩ ⟨_,hba⟩
  have HU : Hid (∀ X,Below W1.heap.size W1 X→∀ vz G,(vz = .pointer (some ⟨bf,0,none⟩)∧G=f :: F ∨ vz=c.va∧G=[A])→Calls Tryz.prog 61 #[.pointer (some ⟨c.rb,0,none⟩),x.v (.slice av x.ks.length cv),.int .i64 p,.string x.t,vz] X (LookA c W p0 vu (pUse x.k p x.t G (E1,U)))):=fun X bX vz G hG=>by
   have hs : SAt X (fun k=>k ≠ c.eb) vz G:=by
    rcases hG with ⟨rfl,rfl⟩ | ⟨rfl,rfl⟩
    ·exact hF1.bel bX
    ·exact hA1.bel bX
   refine (use_any (h1.bel bX) x _ ⟨_,_,_,rfl⟩ p x.t hs hn hU).mono ?_
   rintro e X2 ⟨er,vu',U',rfl,ha,hr,hk,ho⟩
   refine ⟨er,E1,vu',U',rfl,ha,hr,(kw1.trans (Kpt.of (M:=Own c vu) bX) (fun _ _ q=>q)).trans hk (fun _ _ q=>q),fun k hk=>?_⟩
   rcases ho k hk with z | z
   ·exact .inl z
   ·exact .inr (Nat.le_trans kw1.size (Nat.le_trans bX.size z))
  unfold Nd.v Wh.v at CA
  unfold Nd.v at HU
  have cls : (askV x q (.pointer (some ⟨bf,0,none⟩)) c.va=(x.t,.pointer (some ⟨bf,0,none⟩))∧pUse x.k p x.t (f :: F) (E1,U)=res) ∨ (askV x q (.pointer (some ⟨bf,0,none⟩)) c.va=(x.t,c.va)∧pUse x.k p x.t [A] (E1,U)=res) ∨ (askV x q (.pointer (some ⟨bf,0,none⟩)) c.va=(⟨#[]⟩,.pointer none)∧(if x.k=18∧fix1 (f :: F) x.ks=true then .error (p,92) else if x.k=7∧q.th=false then .error (p,93) else if x.k=50∧q.rt=false then .error (p,93) else .ok (E1,U))=res):=by
   have hr:=HR.out
   unfold restL at hr
   unfold askV
   by_cases z6 : x.k=6
   ·rw [if_pos z6]
    by_cases zp : q.pk ≠ 61∧q.pk ≠ 65
    ·rw [if_pos ⟨z6,zp⟩] at hr
     rw [if_pos zp]
     exact .inl ⟨rfl,hr⟩
    ·rw [if_neg (fun w=>zp w.2),if_neg (by omega),if_neg (by omega),if_neg (by omega)] at hr
     rw [if_neg zp]
     exact .inr (.inr ⟨rfl,hr⟩)
   rw [if_neg z6]
   rw [if_neg (fun w=>z6 w.1)] at hr
   by_cases z20 : x.k=20
   ·rw [if_pos z20] at hr ⊢
    exact .inl ⟨rfl,hr⟩
   rw [if_neg z20] at hr ⊢
   by_cases z65 : x.k=65
   ·rw [if_pos z65]
    by_cases zp : q.pt.toList=[]
    ·rw [if_pos ⟨z65,zp⟩] at hr
     rw [if_pos zp]
     exact .inr (.inl ⟨rfl,hr⟩)
    ·rw [if_neg (fun w=>zp w.2),if_neg (by omega)] at hr
     rw [if_neg zp]
     exact .inr (.inr ⟨rfl,hr⟩)
   rw [if_neg z65]
   rw [if_neg (fun w=>z65 w.1)] at hr
   by_cases z30 : x.k=30
   ·rw [if_pos z30]
    by_cases zp : plnB x.t=false
    ·rw [if_pos ⟨z30,zp⟩] at hr
     rw [if_pos zp]
     exact .inr (.inl ⟨rfl,hr⟩)
    ·rw [if_neg (fun w=>zp w.2)] at hr
     rw [if_neg zp]
     exact .inr (.inr ⟨rfl,hr⟩)
   rw [if_neg z30]
   rw [if_neg (fun w=>z30 w.1)] at hr
   exact .inr (.inr ⟨rfl,hr⟩)
  clear HR
  have HB : Hid (∀ X,Below W1.heap.size W1 X→(NqZ X W.heap.size x.k x.t x.n av x.ks.length cv)∧X.cell? ⟨W.heap.size+1,0,none⟩=some (.pointer (some ⟨bf,0,none⟩))∧X.cell? ⟨W.heap.size+1,1,none⟩=some (.int .i64 q.pk)∧X.cell? ⟨W.heap.size+1,2,none⟩=some (.string q.pt)∧X.cell? ⟨W.heap.size+1,3,none⟩=some (.int .i64 q.pn)∧X.cell? ⟨W.heap.size+1,4,none⟩=some (.slice q.pa q.pl q.pc)∧X.cell? ⟨W.heap.size+1,5,none⟩=some (.bool q.th)∧X.cell? ⟨W.heap.size+1,6,none⟩=some (.bool q.rt)):=fun X b =>
   ⟨(box4 ((b.block _ (gl n0)).trans n0)).1,(box7 ((b.block _ (gl n1)).trans n1)).1⟩
  go_wp2_with fail
  go_at_call 60
  refine CA.mono ?_
  rintro e W2 ⟨rfl,b2⟩
  clear CA a0 a1 a2 a3 c0 c1 c2 c3 c4 c5 c6
  obtain ⟨⟨a0,a1,a2,a3⟩,c0,c1,c2,c3,c4,c5,c6⟩:=HB.out W2 b2
  rcases cls with ⟨ea,er⟩ | ⟨ea,er⟩ | ⟨ea,er⟩
  ·rw [ea]
   have CU:=HU.out W2 b2 _ _ (.inl ⟨rfl,rfl⟩)
   rw [er] at CU
   clear HU ea er
   go_wp2_with (go_at_call 61;refine CU.mono ?_;rintro e W3 ⟨er,E',vu',U',rfl,hfin⟩)
   go_ret
   exact ⟨er,E',vu',U',rfl,hfin⟩
  ·rw [ea,hba]
   have CU:=HU.out W2 b2 _ _ (.inr ⟨rfl,rfl⟩)
   rw [er,hba] at CU
   clear HU ea er
   go_wp2_with (go_at_call 61;refine CU.mono ?_;rintro e W3 ⟨er,E',vu',U',rfl,hfin⟩)
   go_ret
   exact ⟨er,E',vu',U',rfl,hfin⟩
  ·rw [ea]
   clear HU ea
   have HE : Hid (∀ X er,Below W2.heap.size W2 X→Ans res er E1 U→LookA c W p0 vu res (.returned (.int .i64 er)) X):=fun X er b ha=>by
    have bb : Below W1.heap.size W1 X:=b2.trans (b.mono b2.size)
    exact ⟨er,E1,vu,U,rfl,ha,h1.bel bb,kw1.trans (Kpt.of (M:=Own c vu) bb) (fun _ _ q=>q),fun k hk=>.inl hk⟩
   by_cases z18 : x.k=18
   ·have e18 : (x.k == 18)=true:=by simpa using z18
    rw [if_neg (show ¬ (x.k=7∧q.th=false) from fun w=>by rw [z18] at w;exact absurd w.1 (by decide)),if_neg (show ¬ (x.k=50∧q.rt=false) from fun w=>by rw [z18] at w;exact absurd w.1 (by decide))] at er
    have hx2 : LAt W2 S (.slice av x.ks.length cv) x.ks:=by
     refine (hx.bel b0).keep (Nat.le_trans k1.size b2.size) (fun b hb hl=>?_)
     obtain ⟨s1,s2,s3,s4⟩:=hS b hb
     refine (b2.block b (Nat.lt_of_lt_of_le hl k1.size)).trans (k1.block b hl ?_)
     rintro (z | z | z | z)
     ·exact s2 z
     ·exact s3 z
     ·exact s4 z
     ·have:=(rw_lt h.u b z).1;omega
    obtain ⟨a,r,bl,o,cc,va,hks,hve,hn1,hbl,h4,hl⟩:=first_kid hx2 (hp.1 (.inr (.inr (.inr (.inr (.inl z18))))))
    have hav : av=some ⟨bl,o,none⟩:=by injection hve
    subst hav
    obtain ⟨aa,ca,rfl⟩:=hl.sl
    have hfx : fix1 (f :: F) x.ks=fixB (f :: F) a:=by rw [hks];rfl
    rw [hfx] at er
    have HK : Hid (∀ X,Below W2.heap.size W2 X→(NqO X bl o a.k a.t a.n aa a.ks.length ca)∧X.cell? ⟨W.heap.size,3,none⟩=some (.slice (some ⟨bl,o,none⟩) x.ks.length cv)∧X.cell? ⟨W.heap.size+1,0,none⟩=some (.pointer (some ⟨bf,0,none⟩))∧X.cell? ⟨W.heap.size+1,1,none⟩=some (.int .i64 q.pk)∧X.cell? ⟨W.heap.size+1,2,none⟩=some (.string q.pt)∧X.cell? ⟨W.heap.size+1,3,none⟩=some (.int .i64 q.pn)∧X.cell? ⟨W.heap.size+1,4,none⟩=some (.slice q.pa q.pl q.pc)∧X.cell? ⟨W.heap.size+1,5,none⟩=some (.bool q.th)∧X.cell? ⟨W.heap.size+1,6,none⟩=some (.bool q.rt)):=fun X b=>by
     obtain ⟨⟨x0,x1,x2,x3⟩,y⟩:=HB.out X (b2.trans (b.mono b2.size))
     exact ⟨h4.of_block (b.block bl hbl),x3,y⟩
    have CF:=fixed_any (W:=W2.drew) a (.slice aa a.ks.length ca) ⟨_,_,_,rfl⟩ q ((hF1.bel b2).bel (Below.refl _ _).drew)
    unfold Nd.v Wh.v at CF
    have sd:=HK.out W2.drew (Below.refl _ _).drew
    clear z18 hx2 hks hve h4 hl hfx hS hx HB
    go_wp2_with fail
    go_region_held3 (fun X=>(NqO X bl o a.k a.t a.n aa a.ks.length ca)∧X.cell? ⟨W.heap.size,3,none⟩=some (.slice (some ⟨bl,o,none⟩) x.ks.length cv)∧X.cell? ⟨W.heap.size+1,0,none⟩=some (.pointer (some ⟨bf,0,none⟩))∧X.cell? ⟨W.heap.size+1,1,none⟩=some (.int .i64 q.pk)∧X.cell? ⟨W.heap.size+1,2,none⟩=some (.string q.pt)∧X.cell? ⟨W.heap.size+1,3,none⟩=some (.int .i64 q.pn)∧X.cell? ⟨W.heap.size+1,4,none⟩=some (.slice q.pa q.pl q.pc)∧X.cell? ⟨W.heap.size+1,5,none⟩=some (.bool q.th)∧X.cell? ⟨W.heap.size+1,6,none⟩=some (.bool q.rt))
     (first | assumption | exact sd | exact sd3)
     (first
      | (go_at_call 62
         refine CF.mono ?_
         rintro e W3 ⟨rfl,b3⟩
         have b3' : Below W2.heap.size W2 W3:=⟨b3.os,b3.tape,b3.output,b3.size,b3.block⟩
         have sd3:=HK.out W3 b3'))
    all_goals
     cases hfb : fixB (f :: F) a with
     | true =>
      rw [if_pos ⟨by simpa using e18,hfb⟩] at er
      subst er
      go_wp2
      go_ret
      exact HE.out _ 92 b3' ⟨rfl,(by decide : (92 : Int) ≠ 0)⟩
     | false =>
      rw [if_neg (fun w=>by rw [hfb] at w;cases w.2)] at er
      subst er
      go_wp2
      go_ret
      exact HE.out _ 0 b3' ⟨rfl,rfl⟩
   rw [if_neg (fun w=>z18 w.1)] at er
   have e18 : (x.k == 18)=false:=by simpa using z18
   by_cases z7 : x.k=7
   ·have e7 : (x.k == 7)=true:=by simpa using z7
    cases ht : q.th with
    | false =>
     rw [if_pos ⟨z7,ht⟩] at er
     subst er
     rw [ht] at c5
     clear z7 z18
     go_wp2
     go_ret
     exact HE.out _ 93 (Below.refl _ _) ⟨rfl,(by decide : (93 : Int) ≠ 0)⟩
    | true =>
     rw [if_neg (fun w=>by rw [ht] at w;cases w.2),if_neg (fun w=>by rw [z7] at w;exact absurd w.1 (by decide))] at er
     subst er
     rw [ht] at c5
     clear z7 z18
     go_wp2
     go_ret
     exact HE.out _ 0 (Below.refl _ _) ⟨rfl,rfl⟩
   rw [if_neg (fun w=>z7 w.1)] at er
   have e7 : (x.k == 7)=false:=by simpa using z7
   by_cases z50 : x.k=50
   ·have e50 : (x.k == 50)=true:=by simpa using z50
    cases ht : q.rt with
    | false =>
     rw [if_pos ⟨z50,ht⟩] at er
     subst er
     rw [ht] at c6
     clear z7 z18 z50
     go_wp2
     go_ret
     exact HE.out _ 93 (Below.refl _ _) ⟨rfl,(by decide : (93 : Int) ≠ 0)⟩
    | true =>
     rw [if_neg (fun w=>by rw [ht] at w;cases w.2)] at er
     subst er
     rw [ht] at c6
     clear z7 z18 z50
     go_wp2
     go_ret
     exact HE.out _ 0 (Below.refl _ _) ⟨rfl,rfl⟩
   ·rw [if_neg (fun w=>z50 w.1)] at er
    subst er
    have e50 : (x.k == 50)=false:=by simpa using z50
    clear z7 z18 z50
    go_wp2
    go_ret
    exact HE.out _ 0 (Below.refl _ _) ⟨rfl,rfl⟩
def ZAt (Z : List Nat) (p : Nat) (x : Nd) : Prop:=∃ r,Z.drop p=szN x ++ r
def ZAtL (Z : List Nat) (p : Nat) (l : List Nd) : Prop:=∃ r,Z.drop p=szL l ++ r
theorem ZAt.kids {Z : List Nat} {p : Nat} {x : Nd} (h : ZAt Z p x) : ZAtL Z (p+1) x.ks:=by
 obtain ⟨r,h⟩:=h
 refine ⟨r,?_⟩
 rw [← List.drop_drop,h,szN_eq]
 rfl
theorem ZAtL.at {Z : List Nat} : ∀ {l : List Nd} {p j : Nat},ZAtL Z p l→(hj : j < l.length)→ZAt Z (p+sizes (l.take j)) l[j]
 | a :: l,p,0,h,hj=>by
  obtain ⟨r,h⟩:=h
  rw [szL,List.append_assoc] at h
  exact ⟨szL l ++ r,by simpa [sizes_nil] using h⟩
 | a :: l,p,j+1,h,hj=>by
  obtain ⟨r,h⟩:=h
  rw [szL,List.append_assoc] at h
  have h2 : ZAtL Z (p+a.size) l:=⟨r,by rw [← List.drop_drop,h,← szN_len a,List.drop_left]⟩
  have:=ZAtL.at h2 (j:=j) (by simpa using hj)
  rw [List.take_succ_cons,sizes_cons,← Nat.add_assoc]
  exact this
theorem ZAt.head {Z : List Nat} {p : Nat} {x : Nd} (h : ZAt Z p x) : Z[p]?=some x.size:=by
 obtain ⟨r,h⟩:=h
 have : (Z.drop p)[0]?=some x.size:=by rw [h,szN_eq];rfl
 rw [List.getElem?_drop] at this
 simpa using this
theorem ZAt.zk {Z : List Nat} {p : Nat} {x : Nd} (h : ZAt Z p x) (j : Nat) (hj : j < x.ks.length) : Z[p+1+sizes (x.ks.take j)]?=some x.ks[j].size:=(h.kids.at hj).head
theorem frmP_app : ∀ (l r : List Nd) (p : Int),frmP (l ++ r) p=frmP l p ++ frmP r (p+sizes l)
 | [],r,p=>by simp [frmP,sizes_nil]
 | x :: l,r,p=>by
  rw [List.cons_append,frmP,frmP,frmP_app l r,sizes_cons,List.cons_append]
  congr 3
  push_cast
  omega
theorem frmB_app : ∀ (l r : List Nd) (p : Int),frmB (l ++ r) p=frmB l p ++ frmB r (p+sizes l)
 | [],r,p=>by simp [frmB,sizes_nil]
 | x :: l,r,p=>by
  have e : p+(x.size : Int)+(sizes l : Int)=p+((x.size+sizes l : Nat) : Int):=by push_cast;omega
  rw [List.cons_append,frmB,frmB,frmB_app l r,sizes_cons,e]
  by_cases h : (dclN x).toList ≠ []
  ·rw [if_pos h,if_pos h];rfl
  ·rw [if_neg h,if_neg h]
theorem res_wh {fn : Func} {p : Nat} (h : fn.results=#[.cell p 82]) {W : World} {n : Nat} {a b c d e f g : Value} {t : TypeId} {tmps : Array Value} (hb : W.heap[n]?=some (.cells #[a,b,c,d,e,f,g] t (0,0))) (ht : tmps[p]?.getD undef = .pointer (some ⟨n,0,none⟩)) :
 (results fn tmps).run Tryz.prog W = .ok (.agg #[a,b,c,d,e,f,g]) W:=by
 obtain ⟨⟨c0,c1,c2,c3,c4,c5,c6⟩,_⟩:=box7 hb
 simp [results,h,go_sem,ht,c0,c1,c2,c3,c4,c5,c6]
theorem bel_set {B b o : Nat} {w w' : World} {v : Value} (h : Below B w w') (hb : B ≤ b) : Below B w (w'.setCell ⟨b,o,none⟩ v):=h.setCell hb _
theorem enter0 {c : Rc} {W : World} {p0 : Int} {E : List ByteArray} {vu : Value} {U : List Us} (h : Rv c W p0 E vu U) (x : Nd) (v : Value) (hv : ∃ a n c,v = .slice a n c) (p : Int) (q : Wh) (vf : Value) (hf : ∃ a,vf = .pointer a) (h11 : ¬ isFn x.k=true) (h52 : x.k ≠ 52) :
 Calls Tryz.prog 37 #[.pointer (some ⟨c.rb,0,none⟩),x.v v,.int .i64 p,q.v vf] W fun e W'=>∃ av n cv,v = .slice av n cv∧e = .returned ((⟨x.k,x.t,x.n,av,n,cv,inT x.k q.th,inR x.k q.rt⟩ : Wh).v vf)∧Below W.heap.size W W':=by
 obtain ⟨av,nv,cv,rfl⟩:=hv
 obtain ⟨pf,rfl⟩:=hf
 obtain ⟨W0,hW0⟩ : ∃ X,((W.alloc (nO x (.slice av nv cv))).alloc (q.o (.pointer pf))).alloc (Obj.cells #[.pointer none,.int .i64 0,.string ⟨#[]⟩,.int .i64 0,.slice none 0 0,.bool false,.bool false] 82)=X:=⟨_,rfl⟩
 have b0 : Below W.heap.size W W0:=by rw [← hW0];exact (bel2 _ _ _).alloc (by simp;omega) _
 have m0 : W0.heap[W.heap.size]?=some (nO x (.slice av nv cv)):=by rw [← hW0];exact hold _ (by simp;omega) (hold _ (by simp) (hnew _ rfl))
 have m1 : W0.heap[W.heap.size+1]?=some (q.o (.pointer pf)):=by rw [← hW0];exact hold _ (by simp) (hnew _ (by simp))
 have m2 : W0.heap[W.heap.size+1+1]?=some (Obj.cells #[.pointer none,.int .i64 0,.string ⟨#[]⟩,.int .i64 0,.slice none 0 0,.bool false,.bool false] 82):=by rw [← hW0];exact hnew _ (by simp)
 obtain ⟨⟨a0,a1,a2,a3⟩,_⟩:=box4 m0
 obtain ⟨⟨c0,c1,c2,c3,c4,c5,c6⟩,f1⟩:=box7 m1
 obtain ⟨⟨d0,d1,d2,d3,d4,d5,d6⟩,f2⟩:=box7 m2
 have e11 : (x.k == 11)=false:=by simpa using fun e=>h11 (by unfold isFn;simp [e])
 have e41 : (x.k == 41)=false:=by simpa using fun e=>h11 (by unfold isFn;simp [e])
 have e44 : (x.k == 44)=false:=by simpa using fun e=>h11 (by unfold isFn;simp [e])
 have e45 : (x.k == 45)=false:=by simpa using fun e=>h11 (by unfold isFn;simp [e])
 have e52 : (x.k == 52)=false:=by simpa using h52
 have hR : inR x.k q.rt=q.rt:=by unfold inR;rw [if_neg h11]
 unfold nO Wh.o at hW0
 unfold Nd.v Wh.v
 cases e43 : (x.k == 43) with
 | true =>
  have HT : Hid (inT x.k q.th=true∧inR x.k q.rt=q.rt):=⟨by unfold inT;rw [if_pos (.inl (by simpa using e43))],hR⟩
  clear hR h11 h52
  refine (callsIn_wide (n:=10)).1 ?_
  refine callsIn_of_wp_marks Tryz.func37 rfl trivial ?_ rfl
  simp only [Tryz.ntmps37,List.size_toArray,List.length_cons,List.length_nil,Nat.reduceAdd,Nat.reduceSub,Array.replicate_succ,Array.replicate_zero,List.push_toArray,List.append_toArray,List.nil_append,List.cons_append]
  gi_wp2
  refine ⟨_,res_wh Tryz.results37 (n:=W.heap.size+1+1) (a:=.pointer pf) (b:=.int .i64 x.k) (c:=.string x.t) (d:=.int .i64 x.n) (e:=.slice av nv cv) (f:=.bool true) (g:=.bool q.rt) (t:=82) (by simp [World.setCell,Array.getElem?_modify,m2]) rfl,av,nv,cv,rfl,by rw [HT.out.1,HT.out.2],?_⟩
  repeat refine bel_set ?_ (by omega)
  exact b0
 | false =>
  have HT : Hid (inT x.k q.th=q.th∧inR x.k q.rt=q.rt):=⟨by
   unfold inT
   rw [if_neg (fun w=>by rcases w with w | w | w <;> simp_all),if_neg (fun w=>by simp_all)],hR⟩
  clear hR h11 h52
  refine (callsIn_wide (n:=10)).1 ?_
  refine callsIn_of_wp_marks Tryz.func37 rfl trivial ?_ rfl
  simp only [Tryz.ntmps37,List.size_toArray,List.length_cons,List.length_nil,Nat.reduceAdd,Nat.reduceSub,Array.replicate_succ,Array.replicate_zero,List.push_toArray,List.append_toArray,List.nil_append,List.cons_append]
  gi_wp2
  refine ⟨_,res_wh Tryz.results37 (n:=W.heap.size+1+1) (a:=.pointer pf) (b:=.int .i64 x.k) (c:=.string x.t) (d:=.int .i64 x.n) (e:=.slice av nv cv) (f:=.bool q.th) (g:=.bool q.rt) (t:=82) (by simp [World.setCell,Array.getElem?_modify,m2]) rfl,av,nv,cv,rfl,by rw [HT.out.1,HT.out.2],?_⟩
  repeat refine bel_set ?_ (by omega)
  exact b0
end Go.Proofs.YtfcocoadaajbjaaGreatDoor
