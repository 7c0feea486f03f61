/- Own text. Package scope: the resolver is made,and the tops are declared ahead of the walk. -/
import Derived.Test.YtfcocoadaajbjaaGreatDoorGd29
set_option linter.unusedVariables false
set_option linter.unusedSimpArgs false
set_option maxRecDepth 100000
set_option maxHeartbeats 16000000
namespace Go.Proofs.YtfcocoadaajbjaaGreatDoor
open Go.RowKit Go.MapKept
attribute [local go_sem] Oper.semAt_some
theorem res_one {fn : Func} {p : Nat} (h : fn.results=#[.tmp p]) {tmps : Array Value} {v : Value} {W : World} (ht : tmps[p]?.getD undef=v) : (results fn tmps).run Tryz.prog W = .ok v W:=by simp [results,h,go_sem,ht]
theorem wide_quiet {PP : Program} {ops : Array Oper} {id n : Nat} {K : Act→World→Prop} {Q : Exit→Act→World→Prop} {a : Act} {w : World} (h : (Code.region id ops true).wp PP (Exit.then K (fun _ _ _=>False)) a w) : (Code.region id ops true).wpIn Fence.wide n PP (Exit.then K Q) a w :=
 wpIn_wide.2 (wp_mono h fun e a w q=>by
  cases e with
  | normal=>exact q
  | _=>exact (q : False).elim)
def bdc (nm : ByteArray) : Dc:=⟨nm,0,0,1,false⟩
def NrA (x : Nd) (W : World) (e : Ending) (W' : World) : Prop :=
 ∃ (c : Rc) (nb mb : Nat) (vo vt : Value),e = .returned (.pointer (some ⟨c.rb,0,none⟩))∧c.B=W.heap.size∧c.Z=szN x∧Tv c nb mb vo W' vt (ptJL x.ks 1 0)∧SAt W' (fun k=>k ≠ c.eb) (.pointer (some ⟨nb,0,none⟩)) [(ptJL x.ks 1 0).map dc1,blN.map bdc]∧SAt W' (fun k=>k ≠ c.eb) c.va [(ptJL x.ks 1 0).map dc1]∧W'.heap[c.eb]?=some (.map #[] 0)∧Below W.heap.size W W'∧W.heap.size ≤ c.rb∧W.heap.size ≤ c.eb∧W.heap.size ≤ mb
theorem newResolver_any (x : Nd) (v : Value) (W : World) (hx : LAt W (fun b=>b < W.heap.size) v x.ks) (hz : x.size ≤ 4194304) (hpk : ∀ y ∈ x.ks,Pre y∧(dclN y).size ≤ 4194304∧∀ z ∈ y.ks,Pre z∧(dclN z).size ≤ 4194304) :
 Calls Tryz.prog 19 #[x.v v] W (NrA x W):=by
 have HPK : Hid _:=hpk
 clear hpk
 have hmm:=@run_makeMap Tryz.prog
 obtain ⟨av,cv,rfl⟩:=hx.sl
 obtain ⟨W0,hW0⟩ : ∃ X,W.alloc (nO x (.slice av x.ks.length cv))=X:=⟨_,rfl⟩
 have b0 : Below W.heap.size W W0:=by rw [← hW0];exact bel_a _ _
 have m0 : W0.heap[W.heap.size]?=some (nO x (.slice av x.ks.length cv)):=by rw [← hW0];exact hnew _ rfl
 have s0 : W0.heap.size=W.heap.size+1:=by rw [← hW0];simp
 have CW:=within_any (.pointer none) W0 ⟨_,rfl⟩
 obtain ⟨W1,hW1⟩ : ∃ X,(W0.alloc (.map #[] 0)).alloc (.cells #[.map (some W0.heap.size),.pointer none] 76)=X:=⟨_,rfl⟩
 rw [hW1] at CW
 have b1 : Below W0.heap.size W0 W1:=by rw [← hW1];exact bel2 _ _ _
 have s1 : W1.heap.size=W0.heap.size+2:=by rw [← hW1];simp
 have p1 : Sm W1 W0.heap.size 0 []:=by rw [← hW1];exact MF.keep (sm_nil W0) (Below.heap_alloc _ _ _ (by simp))
 have p2 : W1.heap[W0.heap.size+1]?=some (.cells #[.map (some W0.heap.size),.pointer none] 76 (0,0)):=by rw [← hW1];exact hnew _ (by simp)
 have CB:=builtins_any W1
 have M0 : Hid _:=m0
 have HX : Hid _:=hx
 have B0 : Hid _:=b0
 have B1 : Hid _:=b1
 have P1 : Hid (Sm W1 W0.heap.size 0 []):=p1
 have P2 : Hid (W1.heap[W0.heap.size+1]?=some (.cells #[.map (some W0.heap.size),.pointer none] 76 (0,0))):=p2
 have S0 : Hid _:=s0
 have S1 : Hid _:=s1
 clear m0 hx b0 b1 p1 p2 s0 s1
 unfold nO at hW0
 unfold Nd.v
 refine (callsIn_wide (n:=10)).1 ?_
 refine callsIn_of_wp_marks Tryz.func19 rfl trivial ?_ rfl
 simp only [Tryz.ntmps19,List.size_toArray,List.length_cons,List.length_nil,Nat.reduceAdd,Nat.reduceSub,Array.replicate_succ,Array.replicate_zero,List.push_toArray,List.append_toArray,List.nil_append,List.cons_append]
 gi_wp2_with (first
  | (refine ⟨trivial,?_⟩;gi_at_call 30;refine (callsIn_wide.2 CW).mono ?_;rintro e w' ⟨rfl,hw⟩;obtain rfl:=hw.symm)
  | (refine ⟨trivial,?_⟩;gi_at_call 16;refine (callsIn_wide.2 CB).mono ?_;rintro e W2 ⟨rfl,m2,b2⟩))
 clear CW CB hW0 hW1
 have bl2:=b2
 have M2 : Hid (W2.heap[W1.heap.size]?=some blO):=m2
 have B2 : Hid (Below W1.heap.size W1 W2):=b2
 clear m2 b2 bl2
 gi_loopw [13] (fun i wr=>∃ (j n' : Nat),i = .int .i64 (j : Nat)∧j ≤ 5∧Hid (Sm wr W0.heap.size n' ((blN.take j).map bdc))∧Hid (Kpt (fun k=>k=W0.heap.size) W2 wr)) (fun i _=>5 - (intOf i).toNat)
 case atStart=>exact ⟨0,0,rfl,by omega,MF.keep P1.out (B2.out.block _ (by have:=S1.out;omega)),Kpt.refl _ _⟩
 case round =>
  obtain ⟨j,n',rfl,hj,hm,kp⟩:=hrel
  by_cases hjl : j < 5
  ·have m3:=(kp.out.block W1.heap.size (gl M2.out) (by have:=S1.out;omega)).trans M2.out
   have p3:=(kp.out.block (W0.heap.size+1) (by have:=S1.out;have:=B2.out.size;omega) (by omega)).trans ((B2.out.block _ (by have:=S1.out;omega)).trans P2.out)
   obtain ⟨⟨c0,c1,c2,c3,c4⟩,fz⟩:=bl_cell m3
   have HN : Hid (∀ X d (f : List Dc),Sm X W0.heap.size (n'+1) ((blN.take j).map bdc ++ [d])→wr.grownBy X (some W0.heap.size)→f=(blN.take j).map bdc ++ [d]→Sm X W0.heap.size (n'+1) f∧Kpt (fun k=>k=W0.heap.size) W2 X):=fun X d f h g e=>by
    subst e
    exact ⟨h,kp.out.trans (Kpt.grown (M:=fun k=>k=W0.heap.size) g (fun k e=>by injection e with e;exact e.symm)) (fun _ _ q=>q)⟩
   have CD:=fun d=>declare_any d p3 hm.out
   clear m3 p3 fz
   have hc : j=0 ∨ j=1 ∨ j=2 ∨ j=3 ∨ j=4:=by omega
   rcases hc with rfl | rfl | rfl | rfl | rfl
   ·have CDj:=CD (bdc ⟨#[112,97,114,115,101]⟩)
    unfold bdc Dc.v at CDj
    clear CD
    gi_wp2_with (refine ⟨trivial,?_⟩;gi_at_call 31;refine (callsIn_wide.2 CDj).mono ?_;rintro e W5 ⟨rfl,hm5,g5⟩)
    obtain ⟨h5,k5⟩:=HN.out W5 (bdc ⟨#[112,97,114,115,101]⟩) ((blN.take 1).map bdc) hm5 g5 rfl
    go_roundw
    case rel=>exact ⟨1,n'+1,rfl,by omega,h5,k5⟩
    case measure=>simp [intOf]
   ·have CDj:=CD (bdc ⟨#[112,114,105,110,116]⟩)
    unfold bdc Dc.v at CDj
    clear CD
    gi_wp2_with (refine ⟨trivial,?_⟩;gi_at_call 31;refine (callsIn_wide.2 CDj).mono ?_;rintro e W5 ⟨rfl,hm5,g5⟩)
    obtain ⟨h5,k5⟩:=HN.out W5 (bdc ⟨#[112,114,105,110,116]⟩) ((blN.take 2).map bdc) hm5 g5 rfl
    go_roundw
    case rel=>exact ⟨2,n'+1,rfl,by omega,h5,k5⟩
    case measure=>simp [intOf]
   ·have CDj:=CD (bdc ⟨#[112,117,115,104]⟩)
    unfold bdc Dc.v at CDj
    clear CD
    gi_wp2_with (refine ⟨trivial,?_⟩;gi_at_call 31;refine (callsIn_wide.2 CDj).mono ?_;rintro e W5 ⟨rfl,hm5,g5⟩)
    obtain ⟨h5,k5⟩:=HN.out W5 (bdc ⟨#[112,117,115,104]⟩) ((blN.take 3).map bdc) hm5 g5 rfl
    go_roundw
    case rel=>exact ⟨3,n'+1,rfl,by omega,h5,k5⟩
    case measure=>simp [intOf]
   ·have CDj:=CD (bdc ⟨#[114,101,97,100]⟩)
    unfold bdc Dc.v at CDj
    clear CD
    gi_wp2_with (refine ⟨trivial,?_⟩;gi_at_call 31;refine (callsIn_wide.2 CDj).mono ?_;rintro e W5 ⟨rfl,hm5,g5⟩)
    obtain ⟨h5,k5⟩:=HN.out W5 (bdc ⟨#[114,101,97,100]⟩) ((blN.take 4).map bdc) hm5 g5 rfl
    go_roundw
    case rel=>exact ⟨4,n'+1,rfl,by omega,h5,k5⟩
    case measure=>simp [intOf]
   ·have CDj:=CD (bdc ⟨#[116,101,120,116]⟩)
    unfold bdc Dc.v at CDj
    clear CD
    gi_wp2_with (refine ⟨trivial,?_⟩;gi_at_call 31;refine (callsIn_wide.2 CDj).mono ?_;rintro e W5 ⟨rfl,hm5,g5⟩)
    obtain ⟨h5,k5⟩:=HN.out W5 (bdc ⟨#[116,101,120,116]⟩) ((blN.take 5).map bdc) hm5 g5 rfl
    go_roundw
    case rel=>exact ⟨5,n'+1,rfl,by omega,h5,k5⟩
    case measure=>simp [intOf]
  ·obtain rfl : j=5:=by omega
   have BW : Hid (Below W.heap.size W wr):=by
    have bB : Below W.heap.size W W2:=(B0.out.trans (B1.out.mono B0.out.size)).trans (B2.out.mono (by have:=S0.out;have:=S1.out;omega))
    exact bB.trans (kp.out.bel bB.size (fun k hk e=>by have:=S0.out;omega))
   have n0 : wr.heap[W.heap.size]?=some (nO x (.slice av x.ks.length cv)):=(kp.out.block _ (by have:=B2.out.size;have:=S1.out;have:=S0.out;omega) (by have:=S0.out;omega)).trans ((B2.out.block _ (by have:=S1.out;have:=S0.out;omega)).trans ((B1.out.block _ (by have:=S0.out;omega)).trans M0.out))
   have p3:=(kp.out.block (W0.heap.size+1) (by have:=S1.out;have:=B2.out.size;omega) (by omega)).trans ((B2.out.block _ (by have:=S1.out;omega)).trans P2.out)
   have CS:=sizes_any x wr _ _ (HX.out.bel BW.out) hz
   obtain ⟨⟨a0,a1,a2,a3⟩,_⟩:=box4 n0
   have N0 : Hid _:=n0
   have P3 : Hid _:=p3
   have HM3 : Hid (Sm wr W0.heap.size n' (blN.map bdc)):=hm.out
   have HW0 : Hid (W0.heap.size+1 < wr.heap.size):=(gl p3)
   have HZS : Hid (x.size=1+sizes x.ks):=x.size_eq
   clear hm kp n0 p3 M0 B1 P1 P2 B2 M2 S1
   unfold Nd.v at CS
   gi_wp2_with fail
   refine ⟨trivial,?_⟩
   gi_at_call 32
   refine (callsIn_wide.2 CS).mono ?_
   rintro e W4 ⟨v',rfl,own4,b4⟩
   obtain ⟨sb,cz,rfl⟩ : ∃ sb cz,v' = .slice (some ⟨sb,0,none⟩) x.size cz:=by
    obtain ⟨_,q⟩:=own4
    rcases q with ⟨_,q⟩ | ⟨g,cap,cur,q,_⟩
    ·have:=HZS.out;omega
    ·exact ⟨g,cap,q⟩
   have CW2:=within_any (.pointer (some ⟨W0.heap.size+1,0,none⟩)) W4 ⟨_,rfl⟩
   obtain ⟨W5,hW5⟩ : ∃ X,(W4.alloc (.map #[] 0)).alloc (.cells #[.map (some W4.heap.size),.pointer (some ⟨W0.heap.size+1,0,none⟩)] 76)=X:=⟨_,rfl⟩
   rw [hW5] at CW2
   have b5 : Below W4.heap.size W4 W5:=by rw [← hW5];exact bel2 _ _ _
   have S5 : Hid (W5.heap.size=W4.heap.size+2):=by show _=_;rw [← hW5];simp
   have o1 : Sm W5 W4.heap.size 0 []:=by rw [← hW5];exact MF.keep (sm_nil W4) (Below.heap_alloc _ _ _ (by simp))
   have o2 : W5.heap[W4.heap.size+1]?=some (.cells #[.map (some W4.heap.size),.pointer (some ⟨W0.heap.size+1,0,none⟩)] 76 (0,0)):=by rw [← hW5];exact hnew _ (by simp)
   obtain ⟨W8,hW8⟩ : ∃ X,((W5.alloc (.map #[] 0)).alloc (.cells #[.slice (some ⟨sb,0,none⟩) x.size cz,.pointer (some ⟨W4.heap.size+1,0,none⟩),.pointer none,.map (some W5.heap.size),.slice none 0 0,.slice none 0 0] 58)).alloc (.cells #[.pointer (some ⟨W5.heap.size+1,0,none⟩)] 51)=X:=⟨_,rfl⟩
   have b8 : Below W5.heap.size W5 W8:=by rw [← hW8];exact (bel2 _ _ _).alloc (by simp;omega) _
   have S8 : Hid (W8.heap.size=W5.heap.size+3):=by show _=_;rw [← hW8];simp
   have t0 : W8.heap[W5.heap.size]?=some (.map #[] 0):=by rw [← hW8];exact hold _ (by simp <;> omega) (hold _ (by simp) (hnew _ rfl))
   have t1 : W8.heap[W5.heap.size+1]?=some (.cells #[.slice (some ⟨sb,0,none⟩) x.size cz,.pointer (some ⟨W4.heap.size+1,0,none⟩),.pointer none,.map (some W5.heap.size),.slice none 0 0,.slice none 0 0] 58 (0,0)):=by rw [← hW8];exact hold _ (by simp) (hnew _ (by simp))
   have t2 : W8.heap[W5.heap.size+1+1]?=some (.cells #[.pointer (some ⟨W5.heap.size+1,0,none⟩)] 51 (0,0)):=by rw [← hW8];exact hnew _ (by simp)
   have t3:=(b8.block _ (gl o2)).trans o2
   have su : (fun X=>X.cell? ⟨W5.heap.size+1+1,0,none⟩=some (.pointer (some ⟨W5.heap.size+1,0,none⟩))∧X.cell? ⟨W5.heap.size+1,1,none⟩=some (.pointer (some ⟨W4.heap.size+1,0,none⟩))∧X.cell? ⟨W4.heap.size+1,0,none⟩=some (.map (some W4.heap.size))) W8.drew:=⟨by show World.cell? W8 _=_;simp [World.cell?,t2],(box6 (w:=W8) t1).1.2.1,by show World.cell? W8 _=_;simp [World.cell?,t3]⟩
   have r2 : W8.drew.cell? ⟨W5.heap.size+1,2,none⟩=some (.pointer none):=(box6 (w:=W8) t1).1.2.2.1
   have r3 : ∀ i,W8.drew.frozen? ⟨W5.heap.size+1,i,none⟩=false:=fun i=>by show World.frozen? W8 _=_;simp [World.frozen?,t1]
   gi_wp2_with (refine ⟨trivial,?_⟩;gi_at_call 30;refine (callsIn_wide.2 CW2).mono ?_;rintro e w' ⟨rfl,hw⟩;obtain rfl:=hw.symm)
   obtain ⟨W9,hW9⟩ : ∃ X,((W8.alloc (.cells #[.map (some W4.heap.size),.pointer none] 76)).setCell ⟨W5.heap.size+1,2,none⟩ (.pointer (some ⟨W8.heap.size,0,none⟩))).drew=X:=⟨_,rfl⟩
   have E9 : Hid (∀ k,k < W8.heap.size→k ≠ W5.heap.size+1→W9.heap[k]?=W8.heap[k]?):=fun k hk hn=>by
    rw [← hW9]
    exact (Below.heap_setCell _ _ _ _ hn).trans (Below.heap_alloc _ _ _ hk)
   have R9 : Hid (W9.heap[W5.heap.size+1]?=some (.cells #[.slice (some ⟨sb,0,none⟩) x.size cz,.pointer (some ⟨W4.heap.size+1,0,none⟩),.pointer (some ⟨W8.heap.size,0,none⟩),.map (some W5.heap.size),.slice none 0 0,.slice none 0 0] 58 (0,0))):=by
    have z:=hold (w:=W8) (Obj.cells #[.map (some W4.heap.size),.pointer none] 76) (gl t1) t1
    rw [← hW9]
    show (World.setCell _ _ _).heap[W5.heap.size+1]?=_
    simp [World.setCell,Array.getElem?_modify,z]
   have A9 : Hid (W9.heap[W8.heap.size]?=some (.cells #[.map (some W4.heap.size),.pointer none] 76 (0,0))):=by
    have z : (W8.alloc (Obj.cells #[.map (some W4.heap.size),.pointer none] 76)).heap[W8.heap.size]?=_:=hnew _ rfl
    rw [← hW9]
    exact (Below.heap_setCell _ _ _ _ (by show W8.heap.size ≠ W5.heap.size+1;have:=S8.out;omega)).trans z
   have Q9 : Hid (Below W5.heap.size W5 W9):=by
    rw [← hW9]
    exact (bel_set (b8.alloc b8.size _) (by omega)).drew
   have S9 : Hid (W9.heap.size=W8.heap.size+1):=by show _=_;rw [← hW9];show (World.setCell _ _ _).heap.size=_;simp [World.setCell]
   have HS8 : Hid (∀ X,Below W8.heap.size W8 X→X.cell? ⟨W5.heap.size+1+1,0,none⟩=some (.pointer (some ⟨W5.heap.size+1,0,none⟩))∧X.cell? ⟨W5.heap.size+1,1,none⟩=some (.pointer (some ⟨W4.heap.size+1,0,none⟩))∧X.cell? ⟨W4.heap.size+1,0,none⟩=some (.map (some W4.heap.size))):=fun X b=>by
    have z1:=(b.block _ (gl t1)).trans t1
    have z2:=(b.block _ (gl t2)).trans t2
    have z3:=(b.block _ (gl t3)).trans t3
    exact ⟨by simp [World.cell?,z2],(box6 z1).1.2.1,by simp [World.cell?,z3]⟩
   have r2' : (W8.alloc (.cells #[.map (some W4.heap.size),.pointer none] 76)).cell? ⟨W5.heap.size+1,2,none⟩=some (.pointer none):=(box6 (hold (w:=W8) _ (gl t1) t1)).1.2.2.1
   have r3' : (W8.alloc (.cells #[.map (some W4.heap.size),.pointer none] 76)).frozen? ⟨W5.heap.size+1,2,none⟩=false:=by
    have z:=hold (w:=W8) (Obj.cells #[.map (some W4.heap.size),.pointer none] 76) (gl t1) t1
    simp [World.frozen?,z]
   have T0 : Hid _:=t0
   have T1 : Hid _:=t1
   have T2 : Hid _:=t2
   have T3 : Hid _:=t3
   have B4 : Hid _:=b4
   have B5 : Hid _:=b5
   have B8 : Hid _:=b8
   have O1 : Hid (Sm W5 W4.heap.size 0 []):=o1
   have OWN : Hid (W4.ownsRow wr.heap.size 3 1 (.slice (some ⟨sb,0,none⟩) x.size cz) x.size (iV (szN x))):=own4
   clear t0 t1 t2 t3 b4 b5 b8 o1 o2 own4 CW2 CS hW5 hW8 a0 a1 a2 a3 r2 r3
   refine wide_quiet ?_
   refine wp_region_U (u:=10) (S:=fun X=>X.cell? ⟨W5.heap.size+1+1,0,none⟩=some (.pointer (some ⟨W5.heap.size+1,0,none⟩))∧X.cell? ⟨W5.heap.size+1,1,none⟩=some (.pointer (some ⟨W4.heap.size+1,0,none⟩))∧X.cell? ⟨W4.heap.size+1,0,none⟩=some (.map (some W4.heap.size))) (by kernel_rfl) ?_
   change wpAnyU _ _ _ _ _ _ _ _ _ (World.drew _)
   refine uT 0 (.pointer (some ⟨W5.heap.size+1,0,none⟩)) su ?_
   refine uT 1 (.pointer (some ⟨W5.heap.size+1,0,none⟩)) su ?_
   refine uT 2 (.pointer (some ⟨W5.heap.size+1,0,none⟩)) su ?_
   refine uT 3 (.pointer (some ⟨W5.heap.size+1,1,none⟩)) su ?_
   refine uT 4 (.pointer (some ⟨W4.heap.size+1,0,none⟩)) su ?_
   refine uT 5 (.pointer (some ⟨W4.heap.size+1,0,none⟩)) su ?_
   refine uT 6 (.pointer (some ⟨W4.heap.size+1,0,none⟩)) su ?_
   refine uT 7 (.map (some W4.heap.size)) su ?_
   refine uT 8 (.agg #[.map (some W4.heap.size),.pointer none]) su ?_
   refine U_ready (rs:=[9]) (by kernel_rfl) (by simp) ?_
   refine AllU.cons rfl (by decide) (fun K hK=>?_) AllU.nil
   go_simp
   refine hK.out _ _ (HS8.out _ (by exact (Below.refl _ W8).drew.alloc (Nat.le_refl _) _)) ?_
   clear hK K
   refine U_end (by kernel_rfl) ?_
   refine wpAny_chain [_,_,_] [10,11,12] _ _ _ _ (by kernel_rfl) rfl (by decide) ?_
   clear su HS8
   go_wp2
   clear hW9 r2' r3'
   obtain ⟨W10,hW10⟩ : ∃ X,W9.alloc (.cells #[.int .i64 0] 3)=X:=⟨_,rfl⟩
   have b10 : Below W9.heap.size W9 W10:=by rw [← hW10];exact bel_a _ _
   have hset : W10.setCell ⟨W9.heap.size,0,none⟩ (.int .i64 0)=W10:=by rw [← hW10];simp [go_sem]
   have i10 : W10.heap[W9.heap.size]?=some (.cells #[.int .i64 0] 3 (0,0)):=by rw [← hW10];exact hnew _ rfl
   have l8 : W5.heap.size+1+1 < W8.heap.size:=by have:=S8.out;omega
   have n9 : W9.heap[W.heap.size]?=some (nO x (.slice av x.ks.length cv)):=by
    have h1:=B4.out.size
    have h2:=B5.out.size
    have h3:=(gl N0.out)
    exact (E9.out _ (by omega) (by omega)).trans ((B8.out.block _ (by omega)).trans ((B5.out.block _ (by omega)).trans ((B4.out.block _ h3).trans N0.out)))
   have t9:=(E9.out (W5.heap.size+1+1) l8 (by omega)).trans T2.out
   have n10:=(b10.block _ (gl n9)).trans n9
   have t10:=(b10.block _ (gl t9)).trans t9
   have d10 : W10.cell? ⟨W9.heap.size,0,none⟩=some (.int .i64 0):=by simp [World.cell?,i10]
   have f10 : W10.frozen? ⟨W9.heap.size,0,none⟩=false:=by simp [World.frozen?,i10]
   have e6 : W10.cell? ⟨W5.heap.size+1+1,0,none⟩=some (.pointer (some ⟨W5.heap.size+1,0,none⟩)):=by simp [World.cell?,t10]
   obtain ⟨⟨a0,a1,a2,a3⟩,_⟩:=box4 n10
   have CK:=kids_in W10 (W5.heap.size+1) x (.slice av x.ks.length cv) ⟨_,_,_,rfl⟩ ((0 : Nat) : Int)
   unfold Nd.v at CK
   obtain ⟨W11,hW11⟩ : ∃ X,((W10.alloc (.cells #[.pointer (some ⟨W5.heap.size+1,0,none⟩)] 51)).alloc (.cells #[.int .i64 x.k,.string x.t,.int .i64 x.n,.slice av x.ks.length cv] 24)).alloc (.cells #[.int .i64 ((0 : Nat) : Int)] 3)=X:=⟨_,rfl⟩
   rw [hW11] at CK
   have b11 : Below W10.heap.size W10 W11:=by rw [← hW11];exact (bel2 _ _ _).alloc (by simp;omega) _
   have y1 : W11.heap[W10.heap.size]?=some (.cells #[.pointer (some ⟨W5.heap.size+1,0,none⟩)] 51 (0,0)):=by rw [← hW11];exact hold _ (by simp;omega) (hold _ (by simp) (hnew _ rfl))
   have y2 : W11.heap[W10.heap.size+1]?=some (.cells #[.int .i64 x.k,.string x.t,.int .i64 x.n,.slice av x.ks.length cv] 24 (0,0)):=by rw [← hW11];exact hold _ (by simp) (hnew _ (by simp))
   have y3 : W11.heap[W10.heap.size+1+1]?=some (.cells #[.int .i64 ((0 : Nat) : Int)] 3 (0,0)):=by rw [← hW11];exact hnew _ (by simp)
   have b9 : Below W9.heap.size W9 W11:=b10.trans (b11.mono b10.size)
   obtain ⟨c,hc⟩ : ∃ c : Rc,c=⟨W5.heap.size+1,sb,cz,W5.heap.size,0,W.heap.size,szN x,.pointer (some ⟨W4.heap.size+1,0,none⟩),.pointer (some ⟨W8.heap.size,0,none⟩),.slice none 0 0⟩:=⟨_,rfl⟩
   have HC : Hid (c=⟨W5.heap.size+1,sb,cz,W5.heap.size,0,W.heap.size,szN x,.pointer (some ⟨W4.heap.size+1,0,none⟩),.pointer (some ⟨W8.heap.size,0,none⟩),.slice none 0 0⟩):=hc
   have lW:=(gl N0.out)
   have h14:=B4.out.size
   have h15:=S5.out
   have h18:=S8.out
   have h19:=S9.out
   have lsb : sb < W4.heap.size:=(rw_lt OWN.out sb rfl).2
   have h59:=Q9.out.size
   have h911:=b9.size
   have BW11 : Below W.heap.size W W11:=((BW.out.trans (B4.out.mono (by omega))).trans (B5.out.mono (by omega))).trans ((Q9.out.mono (by omega)).trans (b9.mono (by omega)))
   have TV : Tv c (W4.heap.size+1) W4.heap.size (.pointer (some ⟨W0.heap.size+1,0,none⟩)) W11 (.slice none 0 0) []:=by
    rw [hc]
    refine ⟨?_,?_,⟨0,MF.keep O1.out ?_⟩,World.ownsRow_nil _ _ _ _,⟨wr.heap.size,?_⟩,?_⟩
    ·show W11.heap[W5.heap.size+1]?=some (.cells #[.slice (some ⟨sb,0,none⟩) (szN x).length cz,.pointer (some ⟨W4.heap.size+1,0,none⟩),.pointer (some ⟨W8.heap.size,0,none⟩),.map (some W5.heap.size),.slice none 0 0,.slice none 0 0] 58 (0,0))
     rw [szN_len]
     exact (b9.block _ (by omega)).trans R9.out
    ·exact (b9.block _ (by omega)).trans ((E9.out _ (by omega) (by omega)).trans T3.out)
    ·exact (b9.block _ (by omega)).trans ((E9.out _ (by omega) (by omega)).trans (B8.out.block _ (by omega)))
    ·show W11.ownsRow wr.heap.size 3 1 (.slice (some ⟨sb,0,none⟩) (szN x).length cz) (szN x).length (iV (szN x))
     rw [szN_len]
     refine rw_keep OWN.out fun k hk=>?_
     have hk:=(rw_lt OWN.out k hk).2
     exact (b9.block _ (by omega)).trans ((E9.out _ (by omega) (by omega)).trans ((B8.out.block _ (by omega)).trans (B5.out.block _ hk)))
    ·show W.heap.size ≤ W11.heap.size
     exact BW11.size
   have I11 : Hid (W11.heap[W9.heap.size]?=some (.cells #[.int .i64 0] 3 (0,0))):=(b11.block _ (gl i10)).trans i10
   have N11 : Hid _:=(b11.block _ (gl n10)).trans n10
   have T11 : Hid _:=(b11.block _ (gl t10)).trans t10
   have A11 : Hid _:=(b9.block _ (gl A9.out)).trans A9.out
   have M11 : Hid (W11.heap[W5.heap.size]?=some (.map #[] 0)):=(b9.block _ (by omega)).trans ((E9.out _ (by omega) (by omega)).trans T0.out)
   have hw0:=HW0.out
   have BS11 : Hid (W11.heap[W0.heap.size+1]?=some (.cells #[.map (some W0.heap.size),.pointer none] 76 (0,0))):=(b9.block _ (by omega)).trans ((E9.out _ (by omega) (by omega)).trans ((B8.out.block _ (by omega)).trans ((B5.out.block _ (by omega)).trans ((B4.out.block _ hw0).trans P3.out))))
   have BM11 : Hid (Sm W11 W0.heap.size n' (blN.map bdc)):=MF.keep HM3.out ((b9.block _ (by omega)).trans ((E9.out _ (by omega) (by omega)).trans ((B8.out.block _ (by omega)).trans ((B5.out.block _ (by omega)).trans (B4.out.block _ (by omega))))))
   have HX11 : Hid (LAt W11 (fun b=>b < W.heap.size) (.slice av x.ks.length cv) x.ks):=HX.out.bel BW11
   have hzz:=HZS.out
   have HIT:=kids_it (w:=W11) (rx:=W10.heap.size) (rb:=W5.heap.size+1) (sb:=sb) (c:=cz) (Z:=szN x) (p:=0) y2 y3 HX11.out (ZAt.zk (Z:=szN x) (p:=0) ⟨[],by simp⟩) (by rw [szN_len];exact hz) (by omega) (by omega)
   have HIT' : Hid _:=HIT
   have H11 : Hid (Tv c (W4.heap.size+1) W4.heap.size (.pointer (some ⟨W0.heap.size+1,0,none⟩)) W11 (.slice none 0 0) []):=TV
   have Y1 : Hid (W11.heap[W10.heap.size]?=some (.cells #[.pointer (some ⟨W5.heap.size+1,0,none⟩)] 51 (0,0))):=y1
   have HBW : Hid (Below W.heap.size W W11):=BW11
   have HNUM : Hid (W.heap.size < wr.heap.size∧W0.heap.size+1 < wr.heap.size∧wr.heap.size ≤ W4.heap.size∧W5.heap.size=W4.heap.size+2∧W8.heap.size=W5.heap.size+3∧W9.heap.size=W8.heap.size+1∧sb < W4.heap.size∧W9.heap.size ≤ W11.heap.size):=⟨lW,hw0,h14,h15,h18,h19,lsb,h911⟩
   clear TV HIT y1 y2 y3 b9 b10 b11 BW11 i10 n9 t9 n10 t10 lW h14 h15 h18 h19 lsb h59 h911 hw0 hzz l8 hc
   gi_wp2_with (refine ⟨trivial,?_⟩;gi_at_call 33;refine (callsIn_wide.2 CK).mono ?_;rintro e w' ⟨rfl,hw⟩;obtain rfl:=hw.symm)
   clear CK hW10 hW11 a0 a1 a2 a3 e6 d10 f10 hset hmm
   have HOW : Hid (∀ b,b < W.heap.size→¬ (OwnT c W4.heap.size (.slice none 0 0) b ∨ b=W9.heap.size)):=fun b hb q=>by
    rw [HC.out] at q
    have:=HNUM.out
    rcases q with (q | q | q) | q
    ·have q : b=W5.heap.size+1:=q
     omega
    ·omega
    ·simp [Value.ownBlock] at q
    ·omega
   refine range_law2 (gf:=57) (lb:=#[.pointer (some ⟨W10.heap.size+1+1,0,none⟩),.pointer (some ⟨W10.heap.size+1,0,none⟩),.pointer (some ⟨W10.heap.size,0,none⟩)]) rfl (enters_of Tryz.func57 (by kernel_rfl) rfl) (Gk (fun b=>b < W.heap.size) 0 x.ks) x.ks.length (by rintro k args W ⟨_,_,_,rfl,_⟩;rfl) (Rk W10.heap.size (W5.heap.size+1) sb cz (szN x) (fun b=>b < W.heap.size) (.slice av x.ks.length cv) x.ks) HIT'.out
    (fun k X=>Jn c (W4.heap.size+1) W4.heap.size (.pointer (some ⟨W0.heap.size+1,0,none⟩)) W9.heap.size W11 (ptJL (x.ks.take k) 1 0) ((k : Nat) : Int) X)
    (fun k X hJ=>by
     have z1:=Jn.box (vt:=.nilFunc) H11.out I11.out hJ Y1.out (by decide)
     obtain ⟨vt',g1,gi,g2,g3⟩:=hJ
     have g4:=(box6 g1.r).1.1
     have g5:=g1.z
     rw [HC.out] at g4 g5
     exact ⟨by simp [World.cell?,z1],g4,g5,HX11.out.keep g2.size (fun b hb hl=>g2.block b hl (HOW.out b hb))⟩) (fun k X Z hJ b=>hJ.bel b) (fun k X l r o hJ hl hr=>hJ.put hl (by simp [hr]) (by simp [hr]) o) (by
     show Jn _ _ _ _ _ _ _ _ _
     rw [List.take_zero,ptJL]
     exact ⟨_,H11.out,I11.out,Kpt.refl _ _,fun k hk=>by simp [Value.ownBlock] at hk⟩)
    (fun k args Wx a' W'=>∃ (hk : k < x.ks.length) (kb : Nat) (ak : Option Addr) (ck : Nat),Wx.heap.size ≤ kb∧a'.defers=[]∧a'.tmps.size=54∧a'.tmps.getD 1 undef = .pointer (some ⟨W.heap.size,0,none⟩)∧a'.tmps.getD 6 undef = .pointer (some ⟨W5.heap.size+1+1,0,none⟩)∧a'.tmps.getD 7 undef = .pointer (some ⟨W9.heap.size,0,none⟩)∧a'.tmps.getD 8 undef = .int .i64 ((0+1+sizes (x.ks.take k) : Nat) : Int)∧a'.tmps.getD 9 undef = .pointer (some ⟨kb,0,none⟩)∧W'.heap[kb]?=some (nO x.ks[k] (.slice ak x.ks[k].ks.length ck))∧LAt W' (fun b=>b < W.heap.size) (.slice ak x.ks[k].ks.length ck) x.ks[k].ks) ?assign ?body ?done
   case assign =>
    rintro l k args Wx K ⟨hk,ak,ck,rfl,hlk⟩ hJ hK
    unfold Nd.v
    gi_wp2
    refine hK _ _ (bel_a _ _) ?_
    exact ⟨hk,Wx.heap.size,ak,ck,Nat.le_refl _,rfl,rfl,rfl,rfl,rfl,by simp,rfl,hnew _ rfl,hlk.bel (bel_a _ _)⟩
   case body =>
    rintro D l k args ⟨tmps,defers⟩ Wx Wa Wb hG hJ hba ⟨hk,kb,ak,ck,hkb,hd,hs,h1,h6,h7,h8,h9,hm,hlk⟩ hlt hwl ho hs2 ⟨r2,hl2⟩ ⟨dr,hd2⟩ hJ2
    obtain rfl : defers=[]:=hd
    obtain ⟨f,rfl⟩:=frame54 hs h1 h6 h7 h8 h9
    have mk:=(ho kb (by omega)).trans hm
    have hb11:=HBW.out.size
    have hlb : LAt Wb (fun b=>b < W.heap.size) (.slice ak x.ks[k].ks.length ck) x.ks[k].ks:=hlk.keep (Nat.le_of_eq hs2.symm) (fun b hb hl=>ho b (by omega))
    have z6:=Jn.box (vt:=.nilFunc) H11.out I11.out hJ2 T11.out (by decide)
    obtain ⟨vt',g1,gi,g2,g3⟩:=hJ2
    have q6 : Wb.cell? ⟨W5.heap.size+1+1,0,none⟩=some (.pointer (some ⟨W5.heap.size+1,0,none⟩)):=by simp [World.cell?,z6]
    have q7 : Wb.cell? ⟨W9.heap.size,0,none⟩=some (.int .i64 ((k : Nat) : Int)):=by simp [World.cell?,gi]
    obtain ⟨⟨v0,v1,v2,v3⟩,_⟩:=box4 mk
    obtain ⟨hpre,hdn,hpks⟩:=HPK.out x.ks[k] (List.getElem_mem hk)
    have hlen:=ptJL_len (x.ks.take k) 1 0
    have htk:=take_sizes x.ks hk
    have htl:=take_sizes_le x.ks (k+1)
    have hzz:=HZS.out
    have hks:=sizes_len x.ks
    have rbE : c.rb=W5.heap.size+1:=by rw [HC.out]
    have CT:=declareItem_any g1 x.ks[k] _ hlb (fun b hb=>by rw [HC.out];have:=HNUM.out;exact ⟨hb,by show b ≠ W5.heap.size+1;omega,by omega⟩) hpre hpks (0+1+sizes (x.ks.take k)) ((k : Nat) : Int) (by rw [HC.out];exact (ZAt.kids (Z:=szN x) (p:=0) ⟨[],by simp⟩).at hk) hdn (by omega) (by rw [HC.out];show (szN x).length ≤ _;rw [szN_len];exact hz)
    rw [rbE] at CT
    have HTk : Hid (ptJL (x.ks.take (k+1)) 1 0=ptJL (x.ks.take k) 1 0 ++ ptJ x.ks[k] ((0+1+sizes (x.ks.take k) : Nat) : Int) ((k : Nat) : Int)):=by
     show _=_
     have e : (1 : Int)+(sizes (x.ks.take k) : Int)=((0+1+sizes (x.ks.take k) : Nat) : Int):=by push_cast;omega
     have e2 : (0 : Int)+((x.ks.take k).length : Int)=((k : Nat) : Int):=by rw [List.length_take];omega
     rw [List.take_succ_eq_append_getElem hk,ptJL_app,ptJL,ptJL,List.append_nil,e,e2]
    have HLD : Hid (∀ Wc vt5,Tv c (W4.heap.size+1) W4.heap.size (.pointer (some ⟨W0.heap.size+1,0,none⟩)) Wc vt5 (ptJL (x.ks.take k) 1 0 ++ ptJ x.ks[k] ((0+1+sizes (x.ks.take k) : Nat) : Int) ((k : Nat) : Int))→Kpt (OwnT c W4.heap.size vt') Wb Wc→(∀ k,vt5.ownBlock=some k→vt'.ownBlock=some k ∨ Wb.heap.size ≤ k)→Wc.cell? ⟨W9.heap.size,0,none⟩=some (.int .i64 ((k : Nat) : Int))∧Wc.frozen? ⟨W9.heap.size,0,none⟩=false∧Jn c (W4.heap.size+1) W4.heap.size (.pointer (some ⟨W0.heap.size+1,0,none⟩)) W9.heap.size W11 (ptJL (x.ks.take (k+1)) 1 0) (((k+1 : Nat)) : Int) (Wc.setCell ⟨W9.heap.size,0,none⟩ (.int .i64 (((k : Nat) : Int)+1)))∧(Wc.setCell ⟨W9.heap.size,0,none⟩ (.int .i64 (((k : Nat) : Int)+1))).heap[l]?=Wb.heap[l]?∧(Wc.setCell ⟨W9.heap.size,0,none⟩ (.int .i64 (((k : Nat) : Int)+1))).heap[D]?=Wb.heap[D]?):=fun Wc vt5 h5 k5 o5=>by
     have ic:=g1.kept k5 gi (by decide)
     have nl : l ≠ W9.heap.size:=fun e=>by rw [e,gi] at hl2;injection hl2 with hl2;cases hl2
     have nd : D ≠ W9.heap.size:=fun e=>by rw [e,gi] at hd2;injection hd2 with hd2;cases hd2
     have e : (((k+1 : Nat)) : Int)=((k : Nat) : Int)+1:=by push_cast;rfl
     refine ⟨by simp [World.cell?,ic],by simp [World.frozen?,ic],?_,(Below.heap_setCell _ _ _ _ nl).trans (k5.block l (gl hl2) (g1.farO (by simp [hl2]) (by simp [hl2]))),(Below.heap_setCell _ _ _ _ nd).trans (k5.block D (gl hd2) (g1.farO (by simp [hd2]) (by simp [hd2])))⟩
     rw [HTk.out,e]
     refine ⟨vt5,h5.setI ic (by rw [HC.out];show sb ≠ _;have:=HNUM.out;omega) _,by simp [World.setCell,Array.getElem?_modify,ic],(g2.trans (N:=OwnT c W4.heap.size vt') k5 (fun j hj q=>?_)).trans (Kpt.set (M:=fun b=>b=W9.heap.size) _ _ _ _ rfl) (fun _ _ q=>.inr q),fun j hj=>?_⟩
     ·rcases q with q | q | q
      ·exact .inl (.inl q)
      ·exact .inl (.inr (.inl q))
      ·have:=g3 j q;omega
     ·rcases o5 j hj with q | q
      ·exact g3 j q
      ·exact Nat.le_trans g2.size q
    unfold Nd.v at CT
    have hk4 : ((k : Nat) : Int) ≤ 4194304:=by omega
    have hk0 : 0 ≤ ((k : Nat) : Int):=by omega
    clear hJ hba hm hG ho mk hlt h1 h6 h7 h8 h9 hs hl2 hd2 hlk hlb hpre hpks g1 g2 g3 gi z6 HTk hlen htk htl hzz hks rbE hdn hb11
    generalize x.ks[k]=ki at *
    gi_wp2_with (refine ⟨trivial,?_⟩;gi_at_call 34;refine (CallsIn.inRound l (callsIn_wide.2 CT)).mono ?_;rintro e Wc ⟨rfl,vt5,h5,k5,o5⟩;obtain ⟨ic,fc,j1,j2,j3⟩:=HLD.out Wc vt5 h5 k5 o5)
    exact ⟨j1,j2,j3⟩
   case done =>
    rintro D WD hD hJN hdef
    rw [List.take_length] at hJN
    have z6:=Jn.box (vt:=.nilFunc) H11.out I11.out hJN T11.out (by decide)
    have q6 : WD.cell? ⟨W5.heap.size+1+1,0,none⟩=some (.pointer (some ⟨W5.heap.size+1,0,none⟩)):=by simp [World.cell?,z6]
    have HFIN : Hid (NrA x W (.returned (.pointer (some ⟨W5.heap.size+1,0,none⟩))) (WD.putObj D (.deferred none))):=by
     have hJ:=hJN.put hD (by simp [hdef]) (by simp [hdef]) (.deferred none)
     have y1:=Jn.box (vt:=.nilFunc) H11.out I11.out hJ BS11.out (by decide)
     have y2:=Jn.box (vt:=.nilFunc) H11.out I11.out hJ A11.out (by decide)
     obtain ⟨vt',g1,gi,g2,g3⟩:=hJ
     have nn:=HNUM.out
     have kk : ∀ k,k < W11.heap.size→k ≠ W5.heap.size+1→k ≠ W4.heap.size→k ≠ W9.heap.size→(WD.putObj D (.deferred none)).heap[k]?=W11.heap[k]?:=fun k hk h1 h2 h3=>g2.block k hk (fun q=>by
      rw [HC.out] at q
      rcases q with (q | q | q) | q
      ·exact h1 q
      ·exact h2 q
      ·simp [Value.ownBlock] at q
      ·exact h3 q)
     obtain ⟨n1,hm1⟩:=g1.m
     refine ⟨c,W4.heap.size+1,W4.heap.size,(.pointer (some ⟨W0.heap.size+1,0,none⟩)),vt',by rw [HC.out],by rw [HC.out],by rw [HC.out],g1,?_,?_,?_,HBW.out.trans (g2.bel HBW.out.size HOW.out),by rw [HC.out];show _ ≤ W5.heap.size+1;omega,by rw [HC.out];show _ ≤ W5.heap.size;omega,by omega⟩
     ·exact .cons _ _ n1 _ _ _ (by rw [HC.out];show W4.heap.size+1 ≠ W5.heap.size;omega) (by rw [HC.out];show W4.heap.size ≠ W5.heap.size;omega) g1.s hm1 (.cons _ _ n' _ _ _ (by rw [HC.out];show W0.heap.size+1 ≠ W5.heap.size;omega) (by rw [HC.out];show W0.heap.size ≠ W5.heap.size;omega) y1 (MF.keep BM11.out (kk _ (by omega) (by omega) (by omega) (by omega))) .nil)
     ·have e : c.va = .pointer (some ⟨W8.heap.size,0,none⟩):=by rw [HC.out]
      rw [e]
      exact .cons _ _ n1 _ _ _ (by rw [HC.out];show W8.heap.size ≠ W5.heap.size;omega) (by rw [HC.out];show W4.heap.size ≠ W5.heap.size;omega) y2 hm1 .nil
     ·have e : c.eb=W5.heap.size:=by rw [HC.out]
      rw [e]
      exact (kk _ (by omega) (by omega) (by omega) (by omega)).trans M11.out
    clear hJN z6
    gi_wp2
    refine ⟨by simp,.inl ⟨_,_,rfl,run_takeDeferred hdef,?_⟩⟩
    exact ⟨_,res_one Tryz.results19 rfl,HFIN.out⟩
end Go.Proofs.YtfcocoadaajbjaaGreatDoor
