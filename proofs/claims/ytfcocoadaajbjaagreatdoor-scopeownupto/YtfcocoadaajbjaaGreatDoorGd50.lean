/- Own text. Names in scopes: two scopes of the same tops and uses are the same (the document's Same). ScopeOwn: rows that are spoilt,and what is left as it was. -/
import Derived.Test.YtfcocoadaajbjaaGreatDoorGd13
import Derived.Test.YtfcocoadaajbjaaGreatDoorGd48
import Derived.OneCell
set_option linter.unusedVariables false
set_option linter.unusedSimpArgs false
set_option maxRecDepth 100000
set_option maxHeartbeats 16000000
namespace Go.Proofs.YtfcocoadaajbjaaGreatDoor
open Go.RowKit Go.MapKept
theorem ssame_any (T : List Tp) (U : List Us) (W : World) (B1 B2 : Nat) (t1 u1 t2 u2 : Value) (r1 : W.ownsRow B1 43 5 t1 T.length (tpV T)) (s1 : W.ownsRow B1 37 5 u1 U.length (usV U))
 (r2 : W.ownsRow B2 43 5 t2 T.length (tpV T)) (s2 : W.ownsRow B2 37 5 u2 U.length (usV U)) (lt : T.length ≤ 4194304) (lu : U.length ≤ 4194304) :
 Calls Tryz.prog 17 #[.agg #[t1,u1],.agg #[t2,u2]] W fun e W'=>e = .returned (.bool true)∧Below W.heap.size W W':=by
 have R1 : Hid _:=r1
 have R2 : Hid _:=r2
 have S1 : Hid _:=s1
 have S2 : Hid _:=s2
 obtain ⟨a1,c1,rfl⟩:=rw_form r1
 obtain ⟨a2,c2,rfl⟩:=rw_form r2
 obtain ⟨d1,e1,rfl⟩:=rw_form s1
 obtain ⟨d2,e2,rfl⟩:=rw_form s2
 clear r1 r2 s1 s2
 obtain ⟨W0,hW0⟩ : ∃ X,(W.alloc (.cells #[.slice a1 T.length c1,.slice d1 U.length e1] 28)).alloc (.cells #[.slice a2 T.length c2,.slice d2 U.length e2] 28)=X:=⟨_,rfl⟩
 have b0 : Below W.heap.size W W0:=by rw [← hW0];exact bel2 _ _ _
 have m0 : W0.heap[W.heap.size]?=some (.cells #[.slice a1 T.length c1,.slice d1 U.length e1] 28 (0,0)):=by rw [← hW0];exact hold _ (by simp) (hnew _ rfl)
 have m1 : W0.heap[W.heap.size+1]?=some (.cells #[.slice a2 T.length c2,.slice d2 U.length e2] 28 (0,0)):=by rw [← hW0];exact hnew _ (by simp)
 have HC : Hid (∀ X,Below W0.heap.size W0 X→X.cell? ⟨W.heap.size,0,none⟩=some (.slice a1 T.length c1)∧X.cell? ⟨W.heap.size,1,none⟩=some (.slice d1 U.length e1)∧X.cell? ⟨W.heap.size+1,0,none⟩=some (.slice a2 T.length c2)∧X.cell? ⟨W.heap.size+1,1,none⟩=some (.slice d2 U.length e2)):=fun X b=>by
  have h0:=(b.block _ (gl m0)).trans m0
  have h1:=(b.block _ (gl m1)).trans m1
  refine ⟨?_,?_,?_,?_⟩ <;> simp [World.cell?,h0,h1]
 have HT : Hid (∀ X,Below W0.heap.size W0 X→∀ k (hk : k < T.length),∃ g g',a1=some ⟨g,0,none⟩∧a2=some ⟨g',0,none⟩∧(X.cell? ⟨g,k * 5,none⟩=some (.string T[k].nm)∧X.cell? ⟨g,k * 5+1,none⟩=some (.int .i64 T[k].kd)∧X.cell? ⟨g,k * 5+2,none⟩=some (.int .i64 T[k].at_)∧X.cell? ⟨g,k * 5+3,none⟩=some (.int .i64 T[k].it)∧X.cell? ⟨g,k * 5+4,none⟩=some (.bool T[k].cn))∧(X.cell? ⟨g',k * 5,none⟩=some (.string T[k].nm)∧X.cell? ⟨g',k * 5+1,none⟩=some (.int .i64 T[k].kd)∧X.cell? ⟨g',k * 5+2,none⟩=some (.int .i64 T[k].at_)∧X.cell? ⟨g',k * 5+3,none⟩=some (.int .i64 T[k].it)∧X.cell? ⟨g',k * 5+4,none⟩=some (.bool T[k].cn))):=fun X b k hk=>by
  have bb:=b0.trans (b.mono b0.size)
  obtain ⟨g,c,h,q⟩:=tp_at (row_bel R1.out bb) hk
  obtain ⟨g',c',h',q'⟩:=tp_at (row_bel R2.out bb) hk
  injection h with h1 h2 h3
  injection h' with h1' h2' h3'
  exact ⟨g,g',h1,h1',q,q'⟩
 have HU : Hid (∀ X,Below W0.heap.size W0 X→∀ k (hk : k < U.length),∃ g g',d1=some ⟨g,0,none⟩∧d2=some ⟨g',0,none⟩∧(X.cell? ⟨g,k * 5,none⟩=some (.int .i64 U[k].at_)∧X.cell? ⟨g,k * 5+1,none⟩=some (.int .i64 U[k].kd)∧X.cell? ⟨g,k * 5+2,none⟩=some (.int .i64 U[k].dc)∧X.cell? ⟨g,k * 5+3,none⟩=some (.string U[k].nm)∧X.cell? ⟨g,k * 5+4,none⟩=some (.bool U[k].ty))∧(X.cell? ⟨g',k * 5,none⟩=some (.int .i64 U[k].at_)∧X.cell? ⟨g',k * 5+1,none⟩=some (.int .i64 U[k].kd)∧X.cell? ⟨g',k * 5+2,none⟩=some (.int .i64 U[k].dc)∧X.cell? ⟨g',k * 5+3,none⟩=some (.string U[k].nm)∧X.cell? ⟨g',k * 5+4,none⟩=some (.bool U[k].ty))):=fun X b k hk=>by
  have bb:=b0.trans (b.mono b0.size)
  obtain ⟨g,c,h,q⟩:=us_at (row_bel S1.out bb) hk
  obtain ⟨g',c',h',q'⟩:=us_at (row_bel S2.out bb) hk
  injection h with h1 h2 h3
  injection h' with h1' h2' h3'
  exact ⟨g,g',h1,h1',q,q'⟩
 have B0 : Hid (Below W.heap.size W W0):=b0
 obtain ⟨p0,p1,p2,p3⟩:=HC.out W0 (Below.refl _ _)
 clear b0 m0 m1 R1 R2 S1 S2
 go_enter Tryz.func17,Tryz.ntmps17
 go_wp2
 clear hW0
 go_loopw [5] (fun v5 wo=>∃ k : Nat,v5 = .int .i64 (k : Nat)∧k ≤ T.length∧Hid (Below W0.heap.size W0 wo)) (fun v5 _=>T.length - (intOf v5).toNat)
 case atStart=>exact ⟨0,rfl,by omega,Below.refl _ _⟩
 case round =>
  obtain ⟨k,rfl,hk,HB⟩:=hrel
  clear p0 p1 p2 p3
  obtain ⟨p0,p1,p2,p3⟩:=HC.out wr HB.out
  by_cases hkl : k < T.length
  ·obtain ⟨g,g',ha,ha',⟨q0,q1,q2,q3,q4⟩,⟨z0,z1,z2,z3,z4⟩⟩:=HT.out wr HB.out k hkl
   subst ha ha'
   have hd : (k : Int) < (T.length : Int):=by omega
   generalize T[k]=t at *
   go_wp2_with fail
   go_region
   go_wp2
   go_roundw
   case rel=>exact ⟨k+1,by simp,by omega,HB.out.drew⟩
   case measure=>simp [intOf];omega
  ·obtain rfl : k=T.length:=by omega
   have hd : ¬ ((T.length : Nat) : Int) < ((T.length : Nat) : Int):=by omega
   go_wp2
   go_loopw [6] (fun v6 wo=>∃ k : Nat,v6 = .int .i64 (k : Nat)∧k ≤ U.length∧Hid (Below W0.heap.size W0 wo)) (fun v6 _=>U.length - (intOf v6).toNat)
   case atStart=>exact ⟨0,rfl,by omega,HB.out⟩
   case round =>
    obtain ⟨k,rfl,hk,HB2⟩:=hrel
    clear p0 p1 p2 p3
    obtain ⟨p0,p1,p2,p3⟩:=HC.out wr HB2.out
    by_cases hkl : k < U.length
    ·obtain ⟨g,g',ha,ha',⟨q0,q1,q2,q3,q4⟩,⟨z0,z1,z2,z3,z4⟩⟩:=HU.out wr HB2.out k hkl
     subst ha ha'
     have hd : (k : Int) < (U.length : Int):=by omega
     generalize U[k]=u at *
     go_wp2_with fail
     go_region
     go_wp2
     go_roundw
     case rel=>exact ⟨k+1,by simp,by omega,HB2.out.drew⟩
     case measure=>simp [intOf];omega
    ·obtain rfl : k=U.length:=by omega
     have hd : ¬ ((U.length : Nat) : Int) < ((U.length : Nat) : Int):=by omega
     go_wp2
     go_ret
     exact ⟨rfl,B0.out.trans (HB2.out.mono B0.out.size)⟩
def tL (x : Nd) : List Tp:=if (formP x=5 ∨ formP x=6)∧(dRes x).er=0 then (dRes x).tops else []
def uL (x : Nd) : List Us:=if (formP x=5 ∨ formP x=6)∧(dRes x).er=0 then (dRes x).uses else []
theorem SAns.rows {x : Nd} {W : World} {e : Ending} {W' : World} (h : SAns x W e W') : Below W.heap.size W W'∧∃ vt vu a b,e = .returned (.tuple #[.agg #[vt,vu],.int .i64 a,.int .i64 b])∧W'.ownsRow W.heap.size 43 5 vt (tL x).length (tpV (tL x))∧W'.ownsRow W.heap.size 37 5 vu (uL x).length (usV (uL x)):=by
 obtain ⟨b,h⟩:=h
 refine ⟨b,?_⟩
 rcases h with ⟨hok,vt,vu,rfl,h1,h2⟩ | ⟨hno,a,c,hc,rfl⟩
 ·have e1 : tL x=(dRes x).tops:=if_pos hok
  have e2 : uL x=(dRes x).uses:=if_pos hok
  exact ⟨vt,vu,0,0,rfl,by rw [e1];exact h1,by rw [e2];exact h2⟩
 ·have e1 : tL x=[]:=if_neg hno
  have e2 : uL x=[]:=if_neg hno
  exact ⟨_,_,a,c,rfl,by rw [e1];exact World.ownsRow_nil ..,by rw [e2];exact World.ownsRow_nil ..⟩
theorem pres_rows (x : Nd) (v : Value) (W : World) (hx : LAt W (fun b=>b < W.heap.size) v x.ks) (hz : x.size ≤ 4194304) (tx : x.tx) (he : WEnv W) : Calls Tryz.prog 7 #[x.v v] W fun e W'=>Below W.heap.size W W'∧∃ vt vu a b,e = .returned (.tuple #[.agg #[vt,vu],.int .i64 a,.int .i64 b])∧W'.ownsRow W.heap.size 43 5 vt (tL x).length (tpV (tL x))∧W'.ownsRow W.heap.size 37 5 vu (uL x).length (usV (uL x)) :=
 (presolve_any x v W hx hz tx he).mono fun _ _ h=>h.rows
theorem rres_rows (x : Nd) (v : Value) (W : World) (hx : LAt W (fun b=>b < W.heap.size) v x.ks) (hz : x.size ≤ 4194304) (tx : x.tx) : Calls Tryz.prog 8 #[x.v v] W fun e W'=>Below W.heap.size W W'∧∃ vt vu a b,e = .returned (.tuple #[.agg #[vt,vu],.int .i64 a,.int .i64 b])∧W'.ownsRow W.heap.size 43 5 vt (tL x).length (tpV (tL x))∧W'.ownsRow W.heap.size 37 5 vu (uL x).length (usV (uL x)) :=
 (rresolve_any x v W hx hz tx).mono fun _ _ h=>h.rows
theorem tu_len (x : Nd) : (tL x).length ≤ x.size∧(uL x).length ≤ x.size:=by
 obtain ⟨h1,h2⟩:=res_len x
 have:=x.size_pos
 unfold tL uL
 constructor
 ·split
  ·exact h2
  ·simp
 ·split
  ·exact h1
  ·simp
theorem rows_ne {W : World} {B n m : Nat} {vt vu : Value} {xs ys : List Value} (h1 : W.ownsRow B 43 5 vt n xs) (h2 : W.ownsRow B 37 5 vu m ys) : ∀ g,vu.ownBlock=some g→vt.ownBlock ≠ some g:=by
 intro g q w
 obtain ⟨c1,e1⟩:=own_cells h2 q
 obtain ⟨c2,e2⟩:=own_cells h1 w
 rw [e1] at e2
 injection e2 with e2
 injection e2 with _ e3
 exact absurd e3 (by decide)
theorem row_kpt {W X : World} {M : Nat→Prop} {base : Nat} {e : TypeId} {size : Nat} {v : Value} {n : Nat} {xs : List Value} (h : W.ownsRow base e size v n xs) (k : Kpt M W X) (hM : ∀ b,M b→b < base) : X.ownsRow base e size v n xs:=by
 refine ⟨h.1,?_⟩
 rcases h.2 with hn | ⟨g,cap,cur,rfl,hb,hg,r⟩
 ·exact .inl hn
 ·exact .inr ⟨g,cap,cur,rfl,hb,(k.block g (gl hg) (fun q=>by have:=hM g q;omega)).trans hg,r⟩
theorem own_has {W : World} {B : Nat} {e : TypeId} {g n c : Nat} {xs : List Value} (h : W.ownsRow B e 5 (.slice (some ⟨g,0,none⟩) n c) n xs) {j : Nat} (hj : j < n * 5) : ∃ v,W.cell? ⟨g,j,none⟩=some v :=
 ⟨xs[j]'(by rw [h.1];exact hj),by rw [h.cellAt j hj];exact List.getElem?_eq_getElem _⟩
structure Spo (lo hi : Nat) (WC : World) (vt vu : Value) (n m : Nat) (W : World) : Prop where
 t : ∃ xs,W.ownsRow lo 43 5 vt n xs
 u : ∃ xs,W.ownsRow lo 37 5 vu m xs
 k : Kpt (fun b=>lo ≤ b∧b < hi) WC W
theorem Spo.st {lo hi : Nat} {WC W : World} {g c n m : Nat} {vu : Value} (h : Spo lo hi WC (.slice (some ⟨g,0,none⟩) n c) vu n m W) (hg : lo ≤ g∧g < hi) (j : Nat) (q : Value) : Spo lo hi WC (.slice (some ⟨g,0,none⟩) n c) vu n m (W.setCell ⟨g,j,none⟩ q):=by
 obtain ⟨xs,ht⟩:=h.t
 obtain ⟨ys,hu⟩:=h.u
 exact ⟨⟨_,(ht.stored j q).1⟩,⟨ys,ownsRow_setCell_other hu (fun w=>rows_ne ht hu g w rfl) q⟩,h.k.trans (Kpt.set (M:=fun b=>lo ≤ b∧b < hi) _ g j q hg) (fun i _ z=>z)⟩
theorem Spo.su {lo hi : Nat} {WC W : World} {g c n m : Nat} {vt : Value} (h : Spo lo hi WC vt (.slice (some ⟨g,0,none⟩) m c) n m W) (hg : lo ≤ g∧g < hi) (j : Nat) (q : Value) : Spo lo hi WC vt (.slice (some ⟨g,0,none⟩) m c) n m (W.setCell ⟨g,j,none⟩ q):=by
 obtain ⟨xs,ht⟩:=h.t
 obtain ⟨ys,hu⟩:=h.u
 exact ⟨⟨xs,ownsRow_setCell_other ht (fun w=>rows_ne ht hu g rfl w) q⟩,⟨_,(hu.stored j q).1⟩,h.k.trans (Kpt.set (M:=fun b=>lo ≤ b∧b < hi) _ g j q hg) (fun i _ z=>z)⟩
theorem five_has {W : World} {B : Nat} {e : TypeId} {g n c : Nat} {xs : List Value} (h : W.ownsRow B e 5 (.slice (some ⟨g,0,none⟩) n c) n xs) {k : Nat} (hk : k < n) :
 (∃ v0 v1 v2 v3 v4,W.cell? ⟨g,k * 5,none⟩=some v0∧W.cell? ⟨g,k * 5+1,none⟩=some v1∧W.cell? ⟨g,k * 5+2,none⟩=some v2∧W.cell? ⟨g,k * 5+3,none⟩=some v3∧W.cell? ⟨g,k * 5+4,none⟩=some v4)∧∀ j,W.frozen? ⟨g,j,none⟩=false:=by
 obtain ⟨v0,h0⟩:=own_has h (j:=k * 5) (by omega)
 obtain ⟨v1,h1⟩:=own_has h (j:=k * 5+1) (by omega)
 obtain ⟨v2,h2⟩:=own_has h (j:=k * 5+2) (by omega)
 obtain ⟨v3,h3⟩:=own_has h (j:=k * 5+3) (by omega)
 obtain ⟨v4,h4⟩:=own_has h (j:=k * 5+4) (by omega)
 exact ⟨⟨v0,v1,v2,v3,v4,h0,h1,h2,h3,h4⟩,fun j=>h.frozenAt j⟩
theorem grown_t {lo hi : Nat} {WC W W' : World} {vt : Value} (k : Kpt (fun b=>lo ≤ b∧b < hi) WC W) (hg : W.grownBy W' vt.ownBlock) (hb : ∀ b,vt.ownBlock=some b→lo ≤ b∧b < hi) : Kpt (fun b=>lo ≤ b∧b < hi) WC W' :=
 k.trans (Kpt.grown (M:=fun b=>lo ≤ b∧b < hi) hg hb) (fun i _ z=>z)
theorem Kpt.al {M : Nat→Prop} {a W : World} (k : Kpt M a W) (o : Obj) : Kpt M a (W.alloc o):=k.trans (Kpt.of (M:=M) (bel_a _ _)) (fun _ _ h=>h)
theorem rows_nu {W : World} {B n m : Nat} {vt vu : Value} {xs ys : List Value} (h1 : W.ownsRow B 43 5 vt n xs) (h2 : W.ownsRow B 37 5 vu m ys) : vu.ownBlock=none ∨ vu.ownBlock ≠ vt.ownBlock:=by
 cases q : vu.ownBlock with
 | none=>exact .inl rfl
 | some g=>exact .inr (fun w=>rows_ne h1 h2 g q w.symm)
end Go.Proofs.YtfcocoadaajbjaaGreatDoor
