/- Own text. Package scope: the resolver in memory;a use is added. -/
import Derived.Test.YtfcocoadaajbjaaGreatDoorGd16
import Derived.Test.YtfcocoadaajbjaaGreatDoorGd06
set_option linter.unusedVariables false
set_option linter.unusedSimpArgs false
set_option maxRecDepth 100000
set_option maxHeartbeats 8000000
namespace Go.Proofs.YtfcocoadaajbjaaGreatDoor
open Go.RowKit Go.MapKept
structure Rc where
 rb : Nat
 sb : Nat
 cz : Nat
 eb : Nat
 ax : Nat
 B : Nat
 Z : List Nat
 vn : Value
 va : Value
 vt : Value
def exF (E : List ByteArray) (nm : ByteArray) : Option Unit:=if E.any (eqT · nm)=true then some () else none
abbrev Em (w : World) (m n : Nat) (E : List ByteArray) : Prop:=MF (fun _ : ByteArray=>True) (fun k : ByteArray=>Value.string k) (fun _ : Unit=>Value.agg #[]) w m n (exF E)
structure Rv (c : Rc) (W : World) (p : Int) (E : List ByteArray) (vu : Value) (U : List Us) : Prop where
 r : W.heap[c.rb]?=some (.cells #[.slice (some ⟨c.sb,0,none⟩) c.Z.length c.cz,c.vn,c.va,.map (some c.eb),c.vt,vu] 58 (0,0))
 a : W.heap[c.ax]?=some (.cells #[.int .i64 p] 3 (0,0))
 e : ∃ n,Em W c.eb n E
 u : W.ownsRow c.B 37 5 vu U.length (usV U)
 z : Zr W c.sb c.cz c.Z
 d : c.sb ≠ c.ax
 b : c.B ≤ W.heap.size
def Own (c : Rc) (vu : Value) (k : Nat) : Prop:=k=c.rb ∨ k=c.eb ∨ k=c.ax ∨ vu.ownBlock=some k
theorem Rv.far {c : Rc} {W : World} {p : Int} {E : List ByteArray} {vu : Value} {U : List Us} (h : Rv c W p E vu U) {k : Nat} {cs : Array Value} {t : TypeId} {fr : Nat × Nat} (hk : W.heap[k]?=some (.cells cs t fr)) (ht : t ≠ 58∧t ≠ 37∧t ≠ 3) : ¬ Own c vu k:=by
 rintro (q | q | q | q)
 ·subst q;rw [h.r] at hk;injection hk with hk;injection hk with _ hk;exact ht.1 hk.symm
 ·subst q
  obtain ⟨n,es,clock,hb,_⟩:=h.e
  rw [hb] at hk;injection hk with hk;cases hk
 ·subst q;rw [h.a] at hk;injection hk with hk;injection hk with _ hk;exact ht.2.2 hk.symm
 ·obtain ⟨cur,hb⟩:=own_cells h.u q
  rw [hb] at hk;injection hk with hk;injection hk with _ hk;exact ht.2.1 hk.symm
theorem Rv.kept {c : Rc} {W W' : World} {p : Int} {E : List ByteArray} {vu : Value} {U : List Us} (h : Rv c W p E vu U) (q : Kpt (Own c vu) W W') {k : Nat} {cs : Array Value} {t : TypeId} {fr : Nat × Nat} (hk : W.heap[k]?=some (.cells cs t fr)) (ht : t ≠ 58∧t ≠ 37∧t ≠ 3) : W'.heap[k]?=some (.cells cs t fr) :=
 (q.block k (gl hk) (h.far hk ht)).trans hk
theorem Rv.farM {c : Rc} {W : World} {p : Int} {E : List ByteArray} {vu : Value} {U : List Us} (h : Rv c W p E vu U) {k : Nat} {es : Array MapEntry} {cl : Nat} (hk : W.heap[k]?=some (.map es cl)) (hn : k ≠ c.eb) : ¬ Own c vu k:=by
 rintro (q | q | q | q)
 ·subst q;rw [h.r] at hk;injection hk with hk;cases hk
 ·exact hn q
 ·subst q;rw [h.a] at hk;injection hk with hk;cases hk
 ·obtain ⟨cur,hb⟩:=own_cells h.u q
  rw [hb] at hk;injection hk with hk;cases hk
theorem Rv.sat {c : Rc} {W W' : World} {p : Int} {E : List ByteArray} {vu : Value} {U : List Us} (h : Rv c W p E vu U) (q : Kpt (Own c vu) W W') {v : Value} {F : List (List Dc)} (hs : SAt W (fun k=>k ≠ c.eb) v F) : SAt W' (fun k=>k ≠ c.eb) v F:=by
 induction hs with
 | nil=>exact .nil
 | cons b m n v f F hS hM hb hm hs ih =>
  refine .cons b m n v f F hS hM (h.kept q hb (by decide)) ?_ ih
  have hm0:=hm
  obtain ⟨es,clock,hb,_⟩:=hm0
  exact MF.keep hm (q.block m hm.lt (h.farM hb hM))
theorem Rv.bel {c : Rc} {W W' : World} {p : Int} {E : List ByteArray} {vu : Value} {U : List Us} (h : Rv c W p E vu U) (b : Below W.heap.size W W') : Rv c W' p E vu U:=by
 obtain ⟨n,he⟩:=h.e
 exact ⟨(b.block _ (gl h.r)).trans h.r,(b.block _ (gl h.a)).trans h.a,⟨n,MF.keep he (b.block _ he.lt)⟩,rw_keep h.u fun k hk=>b.block k (rw_lt h.u k hk).2,h.z.keep (b.block _ h.z.lt),h.d,Nat.le_trans h.b b.size⟩
theorem Rv.drew {c : Rc} {W : World} {p : Int} {E : List ByteArray} {vu : Value} {U : List Us} (h : Rv c W p E vu U) : Rv c W.drew p E vu U:=h.bel (Below.refl _ _).drew
theorem box6 {w : World} {b : Nat} {p q r s u x : Value} {t : TypeId} (h : w.heap[b]?=some (.cells #[p,q,r,s,u,x] t (0,0))) :
 (w.cell? ⟨b,0,none⟩=some p∧w.cell? ⟨b,1,none⟩=some q∧w.cell? ⟨b,2,none⟩=some r∧w.cell? ⟨b,3,none⟩=some s∧w.cell? ⟨b,4,none⟩=some u∧w.cell? ⟨b,5,none⟩=some x)∧(w.frozen? ⟨b,4,none⟩=false∧w.frozen? ⟨b,5,none⟩=false):=by
 simp [World.cell?,World.frozen?,h]
theorem Rv.push {c : Rc} {W W1 W3 : World} {p : Int} {E : List ByteArray} {vu : Value} {U : List Us} {gg cap : Nat} (h : Rv c W p E vu U) (b : Below W.heap.size W W1) (x : Us)
 (r1 : W3.ownsRow c.B 37 5 (.slice (some ⟨gg,0,none⟩) (U.length+1) cap) (U.length+1) (usV U ++ x.cs)) (r2 : W1.grownBy W3 vu.ownBlock) (r3 : vu.ownBlock=some gg ∨ gg=W1.heap.size) :
 Rv c (W3.setCell ⟨c.rb,5,none⟩ (.slice (some ⟨gg,0,none⟩) (U.length+1) cap)) p E (.slice (some ⟨gg,0,none⟩) (U.length+1) cap) (U ++ [x])∧Kpt (Own c vu) W (W3.setCell ⟨c.rb,5,none⟩ (.slice (some ⟨gg,0,none⟩) (U.length+1) cap)) ∧
  (∀ k,(Value.slice (some ⟨gg,0,none⟩) (U.length+1) cap).ownBlock=some k→vu.ownBlock=some k ∨ W.heap.size ≤ k)∧W3.heap[c.rb]?=W.heap[c.rb]?:=by
 have s1:=b.size
 have own : ∀ {k : Nat} {cs : Array Value} {t : TypeId} {fr : Nat × Nat},W.heap[k]?=some (Obj.cells cs t fr)→t ≠ 37→some k ≠ vu.ownBlock:=fun {k cs t fr} hk ht e=>by
  obtain ⟨cur,hb⟩:=own_cells h.u e.symm
  rw [hb] at hk;injection hk with hk;injection hk with _ hk;exact ht hk.symm
 have kb : ∀ {k : Nat} {cs : Array Value} {t : TypeId} {fr : Nat × Nat},W.heap[k]?=some (Obj.cells cs t fr)→t ≠ 37→W3.heap[k]?=W.heap[k]?:=fun {k cs t fr} hk ht=>by
  have hl:=(gl hk)
  exact (r2.block k (by omega) (own hk ht)).trans (b.block k hl)
 have gne : ∀ {k : Nat} {cs : Array Value} {t : TypeId} {fr : Nat × Nat},W.heap[k]?=some (Obj.cells cs t fr)→t ≠ 37→gg ≠ k:=fun {k cs t fr} hk ht e=>by
  subst e
  rcases r3 with q | q
  ·exact own hk ht q.symm
  ·have:=(gl hk);omega
 have hr3:=kb h.r (by decide)
 have kp : Kpt (Own c vu) W W3:=(Kpt.of b).trans (Kpt.grown (M:=Own c vu) r2 (fun k e=>.inr (.inr (.inr e)))) (fun _ _ q=>q)
 have ka:=kb h.a (by decide)
 have na : c.ax ≠ c.rb:=fun e=>by have h1:=h.a;rw [e,h.r] at h1;injection h1 with h1;cases h1
 obtain ⟨n,he⟩:=h.e
 have he0:=he
 obtain ⟨es,clock,heb,_⟩:=he0
 have ne : c.eb ≠ c.rb:=fun e=>by rw [e,h.r] at heb;injection heb with heb;cases heb
 have ke : W3.heap[c.eb]?=W.heap[c.eb]?:=(r2.block _ (by have:=he.lt;omega) (fun e=>by
  obtain ⟨cur,hb⟩:=own_cells h.u e.symm
  rw [hb] at heb;injection heb with heb;cases heb)).trans (b.block _ he.lt)
 obtain ⟨base,hz⟩:=h.z
 obtain ⟨cz,hzc⟩:=own_cells hz (g:=c.sb) rfl
 have nz : c.sb ≠ c.rb:=fun e=>by rw [e,h.r] at hzc;injection hzc with hzc;cases hzc
 have kz:=kb hzc (by decide)
 refine ⟨⟨?_,(Below.heap_setCell _ _ _ _ na).trans (ka.trans h.a),⟨n,MF.keep he ((Below.heap_setCell _ _ _ _ ne).trans ke)⟩,?_,h.z.keep ((Below.heap_setCell _ _ _ _ nz).trans kz),h.d,by have:=kp.size;have:=h.b;simp [World.setCell];omega⟩,kp.trans (Kpt.set (M:=Own c vu) _ _ _ _ (.inl rfl)) (fun _ _ q=>q),fun k e=>?_,hr3⟩
 ·have : W3.heap[c.rb]?=_:=hr3.trans h.r
  simp [World.setCell,Array.getElem?_modify,this]
 ·have r1' : W3.ownsRow c.B 37 5 (.slice (some ⟨gg,0,none⟩) (U.length+1) cap) (U ++ [x]).length (usV (U ++ [x])):=by
   rw [usV_app,List.length_append]
   have : usV [x]=x.cs:=by unfold usV;simp
   rw [this]
   exact r1
  refine rw_keep r1' fun k hk=>Below.heap_setCell _ _ _ _ (fun e=>?_)
  have hk : gg=k:=by simpa [Value.ownBlock] using hk
  have e : k=c.rb:=e
  exact gne h.r (by decide) (hk.trans e)
 ·have e : gg=k:=by simpa [Value.ownBlock] using e
  subst e
  rcases r3 with e | e
  ·exact .inl e
  ·exact .inr (by omega)
def Ans (r : Except (Int × Int) Ps) (er : Int) (E : List ByteArray) (U : List Us) : Prop:=match r with
 | .ok S=>er=0∧S=(E,U)
 | .error q=>er=q.2∧q.2 ≠ 0
def SU (x : Nd) (d : Dc) (b1 b2 : Nat) (X : World) : Prop:=X.cell? ⟨b1,0,none⟩=some (.int .i64 x.k)∧X.cell? ⟨b2,1,none⟩=some (.int .i64 d.at_)∧X.cell? ⟨b2,2,none⟩=some (.int .i64 d.us)
theorem no_zdc (d : Dc) : d.v = .agg #[.int .i64 d.kd,.int .i64 d.at_,.int .i64 d.us,.bool d.fr]:=rfl
theorem use_any {c : Rc} {W : World} {p0 : Int} {E : List ByteArray} {vu : Value} {U : List Us} (h : Rv c W p0 E vu U) (x : Nd) (v : Value) (hv : ∃ a n c,v = .slice a n c) (p : Int) (nm : ByteArray) {vf : Value} {F : List (List Dc)} (hF : SAt W (fun k=>k ≠ c.eb) vf F) (hn : nm.size ≤ 4194304) (hU : U.length ≤ 4194304) :
 Calls Tryz.prog 61 #[.pointer (some ⟨c.rb,0,none⟩),x.v v,.int .i64 p,.string nm,vf] W fun e W'=>∃ er vu' U',e = .returned (.int .i64 er)∧Ans (pUse x.k p nm F (E,U)) er E U'∧Rv c W' p0 E vu' U'∧Kpt (Own c vu) W W'∧∀ k,vu'.ownBlock=some k→vu.ownBlock=some k ∨ W.heap.size ≤ k:=by
 obtain ⟨i0,hi0,hz0,hz1,hz2⟩:=info_parts info_us
 obtain ⟨av,nv,cv,rfl⟩:=hv
 obtain ⟨au,cu,rfl⟩:=rw_form h.u
 obtain ⟨pf,rfl⟩:=hF.ptr
 obtain ⟨W0,hW0⟩ : ∃ X,W.alloc (Obj.cells #[.int .i64 x.k,.string x.t,.int .i64 x.n,.slice av nv cv] 24)=X:=⟨_,rfl⟩
 have b0 : Below W.heap.size W W0:=by rw [← hW0];exact bel_a _ _
 have HS0 : Hid (W0.heap.size=W.heap.size+1):=by show _=_;rw [← hW0];simp
 have m0 : W0.heap[W.heap.size]?=some (.cells #[.int .i64 x.k,.string x.t,.int .i64 x.n,.slice av nv cv] 24 (0,0)):=by rw [← hW0];exact hnew _ rfl
 have h0:=h.bel b0
 have CF:=find_any (hF.bel b0) nm
 rw [no_zdc] at CF
 obtain ⟨res,hres⟩ : ∃ r,pUse x.k p nm F (E,U)=r:=⟨_,rfl⟩
 have HR : Hid (pUse x.k p nm F (E,U)=res):=hres
 rw [hres]
 clear hres
 unfold Nd.v
 go_enter Tryz.func61,Tryz.ntmps61
 go_wp2_with fail
 go_at_call 100
 refine CF.mono ?_
 rintro e W1 ⟨rfl,b1⟩
 have bw1 : Below W.heap.size W W1:=b0.trans (b1.mono b0.size)
 have m1:=(b1.block W.heap.size (by have:=HS0.out;omega)).trans m0
 clear CF hW0 m0
 cases hf : fndF F nm with
 | none =>
  obtain rfl : Except.error (p,91)=res:=by rw [← HR.out];unfold pUse;rw [hf]
  simp only [Option.getD,Option.isSome]
  go_wp2
  go_ret
  exact ⟨91,_,U,rfl,⟨rfl,(by decide : (91 : Int) ≠ 0)⟩,h.bel (bw1.trans ((bel_a _ _).mono bw1.size)),Kpt.of (bw1.trans ((bel_a _ _).mono bw1.size)),fun k hk=>.inl hk⟩
 | some d =>
  simp only [Option.getD,Option.isSome]
  obtain ⟨W2,hW2⟩ : ∃ X,W1.alloc (Obj.cells #[.int .i64 d.kd,.int .i64 d.at_,.int .i64 d.us,.bool d.fr] 72)=X:=⟨_,rfl⟩
  have b2 : Below W1.heap.size W1 W2:=by rw [← hW2];exact bel_a _ _
  have bw2 : Below W.heap.size W W2:=bw1.trans (b2.mono bw1.size)
  have m2:=(b2.block W.heap.size (by have:=b1.size;have:=HS0.out;omega)).trans m1
  have m3 : W2.heap[W1.heap.size]?=some (.cells #[.int .i64 d.kd,.int .i64 d.at_,.int .i64 d.us,.bool d.fr] 72 (0,0)):=by rw [← hW2];exact hnew _ rfl
  have HC : Hid (∀ X,Below W2.heap.size W2 X→(X.cell? ⟨W.heap.size,0,none⟩=some (.int .i64 x.k)∧X.cell? ⟨W1.heap.size,0,none⟩=some (.int .i64 d.kd)∧X.cell? ⟨W1.heap.size,1,none⟩=some (.int .i64 d.at_)∧X.cell? ⟨W1.heap.size,2,none⟩=some (.int .i64 d.us)∧X.cell? ⟨W1.heap.size,3,none⟩=some (.bool d.fr))∧X.cell? ⟨c.rb,5,none⟩=some (.slice au U.length cu)):=fun X b=>by
   have hr:=((h.bel bw2).bel b).r
   have e1:=(b.block _ (gl m2)).trans m2
   have e2:=(b.block _ (gl m3)).trans m3
   obtain ⟨⟨q0,q1,q2,q3⟩,_⟩:=box4 e2
   exact ⟨⟨(box4 e1).1.1,q0,q1,q2,q3⟩,(box6 hr).1.2.2.2.2.2⟩
  have CT:=dtyped_any d W2
  rw [no_zdc] at CT
  obtain ⟨⟨z0,z1,z2,z3,z4⟩,z5⟩:=HC.out W2 (Below.refl _ _)
  have bad : ∀ X,Below W.heap.size W X→Except.error (p,91)=res→∃ er vu' U',Ending.returned (Value.int .i64 91) = .returned (.int .i64 er)∧Ans res er E U'∧Rv c X p0 E vu' U'∧Kpt (Own c (.slice au U.length cu)) W X∧∀ k,vu'.ownBlock=some k→(Value.slice au U.length cu).ownBlock=some k ∨ W.heap.size ≤ k:=fun X b e=>by
   subst e
   exact ⟨91,_,U,rfl,⟨rfl,(by decide : (91 : Int) ≠ 0)⟩,h.bel b,Kpt.of b,fun k hk=>.inl hk⟩
  have HB : Hid _:=bad
  have HM : Hid (W2.heap[W.heap.size]?=some (.cells #[.int .i64 x.k,.string x.t,.int .i64 x.n,.slice av nv cv] 24 (0,0))∧W2.heap[W1.heap.size]?=some (.cells #[.int .i64 d.kd,.int .i64 d.at_,.int .i64 d.us,.bool d.fr] 72 (0,0))):=⟨m2,m3⟩
  clear bad m1 m2 m3
  by_cases q1 : x.k=30∧typB d.kd=false
  ·have hr : Except.error (p,91)=res:=by rw [← HR.out];unfold pUse;rw [hf];exact (if_pos q1).symm
   have e1 : (x.k == 30)=true:=by simpa using q1.1
   have e2:=q1.2
   rw [e2] at CT
   clear HR q1
   go_wp2_with (go_at_call 101;refine CT.mono ?_;rintro e W3 ⟨rfl,b3⟩)
   go_ret
   exact HB.out _ (bw2.trans (b3.mono bw2.size)) hr
  by_cases q2 : (x.k=6 ∨ x.k=20)∧d.kd=46
  ·have hr : Except.error (p,91)=res:=by rw [← HR.out];unfold pUse;rw [hf];simp only;rw [if_neg q1,if_pos q2]
   have e1 : (x.k == 30)=false:=by rcases q2.1 with e | e <;> rw [e] <;> decide
   have e2 : (d.kd == 46)=true:=by simpa using q2.2
   rcases q2.1 with e | e
   ·have e3 : (x.k == 6)=true:=by simpa using e
    clear HR q1 q2 e
    go_wp2
    go_ret
    exact HB.out _ bw2 hr
   ·have e3 : (x.k == 6)=false:=by rw [e];decide
    have e4 : (x.k == 20)=true:=by simpa using e
    clear HR q1 q2 e
    go_wp2
    go_ret
    exact HB.out _ bw2 hr
  have hr : Except.ok (E,U ++ [⟨p,d.us,d.at_,nm,decide (x.k=30)⟩])=res:=by rw [← HR.out];unfold pUse;rw [hf];simp only;rw [if_neg q1,if_neg q2]
  have hb : decide (x.k=30)=(x.k == 30):=by rw [Bool.eq_iff_iff];simp
  rw [hb] at hr
  have HRes : Hid (Except.ok (E,U ++ [⟨p,d.us,d.at_,nm,x.k == 30⟩])=res):=hr
  have CL:=fun X=>clone_anyT nm X (by omega)
  have HA : Hid (∀ (X Y W5 : World) (gg cap : Nat),Below W2.heap.size W2 X→Below X.heap.size X Y→W5.ownsRow c.B 37 5 (.slice (some ⟨gg,0,none⟩) (U.length+1) cap) (U.length+1) (usV U ++ [.int .i64 p,.int .i64 d.us,.int .i64 d.at_,.string nm,.bool (x.k == 30)])→Y.grownBy W5 (Value.slice au U.length cu).ownBlock→((Value.slice au U.length cu).ownBlock=some gg ∨ gg=Y.heap.size) →
   (W5.cell? ⟨c.rb,5,none⟩=some (.slice au U.length cu)∧W5.frozen? ⟨c.rb,5,none⟩=false)∧(∀ v,SU x d W.heap.size W1.heap.size (W5.setCell ⟨c.rb,5,none⟩ v))∧SU x d W.heap.size W1.heap.size W5∧∃ er vu' U',Ending.returned (Value.int .i64 0) = .returned (.int .i64 er)∧Ans res er E U'∧Rv c (W5.setCell ⟨c.rb,5,none⟩ (.slice (some ⟨gg,0,none⟩) (U.length+1) cap)) p0 E vu' U'∧Kpt (Own c (.slice au U.length cu)) W (W5.setCell ⟨c.rb,5,none⟩ (.slice (some ⟨gg,0,none⟩) (U.length+1) cap))∧∀ k,vu'.ownBlock=some k→(Value.slice au U.length cu).ownBlock=some k ∨ W.heap.size ≤ k):=fun X Y W5 gg cap bX bY r1 r2 r3=>by
   have bWX : Below W.heap.size W X:=bw2.trans (bX.mono bw2.size)
   have hX:=h.bel bWX
   obtain ⟨k1,k2,k3,k4⟩:=hX.push bY ⟨p,d.us,d.at_,nm,x.k == 30⟩ r1 r2 r3
   have hr5:=k4.trans hX.r
   obtain ⟨⟨_,_,_,_,_,y5⟩,_,y6⟩:=box6 hr5
   have n1:=(bX.block _ (gl HM.out.1)).trans HM.out.1
   have n2:=(bX.block _ (gl HM.out.2)).trans HM.out.2
   have f1:=hX.kept k2 n1 (by decide)
   have f2:=hX.kept k2 n2 (by decide)
   have ne1 : W.heap.size ≠ c.rb:=fun e=>by rw [e,hX.r] at n1;injection n1 with n1;cases n1
   have ne2 : W1.heap.size ≠ c.rb:=fun e=>by rw [e,hX.r] at n2;injection n2 with n2;cases n2
   have g1 : W5.heap[W.heap.size]?=_:=(Below.heap_setCell _ _ _ _ ne1).symm.trans f1
   have g2 : W5.heap[W1.heap.size]?=_:=(Below.heap_setCell _ _ _ _ ne2).symm.trans f2
   refine ⟨⟨y5,y6⟩,fun v=>?_,?_,0,_,_,rfl,?_,k1,(Kpt.of bWX).trans k2 (fun _ _ q=>q),fun k hk=>?_⟩
   ·obtain ⟨⟨q0,q1,q2,q3⟩,_⟩:=box4 ((Below.heap_setCell W5 ⟨c.rb,5,none⟩ v _ ne2).trans g2)
    exact ⟨(box4 ((Below.heap_setCell W5 ⟨c.rb,5,none⟩ v _ ne1).trans g1)).1.1,q1,q2⟩
   ·obtain ⟨⟨q0,q1,q2,q3⟩,_⟩:=box4 g2
    exact ⟨(box4 g1).1.1,q1,q2⟩
   ·rw [← HRes.out]
    exact ⟨rfl,rfl⟩
   ·rcases k3 k hk with q | q
    ·exact .inl q
    ·exact .inr (Nat.le_trans bWX.size q)
  have HSU : Hid (∀ X,Below W2.heap.size W2 X→X.cell? ⟨W.heap.size,0,none⟩=some (.int .i64 x.k)∧X.cell? ⟨W1.heap.size,1,none⟩=some (.int .i64 d.at_)∧X.cell? ⟨W1.heap.size,2,none⟩=some (.int .i64 d.us)∧X.cell? ⟨c.rb,5,none⟩=some (.slice au U.length cu)):=fun X b=>by
   obtain ⟨⟨i1,i2,i3,i4,i5⟩,i6⟩:=HC.out X b
   exact ⟨i1,i3,i4,i6⟩
  have hown:=fun X (b : Below W2.heap.size W2 X)=>((h.bel bw2).bel b).u
  have hsz:=h.b
  have hsz2:=bw2.size
  clear hr hb HB
  have cls : (x.k == 30)=true∧typB d.kd=true∧(x.k == 6)=false∧(x.k == 20)=false ∨ (x.k == 30)=false∧(x.k == 6)=true∧(d.kd == 46)=false ∨ (x.k == 30)=false∧(x.k == 6)=false∧(x.k == 20)=true∧(d.kd == 46)=false ∨ (x.k == 30)=false∧(x.k == 6)=false∧(x.k == 20)=false:=by
   by_cases z1 : x.k=30
   ·left
    refine ⟨by simpa using z1,?_,by rw [z1];decide,by rw [z1];decide⟩
    cases hq : typB d.kd with
    | true=>rfl
    | false=>exact absurd ⟨z1,hq⟩ q1
   ·by_cases z2 : x.k=6
    ·exact .inr (.inl ⟨by simpa using z1,by simpa using z2,by simpa using fun e=>q2 ⟨.inl z2,e⟩⟩)
    ·by_cases z3 : x.k=20
     ·exact .inr (.inr (.inl ⟨by simpa using z1,by simpa using z2,by simpa using z3,by simpa using fun e=>q2 ⟨.inr z3,e⟩⟩))
     ·exact .inr (.inr (.inr ⟨by simpa using z1,by simpa using z2,by simpa using z3⟩))
  clear q1 q2 HR hf
  rcases cls with ⟨e1,e2,e3,e4⟩ | ⟨e1,e3,e5⟩ | ⟨e1,e3,e4,e5⟩ | ⟨e1,e3,e4⟩
  ·rw [e2] at CT
   rw [e1] at HA
   go_wp2_with fail
   go_at_call 101
   refine CT.mono ?_
   rintro e W3 ⟨rfl,b3⟩
   obtain ⟨⟨x0,x1,x2,x3,x4⟩,x5⟩:=HC.out W3 b3
   have su:=HSU.out W3.drew b3.drew
   go_wp2_with fail
   refine wp_region_U (u:=18) (S:=fun X=>X.cell? ⟨W.heap.size,0,none⟩=some (.int .i64 x.k)∧X.cell? ⟨W1.heap.size,1,none⟩=some (.int .i64 d.at_)∧X.cell? ⟨W1.heap.size,2,none⟩=some (.int .i64 d.us)∧X.cell? ⟨c.rb,5,none⟩=some (.slice au U.length cu)) (by kernel_rfl) ?_
   change wpAnyU _ _ _ _ _ _ _ _ _ (World.drew _)
   refine uT 0 (.pointer (some ⟨c.rb,0,none⟩)) su ?_
   refine uT 1 (.pointer (some ⟨c.rb,0,none⟩)) su ?_
   refine uT 2 (.pointer (some ⟨c.rb,0,none⟩)) su ?_
   refine uT 3 (.pointer (some ⟨c.rb,5,none⟩)) su ?_
   refine uT 4 (.slice au U.length cu) su ?_
   refine uT 5 (.int .i64 p) su ?_
   refine uT 6 (.pointer (some ⟨W1.heap.size,2,none⟩)) su ?_
   refine uT 7 (.int .i64 d.us) su ?_
   refine uT 8 (.pointer (some ⟨W1.heap.size,1,none⟩)) su ?_
   refine uT 9 (.int .i64 d.at_) su ?_
   refine uT 10 (.string nm) su ?_
   refine uT 12 (.pointer (some ⟨W.heap.size,0,none⟩)) su ?_
   refine uT 13 (.int .i64 x.k) su ?_
   refine uT 14 (.bool true) su ?_
   refine U_ready (rs:=[11]) (by kernel_rfl) (by simp) ?_
   refine AllU.cons rfl (by decide) (fun K hK=>?_) AllU.nil
   go_simp
   go_at_call 26
   refine (CL _).mono ?_
   rintro e W4 ⟨rfl,b4⟩
   have b4' : Below W2.heap.size W2 W4:=⟨b4.os.trans b3.os,b4.tape.trans b3.tape,b4.output.trans b3.output,Nat.le_trans b3.size b4.size,fun k hk=>(b4.block k (Nat.lt_of_lt_of_le hk b3.size)).trans (b3.block k hk)⟩
   have su4:=HSU.out W4 b4'
   refine hK.out _ _ su4 ?_
   clear hK K
   refine uT 15 (.agg #[.int .i64 p,.int .i64 d.us,.int .i64 d.at_,.string nm,.bool true]) su4 ?_
   refine U_ready (rs:=[16]) (by kernel_rfl) (by simp) ?_
   refine AllU.cons rfl (by decide) (fun K hK=>?_) AllU.nil
   go_simp
   refine hK.out _ _ (HSU.out _ (b4'.alloc b4'.size _)) ?_
   clear hK K
   refine U_ready (rs:=[17]) (by kernel_rfl) (by simp) ?_
   refine AllU.cons rfl (by decide) (fun K hK=>?_) AllU.nil
   have own4:=hown W4 b4'
   have s4:=b4'.size
   refine step_append_lies _ (by rfl) _ _ _ (by rfl) c.B 37 i0 _ 5 48 Tryz.underlying26 hi0 hz0 hz1 hz2 rfl (by omega) _ U.length (usV U) (by rfl) (own4.alloc _) ⟨W4.heap.size,0,none⟩ 1 1 [.int .i64 p,.int .i64 d.us,.int .i64 d.at_,.string nm,.bool true] (by rfl) (by rfl) (World.news_of_block (cs:=#[.int .i64 p,.int .i64 d.us,.int .i64 d.at_,.string nm,.bool true]) (t:=37) (fr:=(0,0)) (hnew _ (by simp))) (by simp [Value.oneCell']) (by omega) (by unfold maxLen;omega) (by omega) (by simp;omega) (W4.heap.size+1) (by simp) ?_
   intro gg cap W5 hown5 hgrow hat hlt5
   obtain ⟨⟨w1,w2⟩,su6,su5,hfin⟩:=HA.out W4 _ W5 gg cap b4' (bel_a _ _) hown5 hgrow (by simpa using hat)
   refine hK.out _ _ ⟨su5.1,su5.2.1,su5.2.2,w1⟩ ?_
   clear hK K
   refine U_end (by kernel_rfl) ?_
   refine wpAny_chain [_,_,_] [18,19,20] _ _ _ _ (by kernel_rfl) rfl (by decide) ?_
   go_wp2
   go_ret
   exact hfin
  all_goals
   rw [e1] at HA
   have su:=HSU.out W2.drew (Below.refl _ _).drew
   go_wp2_with fail
   refine wp_region_U (u:=18) (S:=fun X=>X.cell? ⟨W.heap.size,0,none⟩=some (.int .i64 x.k)∧X.cell? ⟨W1.heap.size,1,none⟩=some (.int .i64 d.at_)∧X.cell? ⟨W1.heap.size,2,none⟩=some (.int .i64 d.us)∧X.cell? ⟨c.rb,5,none⟩=some (.slice au U.length cu)) (by kernel_rfl) ?_
   change wpAnyU _ _ _ _ _ _ _ _ _ (World.drew _)
   refine uT 0 (.pointer (some ⟨c.rb,0,none⟩)) su ?_
   refine uT 1 (.pointer (some ⟨c.rb,0,none⟩)) su ?_
   refine uT 2 (.pointer (some ⟨c.rb,0,none⟩)) su ?_
   refine uT 3 (.pointer (some ⟨c.rb,5,none⟩)) su ?_
   refine uT 4 (.slice au U.length cu) su ?_
   refine uT 5 (.int .i64 p) su ?_
   refine uT 6 (.pointer (some ⟨W1.heap.size,2,none⟩)) su ?_
   refine uT 7 (.int .i64 d.us) su ?_
   refine uT 8 (.pointer (some ⟨W1.heap.size,1,none⟩)) su ?_
   refine uT 9 (.int .i64 d.at_) su ?_
   refine uT 10 (.string nm) su ?_
   refine uT 12 (.pointer (some ⟨W.heap.size,0,none⟩)) su ?_
   refine uT 13 (.int .i64 x.k) su ?_
   refine uT 14 (.bool false) su ?_
   refine U_ready (rs:=[11]) (by kernel_rfl) (by simp) ?_
   refine AllU.cons rfl (by decide) (fun K hK=>?_) AllU.nil
   go_simp
   go_at_call 26
   refine (CL _).mono ?_
   rintro e W4 ⟨rfl,b4⟩
   have b4' : Below W2.heap.size W2 W4:=⟨b4.os,b4.tape,b4.output,b4.size,b4.block⟩
   have su4:=HSU.out W4 b4'
   refine hK.out _ _ su4 ?_
   clear hK K
   refine uT 15 (.agg #[.int .i64 p,.int .i64 d.us,.int .i64 d.at_,.string nm,.bool false]) su4 ?_
   refine U_ready (rs:=[16]) (by kernel_rfl) (by simp) ?_
   refine AllU.cons rfl (by decide) (fun K hK=>?_) AllU.nil
   go_simp
   refine hK.out _ _ (HSU.out _ (b4'.alloc b4'.size _)) ?_
   clear hK K
   refine U_ready (rs:=[17]) (by kernel_rfl) (by simp) ?_
   refine AllU.cons rfl (by decide) (fun K hK=>?_) AllU.nil
   have own4:=hown W4 b4'
   have s4:=b4'.size
   refine step_append_lies _ (by rfl) _ _ _ (by rfl) c.B 37 i0 _ 5 48 Tryz.underlying26 hi0 hz0 hz1 hz2 rfl (by omega) _ U.length (usV U) (by rfl) (own4.alloc _) ⟨W4.heap.size,0,none⟩ 1 1 [.int .i64 p,.int .i64 d.us,.int .i64 d.at_,.string nm,.bool false] (by rfl) (by rfl) (World.news_of_block (cs:=#[.int .i64 p,.int .i64 d.us,.int .i64 d.at_,.string nm,.bool false]) (t:=37) (fr:=(0,0)) (hnew _ (by simp))) (by simp [Value.oneCell']) (by omega) (by unfold maxLen;omega) (by omega) (by simp;omega) (W4.heap.size+1) (by simp) ?_
   intro gg cap W5 hown5 hgrow hat hlt5
   obtain ⟨⟨w1,w2⟩,su6,su5,hfin⟩:=HA.out W4 _ W5 gg cap b4' (bel_a _ _) hown5 hgrow (by simpa using hat)
   refine hK.out _ _ ⟨su5.1,su5.2.1,su5.2.2,w1⟩ ?_
   clear hK K
   refine U_end (by kernel_rfl) ?_
   refine wpAny_chain [_,_,_] [18,19,20] _ _ _ _ (by kernel_rfl) rfl (by decide) ?_
   go_wp2
   go_ret
   exact hfin
end Go.Proofs.YtfcocoadaajbjaaGreatDoor
