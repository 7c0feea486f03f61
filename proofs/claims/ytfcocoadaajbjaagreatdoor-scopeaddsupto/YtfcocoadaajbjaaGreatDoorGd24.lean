/- Own text. Package scope: the walk over a tree,up to the first error. Package scope: the walk over the whole tree. Package scope: what an item declares,a name of the tops. -/
import Derived.Test.YtfcocoadaajbjaaGreatDoorGd23
import Derived.Laws.EntriesVeiled
set_option linter.unusedVariables false
set_option linter.unusedSimpArgs false
set_option maxRecDepth 100000
set_option maxHeartbeats 8000000
namespace Go.Proofs.YtfcocoadaajbjaaGreatDoor
open Go.RowKit Go.MapKept
theorem Rv.other {c : Rc} {W W' : World} {p : Int} {E : List ByteArray} {vu : Value} {U : List Us} (h : Rv c W p E vu U) {b : Nat} {cs : Array Value} {t : TypeId} {fr : Nat × Nat} (hb : W.heap[b]?=some (.cells cs t fr)) (ht : t ≠ 58∧t ≠ 37∧t ≠ 3) (ne : ∀ k,k ≠ b→W'.heap[k]?=W.heap[k]?) (hs : W.heap.size ≤ W'.heap.size) : Rv c W' p E vu U:=by
 have far:=h.far hb ht
 obtain ⟨n,he⟩:=h.e
 obtain ⟨base,hz⟩:=h.z
 obtain ⟨cz,hzc⟩:=own_cells hz (g:=c.sb) rfl
 have nz : c.sb ≠ b:=fun e=>by rw [e,hb] at hzc;injection hzc with hzc;injection hzc with _ hzc;exact ht.2.2 hzc
 exact ⟨(ne _ (fun e=>far (.inl e.symm))).trans h.r,(ne _ (fun e=>far (.inr (.inr (.inl e.symm))))).trans h.a,⟨n,MF.keep he (ne _ (fun e=>far (.inr (.inl e.symm))))⟩,rw_keep h.u fun k hk=>ne k (fun e=>far (.inr (.inr (.inr (by rw [← e];exact hk))))),h.z.keep (ne _ nz),h.d,Nat.le_trans h.b hs⟩
theorem SAt.other {w w' : World} {S : Nat→Prop} {v : Value} {F : List (List Dc)} (h : SAt w S v F) {b : Nat} {cs : Array Value} {t : TypeId} {fr : Nat × Nat} (hb : w.heap[b]?=some (.cells cs t fr)) (ht : t ≠ 76) (ne : ∀ k,k ≠ b→w'.heap[k]?=w.heap[k]?) : SAt w' S v F:=by
 induction h with
 | nil=>exact .nil
 | cons k m n v f F hS hM hk hm hs ih =>
  refine .cons k m n v f F hS hM ((ne _ (fun e=>?_)).trans hk) ?_ ih
  ·rw [e,hb] at hk;injection hk with hk;injection hk with _ hk;exact ht hk
  ·have hm0:=hm
   obtain ⟨es,clock,hmb,_⟩:=hm0
   exact MF.keep hm (ne _ (fun e=>by rw [e,hb] at hmb;injection hmb with hmb;cases hmb))
theorem Vb.other {W W' : World} {c : Rc} {xb vb : Nat} (h : Vb W c xb vb) {b : Nat} {cs : Array Value} {t : TypeId} {fr : Nat × Nat} (hb : W.heap[b]?=some (.cells cs t fr)) (ht : t ≠ 51∧t ≠ 80) (ne : ∀ k,k ≠ b→W'.heap[k]?=W.heap[k]?) : Vb W' c xb vb:=by
 refine ⟨(ne _ (fun e=>?_)).trans h.x,(ne _ (fun e=>?_)).trans h.v⟩
 ·have hx:=h.x;rw [e,hb] at hx;injection hx with hx;injection hx with _ hx;exact ht.1 hx
 ·have hx:=h.v;rw [e,hb] at hx;injection hx with hx;injection hx with _ hx;exact ht.2 hx
theorem Rv.nown {c : Rc} {W : World} {p : Int} {E : List ByteArray} {vu : Value} {U : List Us} (r : Rv c W p E vu U) {S : Nat→Prop} (hS : ∀ b,S b→b < c.B∧b ≠ c.rb∧b ≠ c.eb∧b ≠ c.ax) {b : Nat} (hb : S b) : ¬ Own c vu b:=fun q=>by
 obtain ⟨h1,h2,h3,h4⟩:=hS b hb
 rcases q with q | q | q | q
 ·exact h2 q
 ·exact h3 q
 ·exact h4 q
 ·have:=(rw_lt r.u b q).1;omega
theorem set7_kpt (X : World) (b : Nat) (p' q' r' s' u' x' y' : Value) :
 Kpt (fun k=>k=b) X (((((((X.setCell ⟨b,0,none⟩ p').setCell ⟨b,1,none⟩ q').setCell ⟨b,2,none⟩ r').setCell ⟨b,3,none⟩ s').setCell ⟨b,4,none⟩ u').setCell ⟨b,5,none⟩ x').setCell ⟨b,6,none⟩ y')∧(((((((X.setCell ⟨b,0,none⟩ p').setCell ⟨b,1,none⟩ q').setCell ⟨b,2,none⟩ r').setCell ⟨b,3,none⟩ s').setCell ⟨b,4,none⟩ u').setCell ⟨b,5,none⟩ x').setCell ⟨b,6,none⟩ y').heap.size=X.heap.size:=by
 refine ⟨?_,by simp [World.setCell]⟩
 have t : ∀ {Y : World} (o : Nat) (v : Value),Kpt (fun k=>k=b) X Y→Kpt (fun k=>k=b) X (Y.setCell ⟨b,o,none⟩ v):=fun o v h=>h.trans (Kpt.set (M:=fun k=>k=b) _ _ _ _ rfl) (fun _ _ q=>q)
 exact t _ _ (t _ _ (t _ _ (t _ _ (t _ _ (t _ _ (t _ _ (Kpt.refl _ _)))))))
theorem inF_cons (f : List Dc) (F : List (List Dc)) (k : Int) (ks : List Nd) (p : Int) : ∃ f' F',inF (f :: F) k ks p=f' :: F':=by
 unfold inF
 split
 ·exact ⟨_,_,rfl⟩
 ·split <;> exact ⟨_,_,rfl⟩
theorem visit_any {c : Rc} {A : List Dc} {xb vb : Nat} {S : Nat→Prop} (hS : ∀ b,S b→b < c.B∧b ≠ c.rb∧b ≠ c.eb∧b ≠ c.ax) (zZ : c.Z.length ≤ 4194304) (x : Nd) : Wn x→∀ (W : World) (p : Nat) (E : List ByteArray) (vu : Value) (U : List Us),Rv c W (p : Int) E vu U→∀ (v : Value),LAt W S v x.ks→ZAt c.Z p x→∀ (q : Wh) (vf : Value) (f : List Dc) (F : List (List Dc)),SAt W (fun k=>k ≠ c.eb) vf (f :: F)→SAt W (fun k=>k ≠ c.eb) c.va [A]→Vb W c xb vb→U.length+x.size ≤ 4194304 →
 Calls Tryz.prog 35 #[x.v v,q.v vf,.pointer (some ⟨xb,0,none⟩),.pointer (some ⟨c.ax,0,none⟩),.pointer (some ⟨vb,0,none⟩)] W (VisA c W vu (pv A (f :: F) q.pk q.pt q.th q.rt x (p : Int) (E,U)) (U.length+x.size) ((p : Int)+x.size - 1)):=by
 induction x using Nd.ind with
 | h x ih =>
  intro wn W p E vu U h v hx hZ q vf f F hF hA hV hU
  obtain ⟨ax,cx,bx,ox,fx,rfl,px,qx,rx⟩:=hx.op
  obtain ⟨pf,rfl⟩:=hF.ptr
  have zs:=x.size_eq
  have hle:=hZ.le
  have IH : Hid _:=ih
  have HSS : Hid _:=hS
  have PX : Hid _:=px
  have QX : Hid _:=qx
  have RX : Hid _:=rx
  have HX : Hid _:=hx
  have HZ : Hid _:=hZ
  have WN : Hid _:=wn
  have HH : Hid _:=h
  clear ih px qx rx
  obtain ⟨W0,hW0⟩ : ∃ X,(W.alloc (nO x (.slice ax x.ks.length cx))).alloc (q.o (.pointer pf))=X:=⟨_,rfl⟩
  have b0 : Below W.heap.size W W0:=by rw [← hW0];exact bel2 _ _ _
  have m0 : W0.heap[W.heap.size]?=some (nO x (.slice ax x.ks.length cx)):=by rw [← hW0];exact hold _ (by simp) (hnew _ rfl)
  have m1 : W0.heap[W.heap.size+1]?=some (q.o (.pointer pf)):=by rw [← hW0];exact hnew _ (by simp)
  have HS0 : Hid (W0.heap.size=W.heap.size+2):=by show _=_;rw [← hW0];simp
  have h0:=h.bel b0
  have hV0:=hV.bel b0
  obtain ⟨⟨a0,a1,a2,a3⟩,_⟩:=box4 m0
  obtain ⟨⟨c0,c1,c2,c3,c4,c5,c6⟩,_⟩:=box7 m1
  have d1 : W0.cell? ⟨xb,0,none⟩=some (.pointer (some ⟨c.rb,0,none⟩)):=by simp [World.cell?,hV0.x]
  have d2 : W0.cell? ⟨c.ax,0,none⟩=some (.int .i64 (p : Int)):=by simp [World.cell?,h0.a]
  have CL:=look_any h0 x _ (hx.bel b0) hS wn.p (p : Int) q (hF.bel b0) (hA.bel b0) wn.t (by omega)
  have HE : Hid (pv A (f :: F) q.pk q.pt q.th q.rt x (p : Int) (E,U)=_):=pv_eq A (f :: F) q.pk q.pt q.th q.rt x (p : Int) (E,U)
  have HLA : Hid _:=look_at (A:=A) (F:=f :: F) (pk:=q.pk) (pt:=q.pt) (th:=q.th) (rt:=q.rt) (x:=x) (p:=(p : Int)) (S:=(E,U))
  have HB0 : Hid _:=b0
  have HF0 : Hid _:=hF.bel b0
  have HA0 : Hid _:=hA.bel b0
  have HV0 : Hid _:=hV0
  have H0 : Hid _:=h0
  have M0 : Hid _:=m0
  have M1 : Hid _:=m1
  clear hS hx hZ wn h b0 hF hA hV hV0 h0 m0 m1
  unfold nO Wh.o at hW0
  unfold Nd.v Wh.v at CL ⊢
  go_enter Tryz.func35,Tryz.ntmps35
  go_wp2_with fail
  go_at_call 36
  refine CL.mono ?_
  rintro e W1 ⟨er,E1,vu1,U1,rfl,an,h1,k1,ow1⟩
  clear CL hW0 a0 a1 a2 a3 c0 c1 c2 c3 c4 c5 c6 d1 d2
  have KW1 : Hid (Kpt (Own c vu) W W1):=(Kpt.of HB0.out).trans k1 (fun _ _ q=>q)
  have N0 : Hid (W1.heap[W.heap.size]?=some (nO x (.slice ax x.ks.length cx))):=H0.out.kept k1 M0.out (by decide)
  have N1 : Hid (W1.heap[W.heap.size+1]?=some (q.o (.pointer pf))):=H0.out.kept k1 M1.out (by decide)
  have HV1 : Hid (Vb W1 c xb vb):=HV0.out.kept H0.out k1
  have HF1 : Hid _:=H0.out.sat k1 HF0.out
  have HA1 : Hid _:=H0.out.sat k1 HA0.out
  have HX1 : Hid _:=H0.out.lat k1 HSS.out (HX.out.bel HB0.out)
  have HW1 : Hid (∀ k,vu1.ownBlock=some k→vu.ownBlock=some k ∨ W.heap.size ≤ k):=fun k hk=>(ow1 k hk).imp id (fun w=>Nat.le_trans HB0.out.size w)
  have HS1 : Hid (W0.heap.size ≤ W1.heap.size):=k1.size
  have H1 : Hid _:=h1
  clear M0 M1 HV0 ow1 k1 h1 H0 HF0 HA0 HB0
  cases hpl : pLook A (f :: F) q.pk q.pt q.th q.rt x (p : Int) (E,U) with
  | error pr =>
   rw [hpl] at an
   obtain ⟨rfl,hne⟩:=an
   have hne' : (pr.2 == 0)=false:=by simpa using hne
   have HE':=HE.out
   have hat:=HLA.out.1 _ hpl
   rw [hpl] at HE'
   have HR : Hid (VisA c W vu (pv A (f :: F) q.pk q.pt q.th q.rt x (p : Int) (E,U)) (U.length+x.size) ((p : Int)+x.size - 1) (.returned (.int .i64 pr.2)) W1):=by
    show VisA _ _ _ _ _ _ _ _
    rw [HE']
    exact ⟨_,_,E1,vu1,U1,rfl,⟨rfl,hne,hat.symm⟩,H1.out,KW1.out,HW1.out⟩
   clear HE HE' HLA hat hpl zs hle hU
   go_wp2
   go_ret
   exact HR.out
  | ok S1 =>
   rw [hpl] at an
   obtain ⟨rfl,rfl⟩:=an
   have HL1 : Hid (U1.length ≤ U.length+1):=HLA.out.2 _ hpl
   have HE':=HE.out
   rw [hpl] at HE'
   have HE1 : Hid (pv A (f :: F) q.pk q.pt q.th q.rt x (p : Int) (E,U)=pvs A (inF (f :: F) x.k x.ks (p : Int)) x.k x.t (inT x.k q.th) (inR x.k q.rt) x.ks ((p : Int)+1) (E1,U1)):=HE'
   clear HE HE' HLA hpl
   obtain ⟨⟨a0,a1,a2,a3⟩,_⟩:=box4 N0.out
   obtain ⟨⟨c0,c1,c2,c3,c4,c5,c6⟩,fz⟩:=box7 N1.out
   have d1 : W1.cell? ⟨xb,0,none⟩=some (.pointer (some ⟨c.rb,0,none⟩)):=by simp [World.cell?,HV1.out.x]
   have d2 : W1.cell? ⟨c.ax,0,none⟩=some (.int .i64 (p : Int)):=by simp [World.cell?,H1.out.a]
   have CE:=enter_any H1.out x _ HX1.out WN.out.p (fun y hy=>(WN.out.k y hy).p) p HZ.out q HF1.out zZ
   unfold Nd.v Wh.v at CE
   go_wp2_with fail
   go_at_call 37
   refine CE.mono ?_
   rintro e W2 ⟨av',cv',vf',e1,rfl,hF2,b2⟩
   injection e1 with e1 e2 e3
   subst e1 e3
   clear CE a0 a1 a2 a3 c0 c1 c2 c3 c4 c5 c6 d1 d2 fz e2
   obtain ⟨f',F',hFF⟩:=inF_cons f F x.k x.ks (p : Int)
   rw [hFF] at hF2
   have HE2 : Hid (pv A (f :: F) q.pk q.pt q.th q.rt x (p : Int) (E,U)=pvs A (f' :: F') x.k x.t (inT x.k q.th) (inR x.k q.rt) x.ks ((p : Int)+1) (E1,U1)):=by show _=_;rw [← hFF];exact HE1.out
   clear HE1 hFF
   obtain ⟨q',hq'⟩ : ∃ q' : Wh,q'=⟨x.k,x.t,x.n,ax,x.ks.length,cx,inT x.k q.th,inR x.k q.rt⟩:=⟨_,rfl⟩
   have HE3 : Hid (pv A (f :: F) q.pk q.pt q.th q.rt x (p : Int) (E,U)=pvs A (f' :: F') q'.pk q'.pt q'.th q'.rt x.ks ((p : Int)+1) (E1,U1)):=by rw [hq'];exact HE2.out
   clear HE2
   obtain ⟨pf',rfl⟩:=hF2.ptr
   have hve : (⟨x.k,x.t,x.n,ax,x.ks.length,cx,inT x.k q.th,inR x.k q.rt⟩ : Wh).v (.pointer pf') = .agg #[.pointer pf',.int .i64 x.k,.string x.t,.int .i64 x.n,.slice ax x.ks.length cx,.bool (inT x.k q.th),.bool (inR x.k q.rt)]:=rfl
   rw [hve]
   clear hve
   have s01:=HS1.out
   have s12:=b2.size
   have hs0:=HS0.out
   have n2:=(b2.block _ (gl N1.out)).trans N1.out
   have n3:=(b2.block _ (gl N0.out)).trans N0.out
   obtain ⟨⟨c0,c1,c2,c3,c4,c5,c6⟩,fz⟩:=box7 n2
   obtain ⟨W3,hW3⟩ : ∃ X,((((((W2.setCell ⟨W.heap.size+1,0,none⟩ (.pointer pf')).setCell ⟨W.heap.size+1,1,none⟩ (.int .i64 x.k)).setCell ⟨W.heap.size+1,2,none⟩ (.string x.t)).setCell ⟨W.heap.size+1,3,none⟩ (.int .i64 x.n)).setCell ⟨W.heap.size+1,4,none⟩ (.slice ax x.ks.length cx)).setCell ⟨W.heap.size+1,5,none⟩ (.bool (inT x.k q.th))).setCell ⟨W.heap.size+1,6,none⟩ (.bool (inR x.k q.rt))=X:=⟨_,rfl⟩
   have T3 : Hid (W3.heap[W.heap.size+1]?=some (q'.o (.pointer pf'))):=by show _=_;rw [← hW3,hq'];exact set7_same _ _ _ _ _ _ _ n2
   have ne3 : ∀ k,k ≠ W.heap.size+1→W3.heap[k]?=W2.heap[k]?:=fun k hk=>by rw [← hW3];exact set7_other _ _ _ _ _ _ _ hk
   have SK:=set7_kpt W2 (W.heap.size+1) (.pointer pf') (.int .i64 x.k) (.string x.t) (.int .i64 x.n) (.slice ax x.ks.length cx) (.bool (inT x.k q.th)) (.bool (inR x.k q.rt))
   rw [hW3] at SK
   have HS3 : Hid (W3.heap.size=W2.heap.size):=SK.2
   have KW3 : Hid (Kpt (Own c vu) W W3):=(KW1.out.trans (Kpt.of b2 (M:=Own c vu)) (fun _ _ w=>w)).trans SK.1 (fun i hi e=>absurd e (Nat.ne_of_lt (Nat.lt_succ_of_lt hi)))
   clear SK
   have H3 : Hid (Rv c W3 (p : Int) E1 vu1 U1):=(H1.out.bel b2).other n2 (by decide) ne3 (Nat.le_of_eq HS3.out.symm)
   have HF3 : Hid _:=hF2.other n2 (by decide) ne3
   have HA3 : Hid _:=(HA1.out.bel b2).other n2 (by decide) ne3
   have HV3 : Hid _:=(HV1.out.bel b2).other n2 (by decide) ne3
   have p3:=(ne3 W.heap.size (by omega)).trans n3
   obtain ⟨⟨a0,a1,a2,a3⟩,_⟩:=box4 p3
   have HQ : Hid _:=hq'
   clear p3 n2 n3 hF2 ne3 b2 N0 N1 HF1 HA1 HV1 H1 KW1 HX1 s01 s12 hs0 hq' HS1
   go_wp2
   clear c0 c1 c2 c3 c4 c5 c6 fz a0 a1 a2 a3
   go_loopw [28] (fun i wr=>∃ (j : Nat) (a : Int) (Ej : List ByteArray) (vj : Value) (Uj : List Us),i = .int .i64 (j : Nat)∧j ≤ x.ks.length∧Hid (a=(p : Int)+sizes (x.ks.take j))∧Hid (pvs A (f' :: F') q'.pk q'.pt q'.th q'.rt (x.ks.take j) ((p : Int)+1) (E1,U1) = .ok (Ej,Uj))∧Rv c wr a Ej vj Uj∧Kpt (Own c vu1) W3 wr∧Hid (∀ k,vj.ownBlock=some k→vu1.ownBlock=some k ∨ W3.heap.size ≤ k)∧Hid (Uj.length ≤ U.length+1+sizes (x.ks.take j))) (fun i _=>x.ks.length - (intOf i).toNat)
   case atStart=>exact ⟨0,(p : Int),E1,vu1,U1,rfl,by omega,by show _=_;rw [List.take_zero,sizes_nil];simp,by show _=_;rw [List.take_zero,pvs],H3.out,Kpt.refl _ _,fun k hk=>.inl hk,by have:=HL1.out;show _ ≤ _;omega⟩
   case round =>
    obtain ⟨j,a,Ej,vj,Uj,rfl,hj,Ha,Hp,hRj,kpj,owj,HUj⟩:=hrel
    have hsz:=kpj.size
    have tl:=take_sizes_le x.ks j
    have lx:=sizes_len x.ks
    by_cases hjl : j < x.ks.length
    ·obtain ⟨rfl,hSx,hbx⟩:=PX.out (by omega)
     have Hbel : Hid (∀ b,S b→b < W.heap.size→wr.heap[b]?=W.heap[b]?):=fun b hb hl=>(kpj.block b (Nat.lt_of_lt_of_le hl KW3.out.size) (H3.out.nown HSS.out hb)).trans (KW3.out.block b hl (HH.out.nown HSS.out hb))
     have HZs : Hid (sizes (x.ks.take (j+1))=sizes (x.ks.take j)+x.ks[j].size):=take_sizes x.ks hjl
     have hle1:=take_sizes_le x.ks (j+1)
     rw [HZs.out] at hle1
     obtain ⟨u1,u2,u3,u4⟩:=(QX.out j hjl).of_block (Hbel.out bx hSx hbx)
     have gx : LAt wr S (fx j) x.ks[j].ks:=(RX.out j hjl).keep (Nat.le_trans KW3.out.size hsz) (fun b hb hl=>Hbel.out b hb hl)
     obtain ⟨ak,ck,hfk⟩:=gx.sl
     rw [hfk] at u4 gx
     have hmem:=List.getElem_mem hjl
     have HLk : Hid (Uj.length+x.ks[j].size ≤ 4194304):=by have:=HUj.out;show _ ≤ _;omega
     have PN : Hid (pvs A (f' :: F') q'.pk q'.pt q'.th q'.rt (x.ks.take (j+1)) ((p : Int)+1) (E1,U1)=pv A (f' :: F') q'.pk q'.pt q'.th q'.rt x.ks[j] ((p+1+sizes (x.ks.take j) : Nat) : Int) (Ej,Uj)):=by
      have e : ((p+1+sizes (x.ks.take j) : Nat) : Int)=(p : Int)+1+(sizes (x.ks.take j) : Int):=by push_cast;rfl
      show _=_
      rw [e]
      exact pvs_next hjl Hp.out
     have ea : a+1=((p+1+sizes (x.ks.take j) : Nat) : Int):=by rw [Ha.out];push_cast;omega
     have ha0 : 0 ≤ a:=by have:=Ha.out;omega
     have ha1 : a+1 ≤ 4194305:=by have:=Ha.out;omega
     obtain ⟨WB,hWB⟩ : ∃ X,wr.alloc (nO x.ks[j] (.slice ak x.ks[j].ks.length ck))=X:=⟨_,rfl⟩
     have bB : Below wr.heap.size wr WB:=by rw [← hWB];exact bel_a _ _
     have mB : WB.heap[wr.heap.size]?=some (nO x.ks[j] (.slice ak x.ks[j].ks.length ck)):=by rw [← hWB];exact hnew _ rfl
     have hRB:=hRj.bel bB
     have dB : WB.cell? ⟨c.ax,0,none⟩=some (.int .i64 a):=by simp [World.cell?,hRB.a]
     have fB : WB.frozen? ⟨c.ax,0,none⟩=false:=by simp [World.frozen?,hRB.a]
     obtain ⟨hRC,kC⟩:=hRB.step (a+1)
     obtain ⟨WC,hWC⟩ : ∃ X,WB.setCell ⟨c.ax,0,none⟩ (.int .i64 (a+1))=X:=⟨_,rfl⟩
     rw [hWC] at hRC kC
     rw [ea] at hRC
     have mC:=hRB.kept kC mB (by decide)
     have t3:=H3.out.kept kpj T3.out (by decide)
     have tC:=hRB.kept kC ((bB.block _ (gl t3)).trans t3) (by decide)
     have VC:=((HV3.out.kept H3.out kpj).bel bB).kept hRB kC
     have FC:=hRB.sat kC ((H3.out.sat kpj HF3.out).bel bB)
     have AC:=hRB.sat kC ((H3.out.sat kpj HA3.out).bel bB)
     have LC:=hRB.lat kC HSS.out (gx.bel bB)
     have CI:=IH.out x.ks[j] hmem (WN.out.k _ hmem) WC (p+1+sizes (x.ks.take j)) Ej vj Uj hRC (.slice ak x.ks[j].ks.length ck) LC ((ZAt.kids HZ.out).at hjl) q' (.pointer pf') f' F' FC AC VC HLk.out
     obtain ⟨⟨e0,e1,e2,e3⟩,_⟩:=box4 mC
     obtain ⟨⟨c0,c1,c2,c3,c4,c5,c6⟩,_⟩:=box7 tC
     have dV : WC.cell? ⟨vb,0,none⟩=some (.func (.func 35) #[] #[.pointer (some ⟨xb,0,none⟩),.pointer (some ⟨c.ax,0,none⟩),.pointer (some ⟨vb,0,none⟩)]):=by simp [World.cell?,VC.v]
     have KC : Hid (Kpt (Own c vj) wr WC):=(Kpt.of bB).trans kC (fun _ _ w=>w)
     have HKP : Hid _:=kpj
     clear mC t3 tC VC FC AC LC hRC kC hRB mB bB hRj kpj gx hfk hSx hbx ea Ha
     generalize x.ks[j]=xk at *
     unfold Nd.v Wh.v at CI
     unfold nO at hWB
     go_wp2_with fail
     go_at_call 35
     refine CI.mono ?_
     rintro e W5 ⟨er5,pz5,E5,vu5,U5,rfl,an5,h5,k5,ow5⟩
     have KWB : Hid (Kpt (Own c vu1) W3 W5):=HKP.out.trans (KC.out.trans k5 (fun _ _ w=>w)) (own_trans hsz owj.out)
     have OW5 : Hid (∀ k,vu5.ownBlock=some k→vu1.ownBlock=some k ∨ W3.heap.size ≤ k):=fun k hk=>by
      rcases ow5 k hk with w | w
      ·exact owj.out k w
      ·exact .inr (Nat.le_trans hsz (Nat.le_trans KC.out.size w))
     have H5 : Hid _:=h5
     clear CI e0 e1 e2 e3 c0 c1 c2 c3 c4 c5 c6 dV dB fB hWB hWC u1 u2 u3 u4 h5 k5 ow5
     cases hpv : pv A (f' :: F') q'.pk q'.pt q'.th q'.rt xk ((p+1+sizes (x.ks.take j) : Nat) : Int) (Ej,Uj) with
     | error pr =>
      rw [hpv] at an5
      obtain ⟨rfl,hne,rfl⟩:=an5
      have hne' : (pr.2 == 0)=false:=by simpa using hne
      have HR : Hid (VisA c W vu (pv A (f :: F) q.pk q.pt q.th q.rt x (p : Int) (E,U)) (U.length+x.size) ((p : Int)+x.size - 1) (.returned (.int .i64 pr.2)) W5):=by
       show VisA _ _ _ _ _ _ _ _
       rw [HE3.out,pvs_err (PN.out.trans hpv)]
       refine ⟨_,_,E5,vu5,U5,rfl,⟨rfl,hne,rfl⟩,H5.out,KW3.out.trans KWB.out (own_trans KW3.out.size HW1.out),fun k hk=>?_⟩
       rcases OW5.out k hk with w | w
       ·exact HW1.out k w
       ·exact .inr (Nat.le_trans KW3.out.size w)
      clear hpv PN
      go_wp2
      go_ret
      exact HR.out
     | ok S5 =>
      rw [hpv] at an5
      obtain ⟨rfl,rfl,rfl,hlen⟩:=an5
      have HPV : Hid (pvs A (f' :: F') q'.pk q'.pt q'.th q'.rt (x.ks.take (j+1)) ((p : Int)+1) (E1,U1) = .ok (E5,U5)):=PN.out.trans hpv
      have HLN : Hid (U5.length ≤ U.length+1+sizes (x.ks.take (j+1))):=by have:=HUj.out;have:=HZs.out;show _ ≤ _;omega
      clear hpv PN hlen
      go_wp2
      go_roundw
      case rel=>exact ⟨j+1,_,E5,vu5,U5,by simp,by omega,by show _=_;rw [HZs.out];push_cast;omega,HPV,H5.out,KWB.out,OW5,HLN⟩
      case measure=>simp [intOf];omega
    ·have e : x.ks.take j=x.ks:=List.take_of_length_le (by omega)
     have HR : Hid (VisA c W vu (pv A (f :: F) q.pk q.pt q.th q.rt x (p : Int) (E,U)) (U.length+x.size) ((p : Int)+x.size - 1) (.returned (.int .i64 0)) wr):=by
      have e1:=Hp.out
      have e2:=Ha.out
      have e3:=HUj.out
      rw [e] at e1 e2 e3
      show VisA _ _ _ _ _ _ _ _
      rw [HE3.out,e1]
      refine ⟨_,_,Ej,vj,Uj,rfl,⟨rfl,rfl,by rw [e2];omega,by omega⟩,hRj,KW3.out.trans kpj (own_trans KW3.out.size HW1.out),fun k hk=>?_⟩
      rcases owj.out k hk with w | w
      ·exact HW1.out k w
      ·exact .inr (Nat.le_trans KW3.out.size w)
     clear Hp Ha HUj e
     go_wp2
     go_ret
     exact HR.out
structure Rx (c : Rc) (W : World) (E : List ByteArray) (vu : Value) (U : List Us) : Prop where
 r : W.heap[c.rb]?=some (.cells #[.slice (some ⟨c.sb,0,none⟩) c.Z.length c.cz,c.vn,c.va,.map (some c.eb),c.vt,vu] 58 (0,0))
 e : ∃ n,Em W c.eb n E
 u : W.ownsRow c.B 37 5 vu U.length (usV U)
 z : Zr W c.sb c.cz c.Z
 b : c.B ≤ W.heap.size
theorem Rx.at {c : Rc} {W : World} {E : List ByteArray} {vu : Value} {U : List Us} (h : Rx c W E vu U) {ax : Nat} {p : Int} (ha : W.heap[ax]?=some (.cells #[.int .i64 p] 3 (0,0))) (hd : c.sb ≠ ax) : Rv { c with ax:=ax } W p E vu U:=⟨h.r,ha,h.e,h.u,h.z,hd,h.b⟩
theorem Rv.x {c : Rc} {W : World} {p : Int} {E : List ByteArray} {vu : Value} {U : List Us} {ax : Nat} (h : Rv { c with ax:=ax } W p E vu U) : Rx c W E vu U:=⟨h.r,h.e,h.u,h.z,h.b⟩
theorem Rx.bel {c : Rc} {W W' : World} {E : List ByteArray} {vu : Value} {U : List Us} (h : Rx c W E vu U) (b : Below W.heap.size W W') : Rx c W' E vu U:=by
 obtain ⟨n,he⟩:=h.e
 exact ⟨(b.block _ (gl h.r)).trans h.r,⟨n,MF.keep he (b.block _ he.lt)⟩,rw_keep h.u fun k hk=>b.block k (rw_lt h.u k hk).2,h.z.keep (b.block _ h.z.lt),Nat.le_trans h.b b.size⟩
def OwnX (c : Rc) (vu : Value) (k : Nat) : Prop:=k=c.rb ∨ k=c.eb ∨ vu.ownBlock=some k
def WalkA (c : Rc) (W : World) (vu : Value) (res : Except (Int × Int) Ps) (m : Nat) (z : Int) (e : Ending) (W' : World) : Prop :=
 ∃ er pz E' vu' U',e = .returned (.tuple #[.int .i64 pz,.int .i64 er])∧AnsP res er pz E' U' m z∧Rx c W' E' vu' U'∧Kpt (OwnX c vu) W W'∧∀ k,vu'.ownBlock=some k→vu.ownBlock=some k ∨ W.heap.size ≤ k
theorem walk_any {c : Rc} {W : World} {E : List ByteArray} {vu : Value} {U : List Us} (h : Rx c W E vu U) (x : Nd) (v : Value) {S : Nat→Prop} (hx : LAt W S v x.ks) (hS : ∀ b,S b→b < c.B∧b ≠ c.rb∧b ≠ c.eb) (wn : Wn x) (hZ : ZAt c.Z 0 x) {f A : List Dc} {F : List (List Dc)} (hF : SAt W (fun k=>k ≠ c.eb) c.vn (f :: F)) (hA : SAt W (fun k=>k ≠ c.eb) c.va [A]) (zZ : c.Z.length ≤ 4194304) (hU : U.length+x.size ≤ 4194304) :
 Calls Tryz.prog 20 #[.pointer (some ⟨c.rb,0,none⟩),x.v v] W (WalkA c W vu (pv A (f :: F) 0 ⟨#[]⟩ false false x 0 (E,U)) (U.length+x.size) (x.size - 1)):=by
 obtain ⟨av,cv,rfl⟩:=hx.sl
 obtain ⟨W1,hW1⟩ : ∃ X,(((W.alloc (.cells #[.pointer (some ⟨c.rb,0,none⟩)] 51)).alloc (nO x (.slice av x.ks.length cv))).alloc (.cells #[.int .i64 0] 3)).alloc (.cells #[.nilFunc] 80)=X:=⟨_,rfl⟩
 have b1 : Below W.heap.size W W1:=by rw [← hW1];exact ((bel2 _ _ _).alloc (by simp;omega) _).alloc (by simp <;> omega) _
 have HS1 : Hid (W1.heap.size=W.heap.size+4):=by show _=_;rw [← hW1];simp
 have m0 : W1.heap[W.heap.size]?=some (.cells #[.pointer (some ⟨c.rb,0,none⟩)] 51 (0,0)):=by rw [← hW1];exact hold _ (by simp <;> omega) (hold _ (by simp <;> omega) (hold _ (by simp) (hnew _ rfl)))
 have m1 : W1.heap[W.heap.size+1]?=some (nO x (.slice av x.ks.length cv)):=by rw [← hW1];exact hold _ (by simp <;> omega) (hold _ (by simp) (hnew _ (by simp)))
 have m2 : W1.heap[W.heap.size+1+1]?=some (.cells #[.int .i64 0] 3 (0,0)):=by rw [← hW1];exact hold _ (by simp) (hnew _ (by simp))
 have m3 : W1.heap[W.heap.size+1+1+1]?=some (.cells #[.nilFunc] 80 (0,0)):=by rw [← hW1];exact hnew _ (by simp)
 have d1 : W1.cell? ⟨W.heap.size+1+1+1,0,none⟩=some .nilFunc:=by simp [World.cell?,m3]
 have d2 : W1.frozen? ⟨W.heap.size+1+1+1,0,none⟩=false:=by simp [World.frozen?,m3]
 obtain ⟨W2,hW2⟩ : ∃ X,W1.setCell ⟨W.heap.size+1+1+1,0,none⟩ (.func (.func 35) #[] #[.pointer (some ⟨W.heap.size,0,none⟩),.pointer (some ⟨W.heap.size+1+1,0,none⟩),.pointer (some ⟨W.heap.size+1+1+1,0,none⟩)])=X:=⟨_,rfl⟩
 have b2 : Below W.heap.size W W2:=by rw [← hW2];exact bel_set b1 (by omega)
 have ne2 : ∀ k,k ≠ W.heap.size+1+1+1→W2.heap[k]?=W1.heap[k]?:=fun k hk=>by rw [← hW2];exact Below.heap_setCell _ _ _ _ hk
 have n0:=(ne2 W.heap.size (by omega)).trans m0
 have n1:=(ne2 (W.heap.size+1) (by omega)).trans m1
 have n2:=(ne2 (W.heap.size+1+1) (by omega)).trans m2
 have n3 : W2.heap[W.heap.size+1+1+1]?=some (.cells #[.func (.func 35) #[] #[.pointer (some ⟨W.heap.size,0,none⟩),.pointer (some ⟨W.heap.size+1+1,0,none⟩),.pointer (some ⟨W.heap.size+1+1+1,0,none⟩)]] 80 (0,0)):=by rw [← hW2];simp [World.setCell,Array.getElem?_modify,m3]
 have hrb:=(gl h.r)
 have hsb:=h.z.lt
 have h2 : Rv { c with ax:=W.heap.size+1+1 } W2 ((0 : Nat) : Int) E vu U:=(h.bel b2).at n2 (by omega)
 have hbb:=h.b
 have CV:=visit_any (c:={ c with ax:=W.heap.size+1+1 }) (A:=A) (xb:=W.heap.size) (vb:=W.heap.size+1+1+1) (S:=S) (fun b hb=>⟨(hS b hb).1,(hS b hb).2.1,(hS b hb).2.2,by have:=(hS b hb).1;show b ≠ W.heap.size+1+1;omega⟩) zZ x wn W2.drew 0 E vu U h2.drew (.slice av x.ks.length cv) ((hx.bel b2).bel (Below.refl _ _).drew) hZ ⟨0,⟨#[]⟩,0,none,0,0,false,false⟩ c.vn f F ((hF.bel b2).bel (Below.refl _ _).drew) ((hA.bel b2).bel (Below.refl _ _).drew) ((⟨n0,n3⟩ : Vb W2 { c with ax:=W.heap.size+1+1 } W.heap.size (W.heap.size+1+1+1)).bel (Below.refl _ _).drew) hU
 have e0 : W2.cell? ⟨W.heap.size,0,none⟩=some (.pointer (some ⟨c.rb,0,none⟩)):=by simp [World.cell?,n0]
 obtain ⟨⟨g0,g1,g2,g3⟩,_⟩:=box4 n1
 have e3 : W2.cell? ⟨W.heap.size+1+1+1,0,none⟩=some (.func (.func 35) #[] #[.pointer (some ⟨W.heap.size,0,none⟩),.pointer (some ⟨W.heap.size+1+1,0,none⟩),.pointer (some ⟨W.heap.size+1+1+1,0,none⟩)]):=by simp [World.cell?,n3]
 obtain ⟨⟨r0,r1,r2,r3,r4,r5⟩,_⟩:=box6 h2.r
 obtain ⟨pn,hpn⟩:=hF.ptr
 have HSU : Hid (∀ (W5 : World) (E5 : List ByteArray) (vu5 : Value) (U5 : List Us) (pz : Int),Rv { c with ax:=W.heap.size+1+1 } W5 pz E5 vu5 U5→Kpt (Own { c with ax:=W.heap.size+1+1 } vu) W2.drew W5→W5.cell? ⟨W.heap.size+1+1+1,0,none⟩=some (.func (.func 35) #[] #[.pointer (some ⟨W.heap.size,0,none⟩),.pointer (some ⟨W.heap.size+1+1,0,none⟩),.pointer (some ⟨W.heap.size+1+1+1,0,none⟩)])∧(NqZ W5 (W.heap.size+1) x.k x.t x.n av x.ks.length cv)∧W5.cell? ⟨W.heap.size,0,none⟩=some (.pointer (some ⟨c.rb,0,none⟩))∧W5.cell? ⟨c.rb,1,none⟩=some (.pointer pn)):=fun W5 E5 vu5 U5 pz h5 k5=>by
  have y0:=h2.drew.kept k5 n0 (by decide)
  have y1:=h2.drew.kept k5 n1 (by decide)
  have y3:=h2.drew.kept k5 n3 (by decide)
  refine ⟨by simp [World.cell?,y3],(box4 y1).1,by simp [World.cell?,y0],?_⟩
  rw [← hpn]
  exact (box6 h5.r).1.2.1
 have hwv : (⟨0,⟨#[]⟩,0,none,0,0,false,false⟩ : Wh).v c.vn = .agg #[.pointer pn,.int .i64 0,.string ⟨#[]⟩,.int .i64 0,.slice none 0 0,.bool false,.bool false]:=by unfold Wh.v;rw [hpn]
 rw [hwv] at CV
 rw [hpn] at r1
 clear hwv
 have B2 : Hid _:=b2
 have H2 : Hid _:=h2
 clear m0 m1 m2 m3 n0 n1 n2 n3 ne2 b1 b2 h2 hF hA hZ wn hx hS h hrb hsb hbb hpn zZ hU
 unfold nO at hW1
 unfold Nd.v at CV
 unfold Nd.v
 go_enter Tryz.func20,Tryz.ntmps20
 go_wp2_with fail
 have su : (fun X=>X.cell? ⟨W.heap.size+1+1+1,0,none⟩=some (.func (.func 35) #[] #[.pointer (some ⟨W.heap.size,0,none⟩),.pointer (some ⟨W.heap.size+1+1,0,none⟩),.pointer (some ⟨W.heap.size+1+1+1,0,none⟩)])∧(NqZ X (W.heap.size+1) x.k x.t x.n av x.ks.length cv)∧X.cell? ⟨W.heap.size,0,none⟩=some (.pointer (some ⟨c.rb,0,none⟩))∧X.cell? ⟨c.rb,1,none⟩=some (.pointer pn)) W2.drew:=⟨e3,⟨g0,g1,g2,g3⟩,e0,r1⟩
 refine wp_region_U (u:=8) (S:=fun X=>X.cell? ⟨W.heap.size+1+1+1,0,none⟩=some (.func (.func 35) #[] #[.pointer (some ⟨W.heap.size,0,none⟩),.pointer (some ⟨W.heap.size+1+1,0,none⟩),.pointer (some ⟨W.heap.size+1+1+1,0,none⟩)])∧(NqZ X (W.heap.size+1) x.k x.t x.n av x.ks.length cv)∧X.cell? ⟨W.heap.size,0,none⟩=some (.pointer (some ⟨c.rb,0,none⟩))∧X.cell? ⟨c.rb,1,none⟩=some (.pointer pn)) (by kernel_rfl) ?_
 change wpAnyU _ _ _ _ _ _ _ _ _ (World.drew _)
 refine uT 0 (.func (.func 35) #[] #[.pointer (some ⟨W.heap.size,0,none⟩),.pointer (some ⟨W.heap.size+1+1,0,none⟩),.pointer (some ⟨W.heap.size+1+1+1,0,none⟩)]) su ?_
 refine uT 1 (.agg #[.int .i64 x.k,.string x.t,.int .i64 x.n,.slice av x.ks.length cv]) su ?_
 refine uT 2 (.pointer (some ⟨c.rb,0,none⟩)) su ?_
 refine uT 3 (.pointer (some ⟨c.rb,0,none⟩)) su ?_
 refine uT 4 (.pointer (some ⟨c.rb,1,none⟩)) su ?_
 refine uT 5 (.pointer pn) su ?_
 refine uT 6 (.agg #[.pointer pn,.int .i64 0,.string ⟨#[]⟩,.int .i64 0,.slice none 0 0,.bool false,.bool false]) su ?_
 refine U_ready (rs:=[7]) (by kernel_rfl) (by simp) ?_
 refine AllU.cons rfl (by decide) (fun K hK=>?_) AllU.nil
 go_simp
 go_at_call 35
 refine CV.mono ?_
 rintro e W5 ⟨er,pz,E5,vu5,U5,rfl,an5,h5,k5,ow5⟩
 have s5 : W5.cell? ⟨W.heap.size+1+1+1,0,none⟩=some (.func (.func 35) #[] #[.pointer (some ⟨W.heap.size,0,none⟩),.pointer (some ⟨W.heap.size+1+1,0,none⟩),.pointer (some ⟨W.heap.size+1+1+1,0,none⟩)])∧(NqZ W5 (W.heap.size+1) x.k x.t x.n av x.ks.length cv)∧W5.cell? ⟨W.heap.size,0,none⟩=some (.pointer (some ⟨c.rb,0,none⟩))∧W5.cell? ⟨c.rb,1,none⟩=some (.pointer pn):=HSU.out W5 E5 vu5 U5 pz h5 k5
 refine hK.out _ _ s5 ?_
 clear hK K
 have d5 : W5.cell? ⟨W.heap.size+1+1,0,none⟩=some (.int .i64 pz):=by simp [World.cell?,h5.a]
 have HR : Hid (WalkA c W vu (pv A (f :: F) 0 ⟨#[]⟩ false false x 0 (E,U)) (U.length+x.size) (x.size - 1) (.returned (.tuple #[.int .i64 pz,.int .i64 er])) W5):=by
  refine ⟨er,pz,E5,vu5,U5,rfl,by simpa using an5,h5.x,(Kpt.of B2.out (M:=OwnX c vu)).trans (N:=Own { c with ax:=W.heap.size+1+1 } vu) ⟨k5.os,k5.tape,k5.output,k5.size,k5.block⟩ (fun i hi w=>?_),fun k hk=>(ow5 k hk).imp id (fun w=>Nat.le_trans B2.out.size w)⟩
  rcases w with w | w | w | w
  ·exact .inl w
  ·exact .inr (.inl w)
  ·have w : i=W.heap.size+1+1:=w
   omega
  ·exact .inr (.inr w)
 clear an5 h5 k5 ow5 s5 CV
 refine U_end (by kernel_rfl) ?_
 refine wpAny_chain [_] [8] _ _ _ _ (by kernel_rfl) rfl (by decide) ?_
 go_wp2
 go_ret2
 exact HR.out
theorem region_held {PP : Program} {ops : Array Oper} {Q : Exit→Act→World→Prop} {id : Nat} {a : Act} {w : World} (S : World→Prop) (hm : PP.follows .mixedOrders=true) (hS : S w.drew)
 (h : S w.drew→wpAnyH PP .any ops Q S ops.size (Array.replicate ops.size false) a w.drew) : (Code.region id ops true).wp PP Q a w :=
 wp_region_any hm (wpAny_of_held _ _ _ _ (h hS))
structure Tv (c : Rc) (nb mb : Nat) (vo : Value) (W : World) (vt : Value) (T : List Tp) : Prop where
 r : W.heap[c.rb]?=some (.cells #[.slice (some ⟨c.sb,0,none⟩) c.Z.length c.cz,.pointer (some ⟨nb,0,none⟩),c.va,.map (some c.eb),vt,.slice none 0 0] 58 (0,0))
 s : W.heap[nb]?=some (.cells #[.map (some mb),vo] 76 (0,0))
 m : ∃ n,Sm W mb n (T.map dc1)
 t : W.ownsRow c.B 43 5 vt T.length (tpV T)
 z : Zr W c.sb c.cz c.Z
 b : c.B ≤ W.heap.size
def OwnT (c : Rc) (mb : Nat) (vt : Value) (k : Nat) : Prop:=k=c.rb ∨ k=mb ∨ vt.ownBlock=some k
theorem Tv.bel {c : Rc} {nb mb : Nat} {vo : Value} {W W' : World} {vt : Value} {T : List Tp} (h : Tv c nb mb vo W vt T) (b : Below W.heap.size W W') : Tv c nb mb vo W' vt T:=by
 obtain ⟨n,he⟩:=h.m
 exact ⟨(b.block _ (gl h.r)).trans h.r,(b.block _ (gl h.s)).trans h.s,⟨n,MF.keep he (b.block _ he.lt)⟩,rw_keep h.t fun k hk=>b.block k (rw_lt h.t k hk).2,h.z.keep (b.block _ h.z.lt),Nat.le_trans h.b b.size⟩
theorem Tv.far {c : Rc} {nb mb : Nat} {vo : Value} {W : World} {vt : Value} {T : List Tp} (h : Tv c nb mb vo W vt T) {k : Nat} {cs : Array Value} {t : TypeId} {fr : Nat × Nat} (hk : W.heap[k]?=some (.cells cs t fr)) (ht : t ≠ 58∧t ≠ 43) : ¬ OwnT c mb vt k:=by
 rintro (q | q | q)
 ·subst q;rw [h.r] at hk;injection hk with hk;injection hk with _ hk;exact ht.1 hk.symm
 ·subst q
  obtain ⟨n,es,clock,hb,_⟩:=h.m
  rw [hb] at hk;injection hk with hk;cases hk
 ·obtain ⟨cur,hb⟩:=own_cells h.t q
  rw [hb] at hk;injection hk with hk;injection hk with _ hk;exact ht.2 hk.symm
theorem Tv.kept {c : Rc} {nb mb : Nat} {vo : Value} {W W' : World} {vt : Value} {T : List Tp} (h : Tv c nb mb vo W vt T) (q : Kpt (OwnT c mb vt) W W') {k : Nat} {cs : Array Value} {t : TypeId} {fr : Nat × Nat} (hk : W.heap[k]?=some (.cells cs t fr)) (ht : t ≠ 58∧t ≠ 43) : W'.heap[k]?=some (.cells cs t fr) :=
 (q.block k (gl hk) (h.far hk ht)).trans hk
theorem Tv.push {c : Rc} {nb mb n : Nat} {vo : Value} {W X Y W3 : World} {vt : Value} {T : List Tp} {gg cap : Nat} (h : Tv c nb mb vo W vt T) (x : Tp) (hm : Sm X mb n ((T ++ [x]).map dc1)) (g : W.grownBy X (some mb)) (b : Below X.heap.size X Y)
 (r1 : W3.ownsRow c.B 43 5 (.slice (some ⟨gg,0,none⟩) (T.length+1) cap) (T.length+1) (tpV T ++ x.cs)) (r2 : Y.grownBy W3 vt.ownBlock) (r3 : vt.ownBlock=some gg ∨ gg=Y.heap.size) :
 Tv c nb mb vo (W3.setCell ⟨c.rb,4,none⟩ (.slice (some ⟨gg,0,none⟩) (T.length+1) cap)) (.slice (some ⟨gg,0,none⟩) (T.length+1) cap) (T ++ [x])∧Kpt (OwnT c mb vt) W (W3.setCell ⟨c.rb,4,none⟩ (.slice (some ⟨gg,0,none⟩) (T.length+1) cap)) ∧
  (∀ k,(Value.slice (some ⟨gg,0,none⟩) (T.length+1) cap).ownBlock=some k→vt.ownBlock=some k ∨ W.heap.size ≤ k)∧W3.heap[c.rb]?=W.heap[c.rb]?:=by
 have s0:=g.size
 have s1:=b.size
 obtain ⟨n0,hm0⟩:=h.m
 obtain ⟨es0,cl0,hmb,_⟩:=hm0
 have hmX:=hm
 obtain ⟨esX,clX,hmbX,_⟩:=hmX
 have own : ∀ {k : Nat} {cs : Array Value} {t : TypeId} {fr : Nat × Nat},W.heap[k]?=some (Obj.cells cs t fr)→t ≠ 43→some k ≠ vt.ownBlock:=fun {k cs t fr} hk ht e=>by
  obtain ⟨cur,hb⟩:=own_cells h.t e.symm
  rw [hb] at hk;injection hk with hk;injection hk with _ hk;exact ht hk.symm
 have nm : ∀ {k : Nat} {cs : Array Value} {t : TypeId} {fr : Nat × Nat},W.heap[k]?=some (Obj.cells cs t fr)→some k ≠ some mb:=fun {k cs t fr} hk e=>by
  injection e with e;rw [e,hmb] at hk;injection hk with hk;cases hk
 have kb : ∀ {k : Nat} {cs : Array Value} {t : TypeId} {fr : Nat × Nat},W.heap[k]?=some (Obj.cells cs t fr)→t ≠ 43→W3.heap[k]?=W.heap[k]?:=fun {k cs t fr} hk ht=>by
  have hl:=(gl hk)
  exact (r2.block k (by omega) (own hk ht)).trans ((b.block k (by omega)).trans (g.block k hl (nm hk)))
 have gne : ∀ {k : Nat} {cs : Array Value} {t : TypeId} {fr : Nat × Nat},W.heap[k]?=some (Obj.cells cs t fr)→t ≠ 43→gg ≠ k:=fun {k cs t fr} hk ht e=>by
  subst e
  rcases r3 with q | q
  ·exact own hk ht q.symm
  ·have:=(gl hk);omega
 have hr3:=kb h.r (by decide)
 have hs3:=kb h.s (by decide)
 have ns : nb ≠ c.rb:=fun e=>by have h1:=h.s;rw [e,h.r] at h1;injection h1 with h1;cases h1
 have nmb : mb ≠ c.rb:=fun e=>by rw [e,h.r] at hmb;injection hmb with hmb;cases hmb
 have km : W3.heap[mb]?=X.heap[mb]?:=(r2.block _ (by have:=hm.lt;omega) (fun e=>by
  obtain ⟨cur,hb⟩:=own_cells h.t e.symm
  rw [hb] at hmb;injection hmb with hmb;cases hmb)).trans (b.block _ hm.lt)
 obtain ⟨base,hz⟩:=h.z
 obtain ⟨cz,hzc⟩:=own_cells hz (g:=c.sb) rfl
 have nz : c.sb ≠ c.rb:=fun e=>by rw [e,h.r] at hzc;injection hzc with hzc;cases hzc
 have kz:=kb hzc (by decide)
 have kp : Kpt (OwnT c mb vt) W W3:=((Kpt.grown (M:=OwnT c mb vt) g (fun k e=>by injection e with e;exact .inr (.inl e.symm))).trans (Kpt.of b (M:=OwnT c mb vt)) (fun _ _ q=>q)).trans (Kpt.grown (M:=OwnT c mb vt) r2 (fun k e=>.inr (.inr e))) (fun _ _ q=>q)
 refine ⟨⟨?_,(Below.heap_setCell _ _ _ _ ns).trans (hs3.trans h.s),⟨n,MF.keep hm ((Below.heap_setCell _ _ _ _ nmb).trans km)⟩,?_,h.z.keep ((Below.heap_setCell _ _ _ _ nz).trans kz),by have:=kp.size;have:=h.b;simp [World.setCell];omega⟩,kp.trans (Kpt.set (M:=OwnT c mb vt) _ _ _ _ (.inl rfl)) (fun _ _ q=>q),fun k e=>?_,hr3⟩
 ·have : W3.heap[c.rb]?=_:=hr3.trans h.r
  simp [World.setCell,Array.getElem?_modify,this]
 ·have r1' : W3.ownsRow c.B 43 5 (.slice (some ⟨gg,0,none⟩) (T.length+1) cap) (T ++ [x]).length (tpV (T ++ [x])):=by
   rw [tpV_app,List.length_append]
   have : tpV [x]=x.cs:=by unfold tpV;simp
   rw [this]
   exact r1
  refine rw_keep r1' fun k hk=>Below.heap_setCell _ _ _ _ (fun e=>?_)
  have hk : gg=k:=by simpa [Value.ownBlock] using hk
  have e : k=c.rb:=e
  exact gne h.r (by decide) (hk.trans e)
 ·have e : gg=k:=by simpa [Value.ownBlock] using e
  subst e
  rcases r3 with e | e
  ·exact .inl e
  ·exact .inr (by omega)
end Go.Proofs.YtfcocoadaajbjaaGreatDoor
