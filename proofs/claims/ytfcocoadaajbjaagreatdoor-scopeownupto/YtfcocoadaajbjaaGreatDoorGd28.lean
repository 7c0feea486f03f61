/- Own text. Package scope: what an item declares. Package scope: Builtins. -/
import Derived.Test.YtfcocoadaajbjaaGreatDoorGd27
set_option linter.unusedVariables false
set_option linter.unusedSimpArgs false
set_option maxRecDepth 100000
set_option maxHeartbeats 16000000
namespace Go.Proofs.YtfcocoadaajbjaaGreatDoor
open Go.RowKit Go.MapKept
attribute [local go_sem] Oper.semAt_some
theorem of_frame32 (g : Nat→Value) : Array.ofFn (n:=32) (fun i=>g i.val)=#[g 0,g 1,g 2,g 3,g 4,g 5,g 6,g 7,g 8,g 9,g 10,g 11,g 12,g 13,g 14,g 15,g 16,g 17,g 18,g 19,g 20,g 21,g 22,g 23,g 24,g 25,g 26,g 27,g 28,g 29,g 30,g 31]:=by
 kernel_rfl
theorem frame32 {t : Array Value} {p4 p7 p8 p9 : Value} (hs : t.size=32) (h4 : t.getD 4 undef=p4) (h7 : t.getD 7 undef=p7) (h8 : t.getD 8 undef=p8) (h9 : t.getD 9 undef=p9) : ∃ f : Nat→Value,t=#[f 0,f 1,f 2,f 3,p4,f 5,f 6,p7,p8,p9,f 10,f 11,f 12,f 13,f 14,f 15,f 16,f 17,f 18,f 19,f 20,f 21,f 22,f 23,f 24,f 25,f 26,f 27,f 28,f 29,f 30,f 31]:=by
 subst h4 h7 h8 h9
 refine ⟨fun i=>t.getD i undef,?_⟩
 rw [← of_frame32 (fun i=>t.getD i undef)]
 refine Array.ext (by rw [hs,Array.size_ofFn]) (fun i h1 h2=>?_)
 rw [Array.getElem_ofFn]
 simp [h1]
def Ji (c : Rc) (nb mb : Nat) (vo : Value) (W0 : World) (vt0 : Value) (T : List Tp) (X : World) : Prop :=
 ∃ vt',Tv c nb mb vo X vt' T∧Kpt (OwnT c mb vt0) W0 X∧∀ k,vt'.ownBlock=some k→vt0.ownBlock=some k ∨ W0.heap.size ≤ k
theorem Ji.bel {c : Rc} {nb mb : Nat} {vo : Value} {W0 X Z : World} {vt0 : Value} {T : List Tp} (h : Ji c nb mb vo W0 vt0 T X) (b : Below X.heap.size X Z) : Ji c nb mb vo W0 vt0 T Z:=by
 obtain ⟨vt',h1,h2,h3⟩:=h
 exact ⟨vt',h1.bel b,h2.trans (Kpt.of b (M:=OwnT c mb vt0)) (fun _ _ q=>q),h3⟩
theorem ownT_trans {c : Rc} {mb : Nat} {W W1 : World} {vt vt1 : Value} (ow : ∀ k,vt1.ownBlock=some k→vt.ownBlock=some k ∨ W.heap.size ≤ k) : ∀ k,k < W.heap.size→OwnT c mb vt1 k→OwnT c mb vt k:=fun k hk q=>by
 rcases q with q | q | q
 ·exact .inl q
 ·exact .inr (.inl q)
 ·rcases ow k q with q | q
  ·exact .inr (.inr q)
  ·omega
theorem Ji.put {c : Rc} {nb mb : Nat} {vo : Value} {W0 X : World} {vt0 : Value} {T : List Tp} (h : Ji c nb mb vo W0 vt0 T X) {l : Nat} (hl : W0.heap.size ≤ l) (hc : ∀ cs t fr,X.heap[l]? ≠ some (.cells cs t fr)) (hm : ∀ es cl,X.heap[l]? ≠ some (.map es cl)) (o : Obj) : Ji c nb mb vo W0 vt0 T (X.putObj l o):=by
 obtain ⟨vt',h1,h2,h3⟩:=h
 have ne : ∀ {k : Nat} {cs : Array Value} {t : TypeId} {fr : Nat × Nat},X.heap[k]?=some (Obj.cells cs t fr)→k ≠ l:=fun {k cs t fr} hk e=>hc _ _ _ (e ▸ hk)
 obtain ⟨n,hm1⟩:=h1.m
 have hm0:=hm1
 obtain ⟨es,cl,hb,_⟩:=hm0
 have nm : mb ≠ l:=fun e=>hm _ _ (e ▸ hb)
 obtain ⟨base,hz⟩:=h1.z
 obtain ⟨cz,hzc⟩:=own_cells hz (g:=c.sb) rfl
 have bp : Below W0.heap.size X (X.putObj l o):=below_put _ hl
 refine ⟨vt',⟨(World.putObj_heap_other (ne h1.r)).trans h1.r,(World.putObj_heap_other (ne h1.s)).trans h1.s,⟨n,MF.keep hm1 (World.putObj_heap_other nm)⟩,rw_keep h1.t fun k hk=>?_,h1.z.keep (World.putObj_heap_other (ne hzc)),Nat.le_trans h1.b bp.size⟩,⟨bp.os.trans h2.os,bp.tape.trans h2.tape,bp.output.trans h2.output,Nat.le_trans h2.size bp.size,fun k hk hn=>(bp.block k hk).trans (h2.block k hk hn)⟩,h3⟩
 obtain ⟨cur,hb⟩:=own_cells h1.t hk
 exact World.putObj_heap_other (ne hb)
theorem Ji.step {c : Rc} {nb mb : Nat} {vo : Value} {W0 X Z : World} {vt0 : Value} {T' : List Tp} {e : Ending} {vt' : Value} (h2 : Kpt (OwnT c mb vt0) W0 X) (h3 : ∀ k,vt'.ownBlock=some k→vt0.ownBlock=some k ∨ W0.heap.size ≤ k) (h : DtA c nb mb vo X vt' T' e Z) : Ji c nb mb vo W0 vt0 T' Z:=by
 obtain ⟨_,vt5,h5,k5,o5⟩:=h
 refine ⟨vt5,h5,h2.trans k5 (ownT_trans (W1:=X) h3),fun k hk=>?_⟩
 rcases o5 k hk with q | q
 ·exact h3 k q
 ·exact .inr (Nat.le_trans h2.size q)
theorem ptopL_app : ∀ (l r : List Nd) (p it : Int),ptopL (l ++ r) p it=ptopL l p it ++ ptopL r (p+sizes l) it
 | [],r,p,it=>by simp [ptopL,sizes_nil]
 | x :: l,r,p,it=>by
  have e : p+(x.size : Int)+(sizes l : Int)=p+((x.size+sizes l : Nat) : Int):=by push_cast;omega
  rw [List.cons_append,ptopL,ptopL,ptopL_app l r,sizes_cons,e,List.append_assoc]
theorem ptopL_len : ∀ (l : List Nd) (p it : Int),(ptopL l p it).length ≤ l.length
 | [],p,it=>by simp [ptopL]
 | x :: l,p,it=>by
  have:=ptopL_len l (p+x.size) it
  have h1 : (ptop1 x p it).length ≤ 1:=by unfold ptop1;split <;> simp
  rw [ptopL,List.length_append,List.length_cons]
  omega
def dcK (k : Int) : Bool:=decide (k=62 ∨ k=63 ∨ k=60)
def ptJ (x : Nd) (p it : Int) : List Tp:=ptop1 x p it ++ if dcK x.k=true then ptopL x.ks (p+1) it else []
theorem Tv.farO {c : Rc} {nb mb : Nat} {vo : Value} {W : World} {vt : Value} {T : List Tp} (h : Tv c nb mb vo W vt T) {k : Nat} (hc : ∀ cs t fr,W.heap[k]? ≠ some (.cells cs t fr)) (hm : ∀ es cl,W.heap[k]? ≠ some (.map es cl)) : ¬ OwnT c mb vt k:=by
 rintro (q | q | q)
 ·subst q;exact hc _ _ _ h.r
 ·subst q
  obtain ⟨n,es,clock,hb,_⟩:=h.m
  exact hm _ _ hb
 ·obtain ⟨cur,hb⟩:=own_cells h.t q
  exact hc _ _ _ hb
theorem Tv.lat {c : Rc} {nb mb : Nat} {vo : Value} {W W' : World} {vt : Value} {T : List Tp} (h : Tv c nb mb vo W vt T) (k : Kpt (OwnT c mb vt) W W') {S : Nat→Prop} (hS : ∀ b,S b→b < c.B∧b ≠ c.rb∧b ≠ mb) {v : Value} {l : List Nd} (hl : LAt W S v l) : LAt W' S v l :=
 hl.keep k.size fun b hb hlt=>k.block b hlt fun q=>by
  obtain ⟨h1,h2,h3⟩:=hS b hb
  rcases q with q | q | q
  ·exact h2 q
  ·exact h3 q
  ·have:=(rw_lt h.t b q).1;omega
theorem res_none {fn : Func} (h : fn.results=#[]) {tmps : Array Value} {W : World} : (results fn tmps).run Tryz.prog W = .ok (.tuple #[]) W:=by simp [results,h,go_sem]
theorem declareItem_any {c : Rc} {nb mb : Nat} {vo : Value} {W : World} {vt : Value} {T : List Tp} (h : Tv c nb mb vo W vt T) (x : Nd) (v : Value) {S : Nat→Prop} (hx : LAt W S v x.ks) (hS : ∀ b,S b→b < c.B∧b ≠ c.rb∧b ≠ mb) (hp : Pre x) (hpk : ∀ y ∈ x.ks,Pre y∧(dclN y).size ≤ 4194304) (p : Nat) (i : Int) (hZ : ZAt c.Z p x) (hn : (dclN x).size ≤ 4194304) (hT : T.length+x.size ≤ 4194304) (zZ : c.Z.length ≤ 4194304) :
 Calls Tryz.prog 34 #[.pointer (some ⟨c.rb,0,none⟩),x.v v,.int .i64 (p : Nat),.int .i64 i] W (DtA c nb mb vo W vt (T ++ ptJ x p i)):=by
 obtain ⟨av,cv,rfl⟩:=hx.sl
 have hle:=hZ.le
 have zs:=x.size_eq
 have lx:=sizes_len x.ks
 obtain ⟨W0,hW0⟩ : ∃ X,((W.alloc (.cells #[.pointer (some ⟨c.rb,0,none⟩)] 51)).alloc (nO x (.slice av x.ks.length cv))).alloc (.cells #[.int .i64 i] 3)=X:=⟨_,rfl⟩
 have b0 : Below W.heap.size W W0:=by rw [← hW0];exact (bel2 _ _ _).alloc (by simp;omega) _
 have m0 : W0.heap[W.heap.size]?=some (.cells #[.pointer (some ⟨c.rb,0,none⟩)] 51 (0,0)):=by rw [← hW0];exact hold _ (by simp <;> omega) (hold _ (by simp) (hnew _ rfl))
 have m1 : W0.heap[W.heap.size+1]?=some (nO x (.slice av x.ks.length cv)):=by rw [← hW0];exact hold _ (by simp) (hnew _ (by simp))
 have m2 : W0.heap[W.heap.size+1+1]?=some (.cells #[.int .i64 i] 3 (0,0)):=by rw [← hW0];exact hnew _ (by simp)
 have h0:=h.bel b0
 have CT:=declareTop_any h0 x _ (hx.bel b0) hp (p : Int) i hn (by omega)
 have e0 : W0.cell? ⟨W.heap.size,0,none⟩=some (.pointer (some ⟨c.rb,0,none⟩)):=by simp [World.cell?,m0]
 obtain ⟨⟨a0,a1,a2,a3⟩,_⟩:=box4 m1
 have e2 : W0.cell? ⟨W.heap.size+1+1,0,none⟩=some (.int .i64 i):=by simp [World.cell?,m2]
 have H0 : Hid _:=h0
 have HB0 : Hid _:=b0
 have HX : Hid _:=hx
 have M0 : Hid _:=m0
 have M1 : Hid _:=m1
 have M2 : Hid _:=m2
 have HSS : Hid _:=hS
 have HPK : Hid _:=hpk
 have HZ : Hid _:=hZ
 have HP : Hid (ptJ x p i=ptop1 x p i ++ if dcK x.k=true then ptopL x.ks ((p : Int)+1) i else []):=rfl
 clear hS hpk hZ hx h0 b0 m0 m1 m2 h hp
 unfold nO at hW0
 unfold Nd.v at CT ⊢
 refine (callsIn_wide (n:=10)).1 ?_
 refine callsIn_of_wp_marks Tryz.func34 rfl trivial ?_ rfl
 simp only [Tryz.ntmps34,List.size_toArray,List.length_cons,List.length_nil,Nat.reduceAdd,Nat.reduceSub,Array.replicate_succ,Array.replicate_zero,List.push_toArray,List.append_toArray,List.nil_append,List.cons_append]
 gi_wp2_with fail
 refine ⟨trivial,?_⟩
 gi_at_call 58
 refine (callsIn_wide.2 CT).mono ?_
 rintro e W1 ⟨rfl,vt1,h1,k1,o1⟩
 have n0:=H0.out.kept k1 M0.out (by decide)
 have n1:=H0.out.kept k1 M1.out (by decide)
 have n2:=H0.out.kept k1 M2.out (by decide)
 have hx1:=H0.out.lat k1 HSS.out (HX.out.bel HB0.out)
 have KW1 : Hid (Kpt (OwnT c mb vt) W W1):=(Kpt.of HB0.out).trans k1 (fun _ _ q=>q)
 have OW1 : Hid (∀ k,vt1.ownBlock=some k→vt.ownBlock=some k ∨ W.heap.size ≤ k):=fun k hk=>(o1 k hk).imp id (fun w=>Nat.le_trans HB0.out.size w)
 clear CT hW0 a0 a1 a2 a3 e0 e2 o1 k1 M0 M1 M2 HX H0 HB0
 have e0 : W1.cell? ⟨W.heap.size,0,none⟩=some (.pointer (some ⟨c.rb,0,none⟩)):=by simp [World.cell?,n0]
 obtain ⟨⟨a0,a1,a2,a3⟩,_⟩:=box4 n1
 have e2 : W1.cell? ⟨W.heap.size+1+1,0,none⟩=some (.int .i64 i):=by simp [World.cell?,n2]
 by_cases hK : dcK x.k=true
 ·have hl1 : (ptop1 x (p : Int) i).length ≤ 1:=by unfold ptop1;split <;> simp
  have HLT : Hid ((T ++ ptop1 x (p : Int) i).length+x.ks.length ≤ 4194304):=by show _ ≤ _;rw [List.length_append];omega
  have HPP : Hid (T ++ ptJ x p i=T ++ ptop1 x (p : Int) i ++ ptopL x.ks ((p : Int)+1) i):=by show _=_;rw [HP.out,if_pos hK,List.append_assoc]
  clear HP hl1 hT
  generalize T ++ ptop1 x (p : Int) i=T1 at *
  have CK:=kids_in W1 c.rb x (.slice av x.ks.length cv) ⟨_,_,_,rfl⟩ (p : Int)
  unfold Nd.v at CK
  obtain ⟨W2,hW2⟩ : ∃ X,((W1.alloc (.cells #[.pointer (some ⟨c.rb,0,none⟩)] 51)).alloc (.cells #[.int .i64 x.k,.string x.t,.int .i64 x.n,.slice av x.ks.length cv] 24)).alloc (.cells #[.int .i64 (p : Int)] 3)=X:=⟨_,rfl⟩
  rw [hW2] at CK
  have b2 : Below W1.heap.size W1 W2:=by rw [← hW2];exact (bel2 _ _ _).alloc (by simp;omega) _
  have y1 : W2.heap[W1.heap.size]?=some (.cells #[.pointer (some ⟨c.rb,0,none⟩)] 51 (0,0)):=by rw [← hW2];exact hold _ (by simp;omega) (hold _ (by simp) (hnew _ rfl))
  have y2 : W2.heap[W1.heap.size+1]?=some (.cells #[.int .i64 x.k,.string x.t,.int .i64 x.n,.slice av x.ks.length cv] 24 (0,0)):=by rw [← hW2];exact hold _ (by simp) (hnew _ (by simp))
  have y3 : W2.heap[W1.heap.size+1+1]?=some (.cells #[.int .i64 ((p : Nat) : Int)] 3 (0,0)):=by rw [← hW2];exact hnew _ (by simp)
  have H2 : Hid (Tv c nb mb vo W2 vt1 T1):=h1.bel b2
  have HX2 : Hid (LAt W2 S (.slice av x.ks.length cv) x.ks):=hx1.bel b2
  have HIT:=kids_it (w:=W2) (rx:=W1.heap.size) (rb:=c.rb) (sb:=c.sb) (c:=c.cz) (Z:=c.Z) (p:=p) y2 y3 (hx1.bel b2) (ZAt.zk HZ.out) zZ (by omega) (by omega)
  have HIT' : Hid _:=HIT
  have Y1 : Hid _:=y1
  have N0 : Hid _:=(b2.block _ (gl n0)).trans n0
  have N2 : Hid _:=(b2.block _ (gl n2)).trans n2
  have B2 : Hid _:=b2
  have hcase : (x.k == 62)=true ∨ (x.k == 62)=false∧(x.k == 63)=true ∨ (x.k == 62)=false∧(x.k == 63)=false∧(x.k == 60)=true:=by
   rcases of_decide_eq_true hK with w | w | w <;> rw [w] <;> decide
  clear HIT y1 y2 y3 n0 n1 n2 b2 hK h1 hx1
  rcases hcase with e62 | ⟨e62,e63⟩ | ⟨e62,e63,e60⟩
  ·gi_wp2_with (refine ⟨trivial,?_⟩;gi_at_call 33;refine (callsIn_wide.2 CK).mono ?_;rintro e w' ⟨rfl,hw⟩;obtain rfl:=hw.symm)
   clear CK hW2 a0 a1 a2 a3 e0 e2 e62
   refine range_law2 (gf:=57) (lb:=#[.pointer (some ⟨W1.heap.size+1+1,0,none⟩),.pointer (some ⟨W1.heap.size+1,0,none⟩),.pointer (some ⟨W1.heap.size,0,none⟩)]) rfl (enters_of Tryz.func57 (by kernel_rfl) rfl) (Gk S p x.ks) x.ks.length (by rintro k args W ⟨_,_,_,rfl,_⟩;rfl) (Rk W1.heap.size c.rb c.sb c.cz c.Z S (.slice av x.ks.length cv) x.ks) HIT'.out
    (fun k X=>Ji c nb mb vo W2 vt1 (T1 ++ ptopL (x.ks.take k) ((p : Int)+1) i) X)
    (fun k X hJ=>by
     obtain ⟨vt',g1,g2,g3⟩:=hJ
     have z1:=H2.out.kept g2 Y1.out (by decide)
     exact ⟨by simp [World.cell?,z1],(box6 g1.r).1.1,g1.z,H2.out.lat g2 HSS.out HX2.out⟩) (fun k X Z hJ b=>hJ.bel b) (fun k X l r o hJ hl hr=>hJ.put hl (by simp [hr]) (by simp [hr]) o) (by
     show Ji _ _ _ _ _ _ _ _
     rw [List.take_zero,ptopL,List.append_nil]
     exact ⟨vt1,H2.out,Kpt.refl _ _,fun k hk=>.inl hk⟩)
    (fun k args Wx a' W'=>∃ (hk : k < x.ks.length) (kb : Nat) (ak : Option Addr) (ck : Nat),Wx.heap.size ≤ kb∧a'.defers=[]∧a'.tmps.size=32∧a'.tmps.getD 4 undef = .pointer (some ⟨W.heap.size,0,none⟩)∧a'.tmps.getD 7 undef = .pointer (some ⟨W.heap.size+1+1,0,none⟩)∧a'.tmps.getD 8 undef = .int .i64 ((p+1+sizes (x.ks.take k) : Nat) : Int)∧a'.tmps.getD 9 undef = .pointer (some ⟨kb,0,none⟩)∧W'.heap[kb]?=some (nO x.ks[k] (.slice ak x.ks[k].ks.length ck))∧LAt W' S (.slice ak x.ks[k].ks.length ck) x.ks[k].ks) ?assign ?body ?done
   case assign =>
    rintro l k args Wx K ⟨hk,ak,ck,rfl,hlk⟩ hJ hK
    unfold Nd.v
    gi_wp2
    refine hK _ _ (bel_a _ _) ?_
    exact ⟨hk,Wx.heap.size,ak,ck,Nat.le_refl _,rfl,rfl,rfl,rfl,rfl,rfl,hnew _ rfl,hlk.bel (bel_a _ _)⟩
   case body =>
    rintro D l k args ⟨tmps,defers⟩ Wx Wa Wb hG hJ hba ⟨hk,kb,ak,ck,hkb,hd,hs,h4,h7,h8,h9,hm,hlk⟩ hlt hwl ho hs2 ⟨r2,hl2⟩ ⟨dr,hd2⟩ hJ2
    obtain rfl : defers=[]:=hd
    obtain ⟨f,rfl⟩:=frame32 hs h4 h7 h8 h9
    obtain ⟨vt',g1,g2,g3⟩:=hJ2
    have mk:=(ho kb (by omega)).trans hm
    have hb2:=H2.out.b
    have hlb : LAt Wb S (.slice ak x.ks[k].ks.length ck) x.ks[k].ks:=hlk.keep (Nat.le_of_eq hs2.symm) (fun b hb hl=>ho b (by have:=(HSS.out b hb).1;omega))
    have HTk : Hid (T1 ++ ptopL (x.ks.take (k+1)) ((p : Int)+1) i=T1 ++ ptopL (x.ks.take k) ((p : Int)+1) i ++ ptop1 x.ks[k] ((p+1+sizes (x.ks.take k) : Nat) : Int) i):=by
     show _=_
     have e : (p : Int)+1+(sizes (x.ks.take k) : Int)=((p+1+sizes (x.ks.take k) : Nat) : Int):=by push_cast;omega
     rw [List.take_succ_eq_append_getElem hk,ptopL_app,ptopL,ptopL,List.append_nil,e,List.append_assoc]
    have hll:=ptopL_len (x.ks.take k) ((p : Int)+1) i
    rw [List.length_take] at hll
    have hlt1:=HLT.out
    obtain ⟨hpre,hdn⟩:=HPK.out x.ks[k] (List.getElem_mem hk)
    have CT2:=declareTop_any g1 x.ks[k] _ hlb hpre ((p+1+sizes (x.ks.take k) : Nat) : Int) i hdn (by rw [List.length_append];omega)
    have z0:=H2.out.kept g2 N0.out (by decide)
    have z2:=H2.out.kept g2 N2.out (by decide)
    have q0 : Wb.cell? ⟨W.heap.size,0,none⟩=some (.pointer (some ⟨c.rb,0,none⟩)):=by simp [World.cell?,z0]
    have q2 : Wb.cell? ⟨W.heap.size+1+1,0,none⟩=some (.int .i64 i):=by simp [World.cell?,z2]
    obtain ⟨⟨v0,v1,v2,v3⟩,_⟩:=box4 mk
    have HLD : Hid (∀ Wc e,DtA c nb mb vo Wb vt' (T1 ++ ptopL (x.ks.take k) ((p : Int)+1) i ++ ptop1 x.ks[k] ((p+1+sizes (x.ks.take k) : Nat) : Int) i) e Wc→Ji c nb mb vo W2 vt1 (T1 ++ ptopL (x.ks.take (k+1)) ((p : Int)+1) i) Wc∧Wc.heap[l]?=Wb.heap[l]?∧Wc.heap[D]?=Wb.heap[D]?):=fun Wc e hdt=>by
     refine ⟨by rw [HTk.out];exact Ji.step g2 g3 hdt,?_,?_⟩
     ·obtain ⟨_,_,_,kc,_⟩:=hdt
      exact kc.block l (gl hl2) (g1.farO (by simp [hl2]) (by simp [hl2]))
     ·obtain ⟨_,_,_,kc,_⟩:=hdt
      exact kc.block D (gl hd2) (g1.farO (by simp [hd2]) (by simp [hd2]))
    unfold Nd.v at CT2
    clear hJ hba hm hG ho mk hlt h4 h7 h8 h9 hs hl2 hd2 hlk hlb hpre g1 g2 g3 z0 z2 HTk hll hlt1
    generalize x.ks[k]=ki at *
    gi_wp2_with (refine ⟨trivial,?_⟩;gi_at_call 58;refine (CallsIn.inRound l (callsIn_wide.2 CT2)).mono ?_;rintro e Wc hdt;obtain ⟨j1,j2,j3⟩:=HLD.out Wc e hdt;obtain ⟨rfl,_⟩:=hdt)
    exact ⟨j1,j2,j3⟩
   case done =>
    rintro D WD hD hJN hdef
    rw [List.take_length,← HPP.out] at hJN
    have HJN : Hid (DtA c nb mb vo W vt (T ++ ptJ x p i) (.returned (.tuple #[])) (WD.putObj D (.deferred none))):=by
     obtain ⟨vt',g1,g2,g3⟩:=hJN.put hD (by simp [hdef]) (by simp [hdef]) (.deferred none)
     refine ⟨rfl,vt',g1,KW1.out.trans (N:=OwnT c mb vt1) ((Kpt.of B2.out).trans g2 (fun _ _ q=>q)) (ownT_trans (W1:=W2) OW1.out),fun k hk=>?_⟩
     rcases g3 k hk with q | q
     ·exact OW1.out k q
     ·exact .inr (Nat.le_trans KW1.out.size (Nat.le_trans B2.out.size q))
    clear hJN
    gi_wp2
    refine ⟨by simp,.inl ⟨_,_,rfl,run_takeDeferred hdef,?_⟩⟩
    exact ⟨_,res_none Tryz.results34,HJN.out⟩
  ·gi_wp2_with (refine ⟨trivial,?_⟩;gi_at_call 33;refine (callsIn_wide.2 CK).mono ?_;rintro e w' ⟨rfl,hw⟩;obtain rfl:=hw.symm)
   clear CK hW2 a0 a1 a2 a3 e0 e2 e62 e63
   refine range_law2 (gf:=57) (lb:=#[.pointer (some ⟨W1.heap.size+1+1,0,none⟩),.pointer (some ⟨W1.heap.size+1,0,none⟩),.pointer (some ⟨W1.heap.size,0,none⟩)]) rfl (enters_of Tryz.func57 (by kernel_rfl) rfl) (Gk S p x.ks) x.ks.length (by rintro k args W ⟨_,_,_,rfl,_⟩;rfl) (Rk W1.heap.size c.rb c.sb c.cz c.Z S (.slice av x.ks.length cv) x.ks) HIT'.out
    (fun k X=>Ji c nb mb vo W2 vt1 (T1 ++ ptopL (x.ks.take k) ((p : Int)+1) i) X)
    (fun k X hJ=>by
     obtain ⟨vt',g1,g2,g3⟩:=hJ
     have z1:=H2.out.kept g2 Y1.out (by decide)
     exact ⟨by simp [World.cell?,z1],(box6 g1.r).1.1,g1.z,H2.out.lat g2 HSS.out HX2.out⟩) (fun k X Z hJ b=>hJ.bel b) (fun k X l r o hJ hl hr=>hJ.put hl (by simp [hr]) (by simp [hr]) o) (by
     show Ji _ _ _ _ _ _ _ _
     rw [List.take_zero,ptopL,List.append_nil]
     exact ⟨vt1,H2.out,Kpt.refl _ _,fun k hk=>.inl hk⟩)
    (fun k args Wx a' W'=>∃ (hk : k < x.ks.length) (kb : Nat) (ak : Option Addr) (ck : Nat),Wx.heap.size ≤ kb∧a'.defers=[]∧a'.tmps.size=32∧a'.tmps.getD 4 undef = .pointer (some ⟨W.heap.size,0,none⟩)∧a'.tmps.getD 7 undef = .pointer (some ⟨W.heap.size+1+1,0,none⟩)∧a'.tmps.getD 8 undef = .int .i64 ((p+1+sizes (x.ks.take k) : Nat) : Int)∧a'.tmps.getD 9 undef = .pointer (some ⟨kb,0,none⟩)∧W'.heap[kb]?=some (nO x.ks[k] (.slice ak x.ks[k].ks.length ck))∧LAt W' S (.slice ak x.ks[k].ks.length ck) x.ks[k].ks) ?assign ?body ?done
   case assign =>
    rintro l k args Wx K ⟨hk,ak,ck,rfl,hlk⟩ hJ hK
    unfold Nd.v
    gi_wp2
    refine hK _ _ (bel_a _ _) ?_
    exact ⟨hk,Wx.heap.size,ak,ck,Nat.le_refl _,rfl,rfl,rfl,rfl,rfl,rfl,hnew _ rfl,hlk.bel (bel_a _ _)⟩
   case body =>
    rintro D l k args ⟨tmps,defers⟩ Wx Wa Wb hG hJ hba ⟨hk,kb,ak,ck,hkb,hd,hs,h4,h7,h8,h9,hm,hlk⟩ hlt hwl ho hs2 ⟨r2,hl2⟩ ⟨dr,hd2⟩ hJ2
    obtain rfl : defers=[]:=hd
    obtain ⟨f,rfl⟩:=frame32 hs h4 h7 h8 h9
    obtain ⟨vt',g1,g2,g3⟩:=hJ2
    have mk:=(ho kb (by omega)).trans hm
    have hb2:=H2.out.b
    have hlb : LAt Wb S (.slice ak x.ks[k].ks.length ck) x.ks[k].ks:=hlk.keep (Nat.le_of_eq hs2.symm) (fun b hb hl=>ho b (by have:=(HSS.out b hb).1;omega))
    have HTk : Hid (T1 ++ ptopL (x.ks.take (k+1)) ((p : Int)+1) i=T1 ++ ptopL (x.ks.take k) ((p : Int)+1) i ++ ptop1 x.ks[k] ((p+1+sizes (x.ks.take k) : Nat) : Int) i):=by
     show _=_
     have e : (p : Int)+1+(sizes (x.ks.take k) : Int)=((p+1+sizes (x.ks.take k) : Nat) : Int):=by push_cast;omega
     rw [List.take_succ_eq_append_getElem hk,ptopL_app,ptopL,ptopL,List.append_nil,e,List.append_assoc]
    have hll:=ptopL_len (x.ks.take k) ((p : Int)+1) i
    rw [List.length_take] at hll
    have hlt1:=HLT.out
    obtain ⟨hpre,hdn⟩:=HPK.out x.ks[k] (List.getElem_mem hk)
    have CT2:=declareTop_any g1 x.ks[k] _ hlb hpre ((p+1+sizes (x.ks.take k) : Nat) : Int) i hdn (by rw [List.length_append];omega)
    have z0:=H2.out.kept g2 N0.out (by decide)
    have z2:=H2.out.kept g2 N2.out (by decide)
    have q0 : Wb.cell? ⟨W.heap.size,0,none⟩=some (.pointer (some ⟨c.rb,0,none⟩)):=by simp [World.cell?,z0]
    have q2 : Wb.cell? ⟨W.heap.size+1+1,0,none⟩=some (.int .i64 i):=by simp [World.cell?,z2]
    obtain ⟨⟨v0,v1,v2,v3⟩,_⟩:=box4 mk
    have HLD : Hid (∀ Wc e,DtA c nb mb vo Wb vt' (T1 ++ ptopL (x.ks.take k) ((p : Int)+1) i ++ ptop1 x.ks[k] ((p+1+sizes (x.ks.take k) : Nat) : Int) i) e Wc→Ji c nb mb vo W2 vt1 (T1 ++ ptopL (x.ks.take (k+1)) ((p : Int)+1) i) Wc∧Wc.heap[l]?=Wb.heap[l]?∧Wc.heap[D]?=Wb.heap[D]?):=fun Wc e hdt=>by
     refine ⟨by rw [HTk.out];exact Ji.step g2 g3 hdt,?_,?_⟩
     ·obtain ⟨_,_,_,kc,_⟩:=hdt
      exact kc.block l (gl hl2) (g1.farO (by simp [hl2]) (by simp [hl2]))
     ·obtain ⟨_,_,_,kc,_⟩:=hdt
      exact kc.block D (gl hd2) (g1.farO (by simp [hd2]) (by simp [hd2]))
    unfold Nd.v at CT2
    clear hJ hba hm hG ho mk hlt h4 h7 h8 h9 hs hl2 hd2 hlk hlb hpre g1 g2 g3 z0 z2 HTk hll hlt1
    generalize x.ks[k]=ki at *
    gi_wp2_with (refine ⟨trivial,?_⟩;gi_at_call 58;refine (CallsIn.inRound l (callsIn_wide.2 CT2)).mono ?_;rintro e Wc hdt;obtain ⟨j1,j2,j3⟩:=HLD.out Wc e hdt;obtain ⟨rfl,_⟩:=hdt)
    exact ⟨j1,j2,j3⟩
   case done =>
    rintro D WD hD hJN hdef
    rw [List.take_length,← HPP.out] at hJN
    have HJN : Hid (DtA c nb mb vo W vt (T ++ ptJ x p i) (.returned (.tuple #[])) (WD.putObj D (.deferred none))):=by
     obtain ⟨vt',g1,g2,g3⟩:=hJN.put hD (by simp [hdef]) (by simp [hdef]) (.deferred none)
     refine ⟨rfl,vt',g1,KW1.out.trans (N:=OwnT c mb vt1) ((Kpt.of B2.out).trans g2 (fun _ _ q=>q)) (ownT_trans (W1:=W2) OW1.out),fun k hk=>?_⟩
     rcases g3 k hk with q | q
     ·exact OW1.out k q
     ·exact .inr (Nat.le_trans KW1.out.size (Nat.le_trans B2.out.size q))
    clear hJN
    gi_wp2
    refine ⟨by simp,.inl ⟨_,_,rfl,run_takeDeferred hdef,?_⟩⟩
    exact ⟨_,res_none Tryz.results34,HJN.out⟩
  ·gi_wp2_with (refine ⟨trivial,?_⟩;gi_at_call 33;refine (callsIn_wide.2 CK).mono ?_;rintro e w' ⟨rfl,hw⟩;obtain rfl:=hw.symm)
   clear CK hW2 a0 a1 a2 a3 e0 e2 e62 e63 e60
   refine range_law2 (gf:=57) (lb:=#[.pointer (some ⟨W1.heap.size+1+1,0,none⟩),.pointer (some ⟨W1.heap.size+1,0,none⟩),.pointer (some ⟨W1.heap.size,0,none⟩)]) rfl (enters_of Tryz.func57 (by kernel_rfl) rfl) (Gk S p x.ks) x.ks.length (by rintro k args W ⟨_,_,_,rfl,_⟩;rfl) (Rk W1.heap.size c.rb c.sb c.cz c.Z S (.slice av x.ks.length cv) x.ks) HIT'.out
    (fun k X=>Ji c nb mb vo W2 vt1 (T1 ++ ptopL (x.ks.take k) ((p : Int)+1) i) X)
    (fun k X hJ=>by
     obtain ⟨vt',g1,g2,g3⟩:=hJ
     have z1:=H2.out.kept g2 Y1.out (by decide)
     exact ⟨by simp [World.cell?,z1],(box6 g1.r).1.1,g1.z,H2.out.lat g2 HSS.out HX2.out⟩) (fun k X Z hJ b=>hJ.bel b) (fun k X l r o hJ hl hr=>hJ.put hl (by simp [hr]) (by simp [hr]) o) (by
     show Ji _ _ _ _ _ _ _ _
     rw [List.take_zero,ptopL,List.append_nil]
     exact ⟨vt1,H2.out,Kpt.refl _ _,fun k hk=>.inl hk⟩)
    (fun k args Wx a' W'=>∃ (hk : k < x.ks.length) (kb : Nat) (ak : Option Addr) (ck : Nat),Wx.heap.size ≤ kb∧a'.defers=[]∧a'.tmps.size=32∧a'.tmps.getD 4 undef = .pointer (some ⟨W.heap.size,0,none⟩)∧a'.tmps.getD 7 undef = .pointer (some ⟨W.heap.size+1+1,0,none⟩)∧a'.tmps.getD 8 undef = .int .i64 ((p+1+sizes (x.ks.take k) : Nat) : Int)∧a'.tmps.getD 9 undef = .pointer (some ⟨kb,0,none⟩)∧W'.heap[kb]?=some (nO x.ks[k] (.slice ak x.ks[k].ks.length ck))∧LAt W' S (.slice ak x.ks[k].ks.length ck) x.ks[k].ks) ?assign ?body ?done
   case assign =>
    rintro l k args Wx K ⟨hk,ak,ck,rfl,hlk⟩ hJ hK
    unfold Nd.v
    gi_wp2
    refine hK _ _ (bel_a _ _) ?_
    exact ⟨hk,Wx.heap.size,ak,ck,Nat.le_refl _,rfl,rfl,rfl,rfl,rfl,rfl,hnew _ rfl,hlk.bel (bel_a _ _)⟩
   case body =>
    rintro D l k args ⟨tmps,defers⟩ Wx Wa Wb hG hJ hba ⟨hk,kb,ak,ck,hkb,hd,hs,h4,h7,h8,h9,hm,hlk⟩ hlt hwl ho hs2 ⟨r2,hl2⟩ ⟨dr,hd2⟩ hJ2
    obtain rfl : defers=[]:=hd
    obtain ⟨f,rfl⟩:=frame32 hs h4 h7 h8 h9
    obtain ⟨vt',g1,g2,g3⟩:=hJ2
    have mk:=(ho kb (by omega)).trans hm
    have hb2:=H2.out.b
    have hlb : LAt Wb S (.slice ak x.ks[k].ks.length ck) x.ks[k].ks:=hlk.keep (Nat.le_of_eq hs2.symm) (fun b hb hl=>ho b (by have:=(HSS.out b hb).1;omega))
    have HTk : Hid (T1 ++ ptopL (x.ks.take (k+1)) ((p : Int)+1) i=T1 ++ ptopL (x.ks.take k) ((p : Int)+1) i ++ ptop1 x.ks[k] ((p+1+sizes (x.ks.take k) : Nat) : Int) i):=by
     show _=_
     have e : (p : Int)+1+(sizes (x.ks.take k) : Int)=((p+1+sizes (x.ks.take k) : Nat) : Int):=by push_cast;omega
     rw [List.take_succ_eq_append_getElem hk,ptopL_app,ptopL,ptopL,List.append_nil,e,List.append_assoc]
    have hll:=ptopL_len (x.ks.take k) ((p : Int)+1) i
    rw [List.length_take] at hll
    have hlt1:=HLT.out
    obtain ⟨hpre,hdn⟩:=HPK.out x.ks[k] (List.getElem_mem hk)
    have CT2:=declareTop_any g1 x.ks[k] _ hlb hpre ((p+1+sizes (x.ks.take k) : Nat) : Int) i hdn (by rw [List.length_append];omega)
    have z0:=H2.out.kept g2 N0.out (by decide)
    have z2:=H2.out.kept g2 N2.out (by decide)
    have q0 : Wb.cell? ⟨W.heap.size,0,none⟩=some (.pointer (some ⟨c.rb,0,none⟩)):=by simp [World.cell?,z0]
    have q2 : Wb.cell? ⟨W.heap.size+1+1,0,none⟩=some (.int .i64 i):=by simp [World.cell?,z2]
    obtain ⟨⟨v0,v1,v2,v3⟩,_⟩:=box4 mk
    have HLD : Hid (∀ Wc e,DtA c nb mb vo Wb vt' (T1 ++ ptopL (x.ks.take k) ((p : Int)+1) i ++ ptop1 x.ks[k] ((p+1+sizes (x.ks.take k) : Nat) : Int) i) e Wc→Ji c nb mb vo W2 vt1 (T1 ++ ptopL (x.ks.take (k+1)) ((p : Int)+1) i) Wc∧Wc.heap[l]?=Wb.heap[l]?∧Wc.heap[D]?=Wb.heap[D]?):=fun Wc e hdt=>by
     refine ⟨by rw [HTk.out];exact Ji.step g2 g3 hdt,?_,?_⟩
     ·obtain ⟨_,_,_,kc,_⟩:=hdt
      exact kc.block l (gl hl2) (g1.farO (by simp [hl2]) (by simp [hl2]))
     ·obtain ⟨_,_,_,kc,_⟩:=hdt
      exact kc.block D (gl hd2) (g1.farO (by simp [hd2]) (by simp [hd2]))
    unfold Nd.v at CT2
    clear hJ hba hm hG ho mk hlt h4 h7 h8 h9 hs hl2 hd2 hlk hlb hpre g1 g2 g3 z0 z2 HTk hll hlt1
    generalize x.ks[k]=ki at *
    gi_wp2_with (refine ⟨trivial,?_⟩;gi_at_call 58;refine (CallsIn.inRound l (callsIn_wide.2 CT2)).mono ?_;rintro e Wc hdt;obtain ⟨j1,j2,j3⟩:=HLD.out Wc e hdt;obtain ⟨rfl,_⟩:=hdt)
    exact ⟨j1,j2,j3⟩
   case done =>
    rintro D WD hD hJN hdef
    rw [List.take_length,← HPP.out] at hJN
    have HJN : Hid (DtA c nb mb vo W vt (T ++ ptJ x p i) (.returned (.tuple #[])) (WD.putObj D (.deferred none))):=by
     obtain ⟨vt',g1,g2,g3⟩:=hJN.put hD (by simp [hdef]) (by simp [hdef]) (.deferred none)
     refine ⟨rfl,vt',g1,KW1.out.trans (N:=OwnT c mb vt1) ((Kpt.of B2.out).trans g2 (fun _ _ q=>q)) (ownT_trans (W1:=W2) OW1.out),fun k hk=>?_⟩
     rcases g3 k hk with q | q
     ·exact OW1.out k q
     ·exact .inr (Nat.le_trans KW1.out.size (Nat.le_trans B2.out.size q))
    clear hJN
    gi_wp2
    refine ⟨by simp,.inl ⟨_,_,rfl,run_takeDeferred hdef,?_⟩⟩
    exact ⟨_,res_none Tryz.results34,HJN.out⟩
 ·have HPP : Hid (DtA c nb mb vo W vt (T ++ ptJ x p i) (.returned (.tuple #[])) W1):=by
   show DtA _ _ _ _ _ _ _ _ _
   rw [HP.out,if_neg hK,List.append_nil]
   exact ⟨rfl,vt1,h1,KW1.out,OW1.out⟩
  have e62 : (x.k == 62)=false:=by simpa using fun w=>hK (decide_eq_true (.inl w))
  have e63 : (x.k == 63)=false:=by simpa using fun w=>hK (decide_eq_true (.inr (.inl w)))
  have e60 : (x.k == 60)=false:=by simpa using fun w=>hK (decide_eq_true (.inr (.inr w)))
  clear HP hK h1 n0 n1 n2 hx1
  gi_wp2
  exact ⟨_,res_none Tryz.results34,HPP.out⟩
def blN : List ByteArray:=[⟨#[112,97,114,115,101]⟩,⟨#[112,114,105,110,116]⟩,⟨#[112,117,115,104]⟩,⟨#[114,101,97,100]⟩,⟨#[116,101,120,116]⟩]
abbrev blO : Obj:=.cells #[.string ⟨#[112,97,114,115,101]⟩,.string ⟨#[112,114,105,110,116]⟩,.string ⟨#[112,117,115,104]⟩,.string ⟨#[114,101,97,100]⟩,.string ⟨#[116,101,120,116]⟩] 9 (0,0)
theorem bl_cell {w : World} {b : Nat} (h : w.heap[b]?=some blO) : (w.cell? ⟨b,0,none⟩=some (.string ⟨#[112,97,114,115,101]⟩)∧w.cell? ⟨b,1,none⟩=some (.string ⟨#[112,114,105,110,116]⟩)∧w.cell? ⟨b,2,none⟩=some (.string ⟨#[112,117,115,104]⟩)∧w.cell? ⟨b,3,none⟩=some (.string ⟨#[114,101,97,100]⟩)∧w.cell? ⟨b,4,none⟩=some (.string ⟨#[116,101,120,116]⟩))∧∀ i,w.frozen? ⟨b,i,none⟩=false:=by
 refine ⟨by simp [World.cell?,h],fun i=>by simp [World.frozen?,h]⟩
theorem builtins_any (W : World) : Calls Tryz.prog 16 #[] W fun e W'=>e = .returned (.slice (some ⟨W.heap.size,0,none⟩) 5 5)∧W'.heap[W.heap.size]?=some blO∧Below W.heap.size W W':=by
 obtain ⟨W0,hW0⟩ : ∃ X,W.alloc blO=X:=⟨_,rfl⟩
 have b0 : Below W.heap.size W W0:=by rw [← hW0];exact bel_a _ _
 have m0 : W0.heap[W.heap.size]?=some blO:=by rw [← hW0];exact hnew _ rfl
 go_enter Tryz.func16,Tryz.ntmps16
 go_wp2
 go_loopw [7] (fun i wr=>∃ (j : Nat),i = .int .i64 (j : Nat)∧j ≤ 5∧wr.heap[W.heap.size]?=some blO∧Below W.heap.size W wr) (fun i _=>5 - (intOf i).toNat)
 case atStart=>exact ⟨0,rfl,by omega,m0,b0⟩
 case round =>
  obtain ⟨j,rfl,hj,hm,hb⟩:=hrel
  clear m0 b0 hW0
  by_cases hjl : j < 5
  ·obtain ⟨⟨c0,c1,c2,c3,c4⟩,fz⟩:=bl_cell hm
   have hl:=(gl hm)
   have HK : Hid (∀ X,Below wr.heap.size wr X→X.heap[W.heap.size]?=some blO∧Below W.heap.size W X):=fun X b=>⟨(b.block _ hl).trans hm,hb.trans (b.mono hb.size)⟩
   clear hm hb hl
   have hc : j=0 ∨ j=1 ∨ j=2 ∨ j=3 ∨ j=4:=by omega
   rcases hc with rfl | rfl | rfl | rfl | rfl
   ·have CLj:=clone_anyT ⟨#[112,97,114,115,101]⟩ wr (by decide)
    go_wp2_with (go_at_call 26;refine CLj.mono ?_;rintro e W5 ⟨rfl,b5⟩;obtain ⟨h5,bb5⟩:=HK.out W5 b5;obtain ⟨⟨d0,d1,d2,d3,d4⟩,fz5⟩:=bl_cell h5)
    go_roundw
    case rel=>exact ⟨1,rfl,by omega,by simp [World.setCell,Array.getElem?_modify,h5],bel_set bb5 (Nat.le_refl _)⟩
    case measure=>simp [intOf]
   ·have CLj:=clone_anyT ⟨#[112,114,105,110,116]⟩ wr (by decide)
    go_wp2_with (go_at_call 26;refine CLj.mono ?_;rintro e W5 ⟨rfl,b5⟩;obtain ⟨h5,bb5⟩:=HK.out W5 b5;obtain ⟨⟨d0,d1,d2,d3,d4⟩,fz5⟩:=bl_cell h5)
    go_roundw
    case rel=>exact ⟨2,rfl,by omega,by simp [World.setCell,Array.getElem?_modify,h5],bel_set bb5 (Nat.le_refl _)⟩
    case measure=>simp [intOf]
   ·have CLj:=clone_anyT ⟨#[112,117,115,104]⟩ wr (by decide)
    go_wp2_with (go_at_call 26;refine CLj.mono ?_;rintro e W5 ⟨rfl,b5⟩;obtain ⟨h5,bb5⟩:=HK.out W5 b5;obtain ⟨⟨d0,d1,d2,d3,d4⟩,fz5⟩:=bl_cell h5)
    go_roundw
    case rel=>exact ⟨3,rfl,by omega,by simp [World.setCell,Array.getElem?_modify,h5],bel_set bb5 (Nat.le_refl _)⟩
    case measure=>simp [intOf]
   ·have CLj:=clone_anyT ⟨#[114,101,97,100]⟩ wr (by decide)
    go_wp2_with (go_at_call 26;refine CLj.mono ?_;rintro e W5 ⟨rfl,b5⟩;obtain ⟨h5,bb5⟩:=HK.out W5 b5;obtain ⟨⟨d0,d1,d2,d3,d4⟩,fz5⟩:=bl_cell h5)
    go_roundw
    case rel=>exact ⟨4,rfl,by omega,by simp [World.setCell,Array.getElem?_modify,h5],bel_set bb5 (Nat.le_refl _)⟩
    case measure=>simp [intOf]
   ·have CLj:=clone_anyT ⟨#[116,101,120,116]⟩ wr (by decide)
    go_wp2_with (go_at_call 26;refine CLj.mono ?_;rintro e W5 ⟨rfl,b5⟩;obtain ⟨h5,bb5⟩:=HK.out W5 b5;obtain ⟨⟨d0,d1,d2,d3,d4⟩,fz5⟩:=bl_cell h5)
    go_roundw
    case rel=>exact ⟨5,rfl,by omega,by simp [World.setCell,Array.getElem?_modify,h5],bel_set bb5 (Nat.le_refl _)⟩
    case measure=>simp [intOf]
  ·obtain rfl : j=5:=by omega
   go_wp2
   go_ret
   exact ⟨rfl,hm,hb⟩
end Go.Proofs.YtfcocoadaajbjaaGreatDoor
