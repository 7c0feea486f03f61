/- Own text. Package scope: what a block declares in a scope of its own. Package scope: enter of every kind;how the walk goes from kid to kid. -/
import Derived.Test.YtfcocoadaajbjaaGreatDoorGd22
set_option linter.unusedVariables false
set_option linter.unusedSimpArgs false
set_option maxRecDepth 100000
set_option maxHeartbeats 16000000
namespace Go.Proofs.YtfcocoadaajbjaaGreatDoor
open Go.RowKit Go.MapKept
attribute [local go_sem] Oper.semAt_some
theorem enterB {c : Rc} {W : World} {p0 : Int} {E : List ByteArray} {vu : Value} {U : List Us} (h : Rv c W p0 E vu U) (x : Nd) (v : Value) {S : Nat→Prop} (hx0 : LAt W S v x.ks) (hpk : ∀ y ∈ x.ks,Pre y) (p : Nat) (hZ : ZAt c.Z p x) (q : Wh) {vf : Value} {F : List (List Dc)} (hF : SAt W (fun k=>k ≠ c.eb) vf F) (h52 : x.k=52) (zx : x.size ≤ 4194304) (zZ : c.Z.length ≤ 4194304) (hp4 : p ≤ 4194304) :
 Calls Tryz.prog 37 #[.pointer (some ⟨c.rb,0,none⟩),x.v v,.int .i64 (p : Nat),q.v vf] W (EntA W c q x v (frmB x.ks ((p : Int)+1) :: F)):=by
 have hsk : sizes x.ks ≤ 4194304:=by have:=x.size_eq;omega
 obtain ⟨av,cv,rfl⟩:=hx0.sl
 have hx : LAt W (fun b=>S b∧b < W.heap.size) (.slice av x.ks.length cv) x.ks:=hx0.mono' (fun b hb hs=>⟨hs,hb⟩)
 have hFb:=hF
 obtain ⟨pf,rfl⟩:=hF.ptr
 obtain ⟨W0,hW0⟩ : ∃ X,((W.alloc (nO x (.slice av x.ks.length cv))).alloc (q.o (.pointer pf))).alloc (Obj.cells #[.pointer none,.int .i64 0,.string ⟨#[]⟩,.int .i64 0,.slice none 0 0,.bool false,.bool false] 82)=X:=⟨_,rfl⟩
 have b0 : Below W.heap.size W W0:=by rw [← hW0];exact (bel2 _ _ _).alloc (by simp;omega) _
 have HS0 : Hid (W0.heap.size=W.heap.size+3):=by show _=_;rw [← hW0];simp
 have m0 : W0.heap[W.heap.size]?=some (nO x (.slice av x.ks.length cv)):=by rw [← hW0];exact hold _ (by simp;omega) (hold _ (by simp) (hnew _ rfl))
 have m1 : W0.heap[W.heap.size+1]?=some (q.o (.pointer pf)):=by rw [← hW0];exact hold _ (by simp) (hnew _ (by simp))
 have m2 : W0.heap[W.heap.size+1+1]?=some (Obj.cells #[.pointer none,.int .i64 0,.string ⟨#[]⟩,.int .i64 0,.slice none 0 0,.bool false,.bool false] 82):=by rw [← hW0];exact hnew _ (by simp)
 obtain ⟨⟨a0,a1,a2,a3⟩,_⟩:=box4 m0
 obtain ⟨⟨c0,c1,c2,c3,c4,c5,c6⟩,f1⟩:=box7 m1
 unfold nO Wh.o at hW0
 have HT : Hid (inT x.k q.th=q.th∧inR x.k q.rt=q.rt):=by rw [h52];exact ⟨rfl,rfl⟩
 have e11 : (x.k == 11)=false:=by rw [h52];decide
 have e41 : (x.k == 41)=false:=by rw [h52];decide
 have e43 : (x.k == 43)=false:=by rw [h52];decide
 have e44 : (x.k == 44)=false:=by rw [h52];decide
 have e45 : (x.k == 45)=false:=by rw [h52];decide
 have e52 : (x.k == 52)=true:=by rw [h52];decide
 clear h52
 unfold Nd.v Wh.v
 obtain ⟨W1,hW1⟩ : ∃ X,((((W0.setCell ⟨W.heap.size+1,1,none⟩ (.int .i64 x.k)).setCell ⟨W.heap.size+1,2,none⟩ (.string x.t)).setCell ⟨W.heap.size+1,3,none⟩ (.int .i64 x.n)).setCell ⟨W.heap.size+1,4,none⟩ (.slice av x.ks.length cv))=X:=⟨_,rfl⟩
 obtain ⟨q1,hq1⟩ : ∃ q1 : Wh,q1=⟨x.k,x.t,x.n,av,x.ks.length,cv,q.th,q.rt⟩:=⟨_,rfl⟩
 have HQ : Hid (q1=⟨x.k,x.t,x.n,av,x.ks.length,cv,q.th,q.rt⟩):=hq1
 have n0 : W1.heap[W.heap.size]?=some (nO x (.slice av x.ks.length cv)):=by rw [← hW1];simp [World.setCell,Array.getElem?_modify,m0]
 have n1 : W1.heap[W.heap.size+1]?=some (q1.o (.pointer pf)):=by rw [← hW1,hq1];unfold Wh.o at m1 ⊢;simp [World.setCell,Array.getElem?_modify,m1]
 have n2 : W1.heap[W.heap.size+1+1]?=some (Obj.cells #[.pointer none,.int .i64 0,.string ⟨#[]⟩,.int .i64 0,.slice none 0 0,.bool false,.bool false] 82):=by rw [← hW1];simp [World.setCell,Array.getElem?_modify,m2]
 have HS1 : Hid (W1.heap.size=W.heap.size+3):=by show _=_;rw [← hW1];simp [World.setCell];exact HS0.out
 have bw1 : Below W.heap.size W W1:=by
  rw [← hW1]
  repeat refine bel_set ?_ (by omega)
  exact b0
 clear m0 m1 m2 hq1
 obtain ⟨⟨g0,g1,g2,g3,g4,g5,g6⟩,f2⟩:=box7 n1
 obtain ⟨⟨s0,s1,s2,s3⟩,_⟩:=box4 n0
 have CW:=within_any (.pointer pf) W1 ⟨_,rfl⟩
 obtain ⟨W2,hW2⟩ : ∃ X,(W1.alloc (.map #[] 0)).alloc (.cells #[.map (some W1.heap.size),.pointer pf] 76)=X:=⟨_,rfl⟩
 rw [hW2] at CW
 have HS2 : Hid (W2.heap.size=W1.heap.size+2):=by show _=_;rw [← hW2];simp
 have b2 : Below W1.heap.size W1 W2:=by rw [← hW2];exact bel2 _ _ _
 have o1 : Sm W2 W1.heap.size 0 []:=by rw [← hW2];exact MF.keep (sm_nil W1) (Below.heap_alloc _ _ _ (by simp))
 have o2 : W2.heap[W1.heap.size+1]?=some (.cells #[.map (some W1.heap.size),.pointer pf] 76 (0,0)):=by rw [← hW2];exact hnew _ (by simp)
 have o3:=(b2.block (W.heap.size+1) (by have:=HS1.out;omega)).trans n1
 obtain ⟨⟨i0,i1,i2,i3,i4,i5,i6⟩,f3⟩:=box7 o3
 have j0:=f3 0
 obtain ⟨W3,hW3⟩ : ∃ X,W2.setCell ⟨W.heap.size+1,0,none⟩ (.pointer (some ⟨W1.heap.size+1,0,none⟩))=X:=⟨_,rfl⟩
 have HS3 : Hid (W3.heap.size=W2.heap.size):=by show _=_;rw [← hW3];simp [World.setCell]
 have ne3 : ∀ k,k ≠ W.heap.size+1→W3.heap[k]?=W2.heap[k]?:=fun k hk=>by rw [← hW3];exact Below.heap_setCell _ _ _ _ hk
 have t3 : W3.heap[W.heap.size+1]?=some (q1.o (.pointer (some ⟨W1.heap.size+1,0,none⟩))):=by rw [← hW3];unfold Wh.o at o3 ⊢;simp [World.setCell,Array.getElem?_modify,o3]
 have bw3 : Below W.heap.size W W3:=by rw [← hW3];exact bel_set (bw1.trans (b2.mono bw1.size)) (by omega)
 have p0:=(ne3 W.heap.size (by omega)).trans ((b2.block _ (by have:=HS1.out;omega)).trans n0)
 obtain ⟨⟨r0,r1,r2,r3⟩,_⟩:=box4 p0
 have CK:=kids_in W3 c.rb x (.slice av x.ks.length cv) ⟨_,_,_,rfl⟩ (p : Int)
 unfold Nd.v at CK
 obtain ⟨W4,hW4⟩ : ∃ X,((W3.alloc (.cells #[.pointer (some ⟨c.rb,0,none⟩)] 51)).alloc (.cells #[.int .i64 x.k,.string x.t,.int .i64 x.n,.slice av x.ks.length cv] 24)).alloc (.cells #[.int .i64 (p : Int)] 3)=X:=⟨_,rfl⟩
 rw [hW4] at CK
 have b4 : Below W3.heap.size W3 W4:=by rw [← hW4];exact (bel2 _ _ _).alloc (by simp;omega) _
 have k1 : W4.heap[W3.heap.size]?=some (.cells #[.pointer (some ⟨c.rb,0,none⟩)] 51 (0,0)):=by rw [← hW4];exact hold _ (by simp;omega) (hold _ (by simp) (hnew _ rfl))
 have k2 : W4.heap[W3.heap.size+1]?=some (.cells #[.int .i64 x.k,.string x.t,.int .i64 x.n,.slice av x.ks.length cv] 24 (0,0)):=by rw [← hW4];exact hold _ (by simp) (hnew _ (by simp))
 have k3 : W4.heap[W3.heap.size+1+1]?=some (.cells #[.int .i64 ((p : Nat) : Int)] 3 (0,0)):=by rw [← hW4];exact hnew _ (by simp)
 have HJ0 : Hid (Je W c.rb (W.heap.size+1) (W.heap.size+1+1) (W1.heap.size+1) W1.heap.size W3.heap.size (q1.o (.pointer (some ⟨W1.heap.size+1,0,none⟩))) (.pointer pf) [] W4):=by
  have s1:=HS1.out
  have s2:=HS2.out
  have s3:=HS3.out
  refine ⟨bw3.trans (b4.mono bw3.size),(b4.block _ (by omega)).trans t3,(b4.block _ (by omega)).trans ((ne3 _ (by omega)).trans ((b2.block _ (by omega)).trans n2)),(b4.block _ (by omega)).trans ((ne3 _ (by omega)).trans o2),⟨0,MF.keep o1 ((b4.block _ (by omega)).trans (ne3 _ (by omega)))⟩,k1⟩
 have HIT:=kids_it (w:=W4) (rx:=W3.heap.size) (rb:=c.rb) (sb:=c.sb) (c:=c.cz) (Z:=c.Z) (p:=p) k2 k3 ((hx.bel bw3).bel b4) hZ.zk zZ hsk hp4
 have HIT' : Hid _:=HIT
 have HW1 : Hid (W.heap.size ≤ W1.heap.size∧W3.heap.size+3 ≤ W4.heap.size):=⟨bw1.size,by rw [← hW4];simp⟩
 clear n0 n1 n2 o1 o2 o3 p0 t3 k1 k2 k3 ne3 HIT bw3 b4 b2
 refine (callsIn_wide (n:=10)).1 ?_
 refine callsIn_of_wp_marks Tryz.func37 rfl trivial ?_ rfl
 simp only [Tryz.ntmps37,List.size_toArray,List.length_cons,List.length_nil,Nat.reduceAdd,Nat.reduceSub,Array.replicate_succ,Array.replicate_zero,List.push_toArray,List.append_toArray,List.nil_append,List.cons_append]
 gi_wp2_with (first
  | (refine ⟨trivial,?_⟩;gi_at_call 30;refine (callsIn_wide.2 CW).mono ?_;rintro e w' ⟨rfl,hw⟩;obtain rfl:=hw.symm)
  | (refine ⟨trivial,?_⟩;gi_at_call 33;refine (callsIn_wide.2 CK).mono ?_;rintro e w' ⟨rfl,hw⟩;obtain rfl:=hw.symm))
 clear CW CK hW0 hW1 hW2 hW3 hW4 a0 a1 a2 a3 c0 c1 c2 c3 c4 c5 c6 g0 g1 g2 g3 g4 g5 g6 s0 s1 s2 s3 i0 i1 i2 i3 i4 i5 i6 r0 r1 r2 r3 j0 f1 f2 f3
 refine range_law2 (gf:=57) (lb:=#[.pointer (some ⟨W3.heap.size+1+1,0,none⟩),.pointer (some ⟨W3.heap.size+1,0,none⟩),.pointer (some ⟨W3.heap.size,0,none⟩)]) rfl (enters_of Tryz.func57 (by kernel_rfl) rfl) (Gk (fun b=>S b∧b < W.heap.size) p x.ks) x.ks.length (by rintro k args W ⟨_,_,_,rfl,_⟩;rfl) (Rk W3.heap.size c.rb c.sb c.cz c.Z (fun b=>S b∧b < W.heap.size) (.slice av x.ks.length cv) x.ks) HIT'.out
  (fun k X=>Je W c.rb (W.heap.size+1) (W.heap.size+1+1) (W1.heap.size+1) W1.heap.size W3.heap.size (q1.o (.pointer (some ⟨W1.heap.size+1,0,none⟩))) (.pointer pf) (frmB (x.ks.take k) ((p : Int)+1)) X)
  (fun k X hJ=>⟨by simp [World.cell?,hJ.i],(box6 (h.bel hJ.b).r).1.1,(h.bel hJ.b).z,hx.bel hJ.b⟩) (fun k X Z hJ b=>hJ.bel b) (fun k X l r o hJ hl hr=>hJ.put (by have:=HJ0.out.b.size;omega) hr o) (by simpa [frmB] using HJ0.out)
  (fun k args Wx a' W'=>∃ (hk : k < x.ks.length) (kb : Nat) (ak : Option Addr) (ck : Nat),Wx.heap.size ≤ kb∧a'.defers=[]∧a'.tmps.size=86∧a'.tmps.getD 7 undef = .pointer (some ⟨W.heap.size+1,0,none⟩)∧a'.tmps.getD 11 undef = .int .i64 ((p+1+sizes (x.ks.take k) : Nat) : Int)∧a'.tmps.getD 12 undef = .pointer (some ⟨kb,0,none⟩)∧W'.heap[kb]?=some (nO x.ks[k] (.slice ak x.ks[k].ks.length ck))∧LAt W' (fun b=>S b∧b < W.heap.size) (.slice ak x.ks[k].ks.length ck) x.ks[k].ks) ?assign ?body ?done
 case assign =>
  rintro l k args Wx K ⟨hk,ak,ck,rfl,hlk⟩ hJ hK
  unfold Nd.v
  gi_wp2
  refine hK _ _ (bel_a _ _) ?_
  exact ⟨hk,Wx.heap.size,ak,ck,Nat.le_refl _,rfl,rfl,rfl,rfl,rfl,hnew _ rfl,hlk.bel (bel_a _ _)⟩
 case body =>
  rintro D l k args ⟨tmps,defers⟩ Wx Wa Wb hG hJ hba ⟨hk,kb,ak,ck,hkb,hd,hs,h7,h9,h10,hm,hlk⟩ hlt hwl ho hs2 ⟨r2,hl2⟩ ⟨dr,hd2⟩ hJ2
  obtain rfl : defers=[]:=hd
  obtain ⟨f,rfl⟩:=frame86b hs h7 h9 h10
  have mk:=(ho kb (by omega)).trans hm
  have HS : Hid (frmB (x.ks.take (k+1)) ((p : Int)+1)=frmB (x.ks.take k) ((p : Int)+1) ++ if (dclN x.ks[k]).toList ≠ [] then [⟨dclN x.ks[k],x.ks[k].k,((p+1+sizes (x.ks.take k) : Nat) : Int),2,frB x.ks[k]⟩] else []):=by
   show _=_
   rw [List.take_succ_eq_append_getElem hk,frmB_app,frmB,frmB]
   have e : (p : Int)+1+(sizes (x.ks.take k) : Int)=((p+1+sizes (x.ks.take k) : Nat) : Int):=by push_cast;omega
   rw [e]
  have hlb : LAt Wb (fun b=>S b∧b < W.heap.size) (.slice ak x.ks[k].ks.length ck) x.ks[k].ks:=hlk.keep (Nat.le_of_eq hs2.symm) (fun b hb hl=>ho b (by have:=HJ0.out.b.size;omega))
  have hpre:=hpk x.ks[k] (List.getElem_mem hk)
  generalize x.ks[k]=ki at *
  generalize hpl : ((p+1+sizes (x.ks.take k) : Nat) : Int)=pl at *
  generalize frmB (x.ks.take k) ((p : Int)+1)=fo at *
  have HK : Hid (∀ X,Below Wb.heap.size Wb X→(NqZ X kb ki.k ki.t ki.n ak ki.ks.length ck)∧X.cell? ⟨W.heap.size+1,0,none⟩=some (.pointer (some ⟨W1.heap.size+1,0,none⟩))∧Calls Tryz.prog 31 #[.pointer (some ⟨W1.heap.size+1,0,none⟩),.string (dclN ki),.agg #[.int .i64 ki.k,.int .i64 pl,.int .i64 2,.bool (frB ki)]] X fun e X'=>e = .returned (.tuple #[])∧Je W c.rb (W.heap.size+1) (W.heap.size+1+1) (W1.heap.size+1) W1.heap.size W3.heap.size (q1.o (.pointer (some ⟨W1.heap.size+1,0,none⟩))) (.pointer pf) (fo ++ [⟨dclN ki,ki.k,pl,2,frB ki⟩]) X'∧X'.heap[l]?=Wb.heap[l]?∧X'.heap[D]?=Wb.heap[D]?∧((NqZ X' kb ki.k ki.t ki.n ak ki.ks.length ck)∧X'.cell? ⟨W.heap.size+1,0,none⟩=some (.pointer (some ⟨W1.heap.size+1,0,none⟩)))):=fun X bX=>by
   have jX:=hJ2.bel bX
   obtain ⟨nm,hm2⟩:=jX.m
   have hm3:=hm2
   obtain ⟨es,cl,hbm,_⟩:=hm3
   have lX:=(bX.block l (gl hl2)).trans hl2
   have dX:=(bX.block D (gl hd2)).trans hd2
   refine ⟨(box4 ((bX.block _ (gl mk)).trans mk)).1,(box7 jX.t).1.1,(declare_any ⟨dclN ki,ki.k,pl,2,frB ki⟩ jX.s hm2).mono ?_⟩
   rintro e X' ⟨rfl,sm',gr⟩
   have j6:=jX.grow ⟨_,sm'⟩ gr HW1.out.1
   have mkX:=(bX.block _ (gl mk)).trans mk
   refine ⟨rfl,j6,(gr.block l (gl lX) (fun e=>?_)).trans (lX.trans hl2.symm),(gr.block D (gl dX) (fun e=>?_)).trans (dX.trans hd2.symm),(box4 ((gr.block kb (gl mkX) (fun e=>?_)).trans mkX)).1,(box7 j6.t).1.1⟩
   ·injection e with e;rw [e,hbm] at lX;injection lX with lX;cases lX
   ·injection e with e;rw [e,hbm] at dX;injection dX with dX;cases dX
   ·injection e with e;rw [e,hbm] at mkX;injection mkX with mkX;cases mkX
  have CB:=fun X=>declaredBy_any ki (.slice ak ki.ks.length ck) pl 2 X ⟨_,_,_,rfl⟩ (dclN ki)
  unfold Nd.v Dc.v at CB
  obtain ⟨⟨v0,v1,v2,v3⟩,v4,_⟩:=HK.out Wb (Below.refl _ _)
  have HN : Hid (∀ X,Below Wb.heap.size Wb X→Je W c.rb (W.heap.size+1) (W.heap.size+1+1) (W1.heap.size+1) W1.heap.size W3.heap.size (q1.o (.pointer (some ⟨W1.heap.size+1,0,none⟩))) (.pointer pf) fo X∧X.heap[l]?=Wb.heap[l]?∧X.heap[D]?=Wb.heap[D]?):=fun X b=>⟨hJ2.bel b,b.block l (gl hl2),b.block D (gl hd2)⟩
  have CD0:=declares_any ki (.slice ak ki.ks.length ck) Wb _ hlb hpre
  unfold Nd.v at CD0
  clear hJ hba hm hG hJ2 ho mk hlt h7 h9 h10 hs hl2 hd2 hlk hlb hpre
  cases hem : (dclN ki).toList.isEmpty with
  | true =>
   gi_wp2_with (refine ⟨trivial,?_⟩;gi_at_call 64;refine (CallsIn.inRound l (callsIn_wide.2 CD0)).mono ?_;rintro e Wc ⟨rfl,bc⟩)
   obtain ⟨y1,y2,y3⟩:=HN.out Wc bc
   exact ⟨by show Je _ _ _ _ _ _ _ _ _ (frmB (x.ks.take (k+1)) _) _;rw [HS.out,if_neg (by simpa using hem),List.append_nil];exact y1,y2,y3⟩
  | false =>
   gi_wp2_with (refine ⟨trivial,?_⟩;gi_at_call 64;refine (CallsIn.inRound l (callsIn_wide.2 CD0)).mono ?_;rintro e Wc ⟨rfl,bc⟩)
   obtain ⟨⟨w0,w1,w2,w3⟩,w4,_⟩:=HK.out Wc.drew bc.drew
   refine region_round (fun X=>(NqZ X kb ki.k ki.t ki.n ak ki.ks.length ck)∧X.cell? ⟨W.heap.size+1,0,none⟩=some (.pointer (some ⟨W1.heap.size+1,0,none⟩))) (by kernel_rfl) (by kernel_rfl) (fun ⟨_,_,z⟩=>z) ⟨⟨w0,w1,w2,w3⟩,w4⟩ (fun hS=>?_)
   refine wpAnyH_take (i:=0) (v:=(.pointer (some ⟨W.heap.size+1,0,none⟩))) rfl (by kernel_rfl) (by kernel_rfl) (by kernel_rfl) (fun _ _ _ h=>h) (Or.inl ⟨by rfl,fun w _=>by go_simp⟩) hS ?_
   refine wpAnyH_take (i:=1) (v:=(.pointer (some ⟨W1.heap.size+1,0,none⟩))) rfl (by kernel_rfl) (by kernel_rfl) (by kernel_rfl) (fun _ _ _ h=>h) (Or.inl ⟨by rfl,fun w hw=>by obtain ⟨⟨l0,l1,l2,l3⟩,l4⟩:=hw;go_simp⟩) hS ?_
   refine wpAnyH_take (i:=2) (v:=(.string (dclN ki))) rfl (by kernel_rfl) (by kernel_rfl) (by kernel_rfl) (fun _ _ _ h=>h) (Or.inl ⟨by rfl,fun w _=>by go_simp⟩) hS ?_
   refine wpAnyH_take (i:=3) (v:=(.agg #[.int .i64 ki.k,.string ki.t,.int .i64 ki.n,.slice ak ki.ks.length ck])) rfl (by kernel_rfl) (by kernel_rfl) (by kernel_rfl) (fun _ _ _ h=>h) (Or.inl ⟨by rfl,fun w hw=>by obtain ⟨⟨l0,l1,l2,l3⟩,l4⟩:=hw;go_simp⟩) hS ?_
   refine wpAnyH_take (i:=4) (v:=(.int .i64 pl)) rfl (by kernel_rfl) (by kernel_rfl) (by kernel_rfl) (fun _ _ _ h=>h) (Or.inl ⟨by rfl,fun w _=>by go_simp⟩) hS ?_
   refine wpAnyH_ready (rs:=[5]) (by kernel_rfl) (by simp) ?_
   refine AllReadyH.cons rfl (fun K hK=>?_) AllReadyH.nil
   go_simp
   go_at_call 63
   refine (CB _).mono ?_
   rintro e W5 ⟨rfl,b5⟩
   have b5' : Below Wb.heap.size Wb W5:=bc.trans ⟨b5.os,b5.tape,b5.output,b5.size,fun k hk=>b5.block k (Nat.lt_of_lt_of_le hk bc.size)⟩
   obtain ⟨z0,z4,CD⟩:=HK.out W5 b5'
   refine hK.out _ _ ⟨z0,z4⟩ (fun hS5=>?_)
   clear hK K hS
   refine wpAnyH_ready (rs:=[6]) (by kernel_rfl) (by simp) ?_
   refine AllReadyH.cons rfl (fun K hK=>?_) AllReadyH.nil
   go_simp
   go_at_call 31
   refine CD.mono ?_
   rintro e W6 ⟨rfl,hj6,hl6,hd6,hS6⟩
   refine hK.out _ _ hS6 (fun hS7=>?_)
   clear hK K
   refine wpAnyH_done (by kernel_rfl) ?_ _
   exact ⟨by show Je _ _ _ _ _ _ _ _ _ (frmB (x.ks.take (k+1)) _) _;rw [HS.out,if_pos (by simpa using hem)];exact hj6,hl6,hd6⟩
 case done =>
  rintro D WD hD hJN hdef
  rw [List.take_length] at hJN
  obtain ⟨⟨v0,v1,v2,v3,v4,v5,v6⟩,v7⟩:=box7 hJN.t
  obtain ⟨⟨w0,w1,w2,w3,w4,w5,w6⟩,w7⟩:=box7 hJN.z
  obtain ⟨ne,hme⟩:=h.e
  have hel:=hme.lt
  have hs1:=HS1.out
  have HDN : Hid _:=fun ob=>hJN.done hdef (by have:=HJ0.out.b.size;omega) (by omega) (by omega) (by omega) (eb:=c.eb) (by omega) (by omega) hFb ob
  clear hJN hme hs1
  gi_wp2
  obtain ⟨z1,_⟩:=HDN.out (.deferred none)
  refine ⟨by simp,.inl ⟨_,_,rfl,run_takeDeferred z1,?_⟩⟩
  obtain ⟨_,z2,z3,z4⟩:=HDN.out (.deferred none)
  refine ⟨_,res_wh Tryz.results37 z2 rfl,?_⟩
  refine ⟨av,cv,.pointer (some ⟨W1.heap.size+1,0,none⟩),rfl,?_,z3,z4⟩
  rw [HT.out.1,HT.out.2,HQ.out]
  rfl
theorem ZAt.le {Z : List Nat} {p : Nat} {x : Nd} (h : ZAt Z p x) : p+x.size ≤ Z.length:=by
 obtain ⟨r,h⟩:=h
 have:=congrArg List.length h
 rw [List.length_drop,List.length_append,szN_len] at this
 have:=x.size_eq
 omega
theorem inF_eq (F : List (List Dc)) (x : Nd) (p : Int) : inF F x.k x.ks p=if isFn x.k=true then frmP (parK x.ks) (p+2) :: F else if x.k=52 then frmB x.ks (p+1) :: F else F:=rfl
theorem enter_any {c : Rc} {W : World} {p0 : Int} {E : List ByteArray} {vu : Value} {U : List Us} (h : Rv c W p0 E vu U) (x : Nd) (v : Value) {S : Nat→Prop} (hx : LAt W S v x.ks) (hp : Pre x) (hpk : ∀ y ∈ x.ks,Pre y) (p : Nat) (hZ : ZAt c.Z p x) (q : Wh) {vf : Value} {F : List (List Dc)} (hF : SAt W (fun k=>k ≠ c.eb) vf F) (zZ : c.Z.length ≤ 4194304) :
 Calls Tryz.prog 37 #[.pointer (some ⟨c.rb,0,none⟩),x.v v,.int .i64 (p : Nat),q.v vf] W (EntA W c q x v (inF F x.k x.ks (p : Int))):=by
 have hle:=hZ.le
 have hsz:=x.size_eq
 rw [inF_eq]
 by_cases h1 : isFn x.k=true
 ·rw [if_pos h1]
  exact enterF h x v hx hp p hZ q hF h1 (by omega) zZ (by omega)
 ·rw [if_neg h1]
  by_cases h2 : x.k=52
  ·rw [if_pos h2]
   exact enterB h x v hx hpk p hZ q hF h2 (by omega) zZ (by omega)
  ·rw [if_neg h2]
   obtain ⟨av,cv,rfl⟩:=hx.sl
   refine (enter0 h x _ ⟨_,_,_,rfl⟩ (p : Int) q vf hF.ptr h1 h2).mono ?_
   rintro e W' ⟨av',n',cv',e1,rfl,b⟩
   injection e1 with e1 e2 e3
   subst e1 e2 e3
   exact ⟨_,_,vf,rfl,rfl,hF.bel b,b⟩
theorem pvs_app {A : List Dc} {F : List (List Dc)} {pk : Int} {pt : ByteArray} {th rt : Bool} : ∀ (a b : List Nd) (p : Int) (S : Ps),pvs A F pk pt th rt (a ++ b) p S=(match pvs A F pk pt th rt a p S with | .error e=>.error e | .ok S1=>pvs A F pk pt th rt b (p+sizes a) S1)
 | [],b,p,S=>by rw [List.nil_append,pvs,sizes_nil];simp
 | x :: a,b,p,S=>by
  rw [List.cons_append,pvs,pvs]
  cases pv A F pk pt th rt x p S with
  | error e=>rfl
  | ok S1 =>
   dsimp only
   rw [pvs_app a b,sizes_cons]
   have e : p+(x.size : Int)+(sizes a : Int)=p+((x.size+sizes a : Nat) : Int):=by push_cast;omega
   rw [e]
theorem pvs_next {A : List Dc} {F : List (List Dc)} {pk : Int} {pt : ByteArray} {th rt : Bool} {l : List Nd} {j : Nat} (hj : j < l.length) {p : Int} {S S1 : Ps} (h : pvs A F pk pt th rt (l.take j) p S = .ok S1) :
 pvs A F pk pt th rt (l.take (j+1)) p S=pv A F pk pt th rt l[j] (p+sizes (l.take j)) S1:=by
 rw [List.take_succ_eq_append_getElem hj,pvs_app,h]
 dsimp only
 rw [pvs]
 cases pv A F pk pt th rt l[j] (p+sizes (l.take j)) S1 with
 | error e=>rfl
 | ok S2=>dsimp only;rw [pvs]
theorem pvs_err {A : List Dc} {F : List (List Dc)} {pk : Int} {pt : ByteArray} {th rt : Bool} {l : List Nd} {j : Nat} {p : Int} {S : Ps} {e : Int × Int} (h : pvs A F pk pt th rt (l.take j) p S = .error e) :
 pvs A F pk pt th rt l p S = .error e:=by
 rw [← List.take_append_drop j l,pvs_app,h]
theorem pv_eq (A : List Dc) (F : List (List Dc)) (pk : Int) (pt : ByteArray) (th rt : Bool) (x : Nd) (p : Int) (S : Ps) : pv A F pk pt th rt x p S=match pLook A F pk pt th rt x p S with
 | .error e=>.error e
 | .ok S1=>pvs A (inF F x.k x.ks p) x.k x.t (inT x.k th) (inR x.k rt) x.ks (p+1) S1:=by
 cases x;rw [pv];rfl
theorem pUse_at {k p : Int} {nm : ByteArray} {F : List (List Dc)} {S : Ps} : (∀ e,pUse k p nm F S = .error e→e.1=p)∧(∀ S1,pUse k p nm F S = .ok S1→S1.2.length ≤ S.2.length+1):=by
 unfold pUse
 cases fndF F nm with
 | none=>exact ⟨fun e h=>by injection h with h;rw [← h],fun S1 h=>by cases h⟩
 | some d =>
  dsimp only
  by_cases h1 : k=30∧typB d.kd=false
  ·rw [if_pos h1];exact ⟨fun e h=>by injection h with h;rw [← h],fun S1 h=>by cases h⟩
  ·rw [if_neg h1]
   by_cases h2 : (k=6 ∨ k=20)∧d.kd=46
   ·rw [if_pos h2];exact ⟨fun e h=>by injection h with h;rw [← h],fun S1 h=>by cases h⟩
   ·rw [if_neg h2];exact ⟨fun e h=>(by cases h),fun S1 h=>by injection h with h;rw [← h];simp⟩
theorem restL_at {A : List Dc} {F : List (List Dc)} {pk : Int} {pt : ByteArray} {th rt : Bool} {x : Nd} {p : Int} {S : Ps} : (∀ e,restL A F pk pt th rt x p S = .error e→e.1=p)∧(∀ S1,restL A F pk pt th rt x p S = .ok S1→S1.2.length ≤ S.2.length+1):=by
 unfold restL
 have er : ∀ n : Int,(∀ e,(Except.error (p,n) : Except (Int × Int) Ps) = .error e→e.1=p)∧(∀ S1,(Except.error (p,n) : Except (Int × Int) Ps) = .ok S1→S1.2.length ≤ S.2.length+1):=fun n=>⟨fun e h=>by injection h with h;rw [← h],fun S1 h=>by cases h⟩
 repeat' split
 all_goals first | exact pUse_at | exact er _ | exact ⟨fun e h=>(by cases h),fun S1 h=>by injection h with h;rw [← h];omega⟩
theorem look_at {A : List Dc} {F : List (List Dc)} {pk : Int} {pt : ByteArray} {th rt : Bool} {x : Nd} {p : Int} {S : Ps} : (∀ e,pLook A F pk pt th rt x p S = .error e→e.1=p)∧(∀ S1,pLook A F pk pt th rt x p S = .ok S1→S1.2.length ≤ S.2.length+1):=by
 obtain ⟨E,U⟩:=S
 rw [look_tw]
 split
 ·exact ⟨fun e h=>by injection h with h;rw [← h],fun S1 h=>by cases h⟩
 ·exact restL_at (S:=((twB F E x p).2,U))
inductive Wn : Nd→Prop where
 | mk (x : Nd) : Pre x→x.t.size ≤ 4194304→(∀ y ∈ x.ks,Wn y)→Wn x
theorem Wn.p {x : Nd} (h : Wn x) : Pre x:=by cases h;assumption
theorem Wn.t {x : Nd} (h : Wn x) : x.t.size ≤ 4194304:=by cases h;assumption
theorem Wn.k {x : Nd} (h : Wn x) : ∀ y ∈ x.ks,Wn y:=by cases h;assumption
theorem Rv.step {c : Rc} {W : World} {p : Int} {E : List ByteArray} {vu : Value} {U : List Us} (h : Rv c W p E vu U) (p' : Int) : Rv c (W.setCell ⟨c.ax,0,none⟩ (.int .i64 p')) p' E vu U∧Kpt (Own c vu) W (W.setCell ⟨c.ax,0,none⟩ (.int .i64 p')):=by
 obtain ⟨n,he⟩:=h.e
 have he0:=he
 obtain ⟨es,clock,heb,_⟩:=he0
 have nr : c.rb ≠ c.ax:=fun e=>by have h1:=h.r;rw [e,h.a] at h1;injection h1 with h1;cases h1
 have ne : c.eb ≠ c.ax:=fun e=>by rw [e,h.a] at heb;injection heb with heb;cases heb
 have hset : ∀ k,k ≠ c.ax→(W.setCell ⟨c.ax,0,none⟩ (.int .i64 p')).heap[k]?=W.heap[k]?:=fun k hk=>Below.heap_setCell _ _ _ _ hk
 refine ⟨⟨(hset _ nr).trans h.r,?_,⟨n,MF.keep he (hset _ ne)⟩,rw_keep h.u fun k hk=>hset k (fun e=>?_),h.z.keep (hset _ h.d),h.d,by simp [World.setCell];exact h.b⟩,Kpt.set _ _ _ _ (.inr (.inr (.inl rfl)))⟩
 ·simp [World.setCell,Array.getElem?_modify,h.a]
 ·obtain ⟨cur,hb⟩:=own_cells h.u hk
  rw [e,h.a] at hb
  injection hb with hb
  injection hb with _ hb
  exact absurd hb (by decide)
structure Vb (W : World) (c : Rc) (xb vb : Nat) : Prop where
 x : W.heap[xb]?=some (.cells #[.pointer (some ⟨c.rb,0,none⟩)] 51 (0,0))
 v : W.heap[vb]?=some (.cells #[.func (.func 35) #[] #[.pointer (some ⟨xb,0,none⟩),.pointer (some ⟨c.ax,0,none⟩),.pointer (some ⟨vb,0,none⟩)]] 80 (0,0))
theorem Vb.bel {W W' : World} {c : Rc} {xb vb : Nat} (h : Vb W c xb vb) (b : Below W.heap.size W W') : Vb W' c xb vb:=⟨(b.block _ (gl h.x)).trans h.x,(b.block _ (gl h.v)).trans h.v⟩
theorem Vb.kept {W W' : World} {c : Rc} {xb vb : Nat} {p : Int} {E : List ByteArray} {vu : Value} {U : List Us} (h : Vb W c xb vb) (r : Rv c W p E vu U) (k : Kpt (Own c vu) W W') : Vb W' c xb vb:=⟨r.kept k h.x (by decide),r.kept k h.v (by decide)⟩
theorem Rv.lat {c : Rc} {W W' : World} {p : Int} {E : List ByteArray} {vu : Value} {U : List Us} (r : Rv c W p E vu U) (k : Kpt (Own c vu) W W') {S : Nat→Prop} (hS : ∀ b,S b→b < c.B∧b ≠ c.rb∧b ≠ c.eb∧b ≠ c.ax) {v : Value} {l : List Nd} (h : LAt W S v l) : LAt W' S v l :=
 h.keep k.size fun b hb hl=>k.block b hl fun q=>by
  obtain ⟨h1,h2,h3,h4⟩:=hS b hb
  rcases q with q | q | q | q
  ·exact h2 q
  ·exact h3 q
  ·exact h4 q
  ·have:=(rw_lt r.u b q).1;omega
def AnsP (r : Except (Int × Int) Ps) (er pz : Int) (E : List ByteArray) (U : List Us) (m : Nat) (z : Int) : Prop:=match r with
 | .ok S=>er=0∧S=(E,U)∧pz=z∧U.length ≤ m
 | .error q=>er=q.2∧q.2 ≠ 0∧pz=q.1
def VisA (c : Rc) (W : World) (vu : Value) (res : Except (Int × Int) Ps) (m : Nat) (z : Int) (e : Ending) (W' : World) : Prop :=
 ∃ er pz E' vu' U',e = .returned (.int .i64 er)∧AnsP res er pz E' U' m z∧Rv c W' pz E' vu' U'∧Kpt (Own c vu) W W'∧∀ k,vu'.ownBlock=some k→vu.ownBlock=some k ∨ W.heap.size ≤ k
theorem own_trans {c : Rc} {W W1 : World} {vu vu1 : Value} (hs : W.heap.size ≤ W1.heap.size) (ow : ∀ k,vu1.ownBlock=some k→vu.ownBlock=some k ∨ W.heap.size ≤ k) : ∀ k,k < W.heap.size→Own c vu1 k→Own c vu k:=fun k hk q=>by
 rcases q with q | q | q | q
 ·exact .inl q
 ·exact .inr (.inl q)
 ·exact .inr (.inr (.inl q))
 ·rcases ow k q with q | q
  ·exact .inr (.inr (.inr q))
  ·omega
end Go.Proofs.YtfcocoadaajbjaaGreatDoor
