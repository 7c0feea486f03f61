/- Own text. Package scope: a function's parameters in a scope of their own. -/
import Derived.Test.YtfcocoadaajbjaaGreatDoorGd21
import Derived.Test.YtfcocoadaajbjaaGreatDoorGd06
import Derived.RegionIn
import Derived.Stop.RegionWithIn
set_option linter.unusedVariables false
set_option linter.unusedSimpArgs false
set_option maxRecDepth 100000
set_option maxHeartbeats 16000000
namespace Go.Proofs.YtfcocoadaajbjaaGreatDoor
open Go.RowKit Go.MapKept
attribute [local go_sem] Oper.semAt_some
theorem of_frame86a (g : Nat→Value) : Array.ofFn (n:=86) (fun i=>g i.val)=#[g 0,g 1,g 2,g 3,g 4,g 5,g 6,g 7,g 8,g 9,g 10,g 11,g 12,g 13,g 14,g 15,g 16,g 17,g 18,g 19,g 20,g 21,g 22,g 23,g 24,g 25,g 26,g 27,g 28,g 29,g 30,g 31,g 32,g 33,g 34,g 35,g 36,g 37,g 38,g 39,g 40,g 41,g 42,g 43,g 44,g 45,g 46,g 47,g 48,g 49,g 50,g 51,g 52,g 53,g 54,g 55,g 56,g 57,g 58,g 59,g 60,g 61,g 62,g 63,g 64,g 65,g 66,g 67,g 68,g 69,g 70,g 71,g 72,g 73,g 74,g 75,g 76,g 77,g 78,g 79,g 80,g 81,g 82,g 83,g 84,g 85]:=by
 kernel_rfl
theorem frame86a {t : Array Value} {p7 p9 p10 : Value} (hs : t.size=86) (h7 : t.getD 7 undef=p7) (h9 : t.getD 9 undef=p9) (h10 : t.getD 10 undef=p10) : ∃ f : Nat→Value,t=#[f 0,f 1,f 2,f 3,f 4,f 5,f 6,p7,f 8,p9,p10,f 11,f 12,f 13,f 14,f 15,f 16,f 17,f 18,f 19,f 20,f 21,f 22,f 23,f 24,f 25,f 26,f 27,f 28,f 29,f 30,f 31,f 32,f 33,f 34,f 35,f 36,f 37,f 38,f 39,f 40,f 41,f 42,f 43,f 44,f 45,f 46,f 47,f 48,f 49,f 50,f 51,f 52,f 53,f 54,f 55,f 56,f 57,f 58,f 59,f 60,f 61,f 62,f 63,f 64,f 65,f 66,f 67,f 68,f 69,f 70,f 71,f 72,f 73,f 74,f 75,f 76,f 77,f 78,f 79,f 80,f 81,f 82,f 83,f 84,f 85]:=by
 subst h7 h9 h10
 refine ⟨fun i=>t.getD i undef,?_⟩
 rw [← of_frame86a (fun i=>t.getD i undef)]
 refine Array.ext (by rw [hs,Array.size_ofFn]) (fun i h1 h2=>?_)
 rw [Array.getElem_ofFn]
 simp [h1]
theorem of_frame86b (g : Nat→Value) : Array.ofFn (n:=86) (fun i=>g i.val)=#[g 0,g 1,g 2,g 3,g 4,g 5,g 6,g 7,g 8,g 9,g 10,g 11,g 12,g 13,g 14,g 15,g 16,g 17,g 18,g 19,g 20,g 21,g 22,g 23,g 24,g 25,g 26,g 27,g 28,g 29,g 30,g 31,g 32,g 33,g 34,g 35,g 36,g 37,g 38,g 39,g 40,g 41,g 42,g 43,g 44,g 45,g 46,g 47,g 48,g 49,g 50,g 51,g 52,g 53,g 54,g 55,g 56,g 57,g 58,g 59,g 60,g 61,g 62,g 63,g 64,g 65,g 66,g 67,g 68,g 69,g 70,g 71,g 72,g 73,g 74,g 75,g 76,g 77,g 78,g 79,g 80,g 81,g 82,g 83,g 84,g 85]:=by
 kernel_rfl
theorem frame86b {t : Array Value} {p7 p11 p12 : Value} (hs : t.size=86) (h7 : t.getD 7 undef=p7) (h11 : t.getD 11 undef=p11) (h12 : t.getD 12 undef=p12) : ∃ f : Nat→Value,t=#[f 0,f 1,f 2,f 3,f 4,f 5,f 6,p7,f 8,f 9,f 10,p11,p12,f 13,f 14,f 15,f 16,f 17,f 18,f 19,f 20,f 21,f 22,f 23,f 24,f 25,f 26,f 27,f 28,f 29,f 30,f 31,f 32,f 33,f 34,f 35,f 36,f 37,f 38,f 39,f 40,f 41,f 42,f 43,f 44,f 45,f 46,f 47,f 48,f 49,f 50,f 51,f 52,f 53,f 54,f 55,f 56,f 57,f 58,f 59,f 60,f 61,f 62,f 63,f 64,f 65,f 66,f 67,f 68,f 69,f 70,f 71,f 72,f 73,f 74,f 75,f 76,f 77,f 78,f 79,f 80,f 81,f 82,f 83,f 84,f 85]:=by
 subst h7 h11 h12
 refine ⟨fun i=>t.getD i undef,?_⟩
 rw [← of_frame86b (fun i=>t.getD i undef)]
 refine Array.ext (by rw [hs,Array.size_ofFn]) (fun i h1 h2=>?_)
 rw [Array.getElem_ofFn]
 simp [h1]
theorem set7_same {X : World} {b : Nat} {p q r s u x y : Value} {t : TypeId} (p' q' r' s' u' x' y' : Value) (h : X.heap[b]?=some (.cells #[p,q,r,s,u,x,y] t (0,0))) :
 (((((((X.setCell ⟨b,0,none⟩ p').setCell ⟨b,1,none⟩ q').setCell ⟨b,2,none⟩ r').setCell ⟨b,3,none⟩ s').setCell ⟨b,4,none⟩ u').setCell ⟨b,5,none⟩ x').setCell ⟨b,6,none⟩ y').heap[b]?=some (.cells #[p',q',r',s',u',x',y'] t (0,0)):=by
 simp [World.setCell,Array.getElem?_modify,h]
theorem set7_other {X : World} {b k : Nat} (p' q' r' s' u' x' y' : Value) (h : k ≠ b) :
 (((((((X.setCell ⟨b,0,none⟩ p').setCell ⟨b,1,none⟩ q').setCell ⟨b,2,none⟩ r').setCell ⟨b,3,none⟩ s').setCell ⟨b,4,none⟩ u').setCell ⟨b,5,none⟩ x').setCell ⟨b,6,none⟩ y').heap[k]?=X.heap[k]?:=by
 simp [World.setCell,Array.getElem?_modify,Ne.symm h]
structure Je (W : World) (rb tb zb sb m rx : Nat) (wo : Obj) (vf : Value) (f : List Dc) (X : World) : Prop where
 b : Below W.heap.size W X
 t : X.heap[tb]?=some wo
 z : X.heap[zb]?=some (Obj.cells #[.pointer none,.int .i64 0,.string ⟨#[]⟩,.int .i64 0,.slice none 0 0,.bool false,.bool false] 82)
 s : X.heap[sb]?=some (.cells #[.map (some m),vf] 76 (0,0))
 m : ∃ n,Sm X m n f
 i : X.heap[rx]?=some (.cells #[.pointer (some ⟨rb,0,none⟩)] 51 (0,0))
section
variable {W X Z : World} {rb tb zb sb m rx : Nat} {q : Wh} {vs vf : Value} {f : List Dc}
theorem Je.bel (h : Je W rb tb zb sb m rx (q.o vs) vf f X) (b : Below X.heap.size X Z) : Je W rb tb zb sb m rx (q.o vs) vf f Z:=by
 obtain ⟨n,hm⟩:=h.m
 exact ⟨h.b.trans (b.mono h.b.size),(b.block _ (gl h.t)).trans h.t,(b.block _ (gl h.z)).trans h.z,(b.block _ (gl h.s)).trans h.s,⟨n,MF.keep hm (b.block _ hm.lt)⟩,(b.block _ (gl h.i)).trans h.i⟩
theorem Je.put (h : Je W rb tb zb sb m rx (q.o vs) vf f X) {l : Nat} {r : Loop} (hl : W.heap.size ≤ l) (hr : X.heap[l]?=some (.loop r)) (o : Obj) : Je W rb tb zb sb m rx (q.o vs) vf f (X.putObj l o):=by
 have ne : ∀ {k : Nat} {cs : Array Value} {t : TypeId} {fr : Nat × Nat},X.heap[k]?=some (Obj.cells cs t fr)→k ≠ l:=fun {k cs t fr} hk e=>by rw [e,hr] at hk;injection hk with hk;cases hk
 obtain ⟨n,hm⟩:=h.m
 have hm0:=hm
 obtain ⟨es,cl,hb,_⟩:=hm0
 have nm : m ≠ l:=fun e=>by rw [e,hr] at hb;injection hb with hb;cases hb
 exact ⟨h.b.trans (below_put _ hl),(World.putObj_heap_other (ne h.t)).trans h.t,(World.putObj_heap_other (ne h.z)).trans h.z,(World.putObj_heap_other (ne h.s)).trans h.s,⟨n,MF.keep hm (World.putObj_heap_other nm)⟩,(World.putObj_heap_other (ne h.i)).trans h.i⟩
theorem Je.grow (h : Je W rb tb zb sb m rx (q.o vs) vf f X) {g : List Dc} (hm' : ∃ n,Sm Z m n g) (hg : X.grownBy Z (some m)) (hw : W.heap.size ≤ m) : Je W rb tb zb sb m rx (q.o vs) vf g Z:=by
 obtain ⟨n,hm⟩:=h.m
 obtain ⟨es,cl,hb,_⟩:=hm
 have kb : ∀ {k : Nat} {cs : Array Value} {t : TypeId} {fr : Nat × Nat},X.heap[k]?=some (Obj.cells cs t fr)→Z.heap[k]?=some (Obj.cells cs t fr):=fun {k cs t fr} hk=>(hg.block k (gl hk) (fun e=>by injection e with e;rw [e,hb] at hk;injection hk with hk;cases hk)).trans hk
 have hs:=h.b.size
 exact ⟨⟨hg.os.trans h.b.os,hg.tape.trans h.b.tape,hg.output.trans h.b.output,Nat.le_trans hs hg.size,fun k hk=>(hg.block k (Nat.lt_of_lt_of_le hk hs) (fun e=>by injection e with e;omega)).trans (h.b.block k hk)⟩,kb h.t,kb h.z,kb h.s,hm',kb h.i⟩
end
theorem Je.done {W : World} {rb zb m sb tb rx : Nat} {q1 : Wh} {pf : Option Addr} {f : List Dc} {X : World} (h : Je W rb tb zb sb m rx (q1.o (.pointer (some ⟨sb,0,none⟩))) (.pointer pf) f X) {D : Nat} (hd : X.heap[D]?=some (.deferred (some []))) (hD : W.heap.size ≤ D) (hz : W.heap.size ≤ zb) (hm : m ≠ zb) (hs : sb ≠ zb) {eb : Nat} (e1 : m ≠ eb) (e2 : sb ≠ eb) {F : List (List Dc)} (hF : SAt W (fun k=>k ≠ eb) (.pointer pf) F) (o : Obj) :
 let Y:=((((((X.setCell ⟨zb,0,none⟩ (.pointer (some ⟨sb,0,none⟩))).setCell ⟨zb,1,none⟩ (.int .i64 q1.pk)).setCell ⟨zb,2,none⟩ (.string q1.pt)).setCell ⟨zb,3,none⟩ (.int .i64 q1.pn)).setCell ⟨zb,4,none⟩ (.slice q1.pa q1.pl q1.pc)).setCell ⟨zb,5,none⟩ (.bool q1.th)).setCell ⟨zb,6,none⟩ (.bool q1.rt)
 Y.heap[D]?=some (.deferred (some []))∧(Y.putObj D o).heap[zb]?=some (q1.o (.pointer (some ⟨sb,0,none⟩)))∧SAt (Y.putObj D o) (fun k=>k ≠ eb) (.pointer (some ⟨sb,0,none⟩)) (f :: F)∧Below W.heap.size W (Y.putObj D o):=by
 intro Y
 have nz : zb ≠ D:=fun e=>by have h2:=h.z;rw [e,hd] at h2;injection h2 with h2;cases h2
 have ns : sb ≠ D:=fun e=>by have h2:=h.s;rw [e,hd] at h2;injection h2 with h2;cases h2
 obtain ⟨n,hm2⟩:=h.m
 have hm3:=hm2
 obtain ⟨es,cl,hbm,_⟩:=hm3
 have nm : m ≠ D:=fun e=>by rw [e,hd] at hbm;injection hbm with hbm;cases hbm
 have hb : Below W.heap.size W Y:=by
  show Below W.heap.size W (World.setCell _ _ _)
  repeat refine bel_set ?_ hz
  exact h.b
 have hbf : Below W.heap.size W (Y.putObj D o):=hb.trans (below_put _ hD)
 refine ⟨(set7_other _ _ _ _ _ _ _ (Ne.symm nz)).trans hd,(World.putObj_heap_other nz).trans (set7_same _ _ _ _ _ _ _ h.z),?_,hbf⟩
 exact .cons sb m n (.pointer pf) f F e2 e1 ((World.putObj_heap_other ns).trans ((set7_other _ _ _ _ _ _ _ hs).trans h.s)) (MF.keep hm2 ((World.putObj_heap_other nm).trans (set7_other _ _ _ _ _ _ _ hm))) (hF.bel hbf)
theorem sm_nil (w : World) : Sm (w.alloc (.map #[] 0)) w.heap.size 0 []:=MF.nil w
def EntA (W : World) (c : Rc) (q : Wh) (x : Nd) (v : Value) (F' : List (List Dc)) (e : Ending) (W' : World) : Prop :=
 ∃ av cv vf',v = .slice av x.ks.length cv∧e = .returned ((⟨x.k,x.t,x.n,av,x.ks.length,cv,inT x.k q.th,inR x.k q.rt⟩ : Wh).v vf')∧SAt W' (fun k=>k ≠ c.eb) vf' F'∧Below W.heap.size W W'
theorem enterF {c : Rc} {W : World} {p0 : Int} {E : List ByteArray} {vu : Value} {U : List Us} (h : Rv c W p0 E vu U) (x : Nd) (v : Value) {S : Nat→Prop} (hx : LAt W S v x.ks) (hp : Pre x) (p : Nat) (hZ : ZAt c.Z p x) (q : Wh) {vf : Value} {F : List (List Dc)} (hF : SAt W (fun k=>k ≠ c.eb) vf F) (hfn : isFn x.k=true) (zx : x.size ≤ 4194304) (zZ : c.Z.length ≤ 4194304) (hp4 : p+1 ≤ 4194304) :
 Calls Tryz.prog 37 #[.pointer (some ⟨c.rb,0,none⟩),x.v v,.int .i64 (p : Nat),q.v vf] W (EntA W c q x v (frmP (parK x.ks) ((p : Int)+2) :: F)):=by
 obtain ⟨a,r,bl,o,cv,va,hks,rfl,hn,hb,h4,hl⟩:=first_kid hx (hp.1 (.inr (.inr (.inr (.inr (.inr hfn))))))
 have HPK : Hid (parK x.ks=a.ks):=by show _=_;rw [hks];rfl
 have HZA : Hid (ZAt c.Z (p+1) a):=by
  have:=hZ.kids.at (j:=0) hn
  simp only [List.take_zero,sizes_nil,Nat.add_zero] at this
  have e : x.ks[0]=a:=by simp [hks]
  rw [e] at this
  exact this
 have hsa : a.size ≤ 4194304:=by
  have:=sizes_mem (l:=x.ks) (x:=a) (by rw [hks];simp)
  have:=x.size_eq
  omega
 have hsk : sizes a.ks ≤ 4194304:=by have:=a.size_eq;omega
 obtain ⟨aa,ca,rfl⟩:=hl.sl
 have hFb:=hF
 obtain ⟨pf,rfl⟩:=hF.ptr
 obtain ⟨W0,hW0⟩ : ∃ X,((W.alloc (nO x (.slice (some ⟨bl,o,none⟩) x.ks.length cv))).alloc (q.o (.pointer pf))).alloc (Obj.cells #[.pointer none,.int .i64 0,.string ⟨#[]⟩,.int .i64 0,.slice none 0 0,.bool false,.bool false] 82)=X:=⟨_,rfl⟩
 have b0 : Below W.heap.size W W0:=by rw [← hW0];exact (bel2 _ _ _).alloc (by simp;omega) _
 have HS0 : Hid (W0.heap.size=W.heap.size+3):=by show _=_;rw [← hW0];simp
 have m0 : W0.heap[W.heap.size]?=some (nO x (.slice (some ⟨bl,o,none⟩) x.ks.length cv)):=by rw [← hW0];exact hold _ (by simp;omega) (hold _ (by simp) (hnew _ rfl))
 have m1 : W0.heap[W.heap.size+1]?=some (q.o (.pointer pf)):=by rw [← hW0];exact hold _ (by simp) (hnew _ (by simp))
 have m2 : W0.heap[W.heap.size+1+1]?=some (Obj.cells #[.pointer none,.int .i64 0,.string ⟨#[]⟩,.int .i64 0,.slice none 0 0,.bool false,.bool false] 82):=by rw [← hW0];exact hnew _ (by simp)
 obtain ⟨⟨a0,a1,a2,a3⟩,_⟩:=box4 m0
 obtain ⟨⟨c0,c1,c2,c3,c4,c5,c6⟩,f1⟩:=box7 m1
 unfold nO Wh.o at hW0
 have hcls : ∃ th',th'=inT x.k q.th∧((x.k == 11)=true∧(x.k == 41)=false∧(x.k == 44)=false∧(x.k == 45)=false∧th'=q.th ∨ (x.k == 11)=false∧(x.k == 41)=true∧(x.k == 44)=false∧(x.k == 45)=false∧th'=false ∨ (x.k == 11)=false∧(x.k == 41)=false∧(x.k == 44)=true∧th'=true ∨ (x.k == 11)=false∧(x.k == 41)=false∧(x.k == 44)=false∧(x.k == 45)=true∧th'=true):=by
  refine ⟨_,rfl,?_⟩
  have e:=of_decide_eq_true hfn
  unfold inT
  rcases e with e | e | e | e <;> rw [e] <;> simp
 obtain ⟨th',hth,hcls⟩:=hcls
 have HT : Hid (inT x.k q.th=th'∧inR x.k q.rt=true):=⟨hth.symm,by unfold inR;rw [if_pos hfn]⟩
 have e43 : (x.k == 43)=false:=by
  have e:=of_decide_eq_true hfn
  rcases e with e | e | e | e <;> rw [e] <;> decide
 clear hth hfn hZ hks
 unfold Nd.v Wh.v
 rcases hcls with ⟨e11,e41,e44,e45,rfl⟩ | ⟨e11,e41,e44,e45,rfl⟩ | ⟨e11,e41,e44,rfl⟩ | ⟨e11,e41,e44,e45,rfl⟩
 obtain ⟨W1,hW1⟩ : ∃ X,(((((W0.setCell ⟨W.heap.size+1,1,none⟩ (.int .i64 x.k)).setCell ⟨W.heap.size+1,2,none⟩ (.string x.t)).setCell ⟨W.heap.size+1,3,none⟩ (.int .i64 x.n)).setCell ⟨W.heap.size+1,4,none⟩ (.slice (some ⟨bl,o,none⟩) x.ks.length cv)).setCell ⟨W.heap.size+1,6,none⟩ (.bool true))=X:=⟨_,rfl⟩
 obtain ⟨q1,hq1⟩ : ∃ q1 : Wh,q1=⟨x.k,x.t,x.n,some ⟨bl,o,none⟩,x.ks.length,cv,q.th,true⟩:=⟨_,rfl⟩
 have HQ : Hid (q1=⟨x.k,x.t,x.n,some ⟨bl,o,none⟩,x.ks.length,cv,q.th,true⟩):=hq1
 rotate_left
 obtain ⟨W1,hW1⟩ : ∃ X,((((((W0.setCell ⟨W.heap.size+1,1,none⟩ (.int .i64 x.k)).setCell ⟨W.heap.size+1,2,none⟩ (.string x.t)).setCell ⟨W.heap.size+1,3,none⟩ (.int .i64 x.n)).setCell ⟨W.heap.size+1,4,none⟩ (.slice (some ⟨bl,o,none⟩) x.ks.length cv)).setCell ⟨W.heap.size+1,5,none⟩ (.bool false)).setCell ⟨W.heap.size+1,6,none⟩ (.bool true))=X:=⟨_,rfl⟩
 obtain ⟨q1,hq1⟩ : ∃ q1 : Wh,q1=⟨x.k,x.t,x.n,some ⟨bl,o,none⟩,x.ks.length,cv,false,true⟩:=⟨_,rfl⟩
 have HQ : Hid (q1=⟨x.k,x.t,x.n,some ⟨bl,o,none⟩,x.ks.length,cv,false,true⟩):=hq1
 rotate_left
 obtain ⟨W1,hW1⟩ : ∃ X,((((((W0.setCell ⟨W.heap.size+1,1,none⟩ (.int .i64 x.k)).setCell ⟨W.heap.size+1,2,none⟩ (.string x.t)).setCell ⟨W.heap.size+1,3,none⟩ (.int .i64 x.n)).setCell ⟨W.heap.size+1,4,none⟩ (.slice (some ⟨bl,o,none⟩) x.ks.length cv)).setCell ⟨W.heap.size+1,5,none⟩ (.bool true)).setCell ⟨W.heap.size+1,6,none⟩ (.bool true))=X:=⟨_,rfl⟩
 obtain ⟨q1,hq1⟩ : ∃ q1 : Wh,q1=⟨x.k,x.t,x.n,some ⟨bl,o,none⟩,x.ks.length,cv,true,true⟩:=⟨_,rfl⟩
 have HQ : Hid (q1=⟨x.k,x.t,x.n,some ⟨bl,o,none⟩,x.ks.length,cv,true,true⟩):=hq1
 rotate_left
 obtain ⟨W1,hW1⟩ : ∃ X,((((((W0.setCell ⟨W.heap.size+1,1,none⟩ (.int .i64 x.k)).setCell ⟨W.heap.size+1,2,none⟩ (.string x.t)).setCell ⟨W.heap.size+1,3,none⟩ (.int .i64 x.n)).setCell ⟨W.heap.size+1,4,none⟩ (.slice (some ⟨bl,o,none⟩) x.ks.length cv)).setCell ⟨W.heap.size+1,5,none⟩ (.bool true)).setCell ⟨W.heap.size+1,6,none⟩ (.bool true))=X:=⟨_,rfl⟩
 obtain ⟨q1,hq1⟩ : ∃ q1 : Wh,q1=⟨x.k,x.t,x.n,some ⟨bl,o,none⟩,x.ks.length,cv,true,true⟩:=⟨_,rfl⟩
 have HQ : Hid (q1=⟨x.k,x.t,x.n,some ⟨bl,o,none⟩,x.ks.length,cv,true,true⟩):=hq1
 rotate_left
 all_goals
  have n0 : W1.heap[W.heap.size]?=some (nO x (.slice (some ⟨bl,o,none⟩) x.ks.length cv)):=by rw [← hW1];simp [World.setCell,Array.getElem?_modify,m0]
  have n1 : W1.heap[W.heap.size+1]?=some (q1.o (.pointer pf)):=by rw [← hW1,hq1];unfold Wh.o at m1 ⊢;simp [World.setCell,Array.getElem?_modify,m1]
  have n2 : W1.heap[W.heap.size+1+1]?=some (Obj.cells #[.pointer none,.int .i64 0,.string ⟨#[]⟩,.int .i64 0,.slice none 0 0,.bool false,.bool false] 82):=by rw [← hW1];simp [World.setCell,Array.getElem?_modify,m2]
  have HS1 : Hid (W1.heap.size=W.heap.size+3):=by show _=_;rw [← hW1];simp [World.setCell];exact HS0.out
  have bw1 : Below W.heap.size W W1:=by
   rw [← hW1]
   repeat refine bel_set ?_ (by omega)
   exact b0
  clear m0 m1 m2 hq1
  obtain ⟨⟨g0,g1,g2,g3,g4,g5,g6⟩,f2⟩:=box7 n1
  obtain ⟨⟨s0,s1,s2,s3⟩,_⟩:=box4 n0
  have CW:=within_any (.pointer pf) W1 ⟨_,rfl⟩
  obtain ⟨W2,hW2⟩ : ∃ X,(W1.alloc (.map #[] 0)).alloc (.cells #[.map (some W1.heap.size),.pointer pf] 76)=X:=⟨_,rfl⟩
  rw [hW2] at CW
  have HS2 : Hid (W2.heap.size=W1.heap.size+2):=by show _=_;rw [← hW2];simp
  have b2 : Below W1.heap.size W1 W2:=by rw [← hW2];exact bel2 _ _ _
  have o1 : Sm W2 W1.heap.size 0 []:=by rw [← hW2];exact MF.keep (sm_nil W1) (Below.heap_alloc _ _ _ (by simp))
  have o2 : W2.heap[W1.heap.size+1]?=some (.cells #[.map (some W1.heap.size),.pointer pf] 76 (0,0)):=by rw [← hW2];exact hnew _ (by simp)
  have o3:=(b2.block (W.heap.size+1) (by have:=HS1.out;omega)).trans n1
  obtain ⟨⟨i0,i1,i2,i3,i4,i5,i6⟩,f3⟩:=box7 o3
  have j0:=f3 0
  obtain ⟨W3,hW3⟩ : ∃ X,W2.setCell ⟨W.heap.size+1,0,none⟩ (.pointer (some ⟨W1.heap.size+1,0,none⟩))=X:=⟨_,rfl⟩
  have HS3 : Hid (W3.heap.size=W2.heap.size):=by show _=_;rw [← hW3];simp [World.setCell]
  have ne3 : ∀ k,k ≠ W.heap.size+1→W3.heap[k]?=W2.heap[k]?:=fun k hk=>by rw [← hW3];exact Below.heap_setCell _ _ _ _ hk
  have t3 : W3.heap[W.heap.size+1]?=some (q1.o (.pointer (some ⟨W1.heap.size+1,0,none⟩))):=by rw [← hW3];unfold Wh.o at o3 ⊢;simp [World.setCell,Array.getElem?_modify,o3]
  have bw3 : Below W.heap.size W W3:=by rw [← hW3];exact bel_set (bw1.trans (b2.mono bw1.size)) (by omega)
  have p0:=(ne3 W.heap.size (by omega)).trans ((b2.block _ (by have:=HS1.out;omega)).trans n0)
  obtain ⟨⟨r0,r1,r2,r3⟩,_⟩:=box4 p0
  obtain ⟨u0,u1,u2,u3⟩:=h4.of_block (bw3.block bl hb)
  have CK:=kids_in W3 c.rb a (.slice aa a.ks.length ca) ⟨_,_,_,rfl⟩ ((p : Int)+1)
  unfold Nd.v at CK
  obtain ⟨W4,hW4⟩ : ∃ X,((W3.alloc (.cells #[.pointer (some ⟨c.rb,0,none⟩)] 51)).alloc (.cells #[.int .i64 a.k,.string a.t,.int .i64 a.n,.slice aa a.ks.length ca] 24)).alloc (.cells #[.int .i64 ((p : Int)+1)] 3)=X:=⟨_,rfl⟩
  rw [hW4] at CK
  have b4 : Below W3.heap.size W3 W4:=by rw [← hW4];exact (bel2 _ _ _).alloc (by simp;omega) _
  have k1 : W4.heap[W3.heap.size]?=some (.cells #[.pointer (some ⟨c.rb,0,none⟩)] 51 (0,0)):=by rw [← hW4];exact hold _ (by simp;omega) (hold _ (by simp) (hnew _ rfl))
  have k2 : W4.heap[W3.heap.size+1]?=some (.cells #[.int .i64 a.k,.string a.t,.int .i64 a.n,.slice aa a.ks.length ca] 24 (0,0)):=by rw [← hW4];exact hold _ (by simp) (hnew _ (by simp))
  have k3 : W4.heap[W3.heap.size+1+1]?=some (.cells #[.int .i64 ((p+1 : Nat) : Int)] 3 (0,0)):=by rw [← hW4];exact hnew _ (by simp)
  have HJ0 : Hid (Je W c.rb (W.heap.size+1) (W.heap.size+1+1) (W1.heap.size+1) W1.heap.size W3.heap.size (q1.o (.pointer (some ⟨W1.heap.size+1,0,none⟩))) (.pointer pf) [] W4):=by
   have s1:=HS1.out
   have s2:=HS2.out
   have s3:=HS3.out
   refine ⟨bw3.trans (b4.mono bw3.size),(b4.block _ (by omega)).trans t3,(b4.block _ (by omega)).trans ((ne3 _ (by omega)).trans ((b2.block _ (by omega)).trans n2)),(b4.block _ (by omega)).trans ((ne3 _ (by omega)).trans o2),⟨0,MF.keep o1 ((b4.block _ (by omega)).trans (ne3 _ (by omega)))⟩,k1⟩
  have HIT:=kids_it (w:=W4) (rx:=W3.heap.size) (rb:=c.rb) (sb:=c.sb) (c:=c.cz) (Z:=c.Z) (p:=p+1) k2 k3 ((hl.bel bw3).bel b4) HZA.out.zk zZ hsk hp4
  have HIT' : Hid _:=HIT
  have HW1 : Hid (W.heap.size ≤ W1.heap.size∧W3.heap.size+3 ≤ W4.heap.size):=⟨bw1.size,by rw [← hW4];simp⟩
  clear n0 n1 n2 o1 o2 o3 p0 t3 k1 k2 k3 ne3 HIT bw3 b4 b2
  refine (callsIn_wide (n:=10)).1 ?_
  refine callsIn_of_wp_marks Tryz.func37 rfl trivial ?_ rfl
  simp only [Tryz.ntmps37,List.size_toArray,List.length_cons,List.length_nil,Nat.reduceAdd,Nat.reduceSub,Array.replicate_succ,Array.replicate_zero,List.push_toArray,List.append_toArray,List.nil_append,List.cons_append]
  gi_wp2_with (first
   | (refine ⟨trivial,?_⟩;gi_at_call 30;refine (callsIn_wide.2 CW).mono ?_;rintro e w' ⟨rfl,hw⟩;obtain rfl:=hw.symm)
   | (refine ⟨trivial,?_⟩;gi_at_call 33;refine (callsIn_wide.2 CK).mono ?_;rintro e w' ⟨rfl,hw⟩;obtain rfl:=hw.symm))
  clear CW CK hW0 hW1 hW2 hW3 hW4 a0 a1 a2 a3 c0 c1 c2 c3 c4 c5 c6 g0 g1 g2 g3 g4 g5 g6 s0 s1 s2 s3 i0 i1 i2 i3 i4 i5 i6 r0 r1 r2 r3 u0 u1 u2 u3 j0 f1 f2 f3
  refine range_law2 (gf:=57) (lb:=#[.pointer (some ⟨W3.heap.size+1+1,0,none⟩),.pointer (some ⟨W3.heap.size+1,0,none⟩),.pointer (some ⟨W3.heap.size,0,none⟩)]) rfl (enters_of Tryz.func57 (by kernel_rfl) rfl) (Gk S (p+1) a.ks) a.ks.length (by rintro k args W ⟨_,_,_,rfl,_⟩;rfl) (Rk W3.heap.size c.rb c.sb c.cz c.Z S (.slice aa a.ks.length ca) a.ks) HIT'.out
   (fun k X=>Je W c.rb (W.heap.size+1) (W.heap.size+1+1) (W1.heap.size+1) W1.heap.size W3.heap.size (q1.o (.pointer (some ⟨W1.heap.size+1,0,none⟩))) (.pointer pf) (frmP (a.ks.take k) ((p : Int)+2)) X)
   (fun k X hJ=>⟨by simp [World.cell?,hJ.i],(box6 (h.bel hJ.b).r).1.1,(h.bel hJ.b).z,hl.bel hJ.b⟩) (fun k X Z hJ b=>hJ.bel b) (fun k X l r o hJ hl hr=>hJ.put (by have:=HJ0.out.b.size;omega) hr o) (by simpa [frmP] using HJ0.out)
   (fun k args Wx a' W'=>∃ (hk : k < a.ks.length) (kb : Nat) (ak : Option Addr) (ck : Nat),Wx.heap.size ≤ kb∧a'.defers=[]∧a'.tmps.size=86∧a'.tmps.getD 7 undef = .pointer (some ⟨W.heap.size+1,0,none⟩)∧a'.tmps.getD 9 undef = .int .i64 ((p+1+1+sizes (a.ks.take k) : Nat) : Int)∧a'.tmps.getD 10 undef = .pointer (some ⟨kb,0,none⟩)∧W'.heap[kb]?=some (nO a.ks[k] (.slice ak a.ks[k].ks.length ck))) ?assign ?body ?done
  case assign =>
   rintro l k args Wx K ⟨hk,ak,ck,rfl,hlk⟩ hJ hK
   unfold Nd.v
   gi_wp2
   refine hK _ _ (bel_a _ _) ?_
   exact ⟨hk,Wx.heap.size,ak,ck,Nat.le_refl _,rfl,rfl,rfl,rfl,rfl,hnew _ rfl⟩
  case body =>
   rintro D l k args ⟨tmps,defers⟩ Wx Wa Wb hG hJ hba ⟨hk,kb,ak,ck,hkb,hd,hs,h7,h9,h10,hm⟩ hlt hwl ho hs2 ⟨r2,hl2⟩ ⟨dr,hd2⟩ hJ2
   obtain rfl : defers=[]:=hd
   obtain ⟨f,rfl⟩:=frame86a hs h7 h9 h10
   have mk:=(ho kb (by omega)).trans hm
   have HS : Hid (frmP (a.ks.take (k+1)) ((p : Int)+2)=frmP (a.ks.take k) ((p : Int)+2) ++ [⟨a.ks[k].t,a.ks[k].k,((p+1+1+sizes (a.ks.take k) : Nat) : Int),2,frB a.ks[k]⟩]):=by
    show _=_
    rw [List.take_succ_eq_append_getElem hk,frmP_app,frmP,frmP]
    congr 3 <;> (push_cast <;> omega)
   generalize a.ks[k]=ki at *
   generalize hpl : ((p+1+1+sizes (a.ks.take k) : Nat) : Int)=pl at *
   generalize frmP (a.ks.take k) ((p : Int)+2)=fo at *
   have HK : Hid (∀ X,Below Wb.heap.size Wb X→(NqZ X kb ki.k ki.t ki.n ak ki.ks.length ck)∧X.cell? ⟨W.heap.size+1,0,none⟩=some (.pointer (some ⟨W1.heap.size+1,0,none⟩))∧Calls Tryz.prog 31 #[.pointer (some ⟨W1.heap.size+1,0,none⟩),.string ki.t,.agg #[.int .i64 ki.k,.int .i64 pl,.int .i64 2,.bool (frB ki)]] X fun e X'=>e = .returned (.tuple #[])∧Je W c.rb (W.heap.size+1) (W.heap.size+1+1) (W1.heap.size+1) W1.heap.size W3.heap.size (q1.o (.pointer (some ⟨W1.heap.size+1,0,none⟩))) (.pointer pf) (fo ++ [⟨ki.t,ki.k,pl,2,frB ki⟩]) X'∧X'.heap[l]?=Wb.heap[l]?∧X'.heap[D]?=Wb.heap[D]?∧((NqZ X' kb ki.k ki.t ki.n ak ki.ks.length ck)∧X'.cell? ⟨W.heap.size+1,0,none⟩=some (.pointer (some ⟨W1.heap.size+1,0,none⟩)))):=fun X bX=>by
    have jX:=hJ2.bel bX
    obtain ⟨nm,hm2⟩:=jX.m
    have hm3:=hm2
    obtain ⟨es,cl,hbm,_⟩:=hm3
    have lX:=(bX.block l (gl hl2)).trans hl2
    have dX:=(bX.block D (gl hd2)).trans hd2
    refine ⟨(box4 ((bX.block _ (gl mk)).trans mk)).1,(box7 jX.t).1.1,(declare_any ⟨ki.t,ki.k,pl,2,frB ki⟩ jX.s hm2).mono ?_⟩
    rintro e X' ⟨rfl,sm',gr⟩
    have j6:=jX.grow ⟨_,sm'⟩ gr HW1.out.1
    have mkX:=(bX.block _ (gl mk)).trans mk
    refine ⟨rfl,j6,(gr.block l (gl lX) (fun e=>?_)).trans (lX.trans hl2.symm),(gr.block D (gl dX) (fun e=>?_)).trans (dX.trans hd2.symm),(box4 ((gr.block kb (gl mkX) (fun e=>?_)).trans mkX)).1,(box7 j6.t).1.1⟩
    ·injection e with e;rw [e,hbm] at lX;injection lX with lX;cases lX
    ·injection e with e;rw [e,hbm] at dX;injection dX with dX;cases dX
    ·injection e with e;rw [e,hbm] at mkX;injection mkX with mkX;cases mkX
   have CB:=fun X=>declaredBy_any ki (.slice ak ki.ks.length ck) pl 2 X ⟨_,_,_,rfl⟩ ki.t
   unfold Nd.v Dc.v at CB
   obtain ⟨⟨v0,v1,v2,v3⟩,v4,_⟩:=HK.out Wb (Below.refl _ _)
   obtain ⟨⟨w0,w1,w2,w3⟩,w4,_⟩:=HK.out Wb.drew (Below.refl _ _).drew
   clear hJ hba hm hG hJ2 ho mk hlt h7 h9 h10 hs hl2 hd2
   gi_wp2
   refine region_round (fun X=>(NqZ X kb ki.k ki.t ki.n ak ki.ks.length ck)∧X.cell? ⟨W.heap.size+1,0,none⟩=some (.pointer (some ⟨W1.heap.size+1,0,none⟩))) (by kernel_rfl) (by kernel_rfl) (fun ⟨_,_,z⟩=>z) ⟨⟨w0,w1,w2,w3⟩,w4⟩ (fun hS=>?_)
   refine wpAnyH_take (i:=0) (v:=(.pointer (some ⟨W.heap.size+1,0,none⟩))) rfl (by kernel_rfl) (by kernel_rfl) (by kernel_rfl) (fun _ _ _ h=>h) (Or.inl ⟨by rfl,fun w _=>by go_simp⟩) hS ?_
   refine wpAnyH_take (i:=1) (v:=(.pointer (some ⟨W1.heap.size+1,0,none⟩))) rfl (by kernel_rfl) (by kernel_rfl) (by kernel_rfl) (fun _ _ _ h=>h) (Or.inl ⟨by rfl,fun w hw=>by obtain ⟨⟨l0,l1,l2,l3⟩,l4⟩:=hw;go_simp⟩) hS ?_
   refine wpAnyH_take (i:=2) (v:=(.pointer (some ⟨kb,1,none⟩))) rfl (by kernel_rfl) (by kernel_rfl) (by kernel_rfl) (fun _ _ _ h=>h) (Or.inl ⟨by rfl,fun w _=>by go_simp⟩) hS ?_
   refine wpAnyH_take (i:=3) (v:=(.string ki.t)) rfl (by kernel_rfl) (by kernel_rfl) (by kernel_rfl) (fun _ _ _ h=>h) (Or.inl ⟨by rfl,fun w hw=>by obtain ⟨⟨l0,l1,l2,l3⟩,l4⟩:=hw;go_simp⟩) hS ?_
   refine wpAnyH_take (i:=4) (v:=(.agg #[.int .i64 ki.k,.string ki.t,.int .i64 ki.n,.slice ak ki.ks.length ck])) rfl (by kernel_rfl) (by kernel_rfl) (by kernel_rfl) (fun _ _ _ h=>h) (Or.inl ⟨by rfl,fun w hw=>by obtain ⟨⟨l0,l1,l2,l3⟩,l4⟩:=hw;go_simp⟩) hS ?_
   refine wpAnyH_take (i:=5) (v:=(.int .i64 pl)) rfl (by kernel_rfl) (by kernel_rfl) (by kernel_rfl) (fun _ _ _ h=>h) (Or.inl ⟨by rfl,fun w _=>by go_simp⟩) hS ?_
   refine wpAnyH_ready (rs:=[6]) (by kernel_rfl) (by simp) ?_
   refine AllReadyH.cons rfl (fun K hK=>?_) AllReadyH.nil
   go_simp
   go_at_call 63
   refine (CB _).mono ?_
   rintro e W5 ⟨rfl,b5⟩
   have b5' : Below Wb.heap.size Wb W5:=⟨b5.os,b5.tape,b5.output,b5.size,b5.block⟩
   obtain ⟨z0,z4,CD⟩:=HK.out W5 b5'
   refine hK.out _ _ ⟨z0,z4⟩ (fun hS5=>?_)
   clear hK K hS
   refine wpAnyH_ready (rs:=[7]) (by kernel_rfl) (by simp) ?_
   refine AllReadyH.cons rfl (fun K hK=>?_) AllReadyH.nil
   go_simp
   go_at_call 31
   refine CD.mono ?_
   rintro e W6 ⟨rfl,hj6,hl6,hd6,hS6⟩
   refine hK.out _ _ hS6 (fun hS7=>?_)
   clear hK K
   refine wpAnyH_done (by kernel_rfl) ?_ _
   rw [← HS.out] at hj6
   exact ⟨hj6,hl6,hd6⟩
  case done =>
   rintro D WD hD hJN hdef
   rw [List.take_length] at hJN
   obtain ⟨⟨v0,v1,v2,v3,v4,v5,v6⟩,v7⟩:=box7 hJN.t
   obtain ⟨⟨w0,w1,w2,w3,w4,w5,w6⟩,w7⟩:=box7 hJN.z
   obtain ⟨ne,hme⟩:=h.e
   have hel:=hme.lt
   have hs1:=HS1.out
   have HDN : Hid _:=fun ob=>hJN.done hdef (by have:=HJ0.out.b.size;omega) (by omega) (by omega) (by omega) (eb:=c.eb) (by omega) (by omega) hFb ob
   clear hJN hme hs1
   gi_wp2
   obtain ⟨z1,_⟩:=HDN.out (.deferred none)
   refine ⟨by simp,.inl ⟨_,_,rfl,run_takeDeferred z1,?_⟩⟩
   obtain ⟨_,z2,z3,z4⟩:=HDN.out (.deferred none)
   refine ⟨_,res_wh Tryz.results37 z2 rfl,?_⟩
   rw [HPK.out]
   refine ⟨some ⟨bl,o,none⟩,cv,.pointer (some ⟨W1.heap.size+1,0,none⟩),rfl,?_,z3,z4⟩
   rw [HT.out.1,HT.out.2,HQ.out]
   rfl
end Go.Proofs.YtfcocoadaajbjaaGreatDoor
