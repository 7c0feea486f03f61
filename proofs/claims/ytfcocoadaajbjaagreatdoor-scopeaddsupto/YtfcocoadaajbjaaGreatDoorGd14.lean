/- Own text. The document's walk over names: declare,give. The document's walk over names: give. The document's walk over names: builtins,plain types;a use is added. The document's walk over names: a top is used. -/
import Derived.Test.YtfcocoadaajbjaaGreatDoorGd13
set_option linter.unusedVariables false
set_option linter.unusedSimpArgs false
set_option maxRecDepth 100000
set_option maxHeartbeats 8000000
namespace Go.Proofs.YtfcocoadaajbjaaGreatDoor
open Go.RowKit Go.MapKept
def WvA (wb B : Nat) (V : Vs) (W : World) (d : Dw) (r : Ending) (W' : World) : Prop:=r = .returned (.tuple #[])∧∃ V',Wv wb B W' d V'∧Kw wb V W V' W'
theorem wdeclare_any {wb B : Nat} {W : World} {d : Dw} {V : Vs} (h : Wv wb B W d V) (nm : ByteArray) (kd p it : Int) (fr : Bool) (hn : d.tops.length ≤ 8388608) :
 Calls Tryz.prog 46 #[.pointer (some ⟨wb,0,none⟩),.string nm,.int .i64 kd,.int .i64 p,.int .i64 it,.bool fr] W (WvA wb B V W (d.declare nm kd p it (!fr))):=by
 obtain ⟨i0,hi0,hz0,hz1,hz2⟩:=info_parts info_tp
 have CT:=wtop_any h nm hn
 have CF:=wfail_any h p 90
 obtain ⟨a,c,hv⟩:=rw_form h.t
 obtain ⟨⟨c0,_⟩,fz⟩:=box8 h.r
 have f0:=fz 0
 rw [hv] at c0
 have HD : Hid (d.declare nm kd p it (!fr)=match topS d.tops nm with | some _=>d.fail p 90 | none=>{ d with tops:=d.tops ++ [⟨nm,kd,p,it,!fr⟩] }):=rfl
 have hown:=h.t
 rw [hv] at hown
 have hb:=h.b
 have HP : Hid (∀ (W1 W3 : World) (gg cap : Nat),Below W.heap.size W W1→W3.ownsRow B 43 5 (.slice (some ⟨gg,0,none⟩) (d.tops.length+1) cap) (d.tops.length+1) (tpV d.tops ++ [.string nm,.int .i64 kd,.int .i64 p,.int .i64 it,.bool (!fr)])→W1.grownBy W3 (Value.slice a d.tops.length c).ownBlock→((Value.slice a d.tops.length c).ownBlock=some gg ∨ gg=W1.heap.size) →
  (W3.frozen? ⟨wb,0,none⟩=false∧W3.cell? ⟨wb,0,none⟩=some (.slice a d.tops.length c))∧∃ V',Wv wb B (W3.setCell ⟨wb,0,none⟩ (.slice (some ⟨gg,0,none⟩) (d.tops.length+1) cap)) { d with tops:=d.tops ++ [⟨nm,kd,p,it,!fr⟩] } V'∧Kw wb V W V' (W3.setCell ⟨wb,0,none⟩ (.slice (some ⟨gg,0,none⟩) (d.tops.length+1) cap))):=fun W1 W3 gg cap b r1 r2 r3=>by
  rw [← hv] at r2 r3
  obtain ⟨k1,k2,k3⟩:=h.push_t b ⟨nm,kd,p,it,!fr⟩ r1 r2 r3
  obtain ⟨⟨x0,_⟩,x1⟩:=box8 (k3.trans h.r)
  exact ⟨⟨x1 0,by rw [x0,hv]⟩,_,k1,k2⟩
 have HV : Hid (Wv wb B W d V):=h
 clear h fz hv
 go_enter Tryz.func46,Tryz.ntmps46
 go_wp2_with fail
 go_at_call 78
 refine CT.mono ?_
 rintro e W1 ⟨hW,i,rfl,hi⟩
 obtain rfl:=hW.symm
 clear CT
 rcases hi with ⟨h1,rfl⟩ | ⟨k,hk,rfl,h1⟩
 ·have HR : Hid (d.declare nm kd p it (!fr)={ d with tops:=d.tops ++ [⟨nm,kd,p,it,!fr⟩] }):=by show _=_;rw [HD.out,h1]
  clear HD h1 CF
  generalize hT : d.tops=T at *
  go_wp2_with (at_builtin;refine wpList_append_lies _ (by rfl) _ _ _ (by rfl) B 43 i0 _ 5 48 Tryz.underlying25 hi0 hz0 hz1 hz2 rfl (by omega) _ T.length (tpV T) (by rfl) (hown.alloc _) ⟨W.heap.size,0,none⟩ 1 1 [.string nm,.int .i64 kd,.int .i64 p,.int .i64 it,.bool (!fr)] (by rfl) (by rfl) (World.news_of_block (cs:=#[.string nm,.int .i64 kd,.int .i64 p,.int .i64 it,.bool (!fr)]) (t:=43) (fr:=(0,0)) (hnew _ rfl)) (by simp [Value.oneCell']) (by omega) (by unfold maxLen;omega) (by omega) (by simp;omega) _ rfl ?_;intro gg cap W3 r1 r2 r3 r4;obtain ⟨⟨y1,y2⟩,V',k1,k2⟩:=HP.out _ W3 gg cap (bel_a _ _) r1 r2 r3)
  go_end0
  exact ⟨rfl,V',by rw [HR.out];exact k1,k2⟩
 ·have HR : Hid (d.declare nm kd p it (!fr)=d.fail p 90):=by show _=_;rw [HD.out,h1]
  clear HD h1 HP hown
  go_wp2_with fail
  go_at_call 79
  refine CF.mono ?_
  rintro e W1 ⟨rfl,k1,k2⟩
  go_wp2
  refine bodyPost_ret (results_none rfl _ _ _) rfl ?_
  exact ⟨rfl,V,by rw [HR.out];exact k1,k2⟩
def gfE (nm : ByteArray) (p : Int) (E : List ByteArray) (d : Dw) : Dw:=E.foldl (fun v c=>if eqT c nm=true then v.fail p 90 else v) d
theorem fail_exs (w : Dw) (p e : Int) : (w.fail p e).exs=w.exs∧(w.fail p e).tops=w.tops∧(w.fail p e).locs=w.locs:=by unfold Dw.fail;split <;> exact ⟨rfl,rfl,rfl⟩
theorem gf_exs (nm : ByteArray) (p : Int) : ∀ (E : List ByteArray) (d : Dw),(gfE nm p E d).exs=d.exs
 | [],d=>rfl
 | c :: E,d=>by
  show (gfE nm p E (if eqT c nm=true then d.fail p 90 else d)).exs=_
  rw [gf_exs nm p E]
  split
  ·exact (fail_exs d p 90).1
  ·rfl
theorem gf_take (nm : ByteArray) (p : Int) (E : List ByteArray) (d : Dw) (k : Nat) (hk : k < E.length) : gfE nm p (E.take (k+1)) d=if eqT E[k] nm=true then (gfE nm p (E.take k) d).fail p 90 else gfE nm p (E.take k) d:=by
 unfold gfE
 rw [List.take_succ_eq_append_getElem hk,List.foldl_append]
 rfl
theorem wgive_any {wb B : Nat} {W : World} {d : Dw} {V : Vs} (h : Wv wb B W d V) (nm : ByteArray) (p : Int) (hn : d.exs.length ≤ 8388608) :
 Calls Tryz.prog 47 #[.pointer (some ⟨wb,0,none⟩),.string nm,.int .i64 p] W (WvA wb B V W (d.give nm p)):=by
 obtain ⟨i0,hi0,hz0,hz1,hz2⟩:=info_parts info_st
 obtain ⟨a,c,hv⟩:=rw_form h.x
 have HD : Hid (d.give nm p={ gfE nm p d.exs d with exs:=(gfE nm p d.exs d).exs ++ [nm] }):=rfl
 have HW : Hid (∀ (X : World) (D : Dw),Wv wb B X D V→D.exs=d.exs→X.cell? ⟨wb,7,none⟩=some (.slice a d.exs.length c)∧X.frozen? ⟨wb,7,none⟩=false∧B ≤ X.heap.size∧X.ownsRow B 9 1 (.slice a d.exs.length c) d.exs.length (stV d.exs)∧(∀ k (hk : k < d.exs.length),∃ g,a=some ⟨g,0,none⟩∧X.cell? ⟨g,k,none⟩=some (.string d.exs[k]))):=fun X D q e=>by
  obtain ⟨⟨_,_,_,_,_,_,_,c7⟩,fz⟩:=box8 q.r
  have ho:=q.x
  rw [hv] at c7
  have ho':=ho
  rw [hv] at ho
  rw [e] at ho
  refine ⟨c7,fz 7,q.b,ho,fun k hk=>?_⟩
  obtain ⟨g,c',e',ck⟩:=st_at ho hk
  injection e' with e1 e2 e3
  exact ⟨g,e1,ck⟩
 have HP : Hid (∀ (X : World) (D : Dw),Wv wb B X D V→D.exs=d.exs→Kw wb V W V X→∀ (W1 W3 : World) (gg cap : Nat),Below X.heap.size X W1→W3.ownsRow B 9 1 (.slice (some ⟨gg,0,none⟩) (d.exs.length+1) cap) (d.exs.length+1) (stV d.exs ++ [.string nm])→W1.grownBy W3 (Value.slice a d.exs.length c).ownBlock→((Value.slice a d.exs.length c).ownBlock=some gg ∨ gg=W1.heap.size) →
  (W3.frozen? ⟨wb,7,none⟩=false∧W3.cell? ⟨wb,7,none⟩=some (.slice a d.exs.length c))∧∃ V',Wv wb B (W3.setCell ⟨wb,7,none⟩ (.slice (some ⟨gg,0,none⟩) (d.exs.length+1) cap)) { D with exs:=D.exs ++ [nm] } V'∧Kw wb V W V' (W3.setCell ⟨wb,7,none⟩ (.slice (some ⟨gg,0,none⟩) (d.exs.length+1) cap))):=fun X D q e kX W1 W3 gg cap b r1 r2 r3=>by
  rw [← hv] at r2 r3
  rw [← e] at r1 ⊢
  obtain ⟨k1,k2,k3⟩:=q.push_x b nm r1 r2 r3
  obtain ⟨⟨_,_,_,_,_,_,_,x0⟩,x1⟩:=box8 (k3.trans q.r)
  exact ⟨⟨x1 7,by rw [x0,hv,e]⟩,_,k1,kX.trans k2⟩
 have HV : Hid (Wv wb B W d V):=h
 clear hv h
 obtain ⟨z7,z8,z9,z10,z11⟩:=HW.out W d HV.out rfl
 have HU : Hid _:=z11
 clear z11 z10
 go_enter Tryz.func47,Tryz.ntmps47
 go_wp2
 go_loopw [6] (fun v6 wr=>∃ k : Nat,v6 = .int .i64 (k : Nat)∧k ≤ d.exs.length∧Hid (Wv wb B wr (gfE nm p (d.exs.take k) d) V)∧Hid (Kw wb V W V wr)) (fun v6 _=>d.exs.length - (intOf v6).toNat)
 case atStart=>exact ⟨0,rfl,by omega,HV.out,Kw.refl _ _ _⟩
 case round =>
  obtain ⟨k,rfl,hk,H1,H2⟩:=hrel
  clear z7 z8 z9 HU
  obtain ⟨z7,z8,z9,z10,z11⟩:=HW.out wr _ H1.out (gf_exs nm p _ d)
  by_cases hkl : k < d.exs.length
  ·obtain ⟨g,rfl,ck⟩:=z11 k hkl
   have hd : (k : Int) < (d.exs.length : Int):=by omega
   have HN : Hid (gfE nm p (d.exs.take (k+1)) d=if eqT d.exs[k] nm=true then (gfE nm p (d.exs.take k) d).fail p 90 else gfE nm p (d.exs.take k) d):=gf_take nm p d.exs d k hkl
   have CF:=wfail_any H1.out p 90
   unfold eqT at HN
   clear z11 z10
   generalize d.exs[k]=z at *
   cases q : (z.toList == nm.toList) with
   | true =>
    have HR : Hid (gfE nm p (d.exs.take (k+1)) d=(gfE nm p (d.exs.take k) d).fail p 90):=by show _=_;rw [HN.out,if_pos q]
    clear HN
    go_wp2_with fail
    go_at_call 79
    refine CF.mono ?_
    rintro e W1 ⟨rfl,k1,k2⟩
    have K1 : Hid _:=k1
    have K2 : Hid _:=k2
    clear k1 k2 z7 z8 z9 ck
    go_wp2
    go_roundw
    case rel=>exact ⟨k+1,by simp,by omega,by show Wv _ _ _ _ _;rw [HR.out];exact K1.out,H2.out.trans K2.out⟩
    case measure=>simp [intOf];omega
   | false =>
    have HR : Hid (gfE nm p (d.exs.take (k+1)) d=gfE nm p (d.exs.take k) d):=by show _=_;rw [HN.out,if_neg (by rw [q];decide)]
    clear HN CF
    go_wp2
    go_roundw
    case rel=>exact ⟨k+1,by simp,by omega,by show Wv _ _ _ _ _;rw [HR.out];exact H1.out,H2.out⟩
    case measure=>simp [intOf];omega
  ·obtain rfl : k=d.exs.length:=by omega
   have hd : ¬ ((d.exs.length : Nat) : Int) < ((d.exs.length : Nat) : Int):=by omega
   have HP1:=HP.out wr _ H1.out (gf_exs nm p _ d) H2.out
   have HP2 : Hid _:=HP1
   have e0 : d.exs.take d.exs.length=d.exs:=List.take_length
   have HR : Hid (d.give nm p={ gfE nm p (d.exs.take d.exs.length) d with exs:=(gfE nm p (d.exs.take d.exs.length) d).exs ++ [nm] }):=by show _=_;rw [HD.out,e0]
   clear HP1 HP z11 e0 HD
   generalize gfE nm p (d.exs.take d.exs.length) d=D at *
   generalize d.exs=E at *
   go_wp2_with (at_builtin;refine wpList_append_lies _ (by rfl) _ _ _ (by rfl) B 9 i0 _ 1 16 Tryz.underlying48 hi0 hz0 hz1 hz2 rfl (by omega) _ E.length (stV E) (by rfl) (z10.alloc _) ⟨wr.heap.size,0,none⟩ 1 1 [.string nm] (by rfl) (by rfl) (World.news_of_block (cs:=#[.string nm]) (t:=9) (fr:=(0,0)) (hnew _ rfl)) (by simp [Value.oneCell']) (by omega) (by unfold maxLen;omega) (by omega) (by simp;omega) _ rfl ?_;intro gg cap W3 r1 r2 r3 r4;obtain ⟨⟨y1,y2⟩,V',k1,k2⟩:=HP2.out _ W3 gg cap (bel_a _ _) r1 r2 r3)
   go_end0
   exact ⟨rfl,V',by rw [HR.out];exact k1,k2⟩
def BLs : List ByteArray:=[⟨#[112,97,114,115,101]⟩,⟨#[112,114,105,110,116]⟩,⟨#[112,117,115,104]⟩,⟨#[114,101,97,100]⟩,⟨#[116,101,120,116]⟩]
def PLs : List ByteArray:=[⟨#[110,117,109,98,101,114]⟩,⟨#[115,116,114,105,110,103]⟩,⟨#[98,111,111,108,101,97,110]⟩,⟨#[110,117,108,108]⟩,⟨#[117,110,100,101,102,105,110,101,100]⟩,⟨#[97,110,121]⟩]
theorem eq_sym (a b : List UInt8) : (a == b)=(b == a):=Bool.eq_iff_iff.2 ⟨fun w=>by simpa using (by simpa using w : a=b).symm,fun w=>by simpa using (by simpa using w : b=a).symm⟩
theorem blt_any (nm : ByteArray) : bltB nm=BLs.any fun c=>eqT c nm:=by
 unfold bltB BLs eqT
 simp only [List.any_cons,List.any_nil,ByteArray.toList_eq]
 rw [eq_sym nm.data.toList,eq_sym nm.data.toList,eq_sym nm.data.toList,eq_sym nm.data.toList,eq_sym nm.data.toList]
theorem pln_any (nm : ByteArray) : plnB nm=PLs.any fun c=>eqT c nm:=by
 unfold plnB PLs eqT
 simp only [List.any_cons,List.any_nil,ByteArray.toList_eq]
 rw [eq_sym nm.data.toList,eq_sym nm.data.toList,eq_sym nm.data.toList,eq_sym nm.data.toList,eq_sym nm.data.toList,eq_sym nm.data.toList]
theorem st_cell {w : World} {b : Nat} {L : List ByteArray} {t : TypeId} (h : w.heap[b]?=some (.cells (stV L).toArray t (0,0))) {k : Nat} (hk : k < L.length) : w.cell? ⟨b,k,none⟩=some (.string L[k]):=by
 simp [World.cell?,h,stV,hk]
theorem rbuiltins_any (W : World) : Calls Tryz.prog 103 #[] W fun e W'=>e = .returned (.slice (some ⟨W.heap.size,0,none⟩) 5 5)∧Below W.heap.size W W'∧W'.heap[W.heap.size]?=some (.cells (stV BLs).toArray 9 (0,0)):=by
 go_enter Tryz.func103,Tryz.ntmps103
 go_wp2
 go_ret
 exact ⟨rfl,bel_a _ _,hnew _ rfl⟩
theorem plain_any (W : World) (nm : ByteArray) : Calls Tryz.prog 81 #[.string nm] W fun e W'=>e = .returned (.bool (plnB nm))∧Below W.heap.size W W':=by
 have HR0 : Hid (plnB nm=PLs.any fun c=>eqT c nm):=pln_any nm
 generalize plnB nm=res at *
 obtain ⟨W1,hW1⟩ : ∃ X,W.alloc (Obj.cells (stV PLs).toArray 9)=X:=⟨_,rfl⟩
 have b1 : Below W.heap.size W W1:=by rw [← hW1];exact bel_a _ _
 have m1 : W1.heap[W.heap.size]?=some (.cells (stV PLs).toArray 9 (0,0)):=by rw [← hW1];exact hnew _ rfl
 have HC : Hid (∀ k (hk : k < 6),W1.cell? ⟨W.heap.size,k,none⟩=some (.string (PLs[k]'hk))):=fun k hk=>st_cell m1 hk
 clear m1
 unfold stV PLs at hW1
 simp only [List.map_cons,List.map_nil] at hW1
 go_enter Tryz.func81,Tryz.ntmps81
 go_wp2
 clear hW1
 go_loopw [4] (fun v4 wr=>∃ k : Nat,v4 = .int .i64 (k : Nat)∧k ≤ 6∧wr=W1∧Hid (∀ j (hj : j < 6),j < k→eqT (PLs[j]'hj) nm=false)) (fun v4 _=>6 - (intOf v4).toNat)
 case atStart=>exact ⟨0,rfl,by omega,rfl,fun i hi h=>by omega⟩
 case round =>
  obtain ⟨k,rfl,hk,hW,HK⟩:=hrel
  obtain rfl:=hW.symm
  by_cases hkl : k < 6
  ·have ck:=HC.out k hkl
   have hd : (k : Int) < 6:=by omega
   have HN : Hid (eqT (PLs[k]'hkl) nm=false→∀ j (hj : j < 6),j < k+1→eqT (PLs[j]'hj) nm=false):=fun h i hi hik=>by
    by_cases e : i=k
    ·subst e;exact h
    ·exact HK.out i hi (by omega)
   have HI : Hid (eqT (PLs[k]'hkl) nm=true→res=true):=fun h=>by
    rw [HR0.out,List.any_eq_true]
    exact ⟨_,List.getElem_mem (l:=PLs) hkl,h⟩
   unfold eqT at HN HI
   generalize PLs[k]'hkl=z at *
   cases q : (z.toList == nm.toList) with
   | true =>
    have HR:=HI.out q
    have HR' : Hid _:=HR
    clear HN HI HR
    go_wp2
    go_ret
    exact ⟨by rw [HR'.out];rfl,b1⟩
   | false =>
    have HR:=HN.out q
    have HR' : Hid (∀ j (hj : j < 6),j < k+1→eqT (PLs[j]'hj) nm=false):=HR
    clear HN HI HR
    go_wp2
    go_roundw
    case rel=>exact ⟨k+1,by simp,by omega,by trivial,HR'⟩
    case measure=>simp [intOf];omega
  ·obtain rfl : k=6:=by omega
   have HR : Hid (res=false):=by
    show _=_
    rw [HR0.out,List.any_eq_false]
    intro x hx
    obtain ⟨j,hj,rfl⟩:=List.mem_iff_getElem.1 hx
    have:=HK.out j hj hj
    simpa using this
   go_wp2
   go_ret
   exact ⟨by rw [HR.out];rfl,b1⟩
theorem Wv.lt {wb B : Nat} {W : World} {d : Dw} {V : Vs} (h : Wv wb B W d V) {k : Nat} (q : OwnW wb V k) : k < W.heap.size:=by
 rcases q with q | q | q | q | q
 ·rw [q];exact (gl h.r)
 ·exact (rw_lt h.t k q).2
 ·exact (rw_lt h.u k q).2
 ·exact (rw_lt h.l k q).2
 ·exact (rw_lt h.x k q).2
theorem Wv.keptN {wb B : Nat} {W0 W W' : World} {d : Dw} {V V' : Vs} (h0 : Wv wb B W0 d V) (q : Kw wb V W V' W') {k : Nat} (hk : W0.heap.size ≤ k) {o : Obj} (hb : W.heap[k]?=some o) : W'.heap[k]?=some o :=
 (q.k.block k (gl hb) (fun w=>absurd (h0.lt w) (by omega))).trans hb
theorem Wv.kbU {wb B : Nat} {W W1 W3 : World} {d : Dw} {V : Vs} (h : Wv wb B W d V) (b : Below W.heap.size W W1) (r2 : W1.grownBy W3 V.u.ownBlock) {k : Nat} {cs : Array Value} {t : TypeId} {fr : Nat × Nat} (hk : W.heap[k]?=some (.cells cs t fr)) (ht : t ≠ 37) : W3.heap[k]?=W.heap[k]?:=by
 have hl:=(gl hk)
 refine (r2.block k (Nat.lt_of_lt_of_le hl b.size) (fun e=>?_)).trans (b.block k hl)
 obtain ⟨cur,hb⟩:=own_cells h.u e.symm
 rw [hb] at hk;injection hk with hk;injection hk with _ hk;exact ht hk.symm
theorem Wv.addU {wb B : Nat} {W W1 W3 : World} {d : Dw} {V : Vs} {a : Option Addr} {c gg cap : Nat} (h : Wv wb B W d V) (hv : V.u = .slice a d.uses.length c) (y : Us) (b : Below W.heap.size W W1) (r1 : W3.ownsRow B 37 5 (.slice (some ⟨gg,0,none⟩) (d.uses.length+1) cap) (d.uses.length+1) (usV d.uses ++ y.cs)) (r2 : W1.grownBy W3 (Value.slice a d.uses.length c).ownBlock) (r3 : (Value.slice a d.uses.length c).ownBlock=some gg ∨ gg=W1.heap.size) :
 (W3.frozen? ⟨wb,1,none⟩=false∧W3.heap[wb]?=W.heap[wb]?)∧(∀ {k : Nat} {cs : Array Value} {t : TypeId} {fr : Nat × Nat},W.heap[k]?=some (.cells cs t fr)→t ≠ 37→W3.heap[k]?=W.heap[k]?) ∧
  Wv wb B (W3.setCell ⟨wb,1,none⟩ (.slice (some ⟨gg,0,none⟩) (d.uses.length+1) cap)) { d with uses:=d.uses ++ [y] } { V with u:=(.slice (some ⟨gg,0,none⟩) (d.uses.length+1) cap) }∧Kw wb V W { V with u:=(.slice (some ⟨gg,0,none⟩) (d.uses.length+1) cap) } (W3.setCell ⟨wb,1,none⟩ (.slice (some ⟨gg,0,none⟩) (d.uses.length+1) cap)):=by
 rw [← hv] at r2 r3
 obtain ⟨k1,k2,k3⟩:=h.push_u b y r1 r2 r3
 exact ⟨⟨(box8 (k3.trans h.r)).2 1,k3⟩,fun hk ht=>h.kbU b r2 hk ht,k1,k2⟩
set_option maxHeartbeats 16000000
def WvB (wb B : Nat) (V : Vs) (W : World) (d : Dw) (b : Bool) (r : Ending) (W' : World) : Prop:=r = .returned (.bool b)∧∃ V',Wv wb B W' d V'∧Kw wb V W V' W'
def SF (wb tb : Nat) (a : Option Addr) (n c : Nat) (ta : Int) (X : World) : Prop:=X.cell? ⟨wb,1,none⟩=some (.slice a n c)∧X.cell? ⟨tb,2,none⟩=some (.int .i64 ta)
theorem useTop_end {wb B tb : Nat} {W : World} {d : Dw} {V : Vs} {a : Option Addr} {c : Nat} {tn : ByteArray} {tk ta ti : Int} {tc : Bool} (h : Wv wb B W d V) (hv : V.u = .slice a d.uses.length c) (hm : W.heap[tb]?=some (.cells #[.string tn,.int .i64 tk,.int .i64 ta,.int .i64 ti,.bool tc] 43 (0,0))) (y : Us) :
 (∀ X,Below W.heap.size W X→SF wb tb a d.uses.length c ta X)∧∀ (W1 W3 : World) (gg cap : Nat),Below W.heap.size W W1→W3.ownsRow B 37 5 (.slice (some ⟨gg,0,none⟩) (d.uses.length+1) cap) (d.uses.length+1) (usV d.uses ++ y.cs)→W1.grownBy W3 (Value.slice a d.uses.length c).ownBlock→((Value.slice a d.uses.length c).ownBlock=some gg ∨ gg=W1.heap.size) →
  (W3.frozen? ⟨wb,1,none⟩=false∧W3.cell? ⟨wb,1,none⟩=some (.slice a d.uses.length c))∧SF wb tb a d.uses.length c ta W3∧(W3.setCell ⟨wb,1,none⟩ (.slice (some ⟨gg,0,none⟩) (d.uses.length+1) cap)).cell? ⟨tb,4,none⟩=some (.bool tc)∧∃ V',Wv wb B (W3.setCell ⟨wb,1,none⟩ (.slice (some ⟨gg,0,none⟩) (d.uses.length+1) cap)) { d with uses:=d.uses ++ [y] } V'∧Kw wb V W V' (W3.setCell ⟨wb,1,none⟩ (.slice (some ⟨gg,0,none⟩) (d.uses.length+1) cap)):=by
 have ne : tb ≠ wb:=fun e=>by rw [e,h.r] at hm;injection hm with hm;injection hm with _ hm;exact absurd hm (by decide)
 constructor
 ·intro X b
  obtain ⟨⟨_,c1,_⟩,_⟩:=box8 (h.bel b).r
  have m:=(b.block _ (gl hm)).trans hm
  exact ⟨by rw [c1,hv],by simp [World.cell?,m]⟩
 ·intro W1 W3 gg cap b r1 r2 r3
  obtain ⟨⟨f1,e1⟩,kb,k1,k2⟩:=h.addU hv y b r1 r2 r3
  obtain ⟨⟨_,c1,_⟩,_⟩:=box8 (e1.trans h.r)
  have m:=(kb hm (by decide)).trans hm
  have m4:=(Below.heap_setCell W3 ⟨wb,1,none⟩ (.slice (some ⟨gg,0,none⟩) (d.uses.length+1) cap) tb ne).trans m
  rw [hv] at c1
  exact ⟨⟨f1,c1⟩,⟨c1,by simp [World.cell?,m]⟩,by simp [World.cell?,m4],_,k1,k2⟩
theorem useTop_some {wb B : Nat} {W : World} {d : Dw} {V : Vs} (h : Wv wb B W d V) (nm : ByteArray) (p : Int) (b : Bool) (hn : d.tops.length ≤ 8388608) (hu : d.uses.length ≤ 8388608) {t0 : Tp} (hs : topS d.tops nm=some t0) :
 Calls Tryz.prog 85 #[.pointer (some ⟨wb,0,none⟩),.string nm,.int .i64 p,.bool b] W (WvB wb B V W (d.useTop nm p b).1 (d.useTop nm p b).2):=by
 obtain ⟨i0,hi0,hz0,hz1,hz2⟩:=info_parts info_us
 have CT:=wtop_any h nm hn
 obtain ⟨a,c,hv⟩:=rw_form h.u
 obtain ⟨⟨c0,c1,_⟩,_⟩:=box8 h.r
 have HT : Hid (∀ k (hk : k < d.tops.length),∃ g cc,V.t = .slice (some ⟨g,0,none⟩) d.tops.length cc∧W.cell? ⟨g,k * 5,none⟩=some (.string d.tops[k].nm)∧W.cell? ⟨g,k * 5+1,none⟩=some (.int .i64 d.tops[k].kd)∧W.cell? ⟨g,k * 5+2,none⟩=some (.int .i64 d.tops[k].at_)∧W.cell? ⟨g,k * 5+3,none⟩=some (.int .i64 d.tops[k].it)∧W.cell? ⟨g,k * 5+4,none⟩=some (.bool d.tops[k].cn)):=fun k hk=>tp_at h.t hk
 have HV : Hid (Wv wb B W d V):=h
 have HU : Hid (V.u = .slice a d.uses.length c):=hv
 rw [hv] at c1
 clear h hv
 go_enter Tryz.func85,Tryz.ntmps85
 go_wp2_with fail
 go_at_call 78
 refine CT.mono ?_
 rintro e W1 ⟨hW,i,rfl,hi⟩
 obtain rfl:=hW.symm
 clear CT
 rcases hi with ⟨h1,rfl⟩ | ⟨k,hk,rfl,h1⟩
 ·rw [hs] at h1;cases h1
 have h2:=hs.symm.trans h1
 injection h2 with h2
 obtain ⟨g,cc,ev,v0,v1,v2,v3,v4⟩:=HT.out k hk
 rw [ev] at c0
 rw [← h2] at v0 v1 v2 v3 v4
 clear HT h1 h2 ev
 obtain ⟨tn,tk,ta,ti,tc⟩:=t0
 have v0 : W.cell? ⟨g,k * 5,none⟩=some (.string tn):=v0
 have v1 : W.cell? ⟨g,k * 5+1,none⟩=some (.int .i64 tk):=v1
 have v2 : W.cell? ⟨g,k * 5+2,none⟩=some (.int .i64 ta):=v2
 have v3 : W.cell? ⟨g,k * 5+3,none⟩=some (.int .i64 ti):=v3
 have v4 : W.cell? ⟨g,k * 5+4,none⟩=some (.bool tc):=v4
 have HR : Hid (d.useTop nm p b=({ (if b=true∧tk=46 then d.fail p 91 else d) with uses:=(if b=true∧tk=46 then d.fail p 91 else d).uses ++ [⟨p,if tk=61 then 4 else 3,ta,nm,false⟩] },!tc)):=by
  show _=_
  unfold Dw.useTop
  rw [hs]
 clear hs
 have hd : (k : Int) < (d.tops.length : Int):=by omega
 obtain ⟨W1,hW1⟩ : ∃ X,W.alloc (Obj.cells #[.string tn,.int .i64 tk,.int .i64 ta,.int .i64 ti,.bool tc] 43)=X:=⟨_,rfl⟩
 have b1 : Below W.heap.size W W1:=by rw [← hW1];exact bel_a _ _
 have m1 : W1.heap[W.heap.size]?=some (.cells #[.string tn,.int .i64 tk,.int .i64 ta,.int .i64 ti,.bool tc] 43 (0,0)):=by rw [← hW1];exact hnew _ rfl
 have t1 : W1.cell? ⟨W.heap.size,1,none⟩=some (.int .i64 tk):=by simp [World.cell?,m1]
 have H1 : Hid (Wv wb B W1 d V):=HV.out.bel b1
 have K1 : Hid (Kw wb V W V W1):=Kw.of b1
 have M1 : Hid _:=m1
 clear m1 b1
 have bB:=HV.out.b
 cases hb : (b && (tk == 46)) with
 | true =>
  obtain ⟨rfl,e46⟩ : b=true∧(tk == 46)=true:=by simpa using hb
  have e61 : (tk == 61) = false:=by have : tk = 46:=by simpa using e46
                                    rw [this];decide
  have HR1 : Hid (d.useTop nm p true=({ (d.fail p 91) with uses:=(d.fail p 91).uses ++ [⟨p,3,ta,nm,false⟩] },!tc)):=by
   show _=_
   rw [HR.out,if_pos ⟨rfl,by simpa using e46⟩,if_neg (by simpa using e61)]
  clear HR
  have CF:=wfail_any H1.out p 91
  go_wp2_with fail
  go_at_call 79
  refine CF.mono ?_
  rintro e W2 ⟨rfl,q1,q2⟩
  have m2 : W2.heap[W.heap.size]?=_:=HV.out.keptN q2 (Nat.le_refl _) M1.out
  have H2 : Hid _:=q1
  have K2 : Hid (Kw wb V W V W2):=K1.out.trans q2
  have M2 : Hid _:=m2
  have hU2 : V.u = .slice a (d.fail p 91).uses.length c:=by rw [fail_us];exact HU.out
  have bb2:=q1.b
  clear CF q1 q2 m2 hW1 H1 K1 M1 t1 c0 c1 v0 v1 v2 v3 v4
  obtain ⟨SE,AE⟩:=useTop_end H2.out hU2 M2.out ⟨p,3,ta,nm,false⟩
  have hu2 : (d.fail p 91).uses.length ≤ 8388608:=by rw [fail_us];exact hu
  generalize hDD : d.fail p 91=D at *
  have HS : Hid (∀ X,Below (World.drew W2).heap.size (World.drew W2) X→X.cell? ⟨wb,1,none⟩=some (.slice a D.uses.length c)∧X.cell? ⟨W.heap.size,2,none⟩=some (.int .i64 ta)):=fun X q=>SE X ((Below.refl _ _).drew.trans q)
  have su0:=HS.out _ (Below.refl _ _)
  have own2:=(H2.out.bel (Below.refl _ _).drew).u
  rw [show V.u=Value.slice a D.uses.length c from hU2] at own2
  have HA : Hid (∀ (Y W3 : World) (gg cap : Nat),Below (World.drew W2).heap.size (World.drew W2) Y→W3.ownsRow B 37 5 (.slice (some ⟨gg,0,none⟩) (D.uses.length+1) cap) (D.uses.length+1) (usV D.uses ++ [.int .i64 p,.int .i64 3,.int .i64 ta,.string nm,.bool false])→Y.grownBy W3 (Value.slice a D.uses.length c).ownBlock→((Value.slice a D.uses.length c).ownBlock=some gg ∨ gg=Y.heap.size)→_):=fun Y W3 gg cap q=>AE Y W3 gg cap ((Below.refl _ _).drew.trans q)
  clear SE AE
  go_wp2_with fail
  have su : (fun X : World=>X.cell? ⟨wb,1,none⟩=some (.slice a D.uses.length c)∧X.cell? ⟨W.heap.size,2,none⟩=some (.int .i64 ta)) (World.drew W2):=su0
  refine wp_region_U (u:=13) (S:=fun X=>X.cell? ⟨wb,1,none⟩=some (.slice a D.uses.length c)∧X.cell? ⟨W.heap.size,2,none⟩=some (.int .i64 ta)) (by kernel_rfl) ?_
  change wpAnyU _ _ _ _ _ _ _ _ _ (World.drew _)
  refine uT 0 (.pointer (some ⟨wb,0,none⟩)) su ?_
  refine uT 1 (.pointer (some ⟨wb,0,none⟩)) su ?_
  refine uT 2 (.pointer (some ⟨wb,0,none⟩)) su ?_
  refine uT 3 (.pointer (some ⟨wb,1,none⟩)) su ?_
  refine uT 4 (.slice a D.uses.length c) su ?_
  refine uT 5 (.int .i64 p) su ?_
  refine uT 6 (.int .i64 3) su ?_
  refine uT 7 (.pointer (some ⟨W.heap.size,2,none⟩)) su ?_
  refine uT 8 (.int .i64 ta) su ?_
  refine uT 9 (.string nm) su ?_
  refine uT 10 (.agg #[.int .i64 p,.int .i64 3,.int .i64 ta,.string nm,.bool false]) su ?_
  refine U_ready (rs:=[11]) (by kernel_rfl) (by simp) ?_
  refine AllU.cons rfl (by decide) (fun K hK=>?_) AllU.nil
  go_simp
  refine hK.out _ _ (HS.out _ (bel_a _ _)) ?_
  clear hK K
  refine U_ready (rs:=[12]) (by kernel_rfl) (by simp) ?_
  refine AllU.cons rfl (by decide) (fun K hK=>?_) AllU.nil
  refine step_append_lies _ (by rfl) _ _ _ (by rfl) B 37 i0 _ 5 48 Tryz.underlying26 hi0 hz0 hz1 hz2 rfl (by omega) _ D.uses.length (usV D.uses) (by rfl) (own2.alloc _) ⟨(World.drew W2).heap.size,0,none⟩ 1 1 [.int .i64 p,.int .i64 3,.int .i64 ta,.string nm,.bool false] (by rfl) (by rfl) (World.news_of_block (cs:=#[.int .i64 p,.int .i64 3,.int .i64 ta,.string nm,.bool false]) (t:=37) (fr:=(0,0)) (hnew _ (by simp))) (by simp [Value.oneCell']) (by omega) (by unfold maxLen;omega) (by omega) (by simp;omega) ((World.drew W2).heap.size+1) (by simp) ?_
  intro gg cap W6 hown6 hgrow hat hlt6
  obtain ⟨⟨w1,w2⟩,w3,hfin⟩:=HA.out _ W6 gg cap (bel_a _ _) hown6 hgrow (by simpa using hat)
  refine hK.out _ _ w3 ?_
  clear hK K
  refine U_end (by kernel_rfl) ?_
  refine wpAny_chain [_,_,_] [13,14,15] _ _ _ _ (by kernel_rfl) rfl (by decide) ?_
  have HFN : Hid _:=hfin
  clear HA HS own2 su su0 hown6 hgrow hat hlt6 w3
  obtain ⟨x4,_⟩:=HFN.out
  go_wp2
  go_ret
  obtain ⟨_,V',k1,k2⟩:=HFN.out
  exact ⟨by rw [HR1.out];rfl,V',by rw [HR1.out];exact k1,K2.out.trans k2⟩
 | false =>
  have hb2 : ¬ (b=true∧tk=46):=fun w=>by simp [w.1,w.2] at hb
  have hb3 : b=true→(tk == 46)=false:=fun w=>by rw [w] at hb;simpa using hb
  clear hb
  cases e61 : (tk == 61) with
  | true =>
   have HR1 : Hid (d.useTop nm p b=({ d with uses:=d.uses ++ [⟨p,4,ta,nm,false⟩] },!tc)):=by
    show _=_
    rw [HR.out,if_neg hb2,if_pos (by simpa using e61)]
   clear HR hb2
   cases b
   rotate_left
   have e46:=hb3 rfl
   all_goals
    clear hb3
    obtain ⟨SE,AE⟩:=useTop_end H1.out HU.out M1.out ⟨p,4,ta,nm,false⟩
    have bb2:=H1.out.b
    have HS : Hid (∀ X,Below (World.drew W1).heap.size (World.drew W1) X→X.cell? ⟨wb,1,none⟩=some (.slice a d.uses.length c)∧X.cell? ⟨W.heap.size,2,none⟩=some (.int .i64 ta)):=fun X q=>SE X ((Below.refl _ _).drew.trans q)
    have su0:=HS.out _ (Below.refl _ _)
    have own2:=(H1.out.bel (Below.refl _ _).drew).u
    rw [show V.u=Value.slice a d.uses.length c from HU.out] at own2
    have HA : Hid (∀ (Y W3 : World) (gg cap : Nat),Below (World.drew W1).heap.size (World.drew W1) Y→W3.ownsRow B 37 5 (.slice (some ⟨gg,0,none⟩) (d.uses.length+1) cap) (d.uses.length+1) (usV d.uses ++ [.int .i64 p,.int .i64 4,.int .i64 ta,.string nm,.bool false])→Y.grownBy W3 (Value.slice a d.uses.length c).ownBlock→((Value.slice a d.uses.length c).ownBlock=some gg ∨ gg=Y.heap.size)→_):=fun Y W3 gg cap q=>AE Y W3 gg cap ((Below.refl _ _).drew.trans q)
    clear SE AE
    go_wp2_with fail
    have su : (fun X : World=>X.cell? ⟨wb,1,none⟩=some (.slice a d.uses.length c)∧X.cell? ⟨W.heap.size,2,none⟩=some (.int .i64 ta)) (World.drew W1):=su0
    refine wp_region_U (u:=13) (S:=fun X=>X.cell? ⟨wb,1,none⟩=some (.slice a d.uses.length c)∧X.cell? ⟨W.heap.size,2,none⟩=some (.int .i64 ta)) (by kernel_rfl) ?_
    change wpAnyU _ _ _ _ _ _ _ _ _ (World.drew _)
    refine uT 0 (.pointer (some ⟨wb,0,none⟩)) su ?_
    refine uT 1 (.pointer (some ⟨wb,0,none⟩)) su ?_
    refine uT 2 (.pointer (some ⟨wb,0,none⟩)) su ?_
    refine uT 3 (.pointer (some ⟨wb,1,none⟩)) su ?_
    refine uT 4 (.slice a d.uses.length c) su ?_
    refine uT 5 (.int .i64 p) su ?_
    refine uT 6 (.int .i64 4) su ?_
    refine uT 7 (.pointer (some ⟨W.heap.size,2,none⟩)) su ?_
    refine uT 8 (.int .i64 ta) su ?_
    refine uT 9 (.string nm) su ?_
    refine uT 10 (.agg #[.int .i64 p,.int .i64 4,.int .i64 ta,.string nm,.bool false]) su ?_
    refine U_ready (rs:=[11]) (by kernel_rfl) (by simp) ?_
    refine AllU.cons rfl (by decide) (fun K hK=>?_) AllU.nil
    go_simp
    refine hK.out _ _ (HS.out _ (bel_a _ _)) ?_
    clear hK K
    refine U_ready (rs:=[12]) (by kernel_rfl) (by simp) ?_
    refine AllU.cons rfl (by decide) (fun K hK=>?_) AllU.nil
    refine step_append_lies _ (by rfl) _ _ _ (by rfl) B 37 i0 _ 5 48 Tryz.underlying26 hi0 hz0 hz1 hz2 rfl (by omega) _ d.uses.length (usV d.uses) (by rfl) (own2.alloc _) ⟨(World.drew W1).heap.size,0,none⟩ 1 1 [.int .i64 p,.int .i64 4,.int .i64 ta,.string nm,.bool false] (by rfl) (by rfl) (World.news_of_block (cs:=#[.int .i64 p,.int .i64 4,.int .i64 ta,.string nm,.bool false]) (t:=37) (fr:=(0,0)) (hnew _ (by simp))) (by simp [Value.oneCell']) (by omega) (by unfold maxLen;omega) (by omega) (by simp;omega) ((World.drew W1).heap.size+1) (by simp) ?_
    intro gg cap W6 hown6 hgrow hat hlt6
    obtain ⟨⟨w1,w2⟩,w3,hfin⟩:=HA.out _ W6 gg cap (bel_a _ _) hown6 hgrow (by simpa using hat)
    refine hK.out _ _ w3 ?_
    clear hK K
    refine U_end (by kernel_rfl) ?_
    refine wpAny_chain [_,_,_] [13,14,15] _ _ _ _ (by kernel_rfl) rfl (by decide) ?_
    have HFN : Hid _:=hfin
    clear HA HS own2 su su0 hown6 hgrow hat hlt6 w3
    obtain ⟨x4,_⟩:=HFN.out
    go_wp2
    go_ret
    obtain ⟨_,V',k1,k2⟩:=HFN.out
    exact ⟨by rw [HR1.out];rfl,V',by rw [HR1.out];exact k1,K1.out.trans k2⟩
  | false =>
   have HR1 : Hid (d.useTop nm p b=({ d with uses:=d.uses ++ [⟨p,3,ta,nm,false⟩] },!tc)):=by
    show _=_
    rw [HR.out,if_neg hb2,if_neg (by simpa using e61)]
   clear HR hb2
   cases b
   rotate_left
   have e46:=hb3 rfl
   all_goals
    clear hb3
    obtain ⟨SE,AE⟩:=useTop_end H1.out HU.out M1.out ⟨p,3,ta,nm,false⟩
    have bb2:=H1.out.b
    have HS : Hid (∀ X,Below (World.drew W1).heap.size (World.drew W1) X→X.cell? ⟨wb,1,none⟩=some (.slice a d.uses.length c)∧X.cell? ⟨W.heap.size,2,none⟩=some (.int .i64 ta)):=fun X q=>SE X ((Below.refl _ _).drew.trans q)
    have su0:=HS.out _ (Below.refl _ _)
    have own2:=(H1.out.bel (Below.refl _ _).drew).u
    rw [show V.u=Value.slice a d.uses.length c from HU.out] at own2
    have HA : Hid (∀ (Y W3 : World) (gg cap : Nat),Below (World.drew W1).heap.size (World.drew W1) Y→W3.ownsRow B 37 5 (.slice (some ⟨gg,0,none⟩) (d.uses.length+1) cap) (d.uses.length+1) (usV d.uses ++ [.int .i64 p,.int .i64 3,.int .i64 ta,.string nm,.bool false])→Y.grownBy W3 (Value.slice a d.uses.length c).ownBlock→((Value.slice a d.uses.length c).ownBlock=some gg ∨ gg=Y.heap.size)→_):=fun Y W3 gg cap q=>AE Y W3 gg cap ((Below.refl _ _).drew.trans q)
    clear SE AE
    go_wp2_with fail
    have su : (fun X : World=>X.cell? ⟨wb,1,none⟩=some (.slice a d.uses.length c)∧X.cell? ⟨W.heap.size,2,none⟩=some (.int .i64 ta)) (World.drew W1):=su0
    refine wp_region_U (u:=13) (S:=fun X=>X.cell? ⟨wb,1,none⟩=some (.slice a d.uses.length c)∧X.cell? ⟨W.heap.size,2,none⟩=some (.int .i64 ta)) (by kernel_rfl) ?_
    change wpAnyU _ _ _ _ _ _ _ _ _ (World.drew _)
    refine uT 0 (.pointer (some ⟨wb,0,none⟩)) su ?_
    refine uT 1 (.pointer (some ⟨wb,0,none⟩)) su ?_
    refine uT 2 (.pointer (some ⟨wb,0,none⟩)) su ?_
    refine uT 3 (.pointer (some ⟨wb,1,none⟩)) su ?_
    refine uT 4 (.slice a d.uses.length c) su ?_
    refine uT 5 (.int .i64 p) su ?_
    refine uT 6 (.int .i64 3) su ?_
    refine uT 7 (.pointer (some ⟨W.heap.size,2,none⟩)) su ?_
    refine uT 8 (.int .i64 ta) su ?_
    refine uT 9 (.string nm) su ?_
    refine uT 10 (.agg #[.int .i64 p,.int .i64 3,.int .i64 ta,.string nm,.bool false]) su ?_
    refine U_ready (rs:=[11]) (by kernel_rfl) (by simp) ?_
    refine AllU.cons rfl (by decide) (fun K hK=>?_) AllU.nil
    go_simp
    refine hK.out _ _ (HS.out _ (bel_a _ _)) ?_
    clear hK K
    refine U_ready (rs:=[12]) (by kernel_rfl) (by simp) ?_
    refine AllU.cons rfl (by decide) (fun K hK=>?_) AllU.nil
    refine step_append_lies _ (by rfl) _ _ _ (by rfl) B 37 i0 _ 5 48 Tryz.underlying26 hi0 hz0 hz1 hz2 rfl (by omega) _ d.uses.length (usV d.uses) (by rfl) (own2.alloc _) ⟨(World.drew W1).heap.size,0,none⟩ 1 1 [.int .i64 p,.int .i64 3,.int .i64 ta,.string nm,.bool false] (by rfl) (by rfl) (World.news_of_block (cs:=#[.int .i64 p,.int .i64 3,.int .i64 ta,.string nm,.bool false]) (t:=37) (fr:=(0,0)) (hnew _ (by simp))) (by simp [Value.oneCell']) (by omega) (by unfold maxLen;omega) (by omega) (by simp;omega) ((World.drew W1).heap.size+1) (by simp) ?_
    intro gg cap W6 hown6 hgrow hat hlt6
    obtain ⟨⟨w1,w2⟩,w3,hfin⟩:=HA.out _ W6 gg cap (bel_a _ _) hown6 hgrow (by simpa using hat)
    refine hK.out _ _ w3 ?_
    clear hK K
    refine U_end (by kernel_rfl) ?_
    refine wpAny_chain [_,_,_] [13,14,15] _ _ _ _ (by kernel_rfl) rfl (by decide) ?_
    have HFN : Hid _:=hfin
    clear HA HS own2 su su0 hown6 hgrow hat hlt6 w3
    obtain ⟨x4,_⟩:=HFN.out
    go_wp2
    go_ret
    obtain ⟨_,V',k1,k2⟩:=HFN.out
    exact ⟨by rw [HR1.out];rfl,V',by rw [HR1.out];exact k1,K1.out.trans k2⟩
end Go.Proofs.YtfcocoadaajbjaaGreatDoor
