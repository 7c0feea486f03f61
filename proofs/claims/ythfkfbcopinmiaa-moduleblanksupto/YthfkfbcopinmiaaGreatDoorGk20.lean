/- Own text. Package parse: unions among the types that are read (of the model;no program is named here). Package parse: the rules,one by one: types and unions of types. Package parse: the rules,one by one: types of objects. Package parse: the rules,one by one: all together. -/
import Derived.Test.YthfkfbcopinmiaaGreatDoorGk05
import Derived.Test.YthfkfbcopinmiaaGreatDoorGk18
import Derived.Test.YthfkfbcopinmiaaGreatDoorGk12
import Derived.Test.YthfkfbcopinmiaaGreatDoorGk13
import Derived.Test.YthfkfbcopinmiaaGreatDoorGk14
import Derived.Test.YthfkfbcopinmiaaGreatDoorGk15
import Derived.Test.YthfkfbcopinmiaaGreatDoorGk16
import Derived.Test.YthfkfbcopinmiaaGreatDoorGk17
import Derived.Test.YthfkfbcopinmiaaGreatDoorGk19
set_option linter.unusedVariables false
set_option linter.unusedSimpArgs false
namespace Go.Proofs.YthfkfbcopinmiaaGreatDoor
open Go.RowKit
def Un (a : Nat) (r : Rs Nd) : Prop:=∀ x b,r = .ok x b→x.k=32→2 ≤ x.ks.length∧x.ks.length+a ≤ b
theorem unionG_len {L : List Tok} {E : Nat→Rs Nd} (hE : ∀ a,Ge (a+1) (E a)) (hU : ∀ a,Un a (E a)) : ∀ (n : Nat) (acc : List Nd) (a : Nat) (l : List Nd) (b : Nat),unionG L E n acc a = .ok l b→l.length+a ≤ acc.length+b∧acc.length+1 ≤ l.length
 | 0,_,_,_,_,h=>by rw [unionG] at h;cases h
 | n+1,acc,a,l,b,h=>by
  rw [unionG] at h
  cases hx : E a with
  | bad p e=>rw [hx] at h;cases h
  | ok x a1 =>
   rw [hx,Rs.bind_ok] at h
   have h1:=hE a _ _ hx
   have h2 : 1 ≤ (if x.k=32 then x.ks else [x]).length∧(if x.k=32 then x.ks else [x]).length+a ≤ a1:=by
    split
    ·rename_i hk;have:=hU a _ _ hx hk;omega
    ·simp;omega
   split at h
   ·have:=unionG_len hE hU n _ _ _ _ h
    simp only [List.length_append] at this
    omega
   ·cases h
    simp only [List.length_append]
    omega
theorem Un.bad (a p : Nat) (e : Int) : Un a (.bad p e):=fun x b h=>by cases h
theorem Un.other {a b : Nat} {x : Nd} (h : x.k ≠ 32) : Un a (.ok x b):=fun y c e hk=>by cases e;exact absurd hk h
theorem arrayG_un {L : List Tok} {a0 : Nat} : ∀ (n : Nat) (nd : Nd) (a : Nat),(nd.k=32→2 ≤ nd.ks.length∧nd.ks.length+a0 ≤ a)→Un a0 (arrayG L n nd a)
 | 0,_,_,_=>by rw [arrayG];exact Un.bad _ _ _
 | n+1,nd,a,h=>by
  rw [arrayG]
  split
  ·cases hw : wantR L sBc (a+1) with
   | bad p e=>exact Un.bad _ _ _
   | ok u a2=>exact arrayG_un n _ _ (fun hk=>by cases hk)
  ·intro x b e hk
   cases e
   exact h hk
theorem objt_k {L : List Tok} {f a o b : Nat} {x : Nd} (h : objtF L f a o = .ok x b) : x.k=33:=by
 cases f with
 | zero=>rw [objtF] at h;cases h
 | succ f =>
  rw [objtF] at h
  cases hl : fieldsG L (fun a'=>typingF L f a' o) (L.length+1 - a) [] [] a with
  | bad p e=>rw [hl] at h;cases h
  | ok l a1=>rw [hl] at h;cases h;rfl
theorem ftype_k {L : List Tok} {f a o b : Nat} {x : Nd} (h : ftypeF L f a o = .ok x b) : x.k=35:=by
 cases f with
 | zero=>rw [ftypeF] at h;cases h
 | succ f =>
  rw [ftypeF] at h
  cases h1 : paramsG L (fun a'=>typingF L f a' o) a with
  | bad p e=>rw [h1] at h;cases h
  | ok p a1 =>
   rw [h1,Rs.bind_ok] at h
   cases h2 : wantR L sAr a1 with
   | bad p e=>rw [h2] at h;cases h
   | ok u a2 =>
    rw [h2,Rs.bind_ok] at h
    cases h3 : typeF L f a2 o with
    | bad p e=>rw [h3] at h;cases h
    | ok y a3=>rw [h3] at h;cases h;rfl
theorem union_one {L : List Tok} {E : Nat→Rs Nd} (hE : ∀ a,Ge (a+1) (E a)) (hU : ∀ a,Un a (E a)) {n a b : Nat} {x : Nd} (h : unionG L E n [] a = .ok [x] b) : x.k=32→2 ≤ x.ks.length∧x.ks.length+a ≤ b:=by
 intro hk
 cases n with
 | zero=>rw [unionG] at h;cases h
 | succ n =>
  rw [unionG] at h
  cases hx : E a with
  | bad p e=>rw [hx] at h;cases h
  | ok y a1 =>
   rw [hx,Rs.bind_ok] at h
   have h1:=hE a _ _ hx
   split at h
   ·have h2:=unionG_len hE hU n _ _ _ _ h
    have h3 : 1 ≤ (if y.k=32 then y.ks else [y]).length:=by
     split
     ·rename_i hy;have:=hU a _ _ hx hy;omega
     ·simp
    simp only [List.length_append,List.length_nil,List.length_singleton] at h2
    omega
   ·simp only [Rs.ok.injEq,List.nil_append] at h
    obtain ⟨h4,rfl⟩:=h
    split at h4
    ·rename_i hy
     have:=hU a _ _ hx hy
     rw [h4] at this
     simp at this
    ·cases h4
     exact hU a _ _ hx hk
structure UnA (L : List Tok) (f : Nat) : Prop where
 type' : ∀ a o,Un a (typeF L f a o)
 ptype' : ∀ a o,Un a (ptypeF L f a o)
 rtype' : ∀ a o,Un a (rtypeF L f a o)
theorem un_all (L : List Tok) : ∀ f,UnA L f:=by
 intro f
 induction f with
 | zero=>constructor <;> (intros;intro x b h;simp [typeF,ptypeF,rtypeF] at h)
 | succ f ih =>
  have MN:=mono_all L f
  constructor
  ·intro a o
   rw [typeF]
   cases hb : beginR L a o with
   | bad p e=>exact Un.bad _ _ _
   | ok u a' =>
    rw [Rs.bind_ok]
    cases hl : unionG L (fun a'=>ptypeF L f a' (o+1)) (L.length+1 - a) [] a with
    | bad p e=>exact Un.bad _ _ _
    | ok l a1 =>
     rw [Rs.bind_ok]
     intro x b e hk
     cases e
     have h:=unionG_len (fun a=>MN.ptype' a (o+1)) (fun a=>ih.ptype' a (o+1)) _ _ _ _ _ hl
     simp only [List.length_nil] at h
     unfold oneOr at hk ⊢
     split
     ·rename_i y
      simp only [List.length_singleton] at h
      -- one type alone: it is one of the posts
      have:=union_one (fun a=>MN.ptype' a (o+1)) (fun a=>ih.ptype' a (o+1)) hl
      exact this hk
     ·rename_i hne
      show 2 ≤ l.length∧l.length+a ≤ a1
      have h2 : l.length ≠ 1:=fun e=>by
       obtain ⟨y,rfl⟩:=List.length_eq_one_iff.1 e
       exact hne y rfl
      omega
  ·intro a o
   rw [ptypeF]
   cases hr : rtypeF L f a o with
   | bad p e=>exact Un.bad _ _ _
   | ok n a1 =>
    rw [Rs.bind_ok]
    exact arrayG_un _ _ _ (fun hk=>ih.rtype' a o _ _ hr hk)
  ·intro a o
   rw [rtypeF]
   split
   ·exact Un.other (by show (30 : Int) ≠ 32;decide)
   ·split
    ·intro x b e hk
     have h33 : x.k=33:=objt_k e
     omega
    ·split
     ·split
      ·intro x b e hk
       have h35 : x.k=35:=ftype_k e
       omega
      ·cases hy : typeF L f (a+1) o with
       | bad p e=>exact Un.bad _ _ _
       | ok y a1 =>
        rw [Rs.bind_ok]
        cases hw : wantR L sPc a1 with
        | bad p e=>exact Un.bad _ _ _
        | ok u a2 =>
         rw [Rs.bind_ok]
         intro x b e hk
         cases e
         have h1:=ih.type' (a+1) o _ _ hy hk
         have h2:=want_ge L sPc a1 _ _ hw
         omega
     ·exact Un.bad _ _ _
set_option maxRecDepth 100000
set_option maxHeartbeats 8000000
theorem Grow.app {B k : Nat} {w W1 W3 : World} {v v' : Value} {L F : List (Nd × Value)} {ks : List Nd} (h : Grow B w v L k) (hB : B ≤ w.heap.size) (hs : w.heap.size ≤ W1.heap.size) (b : ∀ j,B ≤ j→j < w.heap.size→W1.heap[j]?=w.heap[j]?) (hF : F.map (·.1)=ks) (l1 : ∀ p ∈ F,LAt W1 (fun b=>w.heap.size ≤ b) p.2 p.1.ks)
 (hg : W1.grownBy W3 v.ownBlock) (hat : ∀ g,v'.ownBlock=some g→v.ownBlock=some g ∨ g=W1.heap.size) (hown : W3.ownsRow B 24 4 v' (k+ks.length) (rowN L ++ rowN F)) :
 Grow B W3 v' (L ++ F) (k+ks.length):=by
 have hs3:=hg.size
 have olt:=row_lt h.own
 have blk : ∀ j,B ≤ j→j < W1.heap.size→v.ownBlock ≠ some j→W3.heap[j]?=W1.heap[j]?:=fun j h1 h2 h3=>hg.block j h2 (fun e=>h3 e.symm)
 have key : ∀ j,v'.ownBlock=some j→∀ i,(B ≤ i∧i < W1.heap.size∧v.ownBlock ≠ some i)→i ≠ j:=fun j hj i hi e=>by
  subst e
  rcases hat i hj with e | e
  ·exact hi.2.2 e
  ·omega
 refine ⟨by rw [rowN_append];exact hown,fun q hq=>?_⟩
 rcases List.mem_append.1 hq with hq | hq
 ·have h1 : LAt w (fun b=>(B ≤ b∧v.ownBlock ≠ some b)∧b < w.heap.size) q.2 q.1.ks:=(h.kids q hq).mono' (fun j hj hS=>⟨hS,hj⟩)
  exact (h1.keep (by omega) (fun j hj hl=>(blk j hj.1.1 (by omega) hj.1.2).trans (b j hj.1.1 hl))).mono (fun j hj=>⟨hj.1.1,fun e=>key j e j ⟨hj.1.1,by omega,hj.1.2⟩ rfl⟩)
 ·have h1 : LAt W1 (fun b=>w.heap.size ≤ b∧b < W1.heap.size) q.2 q.1.ks:=(l1 q hq).mono' (fun j hj hS=>⟨hS,hj⟩)
  have ne : ∀ j,w.heap.size ≤ j→v.ownBlock ≠ some j:=fun j hj e=>by have:=(olt j e).2;omega
  exact (h1.keep hs3 (fun j hj hl=>blk j (by omega) hl (ne j hj.1))).mono (fun j hj=>⟨by omega,fun e=>key j e j ⟨by omega,hj.2,ne j hj.1⟩ rfl⟩)
theorem kept_own' {R : Nat} {u W W' : World} {row : Option Nat} (k : KeptR R u W) (hg : W.grownBy W' row) (hr : ∀ g,row=some g→u.heap.size ≤ g) : KeptR R u W' :=
 ⟨hg.os.trans k.os,hg.tape.trans k.tape,hg.output.trans k.output,Nat.le_trans k.size hg.size,fun j hj h1=>(hg.block j (Nat.lt_of_lt_of_le hj k.size) (fun e=>by have:=hr j e.symm;omega)).trans (k.block j hj h1)⟩
theorem rd_own' {B : Nat} {P : Pl} {L : List Tok} {a : Nat} {o : Ex} {W W' : World} {row : Option Nat} (r : Rd W P L a o) (hg : W.grownBy W' row) (hr : ∀ g,row=some g→B ≤ g) (hR : P.R < B) (hb : 0 < L.length→P.bl < B) : Rd W' P L a o :=
 r.keep hg.size (hg.block _ r.lt (fun e=>by have:=hr _ e.symm;omega)) (fun q=>hg.block _ (r.x.lt q) (fun e=>by have:=hr _ e.symm;have:=hb q;omega))
theorem type_step (L : List Tok) (hs : Small L) (f : Nat) (MN : Mono L f) (hPt : CN 113 L f 12 (ptypeF L f)) : CN 94 L (f+1) 20 (typeF L (f+1)):=by
 intro w P a o h ho hM
 have hRw:=h.lt
 have hle:=h.le
 have hsm:=h.small
 obtain ⟨h0,a0,z0,M0⟩:=begin_cell h
 obtain ⟨res,hres⟩ : ∃ r,typeF L (f+1) a o=r:=⟨_,rfl⟩
 have HR : Hid (typeF L (f+1) a o=res):=hres
 rw [hres]
 clear hres
 have UA:=un_all L f
 have HPT' : Hid (CN 113 L f 12 (ptypeF L f)):=hPt
 clear hPt
 go_enter Tryz.func94,Tryz.ntmps94
 go_wp2_with fail
 go_at_call 112
 refine (begin_any h0 (by omega)).mono ?_
 rintro e W1 A1
 cases h1 : beginR L a o with
 | bad p er =>
  rw [h1] at A1
  obtain ⟨rfl,b1⟩:=A1
  obtain rfl : Rs.bad p er=res:=by rw [← HR.out,typeF];simp [Rs.bind,h1]
  exact ⟨rfl,rfl,a0.trans b1⟩
 | ok u1 a1 =>
  rw [h1] at A1
  obtain ⟨rfl,r1,b1⟩:=A1
  obtain ⟨rfl,e1,e2⟩:=beginR_ok h1
  obtain ⟨rr,hrr⟩ : ∃ r,unionG L (fun a'=>ptypeF L f a' (o+1)) (L.length+1 - a) [] a=r:=⟨_,rfl⟩
  have HR2 : Hid ((rr.bind fun l a1=>.ok (oneOr l) a1)=res):=by show _=_;rw [← HR.out,typeF,h1,← hrr];rfl
  have HU : Hid (unionG L (fun a'=>ptypeF L f a' (o+1)) (L.length+1 - a) [] a=rr):=hrr
  clear hrr HR h1
  have z1:=b1.size
  go_wp2
  go_loopg [3,4] (L.length+2 - a) (fun gk v3 v4 wr=>∃ (b : Nat) (Lc : List (Nd × Value)) (q : Bool),v4 = .bool q∧Hid (if q=true then unionG L (fun a'=>ptypeF L f a' (o+1)) (gk - 1) (Lc.map (·.1)) b=rr∧L.length+2 ≤ gk+b else Rs.ok (Lc.map (·.1)) b=rr∧1 ≤ gk)∧Rd wr P L b (opE (o+1))∧Grow (w.heap.size+1) wr v3 Lc Lc.length∧KeptR P.R (w.alloc zN) wr∧a+Lc.length ≤ b)
  case atStart=>exact ⟨a,[],true,rfl,by show (if true=true then _ else _);rw [if_pos rfl];exact ⟨by rw [show L.length+2 - a - 1=L.length+1 - a by omega];exact HU.out,by omega⟩,r1,Grow.nil _ _,b1,by simp⟩
  case round =>
   clear HU r1
   obtain ⟨b,Lc,q,rfl,HQ,r0,g0,k0,hab⟩:=hrel
   have hsz:=k0.size
   have hbL:=r0.le
   cases q with
   | false =>
    have HQ2 : Hid (Rs.ok (Lc.map (·.1)) b=rr):=HQ.out.1
    clear HQ
    obtain ⟨ks,hks⟩ : ∃ ks,Lc.map (·.1)=ks:=⟨_,rfl⟩
    rw [hks] at HQ2
    have HKL : Hid (ks.length=Lc.length):=by show _=_;rw [← hks];simp
    have HKS : Hid (Lc.map (·.1)=ks):=hks
    have gl:=g0.lat hks
    clear hks
    obtain ⟨ad,c,hv⟩:=gl.sl
    subst hv
    obtain rfl : Rs.ok (oneOr ks) b=res:=by rw [← HR2.out,← HQ2.out];rfl
    clear HQ2 HR2
    go_wp2_with fail
    go_at_call 114
    refine (end_any r0 (by omega)).mono ?_
    rintro e W2 ⟨rfl,r2,b2⟩
    have k2:=k0.trans b2
    have z2:=k2.size
    have g2:=g0.keepB b2.size (fun j h1 h2=>b2.block j h2 (by omega))
    have l2:=g2.lat HKS.out
    have m0:=M0.out _ k2
    by_cases h1 : ks.length=1
    ·obtain ⟨x,rfl⟩:=List.length_eq_one_iff.1 h1
     obtain ⟨ad',c',bl,of',fx,e,hp,h4,hk⟩:=l2.op
     obtain ⟨rfl,hS,hb⟩:=hp (by simp)
     cases e
     have hf:=h4 0 (by simp)
     have hkx:=hk 0 (by simp)
     simp only [Nat.zero_mul,Nat.add_zero,List.getElem_cons_zero] at hf hkx
     obtain ⟨ax,cx,ex⟩:=hkx.sl
     rw [ex] at hf hkx
     obtain ⟨f0,f1,f2,f3⟩:=hf
     obtain ⟨⟨_,_,_,_⟩,_,_,_,_⟩:=t4 m0
     clear h4 hk hp gl h1
     go_wp2
     refine bodyPost_ret (res_n4 Tryz.results94 (t4_set _ _ _ _ m0) rfl) rfl ?_
     exact close_ok (x:=x) h (a0.trans k2) hkx (by omega) r2
    ·have h1' : ¬ (ks.length : Int)=1:=by omega
     have ho' : oneOr ks=mk0 32 mtT ks:=by
      unfold oneOr
      split
      ·simp at h1
      ·rfl
     go_wp2_with fail
     go_at_call 42
     refine (node_any 32 ⟨#[]⟩ ad ks.length c _).mono ?_
     rintro e W3 ⟨rfl,b3⟩
     have m3:=M0.out _ (k2.trans (.of b3))
     obtain ⟨⟨_,_,_,_⟩,_,_,_,_⟩:=t4 m3
     go_wp2
     refine bodyPost_ret (res_n4 Tryz.results94 (t4_set _ _ _ _ m3) rfl) rfl ?_
     rw [ho']
     exact close_ok (x:=mk0 32 mtT ks) h (a0.trans (k2.trans (.of b3))) (l2.bel b3) (by omega) (r2.bel b3)
   | true =>
    have HQ2 : Hid (unionG L (fun a'=>ptypeF L f a' (o+1)) (gk - 1) (Lc.map (·.1)) b=rr):=HQ.out.1
    have hgk:=HQ.out.2
    clear HQ
    obtain ⟨g,rfl⟩ : ∃ g,gk=g+2:=⟨gk - 2,by omega⟩
    have HQ3 : Hid (unionG L (fun a'=>ptypeF L f a' (o+1)) (g+1) (Lc.map (·.1)) b=rr):=HQ2.out
    clear HQ2
    go_wp2_with fail
    go_at_call 113
    refine (HPT'.out _ _ _ _ r0 (by omega) (by unfold Ms at *;omega)).mono ?_
    rintro e W2 A2
    cases h2 : ptypeF L f b (o+1) with
    | bad p er =>
     rw [h2] at A2
     obtain ⟨rfl,b2⟩:=A2
     obtain rfl : Rs.bad p er=res:=by rw [← HR2.out,← HQ3.out,unionG,h2];rfl
     exact ⟨rfl,rfl,a0.trans (k0.trans b2)⟩
    | ok x a2 =>
     rw [h2] at A2
     obtain ⟨ad,c,rfl,l2,r2,b2⟩:=A2
     have gm:=MN.ptype' b (o+1) _ _ h2
     have y2:=r2.le
     have k2:=k0.trans b2
     have z2:=k2.size
     have HS : Hid ((if isS L a2 sOr=true then unionG L (fun a'=>ptypeF L f a' (o+1)) g (Lc.map (·.1) ++ (if x.k=32 then x.ks else [x])) (a2+1) else .ok (Lc.map (·.1) ++ (if x.k=32 then x.ks else [x])) a2)=rr):=by show _=_;rw [← HQ3.out,unionG,h2];rfl
     clear HQ3
     obtain ⟨ob,hob⟩ : ∃ ob,ob=Obj.cells #[.int .i64 x.k,.string x.t,.int .i64 x.n,.slice ad x.ks.length c] 24:=⟨_,rfl⟩
     have g2 : Grow (w.heap.size+1) (W2.alloc ob) u3 Lc Lc.length:=(g0.keepB b2.size (fun j h1 h2=>b2.block j h2 (by omega))).bel (B0.alloc le0 _)
     have r2':=r2.bel (B0.alloc le0 ob)
     have k2':=k2.alloc ob
     have j2 : (W2.alloc ob).heap[W2.heap.size]?=some (.cells #[.int .i64 x.k,.string x.t,.int .i64 x.n,.slice ad x.ks.length c] 24 (0,0)):=by rw [hob];exact heap_alloc_new W2 _
     have s2' : (W2.alloc ob).heap.size=W2.heap.size+1:=by simp
     have l2' : LAt (W2.alloc ob) (fun b=>wr.heap.size ≤ b) (.slice ad x.ks.length c) x.ks:=l2.bel (B0.alloc le0 ob)
     have bk : ∀ j,w.heap.size+1 ≤ j→j < wr.heap.size→(W2.alloc ob).heap[j]?=wr.heap[j]?:=fun j h1 h2=>(Below.heap_alloc _ _ _ (by have:=b2.size;omega)).trans (b2.block j h2 (by omega))
     have zb2:=b2.size
     subst hob
     obtain ⟨⟨_,_,_,_⟩,_,_,_,_⟩:=t4 j2
     by_cases hk : x.k=32
     ·have hk2 : (x.k == 32)=true:=by simp [hk]
      have hun:=UA.ptype' b (o+1) _ _ h2 hk
      have EK : Hid ((if x.k=32 then x.ks else [x])=x.ks):=by show _=_;rw [if_pos hk]
      clear hk
      go_wp2_with (at_builtin;refine wpList_append_lat _ (by rfl) _ _ (by rfl) (w.heap.size+1) _ Lc.length _ (by rfl) g2.own (fun b=>wr.heap.size ≤ b) ad c x.ks (by rfl) l2' (by omega) (by omega) ?_;intro vA WA FA hFA oA gA hA kA)
      have gB:=g0.app (W1:=_) (by omega) (by omega) bk hFA kA gA hA oA
      have kA0 : KeptR P.R (w.alloc zN) WA:=kept_own' (k2') gA (fun g e=>by have:=(row_lt g2.own g e).1;omega)
      have rA:=rd_own' (r2') gA (fun g e=>(row_lt g2.own g e).1) (by omega) (fun q=>by have:=h.x.lt q;omega)
      have hLF : (Lc ++ FA).length=Lc.length+x.ks.length:=by have hfl:=congrArg List.length hFA;simp at hfl;rw [List.length_append];omega
      cases hq : isS L a2 sOr with
      | true =>
       have T:=take_any rA sOr
       rw [hq] at T
       have hlt:=isS_lt hq
       go_at_call 40
       refine T.mono ?_
       rintro e W5 ⟨rfl,r5',b5⟩
       have r5 : Rd W5 P L (a2+1) (opE (o+1)):=r5'
       go_wp2
       go_roundg (g+1)
       case rel=>exact ⟨a2+1,Lc ++ FA,true,rfl,by show (if true=true then _ else _);rw [if_pos rfl];exact ⟨by have:=HS.out;rw [if_pos hq,EK.out] at this;rw [List.map_append,hFA];exact this,by omega⟩,r5,by rw [hLF];exact gB.keepB b5.size (fun j h1 h2=>b5.block j h2 (by omega)),kA0.trans b5,by rw [hLF];omega⟩
       case measure=>omega
      | false =>
       have T:=take_any rA sOr
       rw [hq] at T
       go_at_call 40
       refine T.mono ?_
       rintro e W5 ⟨rfl,r5',b5⟩
       have r5 : Rd W5 P L a2 (opE (o+1)):=r5'
       go_wp2
       go_roundg (g+1)
       case rel=>exact ⟨a2,Lc ++ FA,false,rfl,by show (if false=true then _ else _);rw [if_neg (by decide)];exact ⟨by have:=HS.out;rw [if_neg (by rw [hq];decide),EK.out] at this;rw [List.map_append,hFA];exact this,by omega⟩,r5,by rw [hLF];exact gB.keepB b5.size (fun j h1 h2=>b5.block j h2 (by omega)),kA0.trans b5,by rw [hLF];omega⟩
       case measure=>omega
     ·have hk2 : (x.k == 32)=false:=by simpa using hk
      have EK : Hid ((if x.k=32 then x.ks else [x])=[x]):=by show _=_;rw [if_neg hk]
      clear hk
      obtain ⟨W3,hW3⟩ : ∃ W,(W2.alloc (Obj.cells #[.int .i64 x.k,.string x.t,.int .i64 x.n,.slice ad x.ks.length c] 24)).alloc (Obj.cells #[.int .i64 x.k,.string x.t,.int .i64 x.n,.slice ad x.ks.length c] 24)=W:=⟨_,rfl⟩
      have b3 : Below (W2.alloc (Obj.cells #[.int .i64 x.k,.string x.t,.int .i64 x.n,.slice ad x.ks.length c] 24)).heap.size (W2.alloc (Obj.cells #[.int .i64 x.k,.string x.t,.int .i64 x.n,.slice ad x.ks.length c] 24)) W3:=by rw [← hW3];exact B0.alloc le0 _
      have j3 : W3.heap[W2.heap.size+1]?=some (.cells #[.int .i64 x.k,.string x.t,.int .i64 x.n,.slice ad x.ks.length c] 24 (0,0)):=by rw [← hW3];exact hnew _ s2'.symm
      have s3 : W3.heap.size=W2.heap.size+2:=by rw [← hW3];simp
      have l3 : LAt W3 (fun b=>wr.heap.size ≤ b) (.slice (some ⟨W2.heap.size+1,0,none⟩) 1 1) [x]:=LAt.n1 j3 (by show _ ≤ _;omega) (l2'.bel b3)
      have o3:=row_bel g2.own b3
      have bk3 : ∀ j,w.heap.size+1 ≤ j→j < wr.heap.size→W3.heap[j]?=wr.heap[j]?:=fun j h1 h2=>(b3.block j (by omega)).trans (bk j h1 h2)
      go_wp2_with (at_builtin;refine wpList_append_lat _ (by rfl) _ _ (by rfl) (w.heap.size+1) _ Lc.length _ (by rfl) o3 (fun b=>wr.heap.size ≤ b) (some ⟨W2.heap.size+1,0,none⟩) 1 [x] (by rfl) l3 (by simp;omega) (by omega) ?_;intro vA WA FA hFA oA gA hA kA)
      have gB:=g0.app (W1:=W3) (by omega) (by omega) bk3 hFA kA gA hA oA
      have kA0 : KeptR P.R (w.alloc zN) WA:=kept_own' (k2'.trans (.of b3)) gA (fun g e=>by have:=(row_lt g2.own g e).1;omega)
      have rA:=rd_own' (r2'.bel b3) gA (fun g e=>(row_lt g2.own g e).1) (by omega) (fun q=>by have:=h.x.lt q;omega)
      have hLF : (Lc ++ FA).length=Lc.length+1:=by have hfl:=congrArg List.length hFA;simp at hfl;rw [List.length_append];omega
      cases hq : isS L a2 sOr with
      | true =>
       have T:=take_any rA sOr
       rw [hq] at T
       have hlt:=isS_lt hq
       go_at_call 40
       refine T.mono ?_
       rintro e W5 ⟨rfl,r5',b5⟩
       have r5 : Rd W5 P L (a2+1) (opE (o+1)):=r5'
       go_wp2
       go_roundg (g+1)
       case rel=>exact ⟨a2+1,Lc ++ FA,true,rfl,by show (if true=true then _ else _);rw [if_pos rfl];exact ⟨by have:=HS.out;rw [if_pos hq,EK.out] at this;rw [List.map_append,hFA];exact this,by omega⟩,r5,by rw [hLF];exact gB.keepB b5.size (fun j h1 h2=>b5.block j h2 (by omega)),kA0.trans b5,by rw [hLF];omega⟩
       case measure=>omega
      | false =>
       have T:=take_any rA sOr
       rw [hq] at T
       go_at_call 40
       refine T.mono ?_
       rintro e W5 ⟨rfl,r5',b5⟩
       have r5 : Rd W5 P L a2 (opE (o+1)):=r5'
       go_wp2
       go_roundg (g+1)
       case rel=>exact ⟨a2,Lc ++ FA,false,rfl,by show (if false=true then _ else _);rw [if_neg (by decide)];exact ⟨by have:=HS.out;rw [if_neg (by rw [hq];decide),EK.out] at this;rw [List.map_append,hFA];exact this,by omega⟩,r5,by rw [hLF];exact gB.keepB b5.size (fun j h1 h2=>b5.block j h2 (by omega)),kA0.trans b5,by rw [hLF];omega⟩
       case measure=>omega
end Go.Proofs.YthfkfbcopinmiaaGreatDoor
set_option linter.unusedVariables false
set_option linter.unusedSimpArgs false
set_option maxRecDepth 100000
set_option maxHeartbeats 8000000
namespace Go.Proofs.YthfkfbcopinmiaaGreatDoor
open Go.RowKit Go.Maps
theorem KeptR.late {R M : Nat} {u w w' : World} (k : KeptR R u w) (h : KeptR M w w') (hM : u.heap.size ≤ M) : KeptR R u w' :=
 ⟨h.os.trans k.os,h.tape.trans k.tape,h.output.trans k.output,Nat.le_trans k.size h.size,fun i hi hb=>(h.block i (Nat.lt_of_lt_of_le hi k.size) (by omega)).trans (k.block i hi hb)⟩
theorem objt_step (L : List Tok) (hs : Small L) (f : Nat) (MN : Mono L f) (hTy : CN 147 L f 18 (typingF L f)) : CN 144 L (f+1) 9 (objtF L (f+1)):=by
 intro w P a o h ho hM
 have hRw:=h.lt
 have hle:=h.le
 have hsm:=h.small
 have hbl0:=h.x.lt
 obtain ⟨h0,a0,z0,M0⟩:=begin_cell h
 obtain ⟨res,hres⟩ : ∃ r,objtF L (f+1) a o=r:=⟨_,rfl⟩
 have HR : Hid (objtF L (f+1) a o=res):=hres
 rw [hres]
 clear hres
 have HTY' : Hid (CN 147 L f 18 (typingF L f)):=hTy
 clear hTy
 obtain ⟨rr,hrr⟩ : ∃ r,fieldsG L (fun a'=>typingF L f a' o) (L.length+1 - a) [] [] a=r:=⟨_,rfl⟩
 have HR2 : Hid ((rr.bind fun l a1=>.ok (mk0 33 mtT l) a1)=res):=by show _=_;rw [← HR.out,objtF,← hrr]
 have HU : Hid (fieldsG L (fun a'=>typingF L f a' o) (L.length+1 - a) [] [] a=rr):=hrr
 clear hrr HR
 have hmm:=@run_makeMap Tryz.prog
 obtain ⟨wM,hwM⟩ : ∃ W,(w.alloc zN).alloc (.map #[] 0)=W:=⟨_,rfl⟩
 have bM : Below (w.alloc zN).heap.size (w.alloc zN) wM:=by rw [← hwM];exact B0.alloc le0 _
 have nM : NM wM (w.heap.size+1) []:=by rw [← hwM,← z0];exact NM.nil (w.alloc zN)
 have sM : wM.heap.size=w.heap.size+2:=by rw [← hwM];simp
 go_enter Tryz.func144,Tryz.ntmps144
 go_wp2
 go_loopg [3] (L.length+1 - a) (fun gk v3 wr=>∃ (b : Nat) (Lc : List (Nd × Value)) (ns : List (List UInt8)),Hid (fieldsG L (fun a'=>typingF L f a' o) gk (Lc.map (·.1)) ns b=rr)∧Hid (L.length+1 ≤ gk+b)∧Rd wr P L b (opE o)∧NM wr (w.heap.size+1) ns∧Hid (ns.length ≤ b)∧Grow (w.heap.size+2) wr v3 Lc Lc.length∧KeptR P.R (w.alloc zN) wr∧a+Lc.length ≤ b∧w.heap.size+2 ≤ wr.heap.size)
 case atStart=>exact ⟨a,[],[],HU.out,by show _ ≤ _;omega,h0.bel bM,nM,by show _ ≤ _;simp,Grow.nil _ _,.of bM,by simp,by omega⟩
 case round =>
  clear HU h0 bM nM
  obtain ⟨b,Lc,ns,HQ,HG,r0,n0,hns,g0,k0,hab,hsz⟩:=hrel
  have hgk:=HG.out
  have hns':=hns.out
  have hbL:=r0.le
  obtain ⟨g,rfl⟩ : ∃ g,gk=g+1:=⟨gk - 1,by omega⟩
  have CT:=take_any r0 sCc
  cases hq : isS L b sCc with
  | true =>
   rw [hq] at CT
   obtain ⟨ks,hks⟩ : ∃ ks,Lc.map (·.1)=ks:=⟨_,rfl⟩
   have HKS : Hid (Lc.map (·.1)=ks):=hks
   have gl:=g0.lat hks
   rw [hks] at HQ
   clear hks
   obtain ⟨ad,c,hv⟩:=gl.sl
   subst hv
   obtain rfl : Rs.ok (mk0 33 mtT ks) (b+1)=res:=by rw [← HR2.out,← HQ.out,fieldsG,if_pos hq];rfl
   clear HR2 HQ
   go_wp2_with fail
   go_at_call 40
   refine CT.mono ?_
   rintro e W1 ⟨rfl,r1',b1⟩
   have r1 : Rd W1 P L (b+1) (opE o):=r1'
   have l1:=(g0.keepB b1.size (fun j h1 h2=>b1.block j h2 (by omega))).lat HKS.out
   go_wp2_with fail
   go_at_call 42
   refine (node_any 33 ⟨#[]⟩ ad ks.length c _).mono ?_
   rintro e W3 ⟨rfl,b3⟩
   have m3:=M0.out _ ((k0.trans b1).trans (.of b3))
   obtain ⟨⟨_,_,_,_⟩,_,_,_,_⟩:=t4 m3
   go_wp2
   refine bodyPost_ret (res_n4 Tryz.results144 (t4_set _ _ _ _ m3) rfl) rfl ?_
   exact close_ok (x:=mk0 33 mtT ks) h (a0.trans ((k0.trans b1).trans (.of b3))) (l1.bel b3) (by omega) (r1.bel b3)
  | false =>
   rw [hq] at CT
   have HF : Hid (((addR L ns b).bind fun ns1 _=>(propR' L b).bind fun t a1=>(typingF L f a1 o).bind fun y a2=>(wantR L sSe a2).bind fun _ a3=>fieldsG L (fun a'=>typingF L f a' o) g (Lc.map (·.1) ++ [mk0 34 t [y]]) ns1 a3)=rr):=by show _=_;rw [← HQ.out,fieldsG,if_neg (by rw [hq];decide)]
   clear HQ
   go_wp2_with fail
   go_at_call 40
   refine CT.mono ?_
   rintro e W1 ⟨rfl,r1',b1⟩
   have r1 : Rd W1 P L b (opE o):=r1'
   have s1:=b1.size
   have n1:=n0.keep (b1.block _ n0.lt (by omega))
   go_wp2_with fail
   go_at_call 75
   refine (add_any r1 n1 (by omega) (fun q=>by have:=hbl0 q;omega) hs (by omega)).mono ?_
   rintro e W2 A2
   cases h2 : addR L ns b with
   | bad p er =>
    rw [h2] at A2
    obtain ⟨rfl,b2⟩:=A2
    obtain rfl : Rs.bad p er=res:=by rw [← HR2.out,← HF.out,h2];rfl
    exact ⟨rfl,rfl,a0.trans ((k0.trans b1).late b2 (by omega))⟩
   | ok ns1 b' =>
    have hA' : b=b'∧ns1.length=ns.length+1:=by
     unfold addR at h2
     split at h2
     ·cases h2
     ·cases h2;exact ⟨rfl,by simp⟩
    obtain ⟨rfl,hln⟩:=hA'
    rw [h2] at A2
    obtain ⟨rfl,r2,n2,b2⟩:=A2
    have s2:=b2.size
    have k2:=(k0.trans b1).late b2 (by omega)
    go_wp2_with fail
    go_at_call 76
    refine (prop_any r2 hs).mono ?_
    rintro e W3 A3
    cases h3 : propR' L b with
    | bad p er =>
     rw [h3] at A3
     obtain ⟨rfl,b3⟩:=A3
     obtain rfl : Rs.bad p er=res:=by rw [← HR2.out,← HF.out,h2,Rs.bind_ok,h3];rfl
     exact ⟨rfl,rfl,a0.trans (k2.trans b3)⟩
    | ok t a3 =>
     rw [h3] at A3
     obtain ⟨rfl,r3,b3⟩:=A3
     have g3:=prop_ge L b _ _ h3
     have y3:=r3.le
     have s3:=b3.size
     go_wp2_with fail
     go_at_call 147
     refine (HTY'.out _ _ _ _ r3 (by omega) (by unfold Ms at *;omega)).mono ?_
     rintro e W4 A4
     cases h4 : typingF L f a3 o with
     | bad p er =>
      rw [h4] at A4
      obtain ⟨rfl,b4⟩:=A4
      obtain rfl : Rs.bad p er=res:=by rw [← HR2.out,← HF.out,h2,Rs.bind_ok,h3,Rs.bind_ok,h4];rfl
      exact ⟨rfl,rfl,a0.trans ((k2.trans b3).trans b4)⟩
     | ok y a4 =>
      rw [h4] at A4
      obtain ⟨ad,c,rfl,l4,r4,b4⟩:=A4
      have g4:=MN.typing' a3 o _ _ h4
      have y4:=r4.le
      have s4:=b4.size
      have HF2 : Hid (((wantR L sSe a4).bind fun _ a5=>fieldsG L (fun a'=>typingF L f a' o) g (Lc.map (·.1) ++ [mk0 34 t [y]]) ns1 a5)=rr):=by show _=_;rw [← HF.out,h2,Rs.bind_ok,h3,Rs.bind_ok,h4];rfl
      clear HF
      have k4:=(k2.trans b3).trans b4
      have n4:=(n2.keep (b3.block _ n2.lt (by omega))).keep (w':=W4) (b4.block _ (by have:=n2.lt;omega) (by omega))
      go_wp2_with fail
      go_at_call 42
      refine (node_any 34 t (some ⟨W4.heap.size,0,none⟩) 1 1 _).mono ?_
      rintro e W5 ⟨rfl,b5⟩
      have s5:=b5.size
      simp at s5
      have j5 : W5.heap[W4.heap.size]?=_:=(b5.block _ (by simp)).trans (heap_alloc_new W4 _)
      have b5' : Below W4.heap.size W4 W5:=(B0.alloc le0 _).trans (b5.mono (by simp))
      have l5 : LAt W5 (fun b=>wr.heap.size ≤ b) (.slice (some ⟨W4.heap.size,0,none⟩) 1 1) [y]:=LAt.n1 (x:=y) j5 (by show _ ≤ _;omega) ((l4.bel b5').mono (fun b hb=>by omega))
      obtain ⟨W6,hW6⟩ : ∃ W,W5.alloc (Obj.cells #[.int .i64 34,.string t,.int .i64 0,.slice (some ⟨W4.heap.size,0,none⟩) 1 1] 24)=W:=⟨_,rfl⟩
      have b6 : Below W5.heap.size W5 W6:=by rw [← hW6];exact B0.alloc le0 _
      have j6 : W6.heap[W5.heap.size]?=some (.cells #[.int .i64 34,.string t,.int .i64 0,.slice (some ⟨W4.heap.size,0,none⟩) 1 1] 24 (0,0)):=by rw [← hW6];exact hnew _ rfl
      have s6 : W6.heap.size=W5.heap.size+1:=by rw [← hW6];simp
      have l6 : LAt W6 (fun b=>wr.heap.size ≤ b) (.slice (some ⟨W5.heap.size,0,none⟩) 1 1) [mk0 34 t [y]]:=LAt.n1 (x:=mk0 34 t [y]) j6 (by show _ ≤ _;omega) (l5.bel b6)
      have bk : ∀ j,w.heap.size+2 ≤ j→j < wr.heap.size→W6.heap[j]?=wr.heap[j]?:=fun j h1 h2=>(b6.block j (by omega)).trans ((b5'.block j (by omega)).trans ((b4.block j (by omega) (by omega)).trans ((b3.block j (by omega) (by omega)).trans ((b2.block j (by omega) (by omega)).trans (b1.block j h2 (by omega))))))
      have g6:=g0.keepB (w':=W6) (by omega) bk
      have r6:=(r4.bel b5').bel b6
      have k6:=(k4.trans (.of b5')).trans (.of b6)
      have n6:=(n4.keep (b5'.block _ n4.lt)).keep (w':=W6) (b6.block _ (by have:=n4.lt;omega))
      go_wp2_with (at_builtin;refine wpList_append_lat _ (by rfl) _ _ (by rfl) (w.heap.size+2) _ Lc.length _ (by rfl) g6.own (fun b=>wr.heap.size ≤ b) (some ⟨W5.heap.size,0,none⟩) 1 [mk0 34 t [y]] (by rfl) l6 (by simp;omega) (by omega) ?_;intro vA WA FA hFA oA gA hA kA)
      have gB:=g0.app (W1:=W6) (by omega) (by omega) bk hFA kA gA hA oA
      have kA0 : KeptR P.R (w.alloc zN) WA:=kept_own' k6 gA (fun g e=>by have:=(row_lt g6.own g e).1;omega)
      have rA:=rd_own' r6 gA (fun g e=>(row_lt g6.own g e).1) (by omega) (fun q=>by have:=hbl0 q;omega)
      have nA:=n6.keep (gA.block _ n6.lt (fun e=>by have:=(row_lt g6.own _ e.symm).1;omega))
      have hLF : (Lc ++ FA).length=Lc.length+1:=by have hfl:=congrArg List.length hFA;simp at hfl;rw [List.length_append];omega
      have zA:=gA.size
      have CW:=want_any rA sSe
      go_at_call 39
      refine CW.mono ?_
      rintro e W7 A7
      cases h7 : wantR L sSe a4 with
      | bad p er =>
       rw [h7] at A7
       obtain ⟨rfl,b7⟩:=A7
       obtain rfl : Rs.bad p er=res:=by rw [← HR2.out,← HF2.out,h7];rfl
       exact ⟨rfl,rfl,a0.trans (kA0.trans b7)⟩
      | ok u7 a7 =>
       rw [h7] at A7
       obtain ⟨rfl,r7,b7⟩:=A7
       have g7:=want_ge L sSe a4 _ _ h7
       have s7:=b7.size
       go_wp2
       go_roundg g
       case rel=>exact ⟨a7,Lc ++ FA,ns1,by show _=_;rw [← HF2.out,h7,List.map_append,hFA];rfl,by show _ ≤ _;omega,r7,nA.keep (b7.block _ nA.lt (by omega)),by show _ ≤ _;omega,by rw [hLF];exact gB.keepB b7.size (fun j h1 h2=>b7.block j h2 (by omega)),kA0.trans b7,by rw [hLF];omega,by omega⟩
       case measure=>omega
end Go.Proofs.YthfkfbcopinmiaaGreatDoor
set_option linter.unusedVariables false
set_option linter.unusedSimpArgs false
namespace Go.Proofs.YthfkfbcopinmiaaGreatDoor
open Go.RowKit
structure AllC (L : List Tok) (f : Nat) : Prop where
 hE : CN 126 L f 20 (exprF L f)
 hT : CN 94 L f 20 (typeF L f)
 hS : CN 95 L f 20 (stmtF L f)
 hTy : CN 147 L f 18 (typingF L f)
 hTo : CN 129 L f 19 (typeOrF L f)
 hB : CN 130 L f 19 (blkF L f)
 hAny : CN 115 L f 22 (anyF L f)
 hC : CN 142 L f 12 (condF L f)
 hU : CN 158 L f 10 (unaryF L f)
 hPo : CN 161 L f 9 (postF L f)
 hPr : CN 163 L f 8 (primF L f)
 hWp : CN 164 L f 7 (wprimF L f)
 hSp : CN 165 L f 7 (sprimF L f)
 hAr : CN 167 L f 6 (arrowF L f)
 hAb : CN 168 L f 21 (abodyF L f)
 hOp : CN 166 L f 5 (propF L f)
 hPt : CN 113 L f 12 (ptypeF L f)
 hRt : CN 127 L f 11 (rtypeF L f)
 hOt : CN 144 L f 9 (objtF L f)
 hFt : CN 146 L f 10 (ftypeF L f)
 hCi : CN 131 L f 21 (condiF L f)
 hEl : CN 132 L f 19 (elseF L f)
 hEo : CN 134 L f 21 (exprOrF L f)
 hA : CA L f
 hL : CL L f
 hBn : CBn L f
theorem allC (L : List Tok) (hs : Small L) : ∀ f,AllC L f:=by
 intro f
 induction f with
 | zero =>
  refine { hE:=?_,hT:=?_,hS:=?_,hTy:=?_,hTo:=?_,hB:=?_,hAny:=?_,hC:=?_,hU:=?_,hPo:=?_,hPr:=?_,hWp:=?_,hSp:=?_,hAr:=?_,hAb:=?_,hOp:=?_,hPt:=?_,hRt:=?_,hOt:=?_,hFt:=?_,hCi:=?_,hEl:=?_,hEo:=?_,hA:=?_,hL:=?_,hBn:=?_ }
  all_goals first
   | (intro w P a o h ho hM;exfalso;unfold Ms at hM;omega)
   | (intro w P a o x ad0 c0 S h ho hM hla hx hS;exfalso;unfold Ms at hM;omega)
   | (intro w P a o n h ho hM;exfalso;unfold Ms at hM;omega)
   | (intro w P a o m h ho h1 h7 hM;exfalso;unfold Ms at hM;omega)
 | succ f ih =>
  have MN:=mono_all L f
  exact {
   hE:=expr_step L hs f MN ih.hC ih.hA
   hT:=type_step L hs f MN ih.hPt
   hS:=stmt_step L hs f MN ih.hAny
   hTy:=typing_step L hs f MN ih.hT
   hTo:=typeOr_step L hs f MN ih.hTy
   hB:=block_step L hs f MN ih.hS
   hAny:=any_step L hs f MN ih.hL ih.hTo ih.hB ih.hCi ih.hEl ih.hEo ih.hE
   hC:=cond_step L hs f MN ih.hBn ih.hE
   hU:=unary_step L hs f MN ih.hU ih.hPo
   hPo:=post_step L hs f MN ih.hPr ih.hE
   hPr:=prim_step L hs f MN ih.hWp ih.hSp
   hWp:=wprim_step L hs f MN ih.hE ih.hTo ih.hB
   hSp:=sprim_step L hs f MN ih.hE ih.hOp ih.hAr
   hAr:=arrow_step L hs f MN ih.hTo ih.hAb
   hAb:=abody_step L hs f MN ih.hB ih.hE
   hOp:=prop_step L hs f MN ih.hE
   hPt:=ptype_step L hs f MN ih.hRt
   hRt:=rtype_step L hs f MN ih.hOt ih.hFt ih.hT
   hOt:=objt_step L hs f MN ih.hTy
   hFt:=ftype_step L hs f MN ih.hTy ih.hT
   hCi:=condi_step L hs f MN ih.hE
   hEl:=else_step L hs f MN ih.hS ih.hB
   hEo:=exprOr_step L hs f MN ih.hE
   hA:=assign_step L hs f MN ih.hE
   hL:=let_step L hs f MN ih.hTo ih.hE
   hBn:=bin_step L hs f MN ih.hU ih.hBn
  }
end Go.Proofs.YthfkfbcopinmiaaGreatDoor
