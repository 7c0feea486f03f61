/- Own text. Package cursor: lists of things,and what their reader keeps at the end;the names of an export. Package module: the rules,one by one: the names of an export,by a closure. -/
import Derived.Test.YthfkfbcopinmiaaGreatDoorGk35
import Derived.Test.YthfkfbcopinmiaaGreatDoorGk37
set_option linter.unusedVariables false
set_option linter.unusedSimpArgs false
set_option maxRecDepth 100000
set_option maxHeartbeats 8000000
namespace Go.Proofs.YthfkfbcopinmiaaGreatDoor
open Go.RowKit
def AnsLS {σ : Type} (P : Pl) (L : List Tok) (o : Ex) (M : Nat) (I : σ→World→Prop) (w : World) (r : Rs (List Nd × σ)) (e : Ending) (w' : World) : Prop:=match r with
 | .ok l a=>∃ ad c,e = .returned (.slice ad l.1.length c)∧LAt w' (fun b=>w.heap.size ≤ b) (.slice ad l.1.length c) l.1∧Rd w' P L a o∧I l.2 w'∧Kept2 P.R M w w'
 | .bad p er=>Gave p er e∧Kept2 P.R M w w'
def listGS {σ : Type} (L : List Tok) (s : ByteArray) (F : σ→Nat→Rs (Nd × σ)) : Nat→List Nd→σ→Nat→Rs (List Nd × σ)
 | 0,_,_,a=>.bad a 0
 | n+1,acc,st,a=>if isS L a s=true then .ok (acc,st) (a+1) else match F st a with
  | .bad p e=>.bad p e
  | .ok x a1=>if isS L a1 s=true then listGS L s F n (acc ++ [x.1]) x.2 a1 else if isS L a1 sCm=true then listGS L s F n (acc ++ [x.1]) x.2 (a1+1) else .bad a1 60
theorem listGS_end {σ : Type} {L : List Tok} {s : ByteArray} {F : σ→Nat→Rs (Nd × σ)} {n : Nat} {acc : List Nd} {st : σ} {a : Nat} (hn : 0 < n) (h : isS L a s=true) : listGS L s F n acc st a = .ok (acc,st) (a+1):=by
 obtain ⟨n,rfl⟩ : ∃ m,n=m+1:=⟨n - 1,by omega⟩
 rw [listGS,if_pos h]
theorem listGS_bad {σ : Type} {L : List Tok} {s : ByteArray} {F : σ→Nat→Rs (Nd × σ)} {n : Nat} {acc : List Nd} {st : σ} {a p : Nat} {e : Int} (hn : 0 < n) (h : isS L a s=false) (hf : F st a = .bad p e) : listGS L s F n acc st a = .bad p e:=by
 obtain ⟨n,rfl⟩ : ∃ m,n=m+1:=⟨n - 1,by omega⟩
 rw [listGS,if_neg (by rw [h];decide),hf]
theorem listGS_ok {σ : Type} {L : List Tok} {s : ByteArray} {F : σ→Nat→Rs (Nd × σ)} {n : Nat} {acc : List Nd} {st : σ} {a a1 : Nat} {x : Nd × σ} (hn : 0 < n) (h : isS L a s=false) (hf : F st a = .ok x a1) :
 listGS L s F n acc st a=if isS L a1 s=true then listGS L s F (n - 1) (acc ++ [x.1]) x.2 a1 else if isS L a1 sCm=true then listGS L s F (n - 1) (acc ++ [x.1]) x.2 (a1+1) else .bad a1 60:=by
 obtain ⟨n,rfl⟩ : ∃ m,n=m+1:=⟨n - 1,by omega⟩
 rw [listGS,if_neg (by rw [h];decide),hf]
 rfl
theorem list_anyS {σ : Type} {P : Pl} {L : List Tok} {o : Ex} {s : ByteArray} {k : FuncId} {rs caps : Array Value} (eg : ∀ args w,(callFunc k args).run Tryz.prog w = .ok (.enter k args) w) (F : σ→Nat→Rs (Nd × σ)) (I : σ→World→Prop) (J : σ→Nat→Prop) (M : Nat) (w : World) (a : Nat) (st : σ) (h : Rd w P L a o) (hj : J st a) (hi : I st w) (hM : M < w.heap.size)
 (hmono : ∀ st a x b,F st a = .ok x b→a < b) (hJ : ∀ st b x a1 c,J st b→F st b = .ok x a1→a1 ≤ c→J x.2 c)
 (hI : ∀ st W W',I st W→w.heap.size ≤ W.heap.size→W.heap.size ≤ W'.heap.size→(∀ b,b < w.heap.size→b ≠ P.R→W'.heap[b]?=W.heap[b]?)→I st W')
 (hT : ∀ W st b,a ≤ b→J st b→Rd W P L b o→I st W→w.heap.size ≤ W.heap.size→Kept2 P.R M w W→Calls Tryz.prog k (rs ++ caps) W (AnsS P L o M I W (F st b))) :
 Calls Tryz.prog 84 #[.pointer (some ⟨P.R,0,none⟩),.string s,.func (.func k) rs caps] w (AnsLS P L o M I w (listGS L s F (L.length+1 - a) [] st a)):=by
 have hR0:=h.lt
 have hsm:=h.small
 have hle:=h.le
 have hbl0:=h.x.lt
 obtain ⟨res,hres⟩ : ∃ res,listGS L s F (L.length+1 - a) [] st a=res:=⟨_,rfl⟩
 rw [hres]
 have HRes : Hid (res=listGS L s F (L.length+1 - a) [] st a):=hres.symm
 clear hres
 obtain ⟨i0,hi0,hz0,hz1,hz2⟩:=info_parts info_nd
 have HM : Hid (∀ st a x b,F st a = .ok x b→a < b):=hmono
 have HI : Hid (∀ st W W',I st W→w.heap.size ≤ W.heap.size→W.heap.size ≤ W'.heap.size→(∀ b,b < w.heap.size→b ≠ P.R→W'.heap[b]?=W.heap[b]?)→I st W'):=hI
 have HT : Hid (∀ W st b,a ≤ b→J st b→Rd W P L b o→I st W→w.heap.size ≤ W.heap.size→Kept2 P.R M w W→Calls Tryz.prog k (rs ++ caps) W (AnsS P L o M I W (F st b))):=hT
 have HJ : Hid (∀ st b x a1 c,J st b→F st b = .ok x a1→a1 ≤ c→J x.2 c):=hJ
 clear hmono hI hT hJ
 have HR0 : Hid (P.R < w.heap.size):=hR0
 clear hR0
 go_enter Tryz.func84,Tryz.ntmps84
 go_wp2
 go_loopg [7] (L.length+1 - a) (fun gk v7 wr=>∃ (st : σ) (b : Nat) (Lc : List (Nd × Value)),Hid (res=listGS L s F gk (Lc.map (·.1)) st b)∧Hid (L.length+1 ≤ gk+b)∧Rd wr P L b o∧I st wr∧Grow w.heap.size wr v7 Lc Lc.length∧Kept2 P.R M w wr∧Hid (a+Lc.length ≤ b∧J st b))
 case atStart=>exact ⟨st,a,[],HRes,by show _ ≤ _;omega,h,hi,Grow.nil _ _,Kept2.refl _ _ _,by refine ⟨by simp,hj⟩⟩
 case round =>
  clear HRes h hi
  obtain ⟨st,b,Lc,HR,HG,r0,hI0,g0,k0,hb⟩:=hrel
  have hsz:=k0.size
  have hb':=hb.out.1
  have HJb : Hid (J st b):=hb.out.2
  have hgk:=HG.out
  have hbL:=r0.le
  have CT:=take_any r0 s
  have hR0 : P.R < w.heap.size:=HR0.out
  have B1 : Hid (∀ W,KeptR P.R wr W→I st W∧Kept2 P.R M w W∧Grow w.heap.size W u7 Lc Lc.length):=fun W b1=>⟨HI.out _ _ _ hI0 hsz b1.size (fun j h1 h2=>b1.block j (by omega) h2),k0.trans (.of b1),g0.keepB b1.size (fun j h1 h2=>b1.block j h2 (by omega))⟩
  cases hq : isS L b s with
  | true =>
   rw [hq] at CT
   have hres : res = .ok (Lc.map (·.1),st) (b+1):=by rw [HR.out];exact listGS_end (by omega) hq
   clear HR
   subst hres
   unfold AnsLS
   go_wp2_with (go_at_call 40;refine CT.mono ?_;rintro e W1 ⟨rfl,r1,b1⟩)
   go_ret
   obtain ⟨i1,k1,g1⟩:=B1.out _ b1
   have hl:=g1.lat rfl
   obtain ⟨ad,c,e⟩:=hl.sl
   exact ⟨ad,c,by rw [← e];rfl,by rw [← e];exact hl,r1,i1,k1⟩
  | false =>
   rw [hq] at CT
   cases hF : F st b with
   | bad p er =>
    have hres : res = .bad p er:=by rw [HR.out];exact listGS_bad (by omega) hq hF
    clear HR
    subst hres
    unfold AnsLS
    go_wp2_with (first
     | (go_at_call 40;refine CT.mono ?_;rintro e W1 ⟨rfl,r1,b1⟩;obtain ⟨hI1,k1,g1⟩:=B1.out _ b1;have s1:=b1.size)
     | (go_at_fn k;refine (HT.out W1 st b (by omega) HJb.out r1 hI1 (by omega) k1).mono ?_;rintro e W2 hA;rw [hF] at hA;obtain ⟨rfl,b2⟩:=hA))
    exact ⟨rfl,rfl,k1.trans b2⟩
   | ok x a1 =>
    have HR2 : Hid (res=if isS L a1 s=true then listGS L s F (gk - 1) (Lc.map (·.1) ++ [x.1]) x.2 a1 else if isS L a1 sCm=true then listGS L s F (gk - 1) (Lc.map (·.1) ++ [x.1]) x.2 (a1+1) else .bad a1 60):=by
     show _=_
     rw [HR.out];exact listGS_ok (by omega) hq hF
    clear HR
    have hab:=HM.out _ _ _ _ hF
    have t1 : True:=trivial
    cases hq1 : isS L a1 s with
    | true =>
     have HR3 : Hid (res=listGS L s F (gk - 1) ((Lc ++ [(x.1,(default : Value))]).map (·.1)) x.2 a1):=by
      show _=_
      rw [HR2.out,if_pos hq1];simp
     clear HR2
     go_wp2_with (first
      | (go_at_call 40;refine CT.mono ?_;rintro e W1 ⟨rfl,r1,b1⟩;obtain ⟨hI1,k1,g1⟩:=B1.out _ b1;have s1:=b1.size)
      | (go_at_fn k;refine (HT.out W1 st b (by omega) HJb.out r1 hI1 (by omega) k1).mono ?_;rintro e W2 hA;rw [hF] at hA;obtain ⟨ad,c,rfl,l2,r2,i2,b2⟩:=hA;have k2:=k1.trans b2;have s2:=k2.size;have g2:=g1.keepB b2.size (fun j h1 h2=>b2.block j h2 (by omega) (by omega)))
      | (at_builtin;refine wpList_append_lies _ (by rfl) _ _ _ (by rfl) w.heap.size 24 i0 _ 4 56 Tryz.underlying22 hi0 hz0 hz1 hz2 rfl (by omega) _ Lc.length (rowN Lc) (by rfl) (row_bel g2.own (B0.alloc le0 _)) ⟨W2.heap.size,0,none⟩ 1 1 [.int .i64 x.1.k,.string x.1.t,.int .i64 x.1.n,.slice ad x.1.ks.length c] (by rfl) (by rfl) (World.news_of_block (cs:=#[.int .i64 x.1.k,.string x.1.t,.int .i64 x.1.n,.slice ad x.1.ks.length c]) (t:=24) (fr:=(0,0)) (heap_alloc_new W2 _)) (by simp [Value.oneCell']) (by omega) (by unfold maxLen;omega) (by omega) (by simp;omega) (W2.heap.size+1) (by simp) ?_;intro gg cap W3 hown3 hgrow hat hlt3;have g3:=g1.push' (by omega) b2.size (fun j h1 h2=>b2.block j h2 (by omega) (by omega)) l2 hgrow hat hown3;have k3 : Kept2 P.R M w W3:=kept_push k2 hgrow (fun g e=>(row_lt g2.own g e).1) ;have r3:=rd_push r2 hgrow (fun g e=>(row_lt g2.own g e).1) hR0 hbl0)
      | (go_at_call 51;have CS:=stands_any r3 s;rw [hq1] at CS;refine CS.mono ?_;rintro e W4 ⟨rfl,b4⟩))
     go_roundg (gk - 1)
     case rel=>exact ⟨x.2,a1,Lc ++ [(x.1,Value.slice ad x.1.ks.length c)],by show _=_;rw [HR3.out,List.map_append,List.map_append];rfl,by show _ ≤ _;omega,r3.bel b4,HI.out _ _ _ i2 (by omega) (by have:=b4.size;have:=hgrow.size;simp at this;omega) (fun j h1 h2=>(b4.block j (by have:=k3.size;omega)).trans ((hgrow.block j (by simp;omega) (fun e=>by have:=(row_lt g2.own j e.symm).1;omega)).trans (Below.heap_alloc _ _ _ (by omega)))),by simpa using g3.bel b4,k3.trans (.of (.of b4)),by refine ⟨by simp;omega,HJ.out _ _ _ _ _ HJb.out hF le0⟩⟩
     case measure=>omega
    | false =>
     have CW:=fun W (r : Rd W P L a1 o)=>want_any r sCm
     cases hq2 : isS L a1 sCm with
     | false =>
      have hres : res = .bad a1 60:=by rw [HR2.out,if_neg (by rw [hq1];decide),if_neg (by rw [hq2];decide)]
      clear HR2
      subst hres
      have hw : wantR L sCm a1 = .bad a1 60:=by unfold wantR;rw [hq2];rfl
      rw [hw] at CW
      unfold sCm at CW
      unfold AnsLS
      unfold AnsU at CW
      go_wp2_with (first
       | (go_at_call 40;refine CT.mono ?_;rintro e W1 ⟨rfl,r1,b1⟩;obtain ⟨hI1,k1,g1⟩:=B1.out _ b1;have s1:=b1.size)
       | (go_at_fn k;refine (HT.out W1 st b (by omega) HJb.out r1 hI1 (by omega) k1).mono ?_;rintro e W2 hA;rw [hF] at hA;obtain ⟨ad,c,rfl,l2,r2,i2,b2⟩:=hA;have k2:=k1.trans b2;have s2:=k2.size;have g2:=g1.keepB b2.size (fun j h1 h2=>b2.block j h2 (by omega) (by omega)))
       | (at_builtin;refine wpList_append_lies _ (by rfl) _ _ _ (by rfl) w.heap.size 24 i0 _ 4 56 Tryz.underlying22 hi0 hz0 hz1 hz2 rfl (by omega) _ Lc.length (rowN Lc) (by rfl) (row_bel g2.own (B0.alloc le0 _)) ⟨W2.heap.size,0,none⟩ 1 1 [.int .i64 x.1.k,.string x.1.t,.int .i64 x.1.n,.slice ad x.1.ks.length c] (by rfl) (by rfl) (World.news_of_block (cs:=#[.int .i64 x.1.k,.string x.1.t,.int .i64 x.1.n,.slice ad x.1.ks.length c]) (t:=24) (fr:=(0,0)) (heap_alloc_new W2 _)) (by simp [Value.oneCell']) (by omega) (by unfold maxLen;omega) (by omega) (by simp;omega) (W2.heap.size+1) (by simp) ?_;intro gg cap W3 hown3 hgrow hat hlt3;have g3:=g1.push' (by omega) b2.size (fun j h1 h2=>b2.block j h2 (by omega) (by omega)) l2 hgrow hat hown3;have k3 : Kept2 P.R M w W3:=kept_push k2 hgrow (fun g e=>(row_lt g2.own g e).1) ;have r3:=rd_push r2 hgrow (fun g e=>(row_lt g2.own g e).1) hR0 hbl0)
       | (go_at_call 51;have CS:=stands_any r3 s;rw [hq1] at CS;refine CS.mono ?_;rintro e W4 ⟨rfl,b4⟩)
       | (go_at_call 39;refine (CW _ (r3.bel b4)).mono ?_;rintro e W5 ⟨rfl,b5⟩))
      exact ⟨rfl,rfl,(k3.trans (.of (.of b4))).trans (.of b5)⟩
     | true =>
      have hlt:=isS_lt hq2
      have HR3 : Hid (res=listGS L s F (gk - 1) ((Lc ++ [(x.1,(default : Value))]).map (·.1)) x.2 (a1+1)):=by
       show _=_
       rw [HR2.out,if_neg (by rw [hq1];decide),if_pos hq2];simp
      clear HR2
      have hw : wantR L sCm a1 = .ok () (a1+1):=by unfold wantR;rw [hq2];rfl
      rw [hw] at CW
      unfold sCm at CW
      unfold AnsU at CW
      go_wp2_with (first
       | (go_at_call 40;refine CT.mono ?_;rintro e W1 ⟨rfl,r1,b1⟩;obtain ⟨hI1,k1,g1⟩:=B1.out _ b1;have s1:=b1.size)
       | (go_at_fn k;refine (HT.out W1 st b (by omega) HJb.out r1 hI1 (by omega) k1).mono ?_;rintro e W2 hA;rw [hF] at hA;obtain ⟨ad,c,rfl,l2,r2,i2,b2⟩:=hA;have k2:=k1.trans b2;have s2:=k2.size;have g2:=g1.keepB b2.size (fun j h1 h2=>b2.block j h2 (by omega) (by omega)))
       | (at_builtin;refine wpList_append_lies _ (by rfl) _ _ _ (by rfl) w.heap.size 24 i0 _ 4 56 Tryz.underlying22 hi0 hz0 hz1 hz2 rfl (by omega) _ Lc.length (rowN Lc) (by rfl) (row_bel g2.own (B0.alloc le0 _)) ⟨W2.heap.size,0,none⟩ 1 1 [.int .i64 x.1.k,.string x.1.t,.int .i64 x.1.n,.slice ad x.1.ks.length c] (by rfl) (by rfl) (World.news_of_block (cs:=#[.int .i64 x.1.k,.string x.1.t,.int .i64 x.1.n,.slice ad x.1.ks.length c]) (t:=24) (fr:=(0,0)) (heap_alloc_new W2 _)) (by simp [Value.oneCell']) (by omega) (by unfold maxLen;omega) (by omega) (by simp;omega) (W2.heap.size+1) (by simp) ?_;intro gg cap W3 hown3 hgrow hat hlt3;have g3:=g1.push' (by omega) b2.size (fun j h1 h2=>b2.block j h2 (by omega) (by omega)) l2 hgrow hat hown3;have k3 : Kept2 P.R M w W3:=kept_push k2 hgrow (fun g e=>(row_lt g2.own g e).1) ;have r3:=rd_push r2 hgrow (fun g e=>(row_lt g2.own g e).1) hR0 hbl0)
       | (go_at_call 51;have CS:=stands_any r3 s;rw [hq1] at CS;refine CS.mono ?_;rintro e W4 ⟨rfl,b4⟩)
       | (go_at_call 39;refine (CW _ (r3.bel b4)).mono ?_;rintro e W5 ⟨rfl,r5,b5⟩))
      go_roundg (gk - 1)
      case rel=>exact ⟨x.2,a1+1,Lc ++ [(x.1,Value.slice ad x.1.ks.length c)],by show _=_;rw [HR3.out,List.map_append,List.map_append];rfl,by show _ ≤ _;omega,r5,HI.out _ _ _ i2 (by omega) (by have:=b4.size;have:=b5.size;have:=hgrow.size;simp at this;omega) (fun j h1 h2=>(b5.block j (by have:=k3.size;have:=b4.size;omega) h2).trans ((b4.block j (by have:=k3.size;omega)).trans ((hgrow.block j (by simp;omega) (fun e=>by have:=(row_lt g2.own j e.symm).1;omega)).trans (Below.heap_alloc _ _ _ (by omega))))),by simpa using (g3.bel b4).keepB b5.size (fun j h1 h2=>b5.block j h2 (by omega)),(k3.trans (.of (.of b4))).trans (.of b5),by refine ⟨by simp;omega,HJ.out _ _ _ _ _ HJb.out hF (by omega)⟩⟩
      case measure=>omega
def nameF (L : List Tok) (st : Bool) (a : Nat) : Rs (Nd × Bool):=(exportOneM L a).bind fun x c=>.ok (x,st && isN L a) c
theorem names_here (L : List Tok) : ∀ (n : Nat) (acc : List Nd) (st : Bool) (a : Nat),listGS L sCc (nameF L) n acc st a=(listG L sCc (fun (_ : Unit) b=>(exportOneM L b).bind fun x c=>.ok (x,()) c) n acc () a).bind fun l b=>.ok (l,hereM L n st a) b
 | 0,_,_,_=>rfl
 | n+1,acc,st,a=>by
  rw [listGS,listG,hereM]
  by_cases h : isS L a sCc=true
  ·rw [if_pos h,if_pos h,if_pos h];rfl
  ·rw [if_neg h,if_neg h,if_neg h]
   unfold nameF
   cases e : exportOneM L a with
   | bad p er=>rfl
   | ok x a1 =>
    simp only [Rs.bind_ok]
    by_cases h1 : isS L a1 sCc=true
    ·rw [if_pos h1,if_pos h1,if_pos h1]
     exact names_here L n _ _ _
    ·rw [if_neg h1,if_neg h1,if_neg h1]
     by_cases h2 : isS L a1 sCm=true
     ·rw [if_pos h2,if_pos h2]
      exact names_here L n _ _ _
     ·rw [if_neg h2,if_neg h2];rfl
theorem exportOneM_ge (L : List Tok) (a : Nat) : Ge (a+1) (exportOneM L a):=fun x b e=>(exportOne_low e).2
theorem eg_names : ∀ args w,(callFunc 89 args).run Tryz.prog w = .ok (.enter 89 args) w:=Go.Proofs.enters_of Tryz.func89 (by kernel_rfl) rfl
structure NmI (P : Pl) (ph pr : Nat) (st : Bool) (W : World) : Prop where
 hh : W.heap[ph]?=some (.cells #[.bool st] 4 (0,0))
 hr : W.heap[pr]?=some (.cells #[.pointer (some ⟨P.R,0,none⟩)] 44 (0,0))
theorem names_any {P : Pl} {L : List Tok} (hs : Small L) {ph pr a : Nat} {st : Bool} {w : World} (h : Rd w P L a mE) (hi : NmI P ph pr st w) (h1 : ph ≠ P.R) (h2 : pr ≠ P.R) (h3 : ph ≠ pr) (h4 : 0 < L.length→P.bl ≠ ph) :
 Calls Tryz.prog 89 #[.pointer (some ⟨ph,0,none⟩),.pointer (some ⟨pr,0,none⟩)] w (AnsS P L mE ph (fun st W=>NmI P ph pr st W) w (nameF L st a)):=by
 have hRw:=h.lt
 have lh : ph < w.heap.size:=(Array.getElem?_eq_some_iff.1 hi.hh).1
 have lr : pr < w.heap.size:=(Array.getElem?_eq_some_iff.1 hi.hr).1
 obtain ⟨h0,a0,z0,M0⟩:=begin_cell h
 have HI : Hid (∀ W,KeptR P.R (w.alloc zN) W→NmI P ph pr st W):=fun W k=>⟨(k.block ph (by omega) h1).trans ((a0.block ph lh h1).trans hi.hh),(k.block pr (by omega) h2).trans ((a0.block pr lr h2).trans hi.hr)⟩
 have cl : ∀ {W : World} {q : Bool},NmI P ph pr q W→W.cell? ⟨ph,0,none⟩=some (.bool q)∧W.cell? ⟨pr,0,none⟩=some (.pointer (some ⟨P.R,0,none⟩))∧W.frozen? ⟨ph,0,none⟩=false:=fun {W q} k=>by simp [World.cell?,World.frozen?,k.hh,k.hr]
 have CL : Hid (∀ {W : World} {q : Bool},NmI P ph pr q W→W.cell? ⟨ph,0,none⟩=some (.bool q)∧W.cell? ⟨pr,0,none⟩=some (.pointer (some ⟨P.R,0,none⟩))∧W.frozen? ⟨ph,0,none⟩=false):=cl
 clear cl
 have fin : ∀ (W1 : World) (q : Bool),Below (w.alloc zN).heap.size (w.alloc zN) W1→NmI P ph pr q (W1.setCell ⟨ph,0,none⟩ (.bool q))∧Rd (W1.setCell ⟨ph,0,none⟩ (.bool q)) P L a mE∧Kept2 P.R ph w (W1.setCell ⟨ph,0,none⟩ (.bool q))∧(W1.setCell ⟨ph,0,none⟩ (.bool q)).heap.size=W1.heap.size:=fun W1 q b1=>by
  have i1:=HI.out _ (KeptR.of b1)
  refine ⟨⟨by simp [World.setCell,Array.getElem?_modify,i1.hh],(Below.heap_setCell _ _ _ _ (by show pr ≠ ph;omega)).trans i1.hr⟩,(h0.bel b1).other (by omega) h4 _ _,?_,by simp [World.setCell]⟩
  exact (Kept2.of (a0.trans (.of b1))).trans ⟨rfl,rfl,rfl,by simp [World.setCell],fun k hk _ hm=>Below.heap_setCell _ _ _ _ hm⟩
 have HF : Hid (∀ (W1 : World) (q : Bool),Below (w.alloc zN).heap.size (w.alloc zN) W1→NmI P ph pr q (W1.setCell ⟨ph,0,none⟩ (.bool q))∧Rd (W1.setCell ⟨ph,0,none⟩ (.bool q)) P L a mE∧Kept2 P.R ph w (W1.setCell ⟨ph,0,none⟩ (.bool q))∧(W1.setCell ⟨ph,0,none⟩ (.bool q)).heap.size=W1.heap.size):=fin
 clear fin
 obtain ⟨c1,c2,c3⟩:=CL.out (HI.out _ (KeptR.refl _ _))
 have C1:=standsId_any h0
 -- behind the store: the name is read
 have main : ∀ (W1 : World) (q : Bool),(st && isN L a)=q→Below (w.alloc zN).heap.size (w.alloc zN) W1→Calls Tryz.prog 90 #[.pointer (some ⟨P.R,0,none⟩)] (W1.setCell ⟨ph,0,none⟩ (.bool q)) (AnsN P L mE (W1.setCell ⟨ph,0,none⟩ (.bool q)) (exportOneM L a)):=fun W1 q _ b1=>exportOne_m hs (HF.out W1 q b1).2.1
 have HM : Hid (∀ (W1 : World) (q : Bool),(st && isN L a)=q→Below (w.alloc zN).heap.size (w.alloc zN) W1→Calls Tryz.prog 90 #[.pointer (some ⟨P.R,0,none⟩)] (W1.setCell ⟨ph,0,none⟩ (.bool q)) (AnsN P L mE (W1.setCell ⟨ph,0,none⟩ (.bool q)) (exportOneM L a))):=main
 clear main
 obtain ⟨res,hres⟩ : ∃ r,nameF L st a=r:=⟨_,rfl⟩
 have HR : Hid (nameF L st a=res):=hres
 rw [hres]
 clear hres
 cases st with
 | true =>
  go_enter Tryz.func89,Tryz.ntmps89
  go_wp2_with fail
  go_at_call 71
  refine C1.mono ?_
  rintro e W1 ⟨rfl,b1⟩
  obtain ⟨d1,d2,d3⟩:=CL.out (HI.out _ (KeptR.of b1))
  obtain ⟨i2,r2,k2,s2⟩:=HF.out W1 (isN L a) b1
  obtain ⟨d4,d5,d6⟩:=CL.out i2
  have C2:=HM.out W1 (isN L a) (by simp) b1
  have z1:=b1.size
  obtain ⟨q,hq⟩ : ∃ q,isN L a=q:=⟨_,rfl⟩
  rw [hq] at d4 d5 d6 i2 r2 k2 s2 C2 ⊢
  have HQ : Hid (isN L a=q):=hq
  clear hq
  go_wp2_with fail
  go_at_call 90
  refine C2.mono ?_
  rintro e W3 A3
  cases hx : exportOneM L a with
  | bad p er =>
   rw [hx] at A3
   obtain ⟨rfl,b3⟩:=A3
   obtain rfl : Rs.bad p er=res:=by rw [← HR.out,nameF,hx];rfl
   exact ⟨rfl,rfl,k2.trans (.of b3)⟩
  | ok x a1 =>
   rw [hx] at A3
   obtain ⟨ad,c,rfl,l3,r3,b3⟩:=A3
   have z3:=b3.size
   have m0 : W3.heap[w.heap.size]?=_:=(b3.block _ (by omega) (by omega)).trans ((Below.heap_setCell _ _ _ _ (by show w.heap.size ≠ ph;omega)).trans (M0.out _ (KeptR.of b1)))
   obtain ⟨⟨_,_,_,_⟩,_,_,_,_⟩:=t4 m0
   have i3 : NmI P ph pr q W3:=⟨(b3.block ph (by omega) h1).trans i2.hh,(b3.block pr (by omega) h2).trans i2.hr⟩
   obtain rfl : Rs.ok (x,q) a1=res:=by rw [← HR.out,nameF,hx];simp [Rs.bind,HQ.out]
   go_wp2
   refine bodyPost_ret (res_n4 Tryz.results89 (t4_set _ _ _ _ m0) rfl) rfl ?_
   refine ⟨ad,c,rfl,(l3.mono (T:=fun b=>w.heap.size+1 ≤ b) (fun b hb=>by omega)).set4 (by omega) (by omega) _ _ _ _,r3.set4 (by omega) (fun q=>by have:=h.x.lt q;omega) _ _ _ _,⟨(blk_set4 (by omega) _ _ _ _).trans i3.hh,(blk_set4 (by omega) _ _ _ _).trans i3.hr⟩,?_⟩
   have kk:=k2.trans (.of b3)
   exact ⟨kk.os,kk.tape,kk.output,by simp [World.setCell];have:=kk.size;omega,fun j hj h5 h6=>(blk_set4 (by omega) _ _ _ _).trans (kk.block j hj h5 h6)⟩
 | false =>
  obtain ⟨i2,r2,k2,s2⟩:=HF.out (w.alloc zN) false B0
  obtain ⟨d4,d5,d6⟩:=CL.out i2
  have C2:=HM.out (w.alloc zN) false (by simp) B0
  have mz:=M0.out _ (KeptR.refl _ _)
  clear HM HF HI CL M0 C1
  obtain ⟨WZ,hWZ⟩ : ∃ W,w.alloc zN=W:=⟨_,rfl⟩
  rw [hWZ] at c1 c2 c3 i2 r2 k2 s2 d4 d5 d6 C2 mz z0 h0 a0
  go_enter Tryz.func89,Tryz.ntmps89
  go_wp2_with fail
  go_at_call 90
  refine C2.mono ?_
  rintro e W3 A3
  cases hx : exportOneM L a with
  | bad p er =>
   rw [hx] at A3
   obtain ⟨rfl,b3⟩:=A3
   obtain rfl : Rs.bad p er=res:=by rw [← HR.out,nameF,hx];rfl
   exact ⟨rfl,rfl,k2.trans (.of b3)⟩
  | ok x a1 =>
   rw [hx] at A3
   obtain ⟨ad,c,rfl,l3,r3,b3⟩:=A3
   have z3:=b3.size
   have m0 : W3.heap[w.heap.size]?=_:=(b3.block _ (by omega) (by omega)).trans ((Below.heap_setCell _ _ _ _ (by show w.heap.size ≠ ph;omega)).trans mz)
   obtain ⟨⟨_,_,_,_⟩,_,_,_,_⟩:=t4 m0
   have i3 : NmI P ph pr false W3:=⟨(b3.block ph (by omega) h1).trans i2.hh,(b3.block pr (by omega) h2).trans i2.hr⟩
   obtain rfl : Rs.ok (x,false) a1=res:=by rw [← HR.out,nameF,hx];simp [Rs.bind]
   go_wp2
   refine bodyPost_ret (res_n4 Tryz.results89 (t4_set _ _ _ _ m0) rfl) rfl ?_
   refine ⟨ad,c,rfl,(l3.mono (T:=fun b=>w.heap.size+1 ≤ b) (fun b hb=>by omega)).set4 (by omega) (by omega) _ _ _ _,r3.set4 (by omega) (fun q=>by have:=h.x.lt q;omega) _ _ _ _,⟨(blk_set4 (by omega) _ _ _ _).trans i3.hh,(blk_set4 (by omega) _ _ _ _).trans i3.hr⟩,?_⟩
   have kk:=k2.trans (.of b3)
   exact ⟨kk.os,kk.tape,kk.output,by simp [World.setCell];have:=kk.size;omega,fun j hj h5 h6=>(blk_set4 (by omega) _ _ _ _).trans (kk.block j hj h5 h6)⟩
end Go.Proofs.YthfkfbcopinmiaaGreatDoor
