/- Own text. Names in scopes: what a use says is declared by a tree of that name (of the model;no program is named here). Names in scopes: what the form of a module or script gives besides;bounds of the document's walk (of the model;no program is named here). -/
import Derived.Test.YtfcocoadaajbjaaGreatDoorGc11
import Derived.Test.YtfcocoadaajbjaaGreatDoorGc05
set_option linter.unusedVariables false
set_option linter.unusedSimpArgs false
namespace Go.Proofs.YtfcocoadaajbjaaGreatDoor
open Go.RowKit
def Sit (W : List Nd) (p : Int) (f : List Nd) : Prop:=∃ i : Nat,p=i∧∃ r,W.drop i=f ++ r
theorem Sit.cut {W : List Nd} {p : Int} {f g : List Nd} (h : Sit W p (f ++ g)) : Sit W p f∧Sit W (p+f.length) g:=by
 obtain ⟨i,e,r,h⟩:=h
 refine ⟨⟨i,e,g ++ r,by rw [h,List.append_assoc]⟩,⟨i+f.length,by rw [e];push_cast;rfl,r,?_⟩⟩
 rw [← List.drop_drop,h,List.append_assoc,List.drop_left]
theorem Sit.kids {W : List Nd} {p : Int} {x : Nd} (h : Sit W p x.flat) : Sit W (p+1) (flats x.ks):=by
 rw [Nd.flat_eq] at h
 have:=(Sit.cut (f:=[x]) (g:=flats x.ks) h).2
 simpa using this
theorem Sit.cons {W : List Nd} {p : Int} {a : Nd} {r : List Nd} (h : Sit W p (flats (a :: r))) : Sit W p a.flat∧Sit W (p+a.size) (flats r):=by
 rw [flats_cons] at h
 have:=h.cut
 rw [flat_len_i] at this
 exact this
theorem Sit.at {W : List Nd} {p : Int} {x : Nd} (h : Sit W p x.flat) : ∃ i : Nat,p=i∧W[i]?=some x:=by
 obtain ⟨i,e,r,h⟩:=h
 refine ⟨i,e,?_⟩
 have : (W.drop i)[0]?=some x:=by rw [h,Nd.flat_eq];rfl
 rw [List.getElem?_drop] at this
 simpa using this
def DclO (W : List Nd) (u : Us) : Prop:=u.kd=1 ∨ ∃ i : Nat,u.dc=i∧1 ≤ i∧∃ d,W[i]?=some d∧((d.k=61∧d.ks ≠ []∧(headT d.ks).toList=u.nm.toList∧u.kd=4) ∨ (d.k ≠ 61∧d.k ≠ 63∧d.t.toList=u.nm.toList))
def TopO (W : List Nd) (T : List Tp) : Prop:=∀ t ∈ T,∃ i : Nat,t.at_=i∧1 ≤ i∧∃ d,W[i]?=some d∧d.k=t.kd∧(t.kd=61→d.ks ≠ []∧headT d.ks=t.nm)∧(t.kd=63→t.nm=dflt)∧(t.kd ≠ 61→t.kd ≠ 63→d.t=t.nm)
def LocO (W : List Nd) (L : List Lo) : Prop:=∀ l ∈ L,∃ i : Nat,l.pl=i∧1 ≤ i∧∃ d,W[i]?=some d∧d.k ≠ 61∧d.k ≠ 63∧d.t=l.nm
theorem LocO.app {W : List Nd} {L M : List Lo} (h : LocO W L) (k : LocO W M) : LocO W (L ++ M):=fun l hl=>(List.mem_append.1 hl).elim (h l) (k l)
theorem held_loc {W : List Nd} : ∀ (l : List Nd) (p : Int),1 ≤ p→Sit W p (flats l)→LocO W (held l p)
 | [],p,_,_=>fun l hl=>by cases hl
 | n :: l,p,hp,h=>by
  obtain ⟨h1,h2⟩:=h.cons
  have ih:=held_loc l (p+n.size) (by have:=n.size_pos;omega) h2
  unfold held
  by_cases q : decB n=true
  ·rw [if_pos q]
   intro c hc
   rcases List.mem_cons.1 hc with rfl | hc
   ·obtain ⟨i,e,hi⟩:=h1.at
    have q:=of_decide_eq_true q
    exact ⟨i,e,by omega,n,hi,by omega,by omega,rfl⟩
   ·exact ih c hc
  ·rw [if_neg q];exact ih
theorem top_mem {T : List Tp} {nm : ByteArray} {t : Tp} (h : topS T nm=some t) : t ∈ T∧t.nm.toList=nm.toList:=by
 unfold topS at h
 exact ⟨List.mem_of_find?_eq_some h,eqT_iff.1 (List.find?_some (p:=fun t : Tp=>eqT t.nm nm) h)⟩
theorem loc_mem {L : List Lo} {nm : ByteArray} {l : Lo} (h : locS L nm=some l) : l ∈ L∧l.nm.toList=nm.toList:=by
 unfold locS at h
 exact ⟨List.mem_reverse.1 (List.mem_of_find?_eq_some h),eqT_iff.1 (List.find?_some (p:=fun t : Lo=>eqT t.nm nm) h)⟩
theorem dcl_top {W : List Nd} {T : List Tp} (hT : TopO W T) {nm : ByteArray} {t : Tp} (h : topS T nm=some t) (hd : nm.toList ≠ dflt.toList) (u : Us) (h1 : u.dc=t.at_) (h2 : u.nm=nm) (h3 : u.kd=if t.kd=61 then 4 else 3) : DclO W u:=by
 obtain ⟨hm,hn⟩:=top_mem h
 obtain ⟨i,e,hi,d,hW,hk,c1,c2,c3⟩:=hT t hm
 refine .inr ⟨i,h1.trans e,hi,d,hW,?_⟩
 by_cases q : t.kd=61
 ·rw [if_pos q] at h3
  exact .inl ⟨hk.trans q,(c1 q).1,by rw [(c1 q).2,h2];exact hn,h3⟩
 ·have n63 : t.kd ≠ 63:=fun w=>hd (by rw [← hn,c2 w])
  exact .inr ⟨by rw [hk];exact q,by rw [hk];exact n63,by rw [c3 q n63,h2];exact hn⟩
theorem useV_dcl {W : List Nd} {T : List Tp} {L : List Lo} (hT : TopO W T) (hL : LocO W L) {nm : ByteArray} {p : Int} {x : Us × Bool} (hd : nm.toList ≠ dflt.toList) (h : useV T L nm p=some x) : DclO W x.1:=by
 unfold useV at h
 cases q : locS L nm with
 | some l =>
  rw [q] at h
  injection h with h
  subst h
  obtain ⟨hm,hn⟩:=loc_mem q
  obtain ⟨i,e,hi,d,hW,c1,c2,c3⟩:=hL l hm
  exact .inr ⟨i,e,hi,d,hW,.inr ⟨c1,c2,by rw [c3];exact hn⟩⟩
 | none =>
  rw [q] at h
  dsimp only at h
  cases w : topS T nm with
  | some t =>
   rw [w] at h
   dsimp only at h
   by_cases z : t.kd=46
   ·rw [if_pos z] at h;cases h
   ·rw [if_neg z] at h;injection h with h;subst h;exact dcl_top hT w hd _ rfl rfl rfl
  | none =>
   rw [w] at h
   dsimp only at h
   by_cases z : bltB nm=true
   ·rw [if_pos z] at h;injection h with h;subst h;exact .inl rfl
   ·rw [if_neg z] at h;cases h
theorem useT_dcl {W : List Nd} {T : List Tp} (hT : TopO W T) {nm : ByteArray} {p : Int} {x : Us} (hd : nm.toList ≠ dflt.toList) (h : useT T nm p=some x) : DclO W x:=by
 unfold useT at h
 cases w : topS T nm with
 | some t =>
  rw [w] at h
  dsimp only at h
  by_cases z : t.kd=46 ∨ t.kd=42 ∨ t.kd=61
  ·rw [if_pos z] at h;injection h with h;subst h;exact dcl_top hT w hd _ rfl rfl rfl
  ·rw [if_neg z] at h;cases h
 | none=>rw [w] at h;cases h
theorem useX_dcl {W : List Nd} {T : List Tp} (hT : TopO W T) {nm : ByteArray} {p : Int} {x : Us} (hd : nm.toList ≠ dflt.toList) (h : useX T nm p=some x) : DclO W x:=by
 unfold useX at h
 cases w : topS T nm with
 | some t=>rw [w] at h;injection h with h;subst h;exact dcl_top hT w hd _ rfl rfl rfl
 | none=>rw [w] at h;cases h
mutual
def nmD : Nd→Prop
 | .mk k t n ks=>(k=6→ks=[])∧(k=6 ∨ k=20 ∨ (k=30∧plnB t=false)→t.toList ≠ dflt.toList)∧(k=64→t.toList=[]→∀ y ∈ ks,y.t.toList ≠ dflt.toList)∧(k ≠ 60→k ≠ 64→nmDs ks)
def nmDs : List Nd→Prop
 | []=>True
 | a :: r=>nmD a∧nmDs r
end
theorem usX_dcl {W : List Nd} {T : List Tp} (hT : TopO W T) : ∀ (l : List Nd) (p : Int) (us : List Us),(∀ y ∈ l,y.t.toList ≠ dflt.toList)→usX T l p=some us→∀ u ∈ us,DclO W u
 | [],p,us,_,h=>by rw [usX] at h;injection h with h;subst h;exact fun u hu=>by cases hu
 | a :: r,p,us,hd,h=>by
  rw [usX] at h
  obtain ⟨v,w,e1,e2,rfl⟩:=seq2_some h
  cases q : useX T a.t p with
  | none=>rw [q] at e1;cases e1
  | some x =>
   rw [q] at e1
   have e1 : some [x]=some v:=e1
   injection e1 with e1
   subst e1
   intro u hu
   rcases List.mem_append.1 hu with hu | hu
   ·rw [List.mem_singleton] at hu;subst hu;exact useX_dcl hT (hd a (by simp)) q
   ·exact usX_dcl hT r _ w (fun y hy=>hd y (by simp [hy])) e2 u hu
def DecN (W : List Nd) (T : List Tp) (x : Nd) : Prop:=nmD x→∀ L th ins p us,LocO W L→0 ≤ p→Sit W p x.flat→usN T L th ins x p=some us→∀ u ∈ us,DclO W u
def DecL (W : List Nd) (T : List Tp) (l : List Nd) : Prop:=nmDs l→∀ L th ins p us,LocO W L→0 ≤ p→Sit W p (flats l)→usL T L th ins l p=some us→∀ u ∈ us,DclO W u
theorem dec_mk {W : List Nd} {T : List Tp} (hT : TopO W T) (k : Int) (t : ByteArray) (n : Int) (ks : List Nd) (hk : DecL W T ks) (hh : ∀ a r,ks=a :: r→DecN W T a∧DecL W T r) : DecN W T (.mk k t n ks):=by
 intro hn L th ins p us hL hp hsit h
 rw [nmD] at hn
 obtain ⟨hn0,hn1,hn2,hn3⟩:=hn
 have hsk : Sit W (p+1) (flats ks):=hsit.kids
 have K : ∀ L th ins us,k ≠ 60→k ≠ 64→LocO W L→usL T L th ins ks (p+1)=some us→∀ u ∈ us,DclO W u:=fun L th ins us a b hL h=>hk (hn3 a b) L th ins (p+1) us hL (by omega) hsk h
 have one : ∀ {x : Us},DclO W x→∀ u ∈ [x],DclO W u:=fun hx u hu=>by rw [List.mem_singleton] at hu;subst hu;exact hx
 have no : ∀ u ∈ ([] : List Us),DclO W u:=fun u hu=>by cases hu
 have app : ∀ {a b : List Us},(∀ u ∈ a,DclO W u)→(∀ u ∈ b,DclO W u)→∀ u ∈ a ++ b,DclO W u:=fun ha hb u hu=>(List.mem_append.1 hu).elim (ha u) (hb u)
 rw [usN.eq_def] at h
 dsimp only at h
 by_cases q : k=6
 ·rw [if_pos q] at h
  cases w : useV T L t p with
  | none=>rw [w] at h;cases h
  | some x =>
   rw [w] at h
   have h : some [x.1]=some us:=h
   injection h with h
   subst h
   exact one (useV_dcl hT hL (hn1 (.inl q)) w)
 rw [if_neg q] at h
 by_cases q : k=20
 ·rw [if_pos q] at h
  obtain ⟨v,w,e1,e2,rfl⟩:=seq2_some h
  cases z : useV T L t p with
  | none=>rw [z] at e1;cases e1
  | some x =>
   rw [z] at e1
   have e1 : some [x.1]=some v:=e1
   injection e1 with e1
   subst e1
   exact app (one (useV_dcl hT hL (hn1 (.inr (.inl q))) z)) (K _ _ _ _ (by omega) (by omega) hL e2)
 rw [if_neg q] at h
 by_cases q : k=30
 ·rw [if_pos q] at h
  by_cases z : plnB t=true
  ·rw [if_pos z] at h;injection h with h;subst h;exact no
  ·rw [if_neg z] at h
   cases w : useT T t p with
   | none=>rw [w] at h;cases h
   | some x =>
    rw [w] at h
    have h : some [x]=some us:=h
    injection h with h
    subst h
    exact one (useT_dcl hT (hn1 (.inr (.inr ⟨q,by simpa using z⟩))) w)
 rw [if_neg q] at h
 by_cases q : k=18
 ·rw [if_pos q] at h
  cases ks with
  | nil=>injection h with h;subst h;exact no
  | cons a r =>
   obtain ⟨ha,hr⟩:=hh a r rfl
   have hs:=hn3 (by omega) (by omega)
   rw [nmDs] at hs
   dsimp only at h
   obtain ⟨s1,s2⟩:=hsk.cons
   by_cases z : a.k=6
   ·rw [if_pos z] at h
    obtain ⟨v,w,e1,e2,rfl⟩:=seq2_some h
    have had : a.t.toList ≠ dflt.toList:=by
     obtain ⟨k',t',n',ks'⟩:=a
     have:=hs.1
     rw [nmD] at this
     exact this.2.1 (.inl z)
    have hak : a.size=1:=by
     obtain ⟨k',t',n',ks'⟩:=a
     have:=hs.1
     rw [nmD] at this
     rw [Nd.size_eq,show (Nd.mk k' t' n' ks').ks=[] from this.1 z,sizes_nil]
    cases y : useV T L a.t (p+1) with
    | none=>rw [y] at e1;cases e1
    | some x =>
     rw [y] at e1
     have e1 : (if x.2=true then some [x.1] else none)=some v:=e1
     by_cases b : x.2=true
     ·rw [if_pos b] at e1
      injection e1 with e1
      subst e1
      refine app (one (useV_dcl hT hL had y)) ?_
      rw [hak] at s2
      have s2 : Sit W (p+2) (flats r):=by simpa [Int.add_assoc] using s2
      exact hr hs.2 L th ins (p+2) w hL (by omega) s2 e2
     ·rw [if_neg b] at e1;cases e1
   ·rw [if_neg z] at h
    obtain ⟨v,w,e1,e2,rfl⟩:=seq2_some h
    exact app (ha hs.1 L th ins (p+1) v hL (by omega) s1 e1) (hr hs.2 L th ins _ w hL (by omega) s2 e2)
 rw [if_neg q] at h
 by_cases q : k=7
 ·rw [if_pos q] at h
  cases th with
  | true=>injection h with h;subst h;exact no
  | false=>cases h
 rw [if_neg q] at h
 by_cases q : k=50
 ·rw [if_pos q] at h
  by_cases z : ins=true
  ·rw [if_pos z] at h;exact K _ _ _ _ (by omega) (by omega) hL h
  ·rw [if_neg z] at h;cases h
 rw [if_neg q] at h
 by_cases q : k=11 ∨ k=41 ∨ k=44 ∨ k=45
 ·rw [if_pos q] at h
  by_cases z : onceL [] (held (parK ks) (p+2))=true
  ·rw [if_pos z] at h
   refine K _ _ _ _ (by omega) (by omega) (hL.app ?_) h
   cases ks with
   | nil=>exact fun l hl=>by cases hl
   | cons a r =>
    have:=hsk.cons.1.kids
    exact held_loc a.ks (p+2) (by omega) (by simpa [Int.add_assoc] using this)
  ·rw [if_neg z] at h;cases h
 rw [if_neg q] at h
 by_cases q : k=43
 ·rw [if_pos q] at h;exact K _ _ _ _ (by omega) (by omega) hL h
 rw [if_neg q] at h
 by_cases q : k=52
 ·rw [if_pos q] at h
  by_cases z : onceL [] (held ks (p+1))=true
  ·rw [if_pos z] at h;exact K _ _ _ _ (by omega) (by omega) (hL.app (held_loc ks (p+1) (by omega) hsk)) h
  ·rw [if_neg z] at h;cases h
 rw [if_neg q] at h
 by_cases q60 : k=60
 ·rw [if_pos q60] at h;injection h with h;subst h;exact no
 rw [if_neg q60] at h
 by_cases q64 : k=64
 ·rw [if_pos q64] at h
  by_cases z : t.toList=[]
  ·rw [if_pos z] at h;exact usX_dcl hT ks (p+1) us (hn2 q64 z) h
  ·rw [if_neg z] at h;injection h with h;subst h;exact no
 rw [if_neg q64] at h
 exact K _ _ _ _ q60 q64 hL h
theorem decL_nil {W : List Nd} {T : List Tp} : DecL W T []:=fun _ L th ins p us _ _ _ h=>by rw [usL] at h;injection h with h;subst h;exact fun u hu=>by cases hu
theorem decL_cons {W : List Nd} {T : List Tp} {a : Nd} {r : List Nd} (ha : DecN W T a) (hr : DecL W T r) : DecL W T (a :: r):=fun hn L th ins p us hL hp hs h=>by
 rw [nmDs] at hn
 rw [usL] at h
 obtain ⟨v,w,e1,e2,rfl⟩:=seq2_some h
 obtain ⟨s1,s2⟩:=hs.cons
 intro u hu
 rcases List.mem_append.1 hu with hu | hu
 ·exact ha hn.1 L th ins p v hL hp s1 e1 u hu
 ·exact hr hn.2 L th ins _ w hL (by omega) s2 e2 u hu
theorem us_dcl {W : List Nd} {T : List Tp} (hT : TopO W T) (x : Nd) : DecN W T x :=
 @Nd.rec (DecN W T) (fun ks=>DecL W T ks∧∀ a r,ks=a :: r→DecN W T a∧DecL W T r) (fun k t n ks ih=>dec_mk hT k t n ks ih.1 ih.2)
  ⟨decL_nil,fun a r e=>by cases e⟩ (fun a r ha hr=>⟨decL_cons ha hr.1,fun a' r' e=>by injection e with e1 e2;subst e1 e2;exact ⟨ha,hr.1⟩⟩) x
theorem usL_dcl {W : List Nd} {T : List Tp} (hT : TopO W T) : ∀ l : List Nd,DecL W T l
 | []=>decL_nil
 | a :: r=>decL_cons (us_dcl hT a) (usL_dcl hT r)
theorem top1_o {W : List Nd} {x : Nd} {p it : Int} (hp : 1 ≤ p) (h : Sit W p x.flat) : TopO W (ptop1 x p it)∧∀ c ∈ ptop1 x p it,c.it=it:=by
 unfold ptop1
 by_cases q : (dclN x).toList=[]
 ·rw [if_pos q];exact ⟨fun c hc=>(by cases hc),fun c hc=>(by cases hc)⟩
 rw [if_neg q]
 constructor
 ·intro c hc
  rw [List.mem_singleton] at hc
  subst hc
  obtain ⟨i,e,hi⟩:=h.at
  refine ⟨i,e,by omega,x,hi,rfl,fun w=>?_,fun w=>?_,fun w1 w2=>?_⟩
  ·obtain ⟨k,t,n,ks⟩:=x
   have w : k=61:=w
   subst w
   have hd : dclN (.mk 61 t n ks)=headT ks:=rfl
   rw [hd] at q ⊢
   refine ⟨fun e=>q ?_,rfl⟩
   have e : ks=[]:=e
   rw [e]
   exact no_bytes
  ·obtain ⟨k,t,n,ks⟩:=x
   have w : k=63:=w
   subst w
   cases ks with
   | nil=>rfl
   | cons a r =>
    have hd : dclN (.mk 63 t n (a :: r))=if isDecl a.k=true∧a.t.toList ≠ [] then ⟨#[]⟩ else dflt:=rfl
    dsimp only at q ⊢
    rw [hd] at q ⊢
    by_cases z : isDecl a.k=true∧a.t.toList ≠ []
    ·rw [if_pos z] at q;exact absurd no_bytes q
    ·rw [if_neg z]
  ·obtain ⟨k,t,n,ks⟩:=x
   have w1 : k ≠ 61:=w1
   have w2 : k ≠ 63:=w2
   have hd : dclN (.mk k t n ks)=if isDecl k=true then t else ⟨#[]⟩:=by
    show (if isDecl k=true then t else if k=61 then _ else if k=63 then _ else (⟨#[]⟩ : ByteArray))=_
    rw [if_neg w1,if_neg w2]
   dsimp only at q ⊢
   rw [hd] at q ⊢
   by_cases z : isDecl k=true
   ·rw [if_pos z];rfl
   ·rw [if_neg z] at q
    exact absurd no_bytes q
 ·intro c hc
  rw [List.mem_singleton] at hc
  subst hc
  rfl
theorem TopO.app {W : List Nd} {a b : List Tp} (h : TopO W a) (k : TopO W b) : TopO W (a ++ b):=fun t ht=>(List.mem_append.1 ht).elim (h t) (k t)
theorem topL_o {W : List Nd} : ∀ (l : List Nd) (p it : Int),1 ≤ p→Sit W p (flats l)→TopO W (ptopL l p it)∧∀ c ∈ ptopL l p it,c.it=it
 | [],p,it,_,_=>⟨fun c hc=>(by cases hc),fun c hc=>(by cases hc)⟩
 | y :: r,p,it,hp,h=>by
  obtain ⟨s1,s2⟩:=h.cons
  obtain ⟨a1,a2⟩:=top1_o (it:=it) hp s1
  obtain ⟨b1,b2⟩:=topL_o r (p+y.size) it (by have:=y.size_pos;omega) s2
  rw [ptopL]
  exact ⟨a1.app b1,fun c hc=>(List.mem_append.1 hc).elim (a2 c) (b2 c)⟩
theorem topI_o {W : List Nd} (x : Nd) (p it : Int) (hp : 1 ≤ p) (h : Sit W p x.flat) : TopO W (ptI x p it)∧∀ c ∈ ptI x p it,c.it=it:=by
 obtain ⟨k,t,n,ks⟩:=x
 obtain ⟨a1,a2⟩:=top1_o (it:=it) hp h
 rw [ptI]
 have hb : TopO W (if holdK k=true then ptopL ks (p+1) it else [])∧∀ c ∈ (if holdK k=true then ptopL ks (p+1) it else []),c.it=it:=by
  cases holdK k with
  | true=>rw [if_pos rfl];exact topL_o ks (p+1) it (by omega) h.kids
  | false=>rw [if_neg (by decide)];exact ⟨fun c hc=>(by cases hc),fun c hc=>(by cases hc)⟩
 exact ⟨a1.app hb.1,fun c hc=>(List.mem_append.1 hc).elim (a2 c) (hb.2 c)⟩
theorem ptL_o {W : List Nd} : ∀ (l : List Nd) (p it : Int),1 ≤ p→Sit W p (flats l)→TopO W (ptL l p it)∧∀ c ∈ ptL l p it,∃ j : Nat,j < l.length∧c.it=it+j∧p+sizes (l.take j) ≤ c.at_∧c.at_ < p+sizes (l.take (j+1))
 | [],p,it,_,_=>⟨fun c hc=>(by cases hc),fun c hc=>(by cases hc)⟩
 | y :: r,p,it,hp,h=>by
  obtain ⟨s1,s2⟩:=h.cons
  obtain ⟨a1,a2⟩:=topI_o y p it hp s1
  obtain ⟨b1,b2⟩:=ptL_o r (p+y.size) (it+1) (by have:=y.size_pos;omega) s2
  have hr:=rise_I y p it
  rw [ptL]
  refine ⟨a1.app b1,fun c hc=>?_⟩
  rcases List.mem_append.1 hc with hc | hc
  ·refine ⟨0,by simp,by rw [a2 c hc];simp,?_,?_⟩
   ·have:=(hr.1 c hc).1
    simpa [sizes_nil] using this
   ·have:=(hr.1 c hc).2
    simpa [sizes_cons,sizes_nil] using this
  ·obtain ⟨j,h1,h2,h3,h4⟩:=b2 c hc
   refine ⟨j+1,by simp;omega,by rw [h2];push_cast;omega,?_,?_⟩
   ·rw [List.take_succ_cons,sizes_cons];push_cast;omega
   ·rw [List.take_succ_cons,sizes_cons];push_cast;omega
def Shp (mod : Bool) (y : Nd) : Prop:=wholeP mod y=true ∨ (y.k=6∧y.ks=[])
theorem fitsL_no {mod : Bool} {l : List Nd} (h : fitsL mod [] 0 l=true) : l=[]:=by
 cases l with
 | nil=>rfl
 | cons b r =>
  rw [fitsL_cons,Bool.and_eq_true] at h
  have:=h.1
  rw [show ([] : List Int).headD 0=0 from rfl,fits_0] at this
  cases this
theorem whole_r {mod : Bool} {x : Nd} (h : wholeP mod x=true) : ∃ r,ruleK x.k=some r∧saysT mod r.t x.t=true∧r.ks.length ≤ x.ks.length∧fitsL mod r.ks r.r x.ks=true:=by
 obtain ⟨k,t,n,ks⟩:=x
 cases er : ruleK k with
 | none =>
  unfold wholeP at h
  change (match ruleK k with | none=>false | some r=>_)=true at h
  rw [er] at h;cases h
 | some r=>exact ⟨r,er,whole_rule er h⟩
theorem shp_kid {mod : Bool} {x y : Nd} (h : Shp mod x) (hy : y ∈ x.ks) : Shp mod y:=by
 rcases h with h | ⟨_,e⟩
 ·obtain ⟨r,er,h1,h2,h3⟩:=whole_r h
  obtain ⟨q,_,hq⟩:=fitsL_mem h3 y hy
  rw [fitsP_eq] at hq
  by_cases e : q=114∧y.k=6
  ·rw [if_pos e] at hq
   unfold folP at hq
   rw [Bool.and_eq_true] at hq
   exact .inr ⟨e.2,fitsL_no hq.2⟩
  ·rw [if_neg e,Bool.and_eq_true] at hq
   exact .inl hq.2
 ·rw [e] at hy;cases hy
theorem shp_some {mod : Bool} {x : Nd} (h : Shp mod x) (hk : x.k=61 ∨ x.k=62 ∨ x.k=63 ∨ x.k=65 ∨ x.k=18 ∨ isFn x.k=true) : x.ks ≠ []:=by
 rcases h with h | ⟨e,_⟩
 ·obtain ⟨r,er,_,h2,_⟩:=whole_r h
  intro e
  rw [e] at h2
  rcases hk with q | q | q | q | q | q
  ·rw [q] at er;cases er;exact absurd h2 (by decide)
  ·rw [q] at er;cases er;exact absurd h2 (by decide)
  ·rw [q] at er;cases er;exact absurd h2 (by decide)
  ·rw [q] at er;cases er;exact absurd h2 (by decide)
  ·rw [q] at er;cases er;exact absurd h2 (by decide)
  ·rcases of_decide_eq_true q with q | q | q | q <;> (rw [q] at er;cases er;exact absurd h2 (by decide))
 ·rw [e] at hk
  exact absurd hk (by decide)
theorem shp_exp {mod : Bool} {x : Nd} (h : Shp mod x) (hk : x.k=62 ∨ x.k=63) : ∀ a ∈ x.ks,a.k ≠ 61∧a.k ≠ 63:=by
 intro a ha
 rcases h with h | ⟨e,_⟩
 ·obtain ⟨r,er,_,h2,h3⟩:=whole_r h
  obtain ⟨q,hq,hf⟩:=fitsL_mem h3 a ha
  rcases hk with z | z
  ·rw [z] at er
   cases er
   have hq : q = 0 ∨ q = 111:=by rcases hq with hq | hq;· exact .inl hq
                                 ·exact .inr (List.mem_singleton.1 hq)
   rcases hq with rfl | rfl
   ·rw [fits_0] at hf;cases hf
   ·have:=(fits_w (by decide) hf).1
    have this : ((a.k=40 ∨ a.k=41) ∨ a.k=42) ∨ a.k=46:=by simpa [standsK] using this
    omega
  ·rw [z] at er
   cases er
   have hq : q = 0 ∨ q = 112:=by rcases hq with hq | hq;· exact .inl hq
                                 ·exact .inr (List.mem_singleton.1 hq)
   rcases hq with rfl | rfl
   ·rw [fits_0] at hf;cases hf
   ·have:=(fits_w (by decide) hf).1
    have this : (formK a.k=1 ∨ a.k=41) ∨ a.k=42:=by simpa [standsK] using this
    rcases this with (w | w) | w
    ·have:=f1K w
     simp only [List.mem_cons,List.not_mem_nil,or_false] at this
     omega
    ·omega
    ·omega
 ·omega
structure Dz (k : Int) (ks : List Nd) : Prop where
 asg : k=18→∃ a b,ks=[a,b]
 fn : isFn k=true→∃ a r,ks=a :: r∧a.k=12
inductive Dn : Nd→Prop where
 | mk (x : Nd) : Dz x.k x.ks→(∀ y ∈ x.ks,Dn y)→Dn x
theorem Dn.p {x : Nd} (h : Dn x) : Dz x.k x.ks:=by cases h;assumption
theorem Dn.kd {x : Nd} (h : Dn x) : ∀ y ∈ x.ks,Dn y:=by cases h;assumption
theorem shp_dz {mod : Bool} {x : Nd} (h : Shp mod x) : Dz x.k x.ks:=by
 rcases h with h | ⟨e,_⟩
 ·obtain ⟨r,er,_,h2,h3⟩:=whole_r h
  constructor
  ·intro z
   rw [z] at er
   cases er
   match hx : x.ks,h2,h3 with
   | [],h2,_=>exact absurd h2 (by decide)
   | [a],h2,_=>exact absurd h2 (by simp [exprR])
   | [a,b],_,_=>exact ⟨a,b,rfl⟩
   | a :: b :: c :: l,_,h3 =>
    exfalso
    have h3 : fitsL mod [103,101] 0 (a :: b :: c :: l)=true:=h3
    rw [fitsL_cons,Bool.and_eq_true] at h3
    have h3:=h3.2
    rw [List.tail_cons,fitsL_cons,Bool.and_eq_true] at h3
    have h3:=h3.2
    rw [List.tail_cons] at h3
    exact absurd (fitsL_no h3) (by simp)
  ·intro z
   have key : ∃ l,r.ks=12 :: l:=by
    rcases of_decide_eq_true z with q | q | q | q <;> (rw [q] at er;cases er;exact ⟨_,rfl⟩)
   obtain ⟨l,e⟩:=key
   rw [e] at h2 h3
   match hx : x.ks,h2,h3 with
   | [],h2,_=>simp at h2
   | a :: q,_,h3 =>
    rw [fitsL_cons,Bool.and_eq_true] at h3
    have:=(fits_w (mod:=mod) (q:=12) (y:=a) (by decide) h3.1).1
    exact ⟨a,q,rfl,by simp [standsK] at this;omega⟩
 ·rw [e]
  exact ⟨fun q=>absurd q (by decide),fun q=>absurd q (by decide)⟩
theorem shp_dn {mod : Bool} (x : Nd) : Shp mod x→Dn x:=by
 induction x using Nd.ind with
 | h x ih=>exact fun h=>.mk x (shp_dz h) fun y hy=>ih y hy (shp_kid h hy)
theorem id_nd {mod : Bool} {t : ByteArray} (h : idT mod t=true) : t.toList ≠ dflt.toList:=by
 intro e
 unfold idT at h
 rw [Bool.and_eq_true] at h
 have h:=h.2
 unfold isW at h
 rw [← ByteArray.toList_eq t,e,show dflt.toList=[100,101,102,97,117,108,116] from ByteArray.toList_eq _] at h
 exact absurd h (by decide)
theorem nmDs_of : ∀ {l : List Nd},(∀ y ∈ l,nmD y)→nmDs l
 | [],_=>by rw [nmDs];trivial
 | y :: l,h=>by
  rw [nmDs]
  exact ⟨h y (by simp),nmDs_of fun z hz=>h z (by simp [hz])⟩
theorem nm_inn (mod : Bool) (x : Nd) : ∀ p ∈ innP,fitsP mod p x=true→nmD x:=by
 induction x using Nd.ind with
 | h x ih =>
  intro p hp h
  obtain ⟨hs,hw⟩:=fits_w (fun e=>by subst e;exact absurd hp (by decide)) h
  obtain ⟨hk,_,_⟩:=stands_inn hp hs
  obtain ⟨r,er,h1,h2,h3⟩:=whole_r hw
  have hr:=rul_inn _ hk
  unfold rulOk at hr
  rw [er] at hr
  have hr:=List.all_eq_true.1 hr
  have kid : ∀ y ∈ x.ks,nmD y:=fun y hy=>by
   obtain ⟨q,hq,hf⟩:=fitsL_mem h3 y hy
   have hq':=hr q (by rcases hq with rfl | hq <;> simp_all)
   simp only [Bool.and_eq_true,decide_eq_true_eq] at hq'
   exact ih y hy q hq'.1 hf
  obtain ⟨k,t,n,ks⟩:=x
  have er : ruleK k=some r:=er
  have h1 : saysT mod r.t t=true:=h1
  have h3 : fitsL mod r.ks r.r ks=true:=h3
  have hk : k ∈ innK:=hk
  rw [nmD]
  refine ⟨fun e=>?_,fun e=>?_,fun e=>?_,fun _ _=>nmDs_of kid⟩
  ·subst e
   cases er
   exact fitsL_no h3
  ·rcases e with e | e | ⟨e,e2⟩
   ·subst e;cases er;have h1 : saysT mod 1 t=true:=h1;exact id_nd (mod:=mod) (by simpa [saysT] using h1)
   ·subst e;cases er;have h1 : saysT mod 1 t=true:=h1;exact id_nd (mod:=mod) (by simpa [saysT] using h1)
   ·subst e;cases er
    have h1 : saysT mod 5 t=true:=h1
    have h1 : (idT mod t=true ∨ t.toList=[110,117,108,108]) ∨ t.toList=[117,110,100,101,102,105,110,101,100]:=by simpa [saysT] using h1
    rcases h1 with (h1 | h1) | h1
    ·exact id_nd h1
    ·rw [h1,show dflt.toList=[100,101,102,97,117,108,116] from ByteArray.toList_eq _];decide
    ·rw [h1,show dflt.toList=[100,101,102,97,117,108,116] from ByteArray.toList_eq _];decide
  ·subst e
   exact absurd hk (by decide)
theorem nm_out {mod : Bool} {x : Nd} (hk : x.k=42 ∨ x.k=46 ∨ x.k=66) (hw : wholeP mod x=true) : nmD x:=by
 obtain ⟨r,er,h1,h2,h3⟩:=whole_r hw
 have hq : ∀ q,q=r.r ∨ q ∈ r.ks→q ∈ innP:=by
  rcases hk with e | e | e <;> (rw [e] at er;cases er)
  ·exact fun q hq=>by rcases hq with rfl | hq;· decide
                      ·cases hq
  ·exact fun q hq=>by rcases hq with rfl | hq;· decide
                      ·rcases List.mem_singleton.1 hq with rfl;decide
  ·exact fun q hq=>by rcases hq with rfl | hq;· decide
                      ·cases hq
 obtain ⟨k,t,n,ks⟩:=x
 have hk : k=42 ∨ k=46 ∨ k=66:=hk
 rw [nmD]
 refine ⟨fun e=>by omega,fun e=>by omega,fun e=>by omega,fun _ _=>nmDs_of fun y hy=>?_⟩
 obtain ⟨q,h4,h5⟩:=fitsL_mem h3 y hy
 exact nm_inn mod y q (hq q h4) h5
theorem nm_stmt {mod : Bool} {x : Nd} (hk : formK x.k=3) (hw : wholeP mod x=true) : nmD x:=by
 refine nm_inn mod x 107 (by decide) ?_
 rw [fitsP_eq,if_neg (by omega),Bool.and_eq_true]
 exact ⟨by simp [standsK,hk],hw⟩
theorem nm_item {mod : Bool} {x : Nd} (hk : formK x.k=3 ∨ formK x.k=4 ∨ x.k=66) (hw : wholeP mod x=true) : nmD x:=by
 rcases hk with hk | hk | hk
 ·exact nm_stmt hk hw
 ·have:=f4K hk
  simp only [List.mem_cons,List.not_mem_nil,or_false] at this
  rcases this with e | e | e | e | e | e
  ·exact nm_out (.inl e) hw
  ·exact nm_out (.inr (.inl e)) hw
  ·obtain ⟨k,t,n,ks⟩:=x
   have e : k=60:=e
   rw [nmD]
   exact ⟨fun w=>by omega,fun w=>by omega,fun w=>by omega,fun w=>absurd e w⟩
  ·obtain ⟨r,er,h1,h2,h3⟩:=whole_r hw
   obtain ⟨k,t,n,ks⟩:=x
   have e : k=62:=e
   subst e
   cases er
   obtain ⟨a,e,ha⟩:=one_kid h3 h2
   have e : ks=[a]:=e
   subst e
   obtain ⟨hs,hwa⟩:=fits_w (by decide) ha
   have hs : ((a.k=40 ∨ a.k=41) ∨ a.k=42) ∨ a.k=46:=by simpa [standsK] using hs
   rw [nmD]
   refine ⟨fun w=>by omega,fun w=>by omega,fun w=>by omega,fun _ _=>nmDs_of fun y hy=>?_⟩
   rw [List.mem_singleton] at hy
   subst hy
   rcases hs with ((q | q) | q) | q
   ·exact nm_stmt (by rw [q];decide) hwa
   ·exact nm_stmt (by rw [q];decide) hwa
   ·exact nm_out (.inl q) hwa
   ·exact nm_out (.inr (.inl q)) hwa
  ·obtain ⟨r,er,h1,h2,h3⟩:=whole_r hw
   obtain ⟨k,t,n,ks⟩:=x
   have e : k=63:=e
   subst e
   cases er
   obtain ⟨a,e,ha⟩:=one_kid h3 h2
   have e : ks=[a]:=e
   subst e
   obtain ⟨hs,hwa⟩:=fits_w (by decide) ha
   have hs : (formK a.k=1 ∨ a.k=41) ∨ a.k=42:=by simpa [standsK] using hs
   rw [nmD]
   refine ⟨fun w=>by omega,fun w=>by omega,fun w=>by omega,fun _ _=>nmDs_of fun y hy=>?_⟩
   rw [List.mem_singleton] at hy
   subst hy
   rcases hs with (q | q) | q
   ·refine nm_inn mod y 101 (by decide) ?_
    rw [fitsP_eq,if_neg (by omega),Bool.and_eq_true]
    exact ⟨by simp [standsK,q],hwa⟩
   ·exact nm_stmt (by rw [q];decide) hwa
   ·exact nm_out (.inl q) hwa
  ·have ha : agreesP mod x=true:=by
    unfold wholeP at hw
    cases er : ruleK x.k with
    | none=>rw [er] at hw;cases hw
    | some r=>rw [er,Bool.and_eq_true] at hw;exact hw.2
   obtain ⟨k,t,n,ks⟩:=x
   have e : k=64:=e
   subst e
   unfold agreesP at ha
   have ha : exportS mod (.mk 64 t n ks)=true:=ha
   rw [nmD]
   refine ⟨fun w=>by omega,fun w=>by omega,fun _ et y hy=>?_,fun _ w=>absurd rfl w⟩
   unfold exportS at ha
   change (if 0 ≤ starN ks then _ && (t.toList != []) && _ else (t.toList != []) || ks.all fun y=>idT mod y.t)=true at ha
   rw [et] at ha
   split at ha
   ·simp at ha
   ·simp only [bne_self_eq_false,Bool.false_or,List.all_eq_true] at ha
    exact id_nd (ha y hy)
 ·exact nm_out (.inr (.inr hk)) hw
theorem form_shape {x : Nd} (h : formP x=5 ∨ formP x=6) : ∃ mod,Shp mod x∧nmDs x.ks:=by
 obtain ⟨hk,_⟩:=form_items h
 unfold formP at h
 by_cases hw : wholeP (x.k == 68) x=true
 ·refine ⟨_,.inl hw,?_⟩
  obtain ⟨k,t,n,ks⟩:=x
  have hk : k=68 ∨ k=69:=hk
  rcases hk with rfl | rfl
  ·obtain ⟨h1,h2,h3⟩:=whole_rule (r:=⟨0,0,[],109⟩) rfl hw
   refine nmDs_of fun y hy=>?_
   obtain ⟨hs,hwy⟩:=fits_w (by decide) (fitsL_all h3 y hy)
   have hs : formK y.k=3 ∨ formK y.k=4:=by simpa [standsK] using hs
   exact nm_item (hs.imp id .inl) hwy
  ·obtain ⟨h1,h2,h3⟩:=whole_rule (r:=⟨0,0,[],110⟩) rfl hw
   refine nmDs_of fun y hy=>?_
   obtain ⟨hs,hwy⟩:=fits_w (by decide) (fitsL_all h3 y hy)
   have hs : (formK y.k=3 ∨ y.k=42) ∨ y.k=66:=by simpa [standsK] using hs
   rcases hs with (hs | hs) | hs
   ·exact nm_item (.inl hs) hwy
   ·exact nm_item (.inr (.inl (by rw [hs];decide))) hwy
   ·exact nm_item (.inr (.inr hs)) hwy
 ·rw [if_neg hw] at h;omega
mutual
def lcN : Nd→Nat
 | .mk k t n ks=>(if isFn k=true then (parK ks).length else if k=52 then ks.length else 0)+lcL ks
def lcL : List Nd→Nat
 | []=>0
 | a :: r=>max (lcN a) (lcL r)
end
theorem lcL_le : ∀ l : List Nd,(∀ x ∈ l,lcN x+1 ≤ x.size)→lcL l+l.length ≤ sizes l
 | [],_=>by rw [lcL,sizes_nil];simp
 | a :: r,h=>by
  rw [lcL,sizes_cons,List.length_cons]
  have h1:=h a (by simp)
  have h2:=lcL_le r (fun x hx=>h x (by simp [hx]))
  have h3:=sizes_len r
  omega
theorem lcL_mem : ∀ {l : List Nd} {x : Nd},x ∈ l→lcN x ≤ lcL l
 | y :: l,x,h=>by
  rw [lcL]
  rcases List.mem_cons.1 h with rfl | h
  ·omega
  ·have:=lcL_mem h;omega
theorem lc_le2 (x : Nd) : Dn x→lcN x+1 ≤ x.size∧∀ y ∈ x.ks,lcN y+1 ≤ y.size:=by
 induction x using Nd.ind with
 | h x ih =>
  intro h
  have hk : ∀ y ∈ x.ks,lcN y+1 ≤ y.size:=fun y hy=>(ih y hy (h.kd y hy)).1
  refine ⟨?_,hk⟩
  have hL:=lcL_le x.ks hk
  have hz:=h.p
  have hs:=x.size_eq
  have h2 : ∀ a ∈ x.ks,∀ y ∈ a.ks,lcN y+1 ≤ y.size:=fun a ha=>(ih a ha (h.kd a ha)).2
  obtain ⟨k,t,n,ks⟩:=x
  have hL : lcL ks+ks.length ≤ sizes ks:=hL
  have hs : (Nd.mk k t n ks).size=1+sizes ks:=hs
  have hz : Dz k ks:=hz
  have h2 : ∀ a ∈ ks,∀ y ∈ a.ks,lcN y+1 ≤ y.size:=h2
  have hk : ∀ y ∈ ks,lcN y+1 ≤ y.size:=hk
  rw [lcN]
  by_cases q : isFn k=true
  ·rw [if_pos q]
   obtain ⟨a,r,e,ha⟩:=hz.fn q
   subst e
   have hr:=lcL_le r (fun y hy=>hk y (by simp [hy]))
   have hak:=lcL_le a.ks (h2 a (by simp))
   have ea : lcN a=lcL a.ks:=by
    obtain ⟨k',t',n',ks'⟩:=a
    have ha : k'=12:=ha
    rw [lcN,if_neg (by rw [ha];decide),if_neg (by rw [ha];decide)]
    simp [Nd.ks]
   have sa:=a.size_eq
   have hp : (parK (a :: r)).length=a.ks.length:=rfl
   rw [hp,lcL]
   rw [sizes_cons] at hs
   have:=sizes_len r
   omega
  ·rw [if_neg q]
   by_cases q : k=52
   ·rw [if_pos q];omega
   ·rw [if_neg q];omega
theorem lc_le (x : Nd) (h : Dn x) : lcN x+1 ≤ x.size:=(lc_le2 x h).1
theorem fail_us (w : Dw) (p e : Int) : (w.fail p e).uses=w.uses:=by unfold Dw.fail;split <;> rfl
theorem useTop_len (w : Dw) (nm : ByteArray) (p : Int) (b : Bool) : (w.useTop nm p b).1.uses.length ≤ w.uses.length+1:=by
 unfold Dw.useTop
 cases topS w.tops nm with
 | some t=>dsimp only;by_cases q : b=true∧t.kd=46 <;> simp [q,fail_us]
 | none=>dsimp only;by_cases q : b=true∧bltB nm=true <;> simp [q,fail_us]
theorem use_len (w : Dw) (nm : ByteArray) (p : Int) : (w.use nm p).1.uses.length ≤ w.uses.length+1:=by
 unfold Dw.use
 cases locS w.locs nm with
 | some t=>simp
 | none=>exact useTop_len w nm p true
theorem useType_len (w : Dw) (nm : ByteArray) (p : Int) : (w.useType nm p).uses.length ≤ w.uses.length+1:=by
 unfold Dw.useType
 cases topS w.tops nm with
 | some t=>dsimp only;by_cases q : t.kd=46 ∨ t.kd=42 ∨ t.kd=61 <;> simp [q,fail_us]
 | none=>simp [fail_us]
theorem foldf_us (p : Int) (t : ByteArray) : ∀ (L : List Lo) (w : Dw),(L.foldl (fun v c=>if eqT c.nm t=true then v.fail p 90 else v) w).uses=w.uses
 | [],w=>rfl
 | c :: L,w=>by
  rw [List.foldl_cons,foldf_us p t L]
  split
  ·exact fail_us w p 90
  ·rfl
theorem hold_us : ∀ (l : List Nd) (p : Int) (f : Nat) (w : Dw),(Dw.hold l p f w).uses=w.uses
 | [],p,f,w=>rfl
 | n :: l,p,f,w=>by
  rw [Dw.hold]
  dsimp only
  rw [hold_us l]
  split
  ·exact foldf_us p n.t _ w
  ·rfl
def UL (x : Nd) : Prop:=∀ p w,(dwalk x p w).uses.length ≤ w.uses.length+x.size
def ULs (l : List Nd) : Prop:=∀ p w,(dkids l p w).uses.length ≤ w.uses.length+sizes l
theorem dexps_len : ∀ (l : List Nd) (p : Int) (w : Dw),(dexps l p w).uses.length ≤ w.uses.length+sizes l
 | [],p,w=>by rw [dexps];omega
 | a :: r,p,w=>by
  rw [dexps,sizes_cons]
  have h1:=dexps_len r (p+a.size) (w.useTop a.t p false).1
  have h2:=useTop_len w a.t p false
  have:=a.size_pos
  omega
theorem ul_mk (k : Int) (t : ByteArray) (n : Int) (ks : List Nd) (hk : ULs ks) (hh : ∀ a r,ks=a :: r→UL a∧ULs r) : UL (.mk k t n ks):=by
 intro p w
 rw [show (Nd.mk k t n ks).size=1+sizes ks from (Nd.mk k t n ks).size_eq,dwalk.eq_def]
 dsimp only
 by_cases q : k=6
 ·rw [if_pos q];have:=use_len w t p;omega
 rw [if_neg q]
 by_cases q : k=20
 ·rw [if_pos q];have:=use_len w t p;have:=hk (p+1) (w.use t p).1;omega
 rw [if_neg q]
 by_cases q : k=30
 ·rw [if_pos q]
  split
  ·omega
  ·have:=useType_len w t p;omega
 rw [if_neg q]
 by_cases q : k=18
 ·rw [if_pos q]
  cases ks with
  | nil=>dsimp only;omega
  | cons a r =>
   dsimp only
   obtain ⟨ha,hr⟩:=hh a r rfl
   rw [sizes_cons]
   have:=a.size_pos
   split
   ·have h1:=use_len w a.t (p+1)
    have h2:=hr (p+2) (if (w.use a.t (p+1)).2=true then (w.use a.t (p+1)).1 else (w.use a.t (p+1)).1.fail p 92)
    have h3 : (if (w.use a.t (p+1)).2=true then (w.use a.t (p+1)).1 else (w.use a.t (p+1)).1.fail p 92).uses.length=(w.use a.t (p+1)).1.uses.length:=by split <;> simp [fail_us]
    omega
   ·have h1:=ha (p+1) w
    have h2:=hr (p+1+a.size) (dwalk a (p+1) w)
    omega
 rw [if_neg q]
 by_cases q : k=7
 ·rw [if_pos q];split
  ·omega
  ·rw [fail_us];omega
 rw [if_neg q]
 by_cases q : k=50
 ·rw [if_pos q]
  have h2:=hk (p+1) (if w.ins=true then w else w.fail p 93)
  have h3 : (if w.ins=true then w else w.fail p 93).uses.length=w.uses.length:=by split <;> simp [fail_us]
  omega
 rw [if_neg q]
 by_cases q : k=11 ∨ k=41 ∨ k=44 ∨ k=45
 ·rw [if_pos q]
  dsimp only
  have h : ∀ (l : List Nd) (w0 : Dw),w0.uses=w.uses→(dkids ks (p+1) (Dw.hold l (p+2) w.locs.length w0)).uses.length ≤ w.uses.length+sizes ks:=fun l w0 e=>by
   have h:=hk (p+1) (Dw.hold l (p+2) w.locs.length w0)
   rw [hold_us,e] at h
   exact h
  exact Nat.le_trans (h _ _ rfl) (by omega)
 rw [if_neg q]
 by_cases q : k=43
 ·rw [if_pos q]
  dsimp only
  have h:=hk (p+1) { w with this:=true }
  dsimp only at h
  omega
 rw [if_neg q]
 by_cases q : k=52
 ·rw [if_pos q]
  dsimp only
  have h:=hk (p+1) (Dw.hold ks (p+1) w.locs.length w)
  rw [hold_us] at h
  omega
 rw [if_neg q]
 by_cases q : k=60
 ·rw [if_pos q];omega
 rw [if_neg q]
 by_cases q : k=64
 ·rw [if_pos q];split
  ·have:=dexps_len ks (p+1) w;omega
  ·omega
 rw [if_neg q]
 have:=hk (p+1) w
 omega
theorem uls_cons {a : Nd} {r : List Nd} (ha : UL a) (hr : ULs r) : ULs (a :: r):=fun p w=>by
 rw [dkids,sizes_cons]
 have h1:=ha p w
 have h2:=hr (p+a.size) (dwalk a p w)
 omega
theorem dw_len (x : Nd) : UL x :=
 @Nd.rec UL (fun ks=>ULs ks∧∀ a r,ks=a :: r→UL a∧ULs r) (fun k t n ks ih=>ul_mk k t n ks ih.1 ih.2)
  ⟨fun p w=>by rw [dkids];omega,fun a r e=>by cases e⟩ (fun a r ha hr=>⟨uls_cons ha hr.1,fun a' r' e=>by injection e with e1 e2;subst e1 e2;exact ⟨ha,hr.1⟩⟩) x
theorem dks_len : ∀ l : List Nd,ULs l
 | []=>fun p w=>by rw [dkids];omega
 | a :: r=>uls_cons (dw_len a) (dks_len r)
end Go.Proofs.YtfcocoadaajbjaaGreatDoor
