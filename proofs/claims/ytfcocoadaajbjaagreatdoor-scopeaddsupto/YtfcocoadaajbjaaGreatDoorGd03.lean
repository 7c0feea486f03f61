/- Own text. Names in scopes: the program's walk of what stands at the top (of the model;no program is named here). Names in scopes: the program's walk of an item,and of all items (of the model;no program is named here). Names in scopes: the document's tops (of the model;no program is named here). Names in scopes: the program's tops,and both walks are one (of the model;no program is named here). -/
import Derived.Test.YtfcocoadaajbjaaGreatDoorGd02
set_option linter.unusedVariables false
set_option linter.unusedSimpArgs false
namespace Go.Proofs.YtfcocoadaajbjaaGreatDoor
open Go.RowKit
def freshB : List ByteArray→List ByteArray→Bool
 | _,[]=>true
 | E,a :: r=>!(E.any (eqT · a)) && freshB (E ++ [a]) r
theorem fresh_app : ∀ (g E h : List ByteArray),freshB E (g ++ h)=(freshB E g && freshB (E ++ g) h)
 | [],E,h=>by simp [freshB]
 | a :: g,E,h=>by
  rw [List.cons_append,freshB,freshB,fresh_app g (E ++ [a]) h,List.append_assoc,Bool.and_assoc]
  rfl
def giv (x : Nd) : List ByteArray:=if (expN x).toList ≠ [] then [expN x] else []
def dok (F : List (List Dc)) (x : Nd) (p : Int) : Bool:=decide ((dclN x).toList=[] ∨ atF (F.headD []) (dclN x)=p)
def ResI (r : Except (Int × Int) Ps) (S : Ps) (ok : Bool) (g : List ByteArray) (us : Option (List Us)) : Prop :=
 (ok=true→freshB S.1 g=true→∀ u,us=some u→r = .ok (S.1 ++ g,S.2 ++ u))∧(ok=false ∨ freshB S.1 g=false ∨ us=none→∃ e,r = .error e)
theorem Res.toI {r : Except (Int × Int) Ps} {S : Ps} {u : Option (List Us)} (h : Res r S u) : ResI r S true [] u:=by
 constructor
 ·intro _ _ v hv
  subst hv
  have h : r=_:=h
  rw [h,List.append_nil]
 ·intro q
  rcases q with q | q | q
  ·cases q
  ·cases q
  ·subst q;exact h
theorem ResI.seq {r1 : Except (Int × Int) Ps} {f : Ps→Except (Int × Int) Ps} {S : Ps} {o1 o2 : Bool} {g1 g2 : List ByteArray} {u1 u2 : Option (List Us)} (h1 : ResI r1 S o1 g1 u1) (h2 : ∀ S1,ResI (f S1) S1 o2 g2 u2) :
 ResI (andR r1 f) S (o1 && o2) (g1 ++ g2) (seq2 u1 u2):=by
 by_cases c : o1=false ∨ freshB S.1 g1=false ∨ u1=none
 ·obtain ⟨e,he⟩:=h1.2 c
  have hr : andR r1 f = .error e:=by rw [he];rfl
  constructor
  ·intro q1 q2 v hv
   exfalso
   rw [Bool.and_eq_true] at q1
   rw [fresh_app,Bool.and_eq_true] at q2
   rcases c with c | c | c
   ·rw [c] at q1;cases q1.1
   ·rw [c] at q2;cases q2.1
   ·rw [c] at hv;cases hv
  ·exact fun _=>⟨e,hr⟩
 ·have c1 : o1=true:=by cases o1 with | true=>rfl | false=>exact absurd (.inl rfl) c
  have c2 : freshB S.1 g1=true:=by
   cases w : freshB S.1 g1 with
   | true=>rfl
   | false=>exact absurd (.inr (.inl w)) c
  cases u1 with
  | none=>exact absurd (.inr (.inr rfl)) c
  | some u =>
   have e1:=h1.1 c1 c2 u rfl
   have hr : andR r1 f=f (S.1 ++ g1,S.2 ++ u):=by rw [e1];rfl
   have h3:=h2 (S.1 ++ g1,S.2 ++ u)
   rw [hr]
   constructor
   ·intro q1 q2 v hv
    rw [Bool.and_eq_true] at q1
    rw [fresh_app,Bool.and_eq_true] at q2
    cases u2 with
    | none=>cases hv
    | some v2 =>
     have hv : some (u ++ v2)=some v:=hv
     injection hv with hv
     subst hv
     rw [h3.1 q1.2 q2.2 v2 rfl,List.append_assoc,List.append_assoc]
   ·intro q
    refine h3.2 ?_
    rcases q with q | q | q
    ·rw [c1,Bool.true_and] at q;exact .inl q
    ·rw [fresh_app,c2,Bool.true_and] at q;exact .inr (.inl q)
    ·cases u2 with
     | none=>exact .inr (.inr rfl)
     | some v2=>cases q
theorem resI_nil (S : Ps) : ResI (.ok S) S true [] (some []):=(res_nil S).toI
theorem look_out {A : List Dc} {F : List (List Dc)} {pk : Int} {pt : ByteArray} {th rt : Bool} {x : Nd} {p : Int} {S : Ps} {u : Option (List Us)}
 (h : ∀ S1 : Ps,Res (if x.k=6∧pk ≠ 61∧pk ≠ 65 then pUse x.k p x.t F S1
 else if x.k=20 then pUse x.k p x.t F S1
 else if x.k=65∧pt.toList=[] then pUse x.k p x.t [A] S1
 else if x.k=30∧plnB x.t=false then pUse x.k p x.t [A] S1
 else if x.k=18∧fix1 F x.ks=true then .error (p,92)
 else if x.k=7∧th=false then .error (p,93)
 else if x.k=50∧rt=false then .error (p,93)
 else .ok S1) S1 u) : ResI (pLook A F pk pt th rt x p S) S (dok F x p) (giv x) u:=by
 unfold pLook
 by_cases c1 : (dclN x).toList ≠ []∧((fnd1 (F.headD []) (dclN x)).map (·.at_)).getD 0 ≠ p
 ·rw [if_pos c1]
  refine ⟨fun q=>?_,fun _=>⟨_,rfl⟩⟩
  exfalso
  have q:=of_decide_eq_true q
  exact q.elim c1.1 c1.2
 ·rw [if_neg c1]
  have hd : dok F x p=true:=by
   refine decide_eq_true ?_
   by_cases w : (dclN x).toList=[]
   ·exact .inl w
   ·refine .inr ?_
    by_cases z : atF (F.headD []) (dclN x)=p
    ·exact z
    ·exact absurd ⟨w,z⟩ c1
  rw [hd]
  by_cases c2 : (expN x).toList ≠ []
  ·have hg : giv x=[expN x]:=by unfold giv;rw [if_pos c2]
   rw [hg]
   by_cases c3 : S.1.any (eqT · (expN x))=true
   ·rw [if_pos ⟨c2,c3⟩]
    refine ⟨fun _ q=>?_,fun _=>⟨_,rfl⟩⟩
    exfalso
    rw [freshB,c3] at q
    cases q
   ·rw [if_neg (fun w=>c3 w.2),if_pos c2]
    have hS:=h (S.1 ++ [expN x],S.2)
    constructor
    ·intro _ _ v hv
     subst hv
     exact hS
    ·intro q
     rcases q with q | q | q
     ·cases q
     ·exfalso
      have : S.1.any (eqT · (expN x))=false:=by cases w : S.1.any (eqT · (expN x)) with | true=>exact absurd w c3 | false=>rfl
      rw [freshB,this,freshB] at q
      cases q
     ·subst q;exact hS
  ·have hg : giv x=[]:=by unfold giv;rw [if_neg c2]
   rw [hg,if_neg (fun w=>c2 w.1),if_neg c2]
   exact (h S).toI
def plainK (k : Int) : Prop:=k ≠ 6∧k ≠ 20∧k ≠ 30∧k ≠ 18∧k ≠ 7∧k ≠ 50
structure DflK (k : Int) : Prop where
 pl : plainK k
 nf : ¬ (k=11 ∨ k=41 ∨ k=44 ∨ k=45)
 n43 : k ≠ 43
 n52 : k ≠ 52
 n60 : k ≠ 60
 n64 : k ≠ 64
 n61 : k ≠ 61
 n65 : k ≠ 65
theorem seq2_l (u : Option (List Us)) : seq2 (some []) u=u:=by cases u <;> rfl
theorem seq2_r (u : Option (List Us)) : seq2 u (some [])=u:=by cases u <;> simp [seq2]
theorem look_plain {A : List Dc} {F : List (List Dc)} {pk : Int} {pt : ByteArray} {th rt : Bool} {x : Nd} {p : Int} {S : Ps} (h : plainK x.k) (h65 : x.k=65→pt.toList ≠ []) :
 ResI (pLook A F pk pt th rt x p S) S (dok F x p) (giv x) (some []):=by
 obtain ⟨h1,h2,h3,h4,h5,h6⟩:=h
 refine look_out (fun S1=>?_)
 rw [if_neg (fun w=>h1 w.1),if_neg h2,if_neg (fun w=>h65 w.1 w.2),if_neg (fun w=>h3 w.1),if_neg (fun w=>h4 w.1),if_neg (fun w=>h5 w.1),if_neg (fun w=>h6 w.1)]
 exact res_nil S1
theorem look_name {A : List Dc} {F : List (List Dc)} {pk : Int} {pt : ByteArray} {th rt : Bool} {x : Nd} {p : Int} {S : Ps} (h : x.k=6) (hp : pk=61 ∨ pk=65) :
 ResI (pLook A F pk pt th rt x p S) S (dok F x p) (giv x) (some []):=by
 refine look_out (fun S1=>?_)
 rw [h,if_neg (fun w=>hp.elim w.2.1 w.2.2),if_neg (by decide),if_neg (fun w=>absurd w.1 (by decide)),if_neg (fun w=>absurd w.1 (by decide)),if_neg (fun w=>absurd w.1 (by decide)),if_neg (fun w=>absurd w.1 (by decide)),if_neg (fun w=>absurd w.1 (by decide))]
 exact res_nil S1
theorem look_65 {A : List Dc} {T : List Tp} (hA : Alon A T) {F : List (List Dc)} {pk : Int} {pt : ByteArray} {th rt : Bool} {x : Nd} {p : Int} {S : Ps} (h : x.k=65) (hp : pt.toList=[]) :
 ResI (pLook A F pk pt th rt x p S) S (dok F x p) (giv x) ((useX T x.t p).map fun x=>[x]):=by
 refine look_out (fun S1=>?_)
 rw [h,if_neg (fun w=>absurd w.1 (by decide)),if_neg (by decide),if_pos ⟨rfl,hp⟩,useX_says hA]
 cases useX T x.t p with
 | none=>exact ⟨_,rfl⟩
 | some y=>rfl
theorem usN_dfl {T : List Tp} {L : List Lo} {th rt : Bool} {k : Int} {t : ByteArray} {n : Int} {ks : List Nd} {p : Int} (h : DflK k) : usN T L th rt (.mk k t n ks) p=usL T L th rt ks (p+1):=by
 obtain ⟨⟨h1,h2,h3,h4,h5,h6⟩,h7,h8,h9,h10,h11,h12,h13⟩:=h
 rw [usN.eq_def]
 dsimp only
 rw [if_neg h1,if_neg h2,if_neg h3,if_neg h4,if_neg h5,if_neg h6,if_neg h7,if_neg h8,if_neg h9,if_neg h10,if_neg h11]
theorem in_dfl {F : List (List Dc)} {th rt : Bool} {k : Int} {ks : List Nd} {p : Int} (hf : ¬ (k=11 ∨ k=41 ∨ k=44 ∨ k=45)) (h43 : k ≠ 43) (h52 : k ≠ 52) : inF F k ks p=F∧inT k th=th∧inR k rt=rt:=by
 have nfn : ¬ isFn k=true:=by unfold isFn;exact fun w=>hf (of_decide_eq_true w)
 refine ⟨?_,?_,?_⟩
 ·unfold inF;rw [if_neg nfn,if_neg h52]
 ·unfold inT
  rw [if_neg (fun w=>by rcases w with w | w | w;exact h43 w;exact hf (.inr (.inr (.inl w)));exact hf (.inr (.inr (.inr w)))),if_neg (fun w=>hf (.inr (.inl w)))]
 ·unfold inR;rw [if_neg nfn]
theorem pv_dfl {A : List Dc} {T : List Tp} {F : List (List Dc)} {L : List Lo} {pk : Int} {pt : ByteArray} {th rt : Bool} {k : Int} {t : ByteArray} {n : Int} {ks : List Nd} {p : Int} {S : Ps} {o : Bool} {g : List ByteArray} (h : DflK k)
 (hk : ∀ S1,ResI (pvs A F k t th rt ks (p+1) S1) S1 o g (usL T L th rt ks (p+1))) : ResI (pv A F pk pt th rt (.mk k t n ks) p S) S (dok F (.mk k t n ks) p && o) (giv (.mk k t n ks) ++ g) (usN T L th rt (.mk k t n ks) p):=by
 obtain ⟨e1,e2,e3⟩:=in_dfl (F:=F) (th:=th) (rt:=rt) (ks:=ks) (p:=p) h.nf h.n43 h.n52
 rw [pv_mk,usN_dfl h,e1,e2,e3,← seq2_l (usL T L th rt ks (p+1))]
 exact (look_plain (x:=.mk k t n ks) h.pl (fun w=>absurd w h.n65)).seq hk
def top1 (x : Nd) : Prop:=innN true x ∨ ∃ k t n ks,x = .mk k t n ks∧(k=42 ∨ k=46 ∨ k=66)∧innL false ks
theorem dfl_out {k : Int} (h : k=42 ∨ k=46 ∨ k=66) : DflK k:=by
 rcases h with rfl | rfl | rfl <;> exact ⟨by unfold plainK;decide,by decide,by decide,by decide,by decide,by decide,by decide,by decide⟩
theorem dfl_exp {k : Int} (h : k=62 ∨ k=63) : DflK k:=by
 rcases h with rfl | rfl <;> exact ⟨by unfold plainK;decide,by decide,by decide,by decide,by decide,by decide,by decide,by decide⟩
theorem pv_top1 {A : List Dc} {T : List Tp} (hA : Alon A T) {F : List (List Dc)} {L : List Lo} {pk : Int} {pt : ByteArray} {th rt : Bool} {x : Nd} {p : Int} {S : Ps} (hs : Says F T L) (hp : pk ≠ 61∧pk ≠ 65) (h : top1 x) :
 ResI (pv A F pk pt th rt x p S) S (dok F x p) (giv x) (usN T L th rt x p):=by
 rcases h with h | ⟨k,t,n,ks,rfl,hk,hi⟩
 ·obtain ⟨k,t,n,ks⟩:=x
  have ho:=h
  rw [innN] at ho
  obtain ⟨d1,d2,d3⟩:=dcl_inn (n:=n) ho.1
  have hg : giv (.mk k t n ks)=[]:=by unfold giv;rw [if_neg (by rw [d3];exact fun w=>w no_bytes)]
  rw [hg]
  cases q : dok F (.mk k t n ks) p with
  | true =>
   refine (pv_inner hA (.mk k t n ks) true F L pk pt th rt p S h hs hp (fun _ w=>?_)).toI
   have q:=of_decide_eq_true q
   rw [d1 w] at q
   exact q.elim (fun z=>absurd z (ho.1.dc w).2) id
  | false =>
   have q:=of_decide_eq_false q
   have c1 : (dclN (.mk k t n ks)).toList ≠ []∧((fnd1 (F.headD []) (dclN (.mk k t n ks))).map (·.at_)).getD 0 ≠ p:=⟨fun w=>q (.inl w),fun w=>q (.inr w)⟩
   refine ⟨fun w=>(by cases w),fun _=>⟨(p,90),?_⟩⟩
   rw [pv_mk]
   unfold pLook
   rw [if_pos c1]
   rfl
 ·have h2:=pv_dfl (A:=A) (T:=T) (F:=F) (L:=L) (pk:=pk) (pt:=pt) (th:=th) (rt:=rt) (n:=n) (t:=t) (S:=S) (p:=p) (o:=true) (g:=[]) (dfl_out hk)
   (fun S1=>(pvs_inner hA ks false F L k t th rt (p+1) S1 hi hs ⟨(dfl_out hk).n61,(dfl_out hk).n65⟩ (fun w=>by cases w)).toI)
  rw [Bool.and_true,List.append_nil] at h2
  exact h2
structure Leaf (a : Nd) : Prop where
 ks : a.ks=[]
 dc : (dclN a).toList=[]
 ex : (expN a).toList=[]
 k : a.k=6 ∨ (plainK a.k∧a.k ≠ 65)
theorem pv_leaf {A : List Dc} {F : List (List Dc)} {pk : Int} {pt : ByteArray} {th rt : Bool} {a : Nd} {p : Int} {S : Ps} (h : Leaf a) (hp : pk=61 ∨ pk=65) : ResI (pv A F pk pt th rt a p S) S true [] (some []):=by
 obtain ⟨k,t,n,ks⟩:=a
 have e : ks=[]:=h.ks
 subst e
 have hd : dok F (.mk k t n []) p=true:=decide_eq_true (.inl h.dc)
 have hg : giv (.mk k t n [])=[]:=by unfold giv;rw [if_neg (fun w=>w h.ex)]
 have h1 : ResI (pLook A F pk pt th rt (.mk k t n []) p S) S (dok F (.mk k t n []) p) (giv (.mk k t n [])) (some []):=by
  rcases h.k with q | q
  ·exact look_name q hp
  ·exact look_plain q.1 (fun w=>absurd w q.2)
 rw [hd,hg] at h1
 rw [pv_mk]
 exact h1.seq (f:=fun S1=>pvs A (inF F k [] p) k t (inT k th) (inR k rt) [] (p+1) S1) (fun S1=>by rw [pvs];exact resI_nil S1)
def okL (F : List (List Dc)) : List Nd→Int→Bool
 | [],_=>true
 | y :: r,p=>dok F y p && okL F r (p+y.size)
def gvL (l : List Nd) : List ByteArray:=l.flatMap giv
def one65 (k : Int) (y : Nd) : Prop:=∃ t n a,y = .mk k t n [a]∧Leaf a
theorem pv_imp {A : List Dc} {F : List (List Dc)} {pt : ByteArray} {th rt : Bool} {y : Nd} {p : Int} {S : Ps} (h : one65 61 y) : ResI (pv A F 60 pt th rt y p S) S (dok F y p) (giv y) (some []):=by
 obtain ⟨t,n,a,rfl,ha⟩:=h
 obtain ⟨e1,e2,e3⟩:=in_dfl (F:=F) (th:=th) (rt:=rt) (k:=61) (ks:=[a]) (p:=p) (by decide) (by decide) (by decide)
 rw [pv_mk,e1,e2,e3]
 have h1 : ResI (pLook A F 60 pt th rt (.mk 61 t n [a]) p S) S _ _ _:=look_plain (by show plainK 61;unfold plainK;decide) (fun w=>absurd w (by show ¬ (61 : Int)=65;decide))
 have h2:=h1.seq (f:=fun S1=>pvs A F 61 t th rt [a] (p+1) S1) (o2:=true && true) (g2:=[] ++ []) (u2:=seq2 (some []) (some [])) (fun S1=>by
  rw [pvs_cons]
  exact (pv_leaf ha (.inl rfl)).seq (fun S2=>by rw [pvs];exact resI_nil S2))
 simp only [Bool.and_true,List.append_nil] at h2
 exact h2
theorem pv_one {A : List Dc} {T : List Tp} (hA : Alon A T) {F : List (List Dc)} {pt : ByteArray} {th rt : Bool} {y : Nd} {p : Int} {S : Ps} (h : one65 65 y) :
 ResI (pv A F 64 pt th rt y p S) S (dok F y p) (giv y) (if pt.toList=[] then (useX T y.t p).map fun x=>[x] else some []):=by
 obtain ⟨t,n,a,rfl,ha⟩:=h
 obtain ⟨e1,e2,e3⟩:=in_dfl (F:=F) (th:=th) (rt:=rt) (k:=65) (ks:=[a]) (p:=p) (by decide) (by decide) (by decide)
 rw [pv_mk,e1,e2,e3]
 have h1 : ResI (pLook A F 64 pt th rt (.mk 65 t n [a]) p S) S (dok F (.mk 65 t n [a]) p) (giv (.mk 65 t n [a])) (if pt.toList=[] then (useX T t p).map fun x=>[x] else some []):=by
  by_cases q : pt.toList=[]
  ·rw [if_pos q];exact look_65 hA (x:=.mk 65 t n [a]) rfl q
  ·rw [if_neg q];exact look_plain (by show plainK 65;unfold plainK;decide) (fun _=>q)
 have h2:=h1.seq (f:=fun S1=>pvs A F 65 t th rt [a] (p+1) S1) (o2:=true && true) (g2:=[] ++ []) (u2:=seq2 (some []) (some [])) (fun S1=>by
  rw [pvs_cons]
  exact (pv_leaf ha (.inr rfl)).seq (fun S2=>by rw [pvs];exact resI_nil S2))
 rw [show seq2 (some []) (some [])=(some [] : Option (List Us)) from rfl,seq2_r] at h2
 simp only [Bool.and_true,List.append_nil] at h2
 exact h2
theorem pvs_imp {A : List Dc} {F : List (List Dc)} {pt : ByteArray} {th rt : Bool} : ∀ (l : List Nd) (p : Int) (S : Ps),(∀ y ∈ l,one65 61 y)→ResI (pvs A F 60 pt th rt l p S) S (okL F l p) (gvL l) (some [])
 | [],p,S,_=>by rw [pvs];exact resI_nil S
 | y :: l,p,S,h=>by
  rw [pvs_cons]
  exact (pv_imp (h y (by simp))).seq (fun S1=>pvs_imp l (p+y.size) S1 (fun z hz=>h z (by simp [hz])))
theorem pvs_one {A : List Dc} {T : List Tp} (hA : Alon A T) {F : List (List Dc)} {pt : ByteArray} {th rt : Bool} : ∀ (l : List Nd) (p : Int) (S : Ps),(∀ y ∈ l,one65 65 y)→ResI (pvs A F 64 pt th rt l p S) S (okL F l p) (gvL l) (if pt.toList=[] then usX T l p else some [])
 | [],p,S,_=>by
  rw [pvs,usX]
  have:=resI_nil S
  by_cases q : pt.toList=[]
  ·rw [if_pos q];exact this
  ·rw [if_neg q];exact this
 | y :: l,p,S,h=>by
  rw [pvs_cons]
  have h2:=(pv_one hA (F:=F) (pt:=pt) (th:=th) (rt:=rt) (p:=p) (S:=S) (h y (by simp))).seq (fun S1=>pvs_one hA (F:=F) (pt:=pt) (th:=th) (rt:=rt) l (p+y.size) S1 (fun z hz=>h z (by simp [hz])))
  by_cases q : pt.toList=[]
  ·rw [if_pos q,if_pos q] at h2
   rw [if_pos q,usX]
   exact h2
  ·rw [if_neg q,if_neg q] at h2
   rw [if_neg q]
   exact h2
def itm (x : Nd) : Prop:=top1 x ∨ (∃ k t n y,x = .mk k t n [y]∧(k=62 ∨ k=63)∧top1 y) ∨ (∃ t n ks,x = .mk 60 t n ks∧∀ y ∈ ks,one65 61 y) ∨ ∃ t n ks,x = .mk 64 t n ks∧∀ y ∈ ks,one65 65 y
def holdK (k : Int) : Bool:=decide (k=60 ∨ k=62 ∨ k=63 ∨ k=64)
def okI (F : List (List Dc)) : Nd→Int→Bool
 | .mk k t n ks,p=>dok F (.mk k t n ks) p && (!holdK k || okL F ks (p+1))
def gvI : Nd→List ByteArray
 | .mk k t n ks=>giv (.mk k t n ks) ++ if holdK k=true then gvL ks else []
theorem pv_itm {A : List Dc} {T : List Tp} (hA : Alon A T) {F : List (List Dc)} {L : List Lo} {pk : Int} {pt : ByteArray} {th rt : Bool} {x : Nd} {p : Int} {S : Ps} (hs : Says F T L) (hp : pk ≠ 61∧pk ≠ 65) (h : itm x) :
 ResI (pv A F pk pt th rt x p S) S (okI F x p) (gvI x) (usN T L th rt x p):=by
 rcases h with h | ⟨k,t,n,y,rfl,hk,hy⟩ | ⟨t,n,ks,rfl,hk⟩ | ⟨t,n,ks,rfl,hk⟩
 ·have h2:=pv_top1 hA (pk:=pk) (pt:=pt) (th:=th) (rt:=rt) (p:=p) (S:=S) hs hp h
  obtain ⟨k,t,n,ks⟩:=x
  have hh : holdK k=false:=by
   refine decide_eq_false ?_
   rcases h with h | ⟨k',t',n',ks',e,hk,hi⟩
   ·rw [innN] at h
    obtain ⟨n1,n2,n3,n4,n5,n6,n7,n8,n9⟩:=h.1.no
    rintro (w | w | w | w)
    ·exact n3 w
    ·exact n5 w
    ·exact n6 w
    ·exact n7 w
   ·injection e with e _ _ _
    subst e
    rcases hk with rfl | rfl | rfl <;> decide
  rw [okI,gvI,hh,if_neg (by decide),List.append_nil]
  simp only [Bool.not_false,Bool.true_or,Bool.and_true]
  exact h2
 ·have hh : holdK k=true:=by rcases hk with rfl | rfl <;> rfl
  have hD:=dfl_exp hk
  have h2:=pv_dfl (A:=A) (T:=T) (F:=F) (L:=L) (pk:=pk) (pt:=pt) (th:=th) (rt:=rt) (n:=n) (t:=t) (S:=S) (p:=p) (ks:=[y]) (o:=okL F [y] (p+1)) (g:=gvL [y]) hD (fun S1=>by
   rw [pvs_cons,usL]
   have h3:=(pv_top1 hA (pk:=k) (pt:=t) (th:=th) (rt:=rt) (p:=p+1) (S:=S1) hs ⟨hD.n61,hD.n65⟩ hy).seq (f:=fun S2=>pvs A F k t th rt [] (p+1+y.size) S2) (fun S2=>by rw [pvs];exact resI_nil S2)
   rw [usL]
   exact h3)
  rw [okI,gvI,hh,if_pos rfl]
  exact h2
 ·obtain ⟨e1,e2,e3⟩:=in_dfl (F:=F) (th:=th) (rt:=rt) (k:=60) (ks:=ks) (p:=p) (by decide) (by decide) (by decide)
  rw [okI,gvI,show holdK 60=true from rfl,if_pos rfl,pv_mk,e1,e2,e3]
  have h1 : ResI (pLook A F pk pt th rt (.mk 60 t n ks) p S) S _ _ _:=look_plain (by show plainK 60;unfold plainK;decide) (fun w=>absurd w (by show ¬ (60 : Int)=65;decide))
  have h2:=h1.seq (fun S1=>pvs_imp (A:=A) (F:=F) (pt:=t) (th:=th) (rt:=rt) ks (p+1) S1 hk)
  have e : usN T L th rt (.mk 60 t n ks) p=some []:=by rw [usN.eq_def];simp
  rw [e]
  exact h2
 ·obtain ⟨e1,e2,e3⟩:=in_dfl (F:=F) (th:=th) (rt:=rt) (k:=64) (ks:=ks) (p:=p) (by decide) (by decide) (by decide)
  rw [okI,gvI,show holdK 64=true from rfl,if_pos rfl,pv_mk,e1,e2,e3]
  have h1 : ResI (pLook A F pk pt th rt (.mk 64 t n ks) p S) S _ _ _:=look_plain (by show plainK 64;unfold plainK;decide) (fun w=>absurd w (by show ¬ (64 : Int)=65;decide))
  have h2:=h1.seq (fun S1=>pvs_one hA (F:=F) (pt:=t) (th:=th) (rt:=rt) ks (p+1) S1 hk)
  rw [seq2_l] at h2
  have e : usN T L th rt (.mk 64 t n ks) p=if t.toList=[] then usX T ks (p+1) else some []:=by rw [usN.eq_def];simp
  rw [e]
  exact h2
def okIs (F : List (List Dc)) : List Nd→Int→Bool
 | [],_=>true
 | y :: r,p=>okI F y p && okIs F r (p+y.size)
theorem pvs_itm {A : List Dc} {T : List Tp} (hA : Alon A T) {F : List (List Dc)} {L : List Lo} {pk : Int} {pt : ByteArray} {th rt : Bool} (hs : Says F T L) (hp : pk ≠ 61∧pk ≠ 65) : ∀ (l : List Nd) (p : Int) (S : Ps),(∀ y ∈ l,itm y) →
 ResI (pvs A F pk pt th rt l p S) S (okIs F l p) (l.flatMap gvI) (usL T L th rt l p)
 | [],p,S,_=>by rw [pvs,usL];exact resI_nil S
 | y :: l,p,S,h=>by
  rw [pvs_cons,usL]
  exact (pv_itm hA hs hp (h y (by simp))).seq (fun S1=>pvs_itm hA hs hp l (p+y.size) S1 (fun z hz=>h z (by simp [hz])))
def Dw.declare (w : Dw) (nm : ByteArray) (kd p it : Int) (cn : Bool) : Dw:=match topS w.tops nm with
 | some _=>w.fail p 90
 | none=>{ w with tops:=w.tops ++ [⟨nm,kd,p,it,cn⟩] }
def Dw.give (w : Dw) (nm : ByteArray) (p : Int) : Dw :=
 let w0:=w.exs.foldl (fun v c=>if eqT c nm=true then v.fail p 90 else v) w
 { w0 with exs:=w0.exs ++ [nm] }
def dtop0 : Nd→Int→Int→Dw→Dw
 | .mk k t n ks,p,it,w=>if isDecl k=true then w.declare t k p it (!decide (k=40∧n=0)) else w
def dimp : List Nd→Int→Int→Dw→Dw
 | [],_,_,w=>w
 | y :: r,p,it,w=>dimp r (p+y.size) it (w.declare (headT y.ks) 61 p it true)
def gv1 (y : Nd) : List ByteArray:=if headK y.ks=6 then [headT y.ks] else if y.t.toList=[42] then [] else [y.t]
def dgiv : List Nd→Int→Dw→Dw
 | [],_,w=>w
 | y :: r,p,w=>dgiv r (p+y.size) (if headK y.ks=6 then w.give (headT y.ks) p else if y.t.toList=[42] then w else w.give y.t p)
def dtop : Nd→Int→Int→Dw→Dw
 | .mk k t n ks,p,it,w=>if isDecl k=true then w.declare t k p it (!decide (k=40∧n=0))
  else if k=62 then (match ks with | []=>w | a :: _=>dtop0 a (p+1) it (w.give a.t p))
  else if k=63 then (match ks with | []=>w | a :: _=>if a.k=41 ∨ a.k=42 then dtop0 a (p+1) it (w.give dflt p) else (w.give dflt p).declare dflt 63 p it true)
  else if k=60 then dimp ks (p+1) it w else if k=64 then dgiv ks (p+1) w else w
def dtops : List Nd→Int→Int→Dw→Dw
 | [],_,_,w=>w
 | y :: r,p,it,w=>dtops r (p+y.size) (it+1) (dtop y p it w)
def dec0 : Nd→Int→Int→List Tp
 | .mk k t n ks,p,it=>if isDecl k=true then [⟨t,k,p,it,!decide (k=40∧n=0)⟩] else []
def impD : List Nd→Int→Int→List Tp
 | [],_,_=>[]
 | y :: r,p,it=>⟨headT y.ks,61,p,it,true⟩ :: impD r (p+y.size) it
def ddI : Nd→Int→Int→List Tp
 | .mk k t n ks,p,it=>if isDecl k=true then [⟨t,k,p,it,!decide (k=40∧n=0)⟩]
  else if k=62 then (match ks with | []=>[] | a :: _=>dec0 a (p+1) it)
  else if k=63 then (match ks with | []=>[] | a :: _=>if a.k=41 ∨ a.k=42 then dec0 a (p+1) it else [⟨dflt,63,p,it,true⟩])
  else if k=60 then impD ks (p+1) it else []
def dgI : Nd→List ByteArray
 | .mk k t n ks=>if isDecl k=true then [] else if k=62 then (match ks with | []=>[] | a :: _=>[a.t])
  else if k=63 then (match ks with | []=>[] | a :: _=>[dflt]) else if k=60 then [] else if k=64 then ks.flatMap gv1 else []
def ddL : List Nd→Int→Int→List Tp
 | [],_,_=>[]
 | y :: r,p,it=>ddI y p it ++ ddL r (p+y.size) (it+1)
structure TD (w w' : Dw) (T : List Tp) (g : List ByteArray) : Prop where
 ok : freshB (w.tops.map (·.nm)) (T.map (·.nm))=true→freshB w.exs g=true→w'={ w with tops:=w.tops ++ T,exs:=w.exs ++ g }
 no : freshB (w.tops.map (·.nm)) (T.map (·.nm))=false ∨ freshB w.exs g=false→w'.er ≠ 0
 er : w.er ≠ 0→w'.er ≠ 0
theorem td_nil (w : Dw) : TD w w [] []:=⟨fun _ _=>by simp,fun q=>(by rcases q with q | q <;> cases q),fun h=>h⟩
theorem TD.seq {w w1 w2 : Dw} {T1 T2 : List Tp} {g1 g2 : List ByteArray} (h1 : TD w w1 T1 g1) (h2 : TD w1 w2 T2 g2) : TD w w2 (T1 ++ T2) (g1 ++ g2):=by
 by_cases c : freshB (w.tops.map (·.nm)) (T1.map (·.nm))=true∧freshB w.exs g1=true
 ·have e:=h1.ok c.1 c.2
  subst e
  refine ⟨fun q1 q2=>?_,fun q=>?_,fun q=>h2.er (h1.er q)⟩
  ·rw [List.map_append,fresh_app,Bool.and_eq_true] at q1
   rw [fresh_app,Bool.and_eq_true] at q2
   have:=h2.ok (by rw [show (_ : Dw).tops=w.tops ++ T1 from rfl,List.map_append];exact q1.2) q2.2
   rw [this]
   simp
  ·refine h2.no ?_
   rcases q with q | q
   ·rw [List.map_append,fresh_app,c.1,Bool.true_and] at q
    refine .inl ?_
    rw [show (_ : Dw).tops=w.tops ++ T1 from rfl,List.map_append]
    exact q
   ·rw [fresh_app,c.2,Bool.true_and] at q
    exact .inr q
 ·have hne : w1.er ≠ 0:=by
   refine h1.no ?_
   cases q1 : freshB (w.tops.map (·.nm)) (T1.map (·.nm)) with
   | false=>exact .inl rfl
   | true =>
    cases q2 : freshB w.exs g1 with
    | false=>exact .inr rfl
    | true=>exact absurd ⟨q1,q2⟩ c
  refine ⟨fun q1 q2=>?_,fun _=>h2.er hne,fun _=>h2.er hne⟩
  exfalso
  rw [List.map_append,fresh_app,Bool.and_eq_true] at q1
  rw [fresh_app,Bool.and_eq_true] at q2
  exact c ⟨q1.1,q2.1⟩
theorem fresh_one (E : List ByteArray) (a : ByteArray) : freshB E [a] = !(E.any (eqT · a)):=by simp [freshB]
theorem declare_td (w : Dw) (nm : ByteArray) (kd p it : Int) (cn : Bool) : TD w (w.declare nm kd p it cn) [⟨nm,kd,p,it,cn⟩] []:=by
 have hany : ((w.tops.map (·.nm)).any (eqT · nm))=(topS w.tops nm).isSome:=by
  unfold topS
  induction w.tops with
  | nil=>rfl
  | cons t r ih =>
   rw [List.map_cons,List.any_cons,List.find?_cons,ih]
   cases eqT t.nm nm <;> rfl
 unfold Dw.declare
 cases q : topS w.tops nm with
 | none =>
  rw [q] at hany
  refine ⟨fun _ _=>by simp,fun z=>?_,fun h=>h⟩
  rcases z with z | z
  ·rw [List.map_cons,List.map_nil,fresh_one,hany] at z
   cases z
  ·cases z
 | some t =>
  rw [q] at hany
  refine ⟨fun z=>?_,fun _=>fail_er w p 90 (by decide),fun _=>fail_er w p 90 (by decide)⟩
  rw [List.map_cons,List.map_nil,fresh_one,hany] at z
  cases z
theorem give_fold (nm : ByteArray) (p : Int) : ∀ (E : List ByteArray) (w : Dw),(E.any (eqT · nm)=false→E.foldl (fun v c=>if eqT c nm=true then Dw.fail v p 90 else v) w=w) ∧
 (E.any (eqT · nm)=true ∨ w.er ≠ 0→(E.foldl (fun v c=>if eqT c nm=true then Dw.fail v p 90 else v) w).er ≠ 0)
 | [],w=>⟨fun _=>rfl,fun h=>h.elim (fun z=>by cases z) id⟩
 | c :: E,w=>by
  obtain ⟨h1,h2⟩:=give_fold nm p E (if eqT c nm=true then w.fail p 90 else w)
  rw [List.any_cons,List.foldl_cons]
  cases q : eqT c nm with
  | true =>
   rw [q] at h1 h2
   exact ⟨fun z=>(by cases z),fun _=>h2 (.inr (fail_er w p 90 (by decide)))⟩
  | false =>
   rw [q] at h1 h2
   rw [Bool.false_or]
   exact ⟨h1,h2⟩
theorem give_td (w : Dw) (nm : ByteArray) (p : Int) : TD w (w.give nm p) [] [nm]:=by
 obtain ⟨h1,h2⟩:=give_fold nm p w.exs w
 unfold Dw.give
 refine ⟨fun _ z=>?_,fun z=>?_,fun h=>h2 (.inr h)⟩
 ·rw [fresh_one] at z
  have : w.exs.any (eqT · nm)=false:=by cases q : w.exs.any (eqT · nm) with | true=>rw [q] at z;cases z | false=>rfl
  simp only [h1 this,List.append_nil]
 ·rcases z with z | z
  ·cases z
  ·rw [fresh_one] at z
   have : w.exs.any (eqT · nm)=true:=by cases q : w.exs.any (eqT · nm) with | true=>rfl | false=>rw [q] at z;cases z
   exact h2 (.inl this)
theorem dtop0_td (x : Nd) (p it : Int) (w : Dw) : TD w (dtop0 x p it w) (dec0 x p it) []:=by
 obtain ⟨k,t,n,ks⟩:=x
 unfold dtop0 dec0
 dsimp only
 by_cases q : isDecl k=true
 ·rw [if_pos q,if_pos q];exact declare_td w t k p it _
 ·rw [if_neg q,if_neg q];exact td_nil w
theorem dimp_td : ∀ (l : List Nd) (p it : Int) (w : Dw),TD w (dimp l p it w) (impD l p it) []
 | [],p,it,w=>td_nil w
 | y :: r,p,it,w=>(declare_td w (headT y.ks) 61 p it true).seq (dimp_td r (p+y.size) it _)
theorem dgiv_td : ∀ (l : List Nd) (p : Int) (w : Dw),TD w (dgiv l p w) [] (l.flatMap gv1)
 | [],p,w=>td_nil w
 | y :: r,p,w=>by
  have h : TD w (if headK y.ks=6 then w.give (headT y.ks) p else if y.t.toList=[42] then w else w.give y.t p) [] (gv1 y):=by
   unfold gv1
   by_cases q : headK y.ks=6
   ·rw [if_pos q,if_pos q];exact give_td w _ p
   ·rw [if_neg q,if_neg q]
    by_cases z : y.t.toList=[42]
    ·rw [if_pos z,if_pos z];exact td_nil w
    ·rw [if_neg z,if_neg z];exact give_td w _ p
  exact h.seq (dgiv_td r (p+y.size) _)
theorem dtop_td (x : Nd) (p it : Int) (w : Dw) : TD w (dtop x p it w) (ddI x p it) (dgI x):=by
 obtain ⟨k,t,n,ks⟩:=x
 unfold dtop ddI dgI
 dsimp only
 by_cases q : isDecl k=true
 ·rw [if_pos q,if_pos q,if_pos q];exact declare_td w t k p it _
 rw [if_neg q,if_neg q,if_neg q]
 by_cases q : k=62
 ·rw [if_pos q,if_pos q,if_pos q]
  cases ks with
  | nil=>exact td_nil w
  | cons a r=>exact (give_td w a.t p).seq (dtop0_td a (p+1) it _)
 rw [if_neg q,if_neg q,if_neg q]
 by_cases q : k=63
 ·rw [if_pos q,if_pos q,if_pos q]
  cases ks with
  | nil=>exact td_nil w
  | cons a r =>
   dsimp only
   by_cases z : a.k=41 ∨ a.k=42
   ·rw [if_pos z,if_pos z];exact (give_td w dflt p).seq (dtop0_td a (p+1) it _)
   ·rw [if_neg z,if_neg z];exact (give_td w dflt p).seq (declare_td _ dflt 63 p it true)
 rw [if_neg q,if_neg q,if_neg q]
 by_cases q : k=60
 ·rw [if_pos q,if_pos q,if_pos q];exact dimp_td ks (p+1) it w
 rw [if_neg q,if_neg q,if_neg q]
 by_cases q : k=64
 ·rw [if_pos q,if_pos q];exact dgiv_td ks (p+1) w
 rw [if_neg q,if_neg q]
 exact td_nil w
theorem dtops_td : ∀ (l : List Nd) (p it : Int) (w : Dw),TD w (dtops l p it w) (ddL l p it) (l.flatMap dgI)
 | [],p,it,w=>td_nil w
 | y :: r,p,it,w=>(dtop_td y p it w).seq (dtops_td r (p+y.size) (it+1) _)
def ptop1 (x : Nd) (p it : Int) : List Tp:=if (dclN x).toList=[] then [] else [⟨dclN x,x.k,p,it,!frB x⟩]
def ptopL : List Nd→Int→Int→List Tp
 | [],_,_=>[]
 | y :: r,p,it=>ptop1 y p it ++ ptopL r (p+y.size) it
def ptI : Nd→Int→Int→List Tp
 | .mk k t n ks,p,it=>ptop1 (.mk k t n ks) p it ++ if holdK k=true then ptopL ks (p+1) it else []
def ptL : List Nd→Int→Int→List Tp
 | [],_,_=>[]
 | y :: r,p,it=>ptI y p it ++ ptL r (p+y.size) (it+1)
def lo1 (c : Tp) : Lo:=⟨c.nm,c.at_,false⟩
def dc1 (c : Tp) : Dc:=⟨c.nm,c.kd,c.at_,if c.kd=61 then 4 else 3,!c.cn⟩
theorem dok_iff {F : List (List Dc)} {x : Nd} {p it : Int} : dok F x p=true ↔ ∀ c ∈ ptop1 x p it,atF (F.headD []) c.nm=c.at_:=by
 unfold dok ptop1
 by_cases q : (dclN x).toList=[]
 ·rw [if_pos q]
  exact ⟨fun _ c hc=>(by cases hc),fun _=>decide_eq_true (.inl q)⟩
 ·rw [if_neg q]
  constructor
  ·intro h c hc
   have h:=of_decide_eq_true h
   rw [List.mem_singleton] at hc
   subst hc
   exact h.elim (fun w=>absurd w q) id
  ·intro h
   exact decide_eq_true (.inr (h _ (List.mem_singleton.2 rfl)))
theorem okL_iff {F : List (List Dc)} {it : Int} : ∀ (l : List Nd) (p : Int),okL F l p=true ↔ ∀ c ∈ ptopL l p it,atF (F.headD []) c.nm=c.at_
 | [],p=>⟨fun _ c hc=>(by cases hc),fun _=>rfl⟩
 | y :: r,p=>by
  rw [okL,ptopL,Bool.and_eq_true,dok_iff (it:=it),okL_iff r (p+y.size)]
  constructor
  ·rintro ⟨h1,h2⟩ c hc
   exact (List.mem_append.1 hc).elim (h1 c) (h2 c)
  ·intro h
   exact ⟨fun c hc=>h c (List.mem_append.2 (.inl hc)),fun c hc=>h c (List.mem_append.2 (.inr hc))⟩
theorem okI_iff {F : List (List Dc)} {it : Int} (x : Nd) (p : Int) : okI F x p=true ↔ ∀ c ∈ ptI x p it,atF (F.headD []) c.nm=c.at_:=by
 obtain ⟨k,t,n,ks⟩:=x
 rw [okI,ptI,Bool.and_eq_true,dok_iff (it:=it)]
 cases q : holdK k with
 | true =>
  rw [if_pos rfl]
  simp only [Bool.not_true,Bool.false_or]
  rw [okL_iff (it:=it) ks (p+1)]
  constructor
  ·rintro ⟨h1,h2⟩ c hc
   exact (List.mem_append.1 hc).elim (h1 c) (h2 c)
  ·intro h
   exact ⟨fun c hc=>h c (List.mem_append.2 (.inl hc)),fun c hc=>h c (List.mem_append.2 (.inr hc))⟩
 | false =>
  rw [if_neg (by decide),List.append_nil]
  exact ⟨fun h=>h.1,fun h=>⟨h,rfl⟩⟩
theorem okIs_iff {F : List (List Dc)} : ∀ (l : List Nd) (p it : Int),okIs F l p=true ↔ ∀ c ∈ ptL l p it,atF (F.headD []) c.nm=c.at_
 | [],p,it=>⟨fun _ c hc=>(by cases hc),fun _=>rfl⟩
 | y :: r,p,it=>by
  rw [okIs,ptL,Bool.and_eq_true,okI_iff (it:=it),okIs_iff r (p+y.size) (it+1)]
  constructor
  ·rintro ⟨h1,h2⟩ c hc
   exact (List.mem_append.1 hc).elim (h1 c) (h2 c)
  ·intro h
   exact ⟨fun c hc=>h c (List.mem_append.2 (.inl hc)),fun c hc=>h c (List.mem_append.2 (.inr hc))⟩
def Rise (a b : Int) (l : List Tp) : Prop:=(∀ c ∈ l,a ≤ c.at_∧c.at_ < b)∧l.Pairwise (fun x y=>x.at_ < y.at_)
theorem rise_nil (a b : Int) : Rise a b []:=⟨fun c hc=>(by cases hc),List.Pairwise.nil⟩
theorem Rise.app {a b c : Int} {l r : List Tp} (h1 : Rise a b l) (h2 : Rise b c r) (hab : a ≤ b) (hbc : b ≤ c) : Rise a c (l ++ r):=by
 refine ⟨fun x hx=>?_,List.pairwise_append.2 ⟨h1.2,h2.2,fun x hx y hy=>?_⟩⟩
 ·rcases List.mem_append.1 hx with hx | hx
  ·have:=h1.1 x hx;omega
  ·have:=h2.1 x hx;omega
 ·have:=h1.1 x hx
  have:=h2.1 y hy
  omega
theorem rise_top1 (x : Nd) (p it : Int) : Rise p (p+1) (ptop1 x p it):=by
 unfold ptop1
 by_cases q : (dclN x).toList=[]
 ·rw [if_pos q];exact rise_nil _ _
 ·rw [if_neg q]
  refine ⟨fun c hc=>?_,List.pairwise_singleton _ _⟩
  rw [List.mem_singleton] at hc
  subst hc
  show p ≤ p∧p < p+1
  omega
theorem Rise.wide {a b b' : Int} {l : List Tp} (h : Rise a b l) (hb : b ≤ b') : Rise a b' l:=⟨fun c hc=>by have:=h.1 c hc;omega,h.2⟩
theorem rise_topL : ∀ (l : List Nd) (p it : Int),Rise p (p+sizes l) (ptopL l p it)
 | [],p,it=>rise_nil _ _
 | y :: r,p,it=>by
  have h1:=y.size_pos
  have h2:=rise_topL r (p+y.size) it
  rw [ptopL,sizes_cons]
  have h3:=((rise_top1 y p it).wide (b':=p+y.size) (by omega)).app h2 (by omega) (by omega)
  exact h3.wide (by push_cast;omega)
theorem rise_I (x : Nd) (p it : Int) : Rise p (p+x.size) (ptI x p it):=by
 obtain ⟨k,t,n,ks⟩:=x
 have hs : ((Nd.mk k t n ks).size : Int)=1+sizes ks:=by rw [Nd.size];push_cast;rfl
 rw [ptI,hs]
 have h2 : Rise (p+1) (p+1+sizes ks) (if holdK k=true then ptopL ks (p+1) it else []):=by
  cases holdK k with
  | true=>rw [if_pos rfl];exact rise_topL ks (p+1) it
  | false=>rw [if_neg (by decide)];exact rise_nil _ _
 exact ((rise_top1 (.mk k t n ks) p it).app h2 (by omega) (by omega)).wide (by omega)
theorem rise_L : ∀ (l : List Nd) (p it : Int),Rise p (p+sizes l) (ptL l p it)
 | [],p,it=>rise_nil _ _
 | y :: r,p,it=>by
  have h1:=y.size_pos
  rw [ptL,sizes_cons]
  exact ((rise_I y p it).app (rise_L r (p+y.size) (it+1)) (by omega) (by omega)).wide (by push_cast;omega)
theorem fresh_once : ∀ (r G : List Tp),freshB (G.map (·.nm)) (r.map (·.nm))=onceL (G.map lo1) (r.map lo1)
 | [],G=>rfl
 | c :: r,G=>by
  have ih:=fresh_once r (G ++ [c])
  rw [List.map_append,List.map_append] at ih
  rw [List.map_cons,List.map_cons,freshB,onceL]
  have e : (G.map (·.nm)).any (eqT · c.nm)=inL (G.map lo1) (lo1 c).nm:=by
   unfold inL
   rw [List.any_map,List.any_map]
   rfl
  rw [e]
  exact congrArg _ ih
theorem fnd_dc (T : List Tp) (nm : ByteArray) : fnd1 (T.map dc1) nm=(topS T nm).map dc1:=by
 unfold fnd1 topS
 rw [List.find?_map]
 rfl
theorem at_dc (T : List Tp) (nm : ByteArray) : atF (T.map dc1) nm=atH (T.map lo1) nm:=by
 unfold atF atH
 rw [fnd_dc,List.find?_map]
 show _=((Option.map lo1 (topS T nm)).map (·.pl)).getD 0
 cases topS T nm <;> rfl
theorem ok_fresh (l : List Nd) (F : List (List Dc)) : okIs ((ptL l 1 0).map dc1 :: F) l 1=freshB [] ((ptL l 1 0).map (·.nm)):=by
 have hr:=(rise_L l 1 0).2
 have e:=fresh_once (ptL l 1 0) []
 rw [show freshB [] ((ptL l 1 0).map (·.nm))=_ from e,Bool.eq_iff_iff,okIs_iff l 1 0]
 constructor
 ·intro h
  refine at_once _ [] ?_ (fun c hc=>?_)
  ·rw [List.nil_append,List.pairwise_map];exact hr
  ·obtain ⟨x,hx,rfl⟩:=List.mem_map.1 hc
   have:=h x hx
   rw [List.nil_append,← at_dc]
   exact this
 ·intro h c hc
  have:=once_at _ [] h (lo1 c) (List.mem_map.2 ⟨c,hc,rfl⟩)
  rw [List.nil_append,← at_dc] at this
  exact this
def Blt (bl : List Dc) : Prop:=∀ nm,if bltB nm=true then ∃ d,fnd1 bl nm=some d∧d.kd=0∧d.at_=0∧d.us=1∧d.fr=false else fnd1 bl nm=none
theorem alon_dc (T : List Tp) : Alon (T.map dc1) T:=by
 intro nm
 cases q : topS T nm with
 | some t=>exact ⟨dc1 t,by rw [fndF,fnd_dc,q];rfl,rfl,rfl,rfl,rfl⟩
 | none=>show fndF _ nm=none;rw [fndF,fnd_dc,q];rfl
theorem says_dc (T : List Tp) {bl : List Dc} (hb : Blt bl) : Says [T.map dc1,bl] T []:=by
 intro nm
 show (match topS T nm with | some t=>_ | none=>_)
 cases q : topS T nm with
 | some t=>exact ⟨dc1 t,by rw [fndF,fnd_dc,q];rfl,rfl,rfl,rfl,rfl⟩
 | none =>
  have e : fndF [T.map dc1,bl] nm=fnd1 bl nm:=by
   rw [fndF,fnd_dc,q]
   show fndF [bl] nm=_
   rw [fndF]
   cases fnd1 bl nm <;> rfl
  have h:=hb nm
  show (if bltB nm=true then _ else _)
  rw [e]
  exact h
end Go.Proofs.YtfcocoadaajbjaaGreatDoor
