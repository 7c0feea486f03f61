/- Own text. Names in scopes: the program's walk (of the model;no program is named here). Names in scopes: a scope within another (of the model;no program is named here). Names in scopes: the program's walk tells the uses of an inner tree,or an error (of the model;no program is named here). Names in scopes: the program's walk of every inner tree (of the model;no program is named here). -/
import Derived.Test.YtfcocoadaajbjaaGreatDoorGd01
set_option linter.unusedVariables false
set_option linter.unusedSimpArgs false
namespace Go.Proofs.YtfcocoadaajbjaaGreatDoor
open Go.RowKit
structure Dc where
 nm : ByteArray
 kd : Int
 at_ : Int
 us : Int
 fr : Bool
def fnd1 (f : List Dc) (nm : ByteArray) : Option Dc:=f.find? fun d=>eqT d.nm nm
def fndF : List (List Dc)→ByteArray→Option Dc
 | [],_=>none
 | f :: r,nm=>match fnd1 f nm with
  | some d=>some d
  | none=>fndF r nm
def frB (n : Nd) : Bool:=decide (n.k=13 ∨ (n.k=40∧n.n=0))
def headT (ks : List Nd) : ByteArray:=match ks with | []=>⟨#[]⟩ | a :: _=>a.t
def headK (ks : List Nd) : Int:=match ks with | []=>0 | a :: _=>a.k
def isDecl (k : Int) : Bool:=decide (k=40 ∨ k=41 ∨ k=42 ∨ k=46 ∨ k=66)
def dflt : ByteArray:=⟨#[100,101,102,97,117,108,116]⟩
def dclN : Nd→ByteArray
 | .mk k t n ks=>if isDecl k=true then t else if k=61 then headT ks else if k=63 then (match ks with | []=>dflt | a :: _=>if isDecl a.k=true∧a.t.toList ≠ [] then ⟨#[]⟩ else dflt) else ⟨#[]⟩
def expN : Nd→ByteArray
 | .mk k t n ks=>if k=62 then (match ks with | []=>⟨#[]⟩ | a :: _=>dclN a) else if k=63 then dflt
  else if k=65 then (if headK ks=6 then headT ks else if t.toList=[42] then ⟨#[]⟩ else t) else ⟨#[]⟩
def typB (k : Int) : Bool:=decide (k=46 ∨ k=42 ∨ k=61)
abbrev Ps := List ByteArray × List Us
def pUse (k : Int) (p : Int) (nm : ByteArray) (F : List (List Dc)) (S : Ps) : Except (Int × Int) Ps:=match fndF F nm with
 | none=>.error (p,91)
 | some d=>if k=30∧typB d.kd=false then .error (p,91) else if (k=6 ∨ k=20)∧d.kd=46 then .error (p,91)
  else .ok (S.1,S.2 ++ [⟨p,d.us,d.at_,nm,decide (k=30)⟩])
def fix1 (F : List (List Dc)) (ks : List Nd) : Bool:=match ks with
 | []=>false
 | a :: _=>decide (a.k=6) && (match fndF F a.t with | some d=>!d.fr | none=>false)
def pLook (A : List Dc) (F : List (List Dc)) (pk : Int) (pt : ByteArray) (th rt : Bool) (x : Nd) (p : Int) (S : Ps) : Except (Int × Int) Ps :=
 if (dclN x).toList ≠ []∧((fnd1 (F.headD []) (dclN x)).map (·.at_)).getD 0 ≠ p then .error (p,90)
 else if (expN x).toList ≠ []∧S.1.any (eqT · (expN x))=true then .error (p,90)
 else
  let S1 : Ps:=if (expN x).toList ≠ [] then (S.1 ++ [expN x],S.2) else S
  if x.k=6∧pk ≠ 61∧pk ≠ 65 then pUse x.k p x.t F S1
  else if x.k=20 then pUse x.k p x.t F S1
  else if x.k=65∧pt.toList=[] then pUse x.k p x.t [A] S1
  else if x.k=30∧plnB x.t=false then pUse x.k p x.t [A] S1
  else if x.k=18∧fix1 F x.ks=true then .error (p,92)
  else if x.k=7∧th=false then .error (p,93)
  else if x.k=50∧rt=false then .error (p,93)
  else .ok S1
def frmP : List Nd→Int→List Dc
 | [],_=>[]
 | n :: l,p=>⟨n.t,n.k,p,2,frB n⟩ :: frmP l (p+n.size)
def frmB : List Nd→Int→List Dc
 | [],_=>[]
 | n :: l,p=>if (dclN n).toList ≠ [] then ⟨dclN n,n.k,p,2,frB n⟩ :: frmB l (p+n.size) else frmB l (p+n.size)
def isFn (k : Int) : Bool:=decide (k=11 ∨ k=41 ∨ k=44 ∨ k=45)
def inF (F : List (List Dc)) (k : Int) (ks : List Nd) (p : Int) : List (List Dc):=if isFn k=true then frmP (parK ks) (p+2) :: F else if k=52 then frmB ks (p+1) :: F else F
def inT (k : Int) (th : Bool) : Bool:=if k=43 ∨ k=44 ∨ k=45 then true else if k=41 then false else th
def inR (k : Int) (rt : Bool) : Bool:=if isFn k=true then true else rt
mutual
def pv (A : List Dc) : List (List Dc)→Int→ByteArray→Bool→Bool→Nd→Int→Ps→Except (Int × Int) Ps
 | F,pk,pt,th,rt,.mk k t n ks,p,S=>match pLook A F pk pt th rt (.mk k t n ks) p S with
  | .error e=>.error e
  | .ok S1=>pvs A (inF F k ks p) k t (inT k th) (inR k rt) ks (p+1) S1
def pvs (A : List Dc) : List (List Dc)→Int→ByteArray→Bool→Bool→List Nd→Int→Ps→Except (Int × Int) Ps
 | F,pk,pt,th,rt,[],p,S=>.ok S
 | F,pk,pt,th,rt,a :: r,p,S=>match pv A F pk pt th rt a p S with
  | .error e=>.error e
  | .ok S1=>pvs A F pk pt th rt r (p+a.size) S1
end
def SayL (d : Dc) (l : Lo) : Prop:=d.at_=l.pl∧d.us=2∧d.fr=l.fr∧d.kd ≠ 46
def SayT (d : Dc) (t : Tp) : Prop:=d.kd=t.kd∧d.at_=t.at_∧d.us=(if t.kd=61 then 4 else 3)∧d.fr = !t.cn
def Says (F : List (List Dc)) (T : List Tp) (L : List Lo) : Prop:=∀ nm,match locS L nm with
 | some l=>∃ d,fndF F nm=some d∧SayL d l
 | none=>match topS T nm with
  | some t=>∃ d,fndF F nm=some d∧SayT d t
  | none=>if bltB nm=true then ∃ d,fndF F nm=some d∧d.kd=0∧d.at_=0∧d.us=1∧d.fr=false else fndF F nm=none
def Alon (A : List Dc) (T : List Tp) : Prop:=∀ nm,match topS T nm with
 | some t=>∃ d,fndF [A] nm=some d∧SayT d t
 | none=>fndF [A] nm=none
theorem use_says {F : List (List Dc)} {T : List Tp} {L : List Lo} (h : Says F T L) {k : Int} (hk : k=6 ∨ k=20) (nm : ByteArray) (p : Int) (S : Ps) :
 (∀ x,useV T L nm p=some x→pUse k p nm F S = .ok (S.1,S.2 ++ [x.1])∧∀ d,fndF F nm=some d→d.fr=x.2)∧(useV T L nm p=none→pUse k p nm F S = .error (p,91)):=by
 have h30 : decide (k=30)=false:=by rcases hk with rfl | rfl <;> decide
 have n30 : ¬ k=30:=by rcases hk with rfl | rfl <;> decide
 have hn:=h nm
 unfold useV pUse
 cases hl : locS L nm with
 | some l =>
  rw [hl] at hn
  obtain ⟨d,e,h1,h2,h3,h4⟩:=hn
  simp only
  rw [e]
  simp only
  rw [if_neg (fun q=>n30 q.1),if_neg (fun q=>h4 q.2),h30,h1,h2]
  exact ⟨fun x hx=>by injection hx with hx;subst hx;exact ⟨rfl,fun d' hd=>by injection hd with hd;subst hd;exact h3⟩,fun q=>by cases q⟩
 | none =>
  rw [hl] at hn
  simp only at hn ⊢
  cases ht : topS T nm with
  | some t =>
   rw [ht] at hn
   obtain ⟨d,e,h1,h2,h3,h4⟩:=hn
   simp only
   rw [e]
   simp only
   have c1 : ¬ (k=30∧typB d.kd=false):=fun q=>n30 q.1
   rw [if_neg c1,h30]
   by_cases q : t.kd=46
   ·have c2 : (k=6 ∨ k=20)∧d.kd=46:=⟨hk,h1.trans q⟩
    rw [if_pos q,if_pos c2]
    exact ⟨(fun x hx=>by cases hx),fun _=>rfl⟩
   ·have c2 : ¬ ((k=6 ∨ k=20)∧d.kd=46):=fun w=>q (h1.symm.trans w.2)
    rw [if_neg q,if_neg c2,h2,h3]
    exact ⟨fun x hx=>by injection hx with hx;subst hx;exact ⟨rfl,fun d' hd=>by injection hd with hd;subst hd;exact h4⟩,fun q=>by cases q⟩
  | none =>
   rw [ht] at hn
   simp only at hn ⊢
   by_cases q : bltB nm=true
   ·rw [if_pos q] at hn ⊢
    obtain ⟨d,e,h1,h2,h3,h4⟩:=hn
    rw [e]
    simp only
    rw [if_neg (fun w=>n30 w.1),if_neg (fun w=>by rw [h1] at w;exact absurd w.2 (by decide)),h30,h2,h3]
    exact ⟨fun x hx=>by injection hx with hx;subst hx;exact ⟨rfl,fun d' hd=>by injection hd with hd;subst hd;exact h4⟩,fun q=>by cases q⟩
   ·rw [if_neg q] at hn ⊢
    rw [hn]
    exact ⟨(fun x hx=>by cases hx),fun _=>rfl⟩
theorem useT_says {A : List Dc} {T : List Tp} (h : Alon A T) (nm : ByteArray) (p : Int) (S : Ps) : pUse 30 p nm [A] S=match useT T nm p with | some x=>.ok (S.1,S.2 ++ [x]) | none=>.error (p,91):=by
 have hn:=h nm
 unfold useT pUse
 cases ht : topS T nm with
 | some t =>
  rw [ht] at hn
  obtain ⟨d,e,h1,h2,h3,h4⟩:=hn
  rw [e]
  simp only
  by_cases q : t.kd=46 ∨ t.kd=42 ∨ t.kd=61
  ·rw [if_pos q,if_neg (fun w=>by have:=w.2;unfold typB at this;rw [h1] at this;simp [q] at this),if_neg (fun w=>by rcases w.1 with w | w <;> cases w),h2,h3]
   rfl
  ·rw [if_neg q,if_pos ⟨by trivial,by unfold typB;rw [h1];simpa using q⟩]
 | none =>
  rw [ht] at hn
  simp only at hn ⊢
  rw [hn]
theorem useX_says {A : List Dc} {T : List Tp} (h : Alon A T) (nm : ByteArray) (p : Int) (S : Ps) : pUse 65 p nm [A] S=match useX T nm p with | some x=>.ok (S.1,S.2 ++ [x]) | none=>.error (p,91):=by
 have hn:=h nm
 unfold useX pUse
 cases ht : topS T nm with
 | some t =>
  rw [ht] at hn
  obtain ⟨d,e,h1,h2,h3,h4⟩:=hn
  rw [e]
  simp only
  rw [if_neg (fun w=>by cases w.1),if_neg (fun w=>by rcases w.1 with w | w <;> cases w),h2,h3]
  rfl
 | none =>
  rw [ht] at hn
  simp only at hn ⊢
  rw [hn]
theorem eqT_iff {a b : ByteArray} : eqT a b=true ↔ a.toList=b.toList:=by unfold eqT;simp
theorem eqT_sym {a b : ByteArray} (h : eqT a b=true) : eqT b a=true:=eqT_iff.2 (eqT_iff.1 h).symm
theorem eqT_tr {a b c : ByteArray} (h : eqT a b=true) (k : eqT b c=true) : eqT a c=true:=eqT_iff.2 ((eqT_iff.1 h).trans (eqT_iff.1 k))
theorem once_not {c : Lo} : ∀ (r G : List Lo),inL G c.nm=true→onceL G r=true→∀ x ∈ r,eqT x.nm c.nm=false
 | [],_,_,_,x,hx=>by cases hx
 | y :: r,G,hG,h,x,hx=>by
  simp only [onceL,Bool.and_eq_true,Bool.not_eq_true'] at h
  rcases List.mem_cons.1 hx with rfl | hx
  ·cases q : eqT x.nm c.nm with
   | false=>rfl
   | true =>
    have : inL G x.nm=true:=by
     unfold inL at hG ⊢
     obtain ⟨z,hz,e⟩:=List.any_eq_true.1 hG
     exact List.any_eq_true.2 ⟨z,hz,eqT_tr e (eqT_sym q)⟩
    rw [h.1] at this
    cases this
  ·refine once_not r (G ++ [y]) ?_ h.2 x hx
   unfold inL at hG ⊢
   rw [List.any_append,hG,Bool.true_or]
theorem once_sub : ∀ (r G G' : List Lo),(∀ nm,inL G' nm=true→inL G nm=true)→onceL G r=true→onceL G' r=true
 | [],_,_,_,_=>rfl
 | y :: r,G,G',hG,h=>by
  simp only [onceL,Bool.and_eq_true,Bool.not_eq_true'] at h ⊢
  refine ⟨?_,once_sub r (G ++ [y]) (G' ++ [y]) (fun nm q=>?_) h.2⟩
  ·cases q : inL G' y.nm with
   | false=>rfl
   | true=>have:=hG _ q;rw [h.1] at this;cases this
  ·unfold inL at q hG ⊢
   rw [List.any_append,Bool.or_eq_true] at q ⊢
   exact q.elim (fun q=>.inl (hG nm q)) .inr
theorem rev_find (nm : ByteArray) : ∀ H : List Lo,onceL [] H=true→H.reverse.find? (fun c=>eqT c.nm nm)=H.find? (fun c=>eqT c.nm nm)
 | [],_=>rfl
 | c :: r,h=>by
  simp only [onceL,Bool.and_eq_true] at h
  have hr:=once_sub r ([] ++ [c]) [] (fun nm q=>by cases q) h.2
  rw [List.reverse_cons,List.find?_append,rev_find nm r hr,List.find?_cons]
  cases q : eqT c.nm nm with
  | true =>
   have hn : r.find? (fun c=>eqT c.nm nm)=none:=by
    rw [List.find?_eq_none]
    intro x hx
    have:=once_not (c:=c) r ([] ++ [c]) (by simp [inL,eqT]) h.2 x hx
    intro e
    rw [eqT_tr e (eqT_sym q)] at this
    cases this
   rw [hn]
   simp [q]
  | false =>
   simp only [List.find?_cons,q]
   simp
theorem loc_app (L H : List Lo) (nm : ByteArray) (h : onceL [] H=true) : locS (L ++ H) nm=match H.find? (fun c=>eqT c.nm nm) with | some l=>some l | none=>locS L nm:=by
 unfold locS
 rw [List.reverse_append,List.find?_append,rev_find nm H h]
 cases H.find? (fun c=>eqT c.nm nm) <;> rfl
def SayF (f : List Dc) (H : List Lo) : Prop:=∀ nm,match H.find? (fun c=>eqT c.nm nm) with
 | some l=>∃ d,fnd1 f nm=some d∧SayL d l
 | none=>fnd1 f nm=none
theorem says_in {F : List (List Dc)} {T : List Tp} {L H : List Lo} {f : List Dc} (h : Says F T L) (hf : SayF f H) (ho : onceL [] H=true) : Says (f :: F) T (L ++ H):=by
 intro nm
 have hn:=h nm
 have hfn:=hf nm
 rw [loc_app L H nm ho]
 cases hh : H.find? (fun c=>eqT c.nm nm) with
 | some l =>
  rw [hh] at hfn
  obtain ⟨d,e,hd⟩:=hfn
  exact ⟨d,by rw [fndF,e],hd⟩
 | none =>
  rw [hh] at hfn
  have hfn : fnd1 f nm=none:=hfn
  simp only
  have e : fndF (f :: F) nm=fndF F nm:=by rw [fndF,hfn]
  rw [e]
  exact hn
def noK (k : Int) : Prop:=k ≠ 42∧k ≠ 46∧k ≠ 60∧k ≠ 61∧k ≠ 62∧k ≠ 63∧k ≠ 64∧k ≠ 65∧k ≠ 66
structure One1 (d : Bool) (k : Int) (t : ByteArray) (ks : List Nd) : Prop where
 no : noK k
 dc : k=40 ∨ k=41→d=true∧t.toList ≠ []
 np : d=true→k ≠ 13
 ps : isFn k=true→∀ y ∈ parK ks,y.k=13
 po : isFn k=true→∀ q,onceL [] (held (parK ks) q)=true
 lf : k=6 ∨ k=7 ∨ k=30→ks=[]
mutual
def innN : Bool→Nd→Prop
 | d,.mk k t n ks=>One1 d k t ks∧innL (decide (k=52)) ks
def innL : Bool→List Nd→Prop
 | _,[]=>True
 | d,x :: r=>innN d x∧innL d r
end
theorem no_bytes : (⟨#[]⟩ : ByteArray).toList=[]:=by
 unfold ByteArray.toList ByteArray.toList.loop
 rfl
theorem dcl_inn {d : Bool} {k : Int} {t : ByteArray} {n : Int} {ks : List Nd} (h : One1 d k t ks) :
 ((k=40 ∨ k=41)→dclN (.mk k t n ks)=t)∧(¬ (k=40 ∨ k=41)→dclN (.mk k t n ks)=⟨#[]⟩)∧expN (.mk k t n ks)=⟨#[]⟩:=by
 obtain ⟨n1,n2,n3,n4,n5,n6,n7,n8,n9⟩:=h.no
 refine ⟨fun q=>?_,fun q=>?_,?_⟩
 ·have e : isDecl k=true:=by unfold isDecl;rcases q with q | q <;> simp [q]
  show (if isDecl k=true then t else _)=t
  rw [if_pos e]
 ·have e : ¬ isDecl k=true:=by
   unfold isDecl
   intro w
   have w:=of_decide_eq_true w
   rcases w with w | w | w | w | w
   ·exact q (.inl w)
   ·exact q (.inr w)
   ·exact n1 w
   ·exact n2 w
   ·exact n9 w
  show (if isDecl k=true then t else if k=61 then _ else if k=63 then _ else (⟨#[]⟩ : ByteArray))=_
  rw [if_neg e,if_neg n4,if_neg n6]
 ·show (if k=62 then _ else if k=63 then _ else if k=65 then _ else (⟨#[]⟩ : ByteArray))=_
  rw [if_neg n5,if_neg n6,if_neg n8]
theorem sayP : ∀ (l : List Nd) (p : Int),(∀ y ∈ l,y.k=13)→SayF (frmP l p) (held l p)
 | [],p,_,nm=>rfl
 | y :: l,p,h,nm=>by
  have hy:=h y (by simp)
  have ih:=sayP l (p+y.size) (fun z hz=>h z (by simp [hz])) nm
  have hd : decB y=true:=by unfold decB;simp [hy]
  unfold frmP held
  rw [if_pos hd]
  unfold fnd1 at ih ⊢
  rw [List.find?_cons,List.find?_cons]
  cases q : eqT y.t nm with
  | true=>simp only [q];exact ⟨_,rfl,rfl,rfl,rfl,by simp only;rw [hy];decide⟩
  | false=>simp only [q];exact ih
theorem decB_mk (k : Int) (t : ByteArray) (n : Int) (ks : List Nd) : decB (.mk k t n ks)=decide (k=40 ∨ k=41 ∨ k=13):=rfl
theorem sayB : ∀ (l : List Nd) (p : Int),innL true l→SayF (frmB l p) (held l p)
 | [],p,_,nm=>rfl
 | .mk k t n ks :: l_,p,h,nm=>by
  rw [innL] at h
  have ih:=sayB l_ (p+(Nd.mk k t n ks).size) h.2 nm
  have ho:=h.1
  rw [innN] at ho
  have hdc:=dcl_inn (n:=n) ho.1
  have h13:=ho.1.np rfl
  unfold frmB held
  by_cases q : k=40 ∨ k=41
  ·have e:=hdc.1 q
   have hd : decB (.mk k t n ks)=true:=by rw [decB_mk];rcases q with q | q <;> simp [q]
   have hne : (dclN (.mk k t n ks)).toList ≠ []:=by rw [e];exact (ho.1.dc q).2
   rw [if_pos hne,if_pos hd,e]
   unfold fnd1 at ih ⊢
   rw [List.find?_cons,List.find?_cons]
   show (match (match eqT t nm with | true=>some (⟨t,p,decide (k=13 ∨ (k=40∧n=0))⟩ : Lo) | false=>(held l_ (p+(Nd.mk k t n ks).size)).find? (fun c=>eqT c.nm nm)) with
    | some (l : Lo)=>∃ d,(match eqT t nm with | true=>some (⟨t,k,p,2,frB (.mk k t n ks)⟩ : Dc) | false=>(frmB l_ (p+(Nd.mk k t n ks).size)).find? (fun d=>eqT d.nm nm))=some d∧SayL d l
    | none=>(match eqT t nm with | true=>some (⟨t,k,p,2,frB (.mk k t n ks)⟩ : Dc) | false=>(frmB l_ (p+(Nd.mk k t n ks).size)).find? (fun d=>eqT d.nm nm))=none)
   cases qq : eqT t nm with
   | true=>exact ⟨_,rfl,rfl,rfl,rfl,by show k ≠ 46;rcases q with q | q <;> rw [q] <;> decide⟩
   | false=>exact ih
  ·have e:=hdc.2.1 q
   have hd : ¬ decB (.mk k t n ks)=true:=by
    rw [decB_mk]
    intro w
    have w:=of_decide_eq_true w
    rcases w with w | w | w
    ·exact q (.inl w)
    ·exact q (.inr w)
    ·exact h13 w
   have hne : ¬ (dclN (.mk k t n ks)).toList ≠ []:=by rw [e];intro w;exact w no_bytes
   rw [if_neg hne,if_neg hd]
   exact ih
def Res (r : Except (Int × Int) Ps) (S : Ps) : Option (List Us)→Prop
 | some us=>r = .ok (S.1,S.2 ++ us)
 | none=>∃ e,r = .error e
theorem res_nil (S : Ps) : Res (.ok S) S (some []):=by show _=_;simp
def andR (r1 : Except (Int × Int) Ps) (f : Ps→Except (Int × Int) Ps) : Except (Int × Int) Ps:=match r1 with
 | .error e=>.error e
 | .ok S1=>f S1
theorem Res.seq {r1 : Except (Int × Int) Ps} {f : Ps→Except (Int × Int) Ps} {S : Ps} {u1 u2 : Option (List Us)} (h1 : Res r1 S u1) (h2 : ∀ S1,Res (f S1) S1 u2) :
 Res (andR r1 f) S (seq2 u1 u2):=by
 cases u1 with
 | none =>
  obtain ⟨e,h⟩:=h1
  rw [h]
  exact ⟨e,rfl⟩
 | some u =>
  have h1 : r1=_:=h1
  rw [h1]
  have h3:=h2 (S.1,S.2 ++ u)
  cases u2 with
  | none=>exact h3
  | some v =>
   have h3 : f _=_:=h3
   show f _=_
   rw [h3]
   simp
def atH (H : List Lo) (nm : ByteArray) : Int:=((H.find? (fun c=>eqT c.nm nm)).map (·.pl)).getD 0
def atF (f : List Dc) (nm : ByteArray) : Int:=((fnd1 f nm).map (·.at_)).getD 0
theorem at_say {f : List Dc} {H : List Lo} (h : SayF f H) (nm : ByteArray) : atF f nm=atH H nm:=by
 have hn:=h nm
 unfold atF atH
 cases q : H.find? (fun c=>eqT c.nm nm) with
 | some l =>
  rw [q] at hn
  obtain ⟨d,e,hd⟩:=hn
  rw [e]
  exact hd.1
 | none =>
  rw [q] at hn
  have hn : fnd1 f nm=none:=hn
  rw [hn]
  rfl
theorem inL_none {G : List Lo} {nm : ByteArray} (h : inL G nm=false) : G.find? (fun c=>eqT c.nm nm)=none:=by
 rw [List.find?_eq_none]
 intro x hx q
 have : inL G nm=true:=List.any_eq_true.2 ⟨x,hx,q⟩
 rw [h] at this
 cases this
theorem once_at : ∀ (r G : List Lo),onceL G r=true→∀ c ∈ r,atH (G ++ r) c.nm=c.pl
 | [],_,_,c,hc=>by cases hc
 | y :: r,G,h,c,hc=>by
  simp only [onceL,Bool.and_eq_true,Bool.not_eq_true'] at h
  rcases List.mem_cons.1 hc with rfl | hc
  ·unfold atH
   rw [List.find?_append,inL_none h.1,List.find?_cons,show eqT c.nm c.nm=true from eqT_iff.2 rfl]
   rfl
  ·have:=once_at r (G ++ [y]) h.2 c hc
   rw [List.append_assoc] at this
   exact this
theorem at_once : ∀ (r G : List Lo),(G ++ r).Pairwise (fun a b=>a.pl < b.pl)→(∀ c ∈ r,atH (G ++ r) c.nm=c.pl)→onceL G r=true
 | [],_,_,_=>rfl
 | y :: r,G,hp,h=>by
  simp only [onceL,Bool.and_eq_true,Bool.not_eq_true']
  have e : (G ++ [y]) ++ r=G ++ y :: r:=by rw [List.append_assoc];rfl
  refine ⟨?_,at_once r (G ++ [y]) (by rw [e];exact hp) (fun c hc=>by rw [e];exact h c (by simp [hc]))⟩
  cases q : inL G y.nm with
  | false=>rfl
  | true =>
   have hy:=h y (by simp)
   unfold atH at hy
   rw [List.find?_append] at hy
   cases w : G.find? (fun c=>eqT c.nm y.nm) with
   | none =>
    rw [List.find?_eq_none] at w
    obtain ⟨z,hz,ez⟩:=List.any_eq_true.1 q
    exact absurd ez (w z hz)
   | some z =>
    rw [w] at hy
    have hz:=List.mem_of_find?_eq_some w
    have hlt:=(List.pairwise_append.1 hp).2.2 z hz y (by simp)
    have hy : z.pl=y.pl:=hy
    omega
theorem held_rise : ∀ (l : List Nd) (p : Int),(∀ c ∈ held l p,p ≤ c.pl)∧(held l p).Pairwise (fun a b=>a.pl < b.pl)
 | [],p=>⟨fun c hc=>(by cases hc),List.Pairwise.nil⟩
 | n :: l,p=>by
  obtain ⟨h1,h2⟩:=held_rise l (p+n.size)
  have hs:=n.size_pos
  unfold held
  by_cases q : decB n=true
  ·rw [if_pos q]
   refine ⟨fun c hc=>?_,List.pairwise_cons.2 ⟨fun c hc=>?_,h2⟩⟩
   ·rcases List.mem_cons.1 hc with rfl | hc
    ·exact Int.le_refl _
    ·have:=h1 c hc;omega
   ·have:=h1 c hc
    show p < c.pl
    omega
  ·rw [if_neg q]
   exact ⟨fun c hc=>by have:=h1 c hc;omega,h2⟩
def hdN (f : List Dc) : Nd→Int→Prop
 | .mk k t n ks,p=>(k=40 ∨ k=41)→atF f t=p
def hdL (f : List Dc) : List Nd→Int→Prop
 | [],_=>True
 | y :: r,p=>hdN f y p∧hdL f r (p+y.size)
theorem hd_of {f : List Dc} : ∀ (l : List Nd) (p : Int),innL true l→(∀ c ∈ held l p,atF f c.nm=c.pl)→hdL f l p
 | [],_,_,_=>trivial
 | .mk k t n ks :: l,p,hi,h=>by
  rw [innL] at hi
  rw [hdL]
  constructor
  ·intro q
   have hd : decB (.mk k t n ks)=true:=by rw [decB_mk];rcases q with q | q <;> simp [q]
   have hm : (⟨t,p,decide (k=13 ∨ (k=40∧n=0))⟩ : Lo) ∈ held (.mk k t n ks :: l) p:=by
    unfold held
    rw [if_pos hd]
    exact List.mem_cons_self
   exact h _ hm
  ·refine hd_of l _ hi.2 (fun c hc=>h c ?_)
   unfold held
   by_cases q : decB (.mk k t n ks)=true
   ·rw [if_pos q];exact List.mem_cons_of_mem _ hc
   ·rw [if_neg q];exact hc
theorem of_hd {f : List Dc} : ∀ (l : List Nd) (p : Int),innL true l→hdL f l p→∀ c ∈ held l p,atF f c.nm=c.pl
 | [],_,_,_,c,hc=>by cases hc
 | .mk k t n ks :: l,p,hi,h,c,hc=>by
  rw [innL] at hi
  rw [hdL] at h
  have hn:=hi.1
  rw [innN] at hn
  unfold held at hc
  by_cases q : decB (.mk k t n ks)=true
  ·rw [if_pos q] at hc
   rcases List.mem_cons.1 hc with rfl | hc
   ·rw [decB_mk] at q
    have q:=of_decide_eq_true q
    refine h.1 ?_
    rcases q with q | q | q
    ·exact .inl q
    ·exact .inr q
    ·exact absurd q (hn.1.np rfl)
   ·exact of_hd l _ hi.2 h.2 c hc
  ·rw [if_neg q] at hc
   exact of_hd l _ hi.2 h.2 c hc
theorem block_hd {l : List Nd} {p : Int} (hi : innL true l) : onceL [] (held l p)=true ↔ hdL (frmB l p) l p:=by
 have hs:=sayB l p hi
 constructor
 ·intro h
  refine hd_of l p hi (fun c hc=>?_)
  rw [at_say hs]
  exact once_at (held l p) [] h c hc
 ·intro h
  refine at_once (held l p) [] (held_rise l p).2 (fun c hc=>?_)
  have:=of_hd l p hi h c hc
  rw [at_say hs] at this
  exact this
theorem look_inn {A : List Dc} {F : List (List Dc)} {pk : Int} {pt : ByteArray} {th rt d : Bool} {k : Int} {t : ByteArray} {n : Int} {ks : List Nd} {p : Int} {S : Ps} (h : One1 d k t ks) (hd : d=true→hdN (F.headD []) (.mk k t n ks) p) (hp : pk ≠ 61∧pk ≠ 65) :
 pLook A F pk pt th rt (.mk k t n ks) p S=if k=6 then pUse k p t F S else if k=20 then pUse k p t F S else if k=30∧plnB t=false then pUse k p t [A] S
  else if k=18∧fix1 F ks=true then .error (p,92) else if k=7∧th=false then .error (p,93) else if k=50∧rt=false then .error (p,93) else .ok S:=by
 obtain ⟨d1,d2,d3⟩:=dcl_inn (n:=n) h
 have c1 : ¬ ((dclN (.mk k t n ks)).toList ≠ []∧atF (F.headD []) (dclN (.mk k t n ks)) ≠ p):=by
  rintro ⟨w1,w2⟩
  by_cases q : k=40 ∨ k=41
  ·rw [d1 q] at w2
   exact w2 (hd (h.dc q).1 q)
  ·rw [d2 q] at w1
   exact w1 no_bytes
 have c2 : ¬ (expN (.mk k t n ks)).toList ≠ []:=by rw [d3];exact fun w=>w no_bytes
 have c3 : ¬ ((expN (.mk k t n ks)).toList ≠ []∧S.1.any (eqT · (expN (.mk k t n ks)))=true):=fun w=>c2 w.1
 have c5 : ¬ (k=65∧pt.toList=[]):=fun w=>h.no.2.2.2.2.2.2.2.1 w.1
 unfold pLook
 unfold atF at c1
 rw [if_neg c1,if_neg c3,if_neg c2]
 show (if k=6∧pk ≠ 61∧pk ≠ 65 then pUse k p t F S else if k=20 then pUse k p t F S else if k=65∧pt.toList=[] then pUse k p t [A] S else if k=30∧plnB t=false then pUse k p t [A] S
  else if k=18∧fix1 F ks=true then .error (p,92) else if k=7∧th=false then .error (p,93) else if k=50∧rt=false then .error (p,93) else .ok S)=_
 rw [if_neg c5]
 by_cases q : k=6
 ·rw [if_pos q,if_pos ⟨q,hp⟩]
 ·rw [if_neg q,if_neg (fun w=>q w.1)]
theorem hd_ok {A : List Dc} {F : List (List Dc)} {pk : Int} {pt : ByteArray} {th rt : Bool} : ∀ (l : List Nd) (p : Int) (S S' : Ps),innL true l→pvs A F pk pt th rt l p S = .ok S'→hdL (F.headD []) l p
 | [],_,_,_,_,_=>trivial
 | .mk k t n ks :: l,p,S,S',hi,h=>by
  rw [innL] at hi
  have hn:=hi.1
  rw [innN] at hn
  rw [pvs,pv] at h
  rw [hdL]
  cases hl : pLook A F pk pt th rt (.mk k t n ks) p S with
  | error e=>rw [hl] at h;cases h
  | ok S1 =>
   rw [hl] at h
   simp only at h
   refine ⟨fun q=>?_,?_⟩
   ·have e:=(dcl_inn (n:=n) hn.1).1 q
    by_cases w : atF (F.headD []) t=p
    ·exact w
    ·exfalso
     have c1 : (dclN (.mk k t n ks)).toList ≠ []∧atF (F.headD []) (dclN (.mk k t n ks)) ≠ p:=by rw [e];exact ⟨(hn.1.dc q).2,w⟩
     unfold pLook at hl
     unfold atF at c1
     rw [if_pos c1] at hl
     cases hl
   ·cases hr : pvs A (inF F k ks p) k t (inT k th) (inR k rt) ks (p+1) S1 with
    | error e=>rw [hr] at h;cases h
    | ok S2 =>
     rw [hr] at h
     exact hd_ok l _ S2 S' hi.2 h
def GoodN (A : List Dc) (T : List Tp) (x : Nd) : Prop:=∀ (d : Bool) (F : List (List Dc)) (L : List Lo) (pk : Int) (pt : ByteArray) (th rt : Bool) (p : Int) (S : Ps),
 innN d x→Says F T L→(pk ≠ 61∧pk ≠ 65)→(d=true→hdN (F.headD []) x p)→Res (pv A F pk pt th rt x p S) S (usN T L th rt x p)
def GoodL (A : List Dc) (T : List Tp) (l : List Nd) : Prop:=∀ (d : Bool) (F : List (List Dc)) (L : List Lo) (pk : Int) (pt : ByteArray) (th rt : Bool) (p : Int) (S : Ps),
 innL d l→Says F T L→(pk ≠ 61∧pk ≠ 65)→(d=true→hdL (F.headD []) l p)→Res (pvs A F pk pt th rt l p S) S (usL T L th rt l p)
theorem pv_mk {A : List Dc} {F : List (List Dc)} {pk : Int} {pt : ByteArray} {th rt : Bool} {k : Int} {t : ByteArray} {n : Int} {ks : List Nd} {p : Int} {S : Ps} :
 pv A F pk pt th rt (.mk k t n ks) p S=andR (pLook A F pk pt th rt (.mk k t n ks) p S) (fun S1=>pvs A (inF F k ks p) k t (inT k th) (inR k rt) ks (p+1) S1):=by rw [pv];rfl
theorem pvs_cons {A : List Dc} {F : List (List Dc)} {pk : Int} {pt : ByteArray} {th rt : Bool} {a : Nd} {r : List Nd} {p : Int} {S : Ps} :
 pvs A F pk pt th rt (a :: r) p S=andR (pv A F pk pt th rt a p S) (fun S1=>pvs A F pk pt th rt r (p+a.size) S1):=by rw [pvs];rfl
theorem use_res {F : List (List Dc)} {T : List Tp} {L : List Lo} (h : Says F T L) {k : Int} (hk : k=6 ∨ k=20) (nm : ByteArray) (p : Int) (S : Ps) : Res (pUse k p nm F S) S ((useV T L nm p).map fun x=>[x.1]):=by
 obtain ⟨h1,h2⟩:=use_says h hk nm p S
 cases q : useV T L nm p with
 | none=>exact ⟨_,h2 q⟩
 | some x=>exact (h1 x q).1
theorem useT_res {A : List Dc} {T : List Tp} (h : Alon A T) (nm : ByteArray) (p : Int) (S : Ps) : Res (pUse 30 p nm [A] S) S ((useT T nm p).map fun x=>[x]):=by
 rw [useT_says h]
 cases useT T nm p with
 | none=>exact ⟨_,rfl⟩
 | some x=>rfl
theorem andR_ok {S : Ps} {f : Ps→Except (Int × Int) Ps} : andR (.ok S) f=f S:=rfl
theorem pv_good {A : List Dc} {T : List Tp} (hA : Alon A T) (k : Int) (t : ByteArray) (n : Int) (ks : List Nd) (hk : GoodL A T ks) : GoodN A T (.mk k t n ks):=by
 intro d F L pk pt th rt p S hi hs hp hd
 rw [innN] at hi
 obtain ⟨ho,hl⟩:=hi
 rw [pv_mk,look_inn ho hd hp]
 have hno:=ho.no
 have hpk : k ≠ 61∧k ≠ 65:=⟨hno.2.2.2.1,hno.2.2.2.2.2.2.2.1⟩
 rw [usN.eq_def]
 dsimp only
 by_cases h6 : k=6
 ·have e:=ho.lf (.inl h6)
  subst e
  rw [if_pos h6,if_pos h6]
  have h1:=use_res hs (k:=k) (.inl h6) t p S
  have h2 : Res _ S (seq2 _ (some [])):=h1.seq (f:=fun S1=>pvs A (inF F k [] p) k t (inT k th) (inR k rt) [] (p+1) S1) (u2:=some []) (fun S1=>by rw [pvs];exact res_nil S1)
  cases q : useV T L t p with
  | none=>rw [q] at h2;exact h2
  | some x=>rw [q] at h2;exact h2
 rw [if_neg h6,if_neg h6]
 by_cases h20 : k=20
 ·rw [if_pos h20,if_pos h20]
  refine (use_res hs (k:=k) (.inr h20) t p S).seq (fun S1=>?_)
  have e1 : inF F k ks p=F:=by rw [h20];rfl
  have e2 : inT k th=th:=by rw [h20];rfl
  have e3 : inR k rt=rt:=by rw [h20];rfl
  rw [e1,e2,e3]
  exact hk _ F L k t th rt (p+1) S1 hl hs hpk (fun w=>by rw [h20] at w;cases w)
 rw [if_neg h20,if_neg h20]
 by_cases h30 : k=30
 ·have e:=ho.lf (.inr (.inr h30))
  subst e
  rw [if_pos h30]
  by_cases q : plnB t=true
  ·rw [if_pos q,if_neg (fun w=>by rw [q] at w;cases w.2),if_neg (fun w=>by rw [h30] at w;cases w.1),if_neg (fun w=>by rw [h30] at w;cases w.1),if_neg (fun w=>by rw [h30] at w;cases w.1),andR_ok,pvs]
   exact res_nil S
  ·rw [if_neg q,if_pos ⟨h30,by cases w : plnB t with | true=>exact absurd w q | false=>rfl⟩]
   have h1:=useT_res hA t p S
   rw [← h30] at h1
   have h2 : Res _ S (seq2 _ (some [])):=h1.seq (f:=fun S1=>pvs A (inF F k [] p) k t (inT k th) (inR k rt) [] (p+1) S1) (u2:=some []) (fun S1=>by rw [pvs];exact res_nil S1)
   cases w : useT T t p with
   | none=>rw [w] at h2;exact h2
   | some x=>rw [w] at h2;exact h2
 rw [if_neg h30,if_neg (fun w=>h30 w.1)]
 by_cases h18 : k=18
 ·have e1 : inF F k ks p=F:=by rw [h18];rfl
  have e2 : inT k th=th:=by rw [h18];rfl
  have e3 : inR k rt=rt:=by rw [h18];rfl
  rw [if_pos h18]
  have hG:=fun S1=>hk _ F L k t th rt (p+1) S1 hl hs hpk (fun w=>by rw [h18] at w;cases w)
  cases ks with
  | nil =>
   rw [if_neg (fun w=>by cases w.2),if_neg (fun w=>by rw [h18] at w;cases w.1),if_neg (fun w=>by rw [h18] at w;cases w.1),andR_ok,pvs]
   exact res_nil S
  | cons a r =>
   obtain ⟨k',t',n',ks'⟩:=a
   rw [innL] at hl
   have ha:=hl.1
   rw [innN] at ha
   show Res _ S (if k'=6 then _ else _)
   by_cases q : k'=6
   ·have e:=ha.1.lf (.inl q)
    subst e
    rw [if_pos q]
    have hu:=use_says hs (k:=6) (.inl rfl) t' (p+1) S
    have hz : (p+1 : Int)+((Nd.mk k' t' n' []).size : Int)=p+2:=by rw [Nd.size,sizes];omega
    have hG1:=hG S
    rw [usL,usN.eq_def] at hG1
    dsimp only at hG1
    rw [if_pos q,hz] at hG1
    show Res (andR (if k=18∧fix1 F (.mk k' t' n' [] :: r)=true then _ else _) _) S (seq2 ((useV T L t' (p+1)).bind _) _)
    by_cases w : fix1 F (.mk k' t' n' [] :: r)=true
    ·rw [if_pos ⟨h18,w⟩]
     have hnone : ((useV T L t' (p+1)).bind fun x=>if x.2=true then some [x.1] else none)=none:=by
      cases g : useV T L t' (p+1) with
      | none=>rfl
      | some x =>
       obtain ⟨_,hx⟩:=hu.1 x g
       have w' : (decide (k'=6) && (match fndF F t' with | some d=>!d.fr | none=>false))=true:=w
       rw [Bool.and_eq_true] at w'
       cases z : fndF F t' with
       | none=>rw [z] at w';cases w'.2
       | some dd =>
        rw [z] at w'
        have:=hx dd z
        have h4 : (!dd.fr)=true:=w'.2
        rw [this] at h4
        simp only [Option.bind_some]
        cases b : x.2 with
        | true=>rw [b] at h4;cases h4
        | false=>rfl
     rw [hnone]
     exact ⟨_,rfl⟩
    ·rw [if_neg (fun y=>w y.2),if_neg (fun w=>by rw [h18] at w;cases w.1),if_neg (fun w=>by rw [h18] at w;cases w.1),andR_ok,e1,e2,e3]
     have hsame : ((useV T L t' (p+1)).bind fun x=>if x.2=true then some [x.1] else none)=(useV T L t' (p+1)).map fun x=>[x.1]:=by
      cases g : useV T L t' (p+1) with
      | none=>rfl
      | some x =>
       obtain ⟨h5,hx⟩:=hu.1 x g
       have w' : ¬ (decide (k'=6) && (match fndF F t' with | some d=>!d.fr | none=>false))=true:=w
       cases z : fndF F t' with
       | none=>unfold pUse at h5;rw [z] at h5;cases h5
       | some dd =>
        rw [z] at w'
        have:=hx dd z
        simp only [Option.bind_some,Option.map_some]
        cases b : x.2 with
        | true=>rfl
        | false =>
         rw [b] at this
         exact absurd (by rw [Bool.and_eq_true];exact ⟨decide_eq_true q,by show (!dd.fr)=true;rw [this];rfl⟩) w'
     rw [hsame]
     exact hG1
   ·rw [if_neg q]
    have w : ¬ fix1 F (.mk k' t' n' ks' :: r)=true:=by
     intro w
     have w' : (decide (k'=6) && (match fndF F t' with | some d=>!d.fr | none=>false))=true:=w
     rw [Bool.and_eq_true] at w'
     exact q (of_decide_eq_true w'.1)
    rw [if_neg (fun y=>w y.2),if_neg (fun w=>by rw [h18] at w;cases w.1),if_neg (fun w=>by rw [h18] at w;cases w.1),andR_ok,e1,e2,e3]
    have hG1:=hG S
    rw [usL] at hG1
    exact hG1
 rw [if_neg h18,if_neg (fun w=>h18 w.1)]
 by_cases h7 : k=7
 ·have e:=ho.lf (.inr (.inl h7))
  subst e
  rw [if_pos h7]
  cases th with
  | true =>
   rw [if_pos rfl,if_neg (fun w=>by cases w.2),if_neg (fun w=>by rw [h7] at w;cases w.1),andR_ok,pvs]
   exact res_nil S
  | false =>
   rw [if_pos ⟨h7,rfl⟩,if_neg (by decide)]
   exact ⟨_,rfl⟩
 rw [if_neg h7,if_neg (fun w=>h7 w.1)]
 by_cases h50 : k=50
 ·rw [if_pos h50]
  cases rt with
  | true =>
   rw [if_pos rfl,if_neg (fun w=>by cases w.2),andR_ok]
   have e1 : inF F k ks p=F:=by rw [h50];rfl
   have e2 : inT k th=th:=by rw [h50];rfl
   have e3 : inR k true=true:=by rw [h50];rfl
   rw [e1,e2,e3]
   exact hk _ F L k t th true (p+1) S hl hs hpk (fun w=>by rw [h50] at w;cases w)
  | false =>
   rw [if_pos ⟨h50,rfl⟩,if_neg (by decide)]
   exact ⟨_,rfl⟩
 rw [if_neg h50,if_neg (fun w=>h50 w.1),andR_ok]
 by_cases hf : k=11 ∨ k=41 ∨ k=44 ∨ k=45
 ·rw [if_pos hf]
  have hfn : isFn k=true:=by unfold isFn;exact decide_eq_true hf
  have n52 : k ≠ 52:=by rcases hf with q | q | q | q <;> rw [q] <;> decide
  have e1 : inF F k ks p=frmP (parK ks) (p+2) :: F:=by unfold inF;rw [if_pos hfn]
  have e2 : inT k th=if k=11 then th else decide (k ≠ 41):=by rcases hf with q | q | q | q <;> rw [q] <;> rfl
  have e3 : inR k rt=true:=by unfold inR;rw [if_pos hfn]
  have hpo:=ho.po hfn (p+2)
  rw [e1,e2,e3,if_pos hpo]
  exact hk _ _ _ k t _ true (p+1) S hl (says_in hs (sayP _ _ (ho.ps hfn)) hpo) hpk (fun w=>absurd (of_decide_eq_true w) n52)
 rw [if_neg hf]
 have nfn : ¬ isFn k=true:=by unfold isFn;exact fun w=>hf (of_decide_eq_true w)
 have e3 : inR k rt=rt:=by unfold inR;rw [if_neg nfn]
 by_cases h43 : k=43
 ·rw [if_pos h43]
  have e1 : inF F k ks p=F:=by rw [h43];rfl
  have e2 : inT k th=true:=by rw [h43];rfl
  rw [e1,e2,e3]
  exact hk _ F L k t true rt (p+1) S hl hs hpk (fun w=>by rw [h43] at w;cases w)
 rw [if_neg h43]
 have e2 : inT k th=th:=by
  unfold inT
  rw [if_neg (fun w=>by rcases w with w | w | w;exact h43 w;exact hf (.inr (.inr (.inl w)));exact hf (.inr (.inr (.inr w)))),if_neg (fun w=>hf (.inr (.inl w)))]
 by_cases h52 : k=52
 ·rw [if_pos h52]
  have e1 : inF F k ks p=frmB ks (p+1) :: F:=by unfold inF;rw [if_neg nfn,if_pos h52]
  have hl' : innL true ks:=by rw [decide_eq_true h52] at hl;exact hl
  rw [e1,e2,e3]
  by_cases q : onceL [] (held ks (p+1))=true
  ·rw [if_pos q]
   exact hk true _ _ k t th rt (p+1) S hl' (says_in hs (sayB ks (p+1) hl') q) hpk (fun _=>(block_hd hl').1 q)
  ·rw [if_neg q]
   cases w : pvs A (frmB ks (p+1) :: F) k t th rt ks (p+1) S with
   | error e=>exact ⟨e,rfl⟩
   | ok S'=>exact absurd ((block_hd hl').2 (hd_ok ks (p+1) S S' hl' w)) q
 have e1 : inF F k ks p=F:=by unfold inF;rw [if_neg nfn,if_neg h52]
 rw [if_neg h52,if_neg hno.2.2.1,if_neg hno.2.2.2.2.2.2.1,e1,e2,e3]
 exact hk _ F L k t th rt (p+1) S hl hs hpk (fun w=>absurd (of_decide_eq_true w) h52)
theorem good_nil {A : List Dc} {T : List Tp} : GoodL A T []:=by
 intro d F L pk pt th rt p S _ _ _ _
 rw [pvs,usL]
 exact res_nil S
theorem good_cons {A : List Dc} {T : List Tp} {a : Nd} {r : List Nd} (ha : GoodN A T a) (hr : GoodL A T r) : GoodL A T (a :: r):=by
 intro d F L pk pt th rt p S hi hs hp hd
 rw [innL] at hi
 rw [pvs_cons,usL]
 exact (ha d F L pk pt th rt p S hi.1 hs hp (fun w=>(hd w).1)).seq (fun S1=>hr d F L pk pt th rt (p+a.size) S1 hi.2 hs hp (fun w=>(hd w).2))
theorem pv_inner {A : List Dc} {T : List Tp} (hA : Alon A T) (x : Nd) : GoodN A T x :=
 @Nd.rec (GoodN A T) (GoodL A T) (fun k t n ks ih=>pv_good hA k t n ks ih) good_nil (fun a r ha hr=>good_cons ha hr) x
theorem pvs_inner {A : List Dc} {T : List Tp} (hA : Alon A T) : ∀ l : List Nd,GoodL A T l
 | []=>good_nil
 | a :: r=>good_cons (pv_inner hA a) (pvs_inner hA r)
end Go.Proofs.YtfcocoadaajbjaaGreatDoor
