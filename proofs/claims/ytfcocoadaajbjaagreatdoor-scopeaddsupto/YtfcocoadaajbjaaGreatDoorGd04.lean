/- Own text. Names in scopes: both walks are one (of the model;no program is named here). A map in memory as a function: keys and elements of whatever kind. Whether two trees are the same: the document's answer. How many trees one is,and how deep: the document's answers,and Depth of package tree. A copy of a tree: the document's answer. -/
import Derived.Test.YtfcocoadaajbjaaGreatDoorGd03
import Derived.Test.YtfcocoadaajbjaaGreatDoorProg
import Derived.WalkKit
import Derived.WalkSmall
import Derived.WalkLawsBesides
import Derived.Laws.Rows
import Derived.Maps.Own
import Derived.Laws.StructEq
import Derived.Test.YtfcocoadaajbjaaGreatDoorGd01
import Derived.Deep.AppendLies
import Derived.Deep.RegionLaw
import Derived.RangeFuncNested
import Derived.Shelf.Abstract
set_option linter.unusedVariables false
set_option linter.unusedSimpArgs false
namespace Go.Proofs.YtfcocoadaajbjaaGreatDoor
open Go.RowKit
def decT (y : Nd) : Prop:=top1 y∧(isDecl y.k=true→y.t.toList ≠ [])
def itmS (x : Nd) : Prop:=decT x ∨ (∃ t n y,x = .mk 62 t n [y]∧decT y∧isDecl y.k=true) ∨ (∃ t n y,x = .mk 63 t n [y]∧decT y∧(isDecl y.k=true→y.k=41 ∨ y.k=42))
 ∨ (∃ t n ks,x = .mk 60 t n ks∧∀ y ∈ ks,one65 61 y∧(headT y.ks).toList ≠ []) ∨ ∃ t n ks,x = .mk 64 t n ks∧∀ y ∈ ks,one65 65 y∧(headK y.ks=6→(headT y.ks).toList ≠ [])∧y.t.toList ≠ []
theorem itmS_itm {x : Nd} (h : itmS x) : itm x:=by
 rcases h with h | ⟨t,n,y,e,h,_⟩ | ⟨t,n,y,e,h,_⟩ | ⟨t,n,ks,e,h⟩ | ⟨t,n,ks,e,h⟩
 ·exact .inl h.1
 ·exact .inr (.inl ⟨62,t,n,y,e,.inl rfl,h.1⟩)
 ·exact .inr (.inl ⟨63,t,n,y,e,.inr rfl,h.1⟩)
 ·exact .inr (.inr (.inl ⟨t,n,ks,e,fun y hy=>(h y hy).1⟩))
 ·exact .inr (.inr (.inr ⟨t,n,ks,e,fun y hy=>(h y hy).1⟩))
theorem decT_mk {k : Int} {t : ByteArray} {n : Int} {ks : List Nd} (h : top1 (.mk k t n ks)) : holdK k=false∧k ≠ 13∧dclN (.mk k t n ks)=(if isDecl k=true then t else ⟨#[]⟩)∧expN (.mk k t n ks)=⟨#[]⟩:=by
 rcases h with h | ⟨k',t',n',ks',e,hk,hi⟩
 ·rw [innN] at h
  obtain ⟨n1,n2,n3,n4,n5,n6,n7,n8,n9⟩:=h.1.no
  obtain ⟨d1,d2,d3⟩:=dcl_inn (n:=n) h.1
  refine ⟨decide_eq_false ?_,h.1.np rfl,?_,d3⟩
  ·rintro (w | w | w | w)
   ·exact n3 w
   ·exact n5 w
   ·exact n6 w
   ·exact n7 w
  ·by_cases q : k=40 ∨ k=41
   ·have e : isDecl k=true:=by unfold isDecl;rcases q with q | q <;> simp [q]
    rw [d1 q,if_pos e]
   ·have e : ¬ isDecl k=true:=by
     intro w
     have w:=of_decide_eq_true w
     rcases w with w | w | w | w | w
     ·exact q (.inl w)
     ·exact q (.inr w)
     ·exact n1 w
     ·exact n2 w
     ·exact n9 w
    rw [d2 q,if_neg e]
 ·injection e with e1 e2 e3 e4
  subst e1 e2 e3 e4
  rcases hk with rfl | rfl | rfl <;> exact ⟨rfl,by decide,rfl,rfl⟩
theorem fr_mk {k : Int} {t : ByteArray} {n : Int} {ks : List Nd} (h : k ≠ 13) : frB (.mk k t n ks)=decide (k=40∧n=0):=by
 show decide (k=13 ∨ (k=40∧n=0))=_
 simp [h]
theorem giv_no {x : Nd} (h : expN x=⟨#[]⟩) : giv x=[]:=by unfold giv;rw [if_neg (by rw [h];exact fun w=>w no_bytes)]
theorem top_dec {y : Nd} (h : decT y) (p it : Int) : ptop1 y p it=dec0 y p it∧giv y=[]:=by
 obtain ⟨k,t,n,ks⟩:=y
 obtain ⟨h1,h2⟩:=h
 obtain ⟨d1,d2,d3,d4⟩:=decT_mk h1
 refine ⟨?_,giv_no d4⟩
 unfold ptop1 dec0
 dsimp only
 rw [d3,fr_mk d2]
 by_cases q : isDecl k=true
 ·rw [if_pos q,if_pos q,if_neg (show ¬ t.toList=[] from h2 q)];rfl
 ·rw [if_neg q,if_neg q,if_pos no_bytes]
theorem imp_tops : ∀ (l : List Nd) (p it : Int),(∀ y ∈ l,one65 61 y∧(headT y.ks).toList ≠ [])→ptopL l p it=impD l p it∧gvL l=[]
 | [],p,it,_=>⟨rfl,rfl⟩
 | y :: r,p,it,h=>by
  obtain ⟨e1,e2⟩:=imp_tops r (p+y.size) it (fun z hz=>h z (by simp [hz]))
  obtain ⟨⟨t,n,a,rfl,ha⟩,hn⟩:=h y (by simp)
  have hd : dclN (.mk 61 t n [a])=a.t:=rfl
  have hn : a.t.toList ≠ []:=hn
  rw [ptopL,impD,e1]
  constructor
  ·unfold ptop1
   rw [hd,if_neg hn]
   rfl
  ·unfold gvL at e2 ⊢
   rw [List.flatMap_cons,e2,giv_no (x:=.mk 61 t n [a]) rfl]
   rfl
theorem one_tops : ∀ (l : List Nd) (p it : Int),(∀ y ∈ l,one65 65 y∧(headK y.ks=6→(headT y.ks).toList ≠ [])∧y.t.toList ≠ [])→ptopL l p it=[]∧gvL l=l.flatMap gv1
 | [],p,it,_=>⟨rfl,rfl⟩
 | y :: r,p,it,h=>by
  obtain ⟨e1,e2⟩:=one_tops r (p+y.size) it (fun z hz=>h z (by simp [hz]))
  obtain ⟨⟨t,n,a,rfl,ha⟩,hn,ht⟩:=h y (by simp)
  have hd : (dclN (.mk 65 t n [a])).toList=[]:=no_bytes
  rw [ptopL,e1]
  constructor
  ·unfold ptop1
   rw [if_pos hd]
   rfl
  ·unfold gvL at e2 ⊢
   rw [List.flatMap_cons,List.flatMap_cons,e2]
   refine congrArg (· ++ _) ?_
   have hx : expN (.mk 65 t n [a])=if headK [a]=6 then headT [a] else if t.toList=[42] then ⟨#[]⟩ else t:=rfl
   have hn : headK [a]=6→(headT [a]).toList ≠ []:=hn
   have ht : t.toList ≠ []:=ht
   show giv (.mk 65 t n [a])=if headK [a]=6 then [headT [a]] else if t.toList=[42] then [] else [t]
   unfold giv
   rw [hx]
   by_cases q : headK [a]=6
   ·rw [if_pos q,if_pos q,if_pos (hn q)]
   ·rw [if_neg q,if_neg q]
    by_cases z : t.toList=[42]
    ·rw [if_pos z,if_pos z,if_neg (fun w=>w no_bytes)]
    ·rw [if_neg z,if_neg z,if_pos ht]
theorem dflt_ne : dflt.toList ≠ []:=by
 intro h
 unfold dflt ByteArray.toList at h
 simp [ByteArray.toList.loop,ByteArray.size] at h
theorem item_tops {x : Nd} (h : itmS x) (p it : Int) : ptI x p it=ddI x p it∧gvI x=dgI x:=by
 rcases h with h | ⟨t,n,y,rfl,h,hd⟩ | ⟨t,n,y,rfl,h,hd⟩ | ⟨t,n,ks,rfl,h⟩ | ⟨t,n,ks,rfl,h⟩
 ·obtain ⟨e1,e2⟩:=top_dec h p it
  obtain ⟨k,t,n,ks⟩:=x
  obtain ⟨d1,d2,d3,d4⟩:=decT_mk h.1
  have nh:=of_decide_eq_false d1
  rw [ptI,gvI,e1,e2,d1,if_neg (by decide),if_neg (by decide),List.append_nil]
  unfold dec0 ddI dgI
  dsimp only
  by_cases q : isDecl k=true
  ·rw [if_pos q,if_pos q,if_pos q];exact ⟨rfl,rfl⟩
  ·rw [if_neg q,if_neg q,if_neg q,if_neg (fun w=>nh (.inr (.inl w))),if_neg (fun w=>nh (.inr (.inr (.inl w)))),if_neg (fun w=>nh (.inl w)),if_neg (fun w=>nh (.inr (.inl w))),if_neg (fun w=>nh (.inr (.inr (.inl w)))),if_neg (fun w=>nh (.inl w)),if_neg (fun w=>nh (.inr (.inr (.inr w))))]
   exact ⟨rfl,rfl⟩
 ·obtain ⟨e1,e2⟩:=top_dec h (p+1) it
  have hdn : (dclN (.mk 62 t n [y])).toList=[]:=no_bytes
  have hx : expN (.mk 62 t n [y])=dclN y:=rfl
  have hy : dclN y=y.t:=by
   obtain ⟨k',t',n',ks'⟩:=y
   rw [(decT_mk h.1).2.2.1,if_pos (show isDecl k'=true from hd)];rfl
  have hp : ptop1 (.mk 62 t n [y]) p it=[]:=by unfold ptop1;rw [if_pos hdn]
  have hg : giv (.mk 62 t n [y])=[y.t]:=by unfold giv;rw [hx,hy,if_pos (h.2 hd)]
  rw [ptI,gvI,show holdK 62=true from rfl,if_pos rfl,if_pos rfl,hp,hg]
  constructor
  ·show ptop1 y (p+1) it ++ []=dec0 y (p+1) it
   rw [e1,List.append_nil]
  ·show [y.t] ++ gvL [y]=[y.t]
   unfold gvL
   rw [List.flatMap_cons,e2]
   rfl
 ·obtain ⟨e1,e2⟩:=top_dec h (p+1) it
  have hg : giv (.mk 63 t n [y])=[dflt]:=by unfold giv;rw [show expN (.mk 63 t n [y])=dflt from rfl,if_pos dflt_ne]
  have hdc : dclN (.mk 63 t n [y])=if isDecl y.k=true∧y.t.toList ≠ [] then ⟨#[]⟩ else dflt:=rfl
  rw [ptI,gvI,show holdK 63=true from rfl,if_pos rfl,if_pos rfl,hg]
  constructor
  ·show ptop1 (.mk 63 t n [y]) p it ++ (ptop1 y (p+1) it ++ [])=if y.k=41 ∨ y.k=42 then dec0 y (p+1) it else [⟨dflt,63,p,it,true⟩]
   rw [e1,List.append_nil]
   by_cases q : isDecl y.k=true
   ·rw [if_pos (hd q)]
    unfold ptop1
    have hdc : dclN (.mk 63 t n [y])=⟨#[]⟩:=hdc.trans (if_pos ⟨q,h.2 q⟩)
    rw [hdc,if_pos no_bytes]
    rfl
   ·have nk : ¬ (y.k=41 ∨ y.k=42):=fun w=>q (by unfold isDecl;rcases w with w | w <;> simp [w])
    have hz : dec0 y (p+1) it=[]:=by
     obtain ⟨k',t',n',ks'⟩:=y
     unfold dec0
     exact if_neg q
    rw [if_neg nk,hz]
    unfold ptop1
    have hdc : dclN (.mk 63 t n [y])=dflt:=hdc.trans (if_neg (fun w=>q w.1))
    rw [hdc,if_neg dflt_ne]
    rfl
  ·show [dflt] ++ gvL [y]=[dflt]
   unfold gvL
   rw [List.flatMap_cons,e2]
   rfl
 ·obtain ⟨e1,e2⟩:=imp_tops ks (p+1) it h
  have hp : ptop1 (.mk 60 t n ks) p it=[]:=by unfold ptop1;rw [if_pos (show (dclN (.mk 60 t n ks)).toList=[] from no_bytes)]
  rw [ptI,gvI,show holdK 60=true from rfl,if_pos rfl,if_pos rfl,hp,giv_no (x:=.mk 60 t n ks) rfl,e1,e2]
  exact ⟨rfl,rfl⟩
 ·obtain ⟨e1,e2⟩:=one_tops ks (p+1) it h
  have hp : ptop1 (.mk 64 t n ks) p it=[]:=by unfold ptop1;rw [if_pos (show (dclN (.mk 64 t n ks)).toList=[] from no_bytes)]
  rw [ptI,gvI,show holdK 64=true from rfl,if_pos rfl,if_pos rfl,hp,giv_no (x:=.mk 64 t n ks) rfl,e1,e2]
  exact ⟨rfl,rfl⟩
theorem items_tops : ∀ (l : List Nd) (p it : Int),(∀ y ∈ l,itmS y)→ptL l p it=ddL l p it∧l.flatMap gvI=l.flatMap dgI
 | [],p,it,_=>⟨rfl,rfl⟩
 | y :: r,p,it,h=>by
  obtain ⟨e1,e2⟩:=items_tops r (p+y.size) (it+1) (fun z hz=>h z (by simp [hz]))
  obtain ⟨e3,e4⟩:=item_tops (h y (by simp)) p it
  rw [ptL,ddL,e1,e3,List.flatMap_cons,List.flatMap_cons,e2,e4]
  exact ⟨rfl,rfl⟩
def dw0 : Dw:=⟨[],[],[],false,false,0,0,[]⟩
theorem scope_same (k : Int) (t : ByteArray) (n : Int) (l : List Nd) (h : ∀ y ∈ l,itmS y) (hk : DflK k) (hd : isDecl k=false) (h62 : k ≠ 62) (h63 : k ≠ 63) (bl : List Dc) (hb : Blt bl) (pk : Int) (pt : ByteArray) :
 (∃ g us,pv ((ptL l 1 0).map dc1) [(ptL l 1 0).map dc1,bl] pk pt false false (.mk k t n l) 0 ([],[]) = .ok (g,us)∧(dkids l 1 (dtops l 1 0 dw0)).er=0∧(dkids l 1 (dtops l 1 0 dw0)).tops=ptL l 1 0∧(dkids l 1 (dtops l 1 0 dw0)).uses=us)
 ∨ ((∃ e,pv ((ptL l 1 0).map dc1) [(ptL l 1 0).map dc1,bl] pk pt false false (.mk k t n l) 0 ([],[]) = .error e)∧(dkids l 1 (dtops l 1 0 dw0)).er ≠ 0):=by
 obtain ⟨e1,e2⟩:=items_tops l 1 0 h
 have hA:=alon_dc (ptL l 1 0)
 have hS:=says_dc (ptL l 1 0) hb
 have hR:=pv_dfl (pk:=pk) (pt:=pt) (n:=n) (t:=t) (p:=0) (S:=(([],[]) : Ps)) hk (fun S1=>pvs_itm hA hS ⟨hk.n61,hk.n65⟩ (pt:=t) (th:=false) (rt:=false) l (0+1) S1 (fun y hy=>itmS_itm (h y hy)))
 have hdn : dclN (.mk k t n l)=⟨#[]⟩:=by
  show (if isDecl k=true then t else if k=61 then _ else if k=63 then _ else (⟨#[]⟩ : ByteArray))=_
  rw [if_neg (by rw [hd];decide),if_neg hk.n61,if_neg h63]
 have hxn : expN (.mk k t n l)=⟨#[]⟩:=by
  show (if k=62 then _ else if k=63 then _ else if k=65 then _ else (⟨#[]⟩ : ByteArray))=_
  rw [if_neg h62,if_neg h63,if_neg hk.n65]
 have hdk : dok [(ptL l 1 0).map dc1,bl] (.mk k t n l) 0=true:=decide_eq_true (.inl (by rw [hdn];exact no_bytes))
 rw [hdk,giv_no hxn,Bool.true_and,List.nil_append,Int.zero_add,ok_fresh,usN_dfl hk,Int.zero_add] at hR
 have hT:=dtops_td l 1 0 dw0
 rw [← e1,← e2] at hT
 by_cases c : freshB [] ((ptL l 1 0).map (·.nm))=true∧freshB [] (l.flatMap gvI)=true
 ·have hw:=hT.ok c.1 c.2
  have hD:=dkids_did l 1 (dtops l 1 0 dw0)
  rw [hw] at hD ⊢
  cases q : usL (ptL l 1 0) [] false false l 1 with
  | some us =>
   have q' : usL ({ dw0 with tops:=dw0.tops ++ ptL l 1 0,exs:=dw0.exs ++ l.flatMap gvI } : Dw).tops dw0.locs dw0.this dw0.ins l 1=some us:=q
   left
   have hD : Did _ _ (usL ({ dw0 with tops:=dw0.tops ++ ptL l 1 0,exs:=dw0.exs ++ l.flatMap gvI } : Dw).tops dw0.locs dw0.this dw0.ins l 1):=hD
   rw [q'] at hD
   have hD : dkids l 1 _=_:=hD
   refine ⟨[] ++ l.flatMap gvI,us,?_,?_,?_,?_⟩
   ·exact hR.1 c.1 c.2 us q
   ·rw [hD];rfl
   ·rw [hD];rfl
   ·rw [hD];rfl
  | none =>
   have q' : usL ({ dw0 with tops:=dw0.tops ++ ptL l 1 0,exs:=dw0.exs ++ l.flatMap gvI } : Dw).tops dw0.locs dw0.this dw0.ins l 1=none:=q
   right
   have hD : Did _ _ (usL ({ dw0 with tops:=dw0.tops ++ ptL l 1 0,exs:=dw0.exs ++ l.flatMap gvI } : Dw).tops dw0.locs dw0.this dw0.ins l 1):=hD
   rw [q'] at hD
   exact ⟨hR.2 (.inr (.inr q)),hD.2⟩
 ·right
  have hc : freshB [] ((ptL l 1 0).map (·.nm))=false ∨ freshB [] (l.flatMap gvI)=false:=by
   cases q1 : freshB [] ((ptL l 1 0).map (·.nm)) with
   | false=>exact .inl rfl
   | true =>
    cases q2 : freshB [] (l.flatMap gvI) with
    | false=>exact .inr rfl
    | true=>exact absurd ⟨q1,q2⟩ c
  refine ⟨hR.2 (hc.elim .inl (fun z=>.inr (.inl z))),(dkids_did l 1 _).er (hT.no hc)⟩
end Go.Proofs.YtfcocoadaajbjaaGreatDoor
set_option linter.unusedVariables false
set_option linter.unusedSimpArgs false
namespace Go.Proofs.YtfcocoadaajbjaaGreatDoor
open Go.RowKit Go.Maps Go.ChangeMaps
structure KeyOk {κ : Type} (P : Program) (t : TypeId) (ek : κ→Value) (G : κ→Prop) : Prop where
 inj : ∀ {a b : κ},ek a=ek b→a=b
 check : ∀ (w : World) (em : Bool) {k : κ},G k→(Instr.checkKey em 10000 t (ek k)).run P w = .ok () w
 find : ∀ (w : World) {x : κ},G x→∀ es : List MapEntry,(∀ e ∈ es,∃ k,G k∧e.key=ek k)→((Instr.findKey t (ek x) es).run P w = .ok none w∧∀ e ∈ es,e.key ≠ ek x) ∨ ∃ j e,(Instr.findKey t (ek x) es).run P w = .ok (some (j,e.val)) w∧es[j]?=some e∧e.key=ek x
 stays : ∀ (w : World) {k : κ},G k→(Instr.keyThatStays (ek k) (ek k)).run P w = .ok (ek k) w
theorem KeyOk.of {κ : Type} {P : Program} {t : TypeId} (K : Keyed P t) {ek : κ→Value} {G : κ→Prop} (hi : ∀ {a b : κ},ek a=ek b→a=b) (h : ∀ k,G k→∃ l,keyOf P t (ek k)=some l) : KeyOk P t ek G where
 inj:=hi
 check w em k hk:=by obtain ⟨l,hl⟩:=h k hk;exact K.check w em hl
 find w x hx es hes:=by
  obtain ⟨l,hl⟩:=h x hx
  exact K.find w hl es fun e he=>by obtain ⟨k,hk,e1⟩:=hes e he;rw [e1];exact h k hk
 stays w k hk:=by obtain ⟨l,hl⟩:=h k hk;exact K.stays w hl
def MF {κ υ : Type} (G : κ→Prop) (ek : κ→Value) (ev : υ→Value) (w : World) (b n : Nat) (f : κ→Option υ) : Prop :=
 ∃ es clock,w.heap[b]?=some (.map es clock)∧es.size ≤ n∧(∀ e ∈ es.toList,∃ k v,G k∧e.key=ek k∧e.val=ev v∧f k=some v)∧(∀ k v,f k=some v→∃ e ∈ es.toList,e.key=ek k∧e.val=ev v)∧es.toList.Pairwise (fun x y=>x.key ≠ y.key)
section
variable {κ υ : Type} {G : κ→Prop} {ek : κ→Value} {ev : υ→Value} {w w' : World} {b n : Nat} {f : κ→Option υ} {P : Program} {t tk te : TypeId}
theorem MF.keep (h : MF G ek ev w b n f) (e : w'.heap[b]?=w.heap[b]?) : MF G ek ev w' b n f:=by
 obtain ⟨es,clock,hb,r⟩:=h
 exact ⟨es,clock,e.trans hb,r⟩
theorem MF.lt (h : MF G ek ev w b n f) : b < w.heap.size:=by
 obtain ⟨es,clock,hb,r⟩:=h
 exact (Array.getElem?_eq_some_iff.1 hb).1
theorem MF.nil (w : World) : MF G ek ev (w.alloc (.map #[] 0)) w.heap.size 0 (fun _=>none) :=
 ⟨#[],0,heap_alloc_new w _,Nat.le_refl _,by simp,by simp,by simp⟩
theorem MF.mono (h : MF G ek ev w b n f) {m : Nat} (hm : n ≤ m) : MF G ek ev w b m f:=by
 obtain ⟨es,clock,hb,hs,r⟩:=h
 exact ⟨es,clock,hb,Nat.le_trans hs hm,r⟩
theorem MF.look (h : MF G ek ev w b n f) (K : KeyOk P tk ek G) (ht : P.underlying t=some (.map tk te)) {z : Value} (hz : (zeroValue te).run P w = .ok z w) (k : κ) (hk : G k) (c : Bool) :
 (Instr.lookup t (.map (some b)) (ek k) c).run P w = .ok (if c then .tuple #[((f k).map ev).getD z,.bool (f k).isSome] else ((f k).map ev).getD z) w:=by
 obtain ⟨es,clock,hb,hs,h1,h2,h3⟩:=h
 rcases K.find w hk es.toList (fun e he=>by obtain ⟨k',v,a,b,_⟩:=h1 e he;exact ⟨k',a,b⟩) with ⟨r1,r2⟩ | ⟨j,e0,r1,r2,r3⟩
 ·have hf : f k=none:=by
   cases hfk : f k with
   | none=>rfl
   | some v =>
    obtain ⟨e,he,ee,_⟩:=h2 k v hfk
    exact absurd ee (r2 e he)
  rw [hf]
  simp [Instr.lookup,run_underlying ht,MapKept.run_getObj_map hb,K.check w _ hk,r1,hz,Result.andThen]
 ·have hm0 : e0 ∈ es.toList:=List.mem_of_getElem? r2
  obtain ⟨k',v,_,e1,e2,e3⟩:=h1 e0 hm0
  have : k'=k:=K.inj (e1.symm.trans r3)
  subst this
  rw [e3]
  simp [Instr.lookup,run_underlying ht,MapKept.run_getObj_map hb,K.check w _ hk,r1,Result.andThen,e2]
def upd [DecidableEq κ] (f : κ→Option υ) (k : κ) (v : υ) : κ→Option υ:=fun x=>if x=k then some v else f x
theorem pairwise_set {l : List MapEntry} (h : l.Pairwise (fun x y=>x.key ≠ y.key)) {j : Nat} {e0 e1 : MapEntry} (h2 : l[j]?=some e0) (hk : e1.key=e0.key) : (l.set j e1).Pairwise (fun x y=>x.key ≠ y.key):=by
 have hm : (l.set j e1).map (·.key)=l.map (·.key):=by
  apply List.ext_getElem?
  intro i
  rw [List.getElem?_map,List.getElem?_map,List.getElem?_set]
  split
  ·subst_vars
   have hj:=(List.getElem?_eq_some_iff.1 h2).1
   simp [h2,hk,hj]
   have:=(List.getElem?_eq_some_iff.1 h2).2
   rw [this]
  ·rfl
 have h' : (l.map (·.key)).Pairwise (· ≠ ·):=List.pairwise_map.2 h
 rw [← hm] at h'
 exact List.pairwise_map.1 h'
theorem MF.update [DecidableEq κ] (h : MF G ek ev w b n f) (K : KeyOk P tk ek G) (ht : P.underlying t=some (.map tk te)) (k : κ) (hk : G k) (v : υ) :
 ∃ w',(Instr.mapUpdate t (.map (some b)) (ek k) (ev v)).run P w = .ok () w'∧MF G ek ev w' b (n+1) (upd f k v)∧w.grownBy w' (some b):=by
 obtain ⟨es,clock,hb,hs,h1,h2,h3⟩:=h
 have gr : ∀ o,w.grownBy (setBlock w b o) (some b):=fun o=>⟨rfl,rfl,rfl,by simp [setBlock],fun i _ hi=>heap_setBlock_other hb _ (fun e=>hi (by rw [e]))⟩
 rcases K.find w hk es.toList (fun e he=>by obtain ⟨k',v,a,b,_⟩:=h1 e he;exact ⟨k',a,b⟩) with ⟨r1,r2⟩ | ⟨j,e0,r1,r2,r3⟩
 ·refine ⟨setBlock w b (.map (es.push ⟨ek k,ev v,clock⟩) (clock+1)),?_,⟨_,_,heap_setBlock_same hb _,by simp;omega,?_,?_,?_⟩,gr _⟩
  ·simp [Instr.mapUpdate,run_underlying ht,MapKept.run_getObj_map hb,K.check w false hk,r1,MapKept.run_setObj_map _ hb,Result.andThen,setBlock]
  ·intro e he
   simp only [Array.toList_push,List.mem_append,List.mem_singleton] at he
   rcases he with he | rfl
   ·obtain ⟨k',v',a,b,c,d⟩:=h1 e he
    refine ⟨k',v',a,b,c,?_⟩
    unfold upd
    rw [if_neg (fun e'=>r2 e he (by rw [b,e'])),d]
   ·exact ⟨k,v,hk,rfl,rfl,by simp [upd]⟩
  ·intro k' v' hf
   unfold upd at hf
   simp only [Array.toList_push,List.mem_append,List.mem_singleton]
   split at hf
   ·rename_i e;subst e
    cases hf
    exact ⟨_,Or.inr rfl,rfl,rfl⟩
   ·obtain ⟨e,he,r⟩:=h2 k' v' hf
    exact ⟨e,Or.inl he,r⟩
  ·simp only [Array.toList_push]
   refine List.pairwise_append.2 ⟨h3,by simp,fun x hx y hy=>?_⟩
   simp only [List.mem_singleton] at hy
   subst hy
   exact r2 x hx
 ·have hj : es[j]?=some e0:=by simpa using r2
  have hjl : j < es.toList.length:=(List.getElem?_eq_some_iff.1 r2).1
  have hlist : (es.modify j (fun e'=>{ e' with key:=ek k,val:=ev v })).toList=es.toList.set j { e0 with key:=ek k,val:=ev v }:=by rw [Array.toList_modify,modify_eq_set _ _ _ _ r2]
  refine ⟨setBlock w b (.map (es.modify j (fun e'=>{ e' with key:=ek k,val:=ev v })) clock),?_,⟨_,_,heap_setBlock_same hb _,by simp;omega,?_,?_,?_⟩,gr _⟩
  ·simp [Instr.mapUpdate,run_underlying ht,MapKept.run_getObj_map hb,K.check w false hk,r1,hj,r3,K.stays w hk,MapKept.run_setObj_map _ hb,Result.andThen,setBlock]
  ·intro e he
   rw [hlist] at he
   obtain ⟨i,hi,ex⟩:=List.getElem_of_mem he
   rw [List.getElem_set] at ex
   split at ex
   ·subst ex
    exact ⟨k,v,hk,rfl,rfl,by simp [upd]⟩
   ·rename_i hne
    have hi' : i < es.toList.length:=by simpa using hi
    have hm : e ∈ es.toList:=ex ▸ List.getElem_mem hi'
    obtain ⟨k',v',a,b,c,d⟩:=h1 e hm
    refine ⟨k',v',a,b,c,?_⟩
    unfold upd
    rw [if_neg (fun e'=>?_),d]
    have hp:=List.pairwise_iff_getElem.1 h3
    have ej : es.toList[j]=e0:=(List.getElem?_eq_some_iff.1 r2).2
    have hk1 : e.key=e0.key:=by rw [b,e',r3]
    rcases Nat.lt_or_gt_of_ne hne with hlt | hlt
    ·exact hp j i hjl hi' hlt (by rw [ej,ex,hk1])
    ·exact hp i j hi' hjl hlt (by rw [ej,ex,hk1])
  ·intro k' v' hf
   rw [hlist]
   unfold upd at hf
   split at hf
   ·rename_i e;subst e
    cases hf
    exact ⟨{ e0 with key:=ek k',val:=ev v },List.mem_iff_getElem.2 ⟨j,by simpa using hjl,by simp⟩,rfl,rfl⟩
   ·rename_i hne
    obtain ⟨e,he,r⟩:=h2 k' v' hf
    obtain ⟨i,hi,ex⟩:=List.getElem_of_mem he
    refine ⟨e,List.mem_iff_getElem.2 ⟨i,by simpa using hi,?_⟩,r⟩
    rw [List.getElem_set]
    split
    ·rename_i e;subst e
     have ej : es.toList[j]=e0:=(List.getElem?_eq_some_iff.1 r2).2
     exact absurd (K.inj (r.1.symm.trans ((by rw [← ex,ej] : e.key=e0.key).trans r3))) hne
    ·exact ex
  ·rw [hlist]
   exact pairwise_set h3 r2 (by simp [r3])
end
end Go.Proofs.YtfcocoadaajbjaaGreatDoor
set_option linter.unusedVariables false
namespace Go.Proofs.YtfcocoadaajbjaaGreatDoor
open Go.RowKit
set_option maxHeartbeats 4000000
theorem bel_a (w : World) (o : Obj) : Below w.heap.size w (w.alloc o):=(Below.refl _ w).alloc (Nat.le_refl _) o
theorem kid_at {w W : World} {S : Nat→Prop} {bl o k : Nat} {x : Nd} {v : Value} (h4 : Four w bl (o+k * 4) x v) (hk : LAt w S v x.ks) (hb : bl < w.heap.size) (bel : Below w.heap.size w W) :
 (W.cell? ⟨bl,o+k * 4,none⟩=some (.int .i64 x.k)∧W.cell? ⟨bl,o+k * 4+1,none⟩=some (.string x.t)∧W.cell? ⟨bl,o+k * 4+2,none⟩=some (.int .i64 x.n)∧W.cell? ⟨bl,o+k * 4+3,none⟩=some v)∧LAt W S v x.ks :=
 ⟨h4.of_block (bel.block bl hb),hk.bel bel⟩
theorem rsize_any (x : Nd) : ∀ (w : World) (S : Nat→Prop) (v : Value),LAt w S v x.ks→x.size ≤ 4194304 →
 Calls Tryz.prog 12 #[x.v v] w fun e w'=>e = .returned (.int .i64 (x.size : Nat))∧Below w.heap.size w w':=by
 induction x using Nd.ind with
 | h x ih =>
  intro w S v hx zx
  obtain ⟨ax,cx,bx,ox,fx,rfl,px,qx,rx⟩:=hx.op
  have zs:=x.size_eq
  have lx:=sizes_len x.ks
  have lx2 : x.ks.length ≤ 4194304:=by omega
  have tot:=take_sizes_le x.ks
  unfold Nd.v
  go_enter Tryz.func12,Tryz.ntmps12
  go_wp2
  go_loopw [3,4] (fun s i wr=>∃ k : Nat,i = .int .i64 (k : Nat)∧s = .int .i64 (1+sizes (x.ks.take k) : Nat)∧k ≤ x.ks.length∧Below w.heap.size w wr∧w.heap.size < wr.heap.size∧wr.cell? ⟨w.heap.size,3,none⟩=some (.slice ax x.ks.length cx)) (fun _ i _=>x.ks.length - (intOf i).toNat)
  case atStart=>exact ⟨0,rfl,by simp [sizes_nil],by omega,(Below.refl _ w).alloc (Nat.le_refl _) _,by simp,by simp⟩
  case round =>
   obtain ⟨k,rfl,rfl,hk,bel,sz,c1⟩:=hrel
   by_cases hkl : k < x.ks.length
   ·obtain ⟨rfl,hSx,hbx⟩:=px (by omega)
    have iha:=ih x.ks[k] (List.getElem_mem hkl)
    have zk:=x.kid_size hkl
    have HS : Hid (sizes (x.ks.take (k+1))=sizes (x.ks.take k)+x.ks[k].size):=take_sizes x.ks hkl
    have hle:=tot (k+1)
    rw [HS.out] at hle
    obtain ⟨⟨u1,u2,u3,u4⟩,gx⟩:=kid_at (qx k hkl) (rx k hkl) hbx bel
    generalize x.ks[k]=xk at *
    generalize fx k=fxk at *
    generalize hs : sizes (x.ks.take k)=sk at *
    clear tot
    go_wp2_with (go_at_call 12;refine (iha _ S fxk gx (by omega)).mono ?_;rintro e W1 ⟨rfl,b1⟩)
    clear u1 u2 u3 u4 iha gx
    go_roundw
    case rel=>exact ⟨k+1,by simp,by rw [HS.out];simp;omega,by omega,bel.trans (b1.mono bel.size),Nat.lt_of_lt_of_le sz b1.size,(b1.cell (p:=⟨w.heap.size,3,none⟩) sz).trans c1⟩
    case measure=>simp [intOf];omega
   ·have e : x.ks.take k=x.ks:=List.take_of_length_le (by omega)
    rw [e,← zs]
    clear e tot
    go_wp2
    go_ret
    exact ⟨rfl,bel⟩
theorem LAt.mono' {w : World} {S T : Nat→Prop} {v : Value} {ks : List Nd} (h : LAt w S v ks) (hT : ∀ b,b < w.heap.size→S b→T b) : LAt w T v ks:=by
 induction h with
 | nil a c=>exact .nil a c
 | row bl o c ks f hS hl h4 hk ih=>exact .row bl o c ks f (hT bl hl hS) hl h4 ih
theorem LAt.grown {w w' : World} {S : Nat→Prop} {v : Value} {ks : List Nd} {row : Option Nat} (h : LAt w S v ks) (hg : w.grownBy w' row) (hr : ∀ b,S b→row ≠ some b) : LAt w' S v ks :=
 h.keep hg.size (fun b hb hl=>hg.block b hl (fun e=>hr b hb e.symm))
theorem LAt.sl {w : World} {S : Nat→Prop} {v : Value} {ks : List Nd} (h : LAt w S v ks) : ∃ a c,v = .slice a ks.length c:=by
 obtain ⟨a,c,_,_,_,e,_⟩:=h.op
 exact ⟨a,c,e⟩
def rowN (L : List (Nd × Value)) : List Value:=L.flatMap fun p=>[.int .i64 p.1.k,.string p.1.t,.int .i64 p.1.n,p.2]
theorem rowN_cons (p : Nd × Value) (L : List (Nd × Value)) : rowN (p :: L) = .int .i64 p.1.k :: .string p.1.t :: .int .i64 p.1.n :: p.2 :: rowN L:=rfl
theorem rowN_append (L M : List (Nd × Value)) : rowN (L ++ M)=rowN L ++ rowN M:=by simp [rowN]
theorem rowN_length : ∀ L : List (Nd × Value),(rowN L).length=L.length * 4
 | []=>rfl
 | x :: F=>by rw [rowN_cons];simp [rowN_length F];omega
theorem rowN_get : ∀ (F : List (Nd × Value)) (i : Nat) (h : i < F.length),(rowN F)[i * 4]?=some (.int .i64 F[i].1.k)∧(rowN F)[i * 4+1]?=some (.string F[i].1.t)∧(rowN F)[i * 4+2]?=some (.int .i64 F[i].1.n)∧(rowN F)[i * 4+3]?=some F[i].2
 | x :: F,0,_=>by simp [rowN_cons]
 | x :: F,i+1,h=>by
  have:=rowN_get F i (by simpa using h)
  rw [rowN_cons,show (i+1) * 4=i * 4+1+1+1+1 by omega]
  simpa using this
theorem lat_of_row {w : World} {S : Nat→Prop} {base : Nat} {v : Value} {L : List (Nd × Value)} (h : w.ownsRow base 24 4 v L.length (rowN L)) (hk : ∀ p ∈ L,LAt w S p.2 p.1.ks) (hS : ∀ g,v.ownBlock=some g→S g) : LAt w S v (L.map (·.1)):=by
 rcases h.2 with ⟨rfl,h0⟩ | ⟨g,cap,cur,rfl,hb,hg,_,_,hcs,htk⟩
 ·rw [List.length_eq_zero_iff.1 h0];exact .nil _ _
 ·have key : ∀ i (hi : i < (L.map (·.1)).length),Four w g (0+i * 4) (L.map (·.1))[i] ((L[i]?.map (·.2)).getD default):=fun i hi=>by
   have hi' : i < L.length:=by simpa using hi
   have hf:=rowN_get L i hi'
   rw [← htk] at hf
   have g1 : ∀ j,j < L.length * 4→(cur.toList.take (L.length * 4))[j]?=cur[j]?:=fun j hj=>by rw [List.getElem?_take_of_lt hj];simp
   rw [g1 _ (by omega),g1 _ (by omega),g1 _ (by omega),g1 _ (by omega)] at hf
   have c : ∀ j,w.cell? ⟨g,j,none⟩=cur[j]?:=fun j=>cell_of_row w g _ _ _ _ hg
   simp only [List.getElem_map,List.getElem?_eq_getElem hi',Option.map_some,Option.getD_some,Nat.zero_add]
   exact ⟨(c _).trans hf.1,(c _).trans hf.2.1,(c _).trans hf.2.2.1,(c _).trans hf.2.2.2⟩
  have e : L.length=(L.map (·.1)).length:=by simp
  rw [e]
  refine .row g 0 cap _ _ (hS g rfl) (Array.getElem?_eq_some_iff.1 hg).1 key (fun i hi=>?_)
  have hi' : i < L.length:=by simpa using hi
  have:=hk L[i] (List.getElem_mem hi')
  simpa [List.getElem?_eq_getElem hi'] using this
def zeroN : Value:=.agg #[.int .i64 0,.string ByteArray.empty,.int .i64 0,.slice none 0 0]
theorem info_nd : (Tryz.prog.info? 24).map (fun i=>(i.zero,i.size,i.bytes))=some (some zeroN,4,56):=by kernel_rfl
theorem hnew {w : World} (o : Obj) {k : Nat} (h : k=w.heap.size) : (w.alloc o).heap[k]?=some o:=by subst h;exact heap_alloc_new w o
theorem hold {w : World} (o : Obj) {k : Nat} {u : Option Obj} (h : k < w.heap.size) (hu : w.heap[k]?=u) : (w.alloc o).heap[k]?=u:=(Below.heap_alloc w o k h).trans hu
theorem grow_bel {a b : World} (h : Below a.heap.size a b) : a.grownBy b none:=⟨h.os,h.tape,h.output,h.size,fun k hk _=>h.block k hk⟩
theorem row_bel {w w' : World} {base : Nat} {e : TypeId} {size : Nat} {v : Value} {n : Nat} {xs : List Value} (h : w.ownsRow base e size v n xs) (b : Below w.heap.size w w') : w'.ownsRow base e size v n xs :=
 h.kept (grow_bel b) (by cases v.ownBlock <;> simp)
theorem row_lt {w : World} {base : Nat} {e : TypeId} {size : Nat} {v : Value} {n : Nat} {xs : List Value} (h : w.ownsRow base e size v n xs) : ∀ g,v.ownBlock=some g→base ≤ g∧g < w.heap.size:=by
 rcases h.2 with ⟨rfl,h0⟩ | ⟨g,cap,cur,rfl,hb,hg,_⟩
 ·intro g hg;cases hg
 ·intro g' hg';cases hg';exact ⟨hb,(Array.getElem?_eq_some_iff.1 hg).1⟩
theorem box4 {w : World} {b : Nat} {p q r s : Value} {t : TypeId} (h : w.heap[b]?=some (.cells #[p,q,r,s] t (0,0))) :
 (w.cell? ⟨b,0,none⟩=some p∧w.cell? ⟨b,1,none⟩=some q∧w.cell? ⟨b,2,none⟩=some r∧w.cell? ⟨b,3,none⟩=some s)∧(w.frozen? ⟨b,0,none⟩=false∧w.frozen? ⟨b,1,none⟩=false∧w.frozen? ⟨b,2,none⟩=false∧w.frozen? ⟨b,3,none⟩=false):=by
 simp [World.cell?,World.frozen?,h]
theorem box4_set {w : World} {b : Nat} {p q r s : Value} {t : TypeId} {fr : Nat × Nat} (p' q' r' s' : Value) (h : w.heap[b]?=some (.cells #[p,q,r,s] t fr)) :
 ((((w.setCell ⟨b,0,none⟩ p').setCell ⟨b,1,none⟩ q').setCell ⟨b,2,none⟩ r').setCell ⟨b,3,none⟩ s').heap[b]?=some (.cells #[p',q',r',s'] t fr):=by
 simp [World.setCell,Array.getElem?_modify,h]
theorem res_nd {fn : Func} {p : Nat} (h : fn.results=#[.cell p 24]) {W : World} {n : Nat} {a b c d : Value} {t : TypeId} {tmps : Array Value} (hb : W.heap[n]?=some (.cells #[a,b,c,d] t (0,0))) (ht : tmps[p]?.getD undef = .pointer (some ⟨n,0,none⟩)) :
 (results fn tmps).run Tryz.prog W = .ok (.agg #[a,b,c,d]) W:=by
 obtain ⟨⟨c0,c1,c2,c3⟩,_⟩:=box4 hb
 simp [results,h,go_sem,ht,c0,c1,c2,c3]
structure Grow (B : Nat) (w : World) (v : Value) (L : List (Nd × Value)) (k : Nat) : Prop where
 own : w.ownsRow B 24 4 v k (rowN L)
 kids : ∀ p ∈ L,LAt w (fun b=>B ≤ b∧v.ownBlock ≠ some b) p.2 p.1.ks
theorem Grow.nil (B : Nat) (w : World) : Grow B w (.slice none 0 0) [] 0:=⟨World.ownsRow_nil _ _ _ _,by simp⟩
theorem Grow.bel {B : Nat} {w w' : World} {v : Value} {L : List (Nd × Value)} {k : Nat} (h : Grow B w v L k) (b : Below w.heap.size w w') : Grow B w' v L k :=
 ⟨row_bel h.own b,fun p hp=>(h.kids p hp).bel b⟩
theorem Grow.push {B k gg cap : Nat} {w W1 W3 : World} {v v1 : Value} {L : List (Nd × Value)} {x : Nd} {o : Obj} (h : Grow B w v L k) (hB : B ≤ w.heap.size) (b : Below w.heap.size w W1) (l1 : LAt W1 (fun b=>w.heap.size ≤ b) v1 x.ks)
 (hg : (W1.alloc o).grownBy W3 v.ownBlock) (hat : v.ownBlock=some gg ∨ gg=W1.heap.size+1) (hown : W3.ownsRow B 24 4 (.slice (some ⟨gg,0,none⟩) (k+1) cap) (k+1) (rowN L ++ [.int .i64 x.k,.string x.t,.int .i64 x.n,v1])) {p : Addr} (hp : p.block < B) (u : Value) :
 Grow B (W3.setCell p u) (.slice (some ⟨gg,0,none⟩) (k+1) cap) (L ++ [(x,v1)]) (k+1):=by
 have hs:=b.size
 have hs3 : W1.heap.size+1 ≤ W3.heap.size:=by have:=hg.size;simpa using this
 have hz : (W3.setCell p u).heap.size=W3.heap.size:=by simp [World.setCell]
 have olt:=row_lt h.own
 have blk : ∀ j,B ≤ j→j < W1.heap.size→v.ownBlock ≠ some j→(W3.setCell p u).heap[j]?=W1.heap[j]?:=fun j h1 h2 h3 =>
  (Below.heap_setCell _ _ _ _ (by omega)).trans ((hg.block j (by simp;omega) (fun e=>h3 e.symm)).trans (Below.heap_alloc _ _ _ h2))
 refine ⟨ownsRow_setCell_below (by rw [rowN_append];exact hown) hp u,fun q hq=>?_⟩
 rcases List.mem_append.1 hq with hq | hq
 ·have h1 : LAt w (fun b=>(B ≤ b∧v.ownBlock ≠ some b)∧gg ≠ b) q.2 q.1.ks:=(h.kids q hq).mono' (fun j hj hS=>⟨hS,fun e=>by
   subst e
   rcases hat with e | e
   ·exact hS.2 e
   ·omega⟩)
  exact (h1.keep (by omega) (fun j hj hl=>(blk j hj.1.1 (by omega) hj.1.2).trans (b.block j hl))).mono (fun j hj=>⟨hj.1.1,fun e=>hj.2 (by cases e;rfl)⟩)
 ·obtain rfl : q=(x,v1):=by simpa using hq
  have h1 : LAt W1 (fun b=>w.heap.size ≤ b∧b < W1.heap.size) v1 x.ks:=l1.mono' (fun j hj hS=>⟨hS,hj⟩)
  have ne : ∀ j,w.heap.size ≤ j→v.ownBlock ≠ some j:=fun j hj e=>by have:=(olt j e).2;omega
  exact (h1.keep (by omega) (fun j hj hl=>blk j (by omega) hl (ne j hj.1))).mono (fun j hj=>⟨by omega,fun e=>by
   obtain rfl : gg=j:=by simpa [Value.ownBlock] using e
   have h1:=hj.1
   have h2:=hj.2
   rcases hat with e | e
   ·exact ne gg h1 e
   ·omega⟩)
theorem Grow.lat {B k : Nat} {w : World} {v : Value} {L : List (Nd × Value)} {ks : List Nd} (h : Grow B w v L k) (e : L.map (·.1)=ks) : LAt w (fun b=>B ≤ b) v ks:=by
 subst e
 have hl : L.length=k:=by have h1:=h.own.1;have h2:=rowN_length L;omega
 have own:=h.own
 rw [← hl] at own
 exact lat_of_row own (fun p hp=>(h.kids p hp).mono (fun b hb=>hb.1)) (fun g hg=>(row_lt own g hg).1)
end Go.Proofs.YtfcocoadaajbjaaGreatDoor
