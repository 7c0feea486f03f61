/- Own text. Names in scopes: what the form of a module or script gives besides;bounds of the document's walk (of the model;no program is named here). -/
import Derived.Test.YtfcocoadaajbjaaGreatDoorGd11
import Derived.Test.YtfcocoadaajbjaaGreatDoorGd05
set_option linter.unusedVariables false
set_option linter.unusedSimpArgs false
namespace Go.Proofs.YtfcocoadaajbjaaGreatDoor
open Go.RowKit
def Shp (mod : Bool) (y : Nd) : Prop:=wholeP mod y=true ∨ (y.k=6∧y.ks=[])
theorem fitsL_no {mod : Bool} {l : List Nd} (h : fitsL mod [] 0 l=true) : l=[]:=by
 cases l with
 | nil=>rfl
 | cons b r =>
  rw [fitsL_cons,Bool.and_eq_true] at h
  have:=h.1
  rw [show ([] : List Int).headD 0=0 from rfl,fits_0] at this
  cases this
theorem whole_r {mod : Bool} {x : Nd} (h : wholeP mod x=true) : ∃ r,ruleK x.k=some r∧saysT mod r.t x.t=true∧r.ks.length ≤ x.ks.length∧fitsL mod r.ks r.r x.ks=true:=by
 obtain ⟨k,t,n,ks⟩:=x
 cases er : ruleK k with
 | none =>
  unfold wholeP at h
  change (match ruleK k with | none=>false | some r=>_)=true at h
  rw [er] at h;cases h
 | some r=>exact ⟨r,er,whole_rule er h⟩
theorem shp_kid {mod : Bool} {x y : Nd} (h : Shp mod x) (hy : y ∈ x.ks) : Shp mod y:=by
 rcases h with h | ⟨_,e⟩
 ·obtain ⟨r,er,h1,h2,h3⟩:=whole_r h
  obtain ⟨q,_,hq⟩:=fitsL_mem h3 y hy
  rw [fitsP_eq] at hq
  by_cases e : q=114∧y.k=6
  ·rw [if_pos e] at hq
   unfold folP at hq
   rw [Bool.and_eq_true] at hq
   exact .inr ⟨e.2,fitsL_no hq.2⟩
  ·rw [if_neg e,Bool.and_eq_true] at hq
   exact .inl hq.2
 ·rw [e] at hy;cases hy
theorem shp_some {mod : Bool} {x : Nd} (h : Shp mod x) (hk : x.k=61 ∨ x.k=62 ∨ x.k=63 ∨ x.k=65 ∨ x.k=18 ∨ isFn x.k=true) : x.ks ≠ []:=by
 rcases h with h | ⟨e,_⟩
 ·obtain ⟨r,er,_,h2,_⟩:=whole_r h
  intro e
  rw [e] at h2
  rcases hk with q | q | q | q | q | q
  ·rw [q] at er;cases er;exact absurd h2 (by decide)
  ·rw [q] at er;cases er;exact absurd h2 (by decide)
  ·rw [q] at er;cases er;exact absurd h2 (by decide)
  ·rw [q] at er;cases er;exact absurd h2 (by decide)
  ·rw [q] at er;cases er;exact absurd h2 (by decide)
  ·rcases of_decide_eq_true q with q | q | q | q <;> (rw [q] at er;cases er;exact absurd h2 (by decide))
 ·rw [e] at hk
  exact absurd hk (by decide)
theorem shp_exp {mod : Bool} {x : Nd} (h : Shp mod x) (hk : x.k=62 ∨ x.k=63) : ∀ a ∈ x.ks,a.k ≠ 61∧a.k ≠ 63:=by
 intro a ha
 rcases h with h | ⟨e,_⟩
 ·obtain ⟨r,er,_,h2,h3⟩:=whole_r h
  obtain ⟨q,hq,hf⟩:=fitsL_mem h3 a ha
  rcases hk with z | z
  ·rw [z] at er
   cases er
   have hq : q = 0 ∨ q = 111:=by rcases hq with hq | hq;· exact .inl hq
                                 ·exact .inr (List.mem_singleton.1 hq)
   rcases hq with rfl | rfl
   ·rw [fits_0] at hf;cases hf
   ·have:=(fits_w (by decide) hf).1
    have this : ((a.k=40 ∨ a.k=41) ∨ a.k=42) ∨ a.k=46:=by simpa [standsK] using this
    omega
  ·rw [z] at er
   cases er
   have hq : q = 0 ∨ q = 112:=by rcases hq with hq | hq;· exact .inl hq
                                 ·exact .inr (List.mem_singleton.1 hq)
   rcases hq with rfl | rfl
   ·rw [fits_0] at hf;cases hf
   ·have:=(fits_w (by decide) hf).1
    have this : (formK a.k=1 ∨ a.k=41) ∨ a.k=42:=by simpa [standsK] using this
    rcases this with (w | w) | w
    ·have:=f1K w
     simp only [List.mem_cons,List.not_mem_nil,or_false] at this
     omega
    ·omega
    ·omega
 ·omega
structure Dz (k : Int) (ks : List Nd) : Prop where
 asg : k=18→∃ a b,ks=[a,b]
 fn : isFn k=true→∃ a r,ks=a :: r∧a.k=12
inductive Dn : Nd→Prop where
 | mk (x : Nd) : Dz x.k x.ks→(∀ y ∈ x.ks,Dn y)→Dn x
theorem Dn.p {x : Nd} (h : Dn x) : Dz x.k x.ks:=by cases h;assumption
theorem Dn.kd {x : Nd} (h : Dn x) : ∀ y ∈ x.ks,Dn y:=by cases h;assumption
theorem shp_dz {mod : Bool} {x : Nd} (h : Shp mod x) : Dz x.k x.ks:=by
 rcases h with h | ⟨e,_⟩
 ·obtain ⟨r,er,_,h2,h3⟩:=whole_r h
  constructor
  ·intro z
   rw [z] at er
   cases er
   match hx : x.ks,h2,h3 with
   | [],h2,_=>exact absurd h2 (by decide)
   | [a],h2,_=>exact absurd h2 (by simp [exprR])
   | [a,b],_,_=>exact ⟨a,b,rfl⟩
   | a :: b :: c :: l,_,h3 =>
    exfalso
    have h3 : fitsL mod [103,101] 0 (a :: b :: c :: l)=true:=h3
    rw [fitsL_cons,Bool.and_eq_true] at h3
    have h3:=h3.2
    rw [List.tail_cons,fitsL_cons,Bool.and_eq_true] at h3
    have h3:=h3.2
    rw [List.tail_cons] at h3
    exact absurd (fitsL_no h3) (by simp)
  ·intro z
   have key : ∃ l,r.ks=12 :: l:=by
    rcases of_decide_eq_true z with q | q | q | q <;> (rw [q] at er;cases er;exact ⟨_,rfl⟩)
   obtain ⟨l,e⟩:=key
   rw [e] at h2 h3
   match hx : x.ks,h2,h3 with
   | [],h2,_=>simp at h2
   | a :: q,_,h3 =>
    rw [fitsL_cons,Bool.and_eq_true] at h3
    have:=(fits_w (mod:=mod) (q:=12) (y:=a) (by decide) h3.1).1
    exact ⟨a,q,rfl,by simp [standsK] at this;omega⟩
 ·rw [e]
  exact ⟨fun q=>absurd q (by decide),fun q=>absurd q (by decide)⟩
theorem shp_dn {mod : Bool} (x : Nd) : Shp mod x→Dn x:=by
 induction x using Nd.ind with
 | h x ih=>exact fun h=>.mk x (shp_dz h) fun y hy=>ih y hy (shp_kid h hy)
theorem id_nd {mod : Bool} {t : ByteArray} (h : idT mod t=true) : t.toList ≠ dflt.toList:=by
 intro e
 unfold idT at h
 rw [Bool.and_eq_true] at h
 have h:=h.2
 unfold isW at h
 rw [← ByteArray.toList_eq t,e,show dflt.toList=[100,101,102,97,117,108,116] from ByteArray.toList_eq _] at h
 exact absurd h (by decide)
theorem nmDs_of : ∀ {l : List Nd},(∀ y ∈ l,nmD y)→nmDs l
 | [],_=>by rw [nmDs];trivial
 | y :: l,h=>by
  rw [nmDs]
  exact ⟨h y (by simp),nmDs_of fun z hz=>h z (by simp [hz])⟩
theorem nm_inn (mod : Bool) (x : Nd) : ∀ p ∈ innP,fitsP mod p x=true→nmD x:=by
 induction x using Nd.ind with
 | h x ih =>
  intro p hp h
  obtain ⟨hs,hw⟩:=fits_w (fun e=>by subst e;exact absurd hp (by decide)) h
  obtain ⟨hk,_,_⟩:=stands_inn hp hs
  obtain ⟨r,er,h1,h2,h3⟩:=whole_r hw
  have hr:=rul_inn _ hk
  unfold rulOk at hr
  rw [er] at hr
  have hr:=List.all_eq_true.1 hr
  have kid : ∀ y ∈ x.ks,nmD y:=fun y hy=>by
   obtain ⟨q,hq,hf⟩:=fitsL_mem h3 y hy
   have hq':=hr q (by rcases hq with rfl | hq <;> simp_all)
   simp only [Bool.and_eq_true,decide_eq_true_eq] at hq'
   exact ih y hy q hq'.1 hf
  obtain ⟨k,t,n,ks⟩:=x
  have er : ruleK k=some r:=er
  have h1 : saysT mod r.t t=true:=h1
  have h3 : fitsL mod r.ks r.r ks=true:=h3
  have hk : k ∈ innK:=hk
  rw [nmD]
  refine ⟨fun e=>?_,fun e=>?_,fun e=>?_,fun _ _=>nmDs_of kid⟩
  ·subst e
   cases er
   exact fitsL_no h3
  ·rcases e with e | e | ⟨e,e2⟩
   ·subst e;cases er;have h1 : saysT mod 1 t=true:=h1;exact id_nd (mod:=mod) (by simpa [saysT] using h1)
   ·subst e;cases er;have h1 : saysT mod 1 t=true:=h1;exact id_nd (mod:=mod) (by simpa [saysT] using h1)
   ·subst e;cases er
    have h1 : saysT mod 5 t=true:=h1
    have h1 : (idT mod t=true ∨ t.toList=[110,117,108,108]) ∨ t.toList=[117,110,100,101,102,105,110,101,100]:=by simpa [saysT] using h1
    rcases h1 with (h1 | h1) | h1
    ·exact id_nd h1
    ·rw [h1,show dflt.toList=[100,101,102,97,117,108,116] from ByteArray.toList_eq _];decide
    ·rw [h1,show dflt.toList=[100,101,102,97,117,108,116] from ByteArray.toList_eq _];decide
  ·subst e
   exact absurd hk (by decide)
theorem nm_out {mod : Bool} {x : Nd} (hk : x.k=42 ∨ x.k=46 ∨ x.k=66) (hw : wholeP mod x=true) : nmD x:=by
 obtain ⟨r,er,h1,h2,h3⟩:=whole_r hw
 have hq : ∀ q,q=r.r ∨ q ∈ r.ks→q ∈ innP:=by
  rcases hk with e | e | e <;> (rw [e] at er;cases er)
  ·exact fun q hq=>by rcases hq with rfl | hq;· decide
                      ·cases hq
  ·exact fun q hq=>by rcases hq with rfl | hq;· decide
                      ·rcases List.mem_singleton.1 hq with rfl;decide
  ·exact fun q hq=>by rcases hq with rfl | hq;· decide
                      ·cases hq
 obtain ⟨k,t,n,ks⟩:=x
 have hk : k=42 ∨ k=46 ∨ k=66:=hk
 rw [nmD]
 refine ⟨fun e=>by omega,fun e=>by omega,fun e=>by omega,fun _ _=>nmDs_of fun y hy=>?_⟩
 obtain ⟨q,h4,h5⟩:=fitsL_mem h3 y hy
 exact nm_inn mod y q (hq q h4) h5
theorem nm_stmt {mod : Bool} {x : Nd} (hk : formK x.k=3) (hw : wholeP mod x=true) : nmD x:=by
 refine nm_inn mod x 107 (by decide) ?_
 rw [fitsP_eq,if_neg (by omega),Bool.and_eq_true]
 exact ⟨by simp [standsK,hk],hw⟩
theorem nm_item {mod : Bool} {x : Nd} (hk : formK x.k=3 ∨ formK x.k=4 ∨ x.k=66) (hw : wholeP mod x=true) : nmD x:=by
 rcases hk with hk | hk | hk
 ·exact nm_stmt hk hw
 ·have:=f4K hk
  simp only [List.mem_cons,List.not_mem_nil,or_false] at this
  rcases this with e | e | e | e | e | e
  ·exact nm_out (.inl e) hw
  ·exact nm_out (.inr (.inl e)) hw
  ·obtain ⟨k,t,n,ks⟩:=x
   have e : k=60:=e
   rw [nmD]
   exact ⟨fun w=>by omega,fun w=>by omega,fun w=>by omega,fun w=>absurd e w⟩
  ·obtain ⟨r,er,h1,h2,h3⟩:=whole_r hw
   obtain ⟨k,t,n,ks⟩:=x
   have e : k=62:=e
   subst e
   cases er
   obtain ⟨a,e,ha⟩:=one_kid h3 h2
   have e : ks=[a]:=e
   subst e
   obtain ⟨hs,hwa⟩:=fits_w (by decide) ha
   have hs : ((a.k=40 ∨ a.k=41) ∨ a.k=42) ∨ a.k=46:=by simpa [standsK] using hs
   rw [nmD]
   refine ⟨fun w=>by omega,fun w=>by omega,fun w=>by omega,fun _ _=>nmDs_of fun y hy=>?_⟩
   rw [List.mem_singleton] at hy
   subst hy
   rcases hs with ((q | q) | q) | q
   ·exact nm_stmt (by rw [q];decide) hwa
   ·exact nm_stmt (by rw [q];decide) hwa
   ·exact nm_out (.inl q) hwa
   ·exact nm_out (.inr (.inl q)) hwa
  ·obtain ⟨r,er,h1,h2,h3⟩:=whole_r hw
   obtain ⟨k,t,n,ks⟩:=x
   have e : k=63:=e
   subst e
   cases er
   obtain ⟨a,e,ha⟩:=one_kid h3 h2
   have e : ks=[a]:=e
   subst e
   obtain ⟨hs,hwa⟩:=fits_w (by decide) ha
   have hs : (formK a.k=1 ∨ a.k=41) ∨ a.k=42:=by simpa [standsK] using hs
   rw [nmD]
   refine ⟨fun w=>by omega,fun w=>by omega,fun w=>by omega,fun _ _=>nmDs_of fun y hy=>?_⟩
   rw [List.mem_singleton] at hy
   subst hy
   rcases hs with (q | q) | q
   ·refine nm_inn mod y 101 (by decide) ?_
    rw [fitsP_eq,if_neg (by omega),Bool.and_eq_true]
    exact ⟨by simp [standsK,q],hwa⟩
   ·exact nm_stmt (by rw [q];decide) hwa
   ·exact nm_out (.inl q) hwa
  ·have ha : agreesP mod x=true:=by
    unfold wholeP at hw
    cases er : ruleK x.k with
    | none=>rw [er] at hw;cases hw
    | some r=>rw [er,Bool.and_eq_true] at hw;exact hw.2
   obtain ⟨k,t,n,ks⟩:=x
   have e : k=64:=e
   subst e
   unfold agreesP at ha
   have ha : exportS mod (.mk 64 t n ks)=true:=ha
   rw [nmD]
   refine ⟨fun w=>by omega,fun w=>by omega,fun _ et y hy=>?_,fun _ w=>absurd rfl w⟩
   unfold exportS at ha
   change (if 0 ≤ starN ks then _ && (t.toList != []) && _ else (t.toList != []) || ks.all fun y=>idT mod y.t)=true at ha
   rw [et] at ha
   split at ha
   ·simp at ha
   ·simp only [bne_self_eq_false,Bool.false_or,List.all_eq_true] at ha
    exact id_nd (ha y hy)
 ·exact nm_out (.inr (.inr hk)) hw
theorem form_shape {x : Nd} (h : formP x=5 ∨ formP x=6) : ∃ mod,Shp mod x∧nmDs x.ks:=by
 obtain ⟨hk,_⟩:=form_items h
 unfold formP at h
 by_cases hw : wholeP (x.k == 68) x=true
 ·refine ⟨_,.inl hw,?_⟩
  obtain ⟨k,t,n,ks⟩:=x
  have hk : k=68 ∨ k=69:=hk
  rcases hk with rfl | rfl
  ·obtain ⟨h1,h2,h3⟩:=whole_rule (r:=⟨0,0,[],109⟩) rfl hw
   refine nmDs_of fun y hy=>?_
   obtain ⟨hs,hwy⟩:=fits_w (by decide) (fitsL_all h3 y hy)
   have hs : formK y.k=3 ∨ formK y.k=4:=by simpa [standsK] using hs
   exact nm_item (hs.imp id .inl) hwy
  ·obtain ⟨h1,h2,h3⟩:=whole_rule (r:=⟨0,0,[],110⟩) rfl hw
   refine nmDs_of fun y hy=>?_
   obtain ⟨hs,hwy⟩:=fits_w (by decide) (fitsL_all h3 y hy)
   have hs : (formK y.k=3 ∨ y.k=42) ∨ y.k=66:=by simpa [standsK] using hs
   rcases hs with (hs | hs) | hs
   ·exact nm_item (.inl hs) hwy
   ·exact nm_item (.inr (.inl (by rw [hs];decide))) hwy
   ·exact nm_item (.inr (.inr hs)) hwy
 ·rw [if_neg hw] at h;omega
mutual
def lcN : Nd→Nat
 | .mk k t n ks=>(if isFn k=true then (parK ks).length else if k=52 then ks.length else 0)+lcL ks
def lcL : List Nd→Nat
 | []=>0
 | a :: r=>max (lcN a) (lcL r)
end
theorem lcL_le : ∀ l : List Nd,(∀ x ∈ l,lcN x+1 ≤ x.size)→lcL l+l.length ≤ sizes l
 | [],_=>by rw [lcL,sizes_nil];simp
 | a :: r,h=>by
  rw [lcL,sizes_cons,List.length_cons]
  have h1:=h a (by simp)
  have h2:=lcL_le r (fun x hx=>h x (by simp [hx]))
  have h3:=sizes_len r
  omega
theorem lcL_mem : ∀ {l : List Nd} {x : Nd},x ∈ l→lcN x ≤ lcL l
 | y :: l,x,h=>by
  rw [lcL]
  rcases List.mem_cons.1 h with rfl | h
  ·omega
  ·have:=lcL_mem h;omega
theorem lc_le2 (x : Nd) : Dn x→lcN x+1 ≤ x.size∧∀ y ∈ x.ks,lcN y+1 ≤ y.size:=by
 induction x using Nd.ind with
 | h x ih =>
  intro h
  have hk : ∀ y ∈ x.ks,lcN y+1 ≤ y.size:=fun y hy=>(ih y hy (h.kd y hy)).1
  refine ⟨?_,hk⟩
  have hL:=lcL_le x.ks hk
  have hz:=h.p
  have hs:=x.size_eq
  have h2 : ∀ a ∈ x.ks,∀ y ∈ a.ks,lcN y+1 ≤ y.size:=fun a ha=>(ih a ha (h.kd a ha)).2
  obtain ⟨k,t,n,ks⟩:=x
  have hL : lcL ks+ks.length ≤ sizes ks:=hL
  have hs : (Nd.mk k t n ks).size=1+sizes ks:=hs
  have hz : Dz k ks:=hz
  have h2 : ∀ a ∈ ks,∀ y ∈ a.ks,lcN y+1 ≤ y.size:=h2
  have hk : ∀ y ∈ ks,lcN y+1 ≤ y.size:=hk
  rw [lcN]
  by_cases q : isFn k=true
  ·rw [if_pos q]
   obtain ⟨a,r,e,ha⟩:=hz.fn q
   subst e
   have hr:=lcL_le r (fun y hy=>hk y (by simp [hy]))
   have hak:=lcL_le a.ks (h2 a (by simp))
   have ea : lcN a=lcL a.ks:=by
    obtain ⟨k',t',n',ks'⟩:=a
    have ha : k'=12:=ha
    rw [lcN,if_neg (by rw [ha];decide),if_neg (by rw [ha];decide)]
    simp [Nd.ks]
   have sa:=a.size_eq
   have hp : (parK (a :: r)).length=a.ks.length:=rfl
   rw [hp,lcL]
   rw [sizes_cons] at hs
   have:=sizes_len r
   omega
  ·rw [if_neg q]
   by_cases q : k=52
   ·rw [if_pos q];omega
   ·rw [if_neg q];omega
theorem lc_le (x : Nd) (h : Dn x) : lcN x+1 ≤ x.size:=(lc_le2 x h).1
theorem fail_us (w : Dw) (p e : Int) : (w.fail p e).uses=w.uses:=by unfold Dw.fail;split <;> rfl
theorem useTop_len (w : Dw) (nm : ByteArray) (p : Int) (b : Bool) : (w.useTop nm p b).1.uses.length ≤ w.uses.length+1:=by
 unfold Dw.useTop
 cases topS w.tops nm with
 | some t=>dsimp only;by_cases q : b=true∧t.kd=46 <;> simp [q,fail_us]
 | none=>dsimp only;by_cases q : b=true∧bltB nm=true <;> simp [q,fail_us]
theorem use_len (w : Dw) (nm : ByteArray) (p : Int) : (w.use nm p).1.uses.length ≤ w.uses.length+1:=by
 unfold Dw.use
 cases locS w.locs nm with
 | some t=>simp
 | none=>exact useTop_len w nm p true
theorem useType_len (w : Dw) (nm : ByteArray) (p : Int) : (w.useType nm p).uses.length ≤ w.uses.length+1:=by
 unfold Dw.useType
 cases topS w.tops nm with
 | some t=>dsimp only;by_cases q : t.kd=46 ∨ t.kd=42 ∨ t.kd=61 <;> simp [q,fail_us]
 | none=>simp [fail_us]
theorem foldf_us (p : Int) (t : ByteArray) : ∀ (L : List Lo) (w : Dw),(L.foldl (fun v c=>if eqT c.nm t=true then v.fail p 90 else v) w).uses=w.uses
 | [],w=>rfl
 | c :: L,w=>by
  rw [List.foldl_cons,foldf_us p t L]
  split
  ·exact fail_us w p 90
  ·rfl
theorem hold_us : ∀ (l : List Nd) (p : Int) (f : Nat) (w : Dw),(Dw.hold l p f w).uses=w.uses
 | [],p,f,w=>rfl
 | n :: l,p,f,w=>by
  rw [Dw.hold]
  dsimp only
  rw [hold_us l]
  split
  ·exact foldf_us p n.t _ w
  ·rfl
def UL (x : Nd) : Prop:=∀ p w,(dwalk x p w).uses.length ≤ w.uses.length+x.size
def ULs (l : List Nd) : Prop:=∀ p w,(dkids l p w).uses.length ≤ w.uses.length+sizes l
theorem dexps_len : ∀ (l : List Nd) (p : Int) (w : Dw),(dexps l p w).uses.length ≤ w.uses.length+sizes l
 | [],p,w=>by rw [dexps];omega
 | a :: r,p,w=>by
  rw [dexps,sizes_cons]
  have h1:=dexps_len r (p+a.size) (w.useTop a.t p false).1
  have h2:=useTop_len w a.t p false
  have:=a.size_pos
  omega
theorem ul_mk (k : Int) (t : ByteArray) (n : Int) (ks : List Nd) (hk : ULs ks) (hh : ∀ a r,ks=a :: r→UL a∧ULs r) : UL (.mk k t n ks):=by
 intro p w
 rw [show (Nd.mk k t n ks).size=1+sizes ks from (Nd.mk k t n ks).size_eq,dwalk.eq_def]
 dsimp only
 by_cases q : k=6
 ·rw [if_pos q];have:=use_len w t p;omega
 rw [if_neg q]
 by_cases q : k=20
 ·rw [if_pos q];have:=use_len w t p;have:=hk (p+1) (w.use t p).1;omega
 rw [if_neg q]
 by_cases q : k=30
 ·rw [if_pos q]
  split
  ·omega
  ·have:=useType_len w t p;omega
 rw [if_neg q]
 by_cases q : k=18
 ·rw [if_pos q]
  cases ks with
  | nil=>dsimp only;omega
  | cons a r =>
   dsimp only
   obtain ⟨ha,hr⟩:=hh a r rfl
   rw [sizes_cons]
   have:=a.size_pos
   split
   ·have h1:=use_len w a.t (p+1)
    have h2:=hr (p+2) (if (w.use a.t (p+1)).2=true then (w.use a.t (p+1)).1 else (w.use a.t (p+1)).1.fail p 92)
    have h3 : (if (w.use a.t (p+1)).2=true then (w.use a.t (p+1)).1 else (w.use a.t (p+1)).1.fail p 92).uses.length=(w.use a.t (p+1)).1.uses.length:=by split <;> simp [fail_us]
    omega
   ·have h1:=ha (p+1) w
    have h2:=hr (p+1+a.size) (dwalk a (p+1) w)
    omega
 rw [if_neg q]
 by_cases q : k=7
 ·rw [if_pos q];split
  ·omega
  ·rw [fail_us];omega
 rw [if_neg q]
 by_cases q : k=50
 ·rw [if_pos q]
  have h2:=hk (p+1) (if w.ins=true then w else w.fail p 93)
  have h3 : (if w.ins=true then w else w.fail p 93).uses.length=w.uses.length:=by split <;> simp [fail_us]
  omega
 rw [if_neg q]
 by_cases q : k=11 ∨ k=41 ∨ k=44 ∨ k=45
 ·rw [if_pos q]
  dsimp only
  have h : ∀ (l : List Nd) (w0 : Dw),w0.uses=w.uses→(dkids ks (p+1) (Dw.hold l (p+2) w.locs.length w0)).uses.length ≤ w.uses.length+sizes ks:=fun l w0 e=>by
   have h:=hk (p+1) (Dw.hold l (p+2) w.locs.length w0)
   rw [hold_us,e] at h
   exact h
  exact Nat.le_trans (h _ _ rfl) (by omega)
 rw [if_neg q]
 by_cases q : k=43
 ·rw [if_pos q]
  dsimp only
  have h:=hk (p+1) { w with this:=true }
  dsimp only at h
  omega
 rw [if_neg q]
 by_cases q : k=52
 ·rw [if_pos q]
  dsimp only
  have h:=hk (p+1) (Dw.hold ks (p+1) w.locs.length w)
  rw [hold_us] at h
  omega
 rw [if_neg q]
 by_cases q : k=60
 ·rw [if_pos q];omega
 rw [if_neg q]
 by_cases q : k=64
 ·rw [if_pos q];split
  ·have:=dexps_len ks (p+1) w;omega
  ·omega
 rw [if_neg q]
 have:=hk (p+1) w
 omega
theorem uls_cons {a : Nd} {r : List Nd} (ha : UL a) (hr : ULs r) : ULs (a :: r):=fun p w=>by
 rw [dkids,sizes_cons]
 have h1:=ha p w
 have h2:=hr (p+a.size) (dwalk a p w)
 omega
theorem dw_len (x : Nd) : UL x :=
 @Nd.rec UL (fun ks=>ULs ks∧∀ a r,ks=a :: r→UL a∧ULs r) (fun k t n ks ih=>ul_mk k t n ks ih.1 ih.2)
  ⟨fun p w=>by rw [dkids];omega,fun a r e=>by cases e⟩ (fun a r ha hr=>⟨uls_cons ha hr.1,fun a' r' e=>by injection e with e1 e2;subst e1 e2;exact ⟨ha,hr.1⟩⟩) x
theorem dks_len : ∀ l : List Nd,ULs l
 | []=>fun p w=>by rw [dkids];omega
 | a :: r=>uls_cons (dw_len a) (dks_len r)
end Go.Proofs.YtfcocoadaajbjaaGreatDoor
