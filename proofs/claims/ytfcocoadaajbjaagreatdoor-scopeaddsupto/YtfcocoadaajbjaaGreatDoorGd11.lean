/- Own text. Names in scopes: what the form of a module or script gives (of the model;no program is named here). Names in scopes: a top of another name changes no use (of the model;no program is named here). Names in scopes: the uses of a tree rise,each where its name stands (of the model;no program is named here). Names in scopes: what a use says is declared by a tree of that name (of the model;no program is named here). -/
import Derived.Test.YtfcocoadaajbjaaGreatDoorGd04
import Derived.Test.YtfcocoadaajbjaaGreatDoorGd10
set_option linter.unusedVariables false
set_option linter.unusedSimpArgs false
namespace Go.Proofs.YtfcocoadaajbjaaGreatDoor
open Go.RowKit
def innP : List Int:=[101,102,103,104,105,106,107,108,10,12,13,34,52,113,67,6,0]
def innK : List Int:=[1,2,3,4,5,6,7,8,9,10,11,12,13,14,15,16,17,18,19,20,21,22,30,31,32,33,34,35,40,41,43,44,45,47,48,49,50,51,52,67,0]
theorem f1K {k : Int} (h : formK k=1) : k ∈ ([1,2,3,4,5,6,7,8,9,11,15,16,17,18,19,20,21,22] : List Int):=by
 unfold formK at h
 split at h
 ·simp only [List.mem_cons,List.not_mem_nil,or_false];assumption
 ·split at h <;> omega
theorem f2K {k : Int} (h : formK k=2) : k ∈ ([30,31,32,33,35] : List Int):=by
 unfold formK at h
 split at h
 ·omega
 ·split at h
  ·simp only [List.mem_cons,List.not_mem_nil,or_false];assumption
  split at h <;> omega
theorem f3K {k : Int} (h : formK k=3) : k ∈ ([40,41,47,48,49,50,51,52] : List Int):=by
 unfold formK at h
 split at h
 ·omega
 ·split at h
  ·omega
  split at h
  ·simp only [List.mem_cons,List.not_mem_nil,or_false];assumption
  split at h <;> omega
theorem f4K {k : Int} (h : formK k=4) : k ∈ ([42,46,60,62,63,64] : List Int):=by
 unfold formK at h
 split at h
 ·omega
 ·split at h
  ·omega
  split at h
  ·omega
  split at h
  ·simp only [List.mem_cons,List.not_mem_nil,or_false];assumption
  split at h <;> omega
theorem stands_inn {p k : Int} (hp : p ∈ innP) (h : standsK p k=true) : k ∈ innK∧(k=40 ∨ k=41→p=107)∧(p=107→k ≠ 13):=by
 have h1 : formK k=1→k ∈ innK∧¬ (k=40 ∨ k=41):=fun e=>by
  have:=f1K e
  simp only [List.mem_cons,List.not_mem_nil,or_false] at this
  rcases this with rfl | rfl | rfl | rfl | rfl | rfl | rfl | rfl | rfl | rfl | rfl | rfl | rfl | rfl | rfl | rfl | rfl | rfl <;> decide
 have h2 : formK k=2→k ∈ innK∧¬ (k=40 ∨ k=41):=fun e=>by
  have:=f2K e
  simp only [List.mem_cons,List.not_mem_nil,or_false] at this
  rcases this with rfl | rfl | rfl | rfl | rfl <;> decide
 have h3 : formK k=3→k ∈ innK∧k ≠ 13:=fun e=>by
  have:=f3K e
  simp only [List.mem_cons,List.not_mem_nil,or_false] at this
  rcases this with rfl | rfl | rfl | rfl | rfl | rfl | rfl | rfl <;> decide
 have fin : (k ∈ innK∧¬ (k=40 ∨ k=41))→p ≠ 107→k ∈ innK∧(k=40 ∨ k=41→p=107)∧(p=107→k ≠ 13):=fun a b=>⟨a.1,fun q=>absurd q a.2,fun q=>absurd q b⟩
 unfold innP at hp
 simp only [List.mem_cons,List.not_mem_nil,or_false] at hp
 rcases hp with rfl | rfl | rfl | rfl | rfl | rfl | rfl | rfl | rfl | rfl | rfl | rfl | rfl | rfl | rfl | rfl | rfl
 ·exact fin (h1 (by simpa [standsK] using h)) (by decide)
 ·rcases (by simpa [standsK] using h : formK k=1 ∨ k=14) with e | rfl
  ·exact fin (h1 e) (by decide)
  ·decide
 ·rcases (by simpa [standsK,or_assoc] using h : k=6 ∨ k=21 ∨ k=22) with rfl | rfl | rfl <;> decide
 ·exact fin (h2 (by simpa [standsK] using h)) (by decide)
 ·have e : formK k=2∧k ≠ 32:=by simpa [standsK] using h
  exact fin (h2 e.1) (by decide)
 ·rcases (by simpa [standsK] using h : formK k=2 ∨ k=14) with e | rfl
  ·exact fin (h2 e) (by decide)
  ·decide
 ·have e:=h3 (by simpa [standsK] using h)
  exact ⟨e.1,fun _=>rfl,fun _=>e.2⟩
 ·rcases (by simpa [standsK] using h : k=52 ∨ k=14) with rfl | rfl <;> decide
 ·obtain rfl : 10=k:=by simpa [standsK] using h
  decide
 ·obtain rfl : 12=k:=by simpa [standsK] using h
  decide
 ·obtain rfl : 13=k:=by simpa [standsK] using h
  decide
 ·obtain rfl : 34=k:=by simpa [standsK] using h
  decide
 ·obtain rfl : 52=k:=by simpa [standsK] using h
  decide
 ·rcases (by simpa [standsK,or_assoc] using h : k=43 ∨ k=44 ∨ k=45) with rfl | rfl | rfl <;> decide
 ·obtain rfl : 67=k:=by simpa [standsK] using h
  decide
 ·obtain rfl : 6=k:=by simpa [standsK] using h
  decide
 ·obtain rfl : 0=k:=by simpa [standsK] using h
  decide
def rulOk (k : Int) : Bool:=match ruleK k with
 | none=>true
 | some r=>(r.r :: r.ks).all fun q=>decide (q ∈ innP) && (decide (q=107∧k=52) || decide (q ≠ 107∧k ≠ 52) || decide (q=0))
theorem rul_inn : ∀ k ∈ innK,rulOk k=true:=by decide
theorem fitsL_mem {mod : Bool} {r : Int} : ∀ {l : List Nd} {ps : List Int},fitsL mod ps r l=true→∀ y ∈ l,∃ q,(q=r ∨ q ∈ ps)∧fitsP mod q y=true
 | z :: l,ps,h,y,hy=>by
  rw [fitsL_cons,Bool.and_eq_true] at h
  have hd : ps.headD r=r ∨ ps.headD r ∈ ps:=by cases ps with | nil=>exact .inl rfl | cons a b=>exact .inr (by simp)
  rcases List.mem_cons.1 hy with rfl | hy
  ·exact ⟨_,hd,h.1⟩
  ·obtain ⟨q,hq,hf⟩:=fitsL_mem h.2 y hy
   exact ⟨q,hq.imp id List.mem_of_mem_tail,hf⟩
theorem fits_0 (mod : Bool) (y : Nd) : fitsP mod 0 y=false:=by
 rw [fitsP_eq,if_neg (by omega)]
 by_cases e : y.k=0
 ·unfold wholeP
  rw [e,show ruleK 0=none by rfl,Bool.and_false]
 ·have : standsK 0 y.k=false:=by unfold standsK;simp;omega
  rw [this,Bool.false_and]
theorem hd_text {mod : Bool} {t : ByteArray} {n : Int} {c : Nat} {r : Rul} (h : hdB mod t n c r=true) : saysT mod r.t t=true∧r.ks.length ≤ c:=by
 unfold hdB at h
 simp only [Bool.and_eq_true,Bool.not_eq_true',decide_eq_false_iff_not] at h
 exact ⟨h.1.1.1,by omega⟩
theorem prop_ne {mod : Bool} {t : ByteArray} (h : propT mod t.data.toList=true) : t.toList ≠ []:=by
 intro e
 rw [ByteArray.toList_eq t] at e
 rw [e] at h
 simp [propT,scan_nil] at h
theorem id_ne {mod : Bool} {t : ByteArray} (h : idT mod t=true) : t.toList ≠ []:=by
 unfold idT at h
 rw [Bool.and_eq_true] at h
 exact prop_ne h.1
theorem held_once : ∀ (l : List Nd) (G : List Lo) (q : Int),(∀ y ∈ l,y.k=13)→(l.map fun x=>x.t.data.toList).Nodup→(∀ g ∈ G,∀ y ∈ l,g.nm.data.toList ≠ y.t.data.toList)→onceL G (held l q)=true
 | [],G,q,_,_,_=>rfl
 | y :: l,G,q,hk,hn,hg=>by
  have hd : decB y=true:=by unfold decB;rw [hk y (by simp)];decide
  rw [held,if_pos hd,onceL,Bool.and_eq_true]
  rw [List.map_cons,List.nodup_cons] at hn
  constructor
  ·rw [Bool.not_eq_true']
   unfold inL
   rw [List.any_eq_false]
   intro g hgm
   have:=hg g hgm y (by simp)
   unfold eqT
   rw [ByteArray.toList_eq,ByteArray.toList_eq]
   simpa using this
  ·refine held_once l _ _ (fun z hz=>hk z (by simp [hz])) hn.2 (fun g hgm z hz=>?_)
   rcases List.mem_append.1 hgm with hgm | hgm
   ·exact hg g hgm z (by simp [hz])
   ·rw [List.mem_singleton] at hgm
    subst hgm
    intro e
    exact hn.1 (List.mem_map.2 ⟨z,hz,e.symm⟩)
theorem innL_of {d : Bool} : ∀ {l : List Nd},(∀ y ∈ l,innN d y)→innL d l
 | [],_=>by rw [innL];trivial
 | y :: l,h=>by
  rw [innL]
  exact ⟨h y (by simp),innL_of fun z hz=>h z (by simp [hz])⟩
theorem inn_noK : ∀ k ∈ innK,noK k:=by unfold noK;decide
theorem fits_inn (mod : Bool) (x : Nd) : ∀ p ∈ innP,fitsP mod p x=true→∀ d : Bool,(x.k=40 ∨ x.k=41→d=true)→(d=true→x.k ≠ 13)→innN d x:=by
 induction x using Nd.ind with
 | h x ih =>
  intro p hp h d hd1 hd2
  obtain ⟨k,t,n,ks⟩:=x
  have ih : ∀ y ∈ ks,_:=ih
  rw [fitsP_eq,if_neg (fun e=>by have:=e.1;subst this;exact absurd hp (by decide)),Bool.and_eq_true] at h
  have hs : standsK p k=true:=h.1
  obtain ⟨hk,h40,h13⟩:=stands_inn hp hs
  have hw : wholeP mod (.mk k t n ks)=true:=h.2
  unfold wholeP at hw
  have hr:=rul_inn k hk
  unfold rulOk at hr
  change (match ruleK k with | none=>false | some r=>folP mod (.mk k t n ks) r && agreesP mod (.mk k t n ks))=true at hw
  cases er : ruleK k with
  | none=>rw [er] at hw;cases hw
  | some r =>
   rw [er] at hw hr
   simp only [Bool.and_eq_true] at hw
   obtain ⟨hf,ha⟩:=hw
   unfold folP at hf
   rw [Bool.and_eq_true] at hf
   obtain ⟨hh,hl⟩:=hf
   have hl : fitsL mod r.ks r.r ks=true:=hl
   obtain ⟨htx,hlen⟩:=hd_text hh
   have htx : saysT mod r.t t=true:=htx
   have hlen : r.ks.length ≤ ks.length:=hlen
   have hr:=List.all_eq_true.1 hr
   have kid : ∀ y ∈ ks,∃ q ∈ innP,fitsP mod q y=true∧(q=107 ↔ k=52):=fun y hy=>by
    obtain ⟨q,hq,hfq⟩:=fitsL_mem hl y hy
    have hq':=hr q (by rcases hq with rfl | hq <;> simp_all)
    simp only [Bool.and_eq_true,Bool.or_eq_true,decide_eq_true_eq] at hq'
    refine ⟨q,hq'.1,hfq,?_⟩
    rcases hq'.2 with (e | e) | e
    ·exact ⟨fun _=>e.2,fun _=>e.1⟩
    ·exact ⟨fun w=>absurd w e.1,fun w=>absurd w e.2⟩
    ·rw [e,fits_0] at hfq;cases hfq
   have hfn : isFn k=true→∃ a r0,ks=a :: r0∧fitsP mod 12 a=true:=fun e=>by
    have hr12 : ∃ z,r.ks=12 :: z:=by
     have e:=of_decide_eq_true e
     rcases e with rfl | rfl | rfl | rfl
     ·cases er;exact ⟨_,rfl⟩
     ·cases er;exact ⟨_,rfl⟩
     ·cases er;exact ⟨_,rfl⟩
     ·cases er;exact ⟨_,rfl⟩
    obtain ⟨z,hz⟩:=hr12
    cases ks with
    | nil=>rw [hz] at hlen;simp at hlen
    | cons a r0 =>
     rw [hz,fitsL_cons,Bool.and_eq_true] at hl
     exact ⟨a,r0,rfl,hl.1⟩
   have hpar : ∀ a,fitsP mod 12 a=true→(∀ y ∈ a.ks,y.k=13)∧(a.ks.map fun x=>x.t.data.toList).Nodup:=fun a hfa=>by
    rw [fitsP_eq,if_neg (by omega),Bool.and_eq_true] at hfa
    have ak : a.k=12:=by have:=hfa.1;simp [standsK] at this;omega
    have hwa:=hfa.2
    unfold wholeP at hwa
    rw [ak,show ruleK 12=some ⟨0,0,[],13⟩ by rfl] at hwa
    simp only [Bool.and_eq_true] at hwa
    have hfl:=hwa.1
    unfold folP at hfl
    rw [Bool.and_eq_true] at hfl
    refine ⟨fun y hy=>?_,?_⟩
    ·have:=fitsL_all hfl.2 y hy
     rw [fitsP_eq,if_neg (by simp),Bool.and_eq_true] at this
     have:=this.1
     simp [standsK] at this
     omega
    ·have:=hwa.2
     unfold agreesP at this
     rw [if_pos (.inl ak)] at this
     exact of_decide_eq_true this
   rw [innN]
   refine ⟨⟨inn_noK k hk,fun e=>⟨hd1 e,?_⟩,hd2,fun e=>?_,fun e q=>?_,fun e=>?_⟩,innL_of fun y hy=>?_⟩
   ·have : r.t=1:=by rcases e with rfl | rfl <;> (cases er;rfl)
    rw [this] at htx
    exact id_ne (mod:=mod) (by simpa [saysT] using htx)
   ·obtain ⟨a,r0,rfl,hfa⟩:=hfn e
    exact (hpar a hfa).1
   ·obtain ⟨a,r0,rfl,hfa⟩:=hfn e
    exact held_once _ [] q (hpar a hfa).1 (hpar a hfa).2 (fun g hg=>by cases hg)
   ·cases ks with
    | nil=>rfl
    | cons a r0 =>
     exfalso
     have e0 : r.ks=[]∧r.r=0:=by rcases e with rfl | rfl | rfl <;> (cases er;exact ⟨rfl,rfl⟩)
     rw [e0.1,e0.2,fitsL_cons,Bool.and_eq_true] at hl
     have:=hl.1
     rw [show ([] : List Int).headD 0=0 from rfl,fits_0] at this
     cases this
   ·obtain ⟨q,hq,hfq,h107⟩:=kid y hy
    have hys : standsK q y.k=true:=by
     rw [fitsP_eq,if_neg (fun e=>by have:=e.1;subst this;exact absurd hq (by decide)),Bool.and_eq_true] at hfq
     exact hfq.1
    obtain ⟨_,y40,y13⟩:=stands_inn hq hys
    exact ih y hy q hq hfq _ (fun e=>decide_eq_true (h107.1 (y40 e))) (fun e=>y13 (h107.2 (of_decide_eq_true e)))
theorem fits_out {mod : Bool} {x : Nd} (hk : x.k=42 ∨ x.k=46 ∨ x.k=66) (hw : wholeP mod x=true) : decT x:=by
 obtain ⟨k,t,n,ks⟩:=x
 have hk : k=42 ∨ k=46 ∨ k=66:=hk
 unfold wholeP at hw
 change (match ruleK k with | none=>false | some r=>folP mod (.mk k t n ks) r && agreesP mod (.mk k t n ks))=true at hw
 have key : ∃ r,ruleK k=some r∧r.t=1∧∀ q,q=r.r ∨ q ∈ r.ks→q ∈ innP∧q ≠ 107:=by
  rcases hk with rfl | rfl | rfl
  ·exact ⟨_,rfl,rfl,fun q hq=>by rcases hq with rfl | hq;· decide
                                 ·cases hq⟩
  ·exact ⟨_,rfl,rfl,fun q hq=>by rcases hq with rfl | hq;· decide
                                 ·rcases List.mem_singleton.1 hq with rfl;decide⟩
  ·exact ⟨_,rfl,rfl,fun q hq=>by rcases hq with rfl | hq;· decide
                                 ·cases hq⟩
 obtain ⟨r,er,hrt,hq⟩:=key
 rw [er] at hw
 simp only [Bool.and_eq_true] at hw
 have hf:=hw.1
 unfold folP at hf
 rw [Bool.and_eq_true] at hf
 have hl : fitsL mod r.ks r.r ks=true:=hf.2
 have htx : saysT mod r.t t=true:=(hd_text hf.1).1
 rw [hrt] at htx
 refine ⟨.inr ⟨k,t,n,ks,rfl,hk,innL_of fun y hy=>?_⟩,fun _=>id_ne (mod:=mod) (t:=t) (by simpa [saysT] using htx)⟩
 obtain ⟨q,h1,h2⟩:=fitsL_mem hl y hy
 obtain ⟨h3,h4⟩:=hq q h1
 have hys : standsK q y.k=true:=by
  rw [fitsP_eq,if_neg (fun e=>by have:=e.1;subst this;exact absurd h3 (by decide)),Bool.and_eq_true] at h2
  exact h2.1
 obtain ⟨_,y40,y13⟩:=stands_inn h3 hys
 exact fits_inn mod y q h3 h2 false (fun e=>absurd (y40 e) h4) (fun e=>by cases e)
theorem fits_stmt {mod : Bool} {x : Nd} (hk : formK x.k=3) (hw : wholeP mod x=true) : decT x:=by
 have hf : fitsP mod 107 x=true:=by
  rw [fitsP_eq,if_neg (by omega),Bool.and_eq_true]
  exact ⟨by simp [standsK,hk],hw⟩
 have h:=fits_inn mod x 107 (by decide) hf true (fun _=>rfl) (fun _ e=>by rw [e] at hk;exact absurd hk (by decide))
 refine ⟨.inl h,fun e=>?_⟩
 obtain ⟨k,t,n,ks⟩:=x
 rw [innN] at h
 obtain ⟨n1,n2,n3,n4,n5,n6,n7,n8,n9⟩:=h.1.no
 have e:=of_decide_eq_true e
 rcases e with e | e | e | e | e
 ·exact (h.1.dc (.inl e)).2
 ·exact (h.1.dc (.inr e)).2
 ·exact absurd e n1
 ·exact absurd e n2
 ·exact absurd e n9
theorem fits_expr {mod : Bool} {x : Nd} (hk : formK x.k=1) (hw : wholeP mod x=true) : decT x:=by
 have hf : fitsP mod 101 x=true:=by
  rw [fitsP_eq,if_neg (by omega),Bool.and_eq_true]
  exact ⟨by simp [standsK,hk],hw⟩
 have nd : ¬ isDecl x.k=true:=by
  intro e
  have e:=of_decide_eq_true e
  rcases e with e | e | e | e | e <;> (rw [e] at hk;exact absurd hk (by decide))
 exact ⟨.inl (fits_inn mod x 101 (by decide) hf true (fun _=>rfl) (fun _ e=>by rw [e] at hk;exact absurd hk (by decide))),fun e=>absurd e nd⟩
theorem one_kid {mod : Bool} {q : Int} {ks : List Nd} (hl : fitsL mod [q] 0 ks=true) (hn : 1 ≤ ks.length) : ∃ a,ks=[a]∧fitsP mod q a=true:=by
 cases ks with
 | nil=>simp at hn
 | cons a r =>
  rw [fitsL_cons,Bool.and_eq_true] at hl
  cases r with
  | nil=>exact ⟨a,rfl,hl.1⟩
  | cons b r =>
   have:=hl.2
   rw [List.tail_cons,fitsL_cons,Bool.and_eq_true] at this
   have:=this.1
   rw [show ([] : List Int).headD 0=0 from rfl,fits_0] at this
   cases this
theorem whole_rule {mod : Bool} {k : Int} {t : ByteArray} {n : Int} {ks : List Nd} {r : Rul} (er : ruleK k=some r) (hw : wholeP mod (.mk k t n ks)=true) : saysT mod r.t t=true∧r.ks.length ≤ ks.length∧fitsL mod r.ks r.r ks=true:=by
 unfold wholeP at hw
 change (match ruleK k with | none=>false | some r=>folP mod (.mk k t n ks) r && agreesP mod (.mk k t n ks))=true at hw
 rw [er] at hw
 simp only [Bool.and_eq_true] at hw
 have hf:=hw.1
 unfold folP at hf
 rw [Bool.and_eq_true] at hf
 exact ⟨(hd_text hf.1).1,(hd_text hf.1).2,hf.2⟩
theorem fits_w {mod : Bool} {q : Int} {y : Nd} (hq : q ≠ 114) (h : fitsP mod q y=true) : standsK q y.k=true∧wholeP mod y=true:=by
 rw [fitsP_eq,if_neg (fun e=>hq e.1),Bool.and_eq_true] at h
 exact h
theorem leaf_6 {mod : Bool} {a : Nd} (h : fitsP mod 6 a=true) : Leaf a∧a.t.toList ≠ []∧a.k=6:=by
 obtain ⟨hs,hw⟩:=fits_w (by decide) h
 have ak : a.k=6:=by simp [standsK] at hs;omega
 obtain ⟨k,t,n,ks⟩:=a
 have ak : k=6:=ak
 subst ak
 obtain ⟨h1,h2,h3⟩:=whole_rule (r:=⟨1,0,[],0⟩) rfl hw
 cases ks with
 | nil=>exact ⟨⟨rfl,no_bytes,no_bytes,.inl rfl⟩,id_ne (mod:=mod) (t:=t) (by simpa [saysT] using h1),rfl⟩
 | cons b r =>
  rw [fitsL_cons,Bool.and_eq_true] at h3
  have:=h3.1
  rw [show ([] : List Int).headD 0=0 from rfl,fits_0] at this
  cases this
theorem imp_one {mod : Bool} {y : Nd} (h : fitsP mod 61 y=true) : one65 61 y∧(headT y.ks).toList ≠ []:=by
 obtain ⟨hs,hw⟩:=fits_w (by decide) h
 have yk : y.k=61:=by simp [standsK] at hs;omega
 obtain ⟨k,t,n,ks⟩:=y
 have yk : k=61:=yk
 subst yk
 obtain ⟨h1,h2,h3⟩:=whole_rule (r:=⟨4,0,[6],0⟩) rfl hw
 obtain ⟨a,rfl,ha⟩:=one_kid h3 h2
 obtain ⟨hl,ht,_⟩:=leaf_6 ha
 exact ⟨⟨t,n,a,rfl,hl⟩,ht⟩
theorem exp_one {mod : Bool} {y : Nd} (h : fitsP mod 65 y=true) : one65 65 y∧(headK y.ks=6→(headT y.ks).toList ≠ [])∧y.t.toList ≠ []:=by
 obtain ⟨hs,hw⟩:=fits_w (by decide) h
 have yk : y.k=65:=by simp [standsK] at hs;omega
 obtain ⟨k,t,n,ks⟩:=y
 have yk : k=65:=yk
 subst yk
 obtain ⟨h1,h2,h3⟩:=whole_rule (r:=⟨4,0,[114],0⟩) rfl hw
 obtain ⟨a,rfl,ha⟩:=one_kid h3 h2
 have ht : t.toList ≠ []:=by
  have e : propT mod t.data.toList=true ∨ t.toList=[42]:=by simpa [saysT] using h1
  rcases e with e | e
  ·exact prop_ne e
  ·rw [e];simp
 have key : Leaf a∧(a.k=6→a.t.toList ≠ []):=by
  obtain ⟨k,t',n',ks'⟩:=a
  rw [fitsP_eq] at ha
  by_cases e : k=6
  ·rw [if_pos ⟨rfl,e⟩] at ha
   subst e
   unfold folP at ha
   rw [Bool.and_eq_true] at ha
   have hp : saysT mod 2 t'=true:=(hd_text ha.1).1
   have hz : fitsL mod [] 0 ks'=true:=ha.2
   have e0 : ks'=[]:=by
    cases ks' with
    | nil=>rfl
    | cons b r =>
     rw [fitsL_cons,Bool.and_eq_true] at hz
     have:=hz.1
     rw [show ([] : List Int).headD 0=0 from rfl,fits_0] at this
     cases this
   subst e0
   exact ⟨⟨rfl,no_bytes,no_bytes,.inl rfl⟩,fun _=>prop_ne (mod:=mod) (t:=t') (by simpa [saysT] using hp)⟩
  ·rw [if_neg (fun w=>e w.2),Bool.and_eq_true] at ha
   have k14 : k=14:=by have:=ha.1;simpa [standsK,Nd.k] using this
   subst k14
   obtain ⟨z1,z2,z3⟩:=whole_rule (r:=⟨0,0,[],0⟩) rfl ha.2
   have e0 : ks'=[]:=by
    cases ks' with
    | nil=>rfl
    | cons b r =>
     rw [fitsL_cons,Bool.and_eq_true] at z3
     have:=z3.1
     rw [show ([] : List Int).headD 0=0 from rfl,fits_0] at this
     cases this
   subst e0
   exact ⟨⟨rfl,no_bytes,no_bytes,.inr ⟨by show plainK 14;unfold plainK;decide,by show ¬ (14 : Int)=65;decide⟩⟩,fun w=>absurd w e⟩
 exact ⟨⟨t,n,a,rfl,key.1⟩,key.2,ht⟩
theorem item_S {mod : Bool} {x : Nd} (hk : formK x.k=3 ∨ formK x.k=4 ∨ x.k=66) (hw : wholeP mod x=true) : itmS x:=by
 rcases hk with hk | hk | hk
 ·exact .inl (fits_stmt hk hw)
 ·have:=f4K hk
  simp only [List.mem_cons,List.not_mem_nil,or_false] at this
  obtain ⟨k,t,n,ks⟩:=x
  have this : k=42 ∨ k=46 ∨ k=60 ∨ k=62 ∨ k=63 ∨ k=64:=this
  rcases this with e | e | e | e | e | e
  ·exact .inl (fits_out (.inl e) hw)
  ·exact .inl (fits_out (.inr (.inl e)) hw)
  ·subst e
   obtain ⟨h1,h2,h3⟩:=whole_rule (r:=⟨6,1,[],61⟩) rfl hw
   exact .inr (.inr (.inr (.inl ⟨t,n,ks,rfl,fun y hy=>imp_one (fitsL_all h3 y hy)⟩)))
  ·subst e
   obtain ⟨h1,h2,h3⟩:=whole_rule (r:=⟨0,0,[111],0⟩) rfl hw
   obtain ⟨a,rfl,ha⟩:=one_kid h3 h2
   obtain ⟨hs,hwa⟩:=fits_w (by decide) ha
   have hs : a.k=40 ∨ a.k=41 ∨ a.k=42 ∨ a.k=46:=by simpa [standsK,or_assoc] using hs
   refine .inr (.inl ⟨t,n,a,rfl,?_,?_⟩)
   ·rcases hs with e | e | e | e
    ·exact fits_stmt (by rw [e];decide) hwa
    ·exact fits_stmt (by rw [e];decide) hwa
    ·exact fits_out (.inl e) hwa
    ·exact fits_out (.inr (.inl e)) hwa
   ·rcases hs with e | e | e | e <;> (rw [e];decide)
  ·subst e
   obtain ⟨h1,h2,h3⟩:=whole_rule (r:=⟨0,0,[112],0⟩) rfl hw
   obtain ⟨a,rfl,ha⟩:=one_kid h3 h2
   obtain ⟨hs,hwa⟩:=fits_w (by decide) ha
   have hs : formK a.k=1 ∨ a.k=41 ∨ a.k=42:=by simpa [standsK,or_assoc] using hs
   refine .inr (.inr (.inl ⟨t,n,a,rfl,?_,fun hd=>?_⟩))
   ·rcases hs with e | e | e
    ·exact fits_expr e hwa
    ·exact fits_stmt (by rw [e];decide) hwa
    ·exact fits_out (.inl e) hwa
   ·rcases hs with e | e | e
    ·have hd:=of_decide_eq_true hd
     rcases hd with w | w | w | w | w <;> (rw [w] at e;exact absurd e (by decide))
    ·exact .inl e
    ·exact .inr e
  ·subst e
   obtain ⟨h1,h2,h3⟩:=whole_rule (r:=⟨6,1,[65],65⟩) rfl hw
   refine .inr (.inr (.inr (.inr ⟨t,n,ks,rfl,fun y hy=>?_⟩)))
   obtain ⟨q,hq,hf⟩:=fitsL_mem h3 y hy
   have : q = 65:=by rcases hq with e | e;· exact e
                     ·exact List.mem_singleton.1 e
   subst this
   exact exp_one hf
 ·exact .inl (fits_out (.inr (.inr hk)) hw)
theorem form_items {x : Nd} (h : formP x=5 ∨ formP x=6) : (x.k=68 ∨ x.k=69)∧∀ y ∈ x.ks,itmS y:=by
 unfold formP at h
 by_cases hw : wholeP (x.k == 68) x=true
 ·rw [if_pos hw] at h
  have hk : x.k=68 ∨ x.k=69:=by
   unfold formK at h
   split at h
   ·omega
   split at h
   ·omega
   split at h
   ·omega
   split at h
   ·omega
   split at h
   ·left;assumption
   split at h
   ·right;assumption
   ·omega
  refine ⟨hk,?_⟩
  obtain ⟨k,t,n,ks⟩:=x
  have hk : k=68 ∨ k=69:=hk
  rcases hk with rfl | rfl
  ·obtain ⟨h1,h2,h3⟩:=whole_rule (r:=⟨0,0,[],109⟩) rfl hw
   intro y hy
   obtain ⟨hs,hwy⟩:=fits_w (by decide) (fitsL_all h3 y hy)
   have hs : formK y.k=3 ∨ formK y.k=4:=by simpa [standsK] using hs
   exact item_S (hs.imp id .inl) hwy
  ·obtain ⟨h1,h2,h3⟩:=whole_rule (r:=⟨0,0,[],110⟩) rfl hw
   intro y hy
   obtain ⟨hs,hwy⟩:=fits_w (by decide) (fitsL_all h3 y hy)
   have hs : formK y.k=3 ∨ y.k=42 ∨ y.k=66:=by simpa [standsK,or_assoc] using hs
   refine item_S ?_ hwy
   rcases hs with e | e | e
   ·exact .inl e
   ·exact .inr (.inl (by rw [e];decide))
   ·exact .inr (.inr e)
 ·rw [if_neg hw] at h
  omega
mutual
def noTx (fr : ByteArray) : Nd→Prop
 | .mk k t n ks=>eqT t fr=false∧noTs fr ks
def noTs (fr : ByteArray) : List Nd→Prop
 | []=>True
 | a :: r=>noTx fr a∧noTs fr r
end
theorem noTx_t {fr : ByteArray} {x : Nd} (h : noTx fr x) : eqT x.t fr=false:=by
 obtain ⟨k,t,n,ks⟩:=x
 rw [noTx] at h
 exact h.1
def But (fr : ByteArray) (T T' : List Tp) : Prop:=∀ nm,eqT nm fr=false→topS T' nm=topS T nm
theorem useV_but {fr : ByteArray} {T T' : List Tp} (h : But fr T T') {nm : ByteArray} (hn : eqT nm fr=false) (L : List Lo) (p : Int) : useV T' L nm p=useV T L nm p:=by unfold useV;rw [h nm hn]
theorem useT_but {fr : ByteArray} {T T' : List Tp} (h : But fr T T') {nm : ByteArray} (hn : eqT nm fr=false) (p : Int) : useT T' nm p=useT T nm p:=by unfold useT;rw [h nm hn]
theorem useX_but {fr : ByteArray} {T T' : List Tp} (h : But fr T T') {nm : ByteArray} (hn : eqT nm fr=false) (p : Int) : useX T' nm p=useX T nm p:=by unfold useX;rw [h nm hn]
theorem usX_but {fr : ByteArray} {T T' : List Tp} (h : But fr T T') : ∀ (l : List Nd) (p : Int),noTs fr l→usX T' l p=usX T l p
 | [],p,_=>by rw [usX,usX]
 | a :: r,p,hn=>by
  rw [noTs] at hn
  rw [usX,usX,useX_but h (noTx_t hn.1),usX_but h r _ hn.2]
def SameN (fr : ByteArray) (T T' : List Tp) (x : Nd) : Prop:=noTx fr x→∀ L th ins p,usN T' L th ins x p=usN T L th ins x p
def SameL (fr : ByteArray) (T T' : List Tp) (l : List Nd) : Prop:=noTs fr l→∀ L th ins p,usL T' L th ins l p=usL T L th ins l p
theorem same_mk {fr : ByteArray} {T T' : List Tp} (h : But fr T T') (k : Int) (t : ByteArray) (n : Int) (ks : List Nd) (hk : SameL fr T T' ks) (hh : ∀ a r,ks=a :: r→SameN fr T T' a∧SameL fr T T' r) : SameN fr T T' (.mk k t n ks):=by
 intro hn L th ins p
 rw [noTx] at hn
 have e1:=fun p=>useV_but h hn.1 L p
 have e2:=fun p=>useT_but h hn.1 p
 have e3:=hk hn.2
 have e4:=fun p=>usX_but h ks p hn.2
 cases ks with
 | nil =>
  rw [usN.eq_def,usN.eq_def]
  dsimp only
  simp only [e1,e2,e3,e4]
 | cons a r =>
  obtain ⟨h1,h2⟩:=hh a r rfl
  have h3:=hn.2
  rw [noTs] at h3
  have f1:=fun p=>useV_but h (noTx_t h3.1) L p
  have f2:=h1 h3.1
  have f3:=h2 h3.2
  rw [usN.eq_def,usN.eq_def]
  dsimp only
  simp only [e1,e2,e3,e4,f1,f2,f3]
theorem us_but {fr : ByteArray} {T T' : List Tp} (h : But fr T T') (x : Nd) : SameN fr T T' x :=
 @Nd.rec (SameN fr T T') (fun ks=>SameL fr T T' ks∧∀ a r,ks=a :: r→SameN fr T T' a∧SameL fr T T' r)
  (fun k t n ks ih=>same_mk h k t n ks ih.1 ih.2)
  ⟨fun _ L th ins p=>by rw [usL,usL],fun a r e=>by cases e⟩
  (fun a r ha hr=>⟨fun hn L th ins p=>by rw [noTs] at hn;rw [usL,usL,ha hn.1,hr.1 hn.2],fun a' r' e=>by injection e with e1 e2;subst e1 e2;exact ⟨ha,hr.1⟩⟩) x
theorem usL_but {fr : ByteArray} {T T' : List Tp} (h : But fr T T') : ∀ l : List Nd,SameL fr T T' l
 | []=>fun _ L th ins p=>by rw [usL,usL]
 | a :: r=>fun hn L th ins p=>by rw [noTs] at hn;rw [usL,usL,us_but h a hn.1,usL_but h r hn.2]
def AtU (l : List Nd) (p : Int) (u : Us) : Prop:=∃ i : Nat,u.at_=p+i∧(l[i]?).map (·.t)=some u.nm
def RiU (l : List Nd) (p : Int) (us : List Us) : Prop:=(∀ u ∈ us,AtU l p u)∧us.Pairwise (fun a b=>a.at_ < b.at_)
theorem AtU.lt {l : List Nd} {p : Int} {u : Us} (h : AtU l p u) : p ≤ u.at_∧u.at_ < p+l.length:=by
 obtain ⟨i,e,h⟩:=h
 have : i < l.length:=by
  cases q : l[i]? with
  | none=>rw [q] at h;cases h
  | some y=>exact (List.getElem?_eq_some_iff.1 q).1
 omega
theorem RiU.app {l r : List Nd} {p : Int} {us vs : List Us} (h1 : RiU l p us) (h2 : RiU r (p+l.length) vs) : RiU (l ++ r) p (us ++ vs):=by
 refine ⟨fun u hu=>?_,List.pairwise_append.2 ⟨h1.2,h2.2,fun a ha b hb=>?_⟩⟩
 ·rcases List.mem_append.1 hu with hu | hu
  ·have hlt:=(h1.1 u hu).lt
   obtain ⟨i,e,h⟩:=h1.1 u hu
   exact ⟨i,e,by rw [List.getElem?_append_left (by omega)];exact h⟩
  ·obtain ⟨i,e,h⟩:=h2.1 u hu
   exact ⟨l.length+i,by rw [e];push_cast;omega,by rw [List.getElem?_append_right (by omega),show l.length+i - l.length=i by omega];exact h⟩
 ·have:=(h1.1 a ha).lt
  have:=(h2.1 b hb).lt
  omega
theorem flat_len_i (x : Nd) : ((x.flat.length : Nat) : Int)=x.size:=by rw [Nd.flat_len]
def Sit (W : List Nd) (p : Int) (f : List Nd) : Prop:=∃ i : Nat,p=i∧∃ r,W.drop i=f ++ r
theorem Sit.cut {W : List Nd} {p : Int} {f g : List Nd} (h : Sit W p (f ++ g)) : Sit W p f∧Sit W (p+f.length) g:=by
 obtain ⟨i,e,r,h⟩:=h
 refine ⟨⟨i,e,g ++ r,by rw [h,List.append_assoc]⟩,⟨i+f.length,by rw [e];push_cast;rfl,r,?_⟩⟩
 rw [← List.drop_drop,h,List.append_assoc,List.drop_left]
theorem Sit.kids {W : List Nd} {p : Int} {x : Nd} (h : Sit W p x.flat) : Sit W (p+1) (flats x.ks):=by
 rw [Nd.flat_eq] at h
 have:=(Sit.cut (f:=[x]) (g:=flats x.ks) h).2
 simpa using this
theorem Sit.cons {W : List Nd} {p : Int} {a : Nd} {r : List Nd} (h : Sit W p (flats (a :: r))) : Sit W p a.flat∧Sit W (p+a.size) (flats r):=by
 rw [flats_cons] at h
 have:=h.cut
 rw [flat_len_i] at this
 exact this
theorem Sit.at {W : List Nd} {p : Int} {x : Nd} (h : Sit W p x.flat) : ∃ i : Nat,p=i∧W[i]?=some x:=by
 obtain ⟨i,e,r,h⟩:=h
 refine ⟨i,e,?_⟩
 have : (W.drop i)[0]?=some x:=by rw [h,Nd.flat_eq];rfl
 rw [List.getElem?_drop] at this
 simpa using this
def TopO (W : List Nd) (T : List Tp) : Prop:=∀ t ∈ T,∃ i : Nat,t.at_=i∧1 ≤ i∧∃ d,W[i]?=some d∧d.k=t.kd∧(t.kd=61→d.ks ≠ []∧headT d.ks=t.nm)∧(t.kd=63→t.nm=dflt)∧(t.kd ≠ 61→t.kd ≠ 63→d.t=t.nm)
def LocO (W : List Nd) (L : List Lo) : Prop:=∀ l ∈ L,∃ i : Nat,l.pl=i∧1 ≤ i∧∃ d,W[i]?=some d∧d.k ≠ 61∧d.k ≠ 63∧d.t=l.nm
theorem LocO.app {W : List Nd} {L M : List Lo} (h : LocO W L) (k : LocO W M) : LocO W (L ++ M):=fun l hl=>(List.mem_append.1 hl).elim (h l) (k l)
mutual
def nmD : Nd→Prop
 | .mk k t n ks=>(k=6→ks=[])∧(k=6 ∨ k=20 ∨ (k=30∧plnB t=false)→t.toList ≠ dflt.toList)∧(k=64→t.toList=[]→∀ y ∈ ks,y.t.toList ≠ dflt.toList)∧(k ≠ 60→k ≠ 64→nmDs ks)
def nmDs : List Nd→Prop
 | []=>True
 | a :: r=>nmD a∧nmDs r
end
theorem TopO.app {W : List Nd} {a b : List Tp} (h : TopO W a) (k : TopO W b) : TopO W (a ++ b):=fun t ht=>(List.mem_append.1 ht).elim (h t) (k t)
end Go.Proofs.YtfcocoadaajbjaaGreatDoor
