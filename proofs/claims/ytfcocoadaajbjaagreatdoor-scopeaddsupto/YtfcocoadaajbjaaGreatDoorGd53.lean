/- Own text. Names in scopes: a module with a name more (of the model;no program is named here). A name behind two letters z: an identifier,no word,no builtin (of the model;no program is named here). ScopeAdds: what Resolve of package scope answers of a module with a name more. Append of a list of trees,empty or not,to a list that is owned;a list with a tree more. -/
import Derived.Test.YtfcocoadaajbjaaGreatDoorGd48
import Derived.Test.YtfcocoadaajbjaaGreatDoorGd11
import Derived.Test.YtfcocoadaajbjaaGreatDoorGd08
import Derived.Test.YtfcocoadaajbjaaGreatDoorGd05
import Derived.Laws.OwnMore
set_option linter.unusedVariables false
set_option linter.unusedSimpArgs false
namespace Go.Proofs.YtfcocoadaajbjaaGreatDoor
open Go.RowKit Go.MapKept
theorem dcl_no {f : ByteArray} (hd : eqT dflt f=false) {x : Nd} (h : noTx f x) (hn : (dclN x).toList ≠ []) : eqT (dclN x) f=false:=by
 obtain ⟨k,t,n,ks⟩:=x
 rw [noTx] at h
 obtain ⟨h1,h2⟩:=h
 revert hn
 rw [dclN.eq_def]
 dsimp only
 split
 ·exact fun _=>h1
 ·split
  ·cases ks with
   | nil=>exact fun w=>absurd no_bytes w
   | cons a r=>rw [noTs] at h2;exact fun _=>noTx_t h2.1
  ·split
   ·cases ks with
    | nil=>exact fun _=>hd
    | cons a r =>
     dsimp only
     split
     ·exact fun w=>absurd no_bytes w
     ·exact fun _=>hd
   ·exact fun w=>absurd no_bytes w
theorem top1_no {f : ByteArray} (hd : eqT dflt f=false) {x : Nd} (h : noTx f x) (p it : Int) : ∀ c ∈ ptop1 x p it,eqT c.nm f=false:=by
 intro c hc
 unfold ptop1 at hc
 split at hc
 ·cases hc
 ·rename_i q
  rw [List.mem_singleton] at hc
  subst hc
  exact dcl_no hd h q
theorem topL_no {f : ByteArray} (hd : eqT dflt f=false) : ∀ (l : List Nd) (p it : Int),noTs f l→∀ c ∈ ptopL l p it,eqT c.nm f=false
 | [],p,it,_=>fun c hc=>by cases hc
 | y :: r,p,it,h=>fun c hc=>by
  rw [noTs] at h
  rw [ptopL] at hc
  rcases List.mem_append.1 hc with hc | hc
  ·exact top1_no hd h.1 p it c hc
  ·exact topL_no hd r _ _ h.2 c hc
theorem ptL_no {f : ByteArray} (hd : eqT dflt f=false) : ∀ (l : List Nd) (p it : Int),noTs f l→∀ c ∈ ptL l p it,eqT c.nm f=false
 | [],p,it,_=>fun c hc=>by cases hc
 | y :: r,p,it,h=>fun c hc=>by
  rw [noTs] at h
  rw [ptL] at hc
  rcases List.mem_append.1 hc with hc | hc
  ·obtain ⟨k,t,n,ks⟩:=y
   rw [ptI] at hc
   rcases List.mem_append.1 hc with hc | hc
   ·exact top1_no hd h.1 p it c hc
   ·split at hc
    ·have h1:=h.1
     rw [noTx] at h1
     exact topL_no hd ks _ _ h1.2 c hc
    ·cases hc
  ·exact ptL_no hd r _ _ h.2 c hc
theorem topS_no {T : List Tp} {f : ByteArray} (h : ∀ c ∈ T,eqT c.nm f=false) : topS T f=none:=by
 unfold topS
 rw [List.find?_eq_none]
 intro c hc q
 rw [h c hc] at q
 cases q
theorem topS_app (T R : List Tp) (f : ByteArray) : topS (T ++ R) f=(topS T f).or (topS R f):=by unfold topS;rw [List.find?_append]
theorem but_apps {f : ByteArray} (T R : List Tp) (h : ∀ c ∈ R,c.nm=f) : But f T (T ++ R):=by
 intro nm hn
 rw [topS_app,topS_no (T:=R) (f:=nm),Option.or_none]
 intro c hc
 rw [h c hc]
 cases q : eqT f nm with
 | false=>rfl
 | true=>rw [eqT_sym q] at hn;cases hn
theorem eqT_refl (a : ByteArray) : eqT a a=true:=eqT_iff.2 rfl
theorem fnd_new {T R : List Tp} {f : ByteArray} (h : topS T f=none) {t : Tp} (e : t.nm=f) : fnd1 ((T ++ t :: R).map dc1) f=some (dc1 t):=by
 rw [fnd_dc,topS_app,h]
 unfold topS
 rw [List.find?_cons_of_pos (by rw [e];exact eqT_refl f)]
 rfl
theorem ok_gv {x : Nd} (h : okX x) : freshB [] (x.ks.flatMap gvI)=true:=by
 obtain ⟨hf,her⟩:=h
 obtain ⟨hk,hit⟩:=form_items hf
 obtain ⟨e1,e2⟩:=items_tops x.ks 1 0 hit
 have hT:=dtops_td x.ks 1 0 dw0
 rw [← e1,← e2] at hT
 have hD:=dkids_did x.ks 1 (dtops x.ks 1 0 dw0)
 cases q : freshB [] (x.ks.flatMap gvI) with
 | true=>rfl
 | false=>exact absurd her (hD.er (hT.no (.inr q)))
theorem pvs_more {x : Nd} (h : okX x) {f : ByteArray} (hn : noTs f x.ks) (R : List Tp) (hR : ∀ c ∈ R,c.nm=f) (pt : ByteArray) :
 pvs ((ptL x.ks 1 0 ++ R).map dc1) [(ptL x.ks 1 0 ++ R).map dc1,blN.map bdc] 68 pt false false x.ks 1 ([],[]) = .ok (x.ks.flatMap gvI,(dRes x).uses):=by
 obtain ⟨h1,h2,h3⟩:=ok_us h
 obtain ⟨hk,hit⟩:=form_items h.1
 have hR':=pvs_itm (alon_dc (ptL x.ks 1 0 ++ R)) (says_dc (ptL x.ks 1 0 ++ R) blt_bl) (pk:=68) (pt:=pt) (th:=false) (rt:=false) ⟨by decide,by decide⟩ x.ks 1 (([],[]) : Ps) (fun y hy=>itmS_itm (hit y hy))
 rw [usL_but (but_apps (ptL x.ks 1 0) R hR) x.ks hn] at hR'
 refine hR'.1 ?_ (ok_gv h) _ h2
 rw [okIs_iff x.ks 1 0]
 intro c hc
 have ho : okIs ((ptL x.ks 1 0).map dc1 :: []) x.ks 1=true:=by rw [ok_fresh];exact h3
 rw [okIs_iff x.ks 1 0] at ho
 have hc':=ho c hc
 have hr:=((rise_L x.ks 1 0).1 c hc).1
 show atF ((ptL x.ks 1 0 ++ R).map dc1) c.nm=c.at_
 have hc' : atF ((ptL x.ks 1 0).map dc1) c.nm=c.at_:=hc'
 unfold atF at hc' ⊢
 rw [fnd_dc] at hc' ⊢
 rw [topS_app]
 cases q : topS (ptL x.ks 1 0) c.nm with
 | none=>rw [q] at hc';have hc' : (0 : Int)=c.at_:=hc';omega
 | some t=>rw [q] at hc';exact hc'
structure Fre (x : Nd) (f : ByteArray) : Prop where
 ok : okX x
 k : x.k=68
 id : idT true f=true
 no : noTs f x.ks
 bl : bltB f=false
 df : eqT dflt f=false
 ne : f.toList ≠ []
theorem Fre.top {x : Nd} {f : ByteArray} (h : Fre x f) : topS (ptL x.ks 1 0) f=none:=topS_no (ptL_no h.df x.ks 1 0 h.no)
theorem Fre.form {x : Nd} {f : ByteArray} (h : Fre x f) (r : List Nd) (hr : ∀ y ∈ r,y=nmT f ∨ y=ltT f 0 ∨ y=ltT f 1) : formP (moT (x.ks ++ r))=5:=by
 refine fits_mod fun y hy=>?_
 rcases List.mem_append.1 hy with hy | hy
 ·exact fits_items h.k h.ok.1 y hy
 ·rcases hr y hy with rfl | rfl | rfl
  ·exact fit_nm h.id
  ·exact fit_lt h.id (.inl rfl)
  ·exact fit_lt h.id (.inr rfl)
theorem Fre.jl {x : Nd} {f : ByteArray} (h : Fre x f) : ptJL x.ks 1 0=ptL x.ks 1 0:=ptJL_eq x.ks 1 0 (form_items h.ok.1).2
theorem blt_no {f : ByteArray} (h : bltB f=false) : fnd1 (blN.map bdc) f=none:=by
 have:=blt_bl f
 rw [h] at this
 exact this
theorem Fre.one {x : Nd} {f : ByteArray} (h : Fre x f) : pv ((ptJL (moT (x.ks ++ [nmT f])).ks 1 0).map dc1) [(ptJL (moT (x.ks ++ [nmT f])).ks 1 0).map dc1,blN.map bdc] 0 ⟨#[]⟩ false false (moT (x.ks ++ [nmT f])) 0 ([],[]) = .error ((x.size : Int)+1,91):=by
 have e : ptJL (moT (x.ks ++ [nmT f])).ks 1 0=ptL x.ks 1 0 ++ []:=by
  show ptJL (x.ks ++ [nmT f]) 1 0=_
  rw [ptJL_app,h.jl,ptJL,ptJ_nm,ptJL]
  rfl
 rw [e,pv_mo,pvs_app,pvs_more h.ok h.no [] (fun c hc=>by cases hc)]
 dsimp only
 have hs:=x.size_eq
 have eN : fndF [(ptL x.ks 1 0 ++ []).map dc1,blN.map bdc] f=none:=by
  rw [List.append_nil,fndF,fnd_dc,h.top]
  show fndF [blN.map bdc] f=none
  rw [fndF,blt_no h.bl]
  rfl
 rw [pvs,pv_nm]
 unfold pUse
 rw [eN]
 dsimp only
 rw [show (1 : Int)+((sizes x.ks : Nat) : Int)+1=(x.size : Int)+1 by rw [hs];push_cast;omega]
def tpN (x : Nd) (f : ByteArray) : Tp:=⟨f,40,(x.size : Int)+2,(x.ks.length : Int)+1,true⟩
theorem Fre.jn {x : Nd} {f : ByteArray} (h : Fre x f) (n : Int) : ptJL (moT (x.ks ++ [nmT f,ltT f 1])).ks 1 0=ptL x.ks 1 0 ++ [tpN x f]:=by
 show ptJL (x.ks ++ [nmT f,ltT f 1]) 1 0=_
 rw [ptJL_app,h.jl,ptJL,ptJ_nm,ptJL,ptJ_lt h.ne,ptJL,nm_size]
 have hs:=x.size_eq
 have e1 : (1 : Int)+((sizes x.ks : Nat) : Int)+((2 : Nat) : Int)=(x.size : Int)+2:=by rw [hs];push_cast;omega
 rw [e1]
 have e2 : (0 : Int)+((x.ks.length : Nat) : Int)+1=(x.ks.length : Int)+1:=by omega
 rw [e2]
 rfl
theorem Fre.j3 {x : Nd} {f : ByteArray} (h : Fre x f) : ∃ t,t.nm=f∧ptJL (moT (x.ks ++ [nmT f,ltT f 1,ltT f 0])).ks 1 0=ptL x.ks 1 0 ++ [tpN x f,t]:=by
 have hj:=h.jn 0
 have e : x.ks ++ [nmT f,ltT f 1,ltT f 0]=(x.ks ++ [nmT f,ltT f 1]) ++ [ltT f 0]:=by simp
 refine ⟨⟨f,40,1+(sizes (x.ks ++ [nmT f,ltT f 1]) : Nat),0+((x.ks ++ [nmT f,ltT f 1]).length : Nat),!decide ((0 : Int)=0)⟩,rfl,?_⟩
 show ptJL (x.ks ++ [nmT f,ltT f 1,ltT f 0]) 1 0=_
 rw [e,ptJL_app,show ptJL (x.ks ++ [nmT f,ltT f 1]) 1 0=_ from hj,ptJL,ptJ_lt h.ne,ptJL,List.append_nil,List.append_assoc]
 rfl
theorem Fre.pv2 {x : Nd} {f : ByteArray} (h : Fre x f) (R : List Tp) (hR : ∀ c ∈ R,c.nm=f) (r : List Nd) :
 pvs ((ptL x.ks 1 0 ++ tpN x f :: R).map dc1) [(ptL x.ks 1 0 ++ tpN x f :: R).map dc1,blN.map bdc] 68 ⟨#[]⟩ false false (x.ks ++ (nmT f :: ltT f 1 :: r)) 1 ([],[]) =
 pvs ((ptL x.ks 1 0 ++ tpN x f :: R).map dc1) [(ptL x.ks 1 0 ++ tpN x f :: R).map dc1,blN.map bdc] 68 ⟨#[]⟩ false false r ((x.size : Int)+5) (x.ks.flatMap gvI,(dRes x).uses ++ [⟨(x.size : Int)+1,3,(x.size : Int)+2,f,false⟩]):=by
 have hs:=x.size_eq
 have hf:=fnd_new (R:=R) h.top (t:=tpN x f) rfl
 rw [pvs_app,pvs_more h.ok h.no (tpN x f :: R) (fun c hc=>by rcases List.mem_cons.1 hc with rfl | hc;rfl;exact hR c hc)]
 dsimp only
 have e1 : (1 : Int)+((sizes x.ks : Nat) : Int)=(x.size : Int):=by rw [hs];push_cast;omega
 rw [e1,pvs,pv_nm]
 unfold pUse
 rw [fndF,hf]
 dsimp only
 rw [if_neg (fun w=>absurd w.1 (by decide)),if_neg (fun w=>absurd w.2 (by show ¬ (40 : Int)=46;decide))]
 dsimp only
 rw [nm_size,pvs,pv_lt]
 have e2 : (((fnd1 ([(ptL x.ks 1 0 ++ tpN x f :: R).map dc1,blN.map bdc].headD []) f).map (·.at_)).getD 0)=(x.size : Int)+2:=by
  show ((fnd1 ((ptL x.ks 1 0 ++ tpN x f :: R).map dc1) f).map (·.at_)).getD 0=_
  rw [hf]
  rfl
 have e3 : (x.size : Int)+((2 : Nat) : Int)=(x.size : Int)+2:=rfl
 rw [e3,if_neg (fun w=>w.2 e2),lt_size]
 dsimp only
 rw [show (x.size : Int)+2+((3 : Nat) : Int)=(x.size : Int)+5 by push_cast;omega]
 rfl
theorem Fre.two {x : Nd} {f : ByteArray} (h : Fre x f) : okX (moT (x.ks ++ [nmT f,ltT f 1]))∧(dRes (moT (x.ks ++ [nmT f,ltT f 1]))).tops=(dRes x).tops ++ [tpN x f]∧(dRes (moT (x.ks ++ [nmT f,ltT f 1]))).uses=(dRes x).uses ++ [⟨(x.size : Int)+1,3,(x.size : Int)+2,f,false⟩]:=by
 have hj:=h.jn 0
 have hq : pv ((ptJL (moT (x.ks ++ [nmT f,ltT f 1])).ks 1 0).map dc1) [(ptJL (moT (x.ks ++ [nmT f,ltT f 1])).ks 1 0).map dc1,blN.map bdc] 0 ⟨#[]⟩ false false (moT (x.ks ++ [nmT f,ltT f 1])) 0 ([],[]) = .ok (x.ks.flatMap gvI,(dRes x).uses ++ [⟨(x.size : Int)+1,3,(x.size : Int)+2,f,false⟩]):=by
  rw [hj,pv_mo,h.pv2 [] (fun c hc=>by cases hc) [],pvs]
 obtain ⟨a,b,c⟩:=ok_of_pv (.inl (h.form _ (fun y hy=>by simp at hy;rcases hy with rfl | rfl;exact .inl rfl;exact .inr (.inr rfl)))) hq
 exact ⟨a,by rw [b,hj,(ok_us h.ok).1],c⟩
theorem Fre.three {x : Nd} {f : ByteArray} (h : Fre x f) : pv ((ptJL (moT (x.ks ++ [nmT f,ltT f 1,ltT f 0])).ks 1 0).map dc1) [(ptJL (moT (x.ks ++ [nmT f,ltT f 1,ltT f 0])).ks 1 0).map dc1,blN.map bdc] 0 ⟨#[]⟩ false false (moT (x.ks ++ [nmT f,ltT f 1,ltT f 0])) 0 ([],[]) = .error ((x.size : Int)+5,90):=by
 obtain ⟨t,ht,hj⟩:=h.j3
 have hf:=fnd_new (R:=[t]) h.top (t:=tpN x f) rfl
 rw [hj,pv_mo,h.pv2 [t] (fun c hc=>by rw [List.mem_singleton] at hc;rw [hc];exact ht) [ltT f 0],pvs,pv_lt]
 have e2 : (((fnd1 ([(ptL x.ks 1 0 ++ [tpN x f,t]).map dc1,blN.map bdc].headD []) f).map (·.at_)).getD 0)=(x.size : Int)+2:=by
  show ((fnd1 ((ptL x.ks 1 0 ++ [tpN x f,t]).map dc1) f).map (·.at_)).getD 0=_
  rw [hf]
  rfl
 rw [if_pos ⟨h.ne,by rw [e2];omega⟩]
end Go.Proofs.YtfcocoadaajbjaaGreatDoor
set_option linter.unusedVariables false
set_option linter.unusedSimpArgs false
namespace Go.Proofs.YtfcocoadaajbjaaGreatDoor
open Go.RowKit
theorem dec_z (l : List UInt8) : decL (122 :: l)=(122,1):=by simp [decL,atL]
theorem scan_z (l : List UInt8) : scan (122 :: l)=(122,[122]) :: scan l:=by
 rw [scan_cons _ (by simp),dec_z]
 rfl
theorem zdec_36 {l : List UInt8} (h : (decL l).1=36) : (36 : UInt8) ∈ l:=by
 have h0 : atL l 0=36:=by
  unfold decL at h
  repeat' split at h
  all_goals first | exact h | (simp only at h;simp only [Bool.and_eq_true,decide_eq_true_eq,ge_iff_le] at *;omega)
 cases l with
 | nil=>simp [atL] at h0
 | cons c r =>
  have : c.toNat=36:=by simpa [atL] using h0
  have : c=36:=UInt8.toNat_inj.1 (by simpa using this)
  rw [this]
  simp
theorem zscan_36 (l : List UInt8) : (∀ c ∈ l,c ≠ 36)→∀ x ∈ scan l,x.1 ≠ 36:=by
 refine scan_induct (fun l=>(∀ c ∈ l,c ≠ 36)→∀ x ∈ scan l,x.1 ≠ 36) ?_ ?_ l
 ·intro _ x hx
  rw [scan_nil] at hx
  cases hx
 ·intro l hl ih h x hx
  rw [scan_cons l hl] at hx
  rcases List.mem_cons.1 hx with rfl | hx
  ·exact fun w=>h 36 (zdec_36 w) rfl
  ·exact ih (fun c hc=>h c (List.mem_of_mem_drop hc)) x hx
theorem zokR_mod {fi : Bool} {r : Int} (h : okR false fi r=true) (hr : r ≠ 36) : okR true false r=true:=by
 unfold okR at h ⊢
 have e : (r == 36)=false:=by simpa using hr
 rw [e] at h ⊢
 generalize letterB r=a at *
 generalize (r == 95)=b at *
 generalize digitB r=d at *
 revert h
 cases fi <;> cases a <;> cases b <;> cases d <;> decide
theorem zz_prop {l : List UInt8} (h : propT false l=true) (hn : ∀ c ∈ l,c ≠ 36) : propT true (122 :: 122 :: l)=true:=by
 have hs:=zscan_36 l hn
 unfold propT at h ⊢
 rw [scan_z,scan_z]
 have ha : (scan l).all (fun x=>okR true false x.1)=true:=by
  rw [List.all_eq_true]
  intro x hx
  have hx6 : ((x.1 : Nat) : Int) ≠ 36:=fun w=>hs x hx (by omega)
  cases q : scan l with
  | nil=>rw [q] at hx;cases hx
  | cons a t =>
   rw [q] at h hx
   have h : (okR false true a.1 && t.all fun x=>okR false false x.1)=true:=h
   rw [Bool.and_eq_true,List.all_eq_true] at h
   rcases List.mem_cons.1 hx with rfl | hx
   ·exact zokR_mod h.1 hx6
   ·exact zokR_mod (h.2 x hx) hx6
 show (okR true true ((122 : Nat) : Int) && ((122,[122]) :: scan l).all fun x=>okR true false x.1)=true
 rw [List.all_cons,ha]
 decide
def zzT (s : ByteArray) : ByteArray:=⟨(122 :: 122 :: s.data.toList).toArray⟩
theorem zz_cat (s : ByteArray) : ({ data:=#[122,122] } : ByteArray) ++ s=zzT s:=by
 apply ByteArray.ext
 apply Array.toList_inj.1
 rw [ByteArray.data_append]
 simp [zzT]
theorem zz_size (s : ByteArray) : (zzT s).size=s.size+2:=by
 show (zzT s).data.size=s.data.size+2
 simp [zzT]
theorem zz_toList (s : ByteArray) : (zzT s).toList=122 :: 122 :: s.data.toList:=by rw [bytes_toList];simp [zzT]
theorem zz_id {s : ByteArray} (h : idT false s=true) (hn : ∀ c ∈ s.data.toList,c ≠ 36) : idT true (zzT s)=true:=by
 unfold idT at h ⊢
 rw [Bool.and_eq_true] at h ⊢
 refine ⟨by simpa [zzT] using zz_prop h.1 hn,?_⟩
 simp [isW,zzT,wordsF]
theorem zz_blt (s : ByteArray) : bltB (zzT s)=false:=by
 unfold bltB
 rw [zz_toList]
 simp
theorem zz_df (s : ByteArray) : eqT dflt (zzT s)=false:=by
 unfold eqT
 rw [zz_toList,bytes_toList]
 simp [dflt]
theorem zz_ne (s : ByteArray) : (zzT s).toList ≠ []:=by rw [zz_toList];simp
theorem noTs_of {f : ByteArray} : ∀ {l : List Nd},(∀ y ∈ l,noTx f y)→noTs f l
 | [],_=>by rw [noTs];trivial
 | y :: l,h=>by
  rw [noTs]
  exact ⟨h y (by simp),noTs_of fun z hz=>h z (by simp [hz])⟩
theorem noT_flat {f : ByteArray} (x : Nd) : (∀ y ∈ x.flat,eqT y.t f=false)→noTx f x:=by
 induction x using Nd.ind with
 | h x ih =>
  intro h
  have hk : ∀ y ∈ x.ks,noTx f y:=fun y hy=>ih y hy fun z hz=>h z (by rw [Nd.flat_eq];exact List.mem_cons_of_mem _ (flats_mem hy hz))
  have h0:=h x (by rw [Nd.flat_eq];simp)
  obtain ⟨k,t,n,ks⟩:=x
  rw [noTx]
  exact ⟨h0,noTs_of hk⟩
end Go.Proofs.YtfcocoadaajbjaaGreatDoor
set_option linter.unusedVariables false
set_option linter.unusedSimpArgs false
set_option maxRecDepth 100000
namespace Go.Proofs.YtfcocoadaajbjaaGreatDoor
open Go.RowKit Go.MapKept
def NewN (x : Nd) (W : World) (e : Ending) (W' : World) : Prop:=∃ a c,e = .returned (x.v (.slice a x.ks.length c))∧LAt W' (fun b=>W.heap.size ≤ b∧b < W'.heap.size) (.slice a x.ks.length c) x.ks∧Below W.heap.size W W'
theorem nameN_any (s : ByteArray) (W : World) : Calls Tryz.prog 14 #[.string s] W (NewN (nmT s) W):=by
 go_enter Tryz.func14,Tryz.ntmps14
 go_wp2
 refine bodyPost_ret (res_nd Tryz.results14 (hold _ (by simp) (hnew _ rfl)) rfl) rfl ⟨_,1,rfl,?_,bel2 _ _ _⟩
 exact lat_block [(.mk 6 s 0 [],.slice none 0 0)] (hnew _ (by simp)) (by simp) (fun p hp=>by simp at hp;subst hp;exact .nil _ _) 1
theorem letN_any (s : ByteArray) (n : Int) (W : World) : Calls Tryz.prog 15 #[.string s,.int .i64 n] W (NewN (ltT s n) W):=by
 go_enter Tryz.func15,Tryz.ntmps15
 go_wp2
 refine bodyPost_ret (res_nd Tryz.results15 (hold _ (by simp) (hnew _ rfl)) rfl) rfl ⟨_,2,rfl,?_,bel2 _ _ _⟩
 exact lat_block [(.mk 14 ⟨#[]⟩ 0 [],.slice none 0 0),(.mk 1 ⟨#[]⟩ 1 [],.slice none 0 0)] (hnew _ (by simp)) (by simp) (fun p hp=>by simp at hp;rcases hp with rfl | rfl <;> exact .nil _ _) 2
theorem zflats_of : ∀ {l : List Nd} {y : Nd},y ∈ flats l→∃ z ∈ l,y ∈ z.flat
 | [],y,h=>by rw [flats_nil] at h;cases h
 | x :: l,y,h=>by
  rw [flats_cons] at h
  rcases List.mem_append.1 h with h | h
  ·exact ⟨x,by simp,h⟩
  ·obtain ⟨z,hz,hy⟩:=zflats_of h
   exact ⟨z,by simp [hz],hy⟩
theorem tx_mk {x : Nd} (h0 : x.t.size ≤ 4194304) (h : ∀ y ∈ x.ks,y.tx) : x.tx:=by
 intro y hy
 rw [Nd.flat_eq] at hy
 rcases List.mem_cons.1 hy with rfl | hy
 ·exact h0
 ·obtain ⟨z,hz,hy⟩:=zflats_of hy
  exact h z hz y hy
theorem nm_tx {f : ByteArray} (h : f.size ≤ 4194304) : (nmT f).tx :=
 tx_mk (x:=nmT f) (by show (⟨#[]⟩ : ByteArray).size ≤ _;decide) (fun y hy=>by
  have hy : y ∈ [Nd.mk 6 f 0 []]:=hy
  rw [List.mem_singleton] at hy
  subst hy
  exact tx_mk (x:=.mk 6 f 0 []) h (fun z hz=>by cases hz))
theorem lt_tx {f : ByteArray} (n : Int) (h : f.size ≤ 4194304) : (ltT f n).tx :=
 tx_mk (x:=ltT f n) h (fun y hy=>by
  have hy : y ∈ [Nd.mk 14 ⟨#[]⟩ 0 [],Nd.mk 1 ⟨#[]⟩ 1 []]:=hy
  simp only [List.mem_cons,List.not_mem_nil,or_false] at hy
  rcases hy with rfl | rfl
  ·exact tx_mk (x:=.mk 14 ⟨#[]⟩ 0 []) (by show (⟨#[]⟩ : ByteArray).size ≤ _;decide) (fun z hz=>by cases hz)
  ·exact tx_mk (x:=.mk 1 ⟨#[]⟩ 1 []) (by show (⟨#[]⟩ : ByteArray).size ≤ _;decide) (fun z hz=>by cases hz))
theorem mo_more {x : Nd} {f : ByteArray} (tx : x.tx) (ft : f.size ≤ 4194304) (zx : x.size ≤ 1048576) (r : List Nd) (hr : ∀ y ∈ r,y=nmT f ∨ y=ltT f 0 ∨ y=ltT f 1) (hz : sizes r ≤ 8) : (moT (x.ks ++ r)).size ≤ 4194304∧(moT (x.ks ++ r)).tx:=by
 refine ⟨?_,tx_mk (x:=moT (x.ks ++ r)) (by show (⟨#[]⟩ : ByteArray).size ≤ _;decide) (fun y hy=>?_)⟩
 ·have:=x.size_eq
  rw [mo_size,sizes_app]
  omega
 ·have hy : y ∈ x.ks ++ r:=hy
  rcases List.mem_append.1 hy with hy | hy
  ·exact tx_kid tx hy
  ·rcases hr y hy with rfl | rfl | rfl
   ·exact nm_tx ft
   ·exact lt_tx 0 ft
   ·exact lt_tx 1 ft
theorem fre_mk {x : Nd} {s : ByteArray} (ok : okX x) (k : x.k=68) (id : idT false s=true) (hn : ∀ c ∈ s.data.toList,c ≠ 36) (no : ∀ y ∈ x.flat,eqT y.t (zzT s)=false) : Fre x (zzT s):=by
 have h:=noT_flat x no
 refine ⟨ok,k,zz_id id hn,?_,zz_blt s,zz_df s,zz_ne s⟩
 obtain ⟨k,t,n,ks⟩:=x
 rw [noTx] at h
 exact h.2
theorem Fre.c1 {x : Nd} {f : ByteArray} (h : Fre x f) (zx : x.size ≤ 1048576) (tx : x.tx) (ft : f.size ≤ 4194304) (v : Value) (W : World) (hl : LAt W (fun b=>b < W.heap.size) v (x.ks ++ [nmT f])) (he : WEnv W) : Calls Tryz.prog 7 #[.agg #[.int .i64 68,.string ⟨#[]⟩,.int .i64 0,v]] W fun e W'=>e = .returned (.tuple #[.agg #[.slice none 0 0,.slice none 0 0],.int .i64 ((x.size : Int)+1),.int .i64 91])∧Below W.heap.size W W':=by
 have hr : ∀ y ∈ [nmT f],y=nmT f ∨ y=ltT f 0 ∨ y=ltT f 1:=fun y hy=>by rw [List.mem_singleton] at hy;exact .inl hy
 obtain ⟨z,t⟩:=mo_more tx ft zx [nmT f] hr (by rw [sizes_cons,sizes_nil,nm_size];omega)
 exact presolve_err (moT (x.ks ++ [nmT f])) v W hl z t he (.inl (h.form _ hr)) h.one
theorem Fre.c3 {x : Nd} {f : ByteArray} (h : Fre x f) (zx : x.size ≤ 1048576) (tx : x.tx) (ft : f.size ≤ 4194304) (v : Value) (W : World) (hl : LAt W (fun b=>b < W.heap.size) v (x.ks ++ [nmT f,ltT f 1,ltT f 0])) (he : WEnv W) : Calls Tryz.prog 7 #[.agg #[.int .i64 68,.string ⟨#[]⟩,.int .i64 0,v]] W fun e W'=>e = .returned (.tuple #[.agg #[.slice none 0 0,.slice none 0 0],.int .i64 ((x.size : Int)+5),.int .i64 90])∧Below W.heap.size W W':=by
 have hr : ∀ y ∈ [nmT f,ltT f 1,ltT f 0],y=nmT f ∨ y=ltT f 0 ∨ y=ltT f 1:=fun y hy=>by
  simp only [List.mem_cons,List.not_mem_nil,or_false] at hy
  rcases hy with rfl | rfl | rfl
  ·exact .inl rfl
  ·exact .inr (.inr rfl)
  ·exact .inr (.inl rfl)
 obtain ⟨z,t⟩:=mo_more tx ft zx [nmT f,ltT f 1,ltT f 0] hr (by rw [sizes_cons,sizes_cons,sizes_cons,sizes_nil,nm_size,lt_size,lt_size];omega)
 exact presolve_err (moT (x.ks ++ [nmT f,ltT f 1,ltT f 0])) v W hl z t he (.inl (h.form _ hr)) h.three
theorem Fre.c2 {x : Nd} {f : ByteArray} (h : Fre x f) (zx : x.size ≤ 1048576) (tx : x.tx) (ft : f.size ≤ 4194304) (v : Value) (W : World) (hl : LAt W (fun b=>b < W.heap.size) v (x.ks ++ [nmT f,ltT f 1])) (he : WEnv W) : Calls Tryz.prog 7 #[.agg #[.int .i64 68,.string ⟨#[]⟩,.int .i64 0,v]] W fun e W'=>Below W.heap.size W W'∧∃ n m g c g' c' : Nat,(n ≤ 4194304∧m ≤ 4194304)∧e = .returned (.tuple #[.agg #[.slice (some ⟨g,0,none⟩) (n+1) c,.slice (some ⟨g',0,none⟩) (m+1) c'],.int .i64 0,.int .i64 0])∧W'.cell? ⟨g,n * 5,none⟩=some (.string f)∧W'.cell? ⟨g',m * 5,none⟩=some (.int .i64 ((x.size : Int)+1))∧W'.cell? ⟨g',m * 5+1,none⟩=some (.int .i64 3)∧W'.cell? ⟨g',m * 5+2,none⟩=some (.int .i64 ((x.size : Int)+2))∧W'.cell? ⟨g',m * 5+3,none⟩=some (.string f)∧W'.cell? ⟨g',m * 5+4,none⟩=some (.bool false):=by
 have hr : ∀ y ∈ [nmT f,ltT f 1],y=nmT f ∨ y=ltT f 0 ∨ y=ltT f 1:=fun y hy=>by
  simp only [List.mem_cons,List.not_mem_nil,or_false] at hy
  rcases hy with rfl | rfl
  ·exact .inl rfl
  ·exact .inr (.inr rfl)
 obtain ⟨z,t⟩:=mo_more tx ft zx [nmT f,ltT f 1] hr (by rw [sizes_cons,sizes_cons,sizes_nil,nm_size,lt_size];omega)
 obtain ⟨hok,ht,hu⟩:=h.two
 refine (presolve_any (moT (x.ks ++ [nmT f,ltT f 1])) v W hl z t he).mono ?_
 rintro e W' ⟨b,han⟩
 refine ⟨b,?_⟩
 rcases han with ⟨_,vt,vu,rfl,rt,ru⟩ | ⟨hno,_⟩
 case inr=>exact absurd hok hno
 rw [ht] at rt
 rw [hu] at ru
 obtain ⟨l1,l2⟩:=res_len x
 obtain ⟨g,c,rfl,t0,_⟩:=tp_at rt (k:=(dRes x).tops.length) (by simp)
 obtain ⟨g',c',rfl,u0,u1,u2,u3,u4⟩:=us_at ru (k:=(dRes x).uses.length) (by simp)
 rw [List.getElem_concat_length rfl] at t0 u0 u1 u2 u3 u4
 exact ⟨(dRes x).tops.length,(dRes x).uses.length,g,c,g',c',⟨by omega,by omega⟩,by simp,t0,u0,u1,u2,u3,u4⟩
end Go.Proofs.YtfcocoadaajbjaaGreatDoor
set_option linter.unusedVariables false
set_option linter.unusedSimpArgs false
namespace Go.Proofs.YtfcocoadaajbjaaGreatDoor
open Go.RowKit
theorem LAt.news {w : World} {S : Nat→Prop} {ad : Option Addr} {c : Nat} {ks : List Nd} (h : LAt w S (.slice ad ks.length c) ks) (h0 : 0 < ks.length) : ∃ (F : List (Nd × Value)) (a0 : Addr),ad=some a0∧F.map (·.1)=ks∧(∀ j u,(rowN F)[j]?=some u→w.cell? (a0.add j)=some u)∧(∀ u ∈ rowN F,u.oneCell'=true)∧(∀ p ∈ F,LAt w S p.2 p.1.ks):=by
 obtain ⟨a',c',bl,o,f,e,hp,h4,hk⟩:=h.op
 obtain ⟨rfl,hS,hb⟩:=hp h0
 cases e
 have hl : (List.range ks.length).length=ks.length:=by simp
 obtain ⟨F,hF⟩ : ∃ F : List (Nd × Value),F=ks.zip ((List.range ks.length).map f):=⟨_,rfl⟩
 have hlen : F.length=ks.length:=by rw [hF];simp
 have hget : ∀ i (hi : i < F.length),F[i]=(ks[i]'(by omega),f i):=fun i hi=>by subst hF;simp
 refine ⟨F,⟨bl,o,none⟩,rfl,?_,?_,?_,?_⟩
 ·rw [hF];exact List.map_fst_zip (by simp)
 ·intro j u hj
  have hjl : j < F.length * 4:=by
   have:=(List.getElem?_eq_some_iff.1 hj).1
   rw [rowN_length] at this
   exact this
  have hi : j / 4 < F.length:=by omega
  have hr:=rowN_get F (j / 4) hi
  have h4':=h4 (j / 4) (by omega)
  rw [hget _ hi] at hr
  have ej : j=j / 4 * 4+j % 4:=by omega
  have hm : j % 4=0 ∨ j % 4=1 ∨ j % 4=2 ∨ j % 4=3:=by omega
  obtain ⟨f0,f1,f2,f3⟩:=h4'
  rw [Addr.add_lit]
  rcases hm with e | e | e | e
  ·rw [show j=j / 4 * 4 by omega,hr.1] at hj
   cases hj
   rw [show o+j=o+j / 4 * 4 by omega]
   exact f0
  ·rw [show j=j / 4 * 4+1 by omega,hr.2.1] at hj
   cases hj
   rw [show o+j=o+j / 4 * 4+1 by omega]
   exact f1
  ·rw [show j=j / 4 * 4+2 by omega,hr.2.2.1] at hj
   cases hj
   rw [show o+j=o+j / 4 * 4+2 by omega]
   exact f2
  ·rw [show j=j / 4 * 4+3 by omega,hr.2.2.2] at hj
   cases hj
   rw [show o+j=o+j / 4 * 4+3 by omega]
   exact f3
 ·intro u hu
  obtain ⟨p,hp,hu⟩:=List.mem_flatMap.1 hu
  obtain ⟨i,hi,rfl⟩:=List.mem_iff_getElem.1 hp
  rw [hget i hi] at hu
  obtain ⟨a2,c2,e2⟩:=(hk i (by omega)).sl
  rw [e2] at hu
  rcases List.mem_cons.1 hu with rfl | hu
  ·rfl
  rcases List.mem_cons.1 hu with rfl | hu
  ·rfl
  rcases List.mem_cons.1 hu with rfl | hu
  ·rfl
  rcases List.mem_cons.1 hu with rfl | hu
  ·rfl
  ·cases hu
 ·intro p hp
  obtain ⟨i,hi,rfl⟩:=List.mem_iff_getElem.1 hp
  rw [hget i hi]
  exact hk i (by omega)
theorem run_append_empty (w : World) (ty : TypeId) {base n : Nat} {xs : List Value} (v : Value) (hown : w.ownsRow base 24 4 v n xs) (ad : Option Addr) (c : Nat) : (Builtin.append_ #[22,22] ty #[v,.slice ad 0 c]).run Tryz.prog w = .ok v w:=by
 obtain ⟨i0,hi0,hz0,hz1,hz2⟩:=info_parts info_nd
 rcases hown.2 with ⟨rfl,rfl⟩ | ⟨g,cap,cur,rfl,_,_,hnc,_⟩
 ·cases ad <;> simp [Builtin.append_,run_underlying Tryz.underlying22,sizeOf,typeInfo,hi0,hz1,Builtin.lenOf,Builtin.firstCells,loadCells,loadCellsFrom]
 ·cases ad <;> simp [Builtin.append_,run_underlying Tryz.underlying22,sizeOf,typeInfo,hi0,hz1,Builtin.lenOf,Builtin.firstCells,hnc,storeCells,loadCells,loadCellsFrom]
theorem wpList_append_lat (w : World) {ops : Array Oper} {rest : List Oper} {o : Oper} {a : Act} {Q : Exit→Act→World→Prop} (hgd : o.guard=none) (s x : Operand)
 (ho : o.op = .call { callee:=.builtin .append,args:=#[s,x],argTypes:=#[22,22] })
 (base : Nat) (v : Value) (n : Nat) (xs : List Value) (hs : a.eval s=v) (hown : w.ownsRow base 24 4 v n xs) (S : Nat→Prop) (ad : Option Addr) (c : Nat) (ks : List Nd) (hx : a.eval x = .slice ad ks.length c) (hl : LAt w S (.slice ad ks.length c) ks)
 (hn : n+ks.length ≤ 4194304) (hbase : base ≤ w.heap.size)
 (h : ∀ (v' : Value) (w' : World) (F : List (Nd × Value)),F.map (·.1)=ks→w'.ownsRow base 24 4 v' (n+ks.length) (xs ++ rowN F)→w.grownBy w' v.ownBlock→(∀ g,v'.ownBlock=some g→v.ownBlock=some g ∨ g=w.heap.size)→(∀ p ∈ F,LAt w S p.2 p.1.ks)→wpList Tryz.prog ops Q rest (a.put o.dst v') w') : wpList Tryz.prog ops Q (o :: rest) a w:=by
 obtain ⟨i0,hi0,hz0,hz1,hz2⟩:=info_parts info_nd
 by_cases h0 : 0 < ks.length
 ·obtain ⟨F,a0,rfl,hF,hc,h1,hk⟩:=hl.news h0
  have hFl : F.length=ks.length:=by rw [← hF];simp
  refine wpList_append_lies w hgd s x _ ho base 24 i0 _ 4 56 Tryz.underlying22 hi0 hz0 hz1 hz2 rfl (by omega) v n xs hs hown a0 ks.length c (rowN F) hx (by rw [rowN_length,hFl]) hc h1 h0 (by unfold maxLen;omega) (by omega) hbase w.heap.size rfl ?_
  intro g cap w' h2 h3 h4 h5
  exact h _ _ F hF h2 h3 (fun g' e=>by cases e;exact h4) hk
 ·obtain rfl : ks=[]:=List.length_eq_zero_iff.1 (by omega)
  refine wpList_plain hgd fun K hK=>?_
  have hr:=fun ty=>run_append_empty w ty v hown ad c
  unfold Oper.wp
  have e : (execOp a.eval o).run Tryz.prog w = .ok (.value v) w:=by
   simp only [List.length_nil] at hx
   obtain ⟨dst,op,ty,pos,after,guard⟩:=o
   simp only at ho
   subst ho
   rw [BigFrame.execOp_builtin,BigFrame.builtin_append]
   have e2 : (#[s,x] : Array Operand).map a.eval=#[v,.slice ad 0 c]:=by simp [hs,hx]
   rw [e2]
   simp only [Sem.run_bind,hr,Result.andThen]
   rfl
  rw [e]
  exact hK _ _ (h v w [] rfl (by simpa [rowN] using hown) ⟨rfl,rfl,rfl,Nat.le_refl _,fun _ _ _=>rfl⟩ (fun g e=>.inl e) (by simp))
theorem rowN_app (F G : List (Nd × Value)) : rowN (F ++ G)=rowN F ++ rowN G:=by unfold rowN;rw [List.flatMap_append]
theorem lat_push {W : World} {base : Nat} {v : Value} {n : Nat} {F : List (Nd × Value)} {y : Nd} {vy : Value} (hn : n=F.length) (own : W.ownsRow base 24 4 v (n+1) (rowN F ++ [.int .i64 y.k,.string y.t,.int .i64 y.n,vy])) (hk : ∀ p ∈ F,LAt W (fun b=>b < W.heap.size) p.2 p.1.ks) (hy : LAt W (fun b=>b < W.heap.size) vy y.ks) : LAt W (fun b=>b < W.heap.size) v (F.map (·.1) ++ [y]):=by
 subst hn
 have e : rowN F ++ [.int .i64 y.k,.string y.t,.int .i64 y.n,vy]=rowN (F ++ [(y,vy)]):=by rw [rowN_app];rfl
 rw [e,show F.length+1=(F ++ [(y,vy)]).length by simp] at own
 have:=lat_of_row (S:=fun b=>b < W.heap.size) own (fun p hp=>by
  rcases List.mem_append.1 hp with hp | hp
  ·exact hk p hp
  ·rw [List.mem_singleton] at hp;subst hp;exact hy) (fun g hg=>(own.lt g hg).2)
 simpa using this
theorem push_lat {W Y1 Y2 Y4 : World} {v1 v4 vy : Value} {n : Nat} {F : List (Nd × Value)} {ks : List Nd} {y : Nd} {o : Obj} (hF : F.map (·.1)=ks) (hn : n=F.length) (hk : ∀ p ∈ F,LAt W (fun b=>b < W.heap.size) p.2 p.1.ks) (own1 : Y1.ownsRow W.heap.size 24 4 v1 n (rowN F)) (b1 : Below W.heap.size W Y1) (b2 : Below Y1.heap.size Y1 Y2) (ly : LAt Y2 (fun b=>Y1.heap.size ≤ b∧b < Y2.heap.size) vy y.ks)
 (own4 : Y4.ownsRow W.heap.size 24 4 v4 (n+1) (rowN F ++ [.int .i64 y.k,.string y.t,.int .i64 y.n,vy])) (hg : (Y2.alloc o).grownBy Y4 v1.ownBlock) : Below W.heap.size W Y4∧LAt Y4 (fun b=>b < Y4.heap.size) v4 (ks ++ [y]):=by
 have lt1:=own1.lt
 have bY2 : Below W.heap.size W Y2:=b1.trans (b2.mono b1.size)
 have bA : Below W.heap.size W (Y2.alloc o):=bY2.trans ((bel_a Y2 o).mono bY2.size)
 have b4 : Below W.heap.size W Y4:=bA.grown hg bA.size (fun j hj=>(lt1 j hj).1)
 have hs:=hg.size
 have ha : (Y2.alloc o).heap.size=Y2.heap.size+1:=by simp
 refine ⟨b4,?_⟩
 rw [← hF]
 refine lat_push hn own4 (fun p hp=>?_) ?_
 ·exact ((hk p hp).bel b4).mono (fun b hb=>Nat.lt_of_lt_of_le hb b4.size)
 ·exact ((ly.bel (bel_a _ _)).grown hg (fun b hb w=>by have:=(lt1 b w).2;omega)).mono (fun b hb=>by omega)
end Go.Proofs.YtfcocoadaajbjaaGreatDoor
