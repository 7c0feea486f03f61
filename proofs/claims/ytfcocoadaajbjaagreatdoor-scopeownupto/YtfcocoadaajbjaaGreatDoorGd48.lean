/- Own text. Names in scopes: modules that end with a statement of a name,or a let. The statements' own trees,and their examples. The statements' examples. Names in scopes: what is so of a module or script without an error (of the model;no program is named here). -/
import Derived.Test.YtfcocoadaajbjaaGreatDoorGd47
set_option linter.unusedVariables false
set_option linter.unusedSimpArgs false
namespace Go.Proofs.YtfcocoadaajbjaaGreatDoor
open Go.RowKit Go.MapKept
def nmT (s : ByteArray) : Nd:=.mk 47 ⟨#[]⟩ 0 [.mk 6 s 0 []]
def ltT (s : ByteArray) (n : Int) : Nd:=.mk 40 s n [.mk 14 ⟨#[]⟩ 0 [],.mk 1 ⟨#[]⟩ 1 []]
def moT (l : List Nd) : Nd:=.mk 68 ⟨#[]⟩ 0 l
theorem nm_size (s : ByteArray) : (nmT s).size=2:=by simp [nmT,Nd.size_eq,sizes_cons,sizes_nil,Nd.ks]
theorem lt_size (s : ByteArray) (n : Int) : (ltT s n).size=3:=by simp [ltT,Nd.size_eq,sizes_cons,sizes_nil,Nd.ks]
theorem mo_size (l : List Nd) : (moT l).size=1+sizes l:=(moT l).size_eq
theorem sizes_app : ∀ (a b : List Nd),sizes (a ++ b)=sizes a+sizes b
 | [],b=>by rw [List.nil_append,sizes_nil];omega
 | x :: a,b=>by rw [List.cons_append,sizes_cons,sizes_cons,sizes_app a b];omega
theorem e_nil : (⟨#[]⟩ : ByteArray).toList=[]:=by rw [bytes_toList]
theorem fit_nm {s : ByteArray} (h : idT true s=true) : fitsP true 109 (nmT s)=true:=by
 have h6 : wholeP true (.mk 6 s 0 [])=true:=by
  simp [wholeP,Nd.k,show ruleK 6=some ⟨1,0,[],0⟩ by rfl,folP,hdB,saysT,Nd.t,Nd.n,Nd.ks,fitsL_nil,agreesP,h]
 have hf : fitsL true [101] 0 [.mk 6 s 0 []]=true:=by
  rw [fitsL_cons,List.tail_cons,fitsL_nil,fitsP_eq,List.headD_cons,if_neg (by omega),h6]
  rfl
 have hw : wholeP true (nmT s)=true:=by
  unfold wholeP
  rw [show ruleK (nmT s).k=some ⟨0,0,[101],0⟩ by rfl]
  show (folP true (nmT s) ⟨0,0,[101],0⟩ && agreesP true (nmT s))=true
  have h1 : agreesP true (nmT s)=true:=by simp [agreesP,nmT,Nd.k]
  have h2 : folP true (nmT s) ⟨0,0,[101],0⟩=true:=by
   unfold folP
   rw [show fitsL true [101] 0 (nmT s).ks=true from hf]
   simp [hdB,saysT,nmT,Nd.t,Nd.n,Nd.ks,e_nil]
  rw [h1,h2];rfl
 rw [fitsP_eq,if_neg (by omega),hw]
 rfl
theorem fit_lt {s : ByteArray} {n : Int} (h : idT true s=true) (hn : n=0 ∨ n=1) : fitsP true 109 (ltT s n)=true:=by
 have w14 : wholeP true (.mk 14 ⟨#[]⟩ 0 [])=true:=by
  simp [wholeP,Nd.k,show ruleK 14=some ⟨0,0,[],0⟩ by rfl,folP,hdB,saysT,Nd.t,Nd.n,Nd.ks,fitsL_nil,agreesP,e_nil]
 have w1 : wholeP true (.mk 1 ⟨#[]⟩ 1 [])=true:=by
  simp [wholeP,Nd.k,show ruleK 1=some ⟨0,9007199254740991,[],0⟩ by rfl,folP,hdB,saysT,Nd.t,Nd.n,Nd.ks,fitsL_nil,agreesP,e_nil]
 have hf : fitsL true [106,101] 0 [.mk 14 ⟨#[]⟩ 0 [],.mk 1 ⟨#[]⟩ 1 []]=true:=by
  rw [fitsL_cons,List.tail_cons,fitsL_cons,List.tail_cons,fitsL_nil,fitsP_eq,fitsP_eq,List.headD_cons,List.headD_cons,if_neg (by omega),if_neg (by omega),w14,w1]
  rfl
 have hw : wholeP true (ltT s n)=true:=by
  unfold wholeP
  rw [show ruleK (ltT s n).k=some ⟨1,1,[106,101],0⟩ by rfl]
  show (folP true (ltT s n) ⟨1,1,[106,101],0⟩ && agreesP true (ltT s n))=true
  have h1 : agreesP true (ltT s n)=true:=by simp [agreesP,ltT,Nd.k]
  have h2 : folP true (ltT s n) ⟨1,1,[106,101],0⟩=true:=by
   unfold folP
   rw [show fitsL true [106,101] 0 (ltT s n).ks=true from hf]
   rcases hn with rfl | rfl <;> simp [hdB,saysT,ltT,Nd.t,Nd.n,Nd.ks,h]
  rw [h1,h2];rfl
 rw [fitsP_eq,if_neg (by omega),hw]
 rfl
theorem fits_mod {l : List Nd} (h : ∀ y ∈ l,fitsP true 109 y=true) : formP (moT l)=5:=by
 have hl : ∀ l : List Nd,(∀ y ∈ l,fitsP true 109 y=true)→fitsL true [] 109 l=true:=fun l=>by
  induction l with
  | nil=>intro _;exact fitsL_nil _ _ _
  | cons a r ih=>intro h;rw [fitsL_cons];show (fitsP true 109 a && fitsL true [] 109 r)=true;rw [h a (by simp),ih (fun y hy=>h y (by simp [hy]))];rfl
 have hw : wholeP true (moT l)=true:=by
  unfold wholeP
  rw [show ruleK (moT l).k=some ⟨0,0,[],109⟩ by rfl]
  show (folP true (moT l) ⟨0,0,[],109⟩ && agreesP true (moT l))=true
  have h1 : agreesP true (moT l)=true:=by simp [agreesP,moT,Nd.k]
  have h2 : folP true (moT l) ⟨0,0,[],109⟩=true:=by
   unfold folP
   rw [show fitsL true [] 109 (moT l).ks=true from hl l h]
   simp [hdB,saysT,moT,Nd.t,Nd.n,Nd.ks,e_nil]
  rw [h1,h2];rfl
 unfold formP
 rw [show ((moT l).k == 68)=true by rfl,hw]
 rfl
theorem fits_items {x : Nd} (hk : x.k=68) (h : formP x=5 ∨ formP x=6) : ∀ y ∈ x.ks,fitsP true 109 y=true:=by
 unfold formP at h
 rw [hk,show ((68 : Int) == 68)=true by rfl] at h
 by_cases hw : wholeP true x=true
 ·obtain ⟨k,t,n,ks⟩:=x
  have hk : k=68:=hk
  subst hk
  obtain ⟨h1,h2,h3⟩:=whole_rule (r:=⟨0,0,[],109⟩) rfl hw
  exact fitsL_all h3
 ·rw [if_neg hw] at h;omega
theorem pv_nm {A : List Dc} {F : List (List Dc)} {pk : Int} {pt : ByteArray} {th rt : Bool} (s : ByteArray) (p : Int) (S : Ps) : pv A F pk pt th rt (nmT s) p S=pUse 6 (p+1) s F S:=by
 have d1 : dclN (nmT s)=⟨#[]⟩:=by simp [nmT,dclN,isDecl]
 have d2 : expN (nmT s)=⟨#[]⟩:=by simp [nmT,expN]
 have d3 : dclN (.mk 6 s 0 [])=⟨#[]⟩:=by simp [dclN,isDecl]
 have d4 : expN (.mk 6 s 0 [])=⟨#[]⟩:=by simp [expN]
 have l1 : pLook A F pk pt th rt (nmT s) p S = .ok S:=by
  unfold pLook
  rw [d1,d2,e_nil]
  simp [nmT,Nd.k]
 have l2 : pLook A F 47 ⟨#[]⟩ th rt (.mk 6 s 0 []) (p+1) S=pUse 6 (p+1) s F S:=by
  unfold pLook
  rw [d3,d4,e_nil]
  simp [Nd.k,Nd.t]
 show pv A F pk pt th rt (.mk 47 ⟨#[]⟩ 0 [.mk 6 s 0 []]) p S=_
 rw [pv_mk,show pLook A F pk pt th rt (.mk 47 ⟨#[]⟩ 0 [.mk 6 s 0 []]) p S = .ok S from l1,andR_ok]
 have i1 : inF F 47 [.mk 6 s 0 []] p=F:=by simp [inF,isFn]
 have i2 : inT 47 th=th:=by simp [inT]
 have i3 : inR 47 rt=rt:=by simp [inR,isFn]
 rw [i1,i2,i3,pvs_cons,pv_mk,l2]
 cases pUse 6 (p+1) s F S with
 | error e=>rfl
 | ok S1=>simp [andR,pvs]
theorem pv_lt {A : List Dc} {F : List (List Dc)} {pk : Int} {pt : ByteArray} {th rt : Bool} (s : ByteArray) (n : Int) (p : Int) (S : Ps) : pv A F pk pt th rt (ltT s n) p S=if s.toList ≠ []∧((fnd1 (F.headD []) s).map (·.at_)).getD 0 ≠ p then .error (p,90) else .ok S:=by
 have d1 : dclN (ltT s n)=s:=by simp [ltT,dclN,isDecl]
 have d2 : expN (ltT s n)=⟨#[]⟩:=by simp [ltT,expN]
 have l1 : pLook A F pk pt th rt (ltT s n) p S=if s.toList ≠ []∧((fnd1 (F.headD []) s).map (·.at_)).getD 0 ≠ p then .error (p,90) else .ok S:=by
  unfold pLook
  rw [d1,d2,e_nil]
  simp [ltT,Nd.k]
 have l2 : ∀ q S,pLook A F 40 s th rt (.mk 14 ⟨#[]⟩ 0 []) q S = .ok S:=fun q S=>by
  unfold pLook
  have d3 : dclN (.mk 14 ⟨#[]⟩ 0 [])=⟨#[]⟩:=by simp [dclN,isDecl]
  have d4 : expN (.mk 14 ⟨#[]⟩ 0 [])=⟨#[]⟩:=by simp [expN]
  rw [d3,d4,e_nil]
  simp [Nd.k]
 have l3 : ∀ q S,pLook A F 40 s th rt (.mk 1 ⟨#[]⟩ 1 []) q S = .ok S:=fun q S=>by
  unfold pLook
  have d3 : dclN (.mk 1 ⟨#[]⟩ 1 [])=⟨#[]⟩:=by simp [dclN,isDecl]
  have d4 : expN (.mk 1 ⟨#[]⟩ 1 [])=⟨#[]⟩:=by simp [expN]
  rw [d3,d4,e_nil]
  simp [Nd.k]
 show pv A F pk pt th rt (.mk 40 s n [.mk 14 ⟨#[]⟩ 0 [],.mk 1 ⟨#[]⟩ 1 []]) p S=_
 rw [pv_mk,show pLook A F pk pt th rt (.mk 40 s n [.mk 14 ⟨#[]⟩ 0 [],.mk 1 ⟨#[]⟩ 1 []]) p S=_ from l1]
 have i1 : inF F 40 [.mk 14 ⟨#[]⟩ 0 [],.mk 1 ⟨#[]⟩ 1 []] p=F:=by simp [inF,isFn]
 have i2 : inT 40 th=th:=by simp [inT]
 have i3 : inR 40 rt=rt:=by simp [inR,isFn]
 have i4 : ∀ q,inF F 14 [] q=F:=fun q=>by simp [inF,isFn]
 have i5 : ∀ q,inF F 1 [] q=F:=fun q=>by simp [inF,isFn]
 split
 ·rfl
 ·rw [andR_ok,i1,i2,i3,pvs_cons,pv_mk,l2,andR_ok,pvs,andR_ok,pvs_cons,pv_mk,l3,andR_ok,pvs,andR_ok,pvs]
theorem pv_mo (A : List Dc) (F : List (List Dc)) (pk : Int) (pt : ByteArray) (l : List Nd) (S : Ps) : pv A F pk pt false false (moT l) 0 S=pvs A F 68 ⟨#[]⟩ false false l 1 S:=by
 have d1 : dclN (moT l)=⟨#[]⟩:=by simp [moT,dclN,isDecl]
 have d2 : expN (moT l)=⟨#[]⟩:=by simp [moT,expN]
 have l1 : pLook A F pk pt false false (moT l) 0 S = .ok S:=by
  unfold pLook
  rw [d1,d2,e_nil]
  simp [moT,Nd.k]
 show pv A F pk pt false false (.mk 68 ⟨#[]⟩ 0 l) 0 S=_
 rw [pv_mk,show pLook A F pk pt false false (.mk 68 ⟨#[]⟩ 0 l) 0 S = .ok S from l1,andR_ok]
 have i1 : inF F 68 l 0=F:=by simp [inF,isFn]
 rw [i1]
 rfl
theorem ptJ_nm (s : ByteArray) (p it : Int) : ptJ (nmT s) p it=[]:=by
 have d1 : dclN (nmT s)=⟨#[]⟩:=by simp [nmT,dclN,isDecl]
 unfold ptJ ptop1
 rw [d1,e_nil]
 simp [nmT,Nd.k,dcK]
theorem ptJ_lt {s : ByteArray} (hs : s.toList ≠ []) (n : Int) (p it : Int) : ptJ (ltT s n) p it=[⟨s,40,p,it,!decide (n=0)⟩]:=by
 have d1 : dclN (ltT s n)=s:=by simp [ltT,dclN,isDecl]
 unfold ptJ ptop1
 rw [d1,if_neg hs]
 simp [ltT,Nd.k,dcK,frB,Nd.n]
theorem ok_of_pv {x : Nd} (hf : formP x=5 ∨ formP x=6) {g : List ByteArray} {us : List Us} (h : pv ((ptJL x.ks 1 0).map dc1) [(ptJL x.ks 1 0).map dc1,blN.map bdc] 0 ⟨#[]⟩ false false x 0 ([],[]) = .ok (g,us)) : okX x∧(dRes x).tops=ptJL x.ks 1 0∧(dRes x).uses=us:=by
 rcases pv_res x hf with ⟨g',h1,h2,h3⟩ | ⟨⟨e,h1⟩,_⟩
 ·rw [h] at h1
  injection h1 with h1
  injection h1 with _ h1
  exact ⟨⟨hf,h2⟩,h3,h1.symm⟩
 ·rw [h] at h1;cases h1
theorem presolve_err (x : Nd) (v : Value) (W : World) (hx : LAt W (fun b=>b < W.heap.size) v x.ks) (hz : x.size ≤ 4194304) (tx : x.tx) (he : WEnv W) (hf : formP x=5 ∨ formP x=6) {q : Int × Int} (h : pv ((ptJL x.ks 1 0).map dc1) [(ptJL x.ks 1 0).map dc1,blN.map bdc] 0 ⟨#[]⟩ false false x 0 ([],[]) = .error q) :
 Calls Tryz.prog 7 #[x.v v] W fun e W'=>e = .returned (.tuple #[.agg #[.slice none 0 0,.slice none 0 0],.int .i64 q.1,.int .i64 q.2])∧Below W.heap.size W W':=by
 obtain ⟨mod,hs,_⟩:=form_shape hf
 refine (resolve_ok x v W hx hz tx he hf (shp_wn x hs tx) (fun y hy=>⟨shp_pre (shp_kid hs hy),dcl_size (tx_kid tx hy),fun z hz=>⟨shp_pre (shp_kid (shp_kid hs hy) hz),dcl_size (tx_kid (tx_kid tx hy) hz)⟩⟩)).mono ?_
 rintro e W' ⟨b,h'⟩
 rw [h] at h'
 exact ⟨h'.2,b⟩
set_option maxRecDepth 100000
theorem lat_block {w : World} {b : Nat} {t : TypeId} {S : Nat→Prop} (L : List (Nd × Value)) (h : w.heap[b]?=some (.cells (rowN L).toArray t (0,0))) (hS : S b) (hk : ∀ p ∈ L,LAt w S p.2 p.1.ks) (c : Nat) : LAt w S (.slice (some ⟨b,0,none⟩) (L.map (·.1)).length c) (L.map (·.1)):=by
 refine LAt.row b 0 c (L.map (·.1)) (fun i=>(L[i]?.map (·.2)).getD default) hS (gl h) (fun i hi=>?_) (fun i hi=>?_)
 ·have hi' : i < L.length:=by simpa using hi
  have C:=fun j=>cell_of_row w b j _ _ _ h
  obtain ⟨h0,h1,h2,h3⟩:=rowN_get L i hi'
  refine ⟨?_,?_,?_,?_⟩
  ·rw [Nat.zero_add,C];simpa using h0
  ·rw [Nat.zero_add,C];simpa using h1
  ·rw [Nat.zero_add,C];simpa using h2
  ·rw [Nat.zero_add,C];simpa [hi'] using h3
 ·have hi' : i < L.length:=by simpa using hi
  have:=hk L[i] (List.getElem_mem hi')
  simpa [hi'] using this
def NewT (x : Nd) (W : World) (e : Ending) (W' : World) : Prop:=∃ a c,e = .returned (x.v (.slice a x.ks.length c))∧LAt W' (fun b=>b < W'.heap.size) (.slice a x.ks.length c) x.ks∧Below W.heap.size W W'
theorem name_any (s : ByteArray) (W : World) : Calls Tryz.prog 14 #[.string s] W (NewT (nmT s) W):=by
 go_enter Tryz.func14,Tryz.ntmps14
 go_wp2
 refine bodyPost_ret (res_nd Tryz.results14 (hold _ (by simp) (hnew _ rfl)) rfl) rfl ⟨_,1,rfl,?_,bel2 _ _ _⟩
 exact lat_block [(.mk 6 s 0 [],.slice none 0 0)] (hnew _ (by simp)) (by simp) (fun p hp=>by simp at hp;subst hp;exact .nil _ _) 1
theorem let_any (s : ByteArray) (n : Int) (W : World) : Calls Tryz.prog 15 #[.string s,.int .i64 n] W (NewT (ltT s n) W):=by
 go_enter Tryz.func15,Tryz.ntmps15
 go_wp2
 refine bodyPost_ret (res_nd Tryz.results15 (hold _ (by simp) (hnew _ rfl)) rfl) rfl ⟨_,2,rfl,?_,bel2 _ _ _⟩
 exact lat_block [(.mk 14 ⟨#[]⟩ 0 [],.slice none 0 0),(.mk 1 ⟨#[]⟩ 1 [],.slice none 0 0)] (hnew _ (by simp)) (by simp) (fun p hp=>by simp at hp;rcases hp with rfl | rfl <;> exact .nil _ _) 2
set_option maxHeartbeats 32000000
def tA : ByteArray:=⟨#[97]⟩
def tP : ByteArray:=⟨#[112,114,105,110,116]⟩
def tX : ByteArray:=⟨#[120]⟩
def mA : Nd:=moT [ltT tA 1,nmT tA,nmT tP]
def mX : Nd:=moT [nmT tX]
theorem id_a : idT true tA=true:=by decide
theorem id_p : idT true tP=true:=by decide
theorem id_x : idT true tX=true:=by decide
theorem form_a : formP mA=5:=fits_mod (by
 intro y hy
 simp only [List.mem_cons,List.not_mem_nil,or_false] at hy
 rcases hy with rfl | rfl | rfl
 ·exact fit_lt id_a (.inr rfl)
 ·exact fit_nm id_a
 ·exact fit_nm id_p)
theorem form_x : formP mX=5:=fits_mod (by
 intro y hy
 simp only [List.mem_cons,List.not_mem_nil,or_false] at hy
 subst hy
 exact fit_nm id_x)
theorem a_bytes : tA.toList=[97]:=ByteArray.toList_eq _
theorem p_bytes : tP.toList=[112,114,105,110,116]:=ByteArray.toList_eq _
theorem x_bytes : tX.toList=[120]:=ByteArray.toList_eq _
theorem pt_a : ptJL mA.ks 1 0=[⟨tA,40,1,0,true⟩]:=by
 show ptJL [ltT tA 1,nmT tA,nmT tP] 1 0=_
 rw [ptJL,ptJL,ptJL,ptJL,ptJ_nm,ptJ_nm,ptJ_lt (by rw [a_bytes];decide)]
 rfl
theorem pt_x : ptJL mX.ks 1 0=[]:=by
 show ptJL [nmT tX] 1 0=_
 rw [ptJL,ptJL,ptJ_nm]
 rfl
theorem res_a : okX mA∧(dRes mA).tops=[⟨tA,40,1,0,true⟩]∧(dRes mA).uses=[⟨5,3,1,tA,false⟩,⟨7,1,0,tP,false⟩]:=by
 have hS : Says [([⟨tA,40,1,0,true⟩] : List Tp).map dc1,blN.map bdc] [⟨tA,40,1,0,true⟩] []:=says_dc _ blt_bl
 have u1 : useV [⟨tA,40,1,0,true⟩] [] tA 5=some (⟨5,3,1,tA,false⟩,false):=by simp [useV,locS,topS,eqT]
 have u2 : useV [⟨tA,40,1,0,true⟩] [] tP 7=some (⟨7,1,0,tP,false⟩,false):=by simp [useV,locS,topS,eqT,bltB,a_bytes,p_bytes]
 have f1 : ((fnd1 ((([⟨tA,40,1,0,true⟩] : List Tp).map dc1)) tA).map (·.at_)).getD 0=1:=by simp [fnd1,dc1,eqT]
 obtain ⟨g,h⟩ : ∃ g,pv ((ptJL mA.ks 1 0).map dc1) [(ptJL mA.ks 1 0).map dc1,blN.map bdc] 0 ⟨#[]⟩ false false mA 0 ([],[]) = .ok (g,[⟨5,3,1,tA,false⟩,⟨7,1,0,tP,false⟩]):=by
  refine ⟨[],?_⟩
  rw [pt_a]
  show pv _ _ _ _ _ _ (moT _) 0 _=_
  rw [pv_mo,pvs_cons,pv_lt,if_neg (fun w=>w.2 f1),andR_ok,pvs_cons,pv_nm,lt_size,nm_size,show (1 : Int)+(3 : Nat)+1=5 from rfl,((use_says hS (.inl rfl) tA 5 ([],[])).1 _ u1).1,andR_ok,pvs_cons,pv_nm,show (1 : Int)+(3 : Nat)+(2 : Nat)+1=7 from rfl,((use_says hS (.inl rfl) tP 7 _).1 _ u2).1,andR_ok,pvs]
  rfl
 obtain ⟨h1,h2,h3⟩:=ok_of_pv (.inl form_a) h
 exact ⟨h1,h2.trans pt_a,h3⟩
theorem res_x : pv ((ptJL mX.ks 1 0).map dc1) [(ptJL mX.ks 1 0).map dc1,blN.map bdc] 0 ⟨#[]⟩ false false mX 0 ([],[]) = .error (2,91):=by
 have hS : Says [([] : List Tp).map dc1,blN.map bdc] [] []:=says_dc _ blt_bl
 have u1 : useV [] [] tX 2=none:=by simp [useV,locS,topS,bltB,x_bytes]
 rw [pt_x]
 show pv _ _ _ _ _ _ (moT _) 0 _=_
 rw [pv_mo,pvs_cons,pv_nm,show (1 : Int)+1=2 from rfl,(use_says hS (.inl rfl) tX 2 _).2 u1]
 rfl
theorem tx_nm {s : ByteArray} (h : s.size ≤ 4194304) : ∀ y ∈ (nmT s).flat,y.t.size ≤ 4194304:=by
 simp only [nmT,Nd.flat_eq,flats_cons,flats_nil,Nd.ks,List.append_nil]
 intro y hy
 simp only [List.mem_cons,List.not_mem_nil,or_false] at hy
 rcases hy with rfl | rfl
 ·exact Nat.zero_le _
 ·exact h
theorem tx_lt {s : ByteArray} {n : Int} (h : s.size ≤ 4194304) : ∀ y ∈ (ltT s n).flat,y.t.size ≤ 4194304:=by
 simp only [ltT,Nd.flat_eq,flats_cons,flats_nil,Nd.ks,List.append_nil,List.cons_append,List.nil_append]
 intro y hy
 simp only [List.mem_cons,List.not_mem_nil,or_false] at hy
 rcases hy with rfl | rfl | rfl
 ·exact h
 ·exact Nat.zero_le _
 ·exact Nat.zero_le _
theorem tx_mo {l : List Nd} (h : ∀ x ∈ l,∀ y ∈ x.flat,y.t.size ≤ 4194304) : (moT l).tx:=by
 intro y hy
 rw [Nd.flat_eq] at hy
 rcases List.mem_cons.1 hy with rfl | hy
 ·exact Nat.zero_le _
 ·have : ∀ l : List Nd,(∀ x ∈ l,∀ y ∈ x.flat,y.t.size ≤ 4194304)→∀ y ∈ flats l,y.t.size ≤ 4194304:=fun l=>by
   induction l with
   | nil=>intro _ y hy;rw [flats_nil] at hy;cases hy
   | cons a r ih =>
    intro h y hy
    rw [flats_cons] at hy
    rcases List.mem_append.1 hy with hy | hy
    ·exact h a (by simp) y hy
    ·exact ih (fun x hx=>h x (by simp [hx])) y hy
  exact this l h y hy
theorem name_ex (s : ByteArray) (W : World) : Calls Tryz.prog 14 #[.string s] W fun e W'=>∃ a c,e = .returned (.agg #[.int .i64 47,.string ⟨#[]⟩,.int .i64 0,.slice a 1 c])∧LAt W' (fun b=>b < W'.heap.size) (.slice a 1 c) (nmT s).ks∧Below W.heap.size W W':=name_any s W
theorem let_ex (s : ByteArray) (n : Int) (W : World) : Calls Tryz.prog 15 #[.string s,.int .i64 n] W fun e W'=>∃ a c,e = .returned (.agg #[.int .i64 40,.string s,.int .i64 n,.slice a 2 c])∧LAt W' (fun b=>b < W'.heap.size) (.slice a 2 c) (ltT s n).ks∧Below W.heap.size W W':=let_any s n W
theorem lat_up {w w' : World} {v : Value} {ks : List Nd} (h : LAt w (fun b=>b < w.heap.size) v ks) (b : Below w.heap.size w w') : LAt w' (fun b=>b < w'.heap.size) v ks:=(h.bel b).mono (fun k hk=>Nat.lt_of_lt_of_le hk b.size)
theorem below_tr {a b c : World} (h : Below a.heap.size a b) (k : Below b.heap.size b c) : Below a.heap.size a c:=h.trans (k.mono h.size)
theorem awakeS_any (W : World) (he : WEnv W) : Calls Tryz.prog 9 #[] W fun e W'=>e = .returned (.bool true)∧Below W.heap.size W W':=by
 have HE : Hid (WEnv W):=he
 have CL:=let_ex tA 1 W
 unfold tA at CL
 clear he
 go_enter Tryz.func9,Tryz.ntmps9
 go_wp2_with fail
 go_at_call 15
 refine CL.mono ?_
 rintro e W1 ⟨a1,c1,rfl,l1,b1⟩
 clear CL
 have L1 : Hid (LAt W1 (fun b=>b < W1.heap.size) (.slice a1 2 c1) (ltT tA 1).ks):=l1
 have B1 : Hid (Below W.heap.size W W1):=b1
 clear l1 b1
 have CN:=name_ex tA W1
 unfold tA at CN
 go_wp2_with fail
 go_at_call 14
 refine CN.mono ?_
 rintro e W2 ⟨a2,c2,rfl,l2,b2⟩
 clear CN
 have L2 : Hid (LAt W2 (fun b=>b < W2.heap.size) (.slice a2 1 c2) (nmT tA).ks):=l2
 have B2 : Hid (Below W1.heap.size W1 W2):=b2
 clear l2 b2
 have CN:=name_ex tP W2
 unfold tP at CN
 go_wp2_with fail
 go_at_call 14
 refine CN.mono ?_
 rintro e W3 ⟨a3,c3,rfl,l3,b3⟩
 clear CN
 obtain ⟨W4,hW4⟩ : ∃ X,(W3.alloc (Obj.cells #[.int .i64 40,.string ⟨#[97]⟩,.int .i64 1,.slice a1 2 c1,.int .i64 47,.string ⟨#[]⟩,.int .i64 0,.slice a2 1 c2,.int .i64 47,.string ⟨#[]⟩,.int .i64 0,.slice a3 1 c3] 24)).alloc (Obj.cells #[.int .i64 68,.string ⟨#[]⟩,.int .i64 0,.slice (some ⟨W3.heap.size,0,none⟩) 3 3] 24)=X:=⟨_,rfl⟩
 have b4 : Below W3.heap.size W3 W4:=by rw [← hW4];exact bel2 _ _ _
 have m3 : W4.heap[W3.heap.size]?=some (Obj.cells #[.int .i64 40,.string ⟨#[97]⟩,.int .i64 1,.slice a1 2 c1,.int .i64 47,.string ⟨#[]⟩,.int .i64 0,.slice a2 1 c2,.int .i64 47,.string ⟨#[]⟩,.int .i64 0,.slice a3 1 c3] 24 (0,0)):=by rw [← hW4];exact hold _ (by simp) (hnew _ rfl)
 have m4 : W4.heap[W3.heap.size+1]?=some (Obj.cells #[.int .i64 68,.string ⟨#[]⟩,.int .i64 0,.slice (some ⟨W3.heap.size,0,none⟩) 3 3] 24 (0,0)):=by rw [← hW4];exact hnew _ (by simp)
 have b34 : Below W2.heap.size W2 W4:=below_tr b3 b4
 have b24 : Below W1.heap.size W1 W4:=below_tr B2.out b34
 have b04 : Below W.heap.size W W4:=below_tr B1.out b24
 have l4 : LAt W4 (fun b=>b < W4.heap.size) (.slice (some ⟨W3.heap.size,0,none⟩) mA.ks.length 3) mA.ks:=by
  refine lat_block [(ltT tA 1,.slice a1 2 c1),(nmT tA,.slice a2 1 c2),(nmT tP,.slice a3 1 c3)] m3 (Array.getElem?_eq_some_iff.1 m3).1 (fun p hp=>?_) 3
  simp only [List.mem_cons,List.not_mem_nil,or_false] at hp
  rcases hp with rfl | rfl | rfl
  ·exact lat_up L1.out b24
  ·exact lat_up L2.out b34
  ·exact lat_up l3 b4
 have CR:=presolve_any mA _ W4 l4 (by rw [mA,mo_size];simp [sizes_cons,sizes_nil,lt_size,nm_size]) (tx_mo (by
  intro x hx
  simp only [List.mem_cons,List.not_mem_nil,or_false] at hx
  rcases hx with rfl | rfl | rfl
  ·exact tx_lt (by decide)
  ·exact tx_nm (by decide)
  ·exact tx_nm (by decide))) (HE.out.bel b04)
 change Calls _ _ #[.agg #[.int .i64 68,.string ⟨#[]⟩,.int .i64 0,.slice (some ⟨W3.heap.size,0,none⟩) 3 3]] W4 _ at CR
 obtain ⟨⟨n0,n1,n2,n3⟩,_⟩:=box4 m4
 have B4 : Hid (Below W.heap.size W W4):=b04
 clear l3 b3 b4 m3 m4 b34 b24 b04 l4 L1 L2 B1 B2
 go_wp2_with fail
 go_at_call 7
 refine CR.mono ?_
 rintro e W5 ⟨b5,han⟩
 obtain ⟨hok,htp,hus⟩:=res_a
 rcases han with ⟨_,vt,vu,rfl,rt,ru⟩ | ⟨h,_⟩
 case inr=>exact absurd hok h
 rw [htp] at rt
 rw [hus] at ru
 obtain ⟨gt,ct,rfl,t0,t1,t2,t3,t4⟩:=tp_at rt (k:=0) (by decide)
 obtain ⟨gu,cu,rfl,u0,u1,u2,u3,u4⟩:=us_at ru (k:=0) (by decide)
 obtain ⟨gu',cu',eu,w0,w1,w2,w3,w4⟩:=us_at ru (k:=1) (by decide)
 injection eu with eu _ eu2
 injection eu with eu
 injection eu with eu
 subst eu eu2
 clear CR hW4 n0 n1 n2 n3 hok htp hus
 have B5 : Hid (Below W.heap.size W W5):=below_tr B4.out b5
 obtain ⟨W6,hW6⟩ : ∃ X,W5.alloc (Obj.cells #[.slice (some ⟨gt,0,none⟩) 1 ct,.slice (some ⟨gu,0,none⟩) 2 cu] 28)=X:=⟨_,rfl⟩
 have b6 : Below W5.heap.size W5 W6:=by rw [← hW6];exact bel_a _ _
 have m6 : W6.heap[W5.heap.size]?=some (Obj.cells #[.slice (some ⟨gt,0,none⟩) 1 ct,.slice (some ⟨gu,0,none⟩) 2 cu] 28 (0,0)):=by rw [← hW6];exact hnew _ rfl
 have lt1 : gt < W5.heap.size:=World.block_lt_of_cell? W5 _ t0
 have lt2 : gu < W5.heap.size:=World.block_lt_of_cell? W5 _ u0
 have HC : Hid (∀ X,Below W6.heap.size W6 X→(X.cell? ⟨gt,0,none⟩=some (.string tA)∧X.cell? ⟨gt,1,none⟩=some (.int .i64 40)∧X.cell? ⟨gt,2,none⟩=some (.int .i64 1)∧X.cell? ⟨gt,3,none⟩=some (.int .i64 0)∧X.cell? ⟨gt,4,none⟩=some (.bool true))∧X.cell? ⟨gu,1,none⟩=some (.int .i64 3)∧X.cell? ⟨gu,6,none⟩=some (.int .i64 1)∧X.cell? ⟨W5.heap.size,0,none⟩=some (.slice (some ⟨gt,0,none⟩) 1 ct)∧X.cell? ⟨W5.heap.size,1,none⟩=some (.slice (some ⟨gu,0,none⟩) 2 cu)):=fun X b=>by
  have bt : X.heap[gt]?=W5.heap[gt]?:=(b.block _ (Nat.lt_of_lt_of_le lt1 b6.size)).trans (b6.block _ lt1)
  have bu : X.heap[gu]?=W5.heap[gu]?:=(b.block _ (Nat.lt_of_lt_of_le lt2 b6.size)).trans (b6.block _ lt2)
  have bs : X.heap[W5.heap.size]?=_:=(b.block _ (gl m6)).trans m6
  have ct:=fun i v (h : W5.cell? ⟨gt,i,none⟩=some v)=>(World.cell?_of_block (a:=⟨gt,i,none⟩) bt).trans h
  have cu:=fun i v (h : W5.cell? ⟨gu,i,none⟩=some v)=>(World.cell?_of_block (a:=⟨gu,i,none⟩) bu).trans h
  exact ⟨⟨ct _ _ t0,ct _ _ t1,ct _ _ t2,ct _ _ t3,ct _ _ t4⟩,cu _ _ u1,cu _ _ w1,by simp [World.cell?,bs],by simp [World.cell?,bs]⟩
 have B6 : Hid (Below W.heap.size W W6):=below_tr B5.out b6
 clear rt ru t0 t1 t2 t3 t4 u0 u1 u2 u3 u4 w0 w1 w2 w3 w4 lt1 lt2 b5 b6 m6 B4 B5
 have CN:=name_ex tX W6
 unfold tX at CN
 change Calls _ _ #[.string ⟨#[120]⟩] W6 _ at CN
 go_wp2_with fail
 go_at_call 14
 refine CN.mono ?_
 rintro e W7 ⟨a7,c7,rfl,l7,b7⟩
 clear CN hW6
 obtain ⟨W8,hW8⟩ : ∃ X,W7.alloc (Obj.cells #[.int .i64 47,.string ⟨#[]⟩,.int .i64 0,.slice a7 1 c7] 24)=X:=⟨_,rfl⟩
 have b8 : Below W7.heap.size W7 W8:=by rw [← hW8];exact bel_a _ _
 have m8 : W8.heap[W7.heap.size]?=some (Obj.cells #[.int .i64 47,.string ⟨#[]⟩,.int .i64 0,.slice a7 1 c7] 24 (0,0)):=by rw [← hW8];exact hnew _ rfl
 have b68 : Below W6.heap.size W6 W8:=below_tr b7 b8
 have l8 : LAt W8 (fun b=>b < W8.heap.size) (.slice (some ⟨W7.heap.size,0,none⟩) mX.ks.length 1) mX.ks:=by
  refine lat_block [(nmT tX,.slice a7 1 c7)] m8 (Array.getElem?_eq_some_iff.1 m8).1 (fun p hp=>?_) 1
  simp only [List.mem_cons,List.not_mem_nil,or_false] at hp
  subst hp
  exact lat_up l7 b8
 have CX:=presolve_err mX _ W8 l8 (by rw [mX,mo_size];simp [sizes_cons,sizes_nil,nm_size]) (tx_mo (by
  intro x hx
  simp only [List.mem_cons,List.not_mem_nil,or_false] at hx
  subst hx
  exact tx_nm (by decide))) (HE.out.bel (below_tr B6.out b68)) (.inl form_x) res_x
 change Calls _ _ #[.agg #[.int .i64 68,.string ⟨#[]⟩,.int .i64 0,.slice (some ⟨W7.heap.size,0,none⟩) 1 1]] W8 _ at CX
 have B8 : Hid (Below W6.heap.size W6 W8):=b68
 clear l7 b7 b8 m8 b68 l8
 go_wp2_with fail
 go_at_call 7
 refine CX.mono ?_
 rintro e W9 ⟨rfl,b9⟩
 clear CX hW8
 have B9 : Hid (Below W6.heap.size W6 (W9.alloc (Obj.cells #[.slice none 0 0,.slice none 0 0] 28))):=below_tr (below_tr B8.out b9) (bel_a _ _)
 have CB:=builtins_any (W9.alloc (Obj.cells #[.slice none 0 0,.slice none 0 0] 28))
 clear b9 B8
 go_wp2_with fail
 go_at_call 16
 refine CB.mono ?_
 rintro e Wa ⟨rfl,mb,ba⟩
 clear CB
 obtain ⟨⟨t0,t1,t2,t3,t4⟩,u1,w1,s0,s1⟩:=HC.out Wa (below_tr B9.out ba)
 have k1 : Wa.cell? ⟨W9.heap.size+1,1,none⟩=some (.string tP):=by
  have mb' : Wa.heap[W9.heap.size+1]?=some blO:=by simpa using mb
  rw [blO] at mb'
  simp [World.cell?,mb',tP]
 have BA : Hid (Below W.heap.size W Wa):=below_tr B6.out (below_tr B9.out ba)
 unfold tA at t0
 unfold tP at k1
 clear HC B9 B6 ba mb HE
 go_wp2
 go_ret
 exact ⟨rfl,BA.out⟩
theorem ok_us {x : Nd} (h : okX x) : (dRes x).tops=ptL x.ks 1 0∧usL (ptL x.ks 1 0) [] false false x.ks 1=some (dRes x).uses∧freshB [] ((ptL x.ks 1 0).map (·.nm))=true:=by
 obtain ⟨hf,her⟩:=h
 obtain ⟨hk,hit⟩:=form_items hf
 obtain ⟨e1,e2⟩:=items_tops x.ks 1 0 hit
 have hT:=dtops_td x.ks 1 0 dw0
 rw [← e1,← e2] at hT
 have hD:=dkids_did x.ks 1 (dtops x.ks 1 0 dw0)
 have hne : (dtops x.ks 1 0 dw0).er=0:=by
  refine Classical.byContradiction fun w=>hD.er w her
 have hc : freshB [] ((ptL x.ks 1 0).map (·.nm))=true∧freshB [] (x.ks.flatMap gvI)=true:=by
  refine Classical.byContradiction fun w=>hT.no ?_ hne
  cases q1 : freshB [] ((ptL x.ks 1 0).map (·.nm)) with
  | false=>exact .inl q1
  | true =>
   cases q2 : freshB [] (x.ks.flatMap gvI) with
   | false=>exact .inr q2
   | true=>exact absurd ⟨q1,q2⟩ w
 have hw:=hT.ok hc.1 hc.2
 unfold dRes at her ⊢
 rw [hw] at hD her ⊢
 have hD : Did _ _ (usL (ptL x.ks 1 0) [] false false x.ks 1):=hD
 cases q : usL (ptL x.ks 1 0) [] false false x.ks 1 with
 | none=>rw [q] at hD;exact absurd her hD.2
 | some us =>
  rw [q] at hD
  have hD : dkids x.ks 1 _=_:=hD
  rw [hD]
  exact ⟨rfl,rfl,hc.1⟩
theorem dtops_ul : ∀ (l : List Nd) (p it : Int) (w : Dw),(dtops l p it w).uses=w.uses∧(dtops l p it w).tops.length ≤ w.tops.length+sizes l
 | [],p,it,w=>by rw [dtops];exact ⟨rfl,by omega⟩
 | y :: l,p,it,w=>by
  rw [dtops,sizes_cons]
  obtain ⟨h1,h2⟩:=dtops_ul l (p+y.size) (it+1) (dtop y p it w)
  have h3:=(dtop_ul y p it w).1
  have h4:=(dtop_len y p it w).1
  exact ⟨h1.trans h3,by omega⟩
theorem res_len (x : Nd) : (dRes x).uses.length ≤ x.size∧(dRes x).tops.length ≤ x.size:=by
 have h1:=dks_len x.ks 1 (dtops x.ks 1 0 dw0)
 obtain ⟨h2,h3⟩:=dtops_ul x.ks 1 0 dw0
 have h4:=(dks_fr x.ks 1 (dtops x.ks 1 0 dw0)).1
 have h5:=x.size_eq
 rw [h2] at h1
 have h1 : (dRes x).uses.length ≤ 0+sizes x.ks:=h1
 have h3 : (dtops x.ks 1 0 dw0).tops.length ≤ 0+sizes x.ks:=h3
 unfold dRes at h1 ⊢
 rw [h4]
 omega
end Go.Proofs.YtfcocoadaajbjaaGreatDoor
