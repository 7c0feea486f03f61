/- Own text. Which trees are statements: the document's answer,all kinds. Which trees are types,parameters: the document's way of saying it and ours are one. Which trees are types: the document's answer,names and functions;bodies. Which trees are types: the document's answer,unions and objects;lists of names that grow. -/
import Derived.Test.YtfcocoadaajbjaaGreatDoorGd36
import Derived.Test.YtfcocoadaajbjaaGreatDoorGd35
set_option linter.unusedVariables false
set_option linter.unusedSimpArgs false
set_option maxRecDepth 100000
set_option maxHeartbeats 8000000
namespace Go.Proofs.YtfcocoadaajbjaaGreatDoor
open Go.RowKit
theorem whole14 {y : Nd} (h : y.k=14) : wholeP false y=noB y:=by
 unfold wholeP folP
 rw [h,show ruleK 14=some ⟨0,0,[],0⟩ from rfl]
 show (_ && agreesP false y)=_
 rw [show agreesP false y=true by unfold agreesP;rw [h];rfl,Bool.and_true]
 show (hdB false y.t y.n y.ks.length ⟨0,0,[],0⟩ && fitsL false [] 0 y.ks)=_
 rw [hd0,plainT_eq,fitsN]
 unfold noB
 rw [h]
 simp
theorem orNone (y : Nd) (b : Bool) (hb : y.k=14→b=false) : ((b || (y.k == 14)) && wholeP false y)=(noB y || (b && wholeP false y)):=by
 by_cases h : y.k=14
 ·rw [hb h,whole14 h,h]
  simp
 ·have e2 : (y.k == 14)=false:=by simpa using h
  have e : noB y=false:=by unfold noB;rw [e2];rfl
  rw [e,e2]
  simp
theorem fits102 (y : Nd) : fitsP false 102 y=(noB y || exB y):=by
 rw [fitsP_eq,if_neg (by omega)]
 exact orNone y (formK y.k == 1) (fun h=>by rw [h];rfl)
theorem fits106 (y : Nd) : fitsP false 106 y=toB y:=by
 rw [fitsP_eq,if_neg (by omega)]
 exact orNone y (formK y.k == 2) (fun h=>by rw [h];rfl)
theorem blB_eq (y : Nd) : blB y=((y.k == 52) && wholeP false y):=by
 unfold blB stB
 by_cases h : y.k=52
 ·rw [h]
  rfl
 ·have e2 : (y.k == 52)=false:=by simpa using h
  rw [e2]
  rfl
theorem fits52 (y : Nd) : fitsP false 52 y=blB y:=by
 rw [fitsP_eq,if_neg (by omega),blB_eq]
 show (((52 : Int) == y.k) && _)=_
 rw [show ((52 : Int) == y.k)=(y.k == 52) by rw [Bool.eq_iff_iff];simp;exact eq_comm]
theorem fits108 (y : Nd) : fitsP false 108 y=(noB y || blB y):=by
 rw [fitsP_eq,if_neg (by omega),blB_eq]
 exact orNone y (y.k == 52) (fun h=>by rw [h];rfl)
theorem fl1 (p : Int) (u : Nd) : (!decide ([u].length < 1) && fitsL false [p] 0 [u])=fitsP false p u:=by
 rw [fitsC,fitsN];simp
theorem fl1_no (p : Int) (l : List Nd) (h : l.length ≠ 1) : (!decide (l.length < 1) && fitsL false [p] 0 l)=false:=by
 rcases l with _ | ⟨a,_ | ⟨b,l⟩⟩
 ·rfl
 ·simp at h
 ·rw [fitsC,fitsN,lenF _ 0 (by simp;omega)];simp
theorem fl2 (p q : Int) (u v : Nd) : (!decide ([u,v].length < 2) && fitsL false [p,q] 0 [u,v])=(fitsP false p u && fitsP false q v):=by
 rw [fitsC,fitsC,fitsN];simp
theorem fl2_no (p q : Int) (l : List Nd) (h : l.length ≠ 2) : (!decide (l.length < 2) && fitsL false [p,q] 0 l)=false:=by
 rcases l with _ | ⟨a,_ | ⟨b,_ | ⟨c,l⟩⟩⟩
 ·rfl
 ·simp
 ·simp at h
 ·rw [fitsC,fitsC,fitsN,lenF _ 0 (by simp;omega)];simp
theorem fl3 (p q r : Int) (u v z : Nd) : (!decide ([u,v,z].length < 3) && fitsL false [p,q,r] 0 [u,v,z])=(fitsP false p u && (fitsP false q v && fitsP false r z)):=by
 rw [fitsC,fitsC,fitsC,fitsN];simp
theorem fl3_no (p q r : Int) (l : List Nd) (h : l.length ≠ 3) : (!decide (l.length < 3) && fitsL false [p,q,r] 0 l)=false:=by
 rcases l with _ | ⟨a,_ | ⟨b,_ | ⟨c,_ | ⟨d,l⟩⟩⟩⟩
 ·rfl
 ·simp
 ·simp
 ·simp at h
 ·rw [fitsC,fitsC,fitsC,fitsN,lenF _ 0 (by simp;omega)];simp
theorem one_of (l : List Nd) (h : l.length=1) : ∃ u,l=[u]:=by
 rcases l with _ | ⟨a,_ | ⟨b,l⟩⟩
 ·simp at h
 ·exact ⟨a,rfl⟩
 ·simp at h
theorem three_of (l : List Nd) (h : l.length=3) : ∃ u v z,l=[u,v,z]:=by
 rcases l with _ | ⟨a,_ | ⟨b,_ | ⟨c,_ | ⟨d,l⟩⟩⟩⟩
 ·simp at h
 ·simp at h
 ·simp at h
 ·exact ⟨a,b,c,rfl⟩
 ·simp at h
theorem hd1 (s : Int) (t : ByteArray) (n : Int) (c : Nat) (ps : List Int) (r : Int) : hdB false t n c ⟨s,1,ps,r⟩=(saysT false s t && ((n == 0) || (n == 1)) && !decide (c < ps.length)):=by
 show (saysT false s t && !decide (n < 0) && !decide (1 < n) && !decide (c < ps.length))=_
 rw [Bool.and_assoc (saysT false s t),show (!decide (n < 0) && !decide (1 < n))=((n == 0) || (n == 1)) by rw [Bool.eq_iff_iff];simp;omega]
theorem stB_eq {y : Nd} {r : Rul} (hk : formK y.k=3) (hr : ruleK y.k=some r) (ha : agreesP false y=true) : stB y=(hdB false y.t y.n y.ks.length r && fitsL false r.ks r.r y.ks):=by
 unfold stB wholeP folP
 rw [hk,hr,ha]
 simp
theorem stB_let {y : Nd} (h : y.k=40) : stB y=(idT false y.t && ((y.n == 0) || (y.n == 1)) && (!decide (y.ks.length < 2) && fitsL false [106,101] 0 y.ks)):=by
 rw [stB_eq (r:=⟨1,1,[106,101],0⟩) (by rw [h];rfl) (by rw [h];rfl) (by unfold agreesP;rw [h];rfl),hd1,Bool.and_assoc]
 rfl
theorem stB_func {y : Nd} (h : y.k=41) : stB y=(idT false y.t && (y.n == 0) && bodyB y.ks):=by
 rw [stB_eq (r:=⟨1,0,[12,106,52],0⟩) (by rw [h];rfl) (by rw [h];rfl) (by unfold agreesP;rw [h];rfl),hd0,Bool.and_assoc]
 rfl
theorem stB_one {y : Nd} (h : y.k=47 ∨ y.k=51) : stB y=(plainT y.t y.n && (!decide (y.ks.length < 1) && fitsL false [101] 0 y.ks)):=by
 have e : stB y=(hdB false y.t y.n y.ks.length ⟨0,0,[101],0⟩ && fitsL false [101] 0 y.ks):=by
  rcases h with h | h <;> exact stB_eq (by rw [h];rfl) (by rw [h];rfl) (by unfold agreesP;rw [h];rfl)
 rw [e,hd0,plainT_eq,Bool.and_assoc]
 rfl
theorem stB_if {y : Nd} (h : y.k=48) : stB y=(plainT y.t y.n && (!decide (y.ks.length < 3) && fitsL false [101,52,108] 0 y.ks)):=by
 rw [stB_eq (r:=⟨0,0,[101,52,108],0⟩) (by rw [h];rfl) (by rw [h];rfl) (by unfold agreesP;rw [h];rfl),hd0,plainT_eq,Bool.and_assoc]
 rfl
theorem stB_while {y : Nd} (h : y.k=49) : stB y=(plainT y.t y.n && (!decide (y.ks.length < 2) && fitsL false [101,52] 0 y.ks)):=by
 rw [stB_eq (r:=⟨0,0,[101,52],0⟩) (by rw [h];rfl) (by rw [h];rfl) (by unfold agreesP;rw [h];rfl),hd0,plainT_eq,Bool.and_assoc]
 rfl
theorem stB_return {y : Nd} (h : y.k=50) : stB y=(plainT y.t y.n && (!decide (y.ks.length < 1) && fitsL false [102] 0 y.ks)):=by
 rw [stB_eq (r:=⟨0,0,[102],0⟩) (by rw [h];rfl) (by rw [h];rfl) (by unfold agreesP;rw [h];rfl),hd0,plainT_eq,Bool.and_assoc]
 rfl
theorem stB_block {y : Nd} (h : y.k=52) : stB y=(y.ks.all stB && plainT y.t y.n):=by
 rw [stB_eq (r:=⟨0,0,[],107⟩) (by rw [h];rfl) (by rw [h];rfl) (by unfold agreesP;rw [h];rfl),hd0,plainT_eq,fitsR 107 stB fits107,Bool.and_comm (y.ks.all stB)]
 simp
theorem form3 {k : Int} (h : formK k=3) : k=40 ∨ k=41 ∨ k=47 ∨ k=48 ∨ k=49 ∨ k=50 ∨ k=51 ∨ k=52:=by
 by_cases e : k=40 ∨ k=41 ∨ k=47 ∨ k=48 ∨ k=49 ∨ k=50 ∨ k=51 ∨ k=52
 ·exact e
 ·exfalso
  unfold formK at h
  rw [if_neg e] at h
  repeat (first | omega | split at h)
theorem kid_kc {w : World} {S : Nat→Prop} {bl o : Nat} {z : Nd} {v : Value} (q : Four w bl o z v) (r : LAt w S v z.ks) (hb : bl < w.heap.size) :
 ∃ za zc,Hid (KC w bl o z.k z.t z.n za z.ks.length zc)∧LAt w S (.slice za z.ks.length zc) z.ks:=by
 obtain ⟨za,zc,rfl⟩:=r.sl
 refine ⟨za,zc,fun W b=>?_,r⟩
 exact q.of_block (b.block bl hb)
theorem kids1 {w : World} {S : Nat→Prop} {a : Option Addr} {c : Nat} {u : Nd} (hx : LAt w S (.slice a 1 c) [u]) :
 ∃ b o,a=some ⟨b,o,none⟩∧∃ za zc,Hid (KC w b o u.k u.t u.n za u.ks.length zc)∧LAt w S (.slice za u.ks.length zc) u.ks:=by
 obtain ⟨ax,cx,bx,ox,fx,e,px,qx,rx⟩:=hx.op
 obtain ⟨rfl,rfl⟩ : a=ax∧c=cx:=by injection e with e1 e2 e3;exact ⟨e1,e3⟩
 obtain ⟨rfl,hS,hb⟩:=px (by simp)
 have q:=qx 0 (by simp)
 have r:=rx 0 (by simp)
 obtain ⟨za,zc,h1,h2⟩:=kid_kc q r hb
 exact ⟨bx,ox,rfl,za,zc,by simpa using h1,by simpa using h2⟩
theorem kids2 {w : World} {S : Nat→Prop} {a : Option Addr} {c : Nat} {u v : Nd} (hx : LAt w S (.slice a 2 c) [u,v]) :
 ∃ b o,a=some ⟨b,o,none⟩∧∃ za zc ya yc,Hid (KC w b (o+0) u.k u.t u.n za u.ks.length zc)∧LAt w S (.slice za u.ks.length zc) u.ks∧Hid (KC w b (o+4) v.k v.t v.n ya v.ks.length yc)∧LAt w S (.slice ya v.ks.length yc) v.ks:=by
 obtain ⟨ax,cx,bx,ox,fx,e,px,qx,rx⟩:=hx.op
 obtain ⟨rfl,rfl⟩ : a=ax∧c=cx:=by injection e with e1 e2 e3;exact ⟨e1,e3⟩
 obtain ⟨rfl,hS,hb⟩:=px (by simp)
 obtain ⟨za,zc,h1,h2⟩:=kid_kc (qx 0 (by simp)) (rx 0 (by simp)) hb
 obtain ⟨ya,yc,h3,h4⟩:=kid_kc (qx 1 (by simp)) (rx 1 (by simp)) hb
 exact ⟨bx,ox,rfl,za,zc,ya,yc,by simpa using h1,by simpa using h2,by simpa using h3,by simpa using h4⟩
theorem kids3 {w : World} {S : Nat→Prop} {a : Option Addr} {c : Nat} {u v x : Nd} (hx : LAt w S (.slice a 3 c) [u,v,x]) :
 ∃ b o,a=some ⟨b,o,none⟩∧∃ za zc ya yc xa xc,Hid (KC w b (o+0) u.k u.t u.n za u.ks.length zc)∧LAt w S (.slice za u.ks.length zc) u.ks∧Hid (KC w b (o+4) v.k v.t v.n ya v.ks.length yc)∧LAt w S (.slice ya v.ks.length yc) v.ks∧Hid (KC w b (o+8) x.k x.t x.n xa x.ks.length xc)∧LAt w S (.slice xa x.ks.length xc) x.ks:=by
 obtain ⟨ax,cx,bx,ox,fx,e,px,qx,rx⟩:=hx.op
 obtain ⟨rfl,rfl⟩ : a=ax∧c=cx:=by injection e with e1 e2 e3;exact ⟨e1,e3⟩
 obtain ⟨rfl,hS,hb⟩:=px (by simp)
 obtain ⟨za,zc,h1,h2⟩:=kid_kc (qx 0 (by simp)) (rx 0 (by simp)) hb
 obtain ⟨ya,yc,h3,h4⟩:=kid_kc (qx 1 (by simp)) (rx 1 (by simp)) hb
 obtain ⟨xa,xc,h5,h6⟩:=kid_kc (qx 2 (by simp)) (rx 2 (by simp)) hb
 exact ⟨bx,ox,rfl,za,zc,ya,yc,xa,xc,by simpa using h1,by simpa using h2,by simpa using h3,by simpa using h4,by simpa using h5,by simpa using h6⟩
section
variable {w : World} {S : Nat→Prop} {z : Nd} {za : Option Addr} {zc : Nat}
theorem q_ex (h : EC z) (hx : LAt w S (.slice za z.ks.length zc) z.ks) : Hid (QC 38 w (nv z.k z.t z.n za z.ks.length zc) (exB z)):=fun W b=>h W S za zc (hx.bel b)
theorem q_ty (h : TC z) (hx : LAt w S (.slice za z.ks.length zc) z.ks) : Hid (QC 39 w (nv z.k z.t z.n za z.ks.length zc) (tyB z)):=fun W b=>h W S za zc (hx.bel b)
theorem q_to (h : TC z) (hx : LAt w S (.slice za z.ks.length zc) z.ks) : Hid (QC 72 w (nv z.k z.t z.n za z.ks.length zc) (toB z)):=fun W b=>typeOr_any z h W S za zc (hx.bel b)
theorem q_bl (h : SC z) (hx : LAt w S (.slice za z.ks.length zc) z.ks) : Hid (QC 73 w (nv z.k z.t z.n za z.ks.length zc) (blB z)):=fun W b=>block_anyG z h W S za zc (hx.bel b)
theorem q_no : Hid (QC 74 w (nv z.k z.t z.n za z.ks.length zc) (noB z)):=fun W b=>none' z.k z.t z.n za z.ks.length zc W
end
theorem q_plain (w : World) (k : Int) (t : ByteArray) (n : Int) (a : Option Addr) (len c : Nat) : Hid (QC 42 w (nv k t n a len c) (plainT t n)):=fun W b=>plain' k t n a len c W
theorem q_bare (w : World) (k : Int) (t : ByteArray) (n : Int) (a : Option Addr) (len c : Nat) : Hid (QC 65 w (nv k t n a len c) ((len : Int) == 0)):=fun W b=>bare' k t n a len c W
theorem q_id (w : World) (t : ByteArray) (ht : t.size ≤ 4194304) : Hid (QC 13 w (.string t) (idT false t)):=fun W b=>rid_any t W ht
theorem q_prop (w : World) (t : ByteArray) (ht : t.size ≤ 4194304) : Hid (QC 68 w (.string t) (propT false t.data.toList)):=fun W b=>rprop_any t W ht
theorem sc_step (y : Nd) (zy : y.size ≤ 4194304) (ty : y.tx) (hE : ∀ z ∈ y.ks,EC z) (hT : ∀ z ∈ y.ks,TC z) (hS : ∀ z ∈ y.ks,SC z)
 (hB : ∀ (w : World) (S : Nat→Prop) (a : Option Addr) (c : Nat),LAt w S (.slice a y.ks.length c) y.ks→BC w (.slice a y.ks.length c) (bodyB y.ks)) : SC y:=by
 intro w S a c hx
 have zs:=y.size_eq
 have lx:=sizes_len y.ks
 have ll : y.ks.length ≤ 4194304:=by omega
 have tt : y.t.size ≤ 4194304:=Nd.tx_own ty
 by_cases hf : formK y.k=3
 ·rcases form3 hf with h | h | h | h | h | h | h | h
  ·rw [stB_let h,h]
   by_cases h2 : y.ks.length=2
   ·obtain ⟨u,v,huv⟩:=two_of y.ks h2
    rw [huv] at hx hE hT hS ⊢
    obtain ⟨b,o,rfl,za,zc,ya,yc,k1,l1,k2,l2⟩:=kids2 hx
    rw [fl2,fits106,fits101,← Bool.and_assoc]
    exact st_let _ _ b o c w _ _ _ _ _ _ k1 _ _ _ _ _ _ k2 _ (q_id w _ tt) _ (q_to (hT u (by simp)) l1) _ (q_ex (hE v (by simp)) l2)
   ·rw [fl2_no _ _ _ h2,Bool.and_false]
    exact st_let0 _ _ _ _ _ _ _ (q_id w _ tt) (lenF _ 2 (by omega))
  ·rw [stB_func h,h]
   exact st_func _ _ _ _ _ _ _ (q_id w _ tt) _ (hB w S a c hx)
  ·rw [stB_one (.inl h),h]
   by_cases h2 : y.ks.length=1
   ·obtain ⟨u,huv⟩:=one_of y.ks h2
    rw [huv] at hx hE hT hS ⊢
    obtain ⟨b,o,rfl,za,zc,k1,l1⟩:=kids1 hx
    rw [fl1,fits101]
    exact st_expr_1 _ _ b o c w _ _ _ _ _ _ _ k1 (q_ex (hE u (by simp)) l1)
   ·rw [fl1_no _ _ h2,Bool.and_false]
    exact st_expr_0 _ _ _ _ _ _ (lenF _ 1 (by omega))
  ·rw [stB_if h,h]
   by_cases h2 : y.ks.length=3
   ·obtain ⟨u,v,x,huv⟩:=three_of y.ks h2
    rw [huv] at hx hE hT hS ⊢
    obtain ⟨b,o,rfl,za,zc,ya,yc,xa,xc,k1,l1,k2,l2,k3,l3⟩:=kids3 hx
    rw [fl3,fits101,fits52,fits108,← Bool.and_assoc,← Bool.and_assoc]
    exact st_if _ _ b o c w _ _ _ _ _ _ k1 _ _ _ _ _ _ k2 _ _ _ _ _ _ k3 _ (q_plain w _ _ _ _ _ _) _ (q_ex (hE u (by simp)) l1) _ (q_bl (hS v (by simp)) l2) _ q_no _ (q_bl (hS x (by simp)) l3)
   ·rw [fl3_no _ _ _ _ h2,Bool.and_false]
    exact st_if0 _ _ _ _ _ _ _ (q_plain w _ _ _ _ _ _) (lenF _ 3 (by omega))
  ·rw [stB_while h,h]
   by_cases h2 : y.ks.length=2
   ·obtain ⟨u,v,huv⟩:=two_of y.ks h2
    rw [huv] at hx hE hT hS ⊢
    obtain ⟨b,o,rfl,za,zc,ya,yc,k1,l1,k2,l2⟩:=kids2 hx
    rw [fl2,fits101,fits52,← Bool.and_assoc]
    exact st_while _ _ b o c w _ _ _ _ _ _ k1 _ _ _ _ _ _ k2 _ (q_plain w _ _ _ _ _ _) _ (q_ex (hE u (by simp)) l1) _ (q_bl (hS v (by simp)) l2)
   ·rw [fl2_no _ _ _ h2,Bool.and_false]
    exact st_while0 _ _ _ _ _ _ _ (q_plain w _ _ _ _ _ _) (lenF _ 2 (by omega))
  ·rw [stB_return h,h]
   by_cases h2 : y.ks.length=1
   ·obtain ⟨u,huv⟩:=one_of y.ks h2
    rw [huv] at hx hE hT hS ⊢
    obtain ⟨b,o,rfl,za,zc,k1,l1⟩:=kids1 hx
    rw [fl1,fits102]
    exact st_return_1 _ _ b o c w _ _ _ _ _ _ _ k1 (q_ex (hE u (by simp)) l1)
   ·rw [fl1_no _ _ h2,Bool.and_false]
    exact st_return_0 _ _ _ _ _ _ (lenF _ 1 (by omega))
  ·rw [stB_one (.inr h),h]
   by_cases h2 : y.ks.length=1
   ·obtain ⟨u,huv⟩:=one_of y.ks h2
    rw [huv] at hx hE hT hS ⊢
    obtain ⟨b,o,rfl,za,zc,k1,l1⟩:=kids1 hx
    rw [fl1,fits101]
    exact st_throw_1 _ _ b o c w _ _ _ _ _ _ _ k1 (q_ex (hE u (by simp)) l1)
   ·rw [fl1_no _ _ h2,Bool.and_false]
    exact st_throw_0 _ _ _ _ _ _ (lenF _ 1 (by omega))
  ·rw [stB_block h,h]
   exact st_block _ _ _ hS ll _ _ _ S hx
 ·have e : stB y=false:=by unfold stB;simp [hf]
  rw [e]
  exact st_none _ hf _ _ _ _ _ _
end Go.Proofs.YtfcocoadaajbjaaGreatDoor
namespace Go.Proofs.YtfcocoadaajbjaaGreatDoor
open Go.RowKit
theorem tyB_eq {y : Nd} {r : Rul} (hk : formK y.k=2) (hr : ruleK y.k=some r) : tyB y=(hdB false y.t y.n y.ks.length r && fitsL false r.ks r.r y.ks && agreesP false y):=by
 unfold tyB wholeP folP
 rw [hk,hr]
 rfl
theorem tyB_name {y : Nd} (h : y.k=30) : tyB y=((y.n == 0) && ((y.ks.length : Int) == 0) && (idT false y.t || (y.t.toList == [110,117,108,108]) || (y.t.toList == [117,110,100,101,102,105,110,101,100]))):=by
 rw [tyB_eq (r:=⟨5,0,[],0⟩) (by rw [h];rfl) (by rw [h];rfl),show agreesP false y=true by unfold agreesP;rw [h];rfl,Bool.and_true,hd0,fitsN]
 show ((idT false y.t || _ || _) && (y.n == 0) && !decide (y.ks.length < 0) && _)=_
 generalize (idT false y.t || (y.t.toList == [110,117,108,108]) || (y.t.toList == [117,110,100,101,102,105,110,101,100]))=q
 cases q <;> simp
theorem tyB_array {y : Nd} (h : y.k=31) : tyB y=(plainT y.t y.n && (!decide (y.ks.length < 1) && fitsL false [104] 0 y.ks)):=by
 rw [tyB_eq (r:=⟨0,0,[104],0⟩) (by rw [h];rfl) (by rw [h];rfl),show agreesP false y=true by unfold agreesP;rw [h];rfl,Bool.and_true,hd0,plainT_eq,Bool.and_assoc]
 rfl
theorem fits105 (y : Nd) : fitsP false 105 y=unB y:=by
 rw [fitsP_eq,if_neg (by omega)]
 show (((formK y.k == 2) && (y.k != 32)) && wholeP false y)=(((formK y.k == 2) && wholeP false y) && (y.k != 32))
 generalize (formK y.k == 2)=a
 generalize (y.k != 32)=b
 generalize wholeP false y=c
 cases a <;> cases b <;> cases c <;> rfl
theorem fitsU (l : List Nd) : fitsL false [105,105] 105 l=l.all unB:=by
 rcases l with _ | ⟨a,_ | ⟨b,l⟩⟩
 ·rw [fitsL_nil];rfl
 ·rw [fitsC,fits105,fitsL_nil];simp
 ·rw [fitsC,fits105,fitsC,fits105,fitsR 105 unB fits105];simp
theorem tyB_union {y : Nd} (h : y.k=32) : tyB y=(y.ks.all unB && plainT y.t y.n && decide (2 ≤ (y.ks.length : Int))):=by
 rw [tyB_eq (r:=⟨0,0,[105,105],105⟩) (by rw [h];rfl) (by rw [h];rfl),show agreesP false y=true by unfold agreesP;rw [h];rfl,Bool.and_true,hd0,plainT_eq]
 show (plainT y.t y.n && !decide (y.ks.length < 2) && fitsL false [105,105] 105 y.ks)=_
 rw [fitsU,show (!decide (y.ks.length < 2))=decide (2 ≤ (y.ks.length : Int)) by rw [Bool.eq_iff_iff];simp;omega]
 generalize y.ks.all unB=a
 generalize plainT y.t y.n=b
 generalize decide (2 ≤ (y.ks.length : Int))=c
 cases a <;> cases b <;> cases c <;> rfl
theorem whole_at {y : Nd} {k : Int} {r : Rul} (h : y.k=k) (hr : ruleK k=some r) : wholeP false y=(hdB false y.t y.n y.ks.length r && fitsL false r.ks r.r y.ks && agreesP false y):=by
 unfold wholeP folP
 rw [h,hr]
theorem fits_kind (k : Int) (h1 : ¬ (101 ≤ k∧k ≤ 114)) (y : Nd) : fitsP false k y=((y.k == k) && wholeP false y):=by
 rw [fitsP_eq,if_neg (by omega)]
 have e : standsK k y.k=(k == y.k):=by
  unfold standsK
  rw [if_neg (by omega),if_neg (by omega),if_neg (by omega),if_neg (by omega),if_neg (by omega),if_neg (by omega),if_neg (by omega),if_neg (by omega),if_neg (by omega),if_neg (by omega),if_neg (by omega),if_neg (by omega),if_neg (by omega),if_neg (by omega)]
 rw [e,show (k == y.k)=(y.k == k) by rw [Bool.eq_iff_iff];simp;exact eq_comm]
theorem l1_all (p : Int) (f : Nd→Bool) (h : ∀ y,fitsP false p y=f y) (l : List Nd) : (!decide (l.length < 1) && fitsL false [p] 0 l)=(((l.length : Int) == 1) && l.all f):=by
 rcases l with _ | ⟨a,_ | ⟨b,l⟩⟩
 ·rfl
 ·rw [fl1,h];simp
 ·rw [fl1_no _ _ (by simp),lenF _ 1 (by simp;omega)];simp
theorem fits34 (y : Nd) : fitsP false 34 y=opB y:=by
 rw [fits_kind 34 (by omega)]
 unfold opB
 by_cases h : y.k=34
 ·rw [whole_at (r:=⟨2,0,[104],0⟩) h rfl,show agreesP false y=true by unfold agreesP;rw [h];rfl,Bool.and_true,hd0,Bool.and_assoc]
  rw [show (!decide (y.ks.length < [(104 : Int)].length) && fitsL false [104] 0 y.ks)=_ from l1_all 104 tyB fits104 _]
  show (_ && (propT false y.t.data.toList && (y.n == 0) && _))=_
  generalize propT false y.t.data.toList=a
  generalize (y.n == 0)=b
  cases a <;> cases b <;> simp [h]
 ·rw [show (y.k == 34)=false by simpa using h]
  rfl
theorem tyB_object {y : Nd} (h : y.k=33) : tyB y=(y.ks.all opB && unlikeB y.ks && plainT y.t y.n):=by
 rw [tyB_eq (r:=⟨0,0,[],34⟩) (by rw [h];rfl) (by rw [h];rfl),show agreesP false y=unlikeB y.ks by unfold agreesP;rw [h];rfl,hd0,plainT_eq,fitsR 34 opB fits34]
 generalize y.ks.all opB=a
 generalize plainT y.t y.n=b
 generalize unlikeB y.ks=c
 cases a <;> cases b <;> cases c <;> simp
theorem fits13 (y : Nd) : fitsP false 13 y=pmB false y:=by
 rw [fits_kind 13 (by omega)]
 unfold pmB
 by_cases h : y.k=13
 ·rw [whole_at (r:=⟨1,0,[106],0⟩) h rfl,show agreesP false y=true by unfold agreesP;rw [h];rfl,Bool.and_true,hd0,Bool.and_assoc]
  rw [show (!decide (y.ks.length < [(106 : Int)].length) && fitsL false [106] 0 y.ks)=_ from l1_all 106 toB fits106 _,show y.ks.all (ptB false)=y.ks.all toB by congr 1;funext z;simp [ptB]]
  show (_ && (idT false y.t && (y.n == 0) && _))=_
  generalize idT false y.t=a
  generalize (y.n == 0)=b
  cases a <;> cases b <;> simp [h]
 ·rw [show (y.k == 13)=false by simpa using h]
  rfl
theorem fits12 (y : Nd) : fitsP false 12 y=paB false y:=by
 rw [fits_kind 12 (by omega)]
 unfold paB
 by_cases h : y.k=12
 ·rw [whole_at (r:=⟨0,0,[],13⟩) h rfl,show agreesP false y=unlikeB y.ks by unfold agreesP;rw [h];rfl,hd0,plainT_eq,fitsR 13 (pmB false) fits13]
  simp
 ·rw [show (y.k == 12)=false by simpa using h]
  rfl
theorem pt_kind (z : Nd) (h : toB z=true) : noB z=(z.k == 14):=by
 by_cases e : z.k=14
 ·have : tyB z=false:=by unfold tyB;rw [e];rfl
  unfold toB at h
  rw [this,Bool.or_false] at h
  rw [h,e]
  rfl
 ·unfold noB
  rw [show (z.k == 14)=false by simpa using e]
  rfl
theorem pm_typed (y : Nd) : pmB true y=(pmB false y && !(hk0 y == 14)):=by
 unfold pmB
 by_cases h : y.ks.length=1
 ·obtain ⟨z,hz⟩:=one_of y.ks h
  have e : hk0 y=z.k:=by unfold hk0;rw [hz];rfl
  rw [e,hz]
  simp only [List.all_cons,List.all_nil,Bool.and_true,ptB,Bool.true_and,Bool.false_and,Bool.not_false]
  cases ht : toB z with
  | false=>simp
  | true=>rw [pt_kind z ht];simp [Bool.and_assoc]
 ·have e : ((y.ks.length : Int) == 1)=false:=lenF _ 1 (by omega)
  rw [e]
  simp
theorem pa_typed (y : Nd) : paB true y=(paB false y && !y.ks.any fun z=>hk0 z == 14):=by
 have e : ∀ l : List Nd,l.all (pmB true)=(l.all (pmB false) && !l.any fun z=>hk0 z == 14):=by
  intro l
  induction l with
  | nil=>rfl
  | cons z l ih =>
   rw [List.all_cons,List.all_cons,List.any_cons,ih,pm_typed]
   generalize pmB false z=a
   generalize (hk0 z == 14)=b
   generalize l.all (pmB false)=c
   generalize (l.any fun z=>hk0 z == 14)=d
   cases a <;> cases b <;> cases c <;> cases d <;> rfl
 unfold paB
 rw [e]
 generalize (y.k == 12)=a
 generalize plainT y.t y.n=b
 generalize y.ks.all (pmB false)=c
 generalize (y.ks.any fun z=>hk0 z == 14)=d
 generalize unlikeB y.ks=f
 cases a <;> cases b <;> cases c <;> cases d <;> cases f <;> rfl
theorem tyB_func {y : Nd} (h : y.k=35) : tyB y=(plainT y.t y.n && (!decide (y.ks.length < 2) && fitsL false [12,104] 0 y.ks) && firstTyped y.ks):=by
 rw [tyB_eq (r:=⟨0,0,[12,104],0⟩) (by rw [h];rfl) (by rw [h];rfl),show agreesP false y=firstTyped y.ks by unfold agreesP;rw [h];rfl,hd0,plainT_eq,Bool.and_assoc (plainT y.t y.n)]
 rfl
theorem func2 (p : Bool) (u v : Nd) : (p && (!decide ([u,v].length < 2) && fitsL false [12,104] 0 [u,v]) && firstTyped [u,v])=(p && paB true u && tyB v):=by
 rw [fl2,fits12,fits104,pa_typed]
 show (p && (paB false u && tyB v) && !u.ks.any fun z=>hk0 z == 14)=_
 generalize paB false u=a
 generalize tyB v=b
 generalize (u.ks.any fun z=>hk0 z == 14)=c
 cases p <;> cases a <;> cases b <;> cases c <;> rfl
theorem form2 {k : Int} (h : formK k=2) : k=30 ∨ k=31 ∨ k=32 ∨ k=33 ∨ k=35:=by
 by_cases e : k=30 ∨ k=31 ∨ k=32 ∨ k=33 ∨ k=35
 ·exact e
 ·exfalso
  unfold formK at h
  rw [if_neg e] at h
  repeat (first | omega | split at h)
theorem body3 (u v x : Nd) : bodyB [u,v,x]=(paB false u && toB v && blB x):=by
 unfold bodyB
 rw [fl3,fits12,fits106,fits52,Bool.and_assoc]
theorem body0 (l : List Nd) (h : l.length ≠ 3) : bodyB l=false:=fl3_no _ _ _ l h
end Go.Proofs.YtfcocoadaajbjaaGreatDoor
namespace Go.Proofs.YtfcocoadaajbjaaGreatDoor
open Go.RowKit
def QB (f : FuncId) (w : World) (v : Value) (b q : Bool) : Prop:=∀ W,Below w.heap.size w W→Calls Tryz.prog f #[v,.bool b] W fun e w'=>e = .returned (.bool q)∧Below W.heap.size W w'
theorem ty_func (t : ByteArray) (n : Int) (b o c : Nat) (w : World) (z0k : Int) (z0t : ByteArray) (z0n : Int) (z0a : Option Addr) (z0l z0c : Nat) (HZ0 : Hid (KC w b (o+0) z0k z0t z0n z0a z0l z0c)) (z1k : Int) (z1t : ByteArray) (z1n : Int) (z1a : Option Addr) (z1l z1c : Nat) (HZ1 : Hid (KC w b (o+4) z1k z1t z1n z1a z1l z1c)) (p1 : Bool) (C1 : Hid (QC 42 w (nv 35 t n (some ⟨b,o,none⟩) 2 c) p1)) (p2 : Bool) (C2 : Hid (QB 71 w (nv z0k z0t z0n z0a z0l z0c) true p2)) (p3 : Bool) (C3 : Hid (QC 39 w (nv z1k z1t z1n z1a z1l z1c) p3)) :
 Calls Tryz.prog 39 #[nv 35 t n (some ⟨b,o,none⟩) 2 c] w fun e w'=>e = .returned (.bool (p1 && p2 && p3))∧Below w.heap.size w w':=by
 have bel0 : Below w.heap.size w (w.alloc (Obj.cells #[.int .i64 35,.string t,.int .i64 n,.slice (some ⟨b,o,none⟩) 2 c] 24)):=bel_a w _
 have HY0 : Hid (∀ W,Below w.heap.size w W→NqO W b o z0k z0t z0n z0a z0l z0c):=HZ0.out
 have HY1 : Hid (∀ W,Below w.heap.size w W→W.cell? ⟨b,o+4,none⟩=some (.int .i64 z1k)∧W.cell? ⟨b,o+5,none⟩=some (.string z1t)∧W.cell? ⟨b,o+6,none⟩=some (.int .i64 z1n)∧W.cell? ⟨b,o+7,none⟩=some (.slice z1a z1l z1c)):=HZ1.out
 have X0 : (w.alloc (Obj.cells #[.int .i64 35,.string t,.int .i64 n,.slice (some ⟨b,o,none⟩) 2 c] 24)).heap[w.heap.size]?=some (.cells #[.int .i64 35,.string t,.int .i64 n,.slice (some ⟨b,o,none⟩) 2 c] 24 (0,0)):=hnew _ rfl
 have kp : Hid (∀ W',Below (w.heap.size+1) (w.alloc (Obj.cells #[.int .i64 35,.string t,.int .i64 n,.slice (some ⟨b,o,none⟩) 2 c] 24)) W'→(NqZ W' w.heap.size 35 t n (some ⟨b,o,none⟩) 2 c)):=fun W' b=>(box4 ((b.block _ (by omega)).trans X0)).1
 have kz : Hid ((w.alloc (Obj.cells #[.int .i64 35,.string t,.int .i64 n,.slice (some ⟨b,o,none⟩) 2 c] 24)).heap.size=w.heap.size+1):=by simp [Hid]
 have kr : Hid (Below (w.heap.size+1) (w.alloc (Obj.cells #[.int .i64 35,.string t,.int .i64 n,.slice (some ⟨b,o,none⟩) 2 c] 24)) (w.alloc (Obj.cells #[.int .i64 35,.string t,.int .i64 n,.slice (some ⟨b,o,none⟩) 2 c] 24))):=Below.refl _ _
 clear X0
 go_enter Tryz.func39,Tryz.ntmps39
 cases p1 with
 | false =>
  go_wp2_with (go_at_call 42;refine (C1.out _ bel0).mono ?_;rintro e W1 ⟨rfl,b1⟩;have bel1:=bel0.trans (b1.mono bel0.size);have kb1:=b1.mono (show w.heap.size+1 ≤ _ by have:=kz.out;omega);obtain ⟨_,_,_,_⟩:=kp.out _ kb1;have ks1 : w.heap.size+1 ≤ W1.heap.size:=(by have:=kz.out;have:=b1.size;omega);obtain ⟨_,_,_,_⟩:=HY0.out _ bel1;obtain ⟨_,_,_,_⟩:=HY1.out _ bel1)
  go_ret
  exact ⟨ret_b (by simp),bel1⟩
 | true =>
  cases p2 with
  | false =>
   go_wp2_with (first
    | (go_at_call 42;refine (C1.out _ bel0).mono ?_;rintro e W1 ⟨rfl,b1⟩;have bel1:=bel0.trans (b1.mono bel0.size);have kb1:=b1.mono (show w.heap.size+1 ≤ _ by have:=kz.out;omega);obtain ⟨_,_,_,_⟩:=kp.out _ kb1;have ks1 : w.heap.size+1 ≤ W1.heap.size:=(by have:=kz.out;have:=b1.size;omega);obtain ⟨_,_,_,_⟩:=HY0.out _ bel1;obtain ⟨_,_,_,_⟩:=HY1.out _ bel1)
    | (go_at_call 71;refine (C2.out _ bel1).mono ?_;rintro e W2 ⟨rfl,b2⟩;have bel2:=bel1.trans (b2.mono bel1.size);have kb2:=kb1.trans (b2.mono ks1);obtain ⟨_,_,_,_⟩:=kp.out _ kb2;have ks2 : w.heap.size+1 ≤ W2.heap.size:=(by have:=b2.size;omega);obtain ⟨_,_,_,_⟩:=HY0.out _ bel2;obtain ⟨_,_,_,_⟩:=HY1.out _ bel2))
   go_ret
   exact ⟨ret_b (by simp),bel2⟩
  | true =>
   go_wp2_with (first
    | (go_at_call 42;refine (C1.out _ bel0).mono ?_;rintro e W1 ⟨rfl,b1⟩;have bel1:=bel0.trans (b1.mono bel0.size);have kb1:=b1.mono (show w.heap.size+1 ≤ _ by have:=kz.out;omega);obtain ⟨_,_,_,_⟩:=kp.out _ kb1;have ks1 : w.heap.size+1 ≤ W1.heap.size:=(by have:=kz.out;have:=b1.size;omega);obtain ⟨_,_,_,_⟩:=HY0.out _ bel1;obtain ⟨_,_,_,_⟩:=HY1.out _ bel1)
    | (go_at_call 71;refine (C2.out _ bel1).mono ?_;rintro e W2 ⟨rfl,b2⟩;have bel2:=bel1.trans (b2.mono bel1.size);have kb2:=kb1.trans (b2.mono ks1);obtain ⟨_,_,_,_⟩:=kp.out _ kb2;have ks2 : w.heap.size+1 ≤ W2.heap.size:=(by have:=b2.size;omega);obtain ⟨_,_,_,_⟩:=HY0.out _ bel2;obtain ⟨_,_,_,_⟩:=HY1.out _ bel2)
    | (go_at_call 39;refine (C3.out _ bel2).mono ?_;rintro e W3 ⟨rfl,b3⟩;have bel3:=bel2.trans (b3.mono bel2.size);have kb3:=kb2.trans (b3.mono ks2);obtain ⟨_,_,_,_⟩:=kp.out _ kb3;have ks3 : w.heap.size+1 ≤ W3.heap.size:=(by have:=b3.size;omega);obtain ⟨_,_,_,_⟩:=HY0.out _ bel3;obtain ⟨_,_,_,_⟩:=HY1.out _ bel3))
   go_ret
   exact ⟨ret_b (by simp),bel3⟩
theorem ty_func0 (t : ByteArray) (n : Int) (a : Option Addr) (len c : Nat) (w : World) (p1 : Bool) (C1 : Hid (QC 42 w (nv 35 t n a len c) p1)) (hl : ((len : Int) == 2)=false) :
 Calls Tryz.prog 39 #[nv 35 t n a len c] w fun e w'=>e = .returned (.bool (false))∧Below w.heap.size w w':=by
 have bel0 : Below w.heap.size w (w.alloc (Obj.cells #[.int .i64 35,.string t,.int .i64 n,.slice a len c] 24)):=bel_a w _
 have X0 : (w.alloc (Obj.cells #[.int .i64 35,.string t,.int .i64 n,.slice a len c] 24)).heap[w.heap.size]?=some (.cells #[.int .i64 35,.string t,.int .i64 n,.slice a len c] 24 (0,0)):=hnew _ rfl
 have kp : Hid (∀ W',Below (w.heap.size+1) (w.alloc (Obj.cells #[.int .i64 35,.string t,.int .i64 n,.slice a len c] 24)) W'→(NqZ W' w.heap.size 35 t n a len c)):=fun W' b=>(box4 ((b.block _ (by omega)).trans X0)).1
 have kz : Hid ((w.alloc (Obj.cells #[.int .i64 35,.string t,.int .i64 n,.slice a len c] 24)).heap.size=w.heap.size+1):=by simp [Hid]
 have kr : Hid (Below (w.heap.size+1) (w.alloc (Obj.cells #[.int .i64 35,.string t,.int .i64 n,.slice a len c] 24)) (w.alloc (Obj.cells #[.int .i64 35,.string t,.int .i64 n,.slice a len c] 24))):=Below.refl _ _
 clear X0
 go_enter Tryz.func39,Tryz.ntmps39
 cases p1 with
 | false =>
  go_wp2_with (go_at_call 42;refine (C1.out _ bel0).mono ?_;rintro e W1 ⟨rfl,b1⟩;have bel1:=bel0.trans (b1.mono bel0.size);have kb1:=b1.mono (show w.heap.size+1 ≤ _ by have:=kz.out;omega);obtain ⟨_,_,_,_⟩:=kp.out _ kb1;have ks1 : w.heap.size+1 ≤ W1.heap.size:=(by have:=kz.out;have:=b1.size;omega))
  go_ret
  exact ⟨ret_b (by simp),bel1⟩
 | true =>
  go_wp2_with (go_at_call 42;refine (C1.out _ bel0).mono ?_;rintro e W1 ⟨rfl,b1⟩;have bel1:=bel0.trans (b1.mono bel0.size);have kb1:=b1.mono (show w.heap.size+1 ≤ _ by have:=kz.out;omega);obtain ⟨_,_,_,_⟩:=kp.out _ kb1;have ks1 : w.heap.size+1 ≤ W1.heap.size:=(by have:=kz.out;have:=b1.size;omega))
  go_ret
  exact ⟨ret_b (by simp),bel1⟩
theorem ty_name (t : ByteArray) (n : Int) (a : Option Addr) (len c : Nat) (w : World) (p1 : Bool) (C1 : Hid (QC 65 w (nv 30 t n a len c) p1)) (p2 : Bool) (C2 : Hid (QC 13 w (.string t) p2)) :
 Calls Tryz.prog 39 #[nv 30 t n a len c] w fun e w'=>e = .returned (.bool ((n == 0) && p1 && (p2 || (t.toList == [110,117,108,108]) || (t.toList == [117,110,100,101,102,105,110,101,100]))))∧Below w.heap.size w w':=by
 have bel0 : Below w.heap.size w (w.alloc (Obj.cells #[.int .i64 30,.string t,.int .i64 n,.slice a len c] 24)):=bel_a w _
 have X0 : (w.alloc (Obj.cells #[.int .i64 30,.string t,.int .i64 n,.slice a len c] 24)).heap[w.heap.size]?=some (.cells #[.int .i64 30,.string t,.int .i64 n,.slice a len c] 24 (0,0)):=hnew _ rfl
 have kp : Hid (∀ W',Below (w.heap.size+1) (w.alloc (Obj.cells #[.int .i64 30,.string t,.int .i64 n,.slice a len c] 24)) W'→(NqZ W' w.heap.size 30 t n a len c)):=fun W' b=>(box4 ((b.block _ (by omega)).trans X0)).1
 have kz : Hid ((w.alloc (Obj.cells #[.int .i64 30,.string t,.int .i64 n,.slice a len c] 24)).heap.size=w.heap.size+1):=by simp [Hid]
 have kr : Hid (Below (w.heap.size+1) (w.alloc (Obj.cells #[.int .i64 30,.string t,.int .i64 n,.slice a len c] 24)) (w.alloc (Obj.cells #[.int .i64 30,.string t,.int .i64 n,.slice a len c] 24))):=Below.refl _ _
 clear X0
 go_enter Tryz.func39,Tryz.ntmps39
 by_cases hn : n=0
 ·subst hn
  cases p1 with
  | false =>
   go_wp2_with (go_at_call 65;refine (C1.out _ bel0).mono ?_;rintro e W1 ⟨rfl,b1⟩;have bel1:=bel0.trans (b1.mono bel0.size);have kb1:=b1.mono (show w.heap.size+1 ≤ _ by have:=kz.out;omega);obtain ⟨_,_,_,_⟩:=kp.out _ kb1;have ks1 : w.heap.size+1 ≤ W1.heap.size:=(by have:=kz.out;have:=b1.size;omega))
   go_ret
   exact ⟨ret_b (by simp),bel1⟩
  | true =>
   cases p2 with
   | true =>
    go_wp2_with (first
     | (go_at_call 65;refine (C1.out _ bel0).mono ?_;rintro e W1 ⟨rfl,b1⟩;have bel1:=bel0.trans (b1.mono bel0.size);have kb1:=b1.mono (show w.heap.size+1 ≤ _ by have:=kz.out;omega);obtain ⟨_,_,_,_⟩:=kp.out _ kb1;have ks1 : w.heap.size+1 ≤ W1.heap.size:=(by have:=kz.out;have:=b1.size;omega))
     | (go_at_call 13;refine (C2.out _ bel1).mono ?_;rintro e W2 ⟨rfl,b2⟩;have bel2:=bel1.trans (b2.mono bel1.size);have kb2:=kb1.trans (b2.mono ks1);obtain ⟨_,_,_,_⟩:=kp.out _ kb2;have ks2 : w.heap.size+1 ≤ W2.heap.size:=(by have:=b2.size;omega)))
    go_ret
    exact ⟨ret_b (by simp),bel2⟩
   | false =>
    cases h1 : (t.toList == [110,117,108,108]) with
    | true =>
     go_wp2_with (first
      | (go_at_call 65;refine (C1.out _ bel0).mono ?_;rintro e W1 ⟨rfl,b1⟩;have bel1:=bel0.trans (b1.mono bel0.size);have kb1:=b1.mono (show w.heap.size+1 ≤ _ by have:=kz.out;omega);obtain ⟨_,_,_,_⟩:=kp.out _ kb1;have ks1 : w.heap.size+1 ≤ W1.heap.size:=(by have:=kz.out;have:=b1.size;omega))
      | (go_at_call 13;refine (C2.out _ bel1).mono ?_;rintro e W2 ⟨rfl,b2⟩;have bel2:=bel1.trans (b2.mono bel1.size);have kb2:=kb1.trans (b2.mono ks1);obtain ⟨_,_,_,_⟩:=kp.out _ kb2;have ks2 : w.heap.size+1 ≤ W2.heap.size:=(by have:=b2.size;omega)))
     go_ret
     exact ⟨ret_b (by simp),bel2⟩
    | false =>
     cases h2 : (t.toList == [117,110,100,101,102,105,110,101,100]) with
     | true =>
      go_wp2_with (first
       | (go_at_call 65;refine (C1.out _ bel0).mono ?_;rintro e W1 ⟨rfl,b1⟩;have bel1:=bel0.trans (b1.mono bel0.size);have kb1:=b1.mono (show w.heap.size+1 ≤ _ by have:=kz.out;omega);obtain ⟨_,_,_,_⟩:=kp.out _ kb1;have ks1 : w.heap.size+1 ≤ W1.heap.size:=(by have:=kz.out;have:=b1.size;omega))
       | (go_at_call 13;refine (C2.out _ bel1).mono ?_;rintro e W2 ⟨rfl,b2⟩;have bel2:=bel1.trans (b2.mono bel1.size);have kb2:=kb1.trans (b2.mono ks1);obtain ⟨_,_,_,_⟩:=kp.out _ kb2;have ks2 : w.heap.size+1 ≤ W2.heap.size:=(by have:=b2.size;omega)))
      go_ret
      exact ⟨ret_b (by simp),bel2⟩
     | false =>
      go_wp2_with (first
       | (go_at_call 65;refine (C1.out _ bel0).mono ?_;rintro e W1 ⟨rfl,b1⟩;have bel1:=bel0.trans (b1.mono bel0.size);have kb1:=b1.mono (show w.heap.size+1 ≤ _ by have:=kz.out;omega);obtain ⟨_,_,_,_⟩:=kp.out _ kb1;have ks1 : w.heap.size+1 ≤ W1.heap.size:=(by have:=kz.out;have:=b1.size;omega))
       | (go_at_call 13;refine (C2.out _ bel1).mono ?_;rintro e W2 ⟨rfl,b2⟩;have bel2:=bel1.trans (b2.mono bel1.size);have kb2:=kb1.trans (b2.mono ks1);obtain ⟨_,_,_,_⟩:=kp.out _ kb2;have ks2 : w.heap.size+1 ≤ W2.heap.size:=(by have:=b2.size;omega)))
      go_ret
      exact ⟨ret_b (by simp),bel2⟩
 ·go_wp2
  go_ret
  exact ⟨ret_b (by simp [hn]),bel0⟩
theorem ty_none (k : Int) (h : formK k ≠ 2) (t : ByteArray) (n : Int) (a : Option Addr) (len c : Nat) (w : World) :
 Calls Tryz.prog 39 #[nv k t n a len c] w fun e w'=>e = .returned (.bool false)∧Below w.heap.size w w':=by
 have hh : ¬ (k=30 ∨ k=31 ∨ k=32 ∨ k=33 ∨ k=35):=fun e=>h (by rcases e with rfl | rfl | rfl | rfl | rfl <;> rfl)
 simp only [not_or] at hh
 obtain ⟨h30,h31,h32,h33,h35⟩:=hh
 clear h
 go_enter Tryz.func39,Tryz.ntmps39
 go_wp2
 go_ret
 exact ⟨rfl,bel_a _ _⟩
theorem body_3 (b o c : Nat) (w : World) (z0k : Int) (z0t : ByteArray) (z0n : Int) (z0a : Option Addr) (z0l z0c : Nat) (HZ0 : Hid (KC w b (o+0) z0k z0t z0n z0a z0l z0c)) (z1k : Int) (z1t : ByteArray) (z1n : Int) (z1a : Option Addr) (z1l z1c : Nat) (HZ1 : Hid (KC w b (o+4) z1k z1t z1n z1a z1l z1c)) (z2k : Int) (z2t : ByteArray) (z2n : Int) (z2a : Option Addr) (z2l z2c : Nat) (HZ2 : Hid (KC w b (o+8) z2k z2t z2n z2a z2l z2c))
 (p1 : Bool) (C1 : Hid (QB 71 w (nv z0k z0t z0n z0a z0l z0c) false p1)) (p2 : Bool) (C2 : Hid (QC 72 w (nv z1k z1t z1n z1a z1l z1c) p2)) (p3 : Bool) (C3 : Hid (QC 73 w (nv z2k z2t z2n z2a z2l z2c) p3)) :
 Calls Tryz.prog 69 #[.slice (some ⟨b,o,none⟩) 3 c] w fun e w'=>e = .returned (.bool (p1 && p2 && p3))∧Below w.heap.size w w':=by
 have HY0 : Hid (∀ W,Below w.heap.size w W→NqO W b o z0k z0t z0n z0a z0l z0c):=HZ0.out
 have HY1 : Hid (∀ W,Below w.heap.size w W→W.cell? ⟨b,o+4,none⟩=some (.int .i64 z1k)∧W.cell? ⟨b,o+5,none⟩=some (.string z1t)∧W.cell? ⟨b,o+6,none⟩=some (.int .i64 z1n)∧W.cell? ⟨b,o+7,none⟩=some (.slice z1a z1l z1c)):=HZ1.out
 have HY2 : Hid (∀ W,Below w.heap.size w W→W.cell? ⟨b,o+8,none⟩=some (.int .i64 z2k)∧W.cell? ⟨b,o+9,none⟩=some (.string z2t)∧W.cell? ⟨b,o+10,none⟩=some (.int .i64 z2n)∧W.cell? ⟨b,o+11,none⟩=some (.slice z2a z2l z2c)):=HZ2.out
 have bel0 : Below w.heap.size w w:=Below.refl _ _
 obtain ⟨_,_,_,_⟩:=HY0.out _ bel0
 go_enter Tryz.func69,Tryz.ntmps69
 cases p1 with
 | false =>
  go_wp2_with (go_at_call 71;refine (C1.out _ bel0).mono ?_;rintro e W1 ⟨rfl,b1⟩;have bel1:=bel0.trans (b1.mono bel0.size);obtain ⟨_,_,_,_⟩:=HY1.out _ bel1)
  go_ret
  exact ⟨ret_b (by simp),bel1⟩
 | true =>
  cases p2 with
  | false =>
   go_wp2_with (first
    | (go_at_call 71;refine (C1.out _ bel0).mono ?_;rintro e W1 ⟨rfl,b1⟩;have bel1:=bel0.trans (b1.mono bel0.size);obtain ⟨_,_,_,_⟩:=HY1.out _ bel1)
    | (go_at_call 72;refine (C2.out _ bel1).mono ?_;rintro e W2 ⟨rfl,b2⟩;have bel2:=bel1.trans (b2.mono bel1.size);obtain ⟨_,_,_,_⟩:=HY2.out _ bel2))
   go_ret
   exact ⟨ret_b (by simp),bel2⟩
  | true =>
   go_wp2_with (first
    | (go_at_call 71;refine (C1.out _ bel0).mono ?_;rintro e W1 ⟨rfl,b1⟩;have bel1:=bel0.trans (b1.mono bel0.size);obtain ⟨_,_,_,_⟩:=HY1.out _ bel1)
    | (go_at_call 72;refine (C2.out _ bel1).mono ?_;rintro e W2 ⟨rfl,b2⟩;have bel2:=bel1.trans (b2.mono bel1.size);obtain ⟨_,_,_,_⟩:=HY2.out _ bel2)
    | (go_at_call 73;refine (C3.out _ bel2).mono ?_;rintro e W3 ⟨rfl,b3⟩;have bel3:=bel2.trans (b3.mono bel2.size)))
   go_ret
   exact ⟨ret_b (by simp),bel3⟩
theorem body_0 (a : Option Addr) (len c : Nat) (w : World) (hl : ((len : Int) == 3)=false) :
 Calls Tryz.prog 69 #[.slice a len c] w fun e w'=>e = .returned (.bool false)∧Below w.heap.size w w':=by
 go_enter Tryz.func69,Tryz.ntmps69
 go_wp2
 go_ret
 exact ⟨rfl,Below.refl _ _⟩
end Go.Proofs.YtfcocoadaajbjaaGreatDoor
namespace Go.Proofs.YtfcocoadaajbjaaGreatDoor
open Go.RowKit
theorem ty_union (t : ByteArray) (n : Int) (l : List Nd) (hE : ∀ y ∈ l,TC y) (hl : l.length ≤ 4194304) (a : Option Addr) (c : Nat) (w : World) (S : Nat→Prop) (hx : LAt w S (.slice a l.length c) l) :
 Calls Tryz.prog 39 #[nv 32 t n a l.length c] w fun e w'=>e = .returned (.bool (l.all unB && plainT t n && decide (2 ≤ (l.length : Int))))∧Below w.heap.size w w':=by
 have CP:=plain' 32 t n a l.length c
 generalize plainT t n=p at *
 obtain ⟨ax,cx,bx,ox,fx,e,px,qx,rx⟩:=hx.op
 obtain ⟨rfl,rfl⟩ : a=ax∧c=cx:=by injection e with e1 e2 e3;exact ⟨e1,e3⟩
 clear e
 have X0 : (w.alloc (Obj.cells #[.int .i64 32,.string t,.int .i64 n,.slice a l.length c] 24)).heap[w.heap.size]?=some (.cells #[.int .i64 32,.string t,.int .i64 n,.slice a l.length c] 24 (0,0)):=hnew _ rfl
 have kp : Hid (∀ W',Below (w.heap.size+1) (w.alloc (Obj.cells #[.int .i64 32,.string t,.int .i64 n,.slice a l.length c] 24)) W'→(NqZ W' w.heap.size 32 t n a l.length c)):=fun W' b=>(box4 ((b.block _ (by omega)).trans X0)).1
 have kb : Hid (∀ W',Below (w.heap.size+1) (w.alloc (Obj.cells #[.int .i64 32,.string t,.int .i64 n,.slice a l.length c] 24)) W'→Below w.heap.size w W'∧w.heap.size+1 ≤ W'.heap.size):=fun W' b=>⟨(bel_a w _).trans (b.mono (by omega)),by have:=b.size;simpa using this⟩
 have kr : Hid (Below (w.heap.size+1) (w.alloc (Obj.cells #[.int .i64 32,.string t,.int .i64 n,.slice a l.length c] 24)) (w.alloc (Obj.cells #[.int .i64 32,.string t,.int .i64 n,.slice a l.length c] 24))):=Below.refl _ _
 clear X0
 go_enter Tryz.func39,Tryz.ntmps39
 go_wp2
 generalize w.alloc (Obj.cells #[.int .i64 32,.string t,.int .i64 n,.slice a l.length c] 24)=W0 at *
 go_loopg [4] l.length (fun gk v3 wr=>∃ k : Nat,v3 = .int .i64 (k : Nat)∧Hid (gk+k=l.length)∧Below (w.heap.size+1) W0 wr∧Hid (∀ y ∈ l.take k,unB y=true))
 case atStart=>exact ⟨0,rfl,by simp [Hid],kr.out,by simp [Hid]⟩
 case round =>
  obtain ⟨k,rfl,hk,bel0,HT⟩:=hrel
  obtain ⟨bel,sz⟩:=kb.out _ bel0
  have hkk : k ≤ l.length:=by have:=hk.out;omega
  by_cases hkl : k < l.length
  ·obtain ⟨rfl,hSx,hbx⟩:=px (by omega)
   have hm:=List.getElem_mem hkl
   have HS : Hid (l.take (k+1)=l.take k ++ [l[k]]):=List.take_succ_eq_append_getElem hkl
   have hC:=hE _ hm
   have HM : Hid (l[k] ∈ l):=hm
   have hr:=rx k hkl
   have hq:=qx k hkl
   clear hm
   generalize l[k]=y at *
   generalize fx k=fk at *
   obtain ⟨ak,ck,rfl⟩:=hr.sl
   have HK : Hid (∀ W,Below w.heap.size w W→NqO W bx (ox+k * 4) y.k y.t y.n ak y.ks.length ck):=fun W b=>(kid_at hq hr hbx b).1
   have C:=hC wr S ak ck (hr.bel bel)
   have HB : Hid (unB y=false→l.all unB=false):=fun h=>List.all_eq_false.2 ⟨y,HM.out,by rw [h];decide⟩
   have HG : Hid (unB y=true→∀ z ∈ l.take (k+1),unB z=true):=fun h z hz=>by
    rw [HS.out] at hz
    rcases List.mem_append.1 hz with hz | hz
    ·exact HT.out z hz
    ·obtain rfl : z=y:=by simpa using hz
     exact h
   have HU : Hid (unB y=(tyB y && (y.k != 32))):=rfl
   obtain ⟨u1,u2,u3,u4⟩:=HK.out _ bel
   clear hE px qx rx hC HM HS HT hr hq
   cases hb : tyB y with
   | false =>
    rw [hb] at C HU
    have HR : Hid (l.all unB=false):=HB.out HU.out
    clear hb HB HG HU
    go_wp2_with (go_at_call 39;refine C.mono ?_;rintro e W1 ⟨rfl,b1⟩)
    go_ret
    exact ⟨ret_b (by rw [HR.out];rfl),bel.trans (b1.mono bel.size)⟩
   | true =>
    rw [hb] at C HU
    by_cases h32 : y.k=32
    ·have HR : Hid (l.all unB=false):=HB.out (by rw [HU.out,h32];rfl)
     clear HB HG HU
     rw [h32] at HK u1 C
     clear hb h32
     go_wp2_with (go_at_call 39;refine C.mono ?_;rintro e W1 ⟨rfl,b1⟩;have bel1:=bel.trans (b1.mono bel.size);obtain ⟨_,_,_,_⟩:=HK.out _ bel1)
     go_ret
     exact ⟨ret_b (by rw [HR.out];rfl),bel1⟩
    ·have HR : Hid (∀ z ∈ l.take (k+1),unB z=true):=HG.out (by rw [HU.out];simp [h32])
     clear hb HB HG HU
     go_wp2_with (go_at_call 39;refine C.mono ?_;rintro e W1 ⟨rfl,b1⟩;have bel1:=bel.trans (b1.mono bel.size);obtain ⟨_,_,_,_⟩:=HK.out _ bel1)
     have bel2:=bel0.trans (b1.mono (by omega : w.heap.size+1 ≤ _))
     go_roundg (gk - 1)
     case rel=>exact ⟨k+1,by simp,by have:=hk.out;show _=_;omega,bel2,HR⟩
     case measure=>have:=hk.out;omega
  ·have e : l.take k=l:=List.take_of_length_le (by omega)
   have HR : Hid (l.all unB=true):=List.all_eq_true.2 (by have:=HT.out;rw [e] at this;exact this)
   clear HT e hE px qx rx
   obtain ⟨_,_,_,_⟩:=kp.out _ bel0
   cases p with
   | false =>
    go_wp2_with (go_at_call 42;refine (CP _).mono ?_;rintro e W1 ⟨rfl,b1⟩)
    go_ret
    exact ⟨ret_b (by rw [HR.out];simp),bel.trans (b1.mono bel.size)⟩
   | true =>
    go_wp2_with (go_at_call 42;refine (CP _).mono ?_;rintro e W1 ⟨rfl,b1⟩)
    go_ret
    exact ⟨ret_b (by rw [HR.out];simp),bel.trans (b1.mono bel.size)⟩
end Go.Proofs.YtfcocoadaajbjaaGreatDoor
