/- Own text. The document's walk over names: the tops of an item. -/
import Derived.Test.YtfcocoadaajbjaaGreatDoorGd20
set_option linter.unusedVariables false
set_option linter.unusedSimpArgs false
set_option maxRecDepth 100000
set_option maxHeartbeats 16000000
namespace Go.Proofs.YtfcocoadaajbjaaGreatDoor
open Go.RowKit Go.MapKept
theorem declare_len (w : Dw) (nm : ByteArray) (kd p it : Int) (cn : Bool) : (w.declare nm kd p it cn).tops.length ≤ w.tops.length+1∧(w.declare nm kd p it cn).exs=w.exs:=by
 unfold Dw.declare
 cases topS w.tops nm with
 | some t=>dsimp only;rw [(fail_exs w p 90).2.1,(fail_exs w p 90).1];exact ⟨by omega,rfl⟩
 | none=>simp
theorem gf_tops (nm : ByteArray) (p : Int) : ∀ (E : List ByteArray) (d : Dw),(gfE nm p E d).tops=d.tops
 | [],d=>rfl
 | c :: E,d=>by
  show (gfE nm p E (if eqT c nm=true then d.fail p 90 else d)).tops=_
  rw [gf_tops nm p E]
  split
  ·exact (fail_exs d p 90).2.1
  ·rfl
theorem give_len (w : Dw) (nm : ByteArray) (p : Int) : (w.give nm p).tops=w.tops∧(w.give nm p).exs.length=w.exs.length+1:=by
 have e : w.give nm p={ gfE nm p w.exs w with exs:=(gfE nm p w.exs w).exs ++ [nm] }:=rfl
 rw [e]
 refine ⟨gf_tops nm p _ w,?_⟩
 show ((gfE nm p w.exs w).exs ++ [nm]).length=_
 rw [gf_exs];simp
theorem dtop0_len (x : Nd) (p it : Int) (w : Dw) : (dtop0 x p it w).tops.length ≤ w.tops.length+1∧(dtop0 x p it w).exs=w.exs:=by
 obtain ⟨k,t,n,ks⟩:=x
 rw [dtop0]
 split
 ·exact declare_len _ _ _ _ _ _
 ·exact ⟨by omega,rfl⟩
theorem dimp_len : ∀ (l : List Nd) (p it : Int) (w : Dw),(dimp l p it w).tops.length ≤ w.tops.length+l.length∧(dimp l p it w).exs=w.exs
 | [],p,it,w=>by rw [dimp];exact ⟨by omega,rfl⟩
 | y :: l,p,it,w=>by
  rw [dimp,List.length_cons]
  obtain ⟨h1,h2⟩:=dimp_len l (p+y.size) it (w.declare (headT y.ks) 61 p it true)
  obtain ⟨h3,h4⟩:=declare_len w (headT y.ks) 61 p it true
  exact ⟨by omega,by rw [h2,h4]⟩
def dgv (y : Nd) (p : Int) (w : Dw) : Dw:=if headK y.ks=6 then w.give (headT y.ks) p else if y.t.toList=[42] then w else w.give y.t p
theorem dgv_len (y : Nd) (p : Int) (w : Dw) : (dgv y p w).tops=w.tops∧(dgv y p w).exs.length ≤ w.exs.length+1:=by
 unfold dgv
 split
 ·exact ⟨(give_len w _ p).1,by have:=(give_len w (headT y.ks) p).2;omega⟩
 ·split
  ·exact ⟨rfl,by omega⟩
  ·exact ⟨(give_len w _ p).1,by have:=(give_len w y.t p).2;omega⟩
theorem dgiv_len : ∀ (l : List Nd) (p : Int) (w : Dw),(dgiv l p w).tops=w.tops∧(dgiv l p w).exs.length ≤ w.exs.length+l.length
 | [],p,w=>by rw [dgiv];exact ⟨rfl,by omega⟩
 | y :: l,p,w=>by
  rw [dgiv,List.length_cons]
  obtain ⟨h1,h2⟩:=dgiv_len l (p+y.size) (dgv y p w)
  obtain ⟨h3,h4⟩:=dgv_len y p w
  change (dgiv l (p+y.size) (dgv y p w)).tops=_∧(dgiv l (p+y.size) (dgv y p w)).exs.length ≤ _
  exact ⟨by rw [h1,h3],by omega⟩
theorem dtop_len (x : Nd) (p it : Int) (w : Dw) : (dtop x p it w).tops.length ≤ w.tops.length+x.size∧(dtop x p it w).exs.length ≤ w.exs.length+x.size:=by
 have hs:=x.size_eq
 have hl:=sizes_len x.ks
 obtain ⟨k,t,n,ks⟩:=x
 have hs : (Nd.mk k t n ks).size=1+sizes ks:=hs
 have hl : ks.length ≤ sizes ks:=hl
 rw [dtop.eq_def]
 dsimp only
 split
 ·obtain ⟨h1,h2⟩:=declare_len w t k p it (!decide (k=40∧n=0))
  exact ⟨by omega,by rw [h2];omega⟩
 ·split
  ·cases ks with
   | nil=>exact ⟨by dsimp only;omega,by dsimp only;omega⟩
   | cons a r =>
    dsimp only
    obtain ⟨h1,h2⟩:=dtop0_len a (p+1) it (w.give a.t p)
    obtain ⟨h3,h4⟩:=give_len w a.t p
    rw [h3] at h1
    exact ⟨by omega,by rw [h2];omega⟩
  ·split
   ·cases ks with
    | nil=>exact ⟨by dsimp only;omega,by dsimp only;omega⟩
    | cons a r =>
     dsimp only
     obtain ⟨h3,h4⟩:=give_len w dflt p
     split
     ·obtain ⟨h1,h2⟩:=dtop0_len a (p+1) it (w.give dflt p)
      rw [h3] at h1
      exact ⟨by omega,by rw [h2];omega⟩
     ·obtain ⟨h1,h2⟩:=declare_len (w.give dflt p) dflt 63 p it true
      rw [h3] at h1
      exact ⟨by omega,by rw [h2];omega⟩
   ·split
    ·obtain ⟨h1,h2⟩:=dimp_len ks (p+1) it w
     exact ⟨by omega,by rw [h2];omega⟩
    ·split
     ·obtain ⟨h1,h2⟩:=dgiv_len ks (p+1) w
      exact ⟨by rw [h1];omega,by omega⟩
     ·exact ⟨by omega,by omega⟩
theorem lat_one {w : World} {S : Nat→Prop} {v : Value} {a : Nd} (h : LAt w S v [a]) : ∃ b o c f,v = .slice (some ⟨b,o,none⟩) 1 c∧S b∧Four w b o a f∧LAt w S f a.ks:=by
 obtain ⟨ax,cx,bx,ox,fx,rfl,px,qx,rx⟩:=h.op
 obtain ⟨rfl,h1,h2⟩:=px (by simp)
 exact ⟨bx,ox,cx,fx 0,rfl,h1,by simpa using qx 0 (by simp),rx 0 (by simp)⟩
def TpA (x : Nd) (p it : Int) (res : Dw→Dw) : Prop:=∀ (wb B : Nat) (W : World) (d : Dw) (V : Vs) (v : Value),Wv wb B W d V→LAt W (fun b=>b < B) v x.ks→d.tops.length+x.size ≤ 8388608→d.exs.length+x.size ≤ 8388608 →
 Calls Tryz.prog 22 #[.pointer (some ⟨wb,0,none⟩),x.v v,.int .i64 p,.int .i64 it] W (WvA wb B V W (res d))
theorem wtops_40 (x : Nd) (p it : Int) (hq : x.k=40) : TpA x p it (dtop0 x p it):=by
 intro wb B W d V v h hx hn hn2
 obtain ⟨av,cv,rfl⟩:=hx.sl
 obtain ⟨W0,hW0,H0,K0,M0,n0,n1,n2,n3⟩:=wpre (x:=x) (.slice av x.ks.length cv) h
 have HV : Hid _:=h
 have HX : Hid _:=hx
 have szx:=x.size_pos
 have e40 : (x.k == 40)=true:=by rw [hq];decide
 have HR : Hid (dtop0 x p it d=d.declare x.t x.k p it (!(x.n == 0))):=by
  obtain ⟨k,t,n,ks⟩:=x
  have hq : k=40:=hq
  subst hq
  have e : decide ((40 : Int)=40∧n=0)=(n == 0):=by rw [Bool.eq_iff_iff];simp
  show dtop0 (.mk 40 t n ks) p it d=d.declare t 40 p it (!(n == 0))
  rw [dtop0,if_pos (by decide),e]
 clear h hx hq
 have CD:=wdeclare_any H0.out x.t x.k p it (x.n == 0) (by omega)
 unfold nO at hW0
 unfold Nd.v
 go_enter Tryz.func22,Tryz.ntmps22
 go_wp2_with fail
 go_at_call 46
 refine CD.mono ?_
 rintro e W1 ⟨rfl,V1,k1,k2⟩
 clear CD
 go_wp2
 go_end0
 exact ⟨rfl,V1,by rw [HR.out];exact k1,K0.out.trans k2⟩
theorem wtops_41 (x : Nd) (p it : Int) (hq : x.k=41) : TpA x p it (dtop0 x p it):=by
 intro wb B W d V v h hx hn hn2
 obtain ⟨av,cv,rfl⟩:=hx.sl
 obtain ⟨W0,hW0,H0,K0,M0,n0,n1,n2,n3⟩:=wpre (x:=x) (.slice av x.ks.length cv) h
 have HV : Hid _:=h
 have HX : Hid _:=hx
 have szx:=x.size_pos
 have e40 : (x.k == 40)=false:=by rw [hq];decide
 have e41 : (x.k == 41)=true:=by rw [hq];decide
 have HR : Hid (dtop0 x p it d=d.declare x.t x.k p it (!false)):=by
  obtain ⟨k,t,n,ks⟩:=x
  have hq : k=41:=hq
  subst hq
  have e : decide ((41 : Int)=40∧n=0)=false:=decide_eq_false (fun w=>absurd w.1 (by decide))
  show dtop0 (.mk 41 t n ks) p it d=d.declare t 41 p it (!false)
  rw [dtop0,if_pos (by decide),e]
 clear h hx hq
 have CD:=wdeclare_any H0.out x.t x.k p it false (by omega)
 unfold nO at hW0
 unfold Nd.v
 go_enter Tryz.func22,Tryz.ntmps22
 go_wp2_with fail
 go_at_call 46
 refine CD.mono ?_
 rintro e W1 ⟨rfl,V1,k1,k2⟩
 clear CD
 go_wp2
 go_end0
 exact ⟨rfl,V1,by rw [HR.out];exact k1,K0.out.trans k2⟩
theorem wtops_42 (x : Nd) (p it : Int) (hq : x.k=42) : TpA x p it (dtop0 x p it):=by
 intro wb B W d V v h hx hn hn2
 obtain ⟨av,cv,rfl⟩:=hx.sl
 obtain ⟨W0,hW0,H0,K0,M0,n0,n1,n2,n3⟩:=wpre (x:=x) (.slice av x.ks.length cv) h
 have HV : Hid _:=h
 have HX : Hid _:=hx
 have szx:=x.size_pos
 have e40 : (x.k == 40)=false:=by rw [hq];decide
 have e41 : (x.k == 41)=false:=by rw [hq];decide
 have e42 : (x.k == 42)=true:=by rw [hq];decide
 have HR : Hid (dtop0 x p it d=d.declare x.t x.k p it (!false)):=by
  obtain ⟨k,t,n,ks⟩:=x
  have hq : k=42:=hq
  subst hq
  have e : decide ((42 : Int)=40∧n=0)=false:=decide_eq_false (fun w=>absurd w.1 (by decide))
  show dtop0 (.mk 42 t n ks) p it d=d.declare t 42 p it (!false)
  rw [dtop0,if_pos (by decide),e]
 clear h hx hq
 have CD:=wdeclare_any H0.out x.t x.k p it false (by omega)
 unfold nO at hW0
 unfold Nd.v
 go_enter Tryz.func22,Tryz.ntmps22
 go_wp2_with fail
 go_at_call 46
 refine CD.mono ?_
 rintro e W1 ⟨rfl,V1,k1,k2⟩
 clear CD
 go_wp2
 go_end0
 exact ⟨rfl,V1,by rw [HR.out];exact k1,K0.out.trans k2⟩
theorem wtops_46 (x : Nd) (p it : Int) (hq : x.k=46) : TpA x p it (dtop0 x p it):=by
 intro wb B W d V v h hx hn hn2
 obtain ⟨av,cv,rfl⟩:=hx.sl
 obtain ⟨W0,hW0,H0,K0,M0,n0,n1,n2,n3⟩:=wpre (x:=x) (.slice av x.ks.length cv) h
 have HV : Hid _:=h
 have HX : Hid _:=hx
 have szx:=x.size_pos
 have e40 : (x.k == 40)=false:=by rw [hq];decide
 have e41 : (x.k == 41)=false:=by rw [hq];decide
 have e42 : (x.k == 42)=false:=by rw [hq];decide
 have e46 : (x.k == 46)=true:=by rw [hq];decide
 have HR : Hid (dtop0 x p it d=d.declare x.t x.k p it (!false)):=by
  obtain ⟨k,t,n,ks⟩:=x
  have hq : k=46:=hq
  subst hq
  have e : decide ((46 : Int)=40∧n=0)=false:=decide_eq_false (fun w=>absurd w.1 (by decide))
  show dtop0 (.mk 46 t n ks) p it d=d.declare t 46 p it (!false)
  rw [dtop0,if_pos (by decide),e]
 clear h hx hq
 have CD:=wdeclare_any H0.out x.t x.k p it false (by omega)
 unfold nO at hW0
 unfold Nd.v
 go_enter Tryz.func22,Tryz.ntmps22
 go_wp2_with fail
 go_at_call 46
 refine CD.mono ?_
 rintro e W1 ⟨rfl,V1,k1,k2⟩
 clear CD
 go_wp2
 go_end0
 exact ⟨rfl,V1,by rw [HR.out];exact k1,K0.out.trans k2⟩
theorem wtops_66 (x : Nd) (p it : Int) (hq : x.k=66) : TpA x p it (dtop0 x p it):=by
 intro wb B W d V v h hx hn hn2
 obtain ⟨av,cv,rfl⟩:=hx.sl
 obtain ⟨W0,hW0,H0,K0,M0,n0,n1,n2,n3⟩:=wpre (x:=x) (.slice av x.ks.length cv) h
 have HV : Hid _:=h
 have HX : Hid _:=hx
 have szx:=x.size_pos
 have e40 : (x.k == 40)=false:=by rw [hq];decide
 have e41 : (x.k == 41)=false:=by rw [hq];decide
 have e42 : (x.k == 42)=false:=by rw [hq];decide
 have e46 : (x.k == 46)=false:=by rw [hq];decide
 have e66 : (x.k == 66)=true:=by rw [hq];decide
 have HR : Hid (dtop0 x p it d=d.declare x.t x.k p it (!false)):=by
  obtain ⟨k,t,n,ks⟩:=x
  have hq : k=66:=hq
  subst hq
  have e : decide ((66 : Int)=40∧n=0)=false:=decide_eq_false (fun w=>absurd w.1 (by decide))
  show dtop0 (.mk 66 t n ks) p it d=d.declare t 66 p it (!false)
  rw [dtop0,if_pos (by decide),e]
 clear h hx hq
 have CD:=wdeclare_any H0.out x.t x.k p it false (by omega)
 unfold nO at hW0
 unfold Nd.v
 go_enter Tryz.func22,Tryz.ntmps22
 go_wp2_with fail
 go_at_call 46
 refine CD.mono ?_
 rintro e W1 ⟨rfl,V1,k1,k2⟩
 clear CD
 go_wp2
 go_end0
 exact ⟨rfl,V1,by rw [HR.out];exact k1,K0.out.trans k2⟩
theorem wtops_dec (x : Nd) (p it : Int) (h : isDecl x.k=true) : TpA x p it (dtop0 x p it):=by
 have h:=of_decide_eq_true h
 rcases h with h | h | h | h | h
 ·exact wtops_40 x p it h
 ·exact wtops_41 x p it h
 ·exact wtops_42 x p it h
 ·exact wtops_46 x p it h
 ·exact wtops_66 x p it h
theorem wtops_no (x : Nd) (p it : Int) (hq : x.k ≠ 40∧x.k ≠ 41∧x.k ≠ 42∧x.k ≠ 46∧x.k ≠ 66∧x.k ≠ 62∧x.k ≠ 63∧x.k ≠ 60∧x.k ≠ 64) : TpA x p it (fun d=>d):=by
 intro wb B W d V v h hx hn hn2
 obtain ⟨av,cv,rfl⟩:=hx.sl
 obtain ⟨W0,hW0,H0,K0,M0,n0,n1,n2,n3⟩:=wpre (x:=x) (.slice av x.ks.length cv) h
 have HV : Hid _:=h
 have HX : Hid _:=hx
 have szx:=x.size_pos
 have e40 : (x.k == 40)=false:=by simpa using hq.1
 have e41 : (x.k == 41)=false:=by simpa using hq.2.1
 have e42 : (x.k == 42)=false:=by simpa using hq.2.2.1
 have e46 : (x.k == 46)=false:=by simpa using hq.2.2.2.1
 have e66 : (x.k == 66)=false:=by simpa using hq.2.2.2.2.1
 have e62 : (x.k == 62)=false:=by simpa using hq.2.2.2.2.2.1
 have e63 : (x.k == 63)=false:=by simpa using hq.2.2.2.2.2.2.1
 have e60 : (x.k == 60)=false:=by simpa using hq.2.2.2.2.2.2.2.1
 have e64 : (x.k == 64)=false:=by simpa using hq.2.2.2.2.2.2.2.2
 clear h hx hq
 unfold nO at hW0
 unfold Nd.v
 go_enter Tryz.func22,Tryz.ntmps22
 go_wp2
 go_end0
 exact ⟨rfl,V,H0.out,K0.out⟩
theorem wtops_62 (x a : Nd) (p it : Int) (hq : x.k=62) (hxa : x.ks=[a]) (hda : isDecl a.k=true) (hpp : 0 ≤ p∧p ≤ 16777216) : TpA x p it (dtop x p it):=by
 intro wb B W d V v h hx hn hn2
 obtain ⟨av,cv,rfl⟩:=hx.sl
 obtain ⟨W0,hW0,H0,K0,M0,n0,n1,n2,n3⟩:=wpre (x:=x) (.slice av x.ks.length cv) h
 have HV : Hid _:=h
 have HX : Hid _:=hx
 have szx:=x.size_pos
 have e40 : (x.k == 40)=false:=by rw [hq];decide
 have e41 : (x.k == 41)=false:=by rw [hq];decide
 have e42 : (x.k == 42)=false:=by rw [hq];decide
 have e46 : (x.k == 46)=false:=by rw [hq];decide
 have e66 : (x.k == 66)=false:=by rw [hq];decide
 have e62 : (x.k == 62)=true:=by rw [hq];decide
 obtain ⟨b1,o1,c1,f1,hva,hb1,q1,r1⟩:=lat_one (hxa ▸ hx)
 have HQ1 : Hid (∀ (X : World) (V2 : Vs),Kw wb V W V2 X→Four X b1 o1 a f1):=fun X V2 q=>q1.of_block ((HV.out.below q).block b1 hb1)
 have HR1 : Hid (∀ (X : World) (V2 : Vs),Kw wb V W V2 X→LAt X (fun b=>b < B) f1 a.ks):=fun X V2 q=>HV.out.lat q r1
 have hln : x.ks.length=1:=by rw [hxa];rfl
 injection hva with hva1 _ hva2
 rw [hln,hva1,hva2] at n3 M0 hW0 ⊢
 have sza : x.size=1+a.size:=by rw [x.size_eq,hxa,sizes_cons,sizes_nil];omega
 have sza2:=a.size_pos
 obtain ⟨y1,y2,y3,y4⟩:=HQ1.out W0 V K0.out
 obtain ⟨af,cf,hf1⟩:=r1.sl
 have HR : Hid (dtop x p it d=dtop0 a (p+1) it (d.give a.t p)):=by
  obtain ⟨k,t,n,ks⟩:=x
  have hq : k=62:=hq
  have hxa : ks=[a]:=hxa
  subst hq hxa
  rfl
 have CG:=wgive_any H0.out a.t p (by omega)
 clear h hx hq hxa q1 r1 hva1 hva2 hln
 unfold nO at hW0
 unfold Nd.v
 go_enter Tryz.func22,Tryz.ntmps22
 go_wp2_with fail
 go_at_call 47
 refine CG.mono ?_
 rintro e W1 ⟨rfl,V1,k1,k2⟩
 clear CG y1 y2 y3 y4 n0 n1 n2 n3 hW0
 have m1:=H0.out.kept k2 M0.out (by decide)
 have kk:=K0.out.trans k2
 obtain ⟨⟨n0,n1,n2,n3⟩,_⟩:=box4 m1
 obtain ⟨y1,y2,y3,y4⟩:=HQ1.out _ _ kk
 have l1:=(give_len d a.t p).1
 have l2:=(give_len d a.t p).2
 have CT:=wtops_dec a (p+1) it hda wb B W1 _ V1 f1 k1 (HR1.out _ _ kk) (by rw [l1];omega) (by omega)
 unfold Nd.v at CT
 have KK : Hid _:=kk
 clear m1 kk k1 k2 l1 l2
 subst hf1
 go_wp2_with fail
 go_at_call 22
 refine CT.mono ?_
 rintro e W2 ⟨rfl,V2,k3,k4⟩
 clear CT
 go_wp2
 go_end0
 exact ⟨rfl,V2,by rw [HR.out];exact k3,KK.out.trans k4⟩
theorem wtops_63 (x a : Nd) (p it : Int) (hq : x.k=63) (hxa : x.ks=[a]) (hpp : 0 ≤ p∧p ≤ 16777216) : TpA x p it (dtop x p it):=by
 intro wb B W d V v h hx hn hn2
 obtain ⟨av,cv,rfl⟩:=hx.sl
 obtain ⟨W0,hW0,H0,K0,M0,n0,n1,n2,n3⟩:=wpre (x:=x) (.slice av x.ks.length cv) h
 have HV : Hid _:=h
 have HX : Hid _:=hx
 have szx:=x.size_pos
 have e40 : (x.k == 40)=false:=by rw [hq];decide
 have e41 : (x.k == 41)=false:=by rw [hq];decide
 have e42 : (x.k == 42)=false:=by rw [hq];decide
 have e46 : (x.k == 46)=false:=by rw [hq];decide
 have e66 : (x.k == 66)=false:=by rw [hq];decide
 have e62 : (x.k == 62)=false:=by rw [hq];decide
 have e63 : (x.k == 63)=true:=by rw [hq];decide
 obtain ⟨b1,o1,c1,f1,hva,hb1,q1,r1⟩:=lat_one (hxa ▸ hx)
 have HQ1 : Hid (∀ (X : World) (V2 : Vs),Kw wb V W V2 X→Four X b1 o1 a f1):=fun X V2 q=>q1.of_block ((HV.out.below q).block b1 hb1)
 have HR1 : Hid (∀ (X : World) (V2 : Vs),Kw wb V W V2 X→LAt X (fun b=>b < B) f1 a.ks):=fun X V2 q=>HV.out.lat q r1
 have hln : x.ks.length=1:=by rw [hxa];rfl
 injection hva with hva1 _ hva2
 rw [hln,hva1,hva2] at n3 M0 hW0 ⊢
 have sza : x.size=1+a.size:=by rw [x.size_eq,hxa,sizes_cons,sizes_nil];omega
 have sza2:=a.size_pos
 obtain ⟨y1,y2,y3,y4⟩:=HQ1.out W0 V K0.out
 obtain ⟨af,cf,hf1⟩:=r1.sl
 have HR : Hid (dtop x p it d=if a.k=41 ∨ a.k=42 then dtop0 a (p+1) it (d.give dflt p) else (d.give dflt p).declare dflt 63 p it true):=by
  obtain ⟨k,t,n,ks⟩:=x
  have hq : k=63:=hq
  have hxa : ks=[a]:=hxa
  subst hq hxa
  rfl
 have CG:=wgive_any H0.out dflt p (by omega)
 unfold dflt at CG
 clear h hx hq hxa q1 r1 hva1 hva2 hln
 unfold nO at hW0
 unfold Nd.v
 go_enter Tryz.func22,Tryz.ntmps22
 go_wp2_with fail
 go_at_call 47
 refine CG.mono ?_
 rintro e W1 ⟨rfl,V1,k1,k2⟩
 change Wv wb B W1 (d.give dflt p) V1 at k1
 clear CG y1 y2 y3 y4 n0 n1 n2 n3 hW0
 have m1:=H0.out.kept k2 M0.out (by decide)
 have kk:=K0.out.trans k2
 obtain ⟨⟨n0,n1,n2,n3⟩,_⟩:=box4 m1
 obtain ⟨y1,y2,y3,y4⟩:=HQ1.out _ _ kk
 obtain ⟨W2,hW2⟩ : ∃ X,W1.alloc (nO a (.slice af a.ks.length cf))=X:=⟨_,rfl⟩
 have b2 : Below W1.heap.size W1 W2:=by rw [← hW2];exact bel_a _ _
 have m2 : W2.heap[W1.heap.size]?=some (nO a (.slice af a.ks.length cf)):=by rw [← hW2];exact hnew _ rfl
 have H2 : Hid (Wv wb B W2 (d.give dflt p) V1):=k1.bel b2
 have K2 : Hid (Kw wb V W V1 W2):=kk.trans (Kw.of b2)
 obtain ⟨⟨z0,z1,z2,z3⟩,_⟩:=box4 m2
 have l1:=(give_len d dflt p).1
 have l2:=(give_len d dflt p).2
 rw [hf1] at y4
 clear m1 kk k1 k2 m2 b2
 unfold nO at hW2
 by_cases w : a.k=41 ∨ a.k=42
 ·rcases w with w | w
  ·have ea : (a.k == 41)=true:=by rw [w];decide
   have HR1' : Hid (dtop x p it d=dtop0 a (p+1) it (d.give dflt p)):=by show _=_;rw [HR.out,if_pos (by rw [w];decide)]
   have CT:=wtops_dec a (p+1) it (by rw [w];decide) wb B W2 _ V1 f1 H2.out (HR1.out _ _ K2.out) (by rw [l1];omega) (by omega)
   unfold Nd.v at CT
   clear HR w
   subst hf1
   go_wp2_with fail
   go_at_call 22
   refine CT.mono ?_
   rintro e W3 ⟨rfl,V3,k3,k4⟩
   clear CT
   go_wp2
   go_end0
   exact ⟨rfl,V3,by rw [HR1'.out];exact k3,K2.out.trans k4⟩
  ·have ea : (a.k == 41)=false:=by rw [w];decide
   have eb : (a.k == 42)=true:=by rw [w];decide
   have HR1' : Hid (dtop x p it d=dtop0 a (p+1) it (d.give dflt p)):=by show _=_;rw [HR.out,if_pos (by rw [w];decide)]
   have CT:=wtops_dec a (p+1) it (by rw [w];decide) wb B W2 _ V1 f1 H2.out (HR1.out _ _ K2.out) (by rw [l1];omega) (by omega)
   unfold Nd.v at CT
   clear HR w
   subst hf1
   go_wp2_with fail
   go_at_call 22
   refine CT.mono ?_
   rintro e W3 ⟨rfl,V3,k3,k4⟩
   clear CT
   go_wp2
   go_end0
   exact ⟨rfl,V3,by rw [HR1'.out];exact k3,K2.out.trans k4⟩
 ·have ea : (a.k == 41)=false:=by simpa using fun z=>w (.inl z)
  have eb : (a.k == 42)=false:=by simpa using fun z=>w (.inr z)
  have HR1' : Hid (dtop x p it d=(d.give dflt p).declare dflt 63 p it true):=by show _=_;rw [HR.out,if_neg w]
  have CT:=wdeclare_any H2.out dflt 63 p it false (by rw [l1];omega)
  unfold dflt at CT
  clear HR w
  subst hf1
  go_wp2_with fail
  go_at_call 46
  refine CT.mono ?_
  rintro e W3 ⟨rfl,V3,k3,k4⟩
  clear CT
  go_wp2
  go_end0
  exact ⟨rfl,V3,by rw [HR1'.out];exact k3,K2.out.trans k4⟩
end Go.Proofs.YtfcocoadaajbjaaGreatDoor
