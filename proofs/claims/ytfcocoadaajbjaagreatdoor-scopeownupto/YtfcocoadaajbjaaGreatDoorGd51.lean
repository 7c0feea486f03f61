/- Own text. ScopeOwn: the statement's walk. ScopeOwn: the walk as the law asks it. -/
import Derived.Test.YtfcocoadaajbjaaGreatDoorGd50
import Derived.Test.YtfcocoadaajbjaaGreatDoorGd24
import Derived.Test.YtfcocoadaajbjaaGreatDoorGd28
import Derived.Test.YtfcocoadaajbjaaGreatDoorGd42
import Derived.Deep.AppendLies
import Derived.Deep.DeepCutAuto
set_option linter.unusedVariables false
set_option linter.unusedSimpArgs false
set_option maxRecDepth 100000
set_option maxHeartbeats 32000000
namespace Go.Proofs.YtfcocoadaajbjaaGreatDoor
open Go.RowKit Go.MapKept
theorem own_walk (x : Nd) (v : Value) (W : World) (hx : LAt W (fun b=>b < W.heap.size) v x.ks) (hz : x.size ≤ 1048576) (tx : x.tx) (he : WEnv W) : Calls Tryz.prog 6 #[x.v v] W fun e W'=>e = .returned (.bool true)∧Below W.heap.size W W':=by
 obtain ⟨av,cv,rfl⟩:=hx.sl
 obtain ⟨W0,hW0⟩ : ∃ X,W.alloc (nO x (.slice av x.ks.length cv))=X:=⟨_,rfl⟩
 have b0 : Below W.heap.size W W0:=by rw [← hW0];exact bel_a _ _
 have m0 : W0.heap[W.heap.size]?=some (nO x (.slice av x.ks.length cv)):=by rw [← hW0];exact hnew _ rfl
 have CP : Hid (∀ X,LAt X (fun b=>b < X.heap.size) (.slice av x.ks.length cv) x.ks→WEnv X→Calls Tryz.prog 7 #[.agg #[.int .i64 x.k,.string x.t,.int .i64 x.n,.slice av x.ks.length cv]] X fun e W'=>Below X.heap.size X W'∧∃ vt vu a b,e = .returned (.tuple #[.agg #[vt,vu],.int .i64 a,.int .i64 b])∧W'.ownsRow X.heap.size 43 5 vt (tL x).length (tpV (tL x))∧W'.ownsRow X.heap.size 37 5 vu (uL x).length (usV (uL x))):=fun X h e=>pres_rows x _ X h (by omega) tx e
 have CD : Hid (∀ X,LAt X (fun b=>b < X.heap.size) (.slice av x.ks.length cv) x.ks→Calls Tryz.prog 8 #[.agg #[.int .i64 x.k,.string x.t,.int .i64 x.n,.slice av x.ks.length cv]] X fun e W'=>Below X.heap.size X W'∧∃ vt vu a b,e = .returned (.tuple #[.agg #[vt,vu],.int .i64 a,.int .i64 b])∧W'.ownsRow X.heap.size 43 5 vt (tL x).length (tpV (tL x))∧W'.ownsRow X.heap.size 37 5 vu (uL x).length (usV (uL x))):=fun X h=>rres_rows x _ X h (by omega) tx
 obtain ⟨⟨n0,n1,n2,n3⟩,_⟩:=box4 m0
 have HX : Hid (LAt W (fun b=>b < W.heap.size) (.slice av x.ks.length cv) x.ks):=hx
 have HE : Hid (WEnv W):=he
 obtain ⟨lT,lU⟩:=tu_len x
 generalize tL x=T at *
 generalize uL x=U at *
 have lT : T.length ≤ 1048576:=by omega
 have lU : U.length ≤ 1048576:=by omega
 have CR:=CP.out W0 (lat_up hx b0) (he.bel b0)
 have BX0 : Hid (Below W.heap.size W W0):=b0
 have M0 : Hid (W0.heap[W.heap.size]?=some (nO x (.slice av x.ks.length cv))):=m0
 clear b0 m0 hx he tx
 unfold nO at hW0
 unfold Nd.v
 go_enter Tryz.func6,Tryz.ntmps6
 go_wp2_with fail
 go_at_call 7
 refine CR.mono ?_
 rintro e W1 ⟨b1,vt1,vu1,p1,q1,rfl,rt1,ru1⟩
 clear CR hW0 n0 n1 n2 n3
 obtain ⟨at1,ct1,rfl⟩:=rw_form rt1
 obtain ⟨au1,cu1,rfl⟩:=rw_form ru1
 obtain ⟨X1,hX1⟩ : ∃ X,W1.alloc (Obj.cells #[.slice at1 T.length ct1,.slice au1 U.length cu1] 28)=X:=⟨_,rfl⟩
 have y1 : Below W1.heap.size W1 X1:=by rw [← hX1];exact bel_a _ _
 have k1 : X1.heap[W1.heap.size]?=some (Obj.cells #[.slice at1 T.length ct1,.slice au1 U.length cu1] 28 (0,0)):=by rw [← hX1];exact hnew _ rfl
 have v1:=below_tr b1 y1
 have bX1:=below_tr BX0.out v1
 have m1:=(v1.block _ (gl M0.out)).trans M0.out
 obtain ⟨⟨n0,n1,n2,n3⟩,_⟩:=box4 m1
 have CR:=CP.out X1 (lat_up HX.out bX1) (HE.out.bel bX1)
 have RT1 : Hid (X1.ownsRow W0.heap.size 43 5 (.slice at1 T.length ct1) T.length (tpV T)):=row_bel rt1 y1
 have RU1 : Hid (X1.ownsRow W0.heap.size 37 5 (.slice au1 U.length cu1) U.length (usV U)):=row_bel ru1 y1
 have K1 : Hid (X1.heap[W1.heap.size]?=some (Obj.cells #[.slice at1 T.length ct1,.slice au1 U.length cu1] 28 (0,0))):=k1
 have BX1 : Hid (Below W.heap.size W X1):=bX1
 have M1 : Hid (X1.heap[W.heap.size]?=some (nO x (.slice av x.ks.length cv))):=m1
 have V1 : Hid (Below W0.heap.size W0 X1):=v1
 have Z1 : Hid (W0.heap.size ≤ W1.heap.size∧W1.heap.size < X1.heap.size):=⟨b1.size,gl k1⟩
 have LT1 : Hid (∀ b,(Value.slice at1 T.length ct1).ownBlock=some b→W0.heap.size ≤ b∧b < W1.heap.size):=rt1.lt
 have LU1 : Hid (∀ b,(Value.slice au1 U.length cu1).ownBlock=some b→W0.heap.size ≤ b∧b < W1.heap.size):=ru1.lt
 clear rt1 ru1 b1 y1 k1 v1 bX1 m1 M0
 go_wp2_with fail
 go_at_call 7
 refine CR.mono ?_
 rintro e W2 ⟨b1,vt2,vu2,p2,q2,rfl,rt1,ru1⟩
 clear CR hX1 n0 n1 n2 n3
 obtain ⟨at2,ct2,rfl⟩:=rw_form rt1
 obtain ⟨au2,cu2,rfl⟩:=rw_form ru1
 obtain ⟨X2,hX2⟩ : ∃ X,W2.alloc (Obj.cells #[.slice at2 T.length ct2,.slice au2 U.length cu2] 28)=X:=⟨_,rfl⟩
 have y1 : Below W2.heap.size W2 X2:=by rw [← hX2];exact bel_a _ _
 have k1 : X2.heap[W2.heap.size]?=some (Obj.cells #[.slice at2 T.length ct2,.slice au2 U.length cu2] 28 (0,0)):=by rw [← hX2];exact hnew _ rfl
 have v1:=below_tr b1 y1
 have bX1:=below_tr BX1.out v1
 have m1:=(v1.block _ (gl M1.out)).trans M1.out
 obtain ⟨⟨n0,n1,n2,n3⟩,_⟩:=box4 m1
 have CR:=CD.out X2 (lat_up HX.out bX1)
 have RT2 : Hid (X2.ownsRow X1.heap.size 43 5 (.slice at2 T.length ct2) T.length (tpV T)):=row_bel rt1 y1
 have RU2 : Hid (X2.ownsRow X1.heap.size 37 5 (.slice au2 U.length cu2) U.length (usV U)):=row_bel ru1 y1
 have K2 : Hid (X2.heap[W2.heap.size]?=some (Obj.cells #[.slice at2 T.length ct2,.slice au2 U.length cu2] 28 (0,0))):=k1
 have BX2 : Hid (Below W.heap.size W X2):=bX1
 have M2 : Hid (X2.heap[W.heap.size]?=some (nO x (.slice av x.ks.length cv))):=m1
 have V2 : Hid (Below X1.heap.size X1 X2):=v1
 have Z2 : Hid (X1.heap.size ≤ W2.heap.size∧W2.heap.size < X2.heap.size):=⟨b1.size,gl k1⟩
 clear rt1 ru1 b1 y1 k1 v1 bX1 m1 M1 BX1
 go_wp2_with fail
 go_at_call 8
 refine CR.mono ?_
 rintro e W3 ⟨b1,vt3,vu3,p3,q3,rfl,rt1,ru1⟩
 clear CR hX2 n0 n1 n2 n3
 obtain ⟨at3,ct3,rfl⟩:=rw_form rt1
 obtain ⟨au3,cu3,rfl⟩:=rw_form ru1
 obtain ⟨X3,hX3⟩ : ∃ X,W3.alloc (Obj.cells #[.slice at3 T.length ct3,.slice au3 U.length cu3] 28)=X:=⟨_,rfl⟩
 have y1 : Below W3.heap.size W3 X3:=by rw [← hX3];exact bel_a _ _
 have k1 : X3.heap[W3.heap.size]?=some (Obj.cells #[.slice at3 T.length ct3,.slice au3 U.length cu3] 28 (0,0)):=by rw [← hX3];exact hnew _ rfl
 have v1:=below_tr b1 y1
 have bX1:=below_tr BX2.out v1
 have m1:=(v1.block _ (gl M2.out)).trans M2.out
 obtain ⟨⟨n0,n1,n2,n3⟩,_⟩:=box4 m1
 have RT3 : Hid (X3.ownsRow X2.heap.size 43 5 (.slice at3 T.length ct3) T.length (tpV T)):=row_bel rt1 y1
 have RU3 : Hid (X3.ownsRow X2.heap.size 37 5 (.slice au3 U.length cu3) U.length (usV U)):=row_bel ru1 y1
 have K3 : Hid (X3.heap[W3.heap.size]?=some (Obj.cells #[.slice at3 T.length ct3,.slice au3 U.length cu3] 28 (0,0))):=k1
 have BX3 : Hid (Below W.heap.size W X3):=bX1
 have M3 : Hid (X3.heap[W.heap.size]?=some (nO x (.slice av x.ks.length cv))):=m1
 have V3 : Hid (Below X2.heap.size X2 X3):=v1
 have Z3 : Hid (X2.heap.size ≤ W3.heap.size∧W3.heap.size < X3.heap.size):=⟨b1.size,gl k1⟩
 clear rt1 ru1 b1 y1 k1 v1 bX1 m1 M2 BX2
 clear n0 n1 n2 n3 M3 CP CD
 have HA : Hid (∀ X,Kpt (fun b=>W0.heap.size ≤ b∧b < W1.heap.size) X3 X→X.cell? ⟨W1.heap.size,0,none⟩=some (.slice at1 T.length ct1)∧X.cell? ⟨W1.heap.size,1,none⟩=some (.slice au1 U.length cu1)):=fun X k=>by
  have h:=(k.block W1.heap.size (by have:=Z1.out.2;have:=V2.out.size;have:=V3.out.size;omega) (by omega)).trans ((V3.out.block _ (by have:=Z1.out.2;have:=V2.out.size;omega)).trans ((V2.out.block _ Z1.out.2).trans K1.out))
  constructor <;> simp [World.cell?,h]
 have HB : Hid (∀ X,Kpt (fun b=>W0.heap.size ≤ b∧b < W1.heap.size) X3 X→X.cell? ⟨W2.heap.size,0,none⟩=some (.slice at2 T.length ct2)∧X.cell? ⟨W2.heap.size,1,none⟩=some (.slice au2 U.length cu2)):=fun X k=>by
  have h:=(k.block W2.heap.size (by have:=Z2.out.2;have:=V3.out.size;omega) (by have:=Z1.out.2;have:=Z2.out.1;omega)).trans ((V3.out.block _ Z2.out.2).trans K2.out)
  constructor <;> simp [World.cell?,h]
 have HC : Hid (∀ X,Kpt (fun b=>W0.heap.size ≤ b∧b < W1.heap.size) X3 X→X.cell? ⟨W3.heap.size,0,none⟩=some (.slice at3 T.length ct3)∧X.cell? ⟨W3.heap.size,1,none⟩=some (.slice au3 U.length cu3)):=fun X k=>by
  have h:=(k.block W3.heap.size Z3.out.2 (by have:=Z1.out.2;have:=Z2.out;have:=Z3.out.1;omega)).trans K3.out
  constructor <;> simp [World.cell?,h]
 have HR : Hid (∀ X,Kpt (fun b=>W0.heap.size ≤ b∧b < W1.heap.size) X3 X→(X.ownsRow X1.heap.size 43 5 (.slice at2 T.length ct2) T.length (tpV T)∧X.ownsRow X1.heap.size 37 5 (.slice au2 U.length cu2) U.length (usV U))∧X.ownsRow X2.heap.size 43 5 (.slice at3 T.length ct3) T.length (tpV T)∧X.ownsRow X2.heap.size 37 5 (.slice au3 U.length cu3) U.length (usV U)):=fun X k=>by
  have l1:=Z1.out.2
  have l2:=V2.out.size
  exact ⟨⟨row_kpt (row_bel RT2.out V3.out) k (fun b h=>by omega),row_kpt (row_bel RU2.out V3.out) k (fun b h=>by omega)⟩,row_kpt RT3.out k (fun b h=>by omega),row_kpt RU3.out k (fun b h=>by omega)⟩
 have SP : Hid (Spo W0.heap.size W1.heap.size X3 (.slice at1 T.length ct1) (.slice au1 U.length cu1) T.length U.length X3):=⟨⟨_,row_bel (row_bel RT1.out V2.out) V3.out⟩,⟨_,row_bel (row_bel RU1.out V2.out) V3.out⟩,Kpt.refl _ _⟩
 have ZW : Hid (W.heap.size ≤ W0.heap.size∧W1.heap.size ≤ X3.heap.size):=⟨BX0.out.size,by have:=Z1.out.2;have:=V2.out.size;have:=V3.out.size;omega⟩
 have ZV : Hid (W0.heap.size ≤ W1.heap.size):=Z1.out.1
 have HQ : Hid (∀ X,Kpt (fun b=>W0.heap.size ≤ b∧b < W1.heap.size) X3 X→Below W.heap.size W X):=fun X k=>BX3.out.trans (k.bel BX3.out.size (fun b hb w=>by have:=ZW.out.1;omega))
 obtain ⟨s0,s1⟩:=HA.out X3 (Kpt.refl _ _)
 clear RT1 RU1 RT2 RU2 RT3 RU3 K1 K2 K3 V1 V2 V3 Z1 Z2 Z3 BX3 BX0
 go_wp2
 clear hX3
 go_loopw [12] (fun v12 wo=>∃ k : Nat,v12 = .int .i64 (k : Nat)∧k ≤ T.length∧Hid (Spo W0.heap.size W1.heap.size X3 (.slice at1 T.length ct1) (.slice au1 U.length cu1) T.length U.length wo)) (fun v12 _=>T.length - (intOf v12).toNat)
 case atStart=>exact ⟨0,rfl,by omega,SP⟩
 case round =>
  obtain ⟨k,rfl,hk,HP⟩:=hrel
  clear s0 s1
  obtain ⟨s0,s1⟩:=HA.out wr HP.out.k
  by_cases hkl : k < T.length
  ·have hd : (k : Int) < (T.length : Int):=by omega
   obtain ⟨xs,ho⟩:=HP.out.t
   obtain ⟨g,c,e,_,_⟩:=ho.form (by omega)
   injection e with e1 e2 e3
   subst e1
   obtain ⟨⟨v0,v1,v2,v3,v4,h0,h1,h2,h3,h4⟩,fz⟩:=five_has ho hkl
   have f0:=fz (k * 5)
   have f1:=fz (k * 5+1)
   have f2:=fz (k * 5+2)
   have f3:=fz (k * 5+3)
   have f4:=fz (k * 5+4)
   have HN:=fun q0 q1 q2 q3 q4=>((((HP.out.st (LT1.out g rfl) (k * 5) q0).st (LT1.out g rfl) (k * 5+1) q1).st (LT1.out g rfl) (k * 5+2) q2).st (LT1.out g rfl) (k * 5+3) q3).st (LT1.out g rfl) (k * 5+4) q4
   have HN : Hid _:=HN
   clear ho fz e3
   go_wp2
   go_roundw
   case rel=>exact ⟨k+1,by simp,by omega,HN.out _ _ _ _ _⟩
   case measure=>simp [intOf];omega
  ·obtain rfl : k=T.length:=by omega
   have hd : ¬ ((T.length : Nat) : Int) < ((T.length : Nat) : Int):=by omega
   go_wp2
   go_loopw [13] (fun v13 wo=>∃ k : Nat,v13 = .int .i64 (k : Nat)∧k ≤ U.length∧Hid (Spo W0.heap.size W1.heap.size X3 (.slice at1 T.length ct1) (.slice au1 U.length cu1) T.length U.length wo)) (fun v13 _=>U.length - (intOf v13).toNat)
   case atStart=>exact ⟨0,rfl,by omega,HP⟩
   case round =>
    obtain ⟨k,rfl,hk,HP⟩:=hrel
    clear s0 s1
    obtain ⟨s0,s1⟩:=HA.out wr HP.out.k
    by_cases hkl : k < U.length
    ·have hd : (k : Int) < (U.length : Int):=by omega
     obtain ⟨xs,ho⟩:=HP.out.u
     obtain ⟨g,c,e,_,_⟩:=ho.form (by omega)
     injection e with e1 e2 e3
     subst e1
     obtain ⟨⟨v0,v1,v2,v3,v4,h0,h1,h2,h3,h4⟩,fz⟩:=five_has ho hkl
     have f0:=fz (k * 5)
     have f1:=fz (k * 5+1)
     have f2:=fz (k * 5+2)
     have f3:=fz (k * 5+3)
     have f4:=fz (k * 5+4)
     have HN:=fun q0 q1 q2 q3 q4=>((((HP.out.su (LU1.out g rfl) (k * 5) q0).su (LU1.out g rfl) (k * 5+1) q1).su (LU1.out g rfl) (k * 5+2) q2).su (LU1.out g rfl) (k * 5+3) q3).su (LU1.out g rfl) (k * 5+4) q4
     have HN : Hid _:=HN
     clear ho fz e3
     go_wp2
     go_roundw
     case rel=>exact ⟨k+1,by simp,by omega,HN.out _ _ _ _ _⟩
     case measure=>simp [intOf];omega
    ·obtain rfl : k=U.length:=by omega
     have hd : ¬ ((U.length : Nat) : Int) < ((U.length : Nat) : Int):=by omega
     go_upto_region 12 with fail
     go_cut [14,15] (fun u14 u15 Y=>∃ g c g' c',u14 = .slice (some ⟨g,0,none⟩) (T.length+2) c∧u15 = .slice (some ⟨g',0,none⟩) (U.length+2) c'∧Hid (Kpt (fun b=>W0.heap.size ≤ b∧b < W1.heap.size) X3 Y))
     case first =>
      obtain ⟨i0,hi0,hz0,hz1,hz2⟩:=info_parts info_tp
      obtain ⟨i0',hi0',hz0',hz1',hz2'⟩:=info_parts info_us
      obtain ⟨xs,hot⟩:=HP.out.t
      obtain ⟨ys,hou⟩:=HP.out.u
      have kp0 : Hid (Kpt (fun b=>W0.heap.size ≤ b∧b < W1.heap.size) X3 (World.drew wr)):=HP.out.k.drew
      have ot0 : Hid ((World.drew wr).ownsRow W0.heap.size 43 5 (.slice at1 T.length ct1) T.length xs):=hot.drew
      have ou0 : Hid ((World.drew wr).ownsRow W0.heap.size 37 5 (.slice au1 U.length cu1) U.length ys):=hou.drew
      refine region_held (fun X=>X.cell? ⟨W1.heap.size,0,none⟩=some (.slice at1 T.length ct1)∧X.cell? ⟨W1.heap.size,1,none⟩=some (.slice au1 U.length cu1)) (by kernel_rfl) (HA.out _ kp0.out) (fun hS=>?_)
      clear HP hot hou s0 s1 HB HC HR SP HQ HE HX
      generalize World.drew wr=D0 at *
      refine tH 0 ?_
      simp only [List.set]
      refine tH 1 ?_
      simp only [List.set]
      refine tH 2 ?_
      simp only [List.set]
      refine tH 3 ?_
      simp only [List.set]
      refine tH 6 ?_
      simp only [List.set]
      refine tH 7 ?_
      simp only [List.set]
      refine tH 8 ?_
      simp only [List.set]
      refine tH 9 ?_
      simp only [List.set]
      refine wpAnyH_ready (rs:=[4,10]) (by kernel_rfl) (by simp) ?_
      refine AllReadyH.cons rfl (fun K hK=>?_) (AllReadyH.cons rfl (fun K hK=>?_) AllReadyH.nil)
      ·go_simp
       refine hK.out _ _ (HA.out (D0.alloc (Obj.cells #[.string ⟨#[]⟩,.int .i64 0,.int .i64 0,.int .i64 0,.bool false,.string ⟨#[]⟩,.int .i64 0,.int .i64 0,.int .i64 0,.bool false] 43)) (kp0.out.al _)) (fun hS=>?_)
       have kp1 : Hid (Kpt (fun b=>W0.heap.size ≤ b∧b < W1.heap.size) X3 (D0.alloc (Obj.cells #[.string ⟨#[]⟩,.int .i64 0,.int .i64 0,.int .i64 0,.bool false,.string ⟨#[]⟩,.int .i64 0,.int .i64 0,.int .i64 0,.bool false] 43))):=kp0.out.al _
       have z1 : Hid ((D0.alloc (Obj.cells #[.string ⟨#[]⟩,.int .i64 0,.int .i64 0,.int .i64 0,.bool false,.string ⟨#[]⟩,.int .i64 0,.int .i64 0,.int .i64 0,.bool false] 43)).heap[D0.heap.size]?=some (Obj.cells #[.string ⟨#[]⟩,.int .i64 0,.int .i64 0,.int .i64 0,.bool false,.string ⟨#[]⟩,.int .i64 0,.int .i64 0,.int .i64 0,.bool false] 43 (0,0))):=hnew _ rfl
       have n1 : Hid (X3.heap.size ≤ D0.heap.size):=kp0.out.size
       have ot1 : Hid ((D0.alloc (Obj.cells #[.string ⟨#[]⟩,.int .i64 0,.int .i64 0,.int .i64 0,.bool false,.string ⟨#[]⟩,.int .i64 0,.int .i64 0,.int .i64 0,.bool false] 43)).ownsRow W0.heap.size 43 5 (.slice at1 T.length ct1) T.length xs):=ot0.out.alloc _
       have ou1 : Hid ((D0.alloc (Obj.cells #[.string ⟨#[]⟩,.int .i64 0,.int .i64 0,.int .i64 0,.bool false,.string ⟨#[]⟩,.int .i64 0,.int .i64 0,.int .i64 0,.bool false] 43)).ownsRow W0.heap.size 37 5 (.slice au1 U.length cu1) U.length ys):=ou0.out.alloc _
       clear hK K
       generalize (D0.alloc (Obj.cells #[.string ⟨#[]⟩,.int .i64 0,.int .i64 0,.int .i64 0,.bool false,.string ⟨#[]⟩,.int .i64 0,.int .i64 0,.int .i64 0,.bool false] 43))=D1 at *
       refine wpAnyH_ready (rs:=[5,10]) (by kernel_rfl) (by simp) ?_
       refine AllReadyH.cons rfl (fun K hK=>?_) (AllReadyH.cons rfl (fun K hK=>?_) AllReadyH.nil)
       ·have sB2 : W0.heap.size ≤ D1.heap.size:=(by have:=kp1.out.size;have:=ZW.out.2;have:=ZV.out;omega)
        refine step_append_lies _ (by rfl) _ _ _ (by rfl) W0.heap.size 43 i0 _ 5 48 Tryz.underlying25 hi0 hz0 hz1 hz2 rfl (by omega) _ T.length xs (by rfl) ot1.out ⟨D0.heap.size,0,none⟩ 2 2 [.string ⟨#[]⟩,.int .i64 0,.int .i64 0,.int .i64 0,.bool false,.string ⟨#[]⟩,.int .i64 0,.int .i64 0,.int .i64 0,.bool false] (by rfl) (by rfl) (World.news_of_block (cs:=#[.string ⟨#[]⟩,.int .i64 0,.int .i64 0,.int .i64 0,.bool false,.string ⟨#[]⟩,.int .i64 0,.int .i64 0,.int .i64 0,.bool false]) (t:=43) (fr:=(0,0)) z1.out) (by simp [Value.oneCell']) (by omega) (by unfold maxLen;omega) (by omega) sB2 _ rfl ?_
        intro g2 c2 D2 ho2 hg2 ha2 hl2
        have kp2 : Hid (Kpt (fun b=>W0.heap.size ≤ b∧b < W1.heap.size) X3 D2):=grown_t kp1.out hg2 LT1.out
        refine hK.out _ _ (HA.out D2 kp2.out) (fun hS=>?_)
        have ou2 : Hid (D2.ownsRow W0.heap.size 37 5 (.slice au1 U.length cu1) U.length ys):=ou1.out.kept hg2 (rows_nu ot1.out ou1.out)
        clear hK K ho2 hg2 ha2 hl2 sB2
        refine wpAnyH_ready (rs:=[10]) (by kernel_rfl) (by simp) ?_
        refine AllReadyH.cons rfl (fun K hK=>?_) AllReadyH.nil
        go_simp
        refine hK.out _ _ (HA.out (D2.alloc (Obj.cells #[.int .i64 0,.int .i64 0,.int .i64 0,.string ⟨#[]⟩,.bool false,.int .i64 0,.int .i64 0,.int .i64 0,.string ⟨#[]⟩,.bool false] 37)) (kp2.out.al _)) (fun hS=>?_)
        have kp3 : Hid (Kpt (fun b=>W0.heap.size ≤ b∧b < W1.heap.size) X3 (D2.alloc (Obj.cells #[.int .i64 0,.int .i64 0,.int .i64 0,.string ⟨#[]⟩,.bool false,.int .i64 0,.int .i64 0,.int .i64 0,.string ⟨#[]⟩,.bool false] 37))):=kp2.out.al _
        have z3 : Hid ((D2.alloc (Obj.cells #[.int .i64 0,.int .i64 0,.int .i64 0,.string ⟨#[]⟩,.bool false,.int .i64 0,.int .i64 0,.int .i64 0,.string ⟨#[]⟩,.bool false] 37)).heap[D2.heap.size]?=some (Obj.cells #[.int .i64 0,.int .i64 0,.int .i64 0,.string ⟨#[]⟩,.bool false,.int .i64 0,.int .i64 0,.int .i64 0,.string ⟨#[]⟩,.bool false] 37 (0,0))):=hnew _ rfl
        have n3 : Hid (X3.heap.size ≤ D2.heap.size):=kp2.out.size
        have ou3 : Hid ((D2.alloc (Obj.cells #[.int .i64 0,.int .i64 0,.int .i64 0,.string ⟨#[]⟩,.bool false,.int .i64 0,.int .i64 0,.int .i64 0,.string ⟨#[]⟩,.bool false] 37)).ownsRow W0.heap.size 37 5 (.slice au1 U.length cu1) U.length ys):=ou2.out.alloc _
        clear hK K
        generalize (D2.alloc (Obj.cells #[.int .i64 0,.int .i64 0,.int .i64 0,.string ⟨#[]⟩,.bool false,.int .i64 0,.int .i64 0,.int .i64 0,.string ⟨#[]⟩,.bool false] 37))=D3 at *
        refine wpAnyH_ready (rs:=[11]) (by kernel_rfl) (by simp) ?_
        refine AllReadyH.cons rfl (fun K hK=>?_) AllReadyH.nil
        have sB4 : W0.heap.size ≤ D3.heap.size:=(by have:=kp3.out.size;have:=ZW.out.2;have:=ZV.out;omega)
        refine step_append_lies _ (by rfl) _ _ _ (by rfl) W0.heap.size 37 i0' _ 5 48 Tryz.underlying26 hi0' hz0' hz1' hz2' rfl (by omega) _ U.length ys (by rfl) ou3.out ⟨D2.heap.size,0,none⟩ 2 2 [.int .i64 0,.int .i64 0,.int .i64 0,.string ⟨#[]⟩,.bool false,.int .i64 0,.int .i64 0,.int .i64 0,.string ⟨#[]⟩,.bool false] (by rfl) (by rfl) (World.news_of_block (cs:=#[.int .i64 0,.int .i64 0,.int .i64 0,.string ⟨#[]⟩,.bool false,.int .i64 0,.int .i64 0,.int .i64 0,.string ⟨#[]⟩,.bool false]) (t:=37) (fr:=(0,0)) z3.out) (by simp [Value.oneCell']) (by omega) (by unfold maxLen;omega) (by omega) sB4 _ rfl ?_
        intro g4 c4 D4 ho4 hg4 ha4 hl4
        have kp4 : Hid (Kpt (fun b=>W0.heap.size ≤ b∧b < W1.heap.size) X3 D4):=grown_t kp3.out hg4 LU1.out
        refine hK.out _ _ (HA.out D4 kp4.out) (fun hS=>?_)
        clear hK K ho4 hg4 ha4 hl4 sB4
        refine wpAnyH_take (i:=12) (v:=.slice (some ⟨g2,0,none⟩) (T.length+2) c2) rfl (by kernel_rfl) (by kernel_rfl) (by kernel_rfl) (fun _ _ _ h=>h) (Or.inl ⟨by rfl,fun w _=>by go_simp⟩) hS ?_
        refine wpAnyH_take (i:=13) (v:=.slice (some ⟨g4,0,none⟩) (U.length+2) c4) rfl (by kernel_rfl) (by kernel_rfl) (by kernel_rfl) (fun _ _ _ h=>h) (Or.inl ⟨by rfl,fun w _=>by go_simp⟩) hS ?_
        refine wpAnyH_done (by kernel_rfl) ?_ _
        clear HA LT1 LU1 hS
        go_wp2
        go_meet
        exact ⟨g2,c2,g4,c4,rfl,rfl,kp4⟩
       ·go_simp
        refine hK.out _ _ (HA.out (D1.alloc (Obj.cells #[.int .i64 0,.int .i64 0,.int .i64 0,.string ⟨#[]⟩,.bool false,.int .i64 0,.int .i64 0,.int .i64 0,.string ⟨#[]⟩,.bool false] 37)) (kp1.out.al _)) (fun hS=>?_)
        have kp5 : Hid (Kpt (fun b=>W0.heap.size ≤ b∧b < W1.heap.size) X3 (D1.alloc (Obj.cells #[.int .i64 0,.int .i64 0,.int .i64 0,.string ⟨#[]⟩,.bool false,.int .i64 0,.int .i64 0,.int .i64 0,.string ⟨#[]⟩,.bool false] 37))):=kp1.out.al _
        have z5 : Hid ((D1.alloc (Obj.cells #[.int .i64 0,.int .i64 0,.int .i64 0,.string ⟨#[]⟩,.bool false,.int .i64 0,.int .i64 0,.int .i64 0,.string ⟨#[]⟩,.bool false] 37)).heap[D1.heap.size]?=some (Obj.cells #[.int .i64 0,.int .i64 0,.int .i64 0,.string ⟨#[]⟩,.bool false,.int .i64 0,.int .i64 0,.int .i64 0,.string ⟨#[]⟩,.bool false] 37 (0,0))):=hnew _ rfl
        have n5 : Hid (X3.heap.size ≤ D1.heap.size):=kp1.out.size
        have ot5 : Hid ((D1.alloc (Obj.cells #[.int .i64 0,.int .i64 0,.int .i64 0,.string ⟨#[]⟩,.bool false,.int .i64 0,.int .i64 0,.int .i64 0,.string ⟨#[]⟩,.bool false] 37)).ownsRow W0.heap.size 43 5 (.slice at1 T.length ct1) T.length xs):=ot1.out.alloc _
        have ou5 : Hid ((D1.alloc (Obj.cells #[.int .i64 0,.int .i64 0,.int .i64 0,.string ⟨#[]⟩,.bool false,.int .i64 0,.int .i64 0,.int .i64 0,.string ⟨#[]⟩,.bool false] 37)).ownsRow W0.heap.size 37 5 (.slice au1 U.length cu1) U.length ys):=ou1.out.alloc _
        have y5 : Hid ((D1.alloc (Obj.cells #[.int .i64 0,.int .i64 0,.int .i64 0,.string ⟨#[]⟩,.bool false,.int .i64 0,.int .i64 0,.int .i64 0,.string ⟨#[]⟩,.bool false] 37)).heap[D0.heap.size]?=some (Obj.cells #[.string ⟨#[]⟩,.int .i64 0,.int .i64 0,.int .i64 0,.bool false,.string ⟨#[]⟩,.int .i64 0,.int .i64 0,.int .i64 0,.bool false] 43 (0,0))):=hold _ (gl z1.out) z1.out
        clear hK K
        generalize (D1.alloc (Obj.cells #[.int .i64 0,.int .i64 0,.int .i64 0,.string ⟨#[]⟩,.bool false,.int .i64 0,.int .i64 0,.int .i64 0,.string ⟨#[]⟩,.bool false] 37))=D5 at *
        refine wpAnyH_ready (rs:=[5]) (by kernel_rfl) (by simp) ?_
        refine AllReadyH.cons rfl (fun K hK=>?_) AllReadyH.nil
        have sB6 : W0.heap.size ≤ D5.heap.size:=(by have:=kp5.out.size;have:=ZW.out.2;have:=ZV.out;omega)
        refine step_append_lies _ (by rfl) _ _ _ (by rfl) W0.heap.size 43 i0 _ 5 48 Tryz.underlying25 hi0 hz0 hz1 hz2 rfl (by omega) _ T.length xs (by rfl) ot5.out ⟨D0.heap.size,0,none⟩ 2 2 [.string ⟨#[]⟩,.int .i64 0,.int .i64 0,.int .i64 0,.bool false,.string ⟨#[]⟩,.int .i64 0,.int .i64 0,.int .i64 0,.bool false] (by rfl) (by rfl) (World.news_of_block (cs:=#[.string ⟨#[]⟩,.int .i64 0,.int .i64 0,.int .i64 0,.bool false,.string ⟨#[]⟩,.int .i64 0,.int .i64 0,.int .i64 0,.bool false]) (t:=43) (fr:=(0,0)) y5.out) (by simp [Value.oneCell']) (by omega) (by unfold maxLen;omega) (by omega) sB6 _ rfl ?_
        intro g6 c6 D6 ho6 hg6 ha6 hl6
        have kp6 : Hid (Kpt (fun b=>W0.heap.size ≤ b∧b < W1.heap.size) X3 D6):=grown_t kp5.out hg6 LT1.out
        refine hK.out _ _ (HA.out D6 kp6.out) (fun hS=>?_)
        have ou6 : Hid (D6.ownsRow W0.heap.size 37 5 (.slice au1 U.length cu1) U.length ys):=ou5.out.kept hg6 (rows_nu ot5.out ou5.out)
        have y6 : Hid (D6.heap[D1.heap.size]?=some (Obj.cells #[.int .i64 0,.int .i64 0,.int .i64 0,.string ⟨#[]⟩,.bool false,.int .i64 0,.int .i64 0,.int .i64 0,.string ⟨#[]⟩,.bool false] 37 (0,0))):=(hg6.block _ (gl z5.out) (fun e=>by have:=(LT1.out _ e.symm).2;have:=n5.out;have:=ZW.out.2;omega)).trans z5.out
        clear hK K ho6 hg6 ha6 hl6 sB6
        refine wpAnyH_ready (rs:=[11]) (by kernel_rfl) (by simp) ?_
        refine AllReadyH.cons rfl (fun K hK=>?_) AllReadyH.nil
        have sB7 : W0.heap.size ≤ D6.heap.size:=(by have:=kp6.out.size;have:=ZW.out.2;have:=ZV.out;omega)
        refine step_append_lies _ (by rfl) _ _ _ (by rfl) W0.heap.size 37 i0' _ 5 48 Tryz.underlying26 hi0' hz0' hz1' hz2' rfl (by omega) _ U.length ys (by rfl) ou6.out ⟨D1.heap.size,0,none⟩ 2 2 [.int .i64 0,.int .i64 0,.int .i64 0,.string ⟨#[]⟩,.bool false,.int .i64 0,.int .i64 0,.int .i64 0,.string ⟨#[]⟩,.bool false] (by rfl) (by rfl) (World.news_of_block (cs:=#[.int .i64 0,.int .i64 0,.int .i64 0,.string ⟨#[]⟩,.bool false,.int .i64 0,.int .i64 0,.int .i64 0,.string ⟨#[]⟩,.bool false]) (t:=37) (fr:=(0,0)) y6.out) (by simp [Value.oneCell']) (by omega) (by unfold maxLen;omega) (by omega) sB7 _ rfl ?_
        intro g7 c7 D7 ho7 hg7 ha7 hl7
        have kp7 : Hid (Kpt (fun b=>W0.heap.size ≤ b∧b < W1.heap.size) X3 D7):=grown_t kp6.out hg7 LU1.out
        refine hK.out _ _ (HA.out D7 kp7.out) (fun hS=>?_)
        clear hK K ho7 hg7 ha7 hl7 sB7
        refine wpAnyH_take (i:=12) (v:=.slice (some ⟨g6,0,none⟩) (T.length+2) c6) rfl (by kernel_rfl) (by kernel_rfl) (by kernel_rfl) (fun _ _ _ h=>h) (Or.inl ⟨by rfl,fun w _=>by go_simp⟩) hS ?_
        refine wpAnyH_take (i:=13) (v:=.slice (some ⟨g7,0,none⟩) (U.length+2) c7) rfl (by kernel_rfl) (by kernel_rfl) (by kernel_rfl) (fun _ _ _ h=>h) (Or.inl ⟨by rfl,fun w _=>by go_simp⟩) hS ?_
        refine wpAnyH_done (by kernel_rfl) ?_ _
        clear HA LT1 LU1 hS
        go_wp2
        go_meet
        exact ⟨g6,c6,g7,c7,rfl,rfl,kp7⟩
      ·go_simp
       refine hK.out _ _ (HA.out (D0.alloc (Obj.cells #[.int .i64 0,.int .i64 0,.int .i64 0,.string ⟨#[]⟩,.bool false,.int .i64 0,.int .i64 0,.int .i64 0,.string ⟨#[]⟩,.bool false] 37)) (kp0.out.al _)) (fun hS=>?_)
       have kp8 : Hid (Kpt (fun b=>W0.heap.size ≤ b∧b < W1.heap.size) X3 (D0.alloc (Obj.cells #[.int .i64 0,.int .i64 0,.int .i64 0,.string ⟨#[]⟩,.bool false,.int .i64 0,.int .i64 0,.int .i64 0,.string ⟨#[]⟩,.bool false] 37))):=kp0.out.al _
       have z8 : Hid ((D0.alloc (Obj.cells #[.int .i64 0,.int .i64 0,.int .i64 0,.string ⟨#[]⟩,.bool false,.int .i64 0,.int .i64 0,.int .i64 0,.string ⟨#[]⟩,.bool false] 37)).heap[D0.heap.size]?=some (Obj.cells #[.int .i64 0,.int .i64 0,.int .i64 0,.string ⟨#[]⟩,.bool false,.int .i64 0,.int .i64 0,.int .i64 0,.string ⟨#[]⟩,.bool false] 37 (0,0))):=hnew _ rfl
       have n8 : Hid (X3.heap.size ≤ D0.heap.size):=kp0.out.size
       have ot8 : Hid ((D0.alloc (Obj.cells #[.int .i64 0,.int .i64 0,.int .i64 0,.string ⟨#[]⟩,.bool false,.int .i64 0,.int .i64 0,.int .i64 0,.string ⟨#[]⟩,.bool false] 37)).ownsRow W0.heap.size 43 5 (.slice at1 T.length ct1) T.length xs):=ot0.out.alloc _
       have ou8 : Hid ((D0.alloc (Obj.cells #[.int .i64 0,.int .i64 0,.int .i64 0,.string ⟨#[]⟩,.bool false,.int .i64 0,.int .i64 0,.int .i64 0,.string ⟨#[]⟩,.bool false] 37)).ownsRow W0.heap.size 37 5 (.slice au1 U.length cu1) U.length ys):=ou0.out.alloc _
       clear hK K
       generalize (D0.alloc (Obj.cells #[.int .i64 0,.int .i64 0,.int .i64 0,.string ⟨#[]⟩,.bool false,.int .i64 0,.int .i64 0,.int .i64 0,.string ⟨#[]⟩,.bool false] 37))=D8 at *
       refine wpAnyH_ready (rs:=[4]) (by kernel_rfl) (by simp) ?_
       refine AllReadyH.cons rfl (fun K hK=>?_) AllReadyH.nil
       go_simp
       refine hK.out _ _ (HA.out (D8.alloc (Obj.cells #[.string ⟨#[]⟩,.int .i64 0,.int .i64 0,.int .i64 0,.bool false,.string ⟨#[]⟩,.int .i64 0,.int .i64 0,.int .i64 0,.bool false] 43)) (kp8.out.al _)) (fun hS=>?_)
       have kp9 : Hid (Kpt (fun b=>W0.heap.size ≤ b∧b < W1.heap.size) X3 (D8.alloc (Obj.cells #[.string ⟨#[]⟩,.int .i64 0,.int .i64 0,.int .i64 0,.bool false,.string ⟨#[]⟩,.int .i64 0,.int .i64 0,.int .i64 0,.bool false] 43))):=kp8.out.al _
       have z9 : Hid ((D8.alloc (Obj.cells #[.string ⟨#[]⟩,.int .i64 0,.int .i64 0,.int .i64 0,.bool false,.string ⟨#[]⟩,.int .i64 0,.int .i64 0,.int .i64 0,.bool false] 43)).heap[D8.heap.size]?=some (Obj.cells #[.string ⟨#[]⟩,.int .i64 0,.int .i64 0,.int .i64 0,.bool false,.string ⟨#[]⟩,.int .i64 0,.int .i64 0,.int .i64 0,.bool false] 43 (0,0))):=hnew _ rfl
       have n9 : Hid (X3.heap.size ≤ D8.heap.size):=kp8.out.size
       have ot9 : Hid ((D8.alloc (Obj.cells #[.string ⟨#[]⟩,.int .i64 0,.int .i64 0,.int .i64 0,.bool false,.string ⟨#[]⟩,.int .i64 0,.int .i64 0,.int .i64 0,.bool false] 43)).ownsRow W0.heap.size 43 5 (.slice at1 T.length ct1) T.length xs):=ot8.out.alloc _
       have ou9 : Hid ((D8.alloc (Obj.cells #[.string ⟨#[]⟩,.int .i64 0,.int .i64 0,.int .i64 0,.bool false,.string ⟨#[]⟩,.int .i64 0,.int .i64 0,.int .i64 0,.bool false] 43)).ownsRow W0.heap.size 37 5 (.slice au1 U.length cu1) U.length ys):=ou8.out.alloc _
       have y9 : Hid ((D8.alloc (Obj.cells #[.string ⟨#[]⟩,.int .i64 0,.int .i64 0,.int .i64 0,.bool false,.string ⟨#[]⟩,.int .i64 0,.int .i64 0,.int .i64 0,.bool false] 43)).heap[D0.heap.size]?=some (Obj.cells #[.int .i64 0,.int .i64 0,.int .i64 0,.string ⟨#[]⟩,.bool false,.int .i64 0,.int .i64 0,.int .i64 0,.string ⟨#[]⟩,.bool false] 37 (0,0))):=hold _ (gl z8.out) z8.out
       clear hK K
       generalize (D8.alloc (Obj.cells #[.string ⟨#[]⟩,.int .i64 0,.int .i64 0,.int .i64 0,.bool false,.string ⟨#[]⟩,.int .i64 0,.int .i64 0,.int .i64 0,.bool false] 43))=D9 at *
       refine wpAnyH_ready (rs:=[5]) (by kernel_rfl) (by simp) ?_
       refine AllReadyH.cons rfl (fun K hK=>?_) AllReadyH.nil
       have sB10 : W0.heap.size ≤ D9.heap.size:=(by have:=kp9.out.size;have:=ZW.out.2;have:=ZV.out;omega)
       refine step_append_lies _ (by rfl) _ _ _ (by rfl) W0.heap.size 43 i0 _ 5 48 Tryz.underlying25 hi0 hz0 hz1 hz2 rfl (by omega) _ T.length xs (by rfl) ot9.out ⟨D8.heap.size,0,none⟩ 2 2 [.string ⟨#[]⟩,.int .i64 0,.int .i64 0,.int .i64 0,.bool false,.string ⟨#[]⟩,.int .i64 0,.int .i64 0,.int .i64 0,.bool false] (by rfl) (by rfl) (World.news_of_block (cs:=#[.string ⟨#[]⟩,.int .i64 0,.int .i64 0,.int .i64 0,.bool false,.string ⟨#[]⟩,.int .i64 0,.int .i64 0,.int .i64 0,.bool false]) (t:=43) (fr:=(0,0)) z9.out) (by simp [Value.oneCell']) (by omega) (by unfold maxLen;omega) (by omega) sB10 _ rfl ?_
       intro g10 c10 D10 ho10 hg10 ha10 hl10
       have kp10 : Hid (Kpt (fun b=>W0.heap.size ≤ b∧b < W1.heap.size) X3 D10):=grown_t kp9.out hg10 LT1.out
       refine hK.out _ _ (HA.out D10 kp10.out) (fun hS=>?_)
       have ou10 : Hid (D10.ownsRow W0.heap.size 37 5 (.slice au1 U.length cu1) U.length ys):=ou9.out.kept hg10 (rows_nu ot9.out ou9.out)
       have y10 : Hid (D10.heap[D0.heap.size]?=some (Obj.cells #[.int .i64 0,.int .i64 0,.int .i64 0,.string ⟨#[]⟩,.bool false,.int .i64 0,.int .i64 0,.int .i64 0,.string ⟨#[]⟩,.bool false] 37 (0,0))):=(hg10.block _ (gl y9.out) (fun e=>by have:=(LT1.out _ e.symm).2;have:=n8.out;have:=ZW.out.2;omega)).trans y9.out
       clear hK K ho10 hg10 ha10 hl10 sB10
       refine wpAnyH_ready (rs:=[11]) (by kernel_rfl) (by simp) ?_
       refine AllReadyH.cons rfl (fun K hK=>?_) AllReadyH.nil
       have sB11 : W0.heap.size ≤ D10.heap.size:=(by have:=kp10.out.size;have:=ZW.out.2;have:=ZV.out;omega)
       refine step_append_lies _ (by rfl) _ _ _ (by rfl) W0.heap.size 37 i0' _ 5 48 Tryz.underlying26 hi0' hz0' hz1' hz2' rfl (by omega) _ U.length ys (by rfl) ou10.out ⟨D0.heap.size,0,none⟩ 2 2 [.int .i64 0,.int .i64 0,.int .i64 0,.string ⟨#[]⟩,.bool false,.int .i64 0,.int .i64 0,.int .i64 0,.string ⟨#[]⟩,.bool false] (by rfl) (by rfl) (World.news_of_block (cs:=#[.int .i64 0,.int .i64 0,.int .i64 0,.string ⟨#[]⟩,.bool false,.int .i64 0,.int .i64 0,.int .i64 0,.string ⟨#[]⟩,.bool false]) (t:=37) (fr:=(0,0)) y10.out) (by simp [Value.oneCell']) (by omega) (by unfold maxLen;omega) (by omega) sB11 _ rfl ?_
       intro g11 c11 D11 ho11 hg11 ha11 hl11
       have kp11 : Hid (Kpt (fun b=>W0.heap.size ≤ b∧b < W1.heap.size) X3 D11):=grown_t kp10.out hg11 LU1.out
       refine hK.out _ _ (HA.out D11 kp11.out) (fun hS=>?_)
       clear hK K ho11 hg11 ha11 hl11 sB11
       refine wpAnyH_take (i:=12) (v:=.slice (some ⟨g10,0,none⟩) (T.length+2) c10) rfl (by kernel_rfl) (by kernel_rfl) (by kernel_rfl) (fun _ _ _ h=>h) (Or.inl ⟨by rfl,fun w _=>by go_simp⟩) hS ?_
       refine wpAnyH_take (i:=13) (v:=.slice (some ⟨g11,0,none⟩) (U.length+2) c11) rfl (by kernel_rfl) (by kernel_rfl) (by kernel_rfl) (fun _ _ _ h=>h) (Or.inl ⟨by rfl,fun w _=>by go_simp⟩) hS ?_
       refine wpAnyH_done (by kernel_rfl) ?_ _
       clear HA LT1 LU1 hS
       go_wp2
       go_meet
       exact ⟨g10,c10,g11,c11,rfl,rfl,kp11⟩
     case rest =>
      obtain ⟨gx,cx,gy,cy,rfl,rfl,HK⟩:=hcut
      clear s0 s1 HP
      go_wp2_with fail
      go_at_call 16
      refine (builtins_any _).mono ?_
      rintro e Y1 ⟨rfl,h1,b1⟩
      have hx2 : ¬ ((T.length : Nat) : Int)+2 < 2:=by omega
      have hy2 : ¬ ((U.length : Nat) : Int)+2 < 2:=by omega
      obtain ⟨⟨z0,z1,z2,z3,z4⟩,fz⟩:=bl_cell h1
      have f0:=fz 0
      have HK1 : Hid (Kpt (fun b=>W0.heap.size ≤ b∧b < W1.heap.size) X3 (Y1.setCell ⟨wc.heap.size,0,none⟩ (.string ⟨#[115,112,111,105,108,116]⟩))) :=
       (HK.out.trans (Kpt.of b1) (fun _ _ h=>h)).trans (Kpt.set (M:=fun b=>b=wc.heap.size) _ _ _ _ rfl) (fun i hi e=>by have:=HK.out.size;omega)
      clear h1 b1 fz HK
      go_wp2_with fail
      generalize Y1.setCell ⟨wc.heap.size,0,none⟩ (.string ⟨#[115,112,111,105,108,116]⟩)=Y2 at *
      clear z0 z1 z2 z3 z4 f0
      go_at_call 16
      refine (builtins_any _).mono ?_
      rintro e Y3 ⟨rfl,h3,b3⟩
      have HK3 : Hid (Kpt (fun b=>W0.heap.size ≤ b∧b < W1.heap.size) X3 Y3):=HK1.out.trans (Kpt.of b3) (fun _ _ h=>h)
      obtain ⟨t0,t1⟩:=HB.out Y3 HK3.out
      obtain ⟨r0,r1⟩:=HC.out Y3 HK3.out
      obtain ⟨⟨q0,q1⟩,q2,q3⟩:=HR.out Y3 HK3.out
      have CS:=ssame_any T U Y3 _ _ _ _ _ _ q0 q1 q2 q3 (by omega) (by omega)
      have H3 : Hid (Y3.heap[Y2.heap.size]?=some blO):=h3
      clear h3 b3 HK1 q0 q1 q2 q3
      go_wp2_with fail
      go_at_call 17
      refine CS.mono ?_
      rintro e Y4 ⟨rfl,b4⟩
      have HK4 : Hid (Kpt (fun b=>W0.heap.size ≤ b∧b < W1.heap.size) X3 Y4):=HK3.out.trans (Kpt.of b4) (fun _ _ h=>h)
      obtain ⟨⟨z0,z1,z2,z3,z4⟩,fz⟩:=bl_cell ((b4.block _ (gl H3.out)).trans H3.out)
      have CA:=awakeS_any Y4 (HE.out.bel (HQ.out Y4 HK4.out))
      clear CS b4 t0 t1 r0 r1 HK3 H3 fz
      go_wp2_with fail
      go_at_call 9
      refine CA.mono ?_
      rintro e Y5 ⟨rfl,b5⟩
      have B5 : Hid (Below W.heap.size W Y5):=below_tr (HQ.out Y4 HK4.out) b5
      clear CA b5
      go_wp2
      go_ret
      exact ⟨rfl,B5.out⟩
end Go.Proofs.YtfcocoadaajbjaaGreatDoor
set_option linter.unusedVariables false
namespace Go.Proofs.YtfcocoadaajbjaaGreatDoor.SoV
open Go.RowKit
theorem walk (x : Nd) (u : Value) (w : World) (f : LAt w (fun b=>b < w.heap.size) u x.ks) (s : x.size ≤ 1048576) (t : ∀ y ∈ x.flat,y.t.size ≤ 1048576) (he : WEnv w) :
 Calls Tryz.prog 6 #[x.v u] w fun e w'=>e = .returned (.bool true)∧Below w.heap.size w w' :=
 own_walk x u w f s (fun y hy=>Nat.le_trans (t y hy) (by decide)) he
end Go.Proofs.YtfcocoadaajbjaaGreatDoor.SoV
