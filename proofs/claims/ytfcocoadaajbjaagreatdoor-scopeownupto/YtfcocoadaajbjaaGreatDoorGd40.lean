/- Own text. Which trees are classes: the document's answer. -/
import Derived.Test.YtfcocoadaajbjaaGreatDoorGd39
set_option linter.unusedVariables false
set_option linter.unusedSimpArgs false
set_option maxRecDepth 100000
set_option maxHeartbeats 16000000
namespace Go.Proofs.YtfcocoadaajbjaaGreatDoor
open Go.RowKit
theorem class_42 (t : ByteArray) (l : List Nd) (hE : ∀ z ∈ l,∀ u ∈ z.ks,EC u) (hT : ∀ z ∈ l,∀ u ∈ z.ks,TC u) (hS : ∀ z ∈ l,∀ u ∈ z.ks,SC u) (hP : ∀ z ∈ l,∀ u ∈ z.ks,∀ p ∈ u.ks,∀ x ∈ p.ks,TC x)
 (hX : ∀ z ∈ l,z.t.size ≤ 4194304) (hX2 : ∀ z ∈ l,∀ u ∈ z.ks,∀ p ∈ u.ks,p.t.size ≤ 4194304) (hL : ∀ z ∈ l,∀ u ∈ z.ks,u.ks.length ≤ 4194304)
 (hBC : ∀ z ∈ l,∀ (w : World) (S : Nat→Prop) (a : Option Addr) (c : Nat),LAt w S (.slice a z.ks.length c) z.ks→BC w (.slice a z.ks.length c) (bodyB z.ks))
 (ht : t.size ≤ 4194304) (hl : l.length ≤ 4194304) (a : Option Addr) (c : Nat) (w : World) (S : Nat→Prop) (hx : LAt w S (.slice a l.length c) l) :
 Calls Tryz.prog 44 #[nv 42 t 0 a l.length c] w fun e w'=>e = .returned (.bool (idT false t && clB l))∧Below w.heap.size w w':=by
 have CP:=fun W=>rid_any t W ht
 generalize idT false t=p at *
 obtain ⟨i0,hi0,hz0,hz1,hz2⟩:=info_parts info_str
 obtain ⟨ax,cx,bx,ox,fx,e,px,qx,rx⟩:=hx.op
 obtain ⟨rfl,rfl⟩ : a=ax∧c=cx:=by injection e with e1 e2 e3;exact ⟨e1,e3⟩
 clear e
 have X0 : (w.alloc (Obj.cells #[.int .i64 42,.string t,.int .i64 0,.slice a l.length c] 24)).heap[w.heap.size]?=some (.cells #[.int .i64 42,.string t,.int .i64 0,.slice a l.length c] 24 (0,0)):=hnew _ rfl
 have kp : Hid (∀ W',Below (w.heap.size+1) (w.alloc (Obj.cells #[.int .i64 42,.string t,.int .i64 0,.slice a l.length c] 24)) W'→(NqZ W' w.heap.size 42 t 0 a l.length c)):=fun W' b=>(box4 ((b.block _ (by omega)).trans X0)).1
 have kb : Hid (∀ W',Below (w.heap.size+1) (w.alloc (Obj.cells #[.int .i64 42,.string t,.int .i64 0,.slice a l.length c] 24)) W'→Below w.heap.size w W'∧w.heap.size+1 ≤ W'.heap.size):=fun W' b=>⟨(bel_a w _).trans (b.mono (by omega)),by have:=b.size;simpa using this⟩
 have kr : Hid (Below (w.heap.size+1) (w.alloc (Obj.cells #[.int .i64 42,.string t,.int .i64 0,.slice a l.length c] 24)) (w.alloc (Obj.cells #[.int .i64 42,.string t,.int .i64 0,.slice a l.length c] 24))):=Below.refl _ _
 clear X0
 go_enter Tryz.func44,Tryz.ntmps44
 cases p with
 | false =>
  go_wp2_with (go_at_call 13;refine (CP _).mono ?_;rintro e W1 ⟨rfl,b1⟩)
  go_ret
  exact ⟨ret_b (by simp),(bel_a w _).trans (b1.mono (by simp))⟩
 | true =>
 go_wp2_with (go_at_call 13;refine (CP _).mono ?_;rintro e W1 ⟨rfl,b1⟩;have k1:=kr.out.trans (b1.mono (by simp));obtain ⟨_,_,_,_⟩:=kp.out _ k1)
 clear b1
 generalize w.alloc (Obj.cells #[.int .i64 42,.string t,.int .i64 0,.slice a l.length c] 24)=W0 at *
 go_loopg [3,4,5] l.length (fun gk v3 v4 v5 wr=>∃ (k kk s : Nat) (v : Value),v=v3∧v4 = .int .i64 (s : Nat)∧v5 = .int .i64 (k : Nat)∧Hid (gk+k=l.length)∧Hid (ClInv l k kk s)∧s ≤ 2∧kk ≤ k∧Below (w.heap.size+1) W0 wr∧Hid (wr.ownsRow (w.heap.size+1) 9 1 v kk (textC (nmF (l.take k)))))
 case atStart=>exact ⟨0,0,0,_,rfl,rfl,rfl,by simp [Hid],ClInv.zero l,by omega,by omega,k1,World.ownsRow_nil _ _ _ _⟩
 case round =>
  obtain ⟨k,kk,s,v,rfl,rfl,rfl,hk,HI,hs,hkk',bel0,HO⟩:=hrel
  obtain ⟨bel,sz⟩:=kb.out _ bel0
  have hkk : k ≤ l.length:=by have:=hk.out;omega
  obtain ⟨n1,n2,n3,n4⟩:=kp.out _ bel0
  by_cases hkl : k < l.length
  ·obtain ⟨rfl,hSx,hbx⟩:=px (by omega)
   have hm:=List.getElem_mem hkl
   have hE1:=hE _ hm
   have hT1:=hT _ hm
   have hS1:=hS _ hm
   have hP1:=hP _ hm
   have hX1:=hX2 _ hm
   have hL1:=hL _ hm
   have hB1:=hBC _ hm
   have hY : l[k].t.size ≤ 4194304:=hX _ hm
   have HMB : Hid (mbB l[k]=false→clB l=false):=cl_no_mb hkl
   have HNO : Hid (l[k].k < 43+s→s ≠ 0→clB l=false):=cl_no_ord HI.out hkl
   have HNI : Hid (l[k].t.data.toList ∈ nmF (l.take k)→clB l=false):=cl_no_in hkl
   have HNC : Hid (l[k].k=44→l[k].t.toList=[]→s ≠ 0→clB l=false):=cl_no_ctor HI.out hkl
   have HNX : Hid (mbB l[k]=true→l[k].k ≠ 44→43+(s : Int) ≤ l[k].k→l[k].t.data.toList ∉ nmF (l.take k)→∀ s' : Nat,l[k].k=43+s'→Hid (ClInv l (k+1) (kk+1) s')∧Hid (nmF (l.take (k+1))=nmF (l.take k) ++ [l[k].t.data.toList])):=fun h1 h44 h2 h3 s' h4=>cl_next HI.out hkl h1 hs h44 h2 h3 s' h4
   have HNK : Hid (mbB l[k]=true→s=0→l[k].k=44→Hid (ClInv l (k+1) kk 1)∧Hid (nmF (l.take (k+1))=nmF (l.take k))):=fun h1 h2 h3=>cl_ctor HI.out hkl h1 h2 h3
   have HL : Hid ((nmF (l.take k)).length=kk):=HI.out.len
   have hr:=rx k hkl
   have hq:=qx k hkl
   clear hm hE hT hS hP hX hX2 hL hBC HI
   generalize nmF (l.take k)=L at *
   generalize l[k]=y at *
   generalize fx k=fk at *
   obtain ⟨ak,ck,rfl⟩:=hr.sl
   have CI : Hid (∀ W,Below wr.heap.size wr W→Calls Tryz.prog 70 #[.string y.t,v] W fun e w'=>e = .returned (.bool (decide (y.t.data.toList ∈ L)))∧w'=W):=fun W b=>in_own W y.t v (w.heap.size+1) L kk HL.out (row_bel HO.out b) (by omega)
   have C1 : Hid (QC 68 w (.string y.t) (propT false y.t.data.toList)):=q_prop w y.t hY
   obtain ⟨u1,u2,u3,u4⟩:=(kid_at hq hr hbx bel).1
   clear px qx rx hq HL
   by_cases h3 : y.k=43
   ·rw [h3] at u1 HNO HNX HNK HNC
    have HM1 : Hid (mbB y=(propT false y.t.data.toList && (y.t.toList != ctorL) && (y.n == 0) && (!decide (y.ks.length < 2) && fitsL false [106,101] 0 y.ks))):=mb43 h3
    generalize propT false y.t.data.toList=pt at *
    cases pt with
    | false =>
     have HR : Hid (clB l=false):=HMB.out (by rw [HM1.out];simp)
     clear HMB HNO HNI HNC HNX HNK
     go_wp2_with (go_at_call 68;refine (C1.out _ (made_bel bel bel.size)).mono ?_;rintro e W1 ⟨rfl,b1⟩;rw [made_size] at b1;have HV : Hid (∀ W,Below (wr.heap.size+1) W1 W→NqZ W wr.heap.size 43 y.t y.n ak y.ks.length ck):=fun W b=>made4 (b1.trans b);have c1:=(made_bel (Below.refl wr.heap.size wr) (Nat.le_refl _)).trans (b1.mono (Nat.le_succ _));have s1 : wr.heap.size+1 ≤ W1.heap.size:=(by have:=b1.size;rw [made_size] at this;exact this);have kb1:=Below.refl (wr.heap.size+1) W1;obtain ⟨_,_,_,_⟩:=HV.out _ kb1)
     go_ret
     exact ⟨ret_b (by rw [HR.out];first | done | simp),(bel.trans (c1.mono bel.size))⟩
    | true =>
     by_cases h2 : y.ks.length=2
     ·obtain ⟨u,z,huz⟩:=two_of y.ks h2
      have P1:=hT1 u (by rw [huz];simp)
      have P2:=hE1 z (by rw [huz];simp)
      rw [h2] at u4
      rw [huz] at hr HM1
      obtain ⟨bz,oz,rfl,za,zc,ya,yc,k1',l1,k2',l2⟩:=kids2 hr
      have HZ0 : Hid (∀ W,Below w.heap.size w W→NqO W bz oz u.k u.t u.n za u.ks.length zc):=k1'.out
      have HZ1 : Hid (∀ W,Below w.heap.size w W→W.cell? ⟨bz,oz+4,none⟩=some (.int .i64 z.k)∧W.cell? ⟨bz,oz+5,none⟩=some (.string z.t)∧W.cell? ⟨bz,oz+6,none⟩=some (.int .i64 z.n)∧W.cell? ⟨bz,oz+7,none⟩=some (.slice ya z.ks.length yc)):=k2'.out
      have C2:=q_to P1 l1
      have C3:=q_ex P2 l2
      have HM2 : Hid (mbB y=((y.t.toList != ctorL) && (y.n == 0) && (toB u && exB z))):=by show _=_;rw [HM1.out,fl2,fits106,fits101];rfl
      clear HM1 k1' k2' l1 l2 P1 P2 hr hE1 hT1 hS1 hP1 hX1 hL1 hB1 huz
      generalize toB u=p2 at *
      generalize exB z=p3 at *
      cases p2 with
      | false =>
       have HR : Hid (clB l=false):=HMB.out (by rw [HM2.out];simp)
       clear HMB HNO HNI HNC HNX HNK
       go_wp2_with (first
        | (go_at_call 68;refine (C1.out _ (made_bel bel bel.size)).mono ?_;rintro e W1 ⟨rfl,b1⟩;rw [made_size] at b1;have HV : Hid (∀ W,Below (wr.heap.size+1) W1 W→NqZ W wr.heap.size 43 y.t y.n (some ⟨bz,oz,none⟩) 2 ck):=fun W b=>made4 (b1.trans b);have c1:=(made_bel (Below.refl wr.heap.size wr) (Nat.le_refl _)).trans (b1.mono (Nat.le_succ _));have s1 : wr.heap.size+1 ≤ W1.heap.size:=(by have:=b1.size;rw [made_size] at this;exact this);have kb1:=Below.refl (wr.heap.size+1) W1;obtain ⟨_,_,_,_⟩:=HV.out _ kb1;obtain ⟨_,_,_,_⟩:=HZ0.out _ (bel.trans (c1.mono bel.size));obtain ⟨_,_,_,_⟩:=HZ1.out _ (bel.trans (c1.mono bel.size)))
        | (go_at_call 72;refine (C2.out _ (bel.trans (c1.mono bel.size))).mono ?_;rintro e W2 ⟨rfl,b2⟩;have kb2:=kb1.trans (b2.mono s1);have c2:=c1.trans (b2.mono c1.size);have s2 : wr.heap.size+1 ≤ W2.heap.size:=(by have:=b2.size;omega);obtain ⟨_,_,_,_⟩:=HV.out _ kb2;obtain ⟨_,_,_,_⟩:=HZ0.out _ (bel.trans (c2.mono bel.size));obtain ⟨_,_,_,_⟩:=HZ1.out _ (bel.trans (c2.mono bel.size))))
       go_ret
       exact ⟨ret_b (by rw [HR.out];first | done | simp),(bel.trans (c2.mono bel.size))⟩
      | true =>
       cases p3 with
       | false =>
        have HR : Hid (clB l=false):=HMB.out (by rw [HM2.out];simp)
        clear HMB HNO HNI HNC HNX HNK
        go_wp2_with (first
         | (go_at_call 68;refine (C1.out _ (made_bel bel bel.size)).mono ?_;rintro e W1 ⟨rfl,b1⟩;rw [made_size] at b1;have HV : Hid (∀ W,Below (wr.heap.size+1) W1 W→NqZ W wr.heap.size 43 y.t y.n (some ⟨bz,oz,none⟩) 2 ck):=fun W b=>made4 (b1.trans b);have c1:=(made_bel (Below.refl wr.heap.size wr) (Nat.le_refl _)).trans (b1.mono (Nat.le_succ _));have s1 : wr.heap.size+1 ≤ W1.heap.size:=(by have:=b1.size;rw [made_size] at this;exact this);have kb1:=Below.refl (wr.heap.size+1) W1;obtain ⟨_,_,_,_⟩:=HV.out _ kb1;obtain ⟨_,_,_,_⟩:=HZ0.out _ (bel.trans (c1.mono bel.size));obtain ⟨_,_,_,_⟩:=HZ1.out _ (bel.trans (c1.mono bel.size)))
         | (go_at_call 72;refine (C2.out _ (bel.trans (c1.mono bel.size))).mono ?_;rintro e W2 ⟨rfl,b2⟩;have kb2:=kb1.trans (b2.mono s1);have c2:=c1.trans (b2.mono c1.size);have s2 : wr.heap.size+1 ≤ W2.heap.size:=(by have:=b2.size;omega);obtain ⟨_,_,_,_⟩:=HV.out _ kb2;obtain ⟨_,_,_,_⟩:=HZ0.out _ (bel.trans (c2.mono bel.size));obtain ⟨_,_,_,_⟩:=HZ1.out _ (bel.trans (c2.mono bel.size)))
         | (go_at_call 38;refine (C3.out _ (bel.trans (c2.mono bel.size))).mono ?_;rintro e W3 ⟨rfl,b3⟩;have kb3:=kb2.trans (b3.mono s2);have c3:=c2.trans (b3.mono c2.size);have s3 : wr.heap.size+1 ≤ W3.heap.size:=(by have:=b3.size;omega);obtain ⟨_,_,_,_⟩:=HV.out _ kb3;obtain ⟨_,_,_,_⟩:=HZ0.out _ (bel.trans (c3.mono bel.size));obtain ⟨_,_,_,_⟩:=HZ1.out _ (bel.trans (c3.mono bel.size))))
        go_ret
        exact ⟨ret_b (by rw [HR.out];first | done | simp),(bel.trans (c3.mono bel.size))⟩
       | true =>
        by_cases hn : y.n=0
        ·rw [hn] at u3 HM2
         by_cases hs0 : s=0
         ·subst hs0
          by_cases hin : y.t.data.toList ∈ L
          ·have CI2 : Hid (∀ W,Below wr.heap.size wr W→Calls Tryz.prog 70 #[.string y.t,v] W fun e w'=>e = .returned (.bool true)∧w'=W):=by rw [decide_eq_true hin] at CI;exact CI
           have HR : Hid (clB l=false):=HNI.out hin
           clear HMB HNO HNI HNC HNX HNK
           go_wp2_with (first
            | (go_at_call 68;refine (C1.out _ (made_bel bel bel.size)).mono ?_;rintro e W1 ⟨rfl,b1⟩;rw [made_size] at b1;have HV : Hid (∀ W,Below (wr.heap.size+1) W1 W→NqZ W wr.heap.size 43 y.t 0 (some ⟨bz,oz,none⟩) 2 ck):=fun W b=>made4 (b1.trans b);have c1:=(made_bel (Below.refl wr.heap.size wr) (Nat.le_refl _)).trans (b1.mono (Nat.le_succ _));have s1 : wr.heap.size+1 ≤ W1.heap.size:=(by have:=b1.size;rw [made_size] at this;exact this);have kb1:=Below.refl (wr.heap.size+1) W1;obtain ⟨_,_,_,_⟩:=HV.out _ kb1;obtain ⟨_,_,_,_⟩:=HZ0.out _ (bel.trans (c1.mono bel.size));obtain ⟨_,_,_,_⟩:=HZ1.out _ (bel.trans (c1.mono bel.size)))
            | (go_at_call 72;refine (C2.out _ (bel.trans (c1.mono bel.size))).mono ?_;rintro e W2 ⟨rfl,b2⟩;have kb2:=kb1.trans (b2.mono s1);have c2:=c1.trans (b2.mono c1.size);have s2 : wr.heap.size+1 ≤ W2.heap.size:=(by have:=b2.size;omega);obtain ⟨_,_,_,_⟩:=HV.out _ kb2;obtain ⟨_,_,_,_⟩:=HZ0.out _ (bel.trans (c2.mono bel.size));obtain ⟨_,_,_,_⟩:=HZ1.out _ (bel.trans (c2.mono bel.size)))
            | (go_at_call 38;refine (C3.out _ (bel.trans (c2.mono bel.size))).mono ?_;rintro e W3 ⟨rfl,b3⟩;have kb3:=kb2.trans (b3.mono s2);have c3:=c2.trans (b3.mono c2.size);have s3 : wr.heap.size+1 ≤ W3.heap.size:=(by have:=b3.size;omega);obtain ⟨_,_,_,_⟩:=HV.out _ kb3;obtain ⟨_,_,_,_⟩:=HZ0.out _ (bel.trans (c3.mono bel.size));obtain ⟨_,_,_,_⟩:=HZ1.out _ (bel.trans (c3.mono bel.size)))
            | (go_at_call 70;refine (CI2.out _ c3).mono ?_;rintro e W4 ⟨rfl,rfl⟩))
           go_ret
           exact ⟨ret_b (by rw [HR.out];first | done | simp),(bel.trans (c3.mono bel.size))⟩
          ·have CI2 : Hid (∀ W,Below wr.heap.size wr W→Calls Tryz.prog 70 #[.string y.t,v] W fun e w'=>e = .returned (.bool false)∧w'=W):=by rw [decide_eq_false hin] at CI;exact CI
           cases hc : (y.t.toList == ctorL) with
           | true =>
            rw [show ctorL=[99,111,110,115,116,114,117,99,116,111,114] from rfl] at hc
            have HR : Hid (clB l=false):=HMB.out (by rw [HM2.out];simp [bne,show (y.t.toList == ctorL)=true from hc])
            clear HMB HNO HNI HNC HNX HNK
            go_wp2_with (first
             | (go_at_call 68;refine (C1.out _ (made_bel bel bel.size)).mono ?_;rintro e W1 ⟨rfl,b1⟩;rw [made_size] at b1;have HV : Hid (∀ W,Below (wr.heap.size+1) W1 W→NqZ W wr.heap.size 43 y.t 0 (some ⟨bz,oz,none⟩) 2 ck):=fun W b=>made4 (b1.trans b);have c1:=(made_bel (Below.refl wr.heap.size wr) (Nat.le_refl _)).trans (b1.mono (Nat.le_succ _));have s1 : wr.heap.size+1 ≤ W1.heap.size:=(by have:=b1.size;rw [made_size] at this;exact this);have kb1:=Below.refl (wr.heap.size+1) W1;obtain ⟨_,_,_,_⟩:=HV.out _ kb1;obtain ⟨_,_,_,_⟩:=HZ0.out _ (bel.trans (c1.mono bel.size));obtain ⟨_,_,_,_⟩:=HZ1.out _ (bel.trans (c1.mono bel.size)))
             | (go_at_call 72;refine (C2.out _ (bel.trans (c1.mono bel.size))).mono ?_;rintro e W2 ⟨rfl,b2⟩;have kb2:=kb1.trans (b2.mono s1);have c2:=c1.trans (b2.mono c1.size);have s2 : wr.heap.size+1 ≤ W2.heap.size:=(by have:=b2.size;omega);obtain ⟨_,_,_,_⟩:=HV.out _ kb2;obtain ⟨_,_,_,_⟩:=HZ0.out _ (bel.trans (c2.mono bel.size));obtain ⟨_,_,_,_⟩:=HZ1.out _ (bel.trans (c2.mono bel.size)))
             | (go_at_call 38;refine (C3.out _ (bel.trans (c2.mono bel.size))).mono ?_;rintro e W3 ⟨rfl,b3⟩;have kb3:=kb2.trans (b3.mono s2);have c3:=c2.trans (b3.mono c2.size);have s3 : wr.heap.size+1 ≤ W3.heap.size:=(by have:=b3.size;omega);obtain ⟨_,_,_,_⟩:=HV.out _ kb3;obtain ⟨_,_,_,_⟩:=HZ0.out _ (bel.trans (c3.mono bel.size));obtain ⟨_,_,_,_⟩:=HZ1.out _ (bel.trans (c3.mono bel.size)))
             | (go_at_call 70;refine (CI2.out _ c3).mono ?_;rintro e W4 ⟨rfl,rfl⟩))
            go_ret
            exact ⟨ret_b (by rw [HR.out];first | done | simp),(bel.trans (c3.mono bel.size))⟩
           | false =>
            obtain ⟨I2,HE⟩ : Hid (ClInv l (k+1) (kk+1) 0)∧Hid (nmF (l.take (k+1))=L ++ [y.t.data.toList]):=HNX.out (by rw [HM2.out];simp [bne,hc]) (by omega) (by omega) hin 0 rfl
            rw [show ctorL=[99,111,110,115,116,114,117,99,116,111,114] from rfl] at hc
            clear HMB HNO HNI HNC HNX HNK HM2 CI hin
            go_wp2_with (first
             | (go_at_call 68;refine (C1.out _ (made_bel bel bel.size)).mono ?_;rintro e W1 ⟨rfl,b1⟩;rw [made_size] at b1;have HV : Hid (∀ W,Below (wr.heap.size+1) W1 W→NqZ W wr.heap.size 43 y.t 0 (some ⟨bz,oz,none⟩) 2 ck):=fun W b=>made4 (b1.trans b);have c1:=(made_bel (Below.refl wr.heap.size wr) (Nat.le_refl _)).trans (b1.mono (Nat.le_succ _));have s1 : wr.heap.size+1 ≤ W1.heap.size:=(by have:=b1.size;rw [made_size] at this;exact this);have kb1:=Below.refl (wr.heap.size+1) W1;obtain ⟨_,_,_,_⟩:=HV.out _ kb1;obtain ⟨_,_,_,_⟩:=HZ0.out _ (bel.trans (c1.mono bel.size));obtain ⟨_,_,_,_⟩:=HZ1.out _ (bel.trans (c1.mono bel.size)))
             | (go_at_call 72;refine (C2.out _ (bel.trans (c1.mono bel.size))).mono ?_;rintro e W2 ⟨rfl,b2⟩;have kb2:=kb1.trans (b2.mono s1);have c2:=c1.trans (b2.mono c1.size);have s2 : wr.heap.size+1 ≤ W2.heap.size:=(by have:=b2.size;omega);obtain ⟨_,_,_,_⟩:=HV.out _ kb2;obtain ⟨_,_,_,_⟩:=HZ0.out _ (bel.trans (c2.mono bel.size));obtain ⟨_,_,_,_⟩:=HZ1.out _ (bel.trans (c2.mono bel.size)))
             | (go_at_call 38;refine (C3.out _ (bel.trans (c2.mono bel.size))).mono ?_;rintro e W3 ⟨rfl,b3⟩;have kb3:=kb2.trans (b3.mono s2);have c3:=c2.trans (b3.mono c2.size);have s3 : wr.heap.size+1 ≤ W3.heap.size:=(by have:=b3.size;omega);obtain ⟨_,_,_,_⟩:=HV.out _ kb3;obtain ⟨_,_,_,_⟩:=HZ0.out _ (bel.trans (c3.mono bel.size));obtain ⟨_,_,_,_⟩:=HZ1.out _ (bel.trans (c3.mono bel.size)))
             | (go_at_call 70;refine (CI2.out _ c3).mono ?_;rintro e W4 ⟨rfl,rfl⟩)
             | (at_builtin;refine wpList_append_lies _ (by rfl) _ _ _ (by rfl) (w.heap.size+1) 9 i0 _ 1 16 Tryz.underlying48 hi0 hz0 hz1 hz2 rfl (by omega) _ kk (textC L) (by rfl) ((row_bel HO.out c3).alloc _) ⟨_,0,none⟩ 1 1 [.string y.t] (by rfl) (by rfl) (World.news_of_block (cs:=#[.string y.t]) (t:=9) (fr:=(0,0)) (heap_alloc_new _ _)) (by simp [Value.oneCell']) (by omega) (by unfold maxLen;omega) (by omega) (by simp;omega) _ rfl ?_;intro gg cap W9 hown9 hgrow hat hlt9))
            have bel9:=((bel0.trans (c3.mono sz)).alloc (Nat.le_trans sz c3.size) _).grown hgrow (by simp;have:=c3.size;omega) (fun j hj=>((row_bel HO.out c3).lt j hj).1)
            go_roundg (gk - 1)
            case rel=>exact ⟨k+1,kk+1,0,_,rfl,by simp,by simp,by have:=hk.out;show _=_;omega,I2,by omega,by omega,bel9,by rw [HE.out,textC_app];exact hown9⟩
            case measure=>have:=hk.out;omega
         ·have hs1 : (0 : Int) < (s : Int):=by omega
          have HR : Hid (clB l=false):=HNO.out (by omega) hs0
          clear HMB HNO HNI HNC HNX HNK
          go_wp2_with (first
           | (go_at_call 68;refine (C1.out _ (made_bel bel bel.size)).mono ?_;rintro e W1 ⟨rfl,b1⟩;rw [made_size] at b1;have HV : Hid (∀ W,Below (wr.heap.size+1) W1 W→NqZ W wr.heap.size 43 y.t 0 (some ⟨bz,oz,none⟩) 2 ck):=fun W b=>made4 (b1.trans b);have c1:=(made_bel (Below.refl wr.heap.size wr) (Nat.le_refl _)).trans (b1.mono (Nat.le_succ _));have s1 : wr.heap.size+1 ≤ W1.heap.size:=(by have:=b1.size;rw [made_size] at this;exact this);have kb1:=Below.refl (wr.heap.size+1) W1;obtain ⟨_,_,_,_⟩:=HV.out _ kb1;obtain ⟨_,_,_,_⟩:=HZ0.out _ (bel.trans (c1.mono bel.size));obtain ⟨_,_,_,_⟩:=HZ1.out _ (bel.trans (c1.mono bel.size)))
           | (go_at_call 72;refine (C2.out _ (bel.trans (c1.mono bel.size))).mono ?_;rintro e W2 ⟨rfl,b2⟩;have kb2:=kb1.trans (b2.mono s1);have c2:=c1.trans (b2.mono c1.size);have s2 : wr.heap.size+1 ≤ W2.heap.size:=(by have:=b2.size;omega);obtain ⟨_,_,_,_⟩:=HV.out _ kb2;obtain ⟨_,_,_,_⟩:=HZ0.out _ (bel.trans (c2.mono bel.size));obtain ⟨_,_,_,_⟩:=HZ1.out _ (bel.trans (c2.mono bel.size)))
           | (go_at_call 38;refine (C3.out _ (bel.trans (c2.mono bel.size))).mono ?_;rintro e W3 ⟨rfl,b3⟩;have kb3:=kb2.trans (b3.mono s2);have c3:=c2.trans (b3.mono c2.size);have s3 : wr.heap.size+1 ≤ W3.heap.size:=(by have:=b3.size;omega);obtain ⟨_,_,_,_⟩:=HV.out _ kb3;obtain ⟨_,_,_,_⟩:=HZ0.out _ (bel.trans (c3.mono bel.size));obtain ⟨_,_,_,_⟩:=HZ1.out _ (bel.trans (c3.mono bel.size))))
          go_ret
          exact ⟨ret_b (by rw [HR.out];first | done | simp),(bel.trans (c3.mono bel.size))⟩
        ·have HR : Hid (clB l=false):=HMB.out (by rw [HM2.out];simp [hn])
         clear HMB HNO HNI HNC HNX HNK
         go_wp2_with (first
          | (go_at_call 68;refine (C1.out _ (made_bel bel bel.size)).mono ?_;rintro e W1 ⟨rfl,b1⟩;rw [made_size] at b1;have HV : Hid (∀ W,Below (wr.heap.size+1) W1 W→NqZ W wr.heap.size 43 y.t y.n (some ⟨bz,oz,none⟩) 2 ck):=fun W b=>made4 (b1.trans b);have c1:=(made_bel (Below.refl wr.heap.size wr) (Nat.le_refl _)).trans (b1.mono (Nat.le_succ _));have s1 : wr.heap.size+1 ≤ W1.heap.size:=(by have:=b1.size;rw [made_size] at this;exact this);have kb1:=Below.refl (wr.heap.size+1) W1;obtain ⟨_,_,_,_⟩:=HV.out _ kb1;obtain ⟨_,_,_,_⟩:=HZ0.out _ (bel.trans (c1.mono bel.size));obtain ⟨_,_,_,_⟩:=HZ1.out _ (bel.trans (c1.mono bel.size)))
          | (go_at_call 72;refine (C2.out _ (bel.trans (c1.mono bel.size))).mono ?_;rintro e W2 ⟨rfl,b2⟩;have kb2:=kb1.trans (b2.mono s1);have c2:=c1.trans (b2.mono c1.size);have s2 : wr.heap.size+1 ≤ W2.heap.size:=(by have:=b2.size;omega);obtain ⟨_,_,_,_⟩:=HV.out _ kb2;obtain ⟨_,_,_,_⟩:=HZ0.out _ (bel.trans (c2.mono bel.size));obtain ⟨_,_,_,_⟩:=HZ1.out _ (bel.trans (c2.mono bel.size)))
          | (go_at_call 38;refine (C3.out _ (bel.trans (c2.mono bel.size))).mono ?_;rintro e W3 ⟨rfl,b3⟩;have kb3:=kb2.trans (b3.mono s2);have c3:=c2.trans (b3.mono c2.size);have s3 : wr.heap.size+1 ≤ W3.heap.size:=(by have:=b3.size;omega);obtain ⟨_,_,_,_⟩:=HV.out _ kb3;obtain ⟨_,_,_,_⟩:=HZ0.out _ (bel.trans (c3.mono bel.size));obtain ⟨_,_,_,_⟩:=HZ1.out _ (bel.trans (c3.mono bel.size))))
         go_ret
         exact ⟨ret_b (by rw [HR.out];first | done | simp),(bel.trans (c3.mono bel.size))⟩
     ·have h2' : ¬ (y.ks.length : Int)=2:=by omega
      have HR : Hid (clB l=false):=HMB.out (by rw [HM1.out,fl2_no _ _ _ h2];simp)
      clear HMB HNO HNI HNC HNX HNK
      go_wp2_with (go_at_call 68;refine (C1.out _ (made_bel bel bel.size)).mono ?_;rintro e W1 ⟨rfl,b1⟩;rw [made_size] at b1;have HV : Hid (∀ W,Below (wr.heap.size+1) W1 W→NqZ W wr.heap.size 43 y.t y.n ak y.ks.length ck):=fun W b=>made4 (b1.trans b);have c1:=(made_bel (Below.refl wr.heap.size wr) (Nat.le_refl _)).trans (b1.mono (Nat.le_succ _));have s1 : wr.heap.size+1 ≤ W1.heap.size:=(by have:=b1.size;rw [made_size] at this;exact this);have kb1:=Below.refl (wr.heap.size+1) W1;obtain ⟨_,_,_,_⟩:=HV.out _ kb1)
      go_ret
      exact ⟨ret_b (by rw [HR.out];first | done | simp),(bel.trans (c1.mono bel.size))⟩
   ·by_cases h4 : y.k=44
    ·rw [h4] at u1 HNO HNX HNK HNC
     have HM1 : Hid (mbB y=((y.t.toList == []) && (y.n == 0) && (!decide (y.ks.length < 2) && fitsL false [12,52] 0 y.ks))):=mb44 h4
     cases he : (y.t.toList == []) with
     | false =>
      have HR : Hid (clB l=false):=HMB.out (by rw [HM1.out,he];simp)
      clear HMB HNO HNI HNC HNX HNK
      go_wp2
      go_ret
      exact ⟨ret_b (by rw [HR.out];first | done | simp),(made_bel bel bel.size)⟩
     | true =>
      by_cases hs0 : s=0
      ·subst hs0
       by_cases h2 : y.ks.length=2
       ·obtain ⟨u,z,huz⟩:=two_of y.ks h2
        have P1:=hP1 u (by rw [huz];simp)
        have P2:=hS1 z (by rw [huz];simp)
        have P3:=hX1 u (by rw [huz];simp)
        have P4:=hL1 u (by rw [huz];simp)
        rw [h2] at u4
        rw [huz] at hr HM1
        obtain ⟨bz,oz,rfl,za,zc,ya,yc,k1',l1,k2',l2⟩:=kids2 hr
        have HZ0 : Hid (∀ W,Below w.heap.size w W→NqO W bz oz u.k u.t u.n za u.ks.length zc):=k1'.out
        have HZ1 : Hid (∀ W,Below w.heap.size w W→W.cell? ⟨bz,oz+4,none⟩=some (.int .i64 z.k)∧W.cell? ⟨bz,oz+5,none⟩=some (.string z.t)∧W.cell? ⟨bz,oz+6,none⟩=some (.int .i64 z.n)∧W.cell? ⟨bz,oz+7,none⟩=some (.slice ya z.ks.length yc)):=k2'.out
        have C2:=q_pa false P1 P3 P4 l1
        have C3:=q_bl P2 l2
        have HM2 : Hid (mbB y=((y.n == 0) && (paB false u && blB z))):=by show _=_;rw [HM1.out,he,fl2,fits12,fits52];rfl
        obtain ⟨z1,z2,z3,z4⟩:=HZ0.out _ (made_bel (o:=Obj.cells #[.int .i64 44,.string y.t,.int .i64 y.n,.slice (some ⟨bz,oz,none⟩) 2 ck] 24) bel bel.size)
        clear HM1 k1' k2' l1 l2 P1 P2 P3 P4 hr hE1 hT1 hS1 hP1 hX1 hL1 hB1 huz
        generalize paB false u=p2 at *
        generalize blB z=p3 at *
        cases p2 with
        | false =>
         have HR : Hid (clB l=false):=HMB.out (by rw [HM2.out];simp)
         clear HMB HNO HNI HNC HNX HNK
         go_wp2_with (go_at_call 71;refine (C2.out _ (made_bel bel bel.size)).mono ?_;rintro e W1 ⟨rfl,b1⟩;rw [made_size] at b1;have HV : Hid (∀ W,Below (wr.heap.size+1) W1 W→NqZ W wr.heap.size 44 y.t y.n (some ⟨bz,oz,none⟩) 2 ck):=fun W b=>made4 (b1.trans b);have c1:=(made_bel (Below.refl wr.heap.size wr) (Nat.le_refl _)).trans (b1.mono (Nat.le_succ _));have s1 : wr.heap.size+1 ≤ W1.heap.size:=(by have:=b1.size;rw [made_size] at this;exact this);have kb1:=Below.refl (wr.heap.size+1) W1;obtain ⟨_,_,_,_⟩:=HV.out _ kb1;obtain ⟨_,_,_,_⟩:=HZ0.out _ (bel.trans (c1.mono bel.size));obtain ⟨_,_,_,_⟩:=HZ1.out _ (bel.trans (c1.mono bel.size)))
         go_ret
         exact ⟨ret_b (by rw [HR.out];first | done | simp),(bel.trans (c1.mono bel.size))⟩
        | true =>
         cases p3 with
         | false =>
          have HR : Hid (clB l=false):=HMB.out (by rw [HM2.out];simp)
          clear HMB HNO HNI HNC HNX HNK
          go_wp2_with (first
           | (go_at_call 71;refine (C2.out _ (made_bel bel bel.size)).mono ?_;rintro e W1 ⟨rfl,b1⟩;rw [made_size] at b1;have HV : Hid (∀ W,Below (wr.heap.size+1) W1 W→NqZ W wr.heap.size 44 y.t y.n (some ⟨bz,oz,none⟩) 2 ck):=fun W b=>made4 (b1.trans b);have c1:=(made_bel (Below.refl wr.heap.size wr) (Nat.le_refl _)).trans (b1.mono (Nat.le_succ _));have s1 : wr.heap.size+1 ≤ W1.heap.size:=(by have:=b1.size;rw [made_size] at this;exact this);have kb1:=Below.refl (wr.heap.size+1) W1;obtain ⟨_,_,_,_⟩:=HV.out _ kb1;obtain ⟨_,_,_,_⟩:=HZ0.out _ (bel.trans (c1.mono bel.size));obtain ⟨_,_,_,_⟩:=HZ1.out _ (bel.trans (c1.mono bel.size)))
           | (go_at_call 73;refine (C3.out _ (bel.trans (c1.mono bel.size))).mono ?_;rintro e W2 ⟨rfl,b2⟩;have kb2:=kb1.trans (b2.mono s1);have c2:=c1.trans (b2.mono c1.size);have s2 : wr.heap.size+1 ≤ W2.heap.size:=(by have:=b2.size;omega);obtain ⟨_,_,_,_⟩:=HV.out _ kb2;obtain ⟨_,_,_,_⟩:=HZ0.out _ (bel.trans (c2.mono bel.size));obtain ⟨_,_,_,_⟩:=HZ1.out _ (bel.trans (c2.mono bel.size))))
          go_ret
          exact ⟨ret_b (by rw [HR.out];first | done | simp),(bel.trans (c2.mono bel.size))⟩
         | true =>
          by_cases hn : y.n=0
          ·rw [hn] at u3 HM2
           obtain ⟨I2,HE⟩ : Hid (ClInv l (k+1) kk 1)∧Hid (nmF (l.take (k+1))=L):=HNK.out (by rw [HM2.out];rfl) rfl rfl
           clear HMB HNO HNI HNC HNX HNK HM2 CI z1 z2 z3 z4
           obtain ⟨z1,z2,z3,z4⟩:=HZ0.out _ (made_bel (o:=Obj.cells #[.int .i64 44,.string y.t,.int .i64 0,.slice (some ⟨bz,oz,none⟩) 2 ck] 24) bel bel.size)
           go_wp2_with (first
            | (go_at_call 71;refine (C2.out _ (made_bel bel bel.size)).mono ?_;rintro e W1 ⟨rfl,b1⟩;rw [made_size] at b1;have HV : Hid (∀ W,Below (wr.heap.size+1) W1 W→NqZ W wr.heap.size 44 y.t 0 (some ⟨bz,oz,none⟩) 2 ck):=fun W b=>made4 (b1.trans b);have c1:=(made_bel (Below.refl wr.heap.size wr) (Nat.le_refl _)).trans (b1.mono (Nat.le_succ _));have s1 : wr.heap.size+1 ≤ W1.heap.size:=(by have:=b1.size;rw [made_size] at this;exact this);have kb1:=Below.refl (wr.heap.size+1) W1;obtain ⟨_,_,_,_⟩:=HV.out _ kb1;obtain ⟨_,_,_,_⟩:=HZ0.out _ (bel.trans (c1.mono bel.size));obtain ⟨_,_,_,_⟩:=HZ1.out _ (bel.trans (c1.mono bel.size)))
            | (go_at_call 73;refine (C3.out _ (bel.trans (c1.mono bel.size))).mono ?_;rintro e W2 ⟨rfl,b2⟩;have kb2:=kb1.trans (b2.mono s1);have c2:=c1.trans (b2.mono c1.size);have s2 : wr.heap.size+1 ≤ W2.heap.size:=(by have:=b2.size;omega);obtain ⟨_,_,_,_⟩:=HV.out _ kb2;obtain ⟨_,_,_,_⟩:=HZ0.out _ (bel.trans (c2.mono bel.size));obtain ⟨_,_,_,_⟩:=HZ1.out _ (bel.trans (c2.mono bel.size))))
           go_roundg (gk - 1)
           case rel=>exact ⟨k+1,kk,1,_,rfl,by simp,by simp,by have:=hk.out;show _=_;omega,I2,by omega,by omega,bel0.trans (c2.mono sz),by rw [HE.out];exact row_bel HO.out c2⟩
           case measure=>have:=hk.out;omega
          ·have HR : Hid (clB l=false):=HMB.out (by rw [HM2.out];simp [hn])
           clear HMB HNO HNI HNC HNX HNK
           go_wp2_with (first
            | (go_at_call 71;refine (C2.out _ (made_bel bel bel.size)).mono ?_;rintro e W1 ⟨rfl,b1⟩;rw [made_size] at b1;have HV : Hid (∀ W,Below (wr.heap.size+1) W1 W→NqZ W wr.heap.size 44 y.t y.n (some ⟨bz,oz,none⟩) 2 ck):=fun W b=>made4 (b1.trans b);have c1:=(made_bel (Below.refl wr.heap.size wr) (Nat.le_refl _)).trans (b1.mono (Nat.le_succ _));have s1 : wr.heap.size+1 ≤ W1.heap.size:=(by have:=b1.size;rw [made_size] at this;exact this);have kb1:=Below.refl (wr.heap.size+1) W1;obtain ⟨_,_,_,_⟩:=HV.out _ kb1;obtain ⟨_,_,_,_⟩:=HZ0.out _ (bel.trans (c1.mono bel.size));obtain ⟨_,_,_,_⟩:=HZ1.out _ (bel.trans (c1.mono bel.size)))
            | (go_at_call 73;refine (C3.out _ (bel.trans (c1.mono bel.size))).mono ?_;rintro e W2 ⟨rfl,b2⟩;have kb2:=kb1.trans (b2.mono s1);have c2:=c1.trans (b2.mono c1.size);have s2 : wr.heap.size+1 ≤ W2.heap.size:=(by have:=b2.size;omega);obtain ⟨_,_,_,_⟩:=HV.out _ kb2;obtain ⟨_,_,_,_⟩:=HZ0.out _ (bel.trans (c2.mono bel.size));obtain ⟨_,_,_,_⟩:=HZ1.out _ (bel.trans (c2.mono bel.size))))
           go_ret
           exact ⟨ret_b (by rw [HR.out];first | done | simp),(bel.trans (c2.mono bel.size))⟩
       ·have h2' : ¬ (y.ks.length : Int)=2:=by omega
        have HR : Hid (clB l=false):=HMB.out (by rw [HM1.out,fl2_no _ _ _ h2];simp)
        clear HMB HNO HNI HNC HNX HNK
        go_wp2
        go_ret
        exact ⟨ret_b (by rw [HR.out];first | done | simp),(made_bel bel bel.size)⟩
      ·have hs1 : ¬ (s : Int) < 1:=by omega
       have HR : Hid (clB l=false):=HNC.out rfl (by simpa using he) hs0
       clear HMB HNO HNI HNC HNX HNK
       go_wp2
       go_ret
       exact ⟨ret_b (by rw [HR.out];first | done | simp),(made_bel bel bel.size)⟩
    ·by_cases h5 : y.k=45
     ·rw [h5] at u1 HNO HNX HNK HNC
      have HM1 : Hid (mbB y=(propT false y.t.data.toList && (y.t.toList != ctorL) && (y.n == 0) && bodyB y.ks)):=mb45 h5
      have C2 : Hid (QC 69 w (.slice ak y.ks.length ck) (bodyB y.ks)):=hB1 w S ak ck hr
      generalize propT false y.t.data.toList=pt at *
      generalize bodyB y.ks=p2 at *
      clear hr hE1 hT1 hS1 hP1 hX1 hL1 hB1
      cases pt with
      | false =>
       have HR : Hid (clB l=false):=HMB.out (by rw [HM1.out];simp)
       clear HMB HNO HNI HNC HNX HNK
       go_wp2_with (go_at_call 68;refine (C1.out _ (made_bel bel bel.size)).mono ?_;rintro e W1 ⟨rfl,b1⟩;rw [made_size] at b1;have HV : Hid (∀ W,Below (wr.heap.size+1) W1 W→NqZ W wr.heap.size 45 y.t y.n ak y.ks.length ck):=fun W b=>made4 (b1.trans b);have c1:=(made_bel (Below.refl wr.heap.size wr) (Nat.le_refl _)).trans (b1.mono (Nat.le_succ _));have s1 : wr.heap.size+1 ≤ W1.heap.size:=(by have:=b1.size;rw [made_size] at this;exact this);have kb1:=Below.refl (wr.heap.size+1) W1;obtain ⟨_,_,_,_⟩:=HV.out _ kb1)
       go_ret
       exact ⟨ret_b (by rw [HR.out];first | done | simp),(bel.trans (c1.mono bel.size))⟩
      | true =>
       cases p2 with
       | false =>
        have HR : Hid (clB l=false):=HMB.out (by rw [HM1.out];simp)
        clear HMB HNO HNI HNC HNX HNK
        go_wp2_with (first
         | (go_at_call 68;refine (C1.out _ (made_bel bel bel.size)).mono ?_;rintro e W1 ⟨rfl,b1⟩;rw [made_size] at b1;have HV : Hid (∀ W,Below (wr.heap.size+1) W1 W→NqZ W wr.heap.size 45 y.t y.n ak y.ks.length ck):=fun W b=>made4 (b1.trans b);have c1:=(made_bel (Below.refl wr.heap.size wr) (Nat.le_refl _)).trans (b1.mono (Nat.le_succ _));have s1 : wr.heap.size+1 ≤ W1.heap.size:=(by have:=b1.size;rw [made_size] at this;exact this);have kb1:=Below.refl (wr.heap.size+1) W1;obtain ⟨_,_,_,_⟩:=HV.out _ kb1)
         | (go_at_call 69;refine (C2.out _ (bel.trans (c1.mono bel.size))).mono ?_;rintro e W2 ⟨rfl,b2⟩;have kb2:=kb1.trans (b2.mono s1);have c2:=c1.trans (b2.mono c1.size);have s2 : wr.heap.size+1 ≤ W2.heap.size:=(by have:=b2.size;omega);obtain ⟨_,_,_,_⟩:=HV.out _ kb2))
        go_ret
        exact ⟨ret_b (by rw [HR.out];first | done | simp),(bel.trans (c2.mono bel.size))⟩
       | true =>
        have HM2 : Hid (mbB y=((y.t.toList != ctorL) && (y.n == 0))):=HM1.out.trans (by simp)
        clear HM1
        by_cases hn : y.n=0
        ·rw [hn] at u3 HM2
         have hs2 : ¬ (2 : Int) < (s : Int):=by omega
         by_cases hin : y.t.data.toList ∈ L
         ·have CI2 : Hid (∀ W,Below wr.heap.size wr W→Calls Tryz.prog 70 #[.string y.t,v] W fun e w'=>e = .returned (.bool true)∧w'=W):=by rw [decide_eq_true hin] at CI;exact CI
          have HR : Hid (clB l=false):=HNI.out hin
          clear HMB HNO HNI HNC HNX HNK
          go_wp2_with (first
           | (go_at_call 68;refine (C1.out _ (made_bel bel bel.size)).mono ?_;rintro e W1 ⟨rfl,b1⟩;rw [made_size] at b1;have HV : Hid (∀ W,Below (wr.heap.size+1) W1 W→NqZ W wr.heap.size 45 y.t 0 ak y.ks.length ck):=fun W b=>made4 (b1.trans b);have c1:=(made_bel (Below.refl wr.heap.size wr) (Nat.le_refl _)).trans (b1.mono (Nat.le_succ _));have s1 : wr.heap.size+1 ≤ W1.heap.size:=(by have:=b1.size;rw [made_size] at this;exact this);have kb1:=Below.refl (wr.heap.size+1) W1;obtain ⟨_,_,_,_⟩:=HV.out _ kb1)
           | (go_at_call 69;refine (C2.out _ (bel.trans (c1.mono bel.size))).mono ?_;rintro e W2 ⟨rfl,b2⟩;have kb2:=kb1.trans (b2.mono s1);have c2:=c1.trans (b2.mono c1.size);have s2 : wr.heap.size+1 ≤ W2.heap.size:=(by have:=b2.size;omega);obtain ⟨_,_,_,_⟩:=HV.out _ kb2)
           | (go_at_call 70;refine (CI2.out _ c2).mono ?_;rintro e W3 ⟨rfl,rfl⟩))
          go_ret
          exact ⟨ret_b (by rw [HR.out];first | done | simp),(bel.trans (c2.mono bel.size))⟩
         ·have CI2 : Hid (∀ W,Below wr.heap.size wr W→Calls Tryz.prog 70 #[.string y.t,v] W fun e w'=>e = .returned (.bool false)∧w'=W):=by rw [decide_eq_false hin] at CI;exact CI
          cases hc : (y.t.toList == ctorL) with
          | true =>
           rw [show ctorL=[99,111,110,115,116,114,117,99,116,111,114] from rfl] at hc
           have HR : Hid (clB l=false):=HMB.out (by rw [HM2.out];simp [bne,show (y.t.toList == ctorL)=true from hc])
           clear HMB HNO HNI HNC HNX HNK
           go_wp2_with (first
            | (go_at_call 68;refine (C1.out _ (made_bel bel bel.size)).mono ?_;rintro e W1 ⟨rfl,b1⟩;rw [made_size] at b1;have HV : Hid (∀ W,Below (wr.heap.size+1) W1 W→NqZ W wr.heap.size 45 y.t 0 ak y.ks.length ck):=fun W b=>made4 (b1.trans b);have c1:=(made_bel (Below.refl wr.heap.size wr) (Nat.le_refl _)).trans (b1.mono (Nat.le_succ _));have s1 : wr.heap.size+1 ≤ W1.heap.size:=(by have:=b1.size;rw [made_size] at this;exact this);have kb1:=Below.refl (wr.heap.size+1) W1;obtain ⟨_,_,_,_⟩:=HV.out _ kb1)
            | (go_at_call 69;refine (C2.out _ (bel.trans (c1.mono bel.size))).mono ?_;rintro e W2 ⟨rfl,b2⟩;have kb2:=kb1.trans (b2.mono s1);have c2:=c1.trans (b2.mono c1.size);have s2 : wr.heap.size+1 ≤ W2.heap.size:=(by have:=b2.size;omega);obtain ⟨_,_,_,_⟩:=HV.out _ kb2)
            | (go_at_call 70;refine (CI2.out _ c2).mono ?_;rintro e W3 ⟨rfl,rfl⟩))
           go_ret
           exact ⟨ret_b (by rw [HR.out];first | done | simp),(bel.trans (c2.mono bel.size))⟩
          | false =>
           obtain ⟨I2,HE⟩ : Hid (ClInv l (k+1) (kk+1) 2)∧Hid (nmF (l.take (k+1))=L ++ [y.t.data.toList]):=HNX.out (by rw [HM2.out];simp [bne,hc]) (by omega) (by omega) hin 2 rfl
           rw [show ctorL=[99,111,110,115,116,114,117,99,116,111,114] from rfl] at hc
           clear HMB HNO HNI HNC HNX HNK HM2 CI hin
           go_wp2_with (first
            | (go_at_call 68;refine (C1.out _ (made_bel bel bel.size)).mono ?_;rintro e W1 ⟨rfl,b1⟩;rw [made_size] at b1;have HV : Hid (∀ W,Below (wr.heap.size+1) W1 W→NqZ W wr.heap.size 45 y.t 0 ak y.ks.length ck):=fun W b=>made4 (b1.trans b);have c1:=(made_bel (Below.refl wr.heap.size wr) (Nat.le_refl _)).trans (b1.mono (Nat.le_succ _));have s1 : wr.heap.size+1 ≤ W1.heap.size:=(by have:=b1.size;rw [made_size] at this;exact this);have kb1:=Below.refl (wr.heap.size+1) W1;obtain ⟨_,_,_,_⟩:=HV.out _ kb1)
            | (go_at_call 69;refine (C2.out _ (bel.trans (c1.mono bel.size))).mono ?_;rintro e W2 ⟨rfl,b2⟩;have kb2:=kb1.trans (b2.mono s1);have c2:=c1.trans (b2.mono c1.size);have s2 : wr.heap.size+1 ≤ W2.heap.size:=(by have:=b2.size;omega);obtain ⟨_,_,_,_⟩:=HV.out _ kb2)
            | (go_at_call 70;refine (CI2.out _ c2).mono ?_;rintro e W3 ⟨rfl,rfl⟩)
            | (at_builtin;refine wpList_append_lies _ (by rfl) _ _ _ (by rfl) (w.heap.size+1) 9 i0 _ 1 16 Tryz.underlying48 hi0 hz0 hz1 hz2 rfl (by omega) _ kk (textC L) (by rfl) ((row_bel HO.out c2).alloc _) ⟨_,0,none⟩ 1 1 [.string y.t] (by rfl) (by rfl) (World.news_of_block (cs:=#[.string y.t]) (t:=9) (fr:=(0,0)) (heap_alloc_new _ _)) (by simp [Value.oneCell']) (by omega) (by unfold maxLen;omega) (by omega) (by simp;omega) _ rfl ?_;intro gg cap W9 hown9 hgrow hat hlt9))
           have bel9:=((bel0.trans (c2.mono sz)).alloc (Nat.le_trans sz c2.size) _).grown hgrow (by simp;have:=c2.size;omega) (fun j hj=>((row_bel HO.out c2).lt j hj).1)
           go_roundg (gk - 1)
           case rel=>exact ⟨k+1,kk+1,2,_,rfl,by simp,by simp,by have:=hk.out;show _=_;omega,I2,by omega,by omega,bel9,by rw [HE.out,textC_app];exact hown9⟩
           case measure=>have:=hk.out;omega
        ·have HR : Hid (clB l=false):=HMB.out (by rw [HM2.out];simp [hn])
         clear HMB HNO HNI HNC HNX HNK
         go_wp2_with (first
          | (go_at_call 68;refine (C1.out _ (made_bel bel bel.size)).mono ?_;rintro e W1 ⟨rfl,b1⟩;rw [made_size] at b1;have HV : Hid (∀ W,Below (wr.heap.size+1) W1 W→NqZ W wr.heap.size 45 y.t y.n ak y.ks.length ck):=fun W b=>made4 (b1.trans b);have c1:=(made_bel (Below.refl wr.heap.size wr) (Nat.le_refl _)).trans (b1.mono (Nat.le_succ _));have s1 : wr.heap.size+1 ≤ W1.heap.size:=(by have:=b1.size;rw [made_size] at this;exact this);have kb1:=Below.refl (wr.heap.size+1) W1;obtain ⟨_,_,_,_⟩:=HV.out _ kb1)
          | (go_at_call 69;refine (C2.out _ (bel.trans (c1.mono bel.size))).mono ?_;rintro e W2 ⟨rfl,b2⟩;have kb2:=kb1.trans (b2.mono s1);have c2:=c1.trans (b2.mono c1.size);have s2 : wr.heap.size+1 ≤ W2.heap.size:=(by have:=b2.size;omega);obtain ⟨_,_,_,_⟩:=HV.out _ kb2))
         go_ret
         exact ⟨ret_b (by rw [HR.out];first | done | simp),(bel.trans (c2.mono bel.size))⟩
     ·have HR : Hid (clB l=false):=HMB.out (mb_else h3 h4 h5)
      clear HMB HNO HNI HNC HNX HNK
      go_wp2
      go_ret
      exact ⟨ret_b (by rw [HR.out];first | done | simp),(made_bel bel bel.size)⟩
  ·have HR : Hid (clB l=true):=HI.out.done (by omega)
   clear HI HO hE hT hS hP hX hX2 hL hBC px qx rx
   go_wp2
   go_ret
   exact ⟨ret_b (by rw [HR.out];simp),bel⟩
end Go.Proofs.YtfcocoadaajbjaaGreatDoor
