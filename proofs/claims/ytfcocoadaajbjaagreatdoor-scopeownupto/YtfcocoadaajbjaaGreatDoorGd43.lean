/- Own text. Which trees are exports from elsewhere: the document's answer. -/
import Derived.Test.YtfcocoadaajbjaaGreatDoorGd41
import Derived.Test.YtfcocoadaajbjaaGreatDoorGd42
import Derived.Deep.RegionHeld3
set_option linter.unusedVariables false
set_option linter.unusedSimpArgs false
set_option maxRecDepth 100000
set_option maxHeartbeats 16000000
namespace Go.Proofs.YtfcocoadaajbjaaGreatDoor
open Go.RowKit
def foB (y : Nd) : Bool:=(y.k == 65) && (y.n == 0) && ((y.ks.length : Int) == 1) && y.ks.all (fun z=>noB z || (naB true z && !(z.t.toList == y.t.toList)))
def elB (c : Nat) (t : ByteArray) (n : Int) (y : Nd) : Bool:=foB y && (if (y.t.toList == [42])=true then decide (c ≤ 1) && !(t.toList == []) && (n == 0) else propT false y.t.data.toList && (!(t.toList == []) || idT false y.t))
theorem from_m (m : Int) (hm : m=0 ∨ m=1) (t : ByteArray) (l : List Nd) (hX : ∀ z ∈ l,z.t.size ≤ 4194304) (hX2 : ∀ z ∈ l,∀ u ∈ z.ks,u.t.size ≤ 4194304) (ht : t.size ≤ 4194304) (h0 : 0 < l.length) (hl : l.length ≤ 4194304) (a : Option Addr) (c : Nat) (w : World) (S : Nat→Prop) (hx : LAt w S (.slice a l.length c) l) :
 Calls Tryz.prog 76 #[nv 64 t m a l.length c] w fun e w'=>e = .returned (.bool (validL t.data.toList && l.all (elB l.length t m)))∧Below w.heap.size w w':=by
 have CP:=fun W=>rvalid_any t W (by omega)
 have h0' : ((l.length : Int) == 0)=false:=lenF l 0 (by omega)
 generalize validL t.data.toList=p at *
 obtain ⟨ax,cx,bx,ox,fx,e,px,qx,rx⟩:=hx.op
 obtain ⟨rfl,rfl⟩ : a=ax∧c=cx:=by injection e with e1 e2 e3;exact ⟨e1,e3⟩
 clear e
 obtain ⟨rfl,hSx,hbx⟩:=px h0
 clear px h0
 have X0 : (w.alloc (Obj.cells #[.int .i64 64,.string t,.int .i64 m,.slice (some ⟨bx,ox,none⟩) l.length c] 24)).heap[w.heap.size]?=some (.cells #[.int .i64 64,.string t,.int .i64 m,.slice (some ⟨bx,ox,none⟩) l.length c] 24 (0,0)):=hnew _ rfl
 have kp : Hid (∀ W',Below (w.heap.size+1) (w.alloc (Obj.cells #[.int .i64 64,.string t,.int .i64 m,.slice (some ⟨bx,ox,none⟩) l.length c] 24)) W'→(NqZ W' w.heap.size 64 t m (some ⟨bx,ox,none⟩) l.length c)):=fun W' b=>(box4 ((b.block _ (by omega)).trans X0)).1
 have kb : Hid (∀ W',Below (w.heap.size+1) (w.alloc (Obj.cells #[.int .i64 64,.string t,.int .i64 m,.slice (some ⟨bx,ox,none⟩) l.length c] 24)) W'→Below w.heap.size w W'∧w.heap.size+1 ≤ W'.heap.size):=fun W' b=>⟨(bel_a w _).trans (b.mono (by omega)),by have:=b.size;simpa using this⟩
 have kr : Hid (Below (w.heap.size+1) (w.alloc (Obj.cells #[.int .i64 64,.string t,.int .i64 m,.slice (some ⟨bx,ox,none⟩) l.length c] 24)) (w.alloc (Obj.cells #[.int .i64 64,.string t,.int .i64 m,.slice (some ⟨bx,ox,none⟩) l.length c] 24))):=Below.refl _ _
 clear X0
 have hcl : ((m == 0)=true∧(m != 0)=false) ∨ ((m == 0)=false∧(m != 0)=true∧(m != 1)=false∧(m == 1)=true):=by rcases hm with rfl | rfl <;> decide
 clear hm
 rcases hcl with ⟨em,e0⟩ | ⟨em,e0,e1,e1'⟩
 all_goals
  go_enter Tryz.func76,Tryz.ntmps76
  cases p with
  | false =>
   go_wp2_with (go_at_call 66;refine (CP _).mono ?_;rintro e W1 ⟨rfl,b1⟩)
   go_ret
   exact ⟨ret_b (by simp),(bel_a w _).trans (b1.mono (by simp))⟩
  | true =>
  go_wp2_with (go_at_call 66;refine (CP _).mono ?_;rintro e W1 ⟨rfl,b1⟩;have k1:=kr.out.trans (b1.mono (by simp));obtain ⟨_,_,_,_⟩:=kp.out _ k1)
  clear b1
  generalize w.alloc (Obj.cells #[.int .i64 64,.string t,.int .i64 m,.slice (some ⟨bx,ox,none⟩) l.length c] 24)=W0 at *
  go_loopg [3] l.length (fun gk v3 wr=>∃ (k : Nat),v3 = .int .i64 (k : Nat)∧Hid (gk+k=l.length)∧Below (w.heap.size+1) W0 wr∧Hid (∀ y ∈ l.take k,elB l.length t m y=true))
  case atStart=>exact ⟨0,rfl,by simp [Hid],k1,by simp [Hid]⟩
  case round =>
   obtain ⟨k,rfl,hk,bel0,HT⟩:=hrel
   obtain ⟨bel,sz⟩:=kb.out _ bel0
   have hkk : k ≤ l.length:=by have:=hk.out;omega
   obtain ⟨n1,n2,n3,n4⟩:=kp.out _ bel0
   by_cases hkl : k < l.length
   ·have hm:=List.getElem_mem hkl
    have HS : Hid (l.take (k+1)=l.take k ++ [l[k]]):=List.take_succ_eq_append_getElem hkl
    have hX1:=hX _ hm
    have hX3:=hX2 _ hm
    have HM : Hid (l[k] ∈ l):=hm
    have hr:=rx k hkl
    have hq:=qx k hkl
    clear hm
    generalize l[k]=y at *
    generalize fx k=fk at *
    obtain ⟨ak,ck,rfl⟩:=hr.sl
    have C1:=q_prop w y.t hX1
    have C4:=q_id w y.t hX1
    have HB : Hid (elB l.length t m y=false→l.all (elB l.length t m)=false):=fun h=>List.all_eq_false.2 ⟨y,HM.out,by rw [h];decide⟩
    have HG : Hid (elB l.length t m y=true→∀ z ∈ l.take (k+1),elB l.length t m z=true):=fun h z hz=>by
     rw [HS.out] at hz
     rcases List.mem_append.1 hz with hz | hz
     ·exact HT.out z hz
     ·obtain rfl : z=y:=by simpa using hz
      exact h
    have HP : Hid (elB l.length t m y=(((y.k == 65) && (y.n == 0) && ((y.ks.length : Int) == 1) && y.ks.all (fun z=>noB z || (naB true z && !(z.t.toList == y.t.toList)))) && (if (y.t.toList == [42])=true then decide (l.length ≤ 1) && !(t.toList == []) && (m == 0) else propT false y.t.data.toList && (!(t.toList == []) || idT false y.t)))):=rfl
    obtain ⟨u1,u2,u3,u4⟩:=(kid_at hq hr hbx bel).1
    clear hX hX2 qx rx HM HS HT hq
    by_cases h10 : y.k=65
    ·rw [h10] at u1 HP
     by_cases hn : y.n=0
     ·rw [hn] at u3 HP
      by_cases h1 : y.ks.length=1
      ·obtain ⟨z,hz⟩:=List.length_eq_one_iff.1 h1
       have hCz:=hX3 z (by rw [hz];simp)
       rw [hz] at hr HP
       obtain ⟨bz,oz,cz,az,rfl,hbz,hgz,hcz⟩:=one_at hr
       have HZ : Hid (∀ W,Below w.heap.size w W→NqO W bz oz z.k z.t z.n az z.ks.length cz):=hcz
       have C2 : Hid (QC 74 w (nv z.k z.t z.n az z.ks.length cz) (noB z)):=q_no
       have C3 : Hid (QB 77 w (nv z.k z.t z.n az z.ks.length cz) true (naB true z)):=q_na true hCz
       clear hcz hCz hX3 hgz hr
       rw [h1] at u4
       have HP2 : Hid (elB l.length t m y=((noB z || (naB true z && !(z.t.toList == y.t.toList))) && (if (y.t.toList == [42])=true then decide (l.length ≤ 1) && !(t.toList == []) && (m == 0) else propT false y.t.data.toList && (!(t.toList == []) || idT false y.t)))):=by show _=_;rw [HP.out];simp
       clear HP hz
       generalize noB z=nz at *
       generalize naB true z=az2 at *
       cases nz with
       | true =>
        have HP : Hid (elB l.length t m y=(if (y.t.toList == [42])=true then decide (l.length ≤ 1) && !(t.toList == []) && (m == 0) else propT false y.t.data.toList && (!(t.toList == []) || idT false y.t))):=HP2.out
        clear HP2
        go_wp2_with fail
        obtain ⟨WP,hWP⟩ : ∃ W,wr.alloc (Obj.cells #[.int .i64 65,.string y.t,.int .i64 0,.slice (some ⟨bz,oz,none⟩) 1 ck] 24)=W:=⟨_,rfl⟩
        have cP : Below wr.heap.size wr WP:=by rw [← hWP];exact bel_a _ _
        have mP : WP.heap[wr.heap.size]?=some (.cells #[.int .i64 65,.string y.t,.int .i64 0,.slice (some ⟨bz,oz,none⟩) 1 ck] 24 (0,0)):=by rw [← hWP];exact heap_alloc_new _ _
        rw [hWP]
        clear hWP
        have lP : wr.heap.size < WP.heap.size:=(Array.getElem?_eq_some_iff.1 mP).1
        have up : Hid (∀ W',Below WP.heap.size WP W'→Below wr.heap.size wr W'):=fun W' b=>cP.trans (b.mono cP.size)
        have cs : Hid (∀ W',Below WP.heap.size WP W'→(NqZ W' wr.heap.size 65 y.t 0 (some ⟨bz,oz,none⟩) 1 ck)∧(NqO W' bz oz z.k z.t z.n az z.ks.length cz)):=fun W' b=>⟨(box4 ((b.block _ lP).trans mP)).1,HZ.out _ (bel.trans ((up.out _ b).mono bel.size))⟩
        clear mP
        have B0 : Below WP.heap.size WP WP.drew:=(Below.refl _ _).drew
        have hS0:=cs.out _ B0
        refine wp_region_noPanic ?_
        refine wp_region_held_drew (S:=fun W'=>(NqZ W' wr.heap.size 65 y.t 0 (some ⟨bz,oz,none⟩) 1 ck)∧(NqO W' bz oz z.k z.t z.n az z.ks.length cz)) (by kernel_rfl) hS0 (fun hHeld=>?_)
        refine tH 0 ?_
        simp only [List.set]
        refine tH 1 ?_
        simp only [List.set]
        refine tH 2 ?_
        simp only [List.set]
        refine tH 3 ?_
        simp only [List.set]
        refine tH 4 ?_
        simp only [List.set]
        refine tH 5 ?_
        simp only [List.set]
        refine tH 6 ?_
        simp only [List.set]
        refine tH 7 ?_
        simp only [List.set]
        refine tH 8 ?_
        simp only [List.set]
        refine tH 9 ?_
        simp only [List.set]
        refine tH 10 ?_
        simp only [List.set]
        refine tH 11 ?_
        simp only [List.set]
        refine tH 12 ?_
        simp only [List.set]
        refine tH 13 ?_
        simp only [List.set]
        refine tH 14 ?_
        simp only [List.set]
        refine tH 15 ?_
        simp only [List.set]
        refine tH 16 ?_
        simp only [List.set]
        refine tH 17 ?_
        simp only [List.set]
        refine tH 18 ?_
        simp only [List.set]
        refine wpAnyH_ready (rs:=[19]) (by kernel_rfl) (by simp) ?_
        refine AllReadyH.cons rfl (fun K hK=>?_) AllReadyH.nil
        try simp only [List.getElem_toArray,List.getElem_cons_zero,List.getElem_cons_succ]
        go_simp
        refine (C2.out _ (bel.trans ((up.out _ B0).mono bel.size))).mono ?_
        rintro e W1 ⟨rfl,b1⟩
        have B1:=B0.trans (b1.mono B0.size)
        have hS1:=cs.out _ B1
        refine hK.out _ _ hS1 (fun hHeld1=>?_)
        clear hK K
        try simp only [Act.put,List.getElem_toArray,List.getElem_cons_zero,List.getElem_cons_succ,List.setIfInBounds_toArray,List.set_cons_zero,List.set_cons_succ]
        refine tH 20 ?_
        simp only [List.set]
        refine tH 21 ?_
        simp only [List.set]
        refine tS 22 ?_
        simp only [List.set]
        refine tS 23 ?_
        simp only [List.set]
        refine tS 24 ?_
        simp only [List.set]
        refine tS 25 ?_
        simp only [List.set]
        refine tS 26 ?_
        simp only [List.set]
        refine tS 27 ?_
        simp only [List.set]
        refine tS 28 ?_
        simp only [List.set]
        refine tS 29 ?_
        simp only [List.set]
        refine tS 30 ?_
        simp only [List.set]
        refine tS 31 ?_
        simp only [List.set]
        refine tS 32 ?_
        simp only [List.set]
        refine tS 33 ?_
        simp only [List.set]
        refine tS 34 ?_
        simp only [List.set]
        refine tS 35 ?_
        simp only [List.set]
        refine tS 36 ?_
        simp only [List.set]
        refine tS 37 ?_
        simp only [List.set]
        refine tH 38 ?_
        simp only [List.set]
        refine tH 39 ?_
        simp only [List.set]
        refine wpAnyH_done (by kernel_rfl) ?_ _
        refine NoPanic.normal ?_
        obtain ⟨⟨_,_,_,_⟩,⟨_,_,_,_⟩⟩:=cs.out _ B1
        obtain ⟨_,_,_,_⟩:=kp.out _ (bel0.trans ((up.out _ B1).mono sz))
        cases he : (y.t.toList == [42]) with
        | true =>
         have HP3 : Hid (elB l.length t m y=(decide (l.length ≤ 1) && !(t.toList == []) && (m == 0))):=by show _=_;rw [HP.out,if_pos he]
         by_cases hl1 : l.length ≤ 1
         ·have hl1' : ¬ (1 : Int) < (l.length : Int):=by omega
          cases h0 : (t.toList == []) with
          | true =>
           have HR : Hid (l.all (elB l.length t m)=false):=HB.out (by rw [HP3.out,h0];simp)
           clear HB HG HP
           go_wp2
           go_ret
           exact ⟨ret_b (by first | rw [Bool.true_and,HR.out] | rw [HR.out]),(bel.trans ((up.out _ B1).mono bel.size))⟩
          | false =>
           first
           | (have HR : Hid (∀ z ∈ l.take (k + 1),elB l.length t m z = true):=HG.out (by rw [HP3.out,h0];simp [hl1,em])
              clear HB HG HP HP3
              go_wp2
              go_roundg (gk - 1)
              case rel=>exact ⟨k+1,by simp,by have:=hk.out;show _=_;omega,bel0.trans ((up.out _ B1).mono sz),HR⟩
              case measure=>have:=hk.out;omega)
           | (have HR : Hid (l.all (elB l.length t m) = false):=HB.out (by rw [HP3.out];simp [em])
              clear HB HG HP
              go_wp2
              go_ret
              exact ⟨ret_b (by first | rw [Bool.true_and,HR.out] | rw [HR.out]),(bel.trans ((up.out _ B1).mono bel.size))⟩)
         ·have hl1' : (1 : Int) < (l.length : Int):=by omega
          have HR : Hid (l.all (elB l.length t m)=false):=HB.out (by rw [HP3.out];simp [hl1])
          clear HB HG HP
          go_wp2
          go_ret
          exact ⟨ret_b (by first | rw [Bool.true_and,HR.out] | rw [HR.out]),(bel.trans ((up.out _ B1).mono bel.size))⟩
        | false =>
         have HP3 : Hid (elB l.length t m y=(propT false y.t.data.toList && (!(t.toList == []) || idT false y.t))):=by show _=_;rw [HP.out,if_neg (by rw [he];decide)]
         generalize propT false y.t.data.toList=pt at *
         generalize idT false y.t=it at *
         cases pt with
         | false =>
          have HR : Hid (l.all (elB l.length t m)=false):=HB.out HP3.out
          clear HB HG HP
          go_wp2_with (go_at_call 68;refine (C1.out _ (bel.trans ((up.out _ B1).mono bel.size))).mono ?_;rintro e W8 ⟨rfl,b8⟩;have B8:=B1.trans (b8.mono B1.size);obtain ⟨⟨_,_,_,_⟩,⟨_,_,_,_⟩⟩:=cs.out _ B8;obtain ⟨_,_,_,_⟩:=kp.out _ (bel0.trans ((up.out _ B8).mono sz)))
          go_ret
          exact ⟨ret_b (by first | rw [Bool.true_and,HR.out] | rw [HR.out]),(bel.trans ((up.out _ B8).mono bel.size))⟩
         | true =>
          cases h0 : (t.toList == []) with
          | false =>
           have HR : Hid (∀ z ∈ l.take (k+1),elB l.length t m z=true):=HG.out (by rw [HP3.out,h0];rfl)
           clear HB HG HP HP3
           go_wp2_with (go_at_call 68;refine (C1.out _ (bel.trans ((up.out _ B1).mono bel.size))).mono ?_;rintro e W8 ⟨rfl,b8⟩;have B8:=B1.trans (b8.mono B1.size);obtain ⟨⟨_,_,_,_⟩,⟨_,_,_,_⟩⟩:=cs.out _ B8;obtain ⟨_,_,_,_⟩:=kp.out _ (bel0.trans ((up.out _ B8).mono sz)))
           go_roundg (gk - 1)
           case rel=>exact ⟨k+1,by simp,by have:=hk.out;show _=_;omega,bel0.trans ((up.out _ B8).mono sz),HR⟩
           case measure=>have:=hk.out;omega
          | true =>
           cases it with
           | false =>
            have HR : Hid (l.all (elB l.length t m)=false):=HB.out (by rw [HP3.out,h0];rfl)
            clear HB HG HP
            go_wp2_with (first
             | (go_at_call 68;refine (C1.out _ (bel.trans ((up.out _ B1).mono bel.size))).mono ?_;rintro e W8 ⟨rfl,b8⟩;have B8:=B1.trans (b8.mono B1.size);obtain ⟨⟨_,_,_,_⟩,⟨_,_,_,_⟩⟩:=cs.out _ B8;obtain ⟨_,_,_,_⟩:=kp.out _ (bel0.trans ((up.out _ B8).mono sz)))
             | (go_at_call 13;refine (C4.out _ (bel.trans ((up.out _ B8).mono bel.size))).mono ?_;rintro e W9 ⟨rfl,b9⟩;have B9:=B8.trans (b9.mono B8.size);obtain ⟨⟨_,_,_,_⟩,⟨_,_,_,_⟩⟩:=cs.out _ B9;obtain ⟨_,_,_,_⟩:=kp.out _ (bel0.trans ((up.out _ B9).mono sz))))
            go_ret
            exact ⟨ret_b (by first | rw [Bool.true_and,HR.out] | rw [HR.out]),(bel.trans ((up.out _ B9).mono bel.size))⟩
           | true =>
            have HR : Hid (∀ z ∈ l.take (k+1),elB l.length t m z=true):=HG.out (by rw [HP3.out,h0];rfl)
            clear HB HG HP HP3
            go_wp2_with (first
             | (go_at_call 68;refine (C1.out _ (bel.trans ((up.out _ B1).mono bel.size))).mono ?_;rintro e W8 ⟨rfl,b8⟩;have B8:=B1.trans (b8.mono B1.size);obtain ⟨⟨_,_,_,_⟩,⟨_,_,_,_⟩⟩:=cs.out _ B8;obtain ⟨_,_,_,_⟩:=kp.out _ (bel0.trans ((up.out _ B8).mono sz)))
             | (go_at_call 13;refine (C4.out _ (bel.trans ((up.out _ B8).mono bel.size))).mono ?_;rintro e W9 ⟨rfl,b9⟩;have B9:=B8.trans (b9.mono B8.size);obtain ⟨⟨_,_,_,_⟩,⟨_,_,_,_⟩⟩:=cs.out _ B9;obtain ⟨_,_,_,_⟩:=kp.out _ (bel0.trans ((up.out _ B9).mono sz))))
            go_roundg (gk - 1)
            case rel=>exact ⟨k+1,by simp,by have:=hk.out;show _=_;omega,bel0.trans ((up.out _ B9).mono sz),HR⟩
            case measure=>have:=hk.out;omega
       | false =>
        cases az2 with
        | false =>
         have HP:=HP2
         have HR : Hid (l.all (elB l.length t m)=false):=HB.out HP.out
         clear HB HG HP HP2
         go_wp2_with fail
         obtain ⟨WP,hWP⟩ : ∃ W,wr.alloc (Obj.cells #[.int .i64 65,.string y.t,.int .i64 0,.slice (some ⟨bz,oz,none⟩) 1 ck] 24)=W:=⟨_,rfl⟩
         have cP : Below wr.heap.size wr WP:=by rw [← hWP];exact bel_a _ _
         have mP : WP.heap[wr.heap.size]?=some (.cells #[.int .i64 65,.string y.t,.int .i64 0,.slice (some ⟨bz,oz,none⟩) 1 ck] 24 (0,0)):=by rw [← hWP];exact heap_alloc_new _ _
         rw [hWP]
         clear hWP
         have lP : wr.heap.size < WP.heap.size:=(Array.getElem?_eq_some_iff.1 mP).1
         have up : Hid (∀ W',Below WP.heap.size WP W'→Below wr.heap.size wr W'):=fun W' b=>cP.trans (b.mono cP.size)
         have cs : Hid (∀ W',Below WP.heap.size WP W'→(NqZ W' wr.heap.size 65 y.t 0 (some ⟨bz,oz,none⟩) 1 ck)∧(NqO W' bz oz z.k z.t z.n az z.ks.length cz)):=fun W' b=>⟨(box4 ((b.block _ lP).trans mP)).1,HZ.out _ (bel.trans ((up.out _ b).mono bel.size))⟩
         clear mP
         have B0 : Below WP.heap.size WP WP.drew:=(Below.refl _ _).drew
         have hS0:=cs.out _ B0
         refine wp_region_noPanic ?_
         refine wp_region_held_drew (S:=fun W'=>(NqZ W' wr.heap.size 65 y.t 0 (some ⟨bz,oz,none⟩) 1 ck)∧(NqO W' bz oz z.k z.t z.n az z.ks.length cz)) (by kernel_rfl) hS0 (fun hHeld=>?_)
         refine tH 0 ?_
         simp only [List.set]
         refine tH 1 ?_
         simp only [List.set]
         refine tH 2 ?_
         simp only [List.set]
         refine tH 3 ?_
         simp only [List.set]
         refine tH 4 ?_
         simp only [List.set]
         refine tH 5 ?_
         simp only [List.set]
         refine tH 6 ?_
         simp only [List.set]
         refine tH 7 ?_
         simp only [List.set]
         refine tH 8 ?_
         simp only [List.set]
         refine tH 9 ?_
         simp only [List.set]
         refine tH 10 ?_
         simp only [List.set]
         refine tH 11 ?_
         simp only [List.set]
         refine tH 12 ?_
         simp only [List.set]
         refine tH 13 ?_
         simp only [List.set]
         refine tH 14 ?_
         simp only [List.set]
         refine tH 15 ?_
         simp only [List.set]
         refine tH 16 ?_
         simp only [List.set]
         refine tH 17 ?_
         simp only [List.set]
         refine tH 18 ?_
         simp only [List.set]
         refine wpAnyH_ready (rs:=[19]) (by kernel_rfl) (by simp) ?_
         refine AllReadyH.cons rfl (fun K hK=>?_) AllReadyH.nil
         try simp only [List.getElem_toArray,List.getElem_cons_zero,List.getElem_cons_succ]
         go_simp
         refine (C2.out _ (bel.trans ((up.out _ B0).mono bel.size))).mono ?_
         rintro e W1 ⟨rfl,b1⟩
         have B1:=B0.trans (b1.mono B0.size)
         have hS1:=cs.out _ B1
         refine hK.out _ _ hS1 (fun hHeld1=>?_)
         clear hK K
         try simp only [Act.put,List.getElem_toArray,List.getElem_cons_zero,List.getElem_cons_succ,List.setIfInBounds_toArray,List.set_cons_zero,List.set_cons_succ]
         refine tH 20 ?_
         simp only [List.set]
         refine tH 21 ?_
         simp only [List.set]
         refine tH 22 ?_
         simp only [List.set]
         refine tH 23 ?_
         simp only [List.set]
         refine tH 24 ?_
         simp only [List.set]
         refine tH 25 ?_
         simp only [List.set]
         refine wpAnyH_ready (rs:=[26]) (by kernel_rfl) (by simp) ?_
         refine AllReadyH.cons rfl (fun K hK=>?_) AllReadyH.nil
         try simp only [List.getElem_toArray,List.getElem_cons_zero,List.getElem_cons_succ]
         go_simp
         refine (C3.out _ (bel.trans ((up.out _ B1).mono bel.size))).mono ?_
         rintro e W2 ⟨rfl,b2⟩
         have B2:=B1.trans (b2.mono B1.size)
         have hS2:=cs.out _ B2
         refine hK.out _ _ hS2 (fun hHeld2=>?_)
         clear hK K
         try simp only [Act.put,List.getElem_toArray,List.getElem_cons_zero,List.getElem_cons_succ,List.setIfInBounds_toArray,List.set_cons_zero,List.set_cons_succ]
         refine tH 27 ?_
         simp only [List.set]
         refine tH 28 ?_
         simp only [List.set]
         refine tS 29 ?_
         simp only [List.set]
         refine tS 30 ?_
         simp only [List.set]
         refine tS 31 ?_
         simp only [List.set]
         refine tS 32 ?_
         simp only [List.set]
         refine tS 33 ?_
         simp only [List.set]
         refine tS 34 ?_
         simp only [List.set]
         refine tS 35 ?_
         simp only [List.set]
         refine tS 36 ?_
         simp only [List.set]
         refine tH 37 ?_
         simp only [List.set]
         refine tH 38 ?_
         simp only [List.set]
         refine tH 39 ?_
         simp only [List.set]
         refine wpAnyH_done (by kernel_rfl) ?_ _
         refine NoPanic.normal ?_
         obtain ⟨⟨_,_,_,_⟩,⟨_,_,_,_⟩⟩:=cs.out _ B2
         obtain ⟨_,_,_,_⟩:=kp.out _ (bel0.trans ((up.out _ B2).mono sz))
         go_wp2
         go_ret
         exact ⟨ret_b (by first | rw [Bool.true_and,HR.out] | rw [HR.out]),(bel.trans ((up.out _ B2).mono bel.size))⟩
        | true =>
         cases hzt : (z.t.toList == y.t.toList) with
         | true =>
          have HP:=HP2
          have HR : Hid (l.all (elB l.length t m)=false):=HB.out (by rw [HP.out,hzt];rfl)
          clear HB HG HP HP2
          go_wp2_with fail
          obtain ⟨WP,hWP⟩ : ∃ W,wr.alloc (Obj.cells #[.int .i64 65,.string y.t,.int .i64 0,.slice (some ⟨bz,oz,none⟩) 1 ck] 24)=W:=⟨_,rfl⟩
          have cP : Below wr.heap.size wr WP:=by rw [← hWP];exact bel_a _ _
          have mP : WP.heap[wr.heap.size]?=some (.cells #[.int .i64 65,.string y.t,.int .i64 0,.slice (some ⟨bz,oz,none⟩) 1 ck] 24 (0,0)):=by rw [← hWP];exact heap_alloc_new _ _
          rw [hWP]
          clear hWP
          have lP : wr.heap.size < WP.heap.size:=(Array.getElem?_eq_some_iff.1 mP).1
          have up : Hid (∀ W',Below WP.heap.size WP W'→Below wr.heap.size wr W'):=fun W' b=>cP.trans (b.mono cP.size)
          have cs : Hid (∀ W',Below WP.heap.size WP W'→(NqZ W' wr.heap.size 65 y.t 0 (some ⟨bz,oz,none⟩) 1 ck)∧(NqO W' bz oz z.k z.t z.n az z.ks.length cz)):=fun W' b=>⟨(box4 ((b.block _ lP).trans mP)).1,HZ.out _ (bel.trans ((up.out _ b).mono bel.size))⟩
          clear mP
          have B0 : Below WP.heap.size WP WP.drew:=(Below.refl _ _).drew
          have hS0:=cs.out _ B0
          refine wp_region_noPanic ?_
          refine wp_region_held_drew (S:=fun W'=>(NqZ W' wr.heap.size 65 y.t 0 (some ⟨bz,oz,none⟩) 1 ck)∧(NqO W' bz oz z.k z.t z.n az z.ks.length cz)) (by kernel_rfl) hS0 (fun hHeld=>?_)
          refine tH 0 ?_
          simp only [List.set]
          refine tH 1 ?_
          simp only [List.set]
          refine tH 2 ?_
          simp only [List.set]
          refine tH 3 ?_
          simp only [List.set]
          refine tH 4 ?_
          simp only [List.set]
          refine tH 5 ?_
          simp only [List.set]
          refine tH 6 ?_
          simp only [List.set]
          refine tH 7 ?_
          simp only [List.set]
          refine tH 8 ?_
          simp only [List.set]
          refine tH 9 ?_
          simp only [List.set]
          refine tH 10 ?_
          simp only [List.set]
          refine tH 11 ?_
          simp only [List.set]
          refine tH 12 ?_
          simp only [List.set]
          refine tH 13 ?_
          simp only [List.set]
          refine tH 14 ?_
          simp only [List.set]
          refine tH 15 ?_
          simp only [List.set]
          refine tH 16 ?_
          simp only [List.set]
          refine tH 17 ?_
          simp only [List.set]
          refine tH 18 ?_
          simp only [List.set]
          refine wpAnyH_ready (rs:=[19]) (by kernel_rfl) (by simp) ?_
          refine AllReadyH.cons rfl (fun K hK=>?_) AllReadyH.nil
          try simp only [List.getElem_toArray,List.getElem_cons_zero,List.getElem_cons_succ]
          go_simp
          refine (C2.out _ (bel.trans ((up.out _ B0).mono bel.size))).mono ?_
          rintro e W1 ⟨rfl,b1⟩
          have B1:=B0.trans (b1.mono B0.size)
          have hS1:=cs.out _ B1
          refine hK.out _ _ hS1 (fun hHeld1=>?_)
          clear hK K
          try simp only [Act.put,List.getElem_toArray,List.getElem_cons_zero,List.getElem_cons_succ,List.setIfInBounds_toArray,List.set_cons_zero,List.set_cons_succ]
          refine tH 20 ?_
          simp only [List.set]
          refine tH 21 ?_
          simp only [List.set]
          refine tH 22 ?_
          simp only [List.set]
          refine tH 23 ?_
          simp only [List.set]
          refine tH 24 ?_
          simp only [List.set]
          refine tH 25 ?_
          simp only [List.set]
          refine wpAnyH_ready (rs:=[26]) (by kernel_rfl) (by simp) ?_
          refine AllReadyH.cons rfl (fun K hK=>?_) AllReadyH.nil
          try simp only [List.getElem_toArray,List.getElem_cons_zero,List.getElem_cons_succ]
          go_simp
          refine (C3.out _ (bel.trans ((up.out _ B1).mono bel.size))).mono ?_
          rintro e W2 ⟨rfl,b2⟩
          have B2:=B1.trans (b2.mono B1.size)
          have hS2:=cs.out _ B2
          refine hK.out _ _ hS2 (fun hHeld2=>?_)
          clear hK K
          try simp only [Act.put,List.getElem_toArray,List.getElem_cons_zero,List.getElem_cons_succ,List.setIfInBounds_toArray,List.set_cons_zero,List.set_cons_succ]
          refine tH 27 ?_
          simp only [List.set]
          refine tH 28 ?_
          simp only [List.set]
          refine tH 29 ?_
          simp only [List.set]
          refine tH 30 ?_
          simp only [List.set]
          refine tH 31 ?_
          simp only [List.set]
          refine tH 32 ?_
          simp only [List.set]
          refine tH 33 ?_
          simp only [List.set]
          refine tH 34 ?_
          simp only [List.set]
          refine tH 35 ?_
          simp only [List.set]
          refine tH 36 ?_
          simp only [List.set]
          refine tH 37 ?_
          simp only [List.set]
          refine tH 38 ?_
          simp only [List.set]
          refine tH 39 ?_
          simp only [List.set]
          refine wpAnyH_done (by kernel_rfl) ?_ _
          refine NoPanic.normal ?_
          obtain ⟨⟨_,_,_,_⟩,⟨_,_,_,_⟩⟩:=cs.out _ B2
          obtain ⟨_,_,_,_⟩:=kp.out _ (bel0.trans ((up.out _ B2).mono sz))
          go_wp2
          go_ret
          exact ⟨ret_b (by first | rw [Bool.true_and,HR.out] | rw [HR.out]),(bel.trans ((up.out _ B2).mono bel.size))⟩
         | false =>
          have HP : Hid (elB l.length t m y=(if (y.t.toList == [42])=true then decide (l.length ≤ 1) && !(t.toList == []) && (m == 0) else propT false y.t.data.toList && (!(t.toList == []) || idT false y.t))):=by show _=_;rw [HP2.out,hzt];rfl
          clear HP2
          go_wp2_with fail
          obtain ⟨WP,hWP⟩ : ∃ W,wr.alloc (Obj.cells #[.int .i64 65,.string y.t,.int .i64 0,.slice (some ⟨bz,oz,none⟩) 1 ck] 24)=W:=⟨_,rfl⟩
          have cP : Below wr.heap.size wr WP:=by rw [← hWP];exact bel_a _ _
          have mP : WP.heap[wr.heap.size]?=some (.cells #[.int .i64 65,.string y.t,.int .i64 0,.slice (some ⟨bz,oz,none⟩) 1 ck] 24 (0,0)):=by rw [← hWP];exact heap_alloc_new _ _
          rw [hWP]
          clear hWP
          have lP : wr.heap.size < WP.heap.size:=(Array.getElem?_eq_some_iff.1 mP).1
          have up : Hid (∀ W',Below WP.heap.size WP W'→Below wr.heap.size wr W'):=fun W' b=>cP.trans (b.mono cP.size)
          have cs : Hid (∀ W',Below WP.heap.size WP W'→(NqZ W' wr.heap.size 65 y.t 0 (some ⟨bz,oz,none⟩) 1 ck)∧(NqO W' bz oz z.k z.t z.n az z.ks.length cz)):=fun W' b=>⟨(box4 ((b.block _ lP).trans mP)).1,HZ.out _ (bel.trans ((up.out _ b).mono bel.size))⟩
          clear mP
          have B0 : Below WP.heap.size WP WP.drew:=(Below.refl _ _).drew
          have hS0:=cs.out _ B0
          refine wp_region_noPanic ?_
          refine wp_region_held_drew (S:=fun W'=>(NqZ W' wr.heap.size 65 y.t 0 (some ⟨bz,oz,none⟩) 1 ck)∧(NqO W' bz oz z.k z.t z.n az z.ks.length cz)) (by kernel_rfl) hS0 (fun hHeld=>?_)
          refine tH 0 ?_
          simp only [List.set]
          refine tH 1 ?_
          simp only [List.set]
          refine tH 2 ?_
          simp only [List.set]
          refine tH 3 ?_
          simp only [List.set]
          refine tH 4 ?_
          simp only [List.set]
          refine tH 5 ?_
          simp only [List.set]
          refine tH 6 ?_
          simp only [List.set]
          refine tH 7 ?_
          simp only [List.set]
          refine tH 8 ?_
          simp only [List.set]
          refine tH 9 ?_
          simp only [List.set]
          refine tH 10 ?_
          simp only [List.set]
          refine tH 11 ?_
          simp only [List.set]
          refine tH 12 ?_
          simp only [List.set]
          refine tH 13 ?_
          simp only [List.set]
          refine tH 14 ?_
          simp only [List.set]
          refine tH 15 ?_
          simp only [List.set]
          refine tH 16 ?_
          simp only [List.set]
          refine tH 17 ?_
          simp only [List.set]
          refine tH 18 ?_
          simp only [List.set]
          refine wpAnyH_ready (rs:=[19]) (by kernel_rfl) (by simp) ?_
          refine AllReadyH.cons rfl (fun K hK=>?_) AllReadyH.nil
          try simp only [List.getElem_toArray,List.getElem_cons_zero,List.getElem_cons_succ]
          go_simp
          refine (C2.out _ (bel.trans ((up.out _ B0).mono bel.size))).mono ?_
          rintro e W1 ⟨rfl,b1⟩
          have B1:=B0.trans (b1.mono B0.size)
          have hS1:=cs.out _ B1
          refine hK.out _ _ hS1 (fun hHeld1=>?_)
          clear hK K
          try simp only [Act.put,List.getElem_toArray,List.getElem_cons_zero,List.getElem_cons_succ,List.setIfInBounds_toArray,List.set_cons_zero,List.set_cons_succ]
          refine tH 20 ?_
          simp only [List.set]
          refine tH 21 ?_
          simp only [List.set]
          refine tH 22 ?_
          simp only [List.set]
          refine tH 23 ?_
          simp only [List.set]
          refine tH 24 ?_
          simp only [List.set]
          refine tH 25 ?_
          simp only [List.set]
          refine wpAnyH_ready (rs:=[26]) (by kernel_rfl) (by simp) ?_
          refine AllReadyH.cons rfl (fun K hK=>?_) AllReadyH.nil
          try simp only [List.getElem_toArray,List.getElem_cons_zero,List.getElem_cons_succ]
          go_simp
          refine (C3.out _ (bel.trans ((up.out _ B1).mono bel.size))).mono ?_
          rintro e W2 ⟨rfl,b2⟩
          have B2:=B1.trans (b2.mono B1.size)
          have hS2:=cs.out _ B2
          refine hK.out _ _ hS2 (fun hHeld2=>?_)
          clear hK K
          try simp only [Act.put,List.getElem_toArray,List.getElem_cons_zero,List.getElem_cons_succ,List.setIfInBounds_toArray,List.set_cons_zero,List.set_cons_succ]
          refine tH 27 ?_
          simp only [List.set]
          refine tH 28 ?_
          simp only [List.set]
          refine tH 29 ?_
          simp only [List.set]
          refine tH 30 ?_
          simp only [List.set]
          refine tH 31 ?_
          simp only [List.set]
          refine tH 32 ?_
          simp only [List.set]
          refine tH 33 ?_
          simp only [List.set]
          refine tH 34 ?_
          simp only [List.set]
          refine tH 35 ?_
          simp only [List.set]
          refine tH 36 ?_
          simp only [List.set]
          refine tH 37 ?_
          simp only [List.set]
          refine tH 38 ?_
          simp only [List.set]
          refine tH 39 ?_
          simp only [List.set]
          refine wpAnyH_done (by kernel_rfl) ?_ _
          refine NoPanic.normal ?_
          obtain ⟨⟨_,_,_,_⟩,⟨_,_,_,_⟩⟩:=cs.out _ B2
          obtain ⟨_,_,_,_⟩:=kp.out _ (bel0.trans ((up.out _ B2).mono sz))
          cases he : (y.t.toList == [42]) with
          | true =>
           have HP3 : Hid (elB l.length t m y=(decide (l.length ≤ 1) && !(t.toList == []) && (m == 0))):=by show _=_;rw [HP.out,if_pos he]
           by_cases hl1 : l.length ≤ 1
           ·have hl1' : ¬ (1 : Int) < (l.length : Int):=by omega
            cases h0 : (t.toList == []) with
            | true =>
             have HR : Hid (l.all (elB l.length t m)=false):=HB.out (by rw [HP3.out,h0];simp)
             clear HB HG HP
             go_wp2
             go_ret
             exact ⟨ret_b (by first | rw [Bool.true_and,HR.out] | rw [HR.out]),(bel.trans ((up.out _ B2).mono bel.size))⟩
            | false =>
             first
             | (have HR : Hid (∀ z ∈ l.take (k + 1),elB l.length t m z = true):=HG.out (by rw [HP3.out,h0];simp [hl1,em])
                clear HB HG HP HP3
                go_wp2
                go_roundg (gk - 1)
                case rel=>exact ⟨k+1,by simp,by have:=hk.out;show _=_;omega,bel0.trans ((up.out _ B2).mono sz),HR⟩
                case measure=>have:=hk.out;omega)
             | (have HR : Hid (l.all (elB l.length t m) = false):=HB.out (by rw [HP3.out];simp [em])
                clear HB HG HP
                go_wp2
                go_ret
                exact ⟨ret_b (by first | rw [Bool.true_and,HR.out] | rw [HR.out]),(bel.trans ((up.out _ B2).mono bel.size))⟩)
           ·have hl1' : (1 : Int) < (l.length : Int):=by omega
            have HR : Hid (l.all (elB l.length t m)=false):=HB.out (by rw [HP3.out];simp [hl1])
            clear HB HG HP
            go_wp2
            go_ret
            exact ⟨ret_b (by first | rw [Bool.true_and,HR.out] | rw [HR.out]),(bel.trans ((up.out _ B2).mono bel.size))⟩
          | false =>
           have HP3 : Hid (elB l.length t m y=(propT false y.t.data.toList && (!(t.toList == []) || idT false y.t))):=by show _=_;rw [HP.out,if_neg (by rw [he];decide)]
           generalize propT false y.t.data.toList=pt at *
           generalize idT false y.t=it at *
           cases pt with
           | false =>
            have HR : Hid (l.all (elB l.length t m)=false):=HB.out HP3.out
            clear HB HG HP
            go_wp2_with (go_at_call 68;refine (C1.out _ (bel.trans ((up.out _ B2).mono bel.size))).mono ?_;rintro e W9 ⟨rfl,b9⟩;have B9:=B2.trans (b9.mono B2.size);obtain ⟨⟨_,_,_,_⟩,⟨_,_,_,_⟩⟩:=cs.out _ B9;obtain ⟨_,_,_,_⟩:=kp.out _ (bel0.trans ((up.out _ B9).mono sz)))
            go_ret
            exact ⟨ret_b (by first | rw [Bool.true_and,HR.out] | rw [HR.out]),(bel.trans ((up.out _ B9).mono bel.size))⟩
           | true =>
            cases h0 : (t.toList == []) with
            | false =>
             have HR : Hid (∀ z ∈ l.take (k+1),elB l.length t m z=true):=HG.out (by rw [HP3.out,h0];rfl)
             clear HB HG HP HP3
             go_wp2_with (go_at_call 68;refine (C1.out _ (bel.trans ((up.out _ B2).mono bel.size))).mono ?_;rintro e W9 ⟨rfl,b9⟩;have B9:=B2.trans (b9.mono B2.size);obtain ⟨⟨_,_,_,_⟩,⟨_,_,_,_⟩⟩:=cs.out _ B9;obtain ⟨_,_,_,_⟩:=kp.out _ (bel0.trans ((up.out _ B9).mono sz)))
             go_roundg (gk - 1)
             case rel=>exact ⟨k+1,by simp,by have:=hk.out;show _=_;omega,bel0.trans ((up.out _ B9).mono sz),HR⟩
             case measure=>have:=hk.out;omega
            | true =>
             cases it with
             | false =>
              have HR : Hid (l.all (elB l.length t m)=false):=HB.out (by rw [HP3.out,h0];rfl)
              clear HB HG HP
              go_wp2_with (first
               | (go_at_call 68;refine (C1.out _ (bel.trans ((up.out _ B2).mono bel.size))).mono ?_;rintro e W9 ⟨rfl,b9⟩;have B9:=B2.trans (b9.mono B2.size);obtain ⟨⟨_,_,_,_⟩,⟨_,_,_,_⟩⟩:=cs.out _ B9;obtain ⟨_,_,_,_⟩:=kp.out _ (bel0.trans ((up.out _ B9).mono sz)))
               | (go_at_call 13;refine (C4.out _ (bel.trans ((up.out _ B9).mono bel.size))).mono ?_;rintro e W10 ⟨rfl,b10⟩;have B10:=B9.trans (b10.mono B9.size);obtain ⟨⟨_,_,_,_⟩,⟨_,_,_,_⟩⟩:=cs.out _ B10;obtain ⟨_,_,_,_⟩:=kp.out _ (bel0.trans ((up.out _ B10).mono sz))))
              go_ret
              exact ⟨ret_b (by first | rw [Bool.true_and,HR.out] | rw [HR.out]),(bel.trans ((up.out _ B10).mono bel.size))⟩
             | true =>
              have HR : Hid (∀ z ∈ l.take (k+1),elB l.length t m z=true):=HG.out (by rw [HP3.out,h0];rfl)
              clear HB HG HP HP3
              go_wp2_with (first
               | (go_at_call 68;refine (C1.out _ (bel.trans ((up.out _ B2).mono bel.size))).mono ?_;rintro e W9 ⟨rfl,b9⟩;have B9:=B2.trans (b9.mono B2.size);obtain ⟨⟨_,_,_,_⟩,⟨_,_,_,_⟩⟩:=cs.out _ B9;obtain ⟨_,_,_,_⟩:=kp.out _ (bel0.trans ((up.out _ B9).mono sz)))
               | (go_at_call 13;refine (C4.out _ (bel.trans ((up.out _ B9).mono bel.size))).mono ?_;rintro e W10 ⟨rfl,b10⟩;have B10:=B9.trans (b10.mono B9.size);obtain ⟨⟨_,_,_,_⟩,⟨_,_,_,_⟩⟩:=cs.out _ B10;obtain ⟨_,_,_,_⟩:=kp.out _ (bel0.trans ((up.out _ B10).mono sz))))
              go_roundg (gk - 1)
              case rel=>exact ⟨k+1,by simp,by have:=hk.out;show _=_;omega,bel0.trans ((up.out _ B10).mono sz),HR⟩
              case measure=>have:=hk.out;omega
      ·have h1' : ((y.ks.length : Int) == 1)=false:=by simp;omega
       have HR : Hid (l.all (elB l.length t m)=false):=HB.out (by rw [HP.out,h1'];simp)
       clear HB HG HP
       go_wp2_with fail
       obtain ⟨WP,hWP⟩ : ∃ W,wr.alloc (Obj.cells #[.int .i64 65,.string y.t,.int .i64 0,.slice ak y.ks.length ck] 24)=W:=⟨_,rfl⟩
       have cP : Below wr.heap.size wr WP:=by rw [← hWP];exact bel_a _ _
       have mP : WP.heap[wr.heap.size]?=some (.cells #[.int .i64 65,.string y.t,.int .i64 0,.slice ak y.ks.length ck] 24 (0,0)):=by rw [← hWP];exact heap_alloc_new _ _
       rw [hWP]
       clear hWP
       have lP : wr.heap.size < WP.heap.size:=(Array.getElem?_eq_some_iff.1 mP).1
       have up : Hid (∀ W',Below WP.heap.size WP W'→Below wr.heap.size wr W'):=fun W' b=>cP.trans (b.mono cP.size)
       have cs : Hid (∀ W',Below WP.heap.size WP W'→NqZ W' wr.heap.size 65 y.t 0 ak y.ks.length ck):=fun W' b=>(box4 ((b.block _ lP).trans mP)).1
       clear mP
       have B0 : Below WP.heap.size WP WP.drew:=(Below.refl _ _).drew
       have d3 : ((y.ks.length : Int) != 1)=true:=by simp;omega
       obtain ⟨_,_,_,_⟩:=cs.out _ (Below.refl _ _)
       go_region
       obtain ⟨_,_,_,_⟩:=cs.out _ B0
       obtain ⟨_,_,_,_⟩:=kp.out _ (bel0.trans ((up.out _ B0).mono sz))
       go_wp2
       go_ret
       exact ⟨ret_b (by first | rw [Bool.true_and,HR.out] | rw [HR.out]),(bel.trans ((up.out _ B0).mono bel.size))⟩
     ·have HR : Hid (l.all (elB l.length t m)=false):=HB.out (by rw [HP.out];simp [hn])
      clear HB HG HP
      go_wp2_with fail
      obtain ⟨WP,hWP⟩ : ∃ W,wr.alloc (Obj.cells #[.int .i64 65,.string y.t,.int .i64 y.n,.slice ak y.ks.length ck] 24)=W:=⟨_,rfl⟩
      have cP : Below wr.heap.size wr WP:=by rw [← hWP];exact bel_a _ _
      have mP : WP.heap[wr.heap.size]?=some (.cells #[.int .i64 65,.string y.t,.int .i64 y.n,.slice ak y.ks.length ck] 24 (0,0)):=by rw [← hWP];exact heap_alloc_new _ _
      rw [hWP]
      clear hWP
      have lP : wr.heap.size < WP.heap.size:=(Array.getElem?_eq_some_iff.1 mP).1
      have up : Hid (∀ W',Below WP.heap.size WP W'→Below wr.heap.size wr W'):=fun W' b=>cP.trans (b.mono cP.size)
      have cs : Hid (∀ W',Below WP.heap.size WP W'→NqZ W' wr.heap.size 65 y.t y.n ak y.ks.length ck):=fun W' b=>(box4 ((b.block _ lP).trans mP)).1
      clear mP
      have B0 : Below WP.heap.size WP WP.drew:=(Below.refl _ _).drew
      have d2 : (y.n != 0)=true:=by simpa using hn
      obtain ⟨_,_,_,_⟩:=cs.out _ (Below.refl _ _)
      go_region
      obtain ⟨_,_,_,_⟩:=cs.out _ B0
      obtain ⟨_,_,_,_⟩:=kp.out _ (bel0.trans ((up.out _ B0).mono sz))
      go_wp2
      go_ret
      exact ⟨ret_b (by first | rw [Bool.true_and,HR.out] | rw [HR.out]),(bel.trans ((up.out _ B0).mono bel.size))⟩
    ·have HR : Hid (l.all (elB l.length t m)=false):=HB.out (by rw [HP.out];simp [h10])
     clear HB HG HP
     go_wp2_with fail
     obtain ⟨WP,hWP⟩ : ∃ W,wr.alloc (Obj.cells #[.int .i64 y.k,.string y.t,.int .i64 y.n,.slice ak y.ks.length ck] 24)=W:=⟨_,rfl⟩
     have cP : Below wr.heap.size wr WP:=by rw [← hWP];exact bel_a _ _
     have mP : WP.heap[wr.heap.size]?=some (.cells #[.int .i64 y.k,.string y.t,.int .i64 y.n,.slice ak y.ks.length ck] 24 (0,0)):=by rw [← hWP];exact heap_alloc_new _ _
     rw [hWP]
     clear hWP
     have lP : wr.heap.size < WP.heap.size:=(Array.getElem?_eq_some_iff.1 mP).1
     have up : Hid (∀ W',Below WP.heap.size WP W'→Below wr.heap.size wr W'):=fun W' b=>cP.trans (b.mono cP.size)
     have cs : Hid (∀ W',Below WP.heap.size WP W'→NqZ W' wr.heap.size y.k y.t y.n ak y.ks.length ck):=fun W' b=>(box4 ((b.block _ lP).trans mP)).1
     clear mP
     have B0 : Below WP.heap.size WP WP.drew:=(Below.refl _ _).drew
     have d1 : (y.k != 65)=true:=by simpa using h10
     obtain ⟨_,_,_,_⟩:=cs.out _ (Below.refl _ _)
     go_region
     obtain ⟨_,_,_,_⟩:=cs.out _ B0
     obtain ⟨_,_,_,_⟩:=kp.out _ (bel0.trans ((up.out _ B0).mono sz))
     go_wp2
     go_ret
     exact ⟨ret_b (by first | rw [Bool.true_and,HR.out] | rw [HR.out]),(bel.trans ((up.out _ B0).mono bel.size))⟩
   ·have e : l.take k=l:=List.take_of_length_le (by omega)
    have HR : Hid (l.all (elB l.length t m)=true):=List.all_eq_true.2 (by have:=HT.out;rw [e] at this;exact this)
    clear HT e hX hX2 qx rx
    go_wp2
    go_ret
    exact ⟨ret_b (by rw [HR.out];first | done | simp),bel⟩
theorem from_0 (t : ByteArray) (l : List Nd) (hX : ∀ z ∈ l,z.t.size ≤ 4194304) (hX2 : ∀ z ∈ l,∀ u ∈ z.ks,u.t.size ≤ 4194304) (ht : t.size ≤ 4194304) (h0 : 0 < l.length) (hl : l.length ≤ 4194304) (a : Option Addr) (c : Nat) (w : World) (S : Nat→Prop) (hx : LAt w S (.slice a l.length c) l) :
 Calls Tryz.prog 76 #[nv 64 t 0 a l.length c] w fun e w'=>e = .returned (.bool (validL t.data.toList && l.all (elB l.length t 0)))∧Below w.heap.size w w':=from_m 0 (.inl rfl) t l hX hX2 ht h0 hl a c w S hx
theorem from_1 (t : ByteArray) (l : List Nd) (hX : ∀ z ∈ l,z.t.size ≤ 4194304) (hX2 : ∀ z ∈ l,∀ u ∈ z.ks,u.t.size ≤ 4194304) (ht : t.size ≤ 4194304) (h0 : 0 < l.length) (hl : l.length ≤ 4194304) (a : Option Addr) (c : Nat) (w : World) (S : Nat→Prop) (hx : LAt w S (.slice a l.length c) l) :
 Calls Tryz.prog 76 #[nv 64 t 1 a l.length c] w fun e w'=>e = .returned (.bool (validL t.data.toList && l.all (elB l.length t 1)))∧Below w.heap.size w w':=from_m 1 (.inr rfl) t l hX hX2 ht h0 hl a c w S hx
end Go.Proofs.YtfcocoadaajbjaaGreatDoor
