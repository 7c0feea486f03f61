/- Own text. Which trees are types: the document's answer,objects. Which trees are parameters: the document's answer. -/
import Derived.Test.YtfcocoadaajbjaaGreatDoorGd35
set_option linter.unusedVariables false
set_option linter.unusedSimpArgs false
set_option maxRecDepth 100000
set_option maxHeartbeats 8000000
namespace Go.Proofs.YtfcocoadaajbjaaGreatDoor
open Go.RowKit
theorem ty_object (t : ByteArray) (n : Int) (l : List Nd) (hE : ∀ y ∈ l,∀ z ∈ y.ks,TC z) (hT : ∀ y ∈ l,y.t.size ≤ 4194304) (hl : l.length ≤ 4194304) (a : Option Addr) (c : Nat) (w : World) (S : Nat→Prop) (hx : LAt w S (.slice a l.length c) l) :
 Calls Tryz.prog 39 #[nv 33 t n a l.length c] w fun e w'=>e = .returned (.bool (l.all opB && unlikeB l && plainT t n))∧Below w.heap.size w w':=by
 have CP:=plain' 33 t n a l.length c
 generalize plainT t n=p at *
 obtain ⟨i0,hi0,hz0,hz1,hz2⟩:=info_parts info_str
 obtain ⟨ax,cx,bx,ox,fx,e,px,qx,rx⟩:=hx.op
 obtain ⟨rfl,rfl⟩ : a=ax∧c=cx:=by injection e with e1 e2 e3;exact ⟨e1,e3⟩
 clear e
 have X0 : (w.alloc (Obj.cells #[.int .i64 33,.string t,.int .i64 n,.slice a l.length c] 24)).heap[w.heap.size]?=some (.cells #[.int .i64 33,.string t,.int .i64 n,.slice a l.length c] 24 (0,0)):=hnew _ rfl
 have kp : Hid (∀ W',Below (w.heap.size+1) (w.alloc (Obj.cells #[.int .i64 33,.string t,.int .i64 n,.slice a l.length c] 24)) W'→(NqZ W' w.heap.size 33 t n a l.length c)):=fun W' b=>(box4 ((b.block _ (by omega)).trans X0)).1
 have kb : Hid (∀ W',Below (w.heap.size+1) (w.alloc (Obj.cells #[.int .i64 33,.string t,.int .i64 n,.slice a l.length c] 24)) W'→Below w.heap.size w W'∧w.heap.size+1 ≤ W'.heap.size):=fun W' b=>⟨(bel_a w _).trans (b.mono (by omega)),by have:=b.size;simpa using this⟩
 have kr : Hid (Below (w.heap.size+1) (w.alloc (Obj.cells #[.int .i64 33,.string t,.int .i64 n,.slice a l.length c] 24)) (w.alloc (Obj.cells #[.int .i64 33,.string t,.int .i64 n,.slice a l.length c] 24))):=Below.refl _ _
 clear X0
 go_enter Tryz.func39,Tryz.ntmps39
 go_wp2
 generalize w.alloc (Obj.cells #[.int .i64 33,.string t,.int .i64 n,.slice a l.length c] 24)=W0 at *
 go_loopg [5,6] l.length (fun gk v5 v6 wr=>∃ (k : Nat) (v : Value),v=v5∧v6 = .int .i64 (k : Nat)∧Hid (gk+k=l.length)∧Below (w.heap.size+1) W0 wr∧Hid (∀ y ∈ l.take k,opB y=true)∧Hid ((nmL (l.take k)).Nodup)∧Hid (wr.ownsRow (w.heap.size+1) 9 1 v k (textC (nmL (l.take k)))))
 case atStart=>exact ⟨0,_,rfl,rfl,by simp [Hid],kr.out,by simp [Hid],by simp [Hid,nmL],World.ownsRow_nil _ _ _ _⟩
 case round =>
  obtain ⟨k,v,rfl,rfl,hk,bel0,HT,HN,HO⟩:=hrel
  obtain ⟨bel,sz⟩:=kb.out _ bel0
  have hkk : k ≤ l.length:=by have:=hk.out;omega
  by_cases hkl : k < l.length
  ·obtain ⟨rfl,hSx,hbx⟩:=px (by omega)
   have hm:=List.getElem_mem hkl
   have HS : Hid (l.take (k+1)=l.take k ++ [l[k]]):=List.take_succ_eq_append_getElem hkl
   have hC:=hE _ hm
   have C1:=fun W=>rprop_any l[k].t W (hT _ hm)
   have HM : Hid (l[k] ∈ l):=hm
   have HNo : Hid (l[k].t.data.toList ∈ nmL (l.take k)→unlikeB l=false):=fun h=>unlike_no hkl h
   have HNx : Hid (l[k].t.data.toList ∉ nmL (l.take k)→(nmL (l.take (k+1))).Nodup):=fun h=>by rw [HS.out,nmL_app];exact unlike_next HN.out h
   have HNe : Hid (nmL (l.take (k+1))=nmL (l.take k) ++ [l[k].t.data.toList]):=by show _=_;rw [HS.out,nmL_app]
   have HL : Hid ((nmL (l.take k)).length=k):=by show _=_;rw [nmL_len,List.length_take];omega
   have hr:=rx k hkl
   have hq:=qx k hkl
   clear hm HN
   generalize nmL (l.take k)=L at *
   generalize l[k]=y at *
   generalize fx k=fk at *
   obtain ⟨ak,ck,rfl⟩:=hr.sl
   have CI : Hid (∀ W,Below wr.heap.size wr W→Calls Tryz.prog 70 #[.string y.t,v] W fun e w'=>e = .returned (.bool (decide (y.t.data.toList ∈ L)))∧w'=W):=fun W b=>in_own W y.t v (w.heap.size+1) L k HL.out (row_bel HO.out b) (by omega)
   have HK : Hid (∀ W,Below w.heap.size w W→NqO W bx (ox+k * 4) y.k y.t y.n ak y.ks.length ck):=fun W b=>(kid_at hq hr hbx b).1
   have HB : Hid (opB y=false→l.all opB=false):=fun h=>List.all_eq_false.2 ⟨y,HM.out,by rw [h];decide⟩
   have HG : Hid (opB y=true→∀ z ∈ l.take (k+1),opB z=true):=fun h z hz=>by
    rw [HS.out] at hz
    rcases List.mem_append.1 hz with hz | hz
    ·exact HT.out z hz
    ·obtain rfl : z=y:=by simpa using hz
     exact h
   have HP : Hid (opB y=((y.k == 34) && (y.n == 0) && propT false y.t.data.toList && ((y.ks.length : Int) == 1) && y.ks.all tyB)):=rfl
   obtain ⟨u1,u2,u3,u4⟩:=HK.out _ bel
   clear hE hT px qx rx HM HS HT hq
   by_cases h10 : y.k=34
   ·rw [h10] at u1 HK HP
    by_cases hn : y.n=0
    ·rw [hn] at u3 HK HP
     generalize propT false y.t.data.toList=pt at *
     cases pt with
     | false =>
      have HR : Hid (l.all opB=false):=HB.out (by rw [HP.out];simp)
      clear HB HG HP
      go_wp2_with (go_at_call 68;refine (C1 _).mono ?_;rintro e W1 ⟨rfl,b1⟩;have bel1:=bel.trans (b1.mono bel.size);obtain ⟨_,_,_,_⟩:=HK.out _ bel1)
      go_ret
      exact ⟨ret_b (by rw [HR.out];simp),bel1⟩
     | true =>
      by_cases h1 : y.ks.length=1
      ·obtain ⟨z,hz⟩:=List.length_eq_one_iff.1 h1
       have hCz:=hC z (by rw [hz];simp)
       rw [hz] at hr HP
       obtain ⟨bz,oz,cz,az,rfl,hbz,hgz,hcz⟩:=one_at hr
       have HZ : Hid (∀ W,Below w.heap.size w W→NqO W bz oz z.k z.t z.n az z.ks.length cz):=hcz
       have CE : Hid (∀ W,Below w.heap.size w W→Calls Tryz.prog 39 #[nv z.k z.t z.n az z.ks.length cz] W fun e w'=>e = .returned (.bool (tyB z))∧Below W.heap.size W w'):=fun W b=>hCz W S az cz (hgz.bel b)
       clear hcz hCz hC hgz hr
       rw [h1] at u4 HK
       have HP2 : Hid (opB y=tyB z):=by show _=_;rw [HP.out];simp
       clear HP
       cases hb : tyB z with
       | false =>
        have HR : Hid (l.all opB=false):=HB.out (by rw [HP2.out,hb])
        rw [hb] at CE
        clear hb HB HG HP2 hz
        go_wp2_with (first
         | (go_at_call 68;refine (C1 _).mono ?_;rintro e W1 ⟨rfl,b1⟩;have bel1:=bel.trans (b1.mono bel.size);obtain ⟨_,_,_,_⟩:=HK.out _ bel1;obtain ⟨_,_,_,_⟩:=HZ.out _ bel1)
         | (go_at_call 39;refine (CE.out _ bel1).mono ?_;rintro e W2 ⟨rfl,b2⟩))
        go_ret
        exact ⟨ret_b (by rw [HR.out];simp),bel1.trans (b2.mono bel1.size)⟩
       | true =>
        have HR : Hid (∀ z ∈ l.take (k+1),opB z=true):=HG.out (by rw [HP2.out,hb])
        rw [hb] at CE
        clear hb HB HG HP2 hz
        by_cases hin : y.t.data.toList ∈ L
        ·have HF : Hid (unlikeB l=false):=HNo.out hin
         have CI2 : Hid (∀ W,Below wr.heap.size wr W→Calls Tryz.prog 70 #[.string y.t,v] W fun e w'=>e = .returned (.bool true)∧w'=W):=by rw [decide_eq_true hin] at CI;exact CI
         clear CI hin HNo HNx HNe
         go_wp2_with (first
          | (go_at_call 68;refine (C1 _).mono ?_;rintro e W1 ⟨rfl,b1⟩;have bel1:=bel.trans (b1.mono bel.size);obtain ⟨_,_,_,_⟩:=HK.out _ bel1;obtain ⟨_,_,_,_⟩:=HZ.out _ bel1)
          | (go_at_call 39;refine (CE.out _ bel1).mono ?_;rintro e W2 ⟨rfl,b2⟩;have bel2:=bel1.trans (b2.mono bel1.size);obtain ⟨_,_,_,_⟩:=HK.out _ bel2)
          | (go_at_call 70;refine (CI2.out _ (b1.trans (b2.mono b1.size))).mono ?_;rintro e W3 ⟨rfl,rfl⟩))
         go_ret
         exact ⟨ret_b (by rw [HF.out];simp),bel2⟩
        ·have CI2 : Hid (∀ W,Below wr.heap.size wr W→Calls Tryz.prog 70 #[.string y.t,v] W fun e w'=>e = .returned (.bool false)∧w'=W):=by rw [decide_eq_false hin] at CI;exact CI
         have HX : Hid ((nmL (l.take (k+1))).Nodup):=HNx.out hin
         clear CI hin HNo HNx
         go_wp2_with (first
          | (go_at_call 68;refine (C1 _).mono ?_;rintro e W1 ⟨rfl,b1⟩;have bel1:=bel.trans (b1.mono bel.size);obtain ⟨_,_,_,_⟩:=HK.out _ bel1;obtain ⟨_,_,_,_⟩:=HZ.out _ bel1)
          | (go_at_call 39;refine (CE.out _ bel1).mono ?_;rintro e W2 ⟨rfl,b2⟩;have bel2:=bel1.trans (b2.mono bel1.size);have bel2':=bel0.trans ((b1.mono (by omega : w.heap.size+1 ≤ _)).trans (b2.mono (by have:=b1.size;omega)));have own2 : Hid (W2.ownsRow (w.heap.size+1) 9 1 v k (textC L)):=row_bel HO.out (b1.trans (b2.mono b1.size));have sz2 : w.heap.size+1 ≤ W2.heap.size:=(by have:=b1.size;have:=b2.size;omega);obtain ⟨_,_,_,_⟩:=HK.out _ bel2)
          | (go_at_call 70;refine (CI2.out _ (b1.trans (b2.mono b1.size))).mono ?_;rintro e W3 ⟨rfl,rfl⟩)
          | (at_builtin;refine wpList_append_lies _ (by rfl) _ _ _ (by rfl) (w.heap.size+1) 9 i0 _ 1 16 Tryz.underlying48 hi0 hz0 hz1 hz2 rfl (by omega) _ k (textC L) (by rfl) (own2.out.alloc _) ⟨_,0,none⟩ 1 1 [.string y.t] (by rfl) (by rfl) (World.news_of_block (cs:=#[.string y.t]) (t:=9) (fr:=(0,0)) (heap_alloc_new _ _)) (by simp [Value.oneCell']) (by omega) (by unfold maxLen;omega) (by omega) (by simp;omega) _ rfl ?_;intro gg cap W4 hown4 hgrow hat hlt4))
         have bel4:=(bel2'.alloc sz2 _).grown hgrow (by simp;omega) (fun j hj=>(own2.out.lt j hj).1)
         go_roundg (gk - 1)
         case rel=>exact ⟨k+1,_,rfl,by simp,by have:=hk.out;show _=_;omega,bel4,HR,HX,by rw [HNe.out,textC_app];exact hown4⟩
         case measure=>have:=hk.out;omega
      ·have h1' : ((y.ks.length : Int) == 1)=false:=by simp;omega
       have HR : Hid (l.all opB=false):=HB.out (by rw [HP.out,h1'];simp)
       have h2 : ¬ (y.ks.length : Int)=1:=by omega
       clear HB HG HP h1 hC hr
       go_wp2_with (go_at_call 68;refine (C1 _).mono ?_;rintro e W1 ⟨rfl,b1⟩;have bel1:=bel.trans (b1.mono bel.size);obtain ⟨_,_,_,_⟩:=HK.out _ bel1)
       go_ret
       exact ⟨ret_b (by rw [HR.out];simp),bel1⟩
    ·have HR : Hid (l.all opB=false):=HB.out (by rw [HP.out];simp [hn])
     clear HB HG HP hC hr
     go_wp2
     go_ret
     exact ⟨ret_b (by rw [HR.out];simp),bel⟩
   ·have HR : Hid (l.all opB=false):=HB.out (by rw [HP.out];simp [h10])
    clear HB HG HP hC hr
    go_wp2
    go_ret
    exact ⟨ret_b (by rw [HR.out];simp),bel⟩
  ·have e : l.take k=l:=List.take_of_length_le (by omega)
   have HR : Hid (l.all opB=true):=List.all_eq_true.2 (by have:=HT.out;rw [e] at this;exact this)
   have HU : Hid (unlikeB l=true):=by have:=HN.out;rw [e] at this;exact decide_eq_true this
   clear HT HN HO e hE hT px qx rx
   obtain ⟨_,_,_,_⟩:=kp.out _ bel0
   go_wp2_with (go_at_call 42;refine (CP _).mono ?_;rintro e W1 ⟨rfl,b1⟩)
   go_ret
   exact ⟨ret_b (by rw [HR.out,HU.out];simp),bel.trans (b1.mono bel.size)⟩
end Go.Proofs.YtfcocoadaajbjaaGreatDoor
namespace Go.Proofs.YtfcocoadaajbjaaGreatDoor
open Go.RowKit
theorem made_bel {B : Nat} {w wr : World} {o : Obj} (b : Below B w wr) (h : B ≤ wr.heap.size) : Below B w (wr.alloc o):=b.alloc h o
theorem made_size {wr : World} {o : Obj} : (wr.alloc o).heap.size=wr.heap.size+1:=by simp
theorem made4 {w W' : World} {p q r s : Value} {t : TypeId} (b : Below (w.heap.size+1) (w.alloc (Obj.cells #[p,q,r,s] t)) W') :
 W'.cell? ⟨w.heap.size,0,none⟩=some p∧W'.cell? ⟨w.heap.size,1,none⟩=some q∧W'.cell? ⟨w.heap.size,2,none⟩=some r∧W'.cell? ⟨w.heap.size,3,none⟩=some s :=
 (box4 ((b.block w.heap.size (by omega)).trans (heap_alloc_new w _))).1
theorem params_12 (typed : Bool) (t : ByteArray) (n : Int) (l : List Nd) (hE : ∀ y ∈ l,∀ z ∈ y.ks,TC z) (hT : ∀ y ∈ l,y.t.size ≤ 4194304) (hl : l.length ≤ 4194304) (a : Option Addr) (c : Nat) (w : World) (S : Nat→Prop) (hx : LAt w S (.slice a l.length c) l) :
 Calls Tryz.prog 71 #[nv 12 t n a l.length c,.bool typed] w fun e w'=>e = .returned (.bool (plainT t n && l.all (pmB typed) && unlikeB l))∧Below w.heap.size w w':=by
 have CP:=plain' 12 t n a l.length c
 generalize plainT t n=p at *
 obtain ⟨i0,hi0,hz0,hz1,hz2⟩:=info_parts info_str
 obtain ⟨ax,cx,bx,ox,fx,e,px,qx,rx⟩:=hx.op
 obtain ⟨rfl,rfl⟩ : a=ax∧c=cx:=by injection e with e1 e2 e3;exact ⟨e1,e3⟩
 clear e
 have X0 : (w.alloc (Obj.cells #[.int .i64 12,.string t,.int .i64 n,.slice a l.length c] 24)).heap[w.heap.size]?=some (.cells #[.int .i64 12,.string t,.int .i64 n,.slice a l.length c] 24 (0,0)):=hnew _ rfl
 have kp : Hid (∀ W',Below (w.heap.size+1) (w.alloc (Obj.cells #[.int .i64 12,.string t,.int .i64 n,.slice a l.length c] 24)) W'→(NqZ W' w.heap.size 12 t n a l.length c)):=fun W' b=>(box4 ((b.block _ (by omega)).trans X0)).1
 have kb : Hid (∀ W',Below (w.heap.size+1) (w.alloc (Obj.cells #[.int .i64 12,.string t,.int .i64 n,.slice a l.length c] 24)) W'→Below w.heap.size w W'∧w.heap.size+1 ≤ W'.heap.size):=fun W' b=>⟨(bel_a w _).trans (b.mono (by omega)),by have:=b.size;simpa using this⟩
 have kr : Hid (Below (w.heap.size+1) (w.alloc (Obj.cells #[.int .i64 12,.string t,.int .i64 n,.slice a l.length c] 24)) (w.alloc (Obj.cells #[.int .i64 12,.string t,.int .i64 n,.slice a l.length c] 24))):=Below.refl _ _
 clear X0
 go_enter Tryz.func71,Tryz.ntmps71
 cases p with
 | false =>
  go_wp2_with (go_at_call 42;refine (CP _).mono ?_;rintro e W1 ⟨rfl,b1⟩)
  go_ret
  exact ⟨ret_b (by simp),(bel_a w _).trans (b1.mono (by simp))⟩
 | true =>
 go_wp2_with (go_at_call 42;refine (CP _).mono ?_;rintro e W1 ⟨rfl,b1⟩;have k1:=kr.out.trans (b1.mono (by simp)))
 clear b1
 generalize w.alloc (Obj.cells #[.int .i64 12,.string t,.int .i64 n,.slice a l.length c] 24)=W0 at *
 go_loopg [5,6] l.length (fun gk v5 v6 wr=>∃ (k : Nat) (v : Value),v=v5∧v6 = .int .i64 (k : Nat)∧Hid (gk+k=l.length)∧Below (w.heap.size+1) W0 wr∧Hid (∀ y ∈ l.take k,pmB typed y=true)∧Hid ((nmL (l.take k)).Nodup)∧Hid (wr.ownsRow (w.heap.size+1) 9 1 v k (textC (nmL (l.take k)))))
 case atStart=>exact ⟨0,_,rfl,rfl,by simp [Hid],k1,by simp [Hid],by simp [Hid,nmL],World.ownsRow_nil _ _ _ _⟩
 case round =>
  obtain ⟨k,v,rfl,rfl,hk,bel0,HT,HN,HO⟩:=hrel
  obtain ⟨bel,sz⟩:=kb.out _ bel0
  have hkk : k ≤ l.length:=by have:=hk.out;omega
  obtain ⟨n1,n2,n3,n4⟩:=kp.out _ bel0
  by_cases hkl : k < l.length
  ·obtain ⟨rfl,hSx,hbx⟩:=px (by omega)
   have hm:=List.getElem_mem hkl
   have HS : Hid (l.take (k+1)=l.take k ++ [l[k]]):=List.take_succ_eq_append_getElem hkl
   have hC:=hE _ hm
   have C1:=(show Hid (∀ W,Below w.heap.size w W→Calls Tryz.prog 13 #[.string l[k].t] W fun e w'=>e = .returned (.bool (idT false l[k].t))∧Below W.heap.size W w') from fun W _=>rid_any l[k].t W (hT _ hm))
   have HM : Hid (l[k] ∈ l):=hm
   have HNo : Hid (l[k].t.data.toList ∈ nmL (l.take k)→unlikeB l=false):=fun h=>unlike_no hkl h
   have HNx : Hid (l[k].t.data.toList ∉ nmL (l.take k)→(nmL (l.take (k+1))).Nodup):=fun h=>by rw [HS.out,nmL_app];exact unlike_next HN.out h
   have HNe : Hid (nmL (l.take (k+1))=nmL (l.take k) ++ [l[k].t.data.toList]):=by show _=_;rw [HS.out,nmL_app]
   have HL : Hid ((nmL (l.take k)).length=k):=by show _=_;rw [nmL_len,List.length_take];omega
   have hr:=rx k hkl
   have hq:=qx k hkl
   clear hm HN
   generalize nmL (l.take k)=L at *
   generalize l[k]=y at *
   generalize fx k=fk at *
   obtain ⟨ak,ck,rfl⟩:=hr.sl
   have CI : Hid (∀ W,Below wr.heap.size wr W→Calls Tryz.prog 70 #[.string y.t,v] W fun e w'=>e = .returned (.bool (decide (y.t.data.toList ∈ L)))∧w'=W):=fun W b=>in_own W y.t v (w.heap.size+1) L k HL.out (row_bel HO.out b) (by omega)
   have HB : Hid (pmB typed y=false→l.all (pmB typed)=false):=fun h=>List.all_eq_false.2 ⟨y,HM.out,by rw [h];decide⟩
   have HG : Hid (pmB typed y=true→∀ z ∈ l.take (k+1),pmB typed z=true):=fun h z hz=>by
    rw [HS.out] at hz
    rcases List.mem_append.1 hz with hz | hz
    ·exact HT.out z hz
    ·obtain rfl : z=y:=by simpa using hz
     exact h
   have HP : Hid (pmB typed y=((y.k == 13) && (y.n == 0) && idT false y.t && ((y.ks.length : Int) == 1) && y.ks.all (ptB typed))):=rfl
   obtain ⟨u1,u2,u3,u4⟩:=(kid_at hq hr hbx bel).1
   clear hE hT px qx rx HM HS HT hq
   by_cases h10 : y.k=13
   ·rw [h10] at u1 HP
    by_cases hn : y.n=0
    ·rw [hn] at u3 HP
     generalize idT false y.t=pt at *
     cases pt with
     | false =>
      have HR : Hid (l.all (pmB typed)=false):=HB.out (by rw [HP.out];simp)
      clear HB HG HP
      go_wp2_with (go_at_call 13;refine (C1.out _ (made_bel bel bel.size)).mono ?_;rintro e W1 ⟨rfl,b1⟩;rw [made_size] at b1;have HV : Hid (∀ W,Below (wr.heap.size+1) W1 W→NqZ W wr.heap.size 13 y.t 0 ak y.ks.length ck):=fun W b=>made4 (b1.trans b);have c1:=(made_bel (Below.refl wr.heap.size wr) (Nat.le_refl _)).trans (b1.mono (Nat.le_succ _));have s1 : wr.heap.size+1 ≤ W1.heap.size:=(by have:=b1.size;rw [made_size] at this;exact this);have kb1:=Below.refl (wr.heap.size+1) W1;obtain ⟨_,_,_,_⟩:=HV.out _ kb1)
      go_ret
      exact ⟨ret_b (by rw [HR.out];simp),(bel.trans (c1.mono bel.size))⟩
     | true =>
      by_cases h1 : y.ks.length=1
      ·obtain ⟨z,hz⟩:=List.length_eq_one_iff.1 h1
       have hCz:=hC z (by rw [hz];simp)
       rw [hz] at hr HP
       obtain ⟨bz,oz,cz,az,rfl,hbz,hgz,hcz⟩:=one_at hr
       have HZ : Hid (∀ W,Below w.heap.size w W→NqO W bz oz z.k z.t z.n az z.ks.length cz):=hcz
       have C2 : Hid (∀ W,Below w.heap.size w W→Calls Tryz.prog 72 #[nv z.k z.t z.n az z.ks.length cz] W fun e w'=>e = .returned (.bool (toB z))∧Below W.heap.size W w'):=fun W b=>typeOr_any z hCz W S az cz (hgz.bel b)
       have C3 : Hid (∀ W,Below w.heap.size w W→Calls Tryz.prog 74 #[nv z.k z.t z.n az z.ks.length cz] W fun e w'=>e = .returned (.bool (noB z))∧Below W.heap.size W w'):=fun W b=>none' z.k z.t z.n az z.ks.length cz W
       clear hcz hCz hC hgz hr
       rw [h1] at u4
       have HP2 : Hid (pmB typed y=(toB z && !(typed && noB z))):=by show _=_;rw [HP.out];simp [ptB]
       clear HP hz
       generalize toB z=tz at *
       generalize noB z=nz at *
       cases tz with
       | false =>
        have HR : Hid (l.all (pmB typed)=false):=HB.out (by rw [HP2.out];rfl)
        clear HB HG HP2
        go_wp2_with (first
         | (go_at_call 13;refine (C1.out _ (made_bel bel bel.size)).mono ?_;rintro e W1 ⟨rfl,b1⟩;rw [made_size] at b1;have HV : Hid (∀ W,Below (wr.heap.size+1) W1 W→NqZ W wr.heap.size 13 y.t 0 (some ⟨bz,oz,none⟩) 1 ck):=fun W b=>made4 (b1.trans b);have c1:=(made_bel (Below.refl wr.heap.size wr) (Nat.le_refl _)).trans (b1.mono (Nat.le_succ _));have s1 : wr.heap.size+1 ≤ W1.heap.size:=(by have:=b1.size;rw [made_size] at this;exact this);have kb1:=Below.refl (wr.heap.size+1) W1;obtain ⟨_,_,_,_⟩:=HV.out _ kb1;obtain ⟨_,_,_,_⟩:=HZ.out _ (bel.trans (c1.mono bel.size)))
         | (go_at_call 72;refine (C2.out _ (bel.trans (c1.mono bel.size))).mono ?_;rintro e W2 ⟨rfl,b2⟩;have kb2:=kb1.trans (b2.mono s1);have c2:=c1.trans (b2.mono c1.size);have s2 : wr.heap.size+1 ≤ W2.heap.size:=(by have:=b2.size;omega);obtain ⟨_,_,_,_⟩:=HV.out _ kb2;obtain ⟨_,_,_,_⟩:=HZ.out _ (bel.trans (c2.mono bel.size))))
        go_ret
        exact ⟨ret_b (by rw [HR.out];simp),(bel.trans (c2.mono bel.size))⟩
       | true =>
        cases typed with
        | false =>
         have HR : Hid (∀ z ∈ l.take (k+1),pmB false z=true):=HG.out (by rw [HP2.out];rfl)
         clear HB HG HP2
         by_cases hin : y.t.data.toList ∈ L
         ·have HF : Hid (unlikeB l=false):=HNo.out hin
          have CI2 : Hid (∀ W,Below wr.heap.size wr W→Calls Tryz.prog 70 #[.string y.t,v] W fun e w'=>e = .returned (.bool true)∧w'=W):=by rw [decide_eq_true hin] at CI;exact CI
          clear CI hin HNo HNx HNe
          go_wp2_with (first
           | (go_at_call 13;refine (C1.out _ (made_bel bel bel.size)).mono ?_;rintro e W1 ⟨rfl,b1⟩;rw [made_size] at b1;have HV : Hid (∀ W,Below (wr.heap.size+1) W1 W→NqZ W wr.heap.size 13 y.t 0 (some ⟨bz,oz,none⟩) 1 ck):=fun W b=>made4 (b1.trans b);have c1:=(made_bel (Below.refl wr.heap.size wr) (Nat.le_refl _)).trans (b1.mono (Nat.le_succ _));have s1 : wr.heap.size+1 ≤ W1.heap.size:=(by have:=b1.size;rw [made_size] at this;exact this);have kb1:=Below.refl (wr.heap.size+1) W1;obtain ⟨_,_,_,_⟩:=HV.out _ kb1;obtain ⟨_,_,_,_⟩:=HZ.out _ (bel.trans (c1.mono bel.size)))
           | (go_at_call 72;refine (C2.out _ (bel.trans (c1.mono bel.size))).mono ?_;rintro e W2 ⟨rfl,b2⟩;have kb2:=kb1.trans (b2.mono s1);have c2:=c1.trans (b2.mono c1.size);have s2 : wr.heap.size+1 ≤ W2.heap.size:=(by have:=b2.size;omega);obtain ⟨_,_,_,_⟩:=HV.out _ kb2;obtain ⟨_,_,_,_⟩:=HZ.out _ (bel.trans (c2.mono bel.size)))
           | (go_at_call 70;refine (CI2.out _ c2).mono ?_;rintro e W3 ⟨rfl,rfl⟩))
          go_ret
          exact ⟨ret_b (by rw [HF.out];simp),(bel.trans (c2.mono bel.size))⟩
         ·have CI2 : Hid (∀ W,Below wr.heap.size wr W→Calls Tryz.prog 70 #[.string y.t,v] W fun e w'=>e = .returned (.bool false)∧w'=W):=by rw [decide_eq_false hin] at CI;exact CI
          have HX : Hid ((nmL (l.take (k+1))).Nodup):=HNx.out hin
          clear CI hin HNo HNx
          go_wp2_with (first
           | (go_at_call 13;refine (C1.out _ (made_bel bel bel.size)).mono ?_;rintro e W1 ⟨rfl,b1⟩;rw [made_size] at b1;have HV : Hid (∀ W,Below (wr.heap.size+1) W1 W→NqZ W wr.heap.size 13 y.t 0 (some ⟨bz,oz,none⟩) 1 ck):=fun W b=>made4 (b1.trans b);have c1:=(made_bel (Below.refl wr.heap.size wr) (Nat.le_refl _)).trans (b1.mono (Nat.le_succ _));have s1 : wr.heap.size+1 ≤ W1.heap.size:=(by have:=b1.size;rw [made_size] at this;exact this);have kb1:=Below.refl (wr.heap.size+1) W1;obtain ⟨_,_,_,_⟩:=HV.out _ kb1;obtain ⟨_,_,_,_⟩:=HZ.out _ (bel.trans (c1.mono bel.size)))
           | (go_at_call 72;refine (C2.out _ (bel.trans (c1.mono bel.size))).mono ?_;rintro e W2 ⟨rfl,b2⟩;have kb2:=kb1.trans (b2.mono s1);have c2:=c1.trans (b2.mono c1.size);have s2 : wr.heap.size+1 ≤ W2.heap.size:=(by have:=b2.size;omega);obtain ⟨_,_,_,_⟩:=HV.out _ kb2;obtain ⟨_,_,_,_⟩:=HZ.out _ (bel.trans (c2.mono bel.size)))
           | (go_at_call 70;refine (CI2.out _ c2).mono ?_;rintro e W3 ⟨rfl,rfl⟩)
           | (at_builtin;refine wpList_append_lies _ (by rfl) _ _ _ (by rfl) (w.heap.size+1) 9 i0 _ 1 16 Tryz.underlying48 hi0 hz0 hz1 hz2 rfl (by omega) _ k (textC L) (by rfl) ((row_bel HO.out c2).alloc _) ⟨_,0,none⟩ 1 1 [.string y.t] (by rfl) (by rfl) (World.news_of_block (cs:=#[.string y.t]) (t:=9) (fr:=(0,0)) (heap_alloc_new _ _)) (by simp [Value.oneCell']) (by omega) (by unfold maxLen;omega) (by omega) (by simp;omega) _ rfl ?_;intro gg cap W9 hown9 hgrow hat hlt9))
          have bel9:=((bel0.trans (c2.mono sz)).alloc (Nat.le_trans sz c2.size) _).grown hgrow (by simp;have:=c2.size;omega) (fun j hj=>((row_bel HO.out c2).lt j hj).1)
          go_roundg (gk - 1)
          case rel=>exact ⟨k+1,_,rfl,by simp,by have:=hk.out;show _=_;omega,bel9,HR,HX,by rw [HNe.out,textC_app];exact hown9⟩
          case measure=>have:=hk.out;omega
        | true =>
         cases nz with
         | true =>
          have HR : Hid (l.all (pmB true)=false):=HB.out (by rw [HP2.out];rfl)
          clear HB HG HP2
          go_wp2_with (first
           | (go_at_call 13;refine (C1.out _ (made_bel bel bel.size)).mono ?_;rintro e W1 ⟨rfl,b1⟩;rw [made_size] at b1;have HV : Hid (∀ W,Below (wr.heap.size+1) W1 W→NqZ W wr.heap.size 13 y.t 0 (some ⟨bz,oz,none⟩) 1 ck):=fun W b=>made4 (b1.trans b);have c1:=(made_bel (Below.refl wr.heap.size wr) (Nat.le_refl _)).trans (b1.mono (Nat.le_succ _));have s1 : wr.heap.size+1 ≤ W1.heap.size:=(by have:=b1.size;rw [made_size] at this;exact this);have kb1:=Below.refl (wr.heap.size+1) W1;obtain ⟨_,_,_,_⟩:=HV.out _ kb1;obtain ⟨_,_,_,_⟩:=HZ.out _ (bel.trans (c1.mono bel.size)))
           | (go_at_call 72;refine (C2.out _ (bel.trans (c1.mono bel.size))).mono ?_;rintro e W2 ⟨rfl,b2⟩;have kb2:=kb1.trans (b2.mono s1);have c2:=c1.trans (b2.mono c1.size);have s2 : wr.heap.size+1 ≤ W2.heap.size:=(by have:=b2.size;omega);obtain ⟨_,_,_,_⟩:=HV.out _ kb2;obtain ⟨_,_,_,_⟩:=HZ.out _ (bel.trans (c2.mono bel.size)))
           | (go_at_call 74;refine (C3.out _ (bel.trans (c2.mono bel.size))).mono ?_;rintro e W3 ⟨rfl,b3⟩;have kb3:=kb2.trans (b3.mono s2);have c3:=c2.trans (b3.mono c2.size);have s3 : wr.heap.size+1 ≤ W3.heap.size:=(by have:=b3.size;omega);obtain ⟨_,_,_,_⟩:=HV.out _ kb3;obtain ⟨_,_,_,_⟩:=HZ.out _ (bel.trans (c3.mono bel.size))))
          go_ret
          exact ⟨ret_b (by rw [HR.out];simp),(bel.trans (c3.mono bel.size))⟩
         | false =>
          have HR : Hid (∀ z ∈ l.take (k+1),pmB true z=true):=HG.out (by rw [HP2.out];rfl)
          clear HB HG HP2
          by_cases hin : y.t.data.toList ∈ L
          ·have HF : Hid (unlikeB l=false):=HNo.out hin
           have CI2 : Hid (∀ W,Below wr.heap.size wr W→Calls Tryz.prog 70 #[.string y.t,v] W fun e w'=>e = .returned (.bool true)∧w'=W):=by rw [decide_eq_true hin] at CI;exact CI
           clear CI hin HNo HNx HNe
           go_wp2_with (first
            | (go_at_call 13;refine (C1.out _ (made_bel bel bel.size)).mono ?_;rintro e W1 ⟨rfl,b1⟩;rw [made_size] at b1;have HV : Hid (∀ W,Below (wr.heap.size+1) W1 W→NqZ W wr.heap.size 13 y.t 0 (some ⟨bz,oz,none⟩) 1 ck):=fun W b=>made4 (b1.trans b);have c1:=(made_bel (Below.refl wr.heap.size wr) (Nat.le_refl _)).trans (b1.mono (Nat.le_succ _));have s1 : wr.heap.size+1 ≤ W1.heap.size:=(by have:=b1.size;rw [made_size] at this;exact this);have kb1:=Below.refl (wr.heap.size+1) W1;obtain ⟨_,_,_,_⟩:=HV.out _ kb1;obtain ⟨_,_,_,_⟩:=HZ.out _ (bel.trans (c1.mono bel.size)))
            | (go_at_call 72;refine (C2.out _ (bel.trans (c1.mono bel.size))).mono ?_;rintro e W2 ⟨rfl,b2⟩;have kb2:=kb1.trans (b2.mono s1);have c2:=c1.trans (b2.mono c1.size);have s2 : wr.heap.size+1 ≤ W2.heap.size:=(by have:=b2.size;omega);obtain ⟨_,_,_,_⟩:=HV.out _ kb2;obtain ⟨_,_,_,_⟩:=HZ.out _ (bel.trans (c2.mono bel.size)))
            | (go_at_call 74;refine (C3.out _ (bel.trans (c2.mono bel.size))).mono ?_;rintro e W3 ⟨rfl,b3⟩;have kb3:=kb2.trans (b3.mono s2);have c3:=c2.trans (b3.mono c2.size);have s3 : wr.heap.size+1 ≤ W3.heap.size:=(by have:=b3.size;omega);obtain ⟨_,_,_,_⟩:=HV.out _ kb3;obtain ⟨_,_,_,_⟩:=HZ.out _ (bel.trans (c3.mono bel.size)))
            | (go_at_call 70;refine (CI2.out _ c3).mono ?_;rintro e W4 ⟨rfl,rfl⟩))
           go_ret
           exact ⟨ret_b (by rw [HF.out];simp),(bel.trans (c3.mono bel.size))⟩
          ·have CI2 : Hid (∀ W,Below wr.heap.size wr W→Calls Tryz.prog 70 #[.string y.t,v] W fun e w'=>e = .returned (.bool false)∧w'=W):=by rw [decide_eq_false hin] at CI;exact CI
           have HX : Hid ((nmL (l.take (k+1))).Nodup):=HNx.out hin
           clear CI hin HNo HNx
           go_wp2_with (first
            | (go_at_call 13;refine (C1.out _ (made_bel bel bel.size)).mono ?_;rintro e W1 ⟨rfl,b1⟩;rw [made_size] at b1;have HV : Hid (∀ W,Below (wr.heap.size+1) W1 W→NqZ W wr.heap.size 13 y.t 0 (some ⟨bz,oz,none⟩) 1 ck):=fun W b=>made4 (b1.trans b);have c1:=(made_bel (Below.refl wr.heap.size wr) (Nat.le_refl _)).trans (b1.mono (Nat.le_succ _));have s1 : wr.heap.size+1 ≤ W1.heap.size:=(by have:=b1.size;rw [made_size] at this;exact this);have kb1:=Below.refl (wr.heap.size+1) W1;obtain ⟨_,_,_,_⟩:=HV.out _ kb1;obtain ⟨_,_,_,_⟩:=HZ.out _ (bel.trans (c1.mono bel.size)))
            | (go_at_call 72;refine (C2.out _ (bel.trans (c1.mono bel.size))).mono ?_;rintro e W2 ⟨rfl,b2⟩;have kb2:=kb1.trans (b2.mono s1);have c2:=c1.trans (b2.mono c1.size);have s2 : wr.heap.size+1 ≤ W2.heap.size:=(by have:=b2.size;omega);obtain ⟨_,_,_,_⟩:=HV.out _ kb2;obtain ⟨_,_,_,_⟩:=HZ.out _ (bel.trans (c2.mono bel.size)))
            | (go_at_call 74;refine (C3.out _ (bel.trans (c2.mono bel.size))).mono ?_;rintro e W3 ⟨rfl,b3⟩;have kb3:=kb2.trans (b3.mono s2);have c3:=c2.trans (b3.mono c2.size);have s3 : wr.heap.size+1 ≤ W3.heap.size:=(by have:=b3.size;omega);obtain ⟨_,_,_,_⟩:=HV.out _ kb3;obtain ⟨_,_,_,_⟩:=HZ.out _ (bel.trans (c3.mono bel.size)))
            | (go_at_call 70;refine (CI2.out _ c3).mono ?_;rintro e W4 ⟨rfl,rfl⟩)
            | (at_builtin;refine wpList_append_lies _ (by rfl) _ _ _ (by rfl) (w.heap.size+1) 9 i0 _ 1 16 Tryz.underlying48 hi0 hz0 hz1 hz2 rfl (by omega) _ k (textC L) (by rfl) ((row_bel HO.out c3).alloc _) ⟨_,0,none⟩ 1 1 [.string y.t] (by rfl) (by rfl) (World.news_of_block (cs:=#[.string y.t]) (t:=9) (fr:=(0,0)) (heap_alloc_new _ _)) (by simp [Value.oneCell']) (by omega) (by unfold maxLen;omega) (by omega) (by simp;omega) _ rfl ?_;intro gg cap W9 hown9 hgrow hat hlt9))
           have bel9:=((bel0.trans (c3.mono sz)).alloc (Nat.le_trans sz c3.size) _).grown hgrow (by simp;have:=c3.size;omega) (fun j hj=>((row_bel HO.out c3).lt j hj).1)
           go_roundg (gk - 1)
           case rel=>exact ⟨k+1,_,rfl,by simp,by have:=hk.out;show _=_;omega,bel9,HR,HX,by rw [HNe.out,textC_app];exact hown9⟩
           case measure=>have:=hk.out;omega
      ·have h1' : ((y.ks.length : Int) == 1)=false:=by simp;omega
       have HR : Hid (l.all (pmB typed)=false):=HB.out (by rw [HP.out,h1'];simp)
       have h2 : ¬ (y.ks.length : Int)=1:=by omega
       clear HB HG HP h1 hC hr
       go_wp2_with (go_at_call 13;refine (C1.out _ (made_bel bel bel.size)).mono ?_;rintro e W1 ⟨rfl,b1⟩;rw [made_size] at b1;have HV : Hid (∀ W,Below (wr.heap.size+1) W1 W→NqZ W wr.heap.size 13 y.t 0 ak y.ks.length ck):=fun W b=>made4 (b1.trans b);have c1:=(made_bel (Below.refl wr.heap.size wr) (Nat.le_refl _)).trans (b1.mono (Nat.le_succ _));have s1 : wr.heap.size+1 ≤ W1.heap.size:=(by have:=b1.size;rw [made_size] at this;exact this);have kb1:=Below.refl (wr.heap.size+1) W1;obtain ⟨_,_,_,_⟩:=HV.out _ kb1)
       go_ret
       exact ⟨ret_b (by rw [HR.out];simp),(bel.trans (c1.mono bel.size))⟩
    ·have HR : Hid (l.all (pmB typed)=false):=HB.out (by rw [HP.out];simp [hn])
     clear HB HG HP hC hr
     go_wp2
     go_ret
     exact ⟨ret_b (by rw [HR.out];simp),(made_bel bel bel.size)⟩
   ·have HR : Hid (l.all (pmB typed)=false):=HB.out (by rw [HP.out];simp [h10])
    clear HB HG HP hC hr
    go_wp2
    go_ret
    exact ⟨ret_b (by rw [HR.out];simp),(made_bel bel bel.size)⟩
  ·have e : l.take k=l:=List.take_of_length_le (by omega)
   have HR : Hid (l.all (pmB typed)=true):=List.all_eq_true.2 (by have:=HT.out;rw [e] at this;exact this)
   have HU : Hid (unlikeB l=true):=by have:=HN.out;rw [e] at this;exact decide_eq_true this
   clear HT HN HO e hE hT px qx rx
   go_wp2
   go_ret
   exact ⟨ret_b (by rw [HR.out,HU.out];simp),bel⟩
theorem params_no (typed : Bool) (k : Int) (h : k ≠ 12) (t : ByteArray) (n : Int) (a : Option Addr) (len c : Nat) (w : World) :
 Calls Tryz.prog 71 #[nv k t n a len c,.bool typed] w fun e w'=>e = .returned (.bool false)∧Below w.heap.size w w':=by
 go_enter Tryz.func71,Tryz.ntmps71
 go_wp2
 go_ret
 exact ⟨rfl,bel_a _ _⟩
end Go.Proofs.YtfcocoadaajbjaaGreatDoor
