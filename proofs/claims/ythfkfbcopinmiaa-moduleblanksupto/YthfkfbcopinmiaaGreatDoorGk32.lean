/- Own text. The program's token. The program's next token,walked. -/
import Derived.Test.YthfkfbcopinmiaaGreatDoorGk31
set_option linter.unusedVariables false
set_option maxRecDepth 100000
set_option maxHeartbeats 4000000
namespace Go.Proofs.YthfkfbcopinmiaaGreatDoor
open Go.RowKit
theorem token_res {W : World} {n : Nat} {a b c d : Value} {tmps : Array Value} (hb : W.heap[n]?=some (.cells #[a,b,c,d] 37)) (ht : tmps[4]?.getD undef = .pointer (some ⟨n,0,none⟩)) :
 (results Tryz.f69 tmps).run Tryz.prog W = .ok (.tuple #[.agg #[a,b,c,d],tmps.getD 5 undef,tmps.getD 6 undef]) W:=by
 obtain ⟨⟨c0,c1,c2,c3⟩,_⟩:=four_of hb
 simp [results,Tryz.results69,go_sem,ht,c0,c1,c2,c3]
theorem tokRes_ex {n : Nx} {e : Ending} (h : tokRes n e) : ∃ (t1 : Int) (X : ByteArray) (t3 m c : Int),e = .returned (.tuple #[.agg #[.int .i64 t1,.string X,.int .i64 t3,.int .i64 0],.int .i64 m,.int .i64 c]):=by
 cases n with
 | error c=>exact ⟨_,_,_,_,_,h⟩
 | ok x=>exact ⟨_,_,_,_,_,h⟩
theorem dec1_some {l : Bs} (h : l ≠ []) : dec1 l=(decL l).1:=by unfold dec1;rw [if_neg h]
theorem quote_dec (l : Bs) (h : l ≠ []) (q : Nat) (hq : q < 128) : atL l 0=q ↔ dec1 l=q:=by
 rw [dec1_some h]
 obtain ⟨lo1,lo2⟩:=decL_low l
 constructor
 ·intro e;rw [lo2 (by omega)];exact e
 ·intro e;rw [(lo1 (by omega)).1];exact e
theorem token_own (b : Nat) (s : ByteArray) (sc : Bool) (w : World) (he : Env w) (hc : w.cell? ⟨b,2,none⟩=some (.bool sc)) (hs : s.size < 4294967281) (hp0 : 0 < s.size) :
 Calls Tryz.prog 69 #[.pointer (some ⟨b,0,none⟩),.string s] w fun e w'=>tokRes (nextL s.data.toList sc) e∧Below w.heap.size w w':=by
 have hne : s.data.toList ≠ []:=fun e=>by rw [Lib.size_eq,e] at hp0;simp at hp0
 have hltc:=World.block_lt_of_cell? w _ hc
 have hal:=fun o=>(Below.refl w.heap.size w).alloc (Nat.le_refl _) o
 have hdc:=fun o=>decode_own s _ (env_below he (hal o))
 have hcell : ∀ W,Below w.heap.size w W→W.cell? ⟨b,2,none⟩=some (.bool sc):=fun W hb=>(hb.cell (p:=⟨b,2,none⟩) hltc).trans hc
 have hbn:=fun W (hb : Below w.heap.size w W)=>begins_own b (dec1 s.data.toList : Nat) sc W (hcell W hb)
 have hdg:=fun W=>digit_any (dec1 s.data.toList : Nat) W
 have hbg:=begB_dec1 s.data.toList sc
 have hdd : digitB (dec1 s.data.toList : Nat)=digC (atL s.data.toList 0):=by rw [dec1_some hne];exact (digC_dec _).symm
 rw [hbg] at hbn
 rw [hdd] at hdg
 clear hbg hdd
 by_cases hN : 0 < begL s.data.toList sc
 ·have hnm:=fun W (hb : Below w.heap.size w W)=>name_own b s sc W (env_below he hb) (hcell W hb) hs (by omega)
  have hn0:=(nameL_pos s.data.toList sc).2 (by omega)
  have HR : Hid (nextL s.data.toList sc = .ok (((if wordB (s.data.toList.take (nameL s.data.toList sc)) then 2 else 1),s.data.toList.take (nameL s.data.toList sc),0),nameL s.data.toList sc)):=by
   show _=_
   unfold nextL
   rw [if_pos hn0]
  rw [decide_eq_true hN] at hbn
  simp only [tokV] at hnm
  clear hN hcell hdg
  generalize (if wordB (s.data.toList.take (nameL s.data.toList sc)) then (2 : Int) else 1)=K at *
  generalize s.data.toList.take (nameL s.data.toList sc)=x at *
  generalize nameL s.data.toList sc=n at *
  go_enter Tryz.func69,Tryz.ntmps69
  go_wp2_with (first
   | (go_at_call 101;refine (hdc _).mono ?_;rintro e W1 ⟨m,rfl,hb1⟩;have hbw : Below w.heap.size w W1:=(hal _).trans (hb1.mono (by simp)))
   | (go_at_call 102;refine (hbn _ hbw).mono ?_;rintro e W ⟨rfl,rfl⟩)
   | (go_at_call 103;refine (hnm _ hbw).mono ?_;rintro e W2 ⟨rfl,hb2⟩;obtain ⟨⟨c0,c1,c2,c3⟩,f0,f1,f2,f3⟩:=four_of (heap_at2 hb2 (four_new hb1))))
  refine bodyPost_ret (token_res (four_set (heap_at2 hb2 (four_new hb1))) rfl) rfl ⟨by rw [HR.out];rfl,?_⟩
  exact four_below (hbw.trans (hb2.mono hbw.size)) (Nat.le_refl _)
 ·have hn0 : ¬ 0 < nameL s.data.toList sc:=fun h=>hN (by have:=(nameL_pos s.data.toList sc).1 h;omega)
  rw [decide_eq_false hN] at hbn
  cases hD : digC (atL s.data.toList 0)
  ·rw [hD] at hdg
   by_cases hQ : atL s.data.toList 0=34 ∨ atL s.data.toList 0=39
   ·have HR : Hid (nextL s.data.toList sc=unqNx s.data.toList):=by
     show _=_
     unfold nextL
     rw [if_neg hn0,hD,if_neg (by simp),if_pos hQ]
    have hqt:=fun W=>quoted_own s W hs
    have hQ2 : (((dec1 s.data.toList : Nat) : Int) == 34)=true ∨ ((((dec1 s.data.toList : Nat) : Int) == 34)=false∧(((dec1 s.data.toList : Nat) : Int) == 39)=true):=by
     rcases hQ with h | h
     ·exact .inl (by rw [(quote_dec _ hne 34 (by omega)).1 h];rfl)
     ·exact .inr ⟨by rw [(quote_dec _ hne 39 (by omega)).1 h];rfl,by rw [(quote_dec _ hne 39 (by omega)).1 h];rfl⟩
    clear hN hcell hQ hD hn0 hne
    generalize dec1 s.data.toList=R at *
    rcases hQ2 with q1 | ⟨q1,q2⟩
    all_goals
     go_enter Tryz.func69,Tryz.ntmps69
     go_wp2_with (first
      | (go_at_call 101;refine (hdc _).mono ?_;rintro e W1 ⟨m,rfl,hb1⟩;have hbw : Below w.heap.size w W1:=(hal _).trans (hb1.mono (by simp)))
      | (go_at_call 102;refine (hbn _ hbw).mono ?_;rintro e W ⟨rfl,rfl⟩)
      | (go_at_call 104;refine (hdg _).mono ?_;rintro e W ⟨rfl,rfl⟩)
      | (go_at_call 106;refine (hqt _).mono ?_;rintro e W2 ⟨hr,hb2⟩;obtain ⟨t1,X,t3,m2,cc,rfl⟩:=tokRes_ex hr;obtain ⟨⟨c0,c1,c2,c3⟩,f0,f1,f2,f3⟩:=four_of (heap_at2 hb2 (four_new hb1))))
     refine bodyPost_ret (token_res (four_set (heap_at2 hb2 (four_new hb1))) rfl) rfl ⟨by rw [HR.out];exact hr,?_⟩
     exact four_below (hbw.trans (hb2.mono hbw.size)) (Nat.le_refl _)
   ·have HR : Hid (nextL s.data.toList sc=signNx s.data.toList):=by
     show _=_
     unfold nextL
     rw [if_neg hn0,hD,if_neg (by simp),if_neg hQ]
    have hsg:=fun W (hb : Below w.heap.size w W)=>sign_own s W (env_below he hb)
    have q1 : (((dec1 s.data.toList : Nat) : Int) == 34)=false:=int_eqb (fun e=>hQ (.inl ((quote_dec _ hne 34 (by omega)).2 (by omega))))
    have q2 : (((dec1 s.data.toList : Nat) : Int) == 39)=false:=int_eqb (fun e=>hQ (.inr ((quote_dec _ hne 39 (by omega)).2 (by omega))))
    clear hN hcell hQ hD hn0 hne
    generalize dec1 s.data.toList=R at *
    go_enter Tryz.func69,Tryz.ntmps69
    go_wp2_with (first
     | (go_at_call 101;refine (hdc _).mono ?_;rintro e W1 ⟨m,rfl,hb1⟩;have hbw : Below w.heap.size w W1:=(hal _).trans (hb1.mono (by simp)))
     | (go_at_call 102;refine (hbn _ hbw).mono ?_;rintro e W ⟨rfl,rfl⟩)
     | (go_at_call 104;refine (hdg _).mono ?_;rintro e W ⟨rfl,rfl⟩)
     | (go_at_call 107;refine (hsg _ hbw).mono ?_;rintro e W2 ⟨hr,hb2⟩;obtain ⟨t1,X,t3,m2,cc,rfl⟩:=tokRes_ex hr;obtain ⟨⟨c0,c1,c2,c3⟩,f0,f1,f2,f3⟩:=four_of (heap_at2 hb2 (four_new hb1))))
    refine bodyPost_ret (token_res (four_set (heap_at2 hb2 (four_new hb1))) rfl) rfl ⟨by rw [HR.out];exact hr,?_⟩
    exact four_below (hbw.trans (hb2.mono hbw.size)) (Nat.le_refl _)
  ·rw [hD] at hdg
   have HR : Hid (nextL s.data.toList sc=numbL s.data.toList sc):=by
    show _=_
    unfold nextL
    rw [if_neg hn0,if_pos hD]
   have hnb:=fun W (hb : Below w.heap.size w W)=>number_own b s sc W (env_below he hb) (hcell W hb) hs hp0
   clear hN hcell hD hn0 hne
   generalize dec1 s.data.toList=R at *
   go_enter Tryz.func69,Tryz.ntmps69
   go_wp2_with (first
    | (go_at_call 101;refine (hdc _).mono ?_;rintro e W1 ⟨m,rfl,hb1⟩;have hbw : Below w.heap.size w W1:=(hal _).trans (hb1.mono (by simp)))
    | (go_at_call 102;refine (hbn _ hbw).mono ?_;rintro e W ⟨rfl,rfl⟩)
    | (go_at_call 104;refine (hdg _).mono ?_;rintro e W ⟨rfl,rfl⟩)
    | (go_at_call 105;refine (hnb _ hbw).mono ?_;rintro e W2 ⟨hr,hb2⟩;obtain ⟨t1,X,t3,m2,cc,rfl⟩:=tokRes_ex hr;obtain ⟨⟨c0,c1,c2,c3⟩,f0,f1,f2,f3⟩:=four_of (heap_at2 hb2 (four_new hb1))))
   refine bodyPost_ret (token_res (four_set (heap_at2 hb2 (four_new hb1))) rfl) rfl ⟨by rw [HR.out];exact hr,?_⟩
   exact four_below (hbw.trans (hb2.mono hbw.size)) (Nat.le_refl _)
set_option maxHeartbeats 8000000
theorem fin4 {w W : World} {b : Nat} {s : ByteArray} {p : Nat} {sc : Bool} {x y z u : Value} (hb : b < w.heap.size) (hR : Rdr W b s p sc) (hK : Kept b w W) :
 Rdr ((((W.setCell ⟨w.heap.size,0,none⟩ x).setCell ⟨w.heap.size,1,none⟩ y).setCell ⟨w.heap.size,2,none⟩ z).setCell ⟨w.heap.size,3,none⟩ u) b s p sc ∧
 Kept b w ((((W.setCell ⟨w.heap.size,0,none⟩ x).setCell ⟨w.heap.size,1,none⟩ y).setCell ⟨w.heap.size,2,none⟩ z).setCell ⟨w.heap.size,3,none⟩ u):=by
 have hne : b ≠ w.heap.size:=by omega
 exact ⟨(((hR.other hne 0 x).other hne 1 y).other hne 2 z).other hne 3 u,(((hK.new (Nat.le_refl _) 0 x).new (Nat.le_refl _) 1 y).new (Nat.le_refl _) 2 z).new (Nat.le_refl _) 3 u⟩
theorem new_at {V : World} {n : Nat} {x : Obj} (h : V.heap[n]?=some x) (o : Obj) : (V.alloc o).heap[n]?=some x:=(Below.heap_alloc V o n (Array.getElem?_eq_some_iff.1 h).1).trans h
theorem Rdr.drewN {w : World} {b : Nat} {s : ByteArray} {a : Nat} {sc : Bool} (h : Rdr w b s a sc) (n : Nat) : Rdr (w.drewN n) b s a sc:=h
theorem Rdr.new {w : World} {b : Nat} {s : ByteArray} {a : Nat} {sc : Bool} (h : Rdr w b s a sc) (o : Obj) : Rdr (w.alloc o) b s a sc:=new_at h o
theorem nextP_own (b : Nat) (s : ByteArray) (a : Nat) (sc : Bool) (w : World) (he : Env w) (ho : Over b) (hR : Rdr w b s a sc) (ha : a ≤ s.size) (hs : s.size < 4294967281) :
 Calls Tryz.prog 31 #[.pointer (some ⟨b,0,none⟩)] w fun e w'=>∃ a',a' ≤ s.size∧nxtRes s.data.toList (absP s.data.toList a) sc e a'∧Rdr w' b s a' sc∧Kept b w w':=by
 have hbw:=hR.cells.2.2.2.2
 have hsl : Hid (s.size=s.data.toList.length):=Lib.size_eq s
 go_enter Tryz.func31,Tryz.ntmps31
 go_wp2
 refine scope_again 0 (fun a' W=>a'.defers=[]∧a'.tmps.size=90∧a'.tmps.getD 0 undef = .pointer (some ⟨b,0,none⟩)∧a'.tmps.getD 2 undef = .pointer (some ⟨w.heap.size,0,none⟩)∧a'.tmps.getD 3 undef = .int .i64 0∧∃ p,NextAt w b s sc a p W) (fun _ W=>s.size - placeOf b W) rfl ⟨rfl,rfl,rfl,rfl,rfl,a,ha,hR.below ((Below.refl _ _).alloc (Nat.le_refl _) _) hbw,heap_alloc_new w _,(Kept.refl b w).alloc _,rfl⟩ ?_
 rintro ⟨tmps,defers⟩ W ⟨rfl,hz,h0,h2,h3,p,hN⟩
 obtain ⟨f,rfl⟩:=frame90 hz h0 h2 h3
 clear hz h0 h2 h3
 obtain ⟨r0,r1,r2,rf,rb⟩:=hN.rdr.cells
 have hsr:=drop_run s p hN.le
 have hxl : (s.extract p s.size).data.toList=s.data.toList.drop p:=drop_extract s p
 have hxs : (s.extract p s.size).size=s.size - p:=by rw [Lib.size_eq,hxl,List.length_drop,← Lib.size_eq]
 have HX : Hid ((s.extract p s.size).data.toList=s.data.toList.drop p):=hxl
 clear hxl
 generalize s.extract p s.size=X at *
 obtain ⟨⟨c0,c1,c2,c3⟩,f0,f1,f2,f3⟩:=four_of hN.res
 have hple:=hN.le
 by_cases hend : p=s.size
 ·have hX0 : X.toList.isEmpty=true:=empty_iff (by rw [HX.out];exact List.drop_eq_nil_of_le (by rw [← hsl.out];omega))
  have HA : Hid (absP s.data.toList a=(p,true)∧s.data.toList.drop p=[]):=⟨by rw [← hN.past];exact abs_end (by rw [← hsl.out];omega),List.drop_eq_nil_of_le (by rw [← hsl.out];omega)⟩
  clear hend hxs
  go_wp2
  go_quiet (fail)
  go_wp2
  simp only [Exit.jump]
  refine bodyPost_ret (nextP_res (four_set (W:=W.drewN nq) hN.res) rfl) rfl ⟨p,hple,?_,fin4 hbw hN.rdr (hN.kept.drewN nq)⟩
  unfold nxtRes
  rw [HA.out.1,if_neg (by simp),if_pos HA.out.2]
  rfl
 ·have hlt : p < s.size:=by omega
  have hxp : 0 < X.size:=by omega
  have hX0 : X.toList.isEmpty=false:=empty_not (by rw [HX.out];exact drop_ne s p hlt)
  obtain ⟨c,hc⟩ : ∃ c,s.data.toList[p]?=some c:=⟨_,List.getElem?_eq_getElem (by rw [← hsl.out];exact hlt)⟩
  have hb0 : ((X[0].toNat : Nat) : Int)=((c.toNat : Nat) : Int):=by
   rw [byteI X 0 hxp,HX.out,atL_drop]
   simp only [Nat.add_zero,atL,List.getD_eq_getElem?_getD,hc,Option.getD_some]
  have hbl:=fun W=>blank_any ((c.toNat : Nat) : Int) W
  rw [blank_dec] at hbl
  have hcl : c.toNat < 256:=c.toNat_lt
  have henv : Env W:=he.keep (hN.kept.below (Nat.le_refl b) (by omega)) ho
  clear hend
  cases hB : isBl c
  ·rw [hB] at hbl
   have hp1:=fun W=>Tryz.strings_HasPrefix X ⟨#[47,47]⟩ W
   have hp2:=fun W=>Tryz.strings_HasPrefix X ⟨#[47,42]⟩ W
   unfold Lib.hasPrefix at hp1 hp2
   rw [show (⟨#[47,47]⟩ : ByteArray).data.toList=[47,47] from rfl,HX.out,lead2 _ _ _ _ _ hc] at hp1
   rw [show (⟨#[47,42]⟩ : ByteArray).data.toList=[47,42] from rfl,HX.out,lead2 _ _ _ _ _ hc] at hp2
   by_cases hA : c=47∧s.data.toList[p+1]?=some 47
   ·rw [decide_eq_true hA] at hp1
    obtain ⟨rfl,h47⟩:=hA
    have hls:=fun W=>lineSize_any X W
    rw [HX.out] at hls
    have hl1 : 1 ≤ lineL (s.data.toList.drop p):=by rw [lineL_go hc (by decide)];omega
    have hl2:=lineL_le (s.data.toList.drop p)
    rw [List.length_drop,← hsl.out] at hl2
    have HP : Hid (absP s.data.toList (p+lineL (s.data.toList.drop p))=absP s.data.toList p):=abs_line hc h47
    clear hc h47 hp2 hB
    generalize lineL (s.data.toList.drop p)=L at *
    have tok1 : True:=trivial
    go_wp2
    go_quiet (fail)
    go_wp2_with (first
     | (go_at_call 65;refine (hbl _).mono ?_;rintro e W1 ⟨rfl,rfl⟩)
     | (go_at_call 66;refine (hp1 _).mono ?_;rintro e W1 ⟨rfl,rfl⟩))
    go_region_with (go_at_call 67;refine (hls _).mono ?_;rintro e W1 ⟨rfl,rfl⟩)
    all_goals
     go_wp2
     go_step3
     have hN2:=hN.go2 (n:=nq+1) (v:=IntKind.i64.wrap ((p : Int)+(L : Int))) (q:=p+L) hbw (by omega) HP.out (by rw [IntKind.wrap_i64];omega)
     refine ⟨rfl,⟨rfl,rfl,rfl,rfl,rfl,p+L,hN2⟩,?_⟩
     rw [place_rdr hN.rdr,place_rdr hN2.rdr]
     omega
   ·rw [decide_eq_false hA] at hp1
    by_cases hO : c=47∧s.data.toList[p+1]?=some 42
    ·rw [decide_eq_true hO] at hp2
     obtain ⟨rfl,h42⟩:=hO
     have hx2 : 2 ≤ X.size:=by
      have:=(List.getElem?_eq_some_iff.1 h42).1
      rw [← hsl.out] at this
      omega
     have hns:=fun W (h : Env W)=>noteSize_any X W h (by omega) hx2
     have hnd : X.data.toList.drop 2=s.data.toList.drop (p+2):=by rw [HX.out,List.drop_drop]
     unfold noteN noteB at hns
     rw [hnd] at hns
     cases hnl : noteL (s.data.toList.drop (p+2)) with
     | none =>
      rw [hnl] at hns
      have HA : Hid (absP s.data.toList a=(p,false)):=by
       show _=_
       rw [← hN.past]
       exact abs_open hc h42 hnl
      clear hc h42 hB hA hnl hnd
      have tok1 : True:=trivial
      go_wp2
      go_quiet (fail)
      go_wp2_with (first
       | (go_at_call 65;refine (hbl _).mono ?_;rintro e W1 ⟨rfl,rfl⟩)
       | (go_at_call 66;have _t:=tok1;refine (hp1 _).mono ?_;rintro e W1 ⟨rfl,rfl⟩;clear tok1)
       | (go_at_call 66;refine (hp2 _).mono ?_;rintro e W1 ⟨rfl,rfl⟩)
       | (go_at_call 68;refine (hns _ (env_below henv (drewN_below4 _ _))).mono ?_;rintro e W1 ⟨rfl,rfl⟩))
      simp only [Exit.jump]
      refine bodyPost_ret (nextP_res (four_set (W:=W.drewN nq) hN.res) rfl) rfl ⟨p,hple,?_,fin4 hbw hN.rdr (hN.kept.drewN nq)⟩
      unfold nxtRes
      rw [HA.out,if_pos rfl]
      exact ⟨rfl,rfl⟩
     | some k =>
      rw [hnl] at hns
      have hkl:=noteL_le _ _ hnl
      rw [List.length_drop,← hsl.out] at hkl
      have HP : Hid (absP s.data.toList (p+(k+2))=absP s.data.toList p):=abs_note hc h42 hnl
      clear hc h42 hB hA hnl hnd
      have tok1 : True:=trivial
      go_wp2
      go_quiet (fail)
      go_wp2_with (first
       | (go_at_call 65;refine (hbl _).mono ?_;rintro e W1 ⟨rfl,rfl⟩)
       | (go_at_call 66;have _t:=tok1;refine (hp1 _).mono ?_;rintro e W1 ⟨rfl,rfl⟩;clear tok1)
       | (go_at_call 66;refine (hp2 _).mono ?_;rintro e W1 ⟨rfl,rfl⟩)
       | (go_at_call 68;refine (hns _ (env_below henv (drewN_below4 _ _))).mono ?_;rintro e W1 ⟨rfl,rfl⟩))
      go_step3
      have hN2:=hN.go2 (n:=nq) (v:=(p : Int)+((k : Int)+2)) (q:=p+(k+2)) hbw (by omega) HP.out (by omega)
      refine ⟨rfl,⟨rfl,rfl,rfl,rfl,rfl,p+(k+2),hN2⟩,?_⟩
      rw [place_rdr hN.rdr,place_rdr hN2.rdr]
      omega
    ·rw [decide_eq_false hO] at hp2
     have HA : Hid (absP s.data.toList a=(p,true)∧s.data.toList.drop p ≠ []):=⟨by rw [← hN.past];exact abs_stop hc hB hA hO,drop_ne s p hlt⟩
     have htk:=fun W h1 h2=>token_own b X sc W h1 h2 (by omega) hxp
     rw [HX.out] at htk
     have hRlt:=(Array.getElem?_eq_some_iff.1 hN.res).1
     have hlen:=fun x=>next_len (l:=s.data.toList.drop p) (sc:=sc) (x:=x) (drop_ne s p hlt)
     clear hc hB hA hO
     generalize c.toNat=C at *
     have tok1 : True:=trivial
     cases hnx : nextL (s.data.toList.drop p) sc with
     | error ce =>
      rw [hnx] at htk
      have hce : ((ce : Int) == 0)=false:=int_eqb (by rcases next_err hnx with h | h <;> omega)
      simp only [tokRes,tokV] at htk
      go_wp2
      go_quiet (fail)
      go_wp2_with (first
       | (go_at_call 65;refine (hbl _).mono ?_;rintro e W1 ⟨rfl,rfl⟩)
       | (go_at_call 66;have _t:=tok1;refine (hp1 _).mono ?_;rintro e W1 ⟨rfl,rfl⟩;clear tok1)
       | (go_at_call 66;refine (hp2 _).mono ?_;rintro e W1 ⟨rfl,rfl⟩)
       | (go_at_call 69;refine (htk _ (env_below henv (drewN_below4 _ _)) r2).mono ?_;rintro e W2 ⟨rfl,hb2⟩;have hr2 : W2.heap[w.heap.size]?=_:=(hb2.block _ hRlt).trans hN.res;obtain ⟨⟨d0,d1,d2,d3⟩,g0,g1,g2,g3⟩:=four_of hr2;have hlt2 : w.heap.size < W2.heap.size:=Nat.lt_of_lt_of_le hRlt hb2.size))
      have hR2 : Rdr W2 b s p sc:=Rdr.below (Rdr.drewN hN.rdr _) hb2 rb
      have hK2 : Kept b w W2:=(hN.kept.drewN nq).then hb2
      simp only [Exit.jump]
      refine bodyPost_ret (nextP_res (new_at (four_set hr2) _) rfl) rfl ⟨p,hple,?_,(fin4 hbw hR2 hK2).1.new _,(fin4 hbw hR2 hK2).2.alloc _⟩
      unfold nxtRes
      rw [HA.out.1,if_neg (by simp),if_neg HA.out.2,hnx]
      exact ⟨rfl,rfl⟩
     | ok x =>
      have hx:=hlen x hnx
      rw [List.length_drop,← hsl.out] at hx
      rw [hnx] at htk
      simp only [tokRes,tokV] at htk
      have HX2 : Hid (nextL (s.data.toList.drop p) sc = .ok x):=hnx
      obtain ⟨⟨t1,t2,t3⟩,n⟩:=x
      simp only at htk hx
      clear hnx hlen
      generalize hT2 : (⟨t2.toArray⟩ : ByteArray)=T2 at *
      go_wp2
      go_quiet (fail)
      go_wp2_with (first
       | (go_at_call 65;refine (hbl _).mono ?_;rintro e W1 ⟨rfl,rfl⟩)
       | (go_at_call 66;have _t:=tok1;refine (hp1 _).mono ?_;rintro e W1 ⟨rfl,rfl⟩;clear tok1)
       | (go_at_call 66;refine (hp2 _).mono ?_;rintro e W1 ⟨rfl,rfl⟩)
       | (go_at_call 69;refine (htk _ (env_below henv (drewN_below4 _ _)) r2).mono ?_;rintro e W2 ⟨rfl,hb2⟩;have hr2 : W2.heap[w.heap.size]?=_:=(hb2.block _ hRlt).trans hN.res;obtain ⟨⟨d0,d1,d2,d3⟩,g0,g1,g2,g3⟩:=four_of hr2;have hlt2 : w.heap.size < W2.heap.size:=Nat.lt_of_lt_of_le hRlt hb2.size;have hR2 : Rdr W2 b s p sc:=Rdr.below (Rdr.drewN hN.rdr _) hb2 rb;obtain ⟨q0,q1,q2,qf,qb⟩:=hR2.cells;have hne : b ≠ w.heap.size:=Nat.ne_of_lt hbw))
      have hr3:=(Below.heap_setCell W2 ⟨b,1,none⟩ (.int .i64 ((p : Int)+(n : Int))) w.heap.size hne.symm).trans hr2
      have hR3 : Rdr (W2.setCell ⟨b,1,none⟩ (.int .i64 ((p : Int)+(n : Int)))) b s (p+n) sc:=hR2.set (p+n)
      have hK3:=((hN.kept.drewN nq).then hb2).set 1 (.int .i64 ((p : Int)+(n : Int)))
      simp only [Exit.jump]
      refine bodyPost_ret (nextP_res (new_at (four_set hr3) _) rfl) rfl ⟨p+n,by omega,?_,(fin4 hbw hR3 hK3).1.new _,(fin4 hbw hR3 hK3).2.alloc _⟩
      unfold nxtRes
      rw [HA.out.1,if_neg (by simp),if_neg HA.out.2,HX2.out]
      exact ⟨by simp only [tokV,hT2];rfl,rfl⟩
  ·rw [hB] at hbl
   have HP : Hid (absP s.data.toList (p+1)=absP s.data.toList p):=abs_blank hc hB
   clear hc hB
   generalize c.toNat=C at *
   go_wp2
   go_quiet (fail)
   go_wp2_with (go_at_call 65;refine (hbl _).mono ?_;rintro e W1 ⟨rfl,rfl⟩)
   go_step3
   have hN2:=hN.go2 (n:=nq) (v:=(p : Int)+1) (q:=p+1) hbw (by omega) HP.out (by omega)
   refine ⟨rfl,⟨rfl,rfl,rfl,rfl,rfl,p+1,hN2⟩,?_⟩
   rw [place_rdr hN.rdr,place_rdr hN2.rdr]
   omega
end Go.Proofs.YthfkfbcopinmiaaGreatDoor
