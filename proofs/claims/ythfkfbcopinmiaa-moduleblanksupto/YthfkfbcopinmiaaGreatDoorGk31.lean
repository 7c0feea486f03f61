/- Own text. The program's signs and texts. The rune with which a text begins. The program's numbers. The program's names,whole. The program's next token: a source read from a place on. -/
import Derived.Test.YthfkfbcopinmiaaGreatDoorGk30
import Derived.Test.YthfkfbcopinmiaaGreatDoorGk26
import Derived.ScopeJumps
import Derived.WalkMore
import Derived.Deep.QuietTactic
import Derived.BigQuiet
import Derived.Deep.RegionWith
set_option linter.unusedVariables false
set_option maxRecDepth 100000
set_option maxHeartbeats 4000000
namespace Go.Proofs.YthfkfbcopinmiaaGreatDoor
open Go.RowKit
def tokRes (n : Nx) (e : Ending) : Prop:=match n with
 | .ok x=>e = .returned (.tuple #[tokV x.1 0,.int .i64 (x.2 : Nat),.int .i64 0])
 | .error c=>e = .returned (.tuple #[tokV (0,[],0) 0,.int .i64 0,.int .i64 (c : Nat)])
theorem quoted_res {W : World} {n : Nat} {a b c d : Value} {tmps : Array Value} (hb : W.heap[n]?=some (.cells #[a,b,c,d] 37)) (ht : tmps[2]?.getD undef = .pointer (some ⟨n,0,none⟩)) :
 (results Tryz.f106 tmps).run Tryz.prog W = .ok (.tuple #[.agg #[a,b,c,d],tmps.getD 3 undef,tmps.getD 4 undef]) W:=by
 obtain ⟨⟨c0,c1,c2,c3⟩,_⟩:=four_of hb
 simp [results,Tryz.results106,go_sem,ht,c0,c1,c2,c3]
theorem sign_res {W : World} {n : Nat} {a b c d : Value} {tmps : Array Value} (hb : W.heap[n]?=some (.cells #[a,b,c,d] 37)) (ht : tmps[2]?.getD undef = .pointer (some ⟨n,0,none⟩)) :
 (results Tryz.f107 tmps).run Tryz.prog W = .ok (.tuple #[.agg #[a,b,c,d],tmps.getD 3 undef,tmps.getD 4 undef]) W:=by
 obtain ⟨⟨c0,c1,c2,c3⟩,_⟩:=four_of hb
 simp [results,Tryz.results107,go_sem,ht,c0,c1,c2,c3]
theorem quoted_own (s : ByteArray) (w : World) (hs : s.size < 4294967281) : Calls Tryz.prog 106 #[.string s] w fun e w'=>tokRes (unqNx s.data.toList) e∧Below w.heap.size w w':=by
 have hu:=fun W=>unquote_any s W (by omega)
 unfold unqNx
 cases hx : unquoteL s.data.toList with
 | none =>
  rw [hx] at hu
  simp only [unqRes] at hu
  clear hx
  go_enter Tryz.func106,Tryz.ntmps106
  go_wp2_with (go_at_call 125;refine (hu _).mono ?_;rintro e W1 ⟨rfl,hb1⟩;obtain ⟨⟨c0,c1,c2,c3⟩,f0,f1,f2,f3⟩:=four_of (four_new hb1))
  refine bodyPost_ret (quoted_res (four_set (four_new hb1)) rfl) rfl ⟨rfl,?_⟩
  exact four_below (((Below.refl _ w).alloc (Nat.le_refl _) _).trans (hb1.mono (by simp))) (Nat.le_refl _)
 | some x =>
  rw [hx] at hu
  simp only [unqRes] at hu
  clear hx
  go_enter Tryz.func106,Tryz.ntmps106
  go_wp2_with (go_at_call 125;refine (hu _).mono ?_;rintro e W1 ⟨rfl,hb1⟩;obtain ⟨⟨c0,c1,c2,c3⟩,f0,f1,f2,f3⟩:=four_of (four_new hb1))
  refine bodyPost_ret (quoted_res (four_set (four_new hb1)) rfl) rfl ⟨rfl,?_⟩
  exact four_below (((Below.refl _ w).alloc (Nat.le_refl _) _).trans (hb1.mono (by simp))) (Nat.le_refl _)
theorem sign_own (s : ByteArray) (w : World) (he : Env w) : Calls Tryz.prog 107 #[.string s] w fun e w'=>tokRes (signNx s.data.toList) e∧Below w.heap.size w w':=by
 have hl28 : signsL.length=28:=rfl
 obtain ⟨tw,fw,hw0⟩:=he.sgn
 have hw : ∀ o,(w.alloc o).heap[0]?=some (.cells (textCells signsL).toArray tw fw):=fun o=>(((Below.refl w.heap.size w).alloc (Nat.le_refl _) o).block _ (Array.getElem?_eq_some_iff.1 hw0).1).trans hw0
 have hwz : (Tryz.prog.info? 134).map (·.size)=some (textCells signsL).toArray.size:=by kernel_rfl
 have hix:=fun (k : Nat) (q : Bs) (hq : signsL[k]?=some q) (W : World)=>index_row (P:=Tryz.prog) W 134 9 28 signsL k q Tryz.underlying134 rfl hq (Tryz.isAgg9 W) (Tryz.sizeOf9 W)
 have hpf:=fun (p : ByteArray) W=>Tryz.strings_HasPrefix s p W
 generalize (textCells signsL).toArray=V at *
 go_enter Tryz.func107,Tryz.ntmps107
 go_wp2_with (refine wpList_load_row rfl 134 _ rfl 0 rfl tw _ fw _ (hw _) Tryz.underlying134 rfl hwz ?_)
 go_loopw [8] (fun v8 W'=>∃ k : Nat,v8 = .int .i64 k∧k ≤ 28∧W'=w.alloc (.cells #[.int .i64 0,.string ByteArray.empty,.int .i64 0,.int .i64 0] 37)∧Hid (∀ g ∈ signsL.take k,g.isPrefixOf s.data.toList=false)) (fun v8 _=>28 - (intOf v8).toNat)
 case atStart=>exact ⟨0,rfl,by omega,rfl,by intro q hq;simp at hq⟩
 case round =>
  obtain ⟨k,rfl,hk,rfl,hh⟩:=hrel
  by_cases hkl : k < 28
  ·have hk2 : (k : Int) < 28:=by omega
   obtain ⟨g,hg⟩ : ∃ g,signsL[k]?=some g:=⟨_,List.getElem?_eq_getElem (by rw [hl28];exact hkl)⟩
   have hc:=hix k g hg
   obtain ⟨G,hG⟩ : ∃ G : ByteArray,G=⟨g.toArray⟩:=⟨_,rfl⟩
   have hGl : G.data.toList=g:=by rw [hG]
   have hp:=hpf G
   have hGs : Hid (G.size=g.length):=by show _=_;rw [Lib.size_eq,hGl]
   rw [← hG] at hc
   have HG : Hid (signsL[k]?=some g∧G=⟨g.toArray⟩):=⟨hg,hG⟩
   unfold Lib.hasPrefix at hp
   rw [hGl] at hp
   clear hg hix hpf hGl hG
   cases hpre : g.isPrefixOf s.data.toList
   ·rw [hpre] at hp
    have hh2 : Hid (∀ x ∈ signsL.take (k+1),x.isPrefixOf s.data.toList=false):=by
     intro x hx
     rw [List.take_add_one,HG.out.1] at hx
     rcases List.mem_append.1 hx with hx | hx
     ·exact hh.out x hx
     ·rw [show x=g from by simpa using hx];exact hpre
    clear hh hpre
    go_wp2_with (go_at_call 66;refine (hp _).mono ?_;rintro e W1 ⟨rfl,rfl⟩)
    go_roundw
    case rel=>exact ⟨k+1,by simp,by omega,by simp,hh2⟩
    case measure=>simp [intOf];omega
   ·rw [hpre] at hp
    have HF : Hid (signNx s.data.toList = .ok ((5,g,0),g.length)):=by
     show _=_
     unfold signNx
     rw [find_step HG.out.1 hh.out hpre]
    clear hh hpre
    go_wp2_with (go_at_call 66;refine (hp _).mono ?_;rintro e W1 ⟨rfl,rfl⟩)
    refine bodyPost_ret (sign_res (heap_alloc_new w _) rfl) rfl ⟨?_,(Below.refl _ w).alloc (Nat.le_refl _) _⟩
    rw [HF.out]
    show _=_
    simp only [tokV,← HG.out.2,← hGs.out]
    rfl
  ·have hk2 : ¬ (k : Int) < 28:=by omega
   have HF : Hid (signNx s.data.toList = .error 40):=by
    show _=_
    have h1:=hh.out
    rw [List.take_of_length_le (by rw [hl28];omega)] at h1
    unfold signNx
    rw [List.find?_eq_none.2 (fun x hx=>by rw [h1 x hx];simp)]
   clear hh hix hpf
   go_wp2
   refine bodyPost_ret (sign_res (heap_alloc_new w _) rfl) rfl ⟨?_,(Below.refl _ w).alloc (Nat.le_refl _) _⟩
   rw [HF.out]
   rfl
end Go.Proofs.YthfkfbcopinmiaaGreatDoor
namespace Go.Proofs.YthfkfbcopinmiaaGreatDoor
open Go.RowKit
def dec1 (l : Bs) : Nat:=if l=[] then 65533 else (decL l).1
theorem decodeGo_dec (s : ByteArray) : (Lib.decodeGo s).1=dec1 s.data.toList:=by
 unfold Lib.decodeGo dec1
 by_cases h : s.data.toList=[]
 ·rw [if_pos h,if_pos (by rw [Lib.size_eq,h];rfl)]
 ·rw [if_neg h,if_neg (by have:=pos_of h;omega),decode_eq]
  simp
theorem decode_own (s : ByteArray) (w : World) (he : Env w) : Calls Tryz.prog 101 #[.string s] w fun e w'=>∃ n : Int,e = .returned (.tuple #[.int .i32 (dec1 s.data.toList : Nat),.int .i64 n])∧Below w.heap.size w w':=by
 refine (Tryz.utf8_DecodeRuneInString s w he.utf).mono ?_
 rintro e w' ⟨rfl,hb⟩
 exact ⟨_,by rw [decodeGo_dec],hb⟩
theorem begB_dec1 (l : Bs) (sc : Bool) : begB (dec1 l : Nat) sc=decide (0 < begL l sc):=by
 by_cases h : l=[]
 ·subst h
  have h1 : begL [] sc=0:=rfl
  rw [h1]
  cases sc <;> decide
 ·have hw:=(decL_width l).1
  unfold dec1
  rw [if_neg h,begL_dec l sc h]
  cases begB ((decL l).1 : Nat) sc
  ·simp
  ·simp;omega
end Go.Proofs.YthfkfbcopinmiaaGreatDoor
namespace Go.Proofs.YthfkfbcopinmiaaGreatDoor
open Go.RowKit
theorem number_res {W : World} {n : Nat} {a b c d : Value} {tmps : Array Value} (hb : W.heap[n]?=some (.cells #[a,b,c,d] 37)) (ht : tmps[4]?.getD undef = .pointer (some ⟨n,0,none⟩)) :
 (results Tryz.f105 tmps).run Tryz.prog W = .ok (.tuple #[.agg #[a,b,c,d],tmps.getD 5 undef,tmps.getD 6 undef]) W:=by
 obtain ⟨⟨c0,c1,c2,c3⟩,_⟩:=four_of hb
 simp [results,Tryz.results105,go_sem,ht,c0,c1,c2,c3]
def NumO (l : Bs) (k n : Nat) : Prop:=k ≤ l.length∧(∀ j,j < k→digC (atL l j)=true)∧n=min (decN 0 (l.take k)) 9007199254740992
theorem NumO.go {l : Bs} {k n : Nat} (h : NumO l k n) (hk : k < l.length) (hd : digC (atL l k)=true) : NumO l (k+1) (min (n * 10+(atL l k - 48)) 9007199254740992):=by
 obtain ⟨h1,h2,h3⟩:=h
 refine ⟨by omega,fun j hj=>?_,?_⟩
 ·by_cases e : j=k
  ·subst e;exact hd
  ·exact h2 j (by omega)
 ·rw [decN_succ l k hk,h3]
  omega
theorem number_own (b : Nat) (s : ByteArray) (sc : Bool) (w : World) (he : Env w) (hc : w.cell? ⟨b,2,none⟩=some (.bool sc)) (hs : s.size < 4294967281) (hp0 : 0 < s.size) :
 Calls Tryz.prog 105 #[.pointer (some ⟨b,0,none⟩),.string s] w fun e w'=>tokRes (numbL s.data.toList sc) e∧Below w.heap.size w w':=by
 have hsl : Hid (s.size=s.data.toList.length):=Lib.size_eq s
 have hltc:=World.block_lt_of_cell? w _ hc
 go_enter Tryz.func105,Tryz.ntmps105
 go_wp2
 go_loopw [7,8] (fun v7 v8 W=>∃ (k n : Nat),v7 = .int .i64 n∧v8 = .int .i64 k∧k ≤ s.size∧n ≤ 9007199254740992∧W=w.alloc (.cells #[.int .i64 0,.string ByteArray.empty,.int .i64 0,.int .i64 0] 37)∧Hid (NumO s.data.toList k n)) (fun _ v8 _=>s.size - (intOf v8).toNat)
 case atStart=>exact ⟨0,0,rfl,rfl,Nat.zero_le _,by omega,rfl,by omega,fun j hj=>by omega,by simp [decN]⟩
 case round =>
  obtain ⟨k,n,rfl,rfl,hk,hn,rfl,hh⟩:=hrel
  by_cases hkd : k < s.size∧digC (atL s.data.toList k)=true
  ·obtain ⟨hkl,hd⟩:=hkd
   have hkl2 : (k : Int) < (s.size : Int):=by omega
   have hby:=byteI s k hkl
   have hd1:=fun W=>digit_any (atL s.data.toList k : Nat) W
   have hdd : 48 ≤ atL s.data.toList k∧atL s.data.toList k ≤ 57:=by unfold digC at hd;simpa using hd
   have hdb : digitB (atL s.data.toList k : Nat)=true:=by unfold digitB;simp;omega
   rw [hdb] at hd1
   have HR : Hid (NumO s.data.toList (k+1) (min (n * 10+(atL s.data.toList k - 48)) 9007199254740992)):=hh.out.go (by rw [← hsl.out];exact hkl) hd
   clear hh hd hdb
   generalize atL s.data.toList k=c at *
   go_wp2_with (go_at_call 104;refine (hd1 _).mono ?_;rintro e W ⟨rfl,rfl⟩)
   all_goals
    go_roundw
    case rel=>exact ⟨k+1,min (n * 10+(c - 48)) 9007199254740992,by congr 1;first | omega | (simp;omega),by simp,by omega,by omega,by simp,HR⟩
    case measure=>simp [intOf];omega
  ·have hend : digsL s.data.toList=s.data.toList.take k:=digsL_at hh.out.1 hh.out.2.1 (by
    by_cases hkl : k < s.size
    ·exact .inr (by simpa using fun h=>hkd ⟨hkl,h⟩)
    ·exact .inl (by rw [← hsl.out];omega))
   have hdl : (digsL s.data.toList).length=k:=by
    rw [hend,List.length_take,← hsl.out];omega
   have HV : Hid (n=min (decN 0 (digsL s.data.toList)) 9007199254740992):=by
    show _=_
    rw [hend];exact hh.out.2.2
   have HL : Hid (numbL s.data.toList sc=if (1 < k∧atL s.data.toList 0=48) ∨ 0 < begL (s.data.toList.drop k) sc then .error 40 else if 9007199254740991 < decN 0 (digsL s.data.toList) then .error 41 else .ok ((3,[],(decN 0 (digsL s.data.toList) : Int)),k)):=by
    show _=_
    unfold numbL
    rw [hdl]
   clear hend hdl hh
   have hsr:=drop_run s k hk
   have hxl : (s.extract k s.size).data.toList=s.data.toList.drop k:=drop_extract s k
   have hal:=fun o=>(Below.refl w.heap.size w).alloc (Nat.le_refl _) o
   have hdc:=fun o=>decode_own (s.extract k s.size) _ (env_below he (hal o))
   rw [hxl] at hdc
   have hbg:=begB_dec1 (s.data.toList.drop k) sc
   clear hxl
   generalize s.extract k s.size=X at *
   generalize dec1 (s.data.toList.drop k)=R at *
   have hd1:=fun W=>digit_any (atL s.data.toList k : Nat) W
   have hex : (((k : Int) < (s.size : Int))∧digitB (atL s.data.toList k : Nat)=false∧∀ h : k < s.size,((s[k].toNat : Nat) : Int)=((atL s.data.toList k : Nat) : Int)) ∨ ¬ (k : Int) < (s.size : Int):=by
    by_cases hkl : k < s.size
    ·refine .inl ⟨by omega,?_,fun h=>byteI s k h⟩
     have h1 : ¬ digC (atL s.data.toList k)=true:=fun h=>hkd ⟨hkl,h⟩
     unfold digC at h1
     unfold digitB
     simp at h1 ⊢
     omega
    ·exact .inr (by omega)
   clear hkd
   have hy0:=byteI s 0 hp0
   have hcell : ∀ W,Below w.heap.size w W→W.cell? ⟨b,2,none⟩=some (.bool sc):=fun W hb=>(hb.cell (p:=⟨b,2,none⟩) hltc).trans hc
   by_cases hA : 1 < k∧atL s.data.toList 0=48
   ·have HR : Hid (numbL s.data.toList sc = .error 40):=by
     show _=_
     rw [HL.out,if_pos (.inl hA)]
    obtain ⟨hk1,h48⟩:=hA
    have hk1' : (1 : Int) < (k : Int):=by omega
    rw [h48] at hy0
    clear HL HV hbg
    rcases hex with ⟨x1,x2,x3⟩ | x1
    ·have x4:=x3 (by omega)
     have x5:=atL_lt s.data.toList k
     rw [x2] at hd1
     clear x2 x3
     generalize atL s.data.toList k=c at *
     go_wp2_with (first
      | (go_at_call 104;refine (hd1 _).mono ?_;rintro e W ⟨rfl,rfl⟩)
      | (go_at_call 101;refine (hdc _).mono ?_;rintro e W1 ⟨m,rfl,hb1⟩;obtain ⟨⟨c0,c1,c2,c3⟩,f0,f1,f2,f3⟩:=four_of (four_new hb1)))
     refine bodyPost_ret (number_res (four_set (four_new hb1)) rfl) rfl ⟨by rw [HR.out];rfl,?_⟩
     exact four_below ((hal _).trans (hb1.mono (by simp))) (Nat.le_refl _)
    ·go_wp2_with (go_at_call 101;refine (hdc _).mono ?_;rintro e W1 ⟨m,rfl,hb1⟩;obtain ⟨⟨c0,c1,c2,c3⟩,f0,f1,f2,f3⟩:=four_of (four_new hb1))
     refine bodyPost_ret (number_res (four_set (four_new hb1)) rfl) rfl ⟨by rw [HR.out];rfl,?_⟩
     exact four_below ((hal _).trans (hb1.mono (by simp))) (Nat.le_refl _)
   ·have hz : ((1 : Int) < (k : Int)∧(((s[0].toNat : Nat) : Int) == 48)=false) ∨ ¬ (1 : Int) < (k : Int):=by
     by_cases h1 : (1 : Int) < (k : Int)
     ·exact .inl ⟨h1,int_eqb (by rw [hy0];intro e;exact hA ⟨by omega,by omega⟩)⟩
     ·exact .inr h1
    have HR : Hid (tokRes (numbL s.data.toList sc)=tokRes (if begB (R : Nat) sc then .error 40 else if 9007199254740991 < n then .error 41 else .ok ((3,[],(n : Int)),k))):=by
     show _=_
     rw [HL.out,hbg]
     have hv:=HV.out
     by_cases h1 : 0 < begL (s.data.toList.drop k) sc
     ·rw [if_pos (.inr h1),decide_eq_true h1];rfl
     ·rw [if_neg (fun h=>h.elim hA h1),decide_eq_false h1]
      by_cases h2 : 9007199254740991 < decN 0 (digsL s.data.toList)
      ·rw [if_pos h2,if_neg (by simp),if_pos (by omega)]
      ·rw [if_neg h2,if_neg (by simp),if_neg (by omega)]
       have : n=decN 0 (digsL s.data.toList):=by omega
       rw [this]
    clear HL HV hbg hy0 hA
    have hbn:=fun W (hb : Below w.heap.size w W)=>begins_own b (R : Nat) sc W (hcell W hb)
    clear hcell
    cases hB : begB (R : Nat) sc
    ·rw [hB] at hbn HR
     clear hB
     by_cases hM : 9007199254740991 < n
     ·have hM2 : (9007199254740991 : Int) < (n : Int):=by omega
      rw [if_neg (by simp),if_pos hM] at HR
      rcases hz with ⟨z1,z2⟩ | z1
      all_goals
       rcases hex with ⟨x1,x2,x3⟩ | x1
       ·have x4:=x3 (by omega)
        have x5:=atL_lt s.data.toList k
        rw [x2] at hd1
        clear x2 x3
        generalize atL s.data.toList k=c at *
        go_wp2_with (first
         | (go_at_call 104;refine (hd1 _).mono ?_;rintro e W ⟨rfl,rfl⟩)
         | (go_at_call 101;refine (hdc _).mono ?_;rintro e W1 ⟨m,rfl,hb1⟩;obtain ⟨⟨c0,c1,c2,c3⟩,f0,f1,f2,f3⟩:=four_of (four_new hb1))
         | (go_at_call 102;refine (hbn _ ((hal _).trans (hb1.mono (by simp)))).mono ?_;rintro e W ⟨rfl,rfl⟩))
        refine bodyPost_ret (number_res (four_set (four_new hb1)) rfl) rfl ⟨by rw [HR.out];rfl,?_⟩
        exact four_below ((hal _).trans (hb1.mono (by simp))) (Nat.le_refl _)
       ·go_wp2_with (first
         | (go_at_call 101;refine (hdc _).mono ?_;rintro e W1 ⟨m,rfl,hb1⟩;obtain ⟨⟨c0,c1,c2,c3⟩,f0,f1,f2,f3⟩:=four_of (four_new hb1))
         | (go_at_call 102;refine (hbn _ ((hal _).trans (hb1.mono (by simp)))).mono ?_;rintro e W ⟨rfl,rfl⟩))
        refine bodyPost_ret (number_res (four_set (four_new hb1)) rfl) rfl ⟨by rw [HR.out];rfl,?_⟩
        exact four_below ((hal _).trans (hb1.mono (by simp))) (Nat.le_refl _)
     ·have hM2 : ¬ (9007199254740991 : Int) < (n : Int):=by omega
      rw [if_neg (by simp),if_neg hM] at HR
      rcases hz with ⟨z1,z2⟩ | z1
      all_goals
       rcases hex with ⟨x1,x2,x3⟩ | x1
       ·have x4:=x3 (by omega)
        have x5:=atL_lt s.data.toList k
        rw [x2] at hd1
        clear x2 x3
        generalize atL s.data.toList k=c at *
        go_wp2_with (first
         | (go_at_call 104;refine (hd1 _).mono ?_;rintro e W ⟨rfl,rfl⟩)
         | (go_at_call 101;refine (hdc _).mono ?_;rintro e W1 ⟨m,rfl,hb1⟩;obtain ⟨⟨c0,c1,c2,c3⟩,f0,f1,f2,f3⟩:=four_of (four_new hb1))
         | (go_at_call 102;refine (hbn _ ((hal _).trans (hb1.mono (by simp)))).mono ?_;rintro e W ⟨rfl,rfl⟩))
        refine bodyPost_ret (number_res (four_set (four_new hb1)) rfl) rfl ⟨by rw [HR.out];rfl,?_⟩
        exact four_below ((hal _).trans (hb1.mono (by simp))) (Nat.le_refl _)
       ·go_wp2_with (first
         | (go_at_call 101;refine (hdc _).mono ?_;rintro e W1 ⟨m,rfl,hb1⟩;obtain ⟨⟨c0,c1,c2,c3⟩,f0,f1,f2,f3⟩:=four_of (four_new hb1))
         | (go_at_call 102;refine (hbn _ ((hal _).trans (hb1.mono (by simp)))).mono ?_;rintro e W ⟨rfl,rfl⟩))
        refine bodyPost_ret (number_res (four_set (four_new hb1)) rfl) rfl ⟨by rw [HR.out];rfl,?_⟩
        exact four_below ((hal _).trans (hb1.mono (by simp))) (Nat.le_refl _)
    ·rw [hB] at hbn HR
     rw [if_pos rfl] at HR
     clear hB
     rcases hz with ⟨z1,z2⟩ | z1
     all_goals
      rcases hex with ⟨x1,x2,x3⟩ | x1
      ·have x4:=x3 (by omega)
       have x5:=atL_lt s.data.toList k
       rw [x2] at hd1
       clear x2 x3
       generalize atL s.data.toList k=c at *
       go_wp2_with (first
        | (go_at_call 104;refine (hd1 _).mono ?_;rintro e W ⟨rfl,rfl⟩)
        | (go_at_call 101;refine (hdc _).mono ?_;rintro e W1 ⟨m,rfl,hb1⟩;obtain ⟨⟨c0,c1,c2,c3⟩,f0,f1,f2,f3⟩:=four_of (four_new hb1))
        | (go_at_call 102;refine (hbn _ ((hal _).trans (hb1.mono (by simp)))).mono ?_;rintro e W ⟨rfl,rfl⟩))
       refine bodyPost_ret (number_res (four_set (four_new hb1)) rfl) rfl ⟨by rw [HR.out];rfl,?_⟩
       exact four_below ((hal _).trans (hb1.mono (by simp))) (Nat.le_refl _)
      ·go_wp2_with (first
        | (go_at_call 101;refine (hdc _).mono ?_;rintro e W1 ⟨m,rfl,hb1⟩;obtain ⟨⟨c0,c1,c2,c3⟩,f0,f1,f2,f3⟩:=four_of (four_new hb1))
        | (go_at_call 102;refine (hbn _ ((hal _).trans (hb1.mono (by simp)))).mono ?_;rintro e W ⟨rfl,rfl⟩))
       refine bodyPost_ret (number_res (four_set (four_new hb1)) rfl) rfl ⟨by rw [HR.out];rfl,?_⟩
       exact four_below ((hal _).trans (hb1.mono (by simp))) (Nat.le_refl _)
end Go.Proofs.YthfkfbcopinmiaaGreatDoor
set_option linter.unusedVariables false
set_option maxRecDepth 100000
set_option maxHeartbeats 4000000
namespace Go.Proofs.YthfkfbcopinmiaaGreatDoor
open Go.RowKit
theorem box_cell (w : World) (v : Value) (t : TypeId) (o : Obj) : ((w.alloc (.cells #[v] t)).alloc o).cell? ⟨w.heap.size,0,none⟩=some v:=by
 have hb : Below (w.alloc (.cells #[v] t)).heap.size (w.alloc (.cells #[v] t)) ((w.alloc (.cells #[v] t)).alloc o):=(Below.refl _ _).alloc (Nat.le_refl _) _
 rw [hb.cell (p:=⟨w.heap.size,0,none⟩) (by simp),cell_of_row _ _ 0 _ _ _ (heap_alloc_new w _)]
 rfl
theorem name_res {W : World} {n : Nat} {a b c d : Value} {tmps : Array Value} (hb : W.heap[n]?=some (.cells #[a,b,c,d] 37)) (ht : tmps[4]?.getD undef = .pointer (some ⟨n,0,none⟩)) :
 (results Tryz.f103 tmps).run Tryz.prog W = .ok (.tuple #[.agg #[a,b,c,d],tmps.getD 5 undef,tmps.getD 6 undef]) W:=by
 obtain ⟨⟨c0,c1,c2,c3⟩,_⟩:=four_of hb
 simp [results,Tryz.results103,go_sem,ht,c0,c1,c2,c3]
theorem four_new2 {w W1 : World} {o1 o2 : Obj} (hb : Below ((w.alloc o1).alloc o2).heap.size ((w.alloc o1).alloc o2) W1) : W1.heap[w.heap.size+1]?=some o2:=by
 have h:=four_new hb
 simpa using h
theorem name_own (b : Nat) (s : ByteArray) (sc : Bool) (w : World) (he : Env w) (hc : w.cell? ⟨b,2,none⟩=some (.bool sc)) (hs : s.size < 4294967281) (h0 : begL s.data.toList sc ≠ 0) :
 Calls Tryz.prog 103 #[.pointer (some ⟨b,0,none⟩),.string s] w fun e w' =>
 e = .returned (.tuple #[tokV ((if wordB (s.data.toList.take (nameL s.data.toList sc)) then 2 else 1),s.data.toList.take (nameL s.data.toList sc),0) 0,.int .i64 (nameL s.data.toList sc : Nat),.int .i64 0])∧Below w.heap.size w w':=by
 have hmf : ∀ (fn : Fn) (first cap : Array Value) (w : World),(Instr.makeFunc fn first cap).run Tryz.prog w = .ok (.func fn first cap) w:=fun _ _ _ _=>rfl
 have hltc:=World.block_lt_of_cell? w _ hc
 have hbx:=box_cell w (.pointer (some ⟨b,0,none⟩)) 101
 have hcc:=fun o1 o2=>(((Below.refl w.heap.size w).alloc (Nat.le_refl _) o1).alloc (o:=o2) (by simp)).cell (p:=⟨b,2,none⟩) hltc |>.trans hc
 have hle:=tailL_le s.data.toList sc
 rw [← Lib.size_eq] at hle
 have hif:=fun o2=>IndexFunc_own b w.heap.size s sc _ (hbx o2) (hcc _ o2)
 rw [nameL_tail _ _ h0]
 clear hbx hcc
 have hword:=fun W (h : Env W)=>isWordL_any (s.extract 0 (tailL s.data.toList sc)) W h
 have hcl:=cut_list s (tailL s.data.toList sc)
 have hxl : (s.extract 0 (tailL s.data.toList sc)).data.toList=s.data.toList.take (tailL s.data.toList sc):=by rw [hcl]
 have hxs : (s.extract 0 (tailL s.data.toList sc)).size ≤ 281474976710656:=by rw [Lib.size_eq,hxl,List.length_take];omega
 have hcn:=fun W=>cloneS_any (s.extract 0 (tailL s.data.toList sc)) W hxs
 rw [hxl] at hword
 have HX : Hid (s.extract 0 (tailL s.data.toList sc)=⟨(s.data.toList.take (tailL s.data.toList sc)).toArray⟩):=hcl
 clear hcl hxl hxs h0
 have hsl:=Lib.size_eq s
 unfold ixL at hif
 rw [← hsl] at hif
 clear hsl
 generalize tailL s.data.toList sc=k at *
 have hk3 : (k : Int) ≤ (s.size : Int):=by omega
 have hk0 : ¬ (k : Int) < 0:=by omega
 have hx0 : (0 : Int) ≤ (k : Int):=by omega
 by_cases hk : k=s.size
 ·rw [if_pos hk] at hif
  subst hk
  generalize hX : s.extract 0 s.size=X at *
  cases hwd : wordB (s.data.toList.take s.size)
  all_goals
   rw [hwd] at hword
   clear hwd
   go_enter Tryz.func103,Tryz.ntmps103
   go_wp2_with (first
    | (go_at_call 122;refine (hif _).mono ?_;rintro e W1 ⟨rfl,hb1⟩;have hbw : Below w.heap.size w W1:=(((Below.refl _ w).alloc (Nat.le_refl _) _).alloc (by simp) _).trans (hb1.mono (by simp;omega)))
    | (go_at_call 124;refine (hword _ (env_below he hbw)).mono ?_;rintro e W2 ⟨rfl,rfl⟩)
    | (go_at_call 70;refine (hcn _).mono ?_;rintro e W3 ⟨rfl,hb3⟩;obtain ⟨⟨c0,c1,c2,c3⟩,f0,f1,f2,f3⟩:=four_of (heap_at2 hb3 (four_new2 hb1))))
   refine bodyPost_ret (name_res (four_set (heap_at2 hb3 (four_new2 hb1))) rfl) rfl ⟨?_,?_⟩
   ·simp only [tokV,HX.out];rfl
   ·exact four_below (hbw.trans (hb3.mono hbw.size)) (by omega)
 ·rw [if_neg hk] at hif
  generalize hX : s.extract 0 k=X at *
  cases hwd : wordB (s.data.toList.take k)
  all_goals
   rw [hwd] at hword
   clear hwd
   go_enter Tryz.func103,Tryz.ntmps103
   go_wp2_with (first
    | (go_at_call 122;refine (hif _).mono ?_;rintro e W1 ⟨rfl,hb1⟩;have hbw : Below w.heap.size w W1:=(((Below.refl _ w).alloc (Nat.le_refl _) _).alloc (by simp) _).trans (hb1.mono (by simp;omega)))
    | (go_at_call 124;refine (hword _ (env_below he hbw)).mono ?_;rintro e W2 ⟨rfl,rfl⟩)
    | (go_at_call 70;refine (hcn _).mono ?_;rintro e W3 ⟨rfl,hb3⟩;obtain ⟨⟨c0,c1,c2,c3⟩,f0,f1,f2,f3⟩:=four_of (heap_at2 hb3 (four_new2 hb1))))
   refine bodyPost_ret (name_res (four_set (heap_at2 hb3 (four_new2 hb1))) rfl) rfl ⟨?_,?_⟩
   ·simp only [tokV,HX.out];rfl
   ·exact four_below (hbw.trans (hb3.mono hbw.size)) (by omega)
theorem scope_again {P : Program} {X : Code} {Q : Exit→Act→World→Prop} {a : Act} {w : World} (l : Nat) (J : Act→World→Prop) (μ : Act→World→Nat) (hf : findLabel ((Code.label l).seq X) l=some (Code.skip.seq X)) (h0 : J a w)
 (pass : ∀ a w,J a w→X.wp P (Exit.jump l (fun a' w'=>J a' w'∧μ a' w' < μ a w) Q) a w) : (Code.scope ((Code.label l).seq X)).wp P Q a w:=by
 refine wp_scope_jumps l J μ hf (wp_seq (wp_label ?_)) (fun a w h=>wp_seq (wp_skip (pass a w h)))
 refine Code.wp_mono (fun e a' w' h=>?_) (pass a w h0)
 cases e <;> first | exact h | exact ⟨h.1,h.2.1⟩
theorem ofFn90 (g : Nat→Value) : Array.ofFn (n:=90) (fun i=>g i.val)=#[g 0,g 1,g 2,g 3,g 4,g 5,g 6,g 7,g 8,g 9,g 10,g 11,g 12,g 13,g 14,g 15,g 16,g 17,g 18,g 19,g 20,g 21,g 22,g 23,g 24,g 25,g 26,g 27,g 28,g 29,g 30,g 31,g 32,g 33,g 34,g 35,g 36,g 37,g 38,g 39,g 40,g 41,g 42,g 43,g 44,g 45,g 46,g 47,g 48,g 49,g 50,g 51,g 52,g 53,g 54,g 55,g 56,g 57,g 58,g 59,g 60,g 61,g 62,g 63,g 64,g 65,g 66,g 67,g 68,g 69,g 70,g 71,g 72,g 73,g 74,g 75,g 76,g 77,g 78,g 79,g 80,g 81,g 82,g 83,g 84,g 85,g 86,g 87,g 88,g 89]:=by kernel_rfl
theorem frame90 {t : Array Value} {p0 p2 p3 : Value} (hs : t.size=90) (h0 : t.getD 0 undef=p0) (h2 : t.getD 2 undef=p2) (h3 : t.getD 3 undef=p3) : ∃ f : Nat→Value,t=#[p0,f 1,p2,p3,f 4,f 5,f 6,f 7,f 8,f 9,f 10,f 11,f 12,f 13,f 14,f 15,f 16,f 17,f 18,f 19,f 20,f 21,f 22,f 23,f 24,f 25,f 26,f 27,f 28,f 29,f 30,f 31,f 32,f 33,f 34,f 35,f 36,f 37,f 38,f 39,f 40,f 41,f 42,f 43,f 44,f 45,f 46,f 47,f 48,f 49,f 50,f 51,f 52,f 53,f 54,f 55,f 56,f 57,f 58,f 59,f 60,f 61,f 62,f 63,f 64,f 65,f 66,f 67,f 68,f 69,f 70,f 71,f 72,f 73,f 74,f 75,f 76,f 77,f 78,f 79,f 80,f 81,f 82,f 83,f 84,f 85,f 86,f 87,f 88,f 89]:=by
 subst h0 h2 h3
 refine ⟨fun i=>t.getD i undef,?_⟩
 rw [← ofFn90 (fun i=>t.getD i undef)]
 refine Array.ext (by rw [hs,Array.size_ofFn]) (fun i h1 h2=>?_)
 rw [Array.getElem_ofFn]
 simp [h1]
structure Kept (b : Nat) (w w' : World) : Prop where
 os : w'.os=w.os
 tape : w'.tape=w.tape
 output : w'.output=w.output
 size : w.heap.size ≤ w'.heap.size
 block : ∀ k,k < w.heap.size→k ≠ b→w'.heap[k]?=w.heap[k]?
theorem Kept.refl (b : Nat) (w : World) : Kept b w w:=⟨rfl,rfl,rfl,Nat.le_refl _,fun _ _ _=>rfl⟩
theorem Kept.trans {b : Nat} {w w' w'' : World} (h : Kept b w w') (k : Kept b w' w'') : Kept b w w'' :=
 ⟨k.os.trans h.os,k.tape.trans h.tape,k.output.trans h.output,Nat.le_trans h.size k.size,fun i hi hb=>(k.block i (Nat.lt_of_lt_of_le hi h.size) hb).trans (h.block i hi hb)⟩
theorem Kept.of {B b : Nat} {w w' : World} (h : Below B w w') (hB : w.heap.size ≤ B) : Kept b w w':=⟨h.os,h.tape,h.output,h.size,fun k hk _=>h.block k (Nat.lt_of_lt_of_le hk hB)⟩
theorem Kept.then {b : Nat} {w w' w'' : World} (h : Kept b w w') (k : Below w'.heap.size w' w'') : Kept b w w'':=h.trans (.of k (Nat.le_refl _))
theorem Kept.set {b : Nat} {w w' : World} (h : Kept b w w') (i : Nat) (v : Value) : Kept b w (w'.setCell ⟨b,i,none⟩ v) :=
 h.trans ⟨rfl,rfl,rfl,by simp [World.setCell],fun k hk hb=>Below.heap_setCell _ _ _ _ hb⟩
theorem Kept.new {b : Nat} {w w' : World} (h : Kept b w w') {n : Nat} (hn : w.heap.size ≤ n) (i : Nat) (v : Value) : Kept b w (w'.setCell ⟨n,i,none⟩ v) :=
 ⟨h.os,h.tape,h.output,by simpa [World.setCell] using h.size,fun k hk hb=>(Below.heap_setCell _ _ _ _ (by show k ≠ n;omega)).trans (h.block k hk hb)⟩
theorem Kept.alloc {b : Nat} {w w' : World} (h : Kept b w w') (o : Obj) : Kept b w (w'.alloc o):=h.then ((Below.refl _ _).alloc (Nat.le_refl _) o)
theorem Kept.drewN {b : Nat} {w w' : World} (h : Kept b w w') (n : Nat) : Kept b w (w'.drewN n):=h.then (drewN_below4 _ _)
theorem Kept.below {B b : Nat} {w w' : World} (h : Kept b w w') (hB : B ≤ b) (hs : B ≤ w.heap.size) : Below B w w' :=
 ⟨h.os,h.tape,h.output,h.size,fun k hk=>h.block k (by omega) (by omega)⟩
def Rdr (w : World) (b : Nat) (s : ByteArray) (a : Nat) (sc : Bool) : Prop:=w.heap[b]?=some (.cells #[.string s,.int .i64 (a : Int),.bool sc] 69)
theorem Rdr.cells {w : World} {b : Nat} {s : ByteArray} {a : Nat} {sc : Bool} (h : Rdr w b s a sc) : w.cell? ⟨b,0,none⟩=some (.string s)∧w.cell? ⟨b,1,none⟩=some (.int .i64 (a : Int))∧w.cell? ⟨b,2,none⟩=some (.bool sc)∧w.frozen? ⟨b,1,none⟩=false∧b < w.heap.size:=by
 refine ⟨?_,?_,?_,frozen_of_row w _ 1 _ _ h,(Array.getElem?_eq_some_iff.1 h).1⟩
 ·rw [cell_of_row w _ 0 _ _ _ h];rfl
 ·rw [cell_of_row w _ 1 _ _ _ h];rfl
 ·rw [cell_of_row w _ 2 _ _ _ h];rfl
theorem Rdr.set {w : World} {b : Nat} {s : ByteArray} {a : Nat} {sc : Bool} (h : Rdr w b s a sc) (n : Nat) : Rdr (w.setCell ⟨b,1,none⟩ (.int .i64 (n : Int))) b s n sc:=heap_setCell_same w b 1 _ _ _ h
theorem Rdr.other {w : World} {b : Nat} {s : ByteArray} {a : Nat} {sc : Bool} (h : Rdr w b s a sc) {n : Nat} (hn : b ≠ n) (i : Nat) (v : Value) : Rdr (w.setCell ⟨n,i,none⟩ v) b s a sc:=(Below.heap_setCell _ _ _ _ hn).trans h
theorem Rdr.below {B : Nat} {w w' : World} {b : Nat} {s : ByteArray} {a : Nat} {sc : Bool} (h : Rdr w b s a sc) (k : Below B w w') (hB : b < B) : Rdr w' b s a sc:=(k.block _ hB).trans h
def absP (l : Bs) (p : Nat) : Nat × Bool:=(p+(pastL (l.drop p)).1,(pastL (l.drop p)).2)
def nxtRes (l : Bs) (p : Nat × Bool) (sc : Bool) (e : Ending) (a' : Nat) : Prop :=
 if p.2=false then e = .returned (.tuple #[tokV (0,[],0) 0,.int .i64 40])∧a'=p.1
 else if l.drop p.1=[] then e = .returned (.tuple #[tokV (0,[],0) 0,.int .i64 0])
 else match nextL (l.drop p.1) sc with
  | .error c=>e = .returned (.tuple #[tokV (0,[],0) 0,.int .i64 (c : Nat)])∧a'=p.1
  | .ok x=>e = .returned (.tuple #[tokV x.1 (p.1 : Nat),.int .i64 0])∧a'=p.1+x.2
theorem nextP_res {W : World} {n : Nat} {a b c d : Value} {tmps : Array Value} (hb : W.heap[n]?=some (.cells #[a,b,c,d] 37)) (ht : tmps[2]?.getD undef = .pointer (some ⟨n,0,none⟩)) :
 (results Tryz.f31 tmps).run Tryz.prog W = .ok (.tuple #[.agg #[a,b,c,d],tmps.getD 3 undef]) W:=by
 obtain ⟨⟨c0,c1,c2,c3⟩,_⟩:=four_of hb
 simp [results,Tryz.results31,go_sem,ht,c0,c1,c2,c3]
structure NextAt (w : World) (b : Nat) (s : ByteArray) (sc : Bool) (a p : Nat) (W : World) : Prop where
 le : p ≤ s.size
 rdr : Rdr W b s p sc
 res : W.heap[w.heap.size]?=some (.cells #[.int .i64 0,.string ByteArray.empty,.int .i64 0,.int .i64 0] 37)
 kept : Kept b w W
 past : absP s.data.toList p=absP s.data.toList a
theorem NextAt.go {w : World} {b : Nat} {s : ByteArray} {sc : Bool} {a p q n : Nat} {W : World} (h : NextAt w b s sc a p W) (hb : b < w.heap.size) (hq : q ≤ s.size) (hp : absP s.data.toList q=absP s.data.toList p) :
 NextAt w b s sc a q ((W.setCell ⟨b,1,none⟩ (.int .i64 (q : Int))).drewN n):=by
 refine ⟨hq,?_,?_,((h.kept.set 1 _).drewN n),hp.trans h.past⟩
 ·exact h.rdr.set q
 ·refine Eq.trans ?_ h.res
  exact Below.heap_setCell W ⟨b,1,none⟩ _ _ (by show w.heap.size ≠ b;omega)
theorem NextAt.go2 {w : World} {b : Nat} {s : ByteArray} {sc : Bool} {a p q n : Nat} {v : Int} {W : World} (h : NextAt w b s sc a p W) (hb : b < w.heap.size) (hq : q ≤ s.size) (hp : absP s.data.toList q=absP s.data.toList p) (hv : v=(q : Int)) :
 NextAt w b s sc a q ((W.drewN n).setCell ⟨b,1,none⟩ (.int .i64 v)):=by
 subst hv
 exact h.go (n:=n) hb hq hp
def placeOf (b : Nat) (w : World) : Nat:=(intOf ((w.cell? ⟨b,1,none⟩).getD undef)).toNat
theorem place_rdr {w : World} {b : Nat} {s : ByteArray} {a : Nat} {sc : Bool} (h : Rdr w b s a sc) : placeOf b w=a:=by
 unfold placeOf
 rw [h.cells.2.1]
 simp [intOf]
theorem abs_blank {l : Bs} {p : Nat} {c : UInt8} (hp : l[p]?=some c) (h : isBl c=true) : absP l (p+1)=absP l p:=by
 unfold absP
 rw [past_blank hp h]
 simp only [Prod.mk.injEq,and_true]
 omega
theorem abs_line {l : Bs} {p : Nat} (hp : l[p]?=some 47) (h2 : l[p+1]?=some 47) : absP l (p+lineL (l.drop p))=absP l p:=by
 conv=>rhs;unfold absP
 rw [past_line hp h2]
 unfold absP
 simp only [Prod.mk.injEq,and_true]
 omega
theorem abs_open {l : Bs} {p : Nat} (hp : l[p]?=some 47) (h2 : l[p+1]?=some 42) (h : noteL (l.drop (p+2))=none) : absP l p=(p,false):=by
 unfold absP
 rw [past_note hp h2,h]
 rfl
theorem abs_note {l : Bs} {p k : Nat} (hp : l[p]?=some 47) (h2 : l[p+1]?=some 42) (h : noteL (l.drop (p+2))=some k) : absP l (p+(k+2))=absP l p:=by
 conv=>rhs;unfold absP
 rw [past_note hp h2,h]
 unfold absP
 simp only [Prod.mk.injEq]
 refine ⟨?_,?_⟩
 ·rw [show p+2+k=p+(k+2) from by omega];omega
 ·rw [show p+2+k=p+(k+2) from by omega]
theorem abs_stop {l : Bs} {p : Nat} {c : UInt8} (hp : l[p]?=some c) (h : isBl c=false) (h1 : ¬ (c=47∧l[p+1]?=some 47)) (h2 : ¬ (c=47∧l[p+1]?=some 42)) : absP l p=(p,true):=by
 unfold absP
 rw [past_stop hp h h1 h2]
 rfl
theorem abs_end {l : Bs} {p : Nat} (h : l.length ≤ p) : absP l p=(p,true):=by
 unfold absP
 rw [List.drop_eq_nil_of_le h]
 rfl
theorem lead2 (l : Bs) (p : Nat) (c d e : UInt8) (hp : l[p]?=some e) : ([c,d] : Bs).isPrefixOf (l.drop p)=(decide (e=c∧l[p+1]?=some d)):=by
 obtain ⟨hl,he⟩:=List.getElem?_eq_some_iff.1 hp
 rw [List.drop_eq_getElem_cons hl,he]
 cases hd : l[p+1]? with
 | none =>
  have : l.drop (p+1)=[]:=List.drop_eq_nil_of_le (List.getElem?_eq_none_iff.1 hd)
  rw [this]
  simp [List.isPrefixOf]
 | some x =>
  obtain ⟨hl2,hx⟩:=List.getElem?_eq_some_iff.1 hd
  rw [List.drop_eq_getElem_cons hl2,hx]
  simp only [List.isPrefixOf,Bool.and_true]
  rw [Bool.eq_iff_iff]
  simp only [Bool.and_eq_true,beq_iff_eq,decide_eq_true_eq,Option.some.injEq]
  constructor
  ·rintro ⟨a,b⟩;exact ⟨a.symm,b.symm⟩
  ·rintro ⟨a,b⟩;exact ⟨a.symm,b.symm⟩
theorem blank_dec (c : UInt8) : decide (((c.toNat : Nat) : Int)=9 ∨ ((c.toNat : Nat) : Int)=10 ∨ ((c.toNat : Nat) : Int)=13 ∨ ((c.toNat : Nat) : Int)=32)=isBl c:=by
 rw [isBl_of,Bool.eq_iff_iff]
 simp only [decide_eq_true_eq,Bool.or_eq_true,or_assoc]
end Go.Proofs.YthfkfbcopinmiaaGreatDoor
