/- Own text. The program's signs and texts. The rune with which a text begins. The program's numbers. The program's names,whole. -/
import Derived.Test.YthfkfbcopinmiaaGreatDoorGj27
import Derived.Test.YthfkfbcopinmiaaGreatDoorGj25
set_option linter.unusedVariables false
set_option maxRecDepth 100000
set_option maxHeartbeats 4000000
namespace Go.Proofs.YthfkfbcopinmiaaGreatDoor
open Go.RowKit
def tokRes (n : Nx) (e : Ending) : Prop:=match n with
 | .ok x=>e = .returned (.tuple #[tokV x.1 0,.int .i64 (x.2 : Nat),.int .i64 0])
 | .error c=>e = .returned (.tuple #[tokV (0,[],0) 0,.int .i64 0,.int .i64 (c : Nat)])
theorem quoted_res {W : World} {n : Nat} {a b c d : Value} {tmps : Array Value} (hb : W.heap[n]? = some (.cells #[a,b,c,d] 37)) (ht : tmps[2]?.getD undef = .pointer (some ⟨n,0,none⟩)) :
 (results Tryz.f106 tmps).run Tryz.prog W = .ok (.tuple #[.agg #[a,b,c,d],tmps.getD 3 undef,tmps.getD 4 undef]) W:=by
 obtain ⟨⟨c0,c1,c2,c3⟩,_⟩:=four_of hb
 simp [results,Tryz.results106,go_sem,ht,c0,c1,c2,c3]
theorem sign_res {W : World} {n : Nat} {a b c d : Value} {tmps : Array Value} (hb : W.heap[n]? = some (.cells #[a,b,c,d] 37)) (ht : tmps[2]?.getD undef = .pointer (some ⟨n,0,none⟩)) :
 (results Tryz.f107 tmps).run Tryz.prog W = .ok (.tuple #[.agg #[a,b,c,d],tmps.getD 3 undef,tmps.getD 4 undef]) W:=by
 obtain ⟨⟨c0,c1,c2,c3⟩,_⟩:=four_of hb
 simp [results,Tryz.results107,go_sem,ht,c0,c1,c2,c3]
theorem quoted_own (s : ByteArray) (w : World) (hs : s.size < 4294967281) : Calls Tryz.prog 106 #[.string s] w fun e w'=>tokRes (unqNx s.data.toList) e ∧ Below w.heap.size w w':=by
 have hu:=fun W=>unquote_any s W (by omega)
 unfold unqNx
 cases hx : unquoteL s.data.toList with
 | none =>
  rw [hx] at hu
  simp only [unqRes] at hu
  clear hx
  go_enter Tryz.func106,Tryz.ntmps106
  go_wp2_with (go_at_call 125;refine (hu _).mono ?_;rintro e W1 ⟨rfl,hb1⟩;obtain ⟨⟨c0,c1,c2,c3⟩,f0,f1,f2,f3⟩:=four_of (four_new hb1))
  refine bodyPost_ret (quoted_res (four_set (four_new hb1)) rfl) rfl ⟨rfl,?_⟩
  exact four_below (((Below.refl _ w).alloc (Nat.le_refl _) _).trans (hb1.mono (by simp))) (Nat.le_refl _)
 | some x =>
  rw [hx] at hu
  simp only [unqRes] at hu
  clear hx
  go_enter Tryz.func106,Tryz.ntmps106
  go_wp2_with (go_at_call 125;refine (hu _).mono ?_;rintro e W1 ⟨rfl,hb1⟩;obtain ⟨⟨c0,c1,c2,c3⟩,f0,f1,f2,f3⟩:=four_of (four_new hb1))
  refine bodyPost_ret (quoted_res (four_set (four_new hb1)) rfl) rfl ⟨rfl,?_⟩
  exact four_below (((Below.refl _ w).alloc (Nat.le_refl _) _).trans (hb1.mono (by simp))) (Nat.le_refl _)
theorem sign_own (s : ByteArray) (w : World) (he : Env w) : Calls Tryz.prog 107 #[.string s] w fun e w'=>tokRes (signNx s.data.toList) e ∧ Below w.heap.size w w':=by
 have hl28 : signsL.length = 28:=rfl
 obtain ⟨tw,fw,hw0⟩:=he.sgn
 have hw : ∀ o,(w.alloc o).heap[0]? = some (.cells (textCells signsL).toArray tw fw):=fun o=>(((Below.refl w.heap.size w).alloc (Nat.le_refl _) o).block _ (Array.getElem?_eq_some_iff.1 hw0).1).trans hw0
 have hwz : (Tryz.prog.info? 134).map (·.size) = some (textCells signsL).toArray.size:=by kernel_rfl
 have hix:=fun (k : Nat) (q : Bs) (hq : signsL[k]? = some q) (W : World)=>index_row (P:=Tryz.prog) W 134 9 28 signsL k q Tryz.underlying134 rfl hq (Tryz.isAgg9 W) (Tryz.sizeOf9 W)
 have hpf:=fun (p : ByteArray) W=>Tryz.strings_HasPrefix s p W
 generalize (textCells signsL).toArray = V at *
 go_enter Tryz.func107,Tryz.ntmps107
 go_wp2_with (refine wpList_load_row rfl 134 _ rfl 0 rfl tw _ fw _ (hw _) Tryz.underlying134 rfl hwz ?_)
 go_loopw [8] (fun v8 W'=>∃ k : Nat,v8 = .int .i64 k ∧ k ≤ 28 ∧ W' = w.alloc (.cells #[.int .i64 0,.string ByteArray.empty,.int .i64 0,.int .i64 0] 37) ∧ Hid (∀ g ∈ signsL.take k,g.isPrefixOf s.data.toList = false)) (fun v8 _=>28 - (intOf v8).toNat)
 case atStart=>exact ⟨0,rfl,by omega,rfl,by intro q hq;simp at hq⟩
 case round =>
  obtain ⟨k,rfl,hk,rfl,hh⟩:=hrel
  by_cases hkl : k < 28
  ·have hk2 : (k : Int) < 28:=by omega
   obtain ⟨g,hg⟩ : ∃ g,signsL[k]? = some g:=⟨_,List.getElem?_eq_getElem (by rw [hl28];exact hkl)⟩
   have hc:=hix k g hg
   obtain ⟨G,hG⟩ : ∃ G : ByteArray,G = ⟨g.toArray⟩:=⟨_,rfl⟩
   have hGl : G.data.toList = g:=by rw [hG]
   have hp:=hpf G
   have hGs : Hid (G.size = g.length):=by show _ = _;rw [Lib.size_eq,hGl]
   rw [← hG] at hc
   have HG : Hid (signsL[k]? = some g ∧ G = ⟨g.toArray⟩):=⟨hg,hG⟩
   unfold Lib.hasPrefix at hp
   rw [hGl] at hp
   clear hg hix hpf hGl hG
   cases hpre : g.isPrefixOf s.data.toList
   ·rw [hpre] at hp
    have hh2 : Hid (∀ x ∈ signsL.take (k + 1),x.isPrefixOf s.data.toList = false):=by
     intro x hx
     rw [List.take_add_one,HG.out.1] at hx
     rcases List.mem_append.1 hx with hx | hx
     ·exact hh.out x hx
     ·rw [show x = g from by simpa using hx];exact hpre
    clear hh hpre
    go_wp2_with (go_at_call 66;refine (hp _).mono ?_;rintro e W1 ⟨rfl,rfl⟩)
    go_roundw
    case rel=>exact ⟨k + 1,by simp,by omega,by simp,hh2⟩
    case measure=>simp [intOf];omega
   ·rw [hpre] at hp
    have HF : Hid (signNx s.data.toList = .ok ((5,g,0),g.length)):=by
     show _ = _
     unfold signNx
     rw [find_step HG.out.1 hh.out hpre]
    clear hh hpre
    go_wp2_with (go_at_call 66;refine (hp _).mono ?_;rintro e W1 ⟨rfl,rfl⟩)
    refine bodyPost_ret (sign_res (heap_alloc_new w _) rfl) rfl ⟨?_,(Below.refl _ w).alloc (Nat.le_refl _) _⟩
    rw [HF.out]
    show _ = _
    simp only [tokV,← HG.out.2,← hGs.out]
    rfl
  ·have hk2 : ¬ (k : Int) < 28:=by omega
   have HF : Hid (signNx s.data.toList = .error 40):=by
    show _ = _
    have h1:=hh.out
    rw [List.take_of_length_le (by rw [hl28];omega)] at h1
    unfold signNx
    rw [List.find?_eq_none.2 (fun x hx=>by rw [h1 x hx];simp)]
   clear hh hix hpf
   go_wp2
   refine bodyPost_ret (sign_res (heap_alloc_new w _) rfl) rfl ⟨?_,(Below.refl _ w).alloc (Nat.le_refl _) _⟩
   rw [HF.out]
   rfl
end Go.Proofs.YthfkfbcopinmiaaGreatDoor
namespace Go.Proofs.YthfkfbcopinmiaaGreatDoor
open Go.RowKit
def dec1 (l : Bs) : Nat:=if l = [] then 65533 else (decL l).1
theorem decodeGo_dec (s : ByteArray) : (Lib.decodeGo s).1 = dec1 s.data.toList:=by
 unfold Lib.decodeGo dec1
 by_cases h : s.data.toList = []
 ·rw [if_pos h,if_pos (by rw [Lib.size_eq,h];rfl)]
 ·rw [if_neg h,if_neg (by have:=pos_of h;omega),decode_eq]
  simp
theorem decode_own (s : ByteArray) (w : World) (he : Env w) : Calls Tryz.prog 101 #[.string s] w fun e w'=>∃ n : Int,e = .returned (.tuple #[.int .i32 (dec1 s.data.toList : Nat),.int .i64 n]) ∧ Below w.heap.size w w':=by
 refine (Tryz.utf8_DecodeRuneInString s w he.utf).mono ?_
 rintro e w' ⟨rfl,hb⟩
 exact ⟨_,by rw [decodeGo_dec],hb⟩
theorem begB_dec1 (l : Bs) (sc : Bool) : begB (dec1 l : Nat) sc = decide (0 < begL l sc):=by
 by_cases h : l = []
 ·subst h
  have h1 : begL [] sc = 0:=rfl
  rw [h1]
  cases sc <;> decide
 ·have hw:=(decL_width l).1
  unfold dec1
  rw [if_neg h,begL_dec l sc h]
  cases begB ((decL l).1 : Nat) sc
  ·simp
  ·simp;omega
end Go.Proofs.YthfkfbcopinmiaaGreatDoor
namespace Go.Proofs.YthfkfbcopinmiaaGreatDoor
open Go.RowKit
theorem number_res {W : World} {n : Nat} {a b c d : Value} {tmps : Array Value} (hb : W.heap[n]? = some (.cells #[a,b,c,d] 37)) (ht : tmps[4]?.getD undef = .pointer (some ⟨n,0,none⟩)) :
 (results Tryz.f105 tmps).run Tryz.prog W = .ok (.tuple #[.agg #[a,b,c,d],tmps.getD 5 undef,tmps.getD 6 undef]) W:=by
 obtain ⟨⟨c0,c1,c2,c3⟩,_⟩:=four_of hb
 simp [results,Tryz.results105,go_sem,ht,c0,c1,c2,c3]
def NumO (l : Bs) (k n : Nat) : Prop:=k ≤ l.length ∧ (∀ j,j < k → digC (atL l j) = true) ∧ n = min (decN 0 (l.take k)) 9007199254740992
theorem NumO.go {l : Bs} {k n : Nat} (h : NumO l k n) (hk : k < l.length) (hd : digC (atL l k) = true) : NumO l (k + 1) (min (n * 10 + (atL l k - 48)) 9007199254740992):=by
 obtain ⟨h1,h2,h3⟩:=h
 refine ⟨by omega,fun j hj=>?_,?_⟩
 ·by_cases e : j = k
  ·subst e;exact hd
  ·exact h2 j (by omega)
 ·rw [decN_succ l k hk,h3]
  omega
theorem number_own (b : Nat) (s : ByteArray) (sc : Bool) (w : World) (he : Env w) (hc : w.cell? ⟨b,2,none⟩ = some (.bool sc)) (hs : s.size < 4294967281) (hp0 : 0 < s.size) :
 Calls Tryz.prog 105 #[.pointer (some ⟨b,0,none⟩),.string s] w fun e w'=>tokRes (numbL s.data.toList sc) e ∧ Below w.heap.size w w':=by
 have hsl : Hid (s.size = s.data.toList.length):=Lib.size_eq s
 have hltc:=World.block_lt_of_cell? w _ hc
 go_enter Tryz.func105,Tryz.ntmps105
 go_wp2
 go_loopw [7,8] (fun v7 v8 W=>∃ (k n : Nat),v7 = .int .i64 n ∧ v8 = .int .i64 k ∧ k ≤ s.size ∧ n ≤ 9007199254740992 ∧ W = w.alloc (.cells #[.int .i64 0,.string ByteArray.empty,.int .i64 0,.int .i64 0] 37) ∧ Hid (NumO s.data.toList k n)) (fun _ v8 _=>s.size - (intOf v8).toNat)
 case atStart=>exact ⟨0,0,rfl,rfl,Nat.zero_le _,by omega,rfl,by omega,fun j hj=>by omega,by simp [decN]⟩
 case round =>
  obtain ⟨k,n,rfl,rfl,hk,hn,rfl,hh⟩:=hrel
  by_cases hkd : k < s.size ∧ digC (atL s.data.toList k) = true
  ·obtain ⟨hkl,hd⟩:=hkd
   have hkl2 : (k : Int) < (s.size : Int):=by omega
   have hby:=byteI s k hkl
   have hd1:=fun W=>digit_any (atL s.data.toList k : Nat) W
   have hdd : 48 ≤ atL s.data.toList k ∧ atL s.data.toList k ≤ 57:=by unfold digC at hd;simpa using hd
   have hdb : digitB (atL s.data.toList k : Nat) = true:=by unfold digitB;simp;omega
   rw [hdb] at hd1
   have HR : Hid (NumO s.data.toList (k + 1) (min (n * 10 + (atL s.data.toList k - 48)) 9007199254740992)):=hh.out.go (by rw [← hsl.out];exact hkl) hd
   clear hh hd hdb
   generalize atL s.data.toList k = c at *
   go_wp2_with (go_at_call 104;refine (hd1 _).mono ?_;rintro e W ⟨rfl,rfl⟩)
   all_goals
    go_roundw
    case rel=>exact ⟨k + 1,min (n * 10 + (c - 48)) 9007199254740992,by congr 1;first | omega | (simp;omega),by simp,by omega,by omega,by simp,HR⟩
    case measure=>simp [intOf];omega
  ·have hend : digsL s.data.toList = s.data.toList.take k:=digsL_at hh.out.1 hh.out.2.1 (by
    by_cases hkl : k < s.size
    ·exact .inr (by simpa using fun h=>hkd ⟨hkl,h⟩)
    ·exact .inl (by rw [← hsl.out];omega))
   have hdl : (digsL s.data.toList).length = k:=by
    rw [hend,List.length_take,← hsl.out];omega
   have HV : Hid (n = min (decN 0 (digsL s.data.toList)) 9007199254740992):=by
    show _ = _
    rw [hend];exact hh.out.2.2
   have HL : Hid (numbL s.data.toList sc = if (1 < k ∧ atL s.data.toList 0 = 48) ∨ 0 < begL (s.data.toList.drop k) sc then .error 40 else if 9007199254740991 < decN 0 (digsL s.data.toList) then .error 41 else .ok ((3,[],(decN 0 (digsL s.data.toList) : Int)),k)):=by
    show _ = _
    unfold numbL
    rw [hdl]
   clear hend hdl hh
   have hsr:=drop_run s k hk
   have hxl : (s.extract k s.size).data.toList = s.data.toList.drop k:=drop_extract s k
   have hal:=fun o=>(Below.refl w.heap.size w).alloc (Nat.le_refl _) o
   have hdc:=fun o=>decode_own (s.extract k s.size) _ (env_below he (hal o))
   rw [hxl] at hdc
   have hbg:=begB_dec1 (s.data.toList.drop k) sc
   clear hxl
   generalize s.extract k s.size = X at *
   generalize dec1 (s.data.toList.drop k) = R at *
   have hd1:=fun W=>digit_any (atL s.data.toList k : Nat) W
   have hex : (((k : Int) < (s.size : Int)) ∧ digitB (atL s.data.toList k : Nat) = false ∧ ∀ h : k < s.size,((s[k].toNat : Nat) : Int) = ((atL s.data.toList k : Nat) : Int)) ∨ ¬ (k : Int) < (s.size : Int):=by
    by_cases hkl : k < s.size
    ·refine .inl ⟨by omega,?_,fun h=>byteI s k h⟩
     have h1 : ¬ digC (atL s.data.toList k) = true:=fun h=>hkd ⟨hkl,h⟩
     unfold digC at h1
     unfold digitB
     simp at h1 ⊢
     omega
    ·exact .inr (by omega)
   clear hkd
   have hy0:=byteI s 0 hp0
   have hcell : ∀ W,Below w.heap.size w W → W.cell? ⟨b,2,none⟩ = some (.bool sc):=fun W hb=>(hb.cell (p:=⟨b,2,none⟩) hltc).trans hc
   by_cases hA : 1 < k ∧ atL s.data.toList 0 = 48
   ·have HR : Hid (numbL s.data.toList sc = .error 40):=by
     show _ = _
     rw [HL.out,if_pos (.inl hA)]
    obtain ⟨hk1,h48⟩:=hA
    have hk1' : (1 : Int) < (k : Int):=by omega
    rw [h48] at hy0
    clear HL HV hbg
    rcases hex with ⟨x1,x2,x3⟩ | x1
    ·have x4:=x3 (by omega)
     have x5:=atL_lt s.data.toList k
     rw [x2] at hd1
     clear x2 x3
     generalize atL s.data.toList k = c at *
     go_wp2_with (first
      | (go_at_call 104;refine (hd1 _).mono ?_;rintro e W ⟨rfl,rfl⟩)
      | (go_at_call 101;refine (hdc _).mono ?_;rintro e W1 ⟨m,rfl,hb1⟩;obtain ⟨⟨c0,c1,c2,c3⟩,f0,f1,f2,f3⟩:=four_of (four_new hb1)))
     refine bodyPost_ret (number_res (four_set (four_new hb1)) rfl) rfl ⟨by rw [HR.out];rfl,?_⟩
     exact four_below ((hal _).trans (hb1.mono (by simp))) (Nat.le_refl _)
    ·go_wp2_with (go_at_call 101;refine (hdc _).mono ?_;rintro e W1 ⟨m,rfl,hb1⟩;obtain ⟨⟨c0,c1,c2,c3⟩,f0,f1,f2,f3⟩:=four_of (four_new hb1))
     refine bodyPost_ret (number_res (four_set (four_new hb1)) rfl) rfl ⟨by rw [HR.out];rfl,?_⟩
     exact four_below ((hal _).trans (hb1.mono (by simp))) (Nat.le_refl _)
   ·have hz : ((1 : Int) < (k : Int) ∧ (((s[0].toNat : Nat) : Int) == 48) = false) ∨ ¬ (1 : Int) < (k : Int):=by
     by_cases h1 : (1 : Int) < (k : Int)
     ·exact .inl ⟨h1,int_eqb (by rw [hy0];intro e;exact hA ⟨by omega,by omega⟩)⟩
     ·exact .inr h1
    have HR : Hid (tokRes (numbL s.data.toList sc) = tokRes (if begB (R : Nat) sc then .error 40 else if 9007199254740991 < n then .error 41 else .ok ((3,[],(n : Int)),k))):=by
     show _ = _
     rw [HL.out,hbg]
     have hv:=HV.out
     by_cases h1 : 0 < begL (s.data.toList.drop k) sc
     ·rw [if_pos (.inr h1),decide_eq_true h1];rfl
     ·rw [if_neg (fun h=>h.elim hA h1),decide_eq_false h1]
      by_cases h2 : 9007199254740991 < decN 0 (digsL s.data.toList)
      ·rw [if_pos h2,if_neg (by simp),if_pos (by omega)]
      ·rw [if_neg h2,if_neg (by simp),if_neg (by omega)]
       have : n = decN 0 (digsL s.data.toList):=by omega
       rw [this]
    clear HL HV hbg hy0 hA
    have hbn:=fun W (hb : Below w.heap.size w W)=>begins_own b (R : Nat) sc W (hcell W hb)
    clear hcell
    cases hB : begB (R : Nat) sc
    ·rw [hB] at hbn HR
     clear hB
     by_cases hM : 9007199254740991 < n
     ·have hM2 : (9007199254740991 : Int) < (n : Int):=by omega
      rw [if_neg (by simp),if_pos hM] at HR
      rcases hz with ⟨z1,z2⟩ | z1
      all_goals
       rcases hex with ⟨x1,x2,x3⟩ | x1
       ·have x4:=x3 (by omega)
        have x5:=atL_lt s.data.toList k
        rw [x2] at hd1
        clear x2 x3
        generalize atL s.data.toList k = c at *
        go_wp2_with (first
         | (go_at_call 104;refine (hd1 _).mono ?_;rintro e W ⟨rfl,rfl⟩)
         | (go_at_call 101;refine (hdc _).mono ?_;rintro e W1 ⟨m,rfl,hb1⟩;obtain ⟨⟨c0,c1,c2,c3⟩,f0,f1,f2,f3⟩:=four_of (four_new hb1))
         | (go_at_call 102;refine (hbn _ ((hal _).trans (hb1.mono (by simp)))).mono ?_;rintro e W ⟨rfl,rfl⟩))
        refine bodyPost_ret (number_res (four_set (four_new hb1)) rfl) rfl ⟨by rw [HR.out];rfl,?_⟩
        exact four_below ((hal _).trans (hb1.mono (by simp))) (Nat.le_refl _)
       ·go_wp2_with (first
         | (go_at_call 101;refine (hdc _).mono ?_;rintro e W1 ⟨m,rfl,hb1⟩;obtain ⟨⟨c0,c1,c2,c3⟩,f0,f1,f2,f3⟩:=four_of (four_new hb1))
         | (go_at_call 102;refine (hbn _ ((hal _).trans (hb1.mono (by simp)))).mono ?_;rintro e W ⟨rfl,rfl⟩))
        refine bodyPost_ret (number_res (four_set (four_new hb1)) rfl) rfl ⟨by rw [HR.out];rfl,?_⟩
        exact four_below ((hal _).trans (hb1.mono (by simp))) (Nat.le_refl _)
     ·have hM2 : ¬ (9007199254740991 : Int) < (n : Int):=by omega
      rw [if_neg (by simp),if_neg hM] at HR
      rcases hz with ⟨z1,z2⟩ | z1
      all_goals
       rcases hex with ⟨x1,x2,x3⟩ | x1
       ·have x4:=x3 (by omega)
        have x5:=atL_lt s.data.toList k
        rw [x2] at hd1
        clear x2 x3
        generalize atL s.data.toList k = c at *
        go_wp2_with (first
         | (go_at_call 104;refine (hd1 _).mono ?_;rintro e W ⟨rfl,rfl⟩)
         | (go_at_call 101;refine (hdc _).mono ?_;rintro e W1 ⟨m,rfl,hb1⟩;obtain ⟨⟨c0,c1,c2,c3⟩,f0,f1,f2,f3⟩:=four_of (four_new hb1))
         | (go_at_call 102;refine (hbn _ ((hal _).trans (hb1.mono (by simp)))).mono ?_;rintro e W ⟨rfl,rfl⟩))
        refine bodyPost_ret (number_res (four_set (four_new hb1)) rfl) rfl ⟨by rw [HR.out];rfl,?_⟩
        exact four_below ((hal _).trans (hb1.mono (by simp))) (Nat.le_refl _)
       ·go_wp2_with (first
         | (go_at_call 101;refine (hdc _).mono ?_;rintro e W1 ⟨m,rfl,hb1⟩;obtain ⟨⟨c0,c1,c2,c3⟩,f0,f1,f2,f3⟩:=four_of (four_new hb1))
         | (go_at_call 102;refine (hbn _ ((hal _).trans (hb1.mono (by simp)))).mono ?_;rintro e W ⟨rfl,rfl⟩))
        refine bodyPost_ret (number_res (four_set (four_new hb1)) rfl) rfl ⟨by rw [HR.out];rfl,?_⟩
        exact four_below ((hal _).trans (hb1.mono (by simp))) (Nat.le_refl _)
    ·rw [hB] at hbn HR
     rw [if_pos rfl] at HR
     clear hB
     rcases hz with ⟨z1,z2⟩ | z1
     all_goals
      rcases hex with ⟨x1,x2,x3⟩ | x1
      ·have x4:=x3 (by omega)
       have x5:=atL_lt s.data.toList k
       rw [x2] at hd1
       clear x2 x3
       generalize atL s.data.toList k = c at *
       go_wp2_with (first
        | (go_at_call 104;refine (hd1 _).mono ?_;rintro e W ⟨rfl,rfl⟩)
        | (go_at_call 101;refine (hdc _).mono ?_;rintro e W1 ⟨m,rfl,hb1⟩;obtain ⟨⟨c0,c1,c2,c3⟩,f0,f1,f2,f3⟩:=four_of (four_new hb1))
        | (go_at_call 102;refine (hbn _ ((hal _).trans (hb1.mono (by simp)))).mono ?_;rintro e W ⟨rfl,rfl⟩))
       refine bodyPost_ret (number_res (four_set (four_new hb1)) rfl) rfl ⟨by rw [HR.out];rfl,?_⟩
       exact four_below ((hal _).trans (hb1.mono (by simp))) (Nat.le_refl _)
      ·go_wp2_with (first
        | (go_at_call 101;refine (hdc _).mono ?_;rintro e W1 ⟨m,rfl,hb1⟩;obtain ⟨⟨c0,c1,c2,c3⟩,f0,f1,f2,f3⟩:=four_of (four_new hb1))
        | (go_at_call 102;refine (hbn _ ((hal _).trans (hb1.mono (by simp)))).mono ?_;rintro e W ⟨rfl,rfl⟩))
       refine bodyPost_ret (number_res (four_set (four_new hb1)) rfl) rfl ⟨by rw [HR.out];rfl,?_⟩
       exact four_below ((hal _).trans (hb1.mono (by simp))) (Nat.le_refl _)
end Go.Proofs.YthfkfbcopinmiaaGreatDoor
set_option linter.unusedVariables false
set_option maxRecDepth 100000
set_option maxHeartbeats 4000000
namespace Go.Proofs.YthfkfbcopinmiaaGreatDoor
open Go.RowKit
theorem box_cell (w : World) (v : Value) (t : TypeId) (o : Obj) : ((w.alloc (.cells #[v] t)).alloc o).cell? ⟨w.heap.size,0,none⟩ = some v:=by
 have hb : Below (w.alloc (.cells #[v] t)).heap.size (w.alloc (.cells #[v] t)) ((w.alloc (.cells #[v] t)).alloc o):=(Below.refl _ _).alloc (Nat.le_refl _) _
 rw [hb.cell (p:=⟨w.heap.size,0,none⟩) (by simp),cell_of_row _ _ 0 _ _ _ (heap_alloc_new w _)]
 rfl
theorem name_res {W : World} {n : Nat} {a b c d : Value} {tmps : Array Value} (hb : W.heap[n]? = some (.cells #[a,b,c,d] 37)) (ht : tmps[4]?.getD undef = .pointer (some ⟨n,0,none⟩)) :
 (results Tryz.f103 tmps).run Tryz.prog W = .ok (.tuple #[.agg #[a,b,c,d],tmps.getD 5 undef,tmps.getD 6 undef]) W:=by
 obtain ⟨⟨c0,c1,c2,c3⟩,_⟩:=four_of hb
 simp [results,Tryz.results103,go_sem,ht,c0,c1,c2,c3]
theorem four_new2 {w W1 : World} {o1 o2 : Obj} (hb : Below ((w.alloc o1).alloc o2).heap.size ((w.alloc o1).alloc o2) W1) : W1.heap[w.heap.size + 1]? = some o2:=by
 have h:=four_new hb
 simpa using h
theorem name_own (b : Nat) (s : ByteArray) (sc : Bool) (w : World) (he : Env w) (hc : w.cell? ⟨b,2,none⟩ = some (.bool sc)) (hs : s.size < 4294967281) (h0 : begL s.data.toList sc ≠ 0) :
 Calls Tryz.prog 103 #[.pointer (some ⟨b,0,none⟩),.string s] w fun e w' =>
 e = .returned (.tuple #[tokV ((if wordB (s.data.toList.take (nameL s.data.toList sc)) then 2 else 1),s.data.toList.take (nameL s.data.toList sc),0) 0,.int .i64 (nameL s.data.toList sc : Nat),.int .i64 0]) ∧ Below w.heap.size w w':=by
 have hmf : ∀ (fn : Fn) (first cap : Array Value) (w : World),(Instr.makeFunc fn first cap).run Tryz.prog w = .ok (.func fn first cap) w:=fun _ _ _ _=>rfl
 have hltc:=World.block_lt_of_cell? w _ hc
 have hbx:=box_cell w (.pointer (some ⟨b,0,none⟩)) 101
 have hcc:=fun o1 o2=>(((Below.refl w.heap.size w).alloc (Nat.le_refl _) o1).alloc (o:=o2) (by simp)).cell (p:=⟨b,2,none⟩) hltc |>.trans hc
 have hle:=tailL_le s.data.toList sc
 rw [← Lib.size_eq] at hle
 have hif:=fun o2=>IndexFunc_own b w.heap.size s sc _ (hbx o2) (hcc _ o2)
 rw [nameL_tail _ _ h0]
 clear hbx hcc
 have hword:=fun W (h : Env W)=>isWordL_any (s.extract 0 (tailL s.data.toList sc)) W h
 have hcl:=cut_list s (tailL s.data.toList sc)
 have hxl : (s.extract 0 (tailL s.data.toList sc)).data.toList = s.data.toList.take (tailL s.data.toList sc):=by rw [hcl]
 have hxs : (s.extract 0 (tailL s.data.toList sc)).size ≤ 281474976710656:=by rw [Lib.size_eq,hxl,List.length_take];omega
 have hcn:=fun W=>cloneS_any (s.extract 0 (tailL s.data.toList sc)) W hxs
 rw [hxl] at hword
 have HX : Hid (s.extract 0 (tailL s.data.toList sc) = ⟨(s.data.toList.take (tailL s.data.toList sc)).toArray⟩):=hcl
 clear hcl hxl hxs h0
 have hsl:=Lib.size_eq s
 unfold ixL at hif
 rw [← hsl] at hif
 clear hsl
 generalize tailL s.data.toList sc = k at *
 have hk3 : (k : Int) ≤ (s.size : Int):=by omega
 have hk0 : ¬ (k : Int) < 0:=by omega
 have hx0 : (0 : Int) ≤ (k : Int):=by omega
 by_cases hk : k = s.size
 ·rw [if_pos hk] at hif
  subst hk
  generalize hX : s.extract 0 s.size = X at *
  cases hwd : wordB (s.data.toList.take s.size)
  all_goals
   rw [hwd] at hword
   clear hwd
   go_enter Tryz.func103,Tryz.ntmps103
   go_wp2_with (first
    | (go_at_call 122;refine (hif _).mono ?_;rintro e W1 ⟨rfl,hb1⟩;have hbw : Below w.heap.size w W1:=(((Below.refl _ w).alloc (Nat.le_refl _) _).alloc (by simp) _).trans (hb1.mono (by simp;omega)))
    | (go_at_call 124;refine (hword _ (env_below he hbw)).mono ?_;rintro e W2 ⟨rfl,rfl⟩)
    | (go_at_call 70;refine (hcn _).mono ?_;rintro e W3 ⟨rfl,hb3⟩;obtain ⟨⟨c0,c1,c2,c3⟩,f0,f1,f2,f3⟩:=four_of (heap_at2 hb3 (four_new2 hb1))))
   refine bodyPost_ret (name_res (four_set (heap_at2 hb3 (four_new2 hb1))) rfl) rfl ⟨?_,?_⟩
   ·simp only [tokV,HX.out];rfl
   ·exact four_below (hbw.trans (hb3.mono hbw.size)) (by omega)
 ·rw [if_neg hk] at hif
  generalize hX : s.extract 0 k = X at *
  cases hwd : wordB (s.data.toList.take k)
  all_goals
   rw [hwd] at hword
   clear hwd
   go_enter Tryz.func103,Tryz.ntmps103
   go_wp2_with (first
    | (go_at_call 122;refine (hif _).mono ?_;rintro e W1 ⟨rfl,hb1⟩;have hbw : Below w.heap.size w W1:=(((Below.refl _ w).alloc (Nat.le_refl _) _).alloc (by simp) _).trans (hb1.mono (by simp;omega)))
    | (go_at_call 124;refine (hword _ (env_below he hbw)).mono ?_;rintro e W2 ⟨rfl,rfl⟩)
    | (go_at_call 70;refine (hcn _).mono ?_;rintro e W3 ⟨rfl,hb3⟩;obtain ⟨⟨c0,c1,c2,c3⟩,f0,f1,f2,f3⟩:=four_of (heap_at2 hb3 (four_new2 hb1))))
   refine bodyPost_ret (name_res (four_set (heap_at2 hb3 (four_new2 hb1))) rfl) rfl ⟨?_,?_⟩
   ·simp only [tokV,HX.out];rfl
   ·exact four_below (hbw.trans (hb3.mono hbw.size)) (by omega)
end Go.Proofs.YthfkfbcopinmiaaGreatDoor
