/- Own text. The contract of the document's Unquote: it says what the reader,rune by rune,says. The document's next token. The document's next token: numbers,texts. The document's next token: signs,and all together. -/
import Derived.Test.YthfkfbcopinmiaaGreatDoorGk26
import Derived.Deep.QuietTactic
import Derived.BigQuiet
import Derived.WalkSmall
import Derived.Test.YthfkfbcopinmiaaGreatDoorGk25
import Derived.Deep.RegionHeld3
set_option maxRecDepth 100000
set_option maxHeartbeats 4000000
namespace Go.Proofs.YthfkfbcopinmiaaGreatDoor
open Go.RowKit
def UnqAt2 (w : World) (L : List UInt8) (N : Nat) (q : Nat) (wr : World) (i : Nat) (v : Value) : Prop :=
 ∃ u : Unq,wr.ownsRowF w.heap.size 5 1 v u.said.length (Lib.byteCells u.said)∧Below w.heap.size w wr∧unqS (scan (L.drop i)) u i=unquoteL L∧u.st=1∧u.q=(q : Int)∧1 ≤ i∧i ≤ N∧u.said.length ≤ i
theorem dec_low (l : List UInt8) (h : atL l 0 < 128) : decL l=(atL l 0,1):=by rw [decL,if_pos h]
theorem slice_run (s : ByteArray) (i n : Nat) (h : i+n ≤ s.size) (W : World) : (Instr.slice 9 (.string s) (some (.int .i64 (i : Int))) (some (.int .i64 ((i : Int)+(n : Int)))) none).run Tryz.prog W = .ok (.string (s.extract i (i+n))) W:=by
 rw [run_slice_string W _ _ _ _ _ _ Tryz.underlying9 (by omega) (by omega) (by omega)]
 have e1 : ((i : Int)).toNat=i:=by omega
 have e2 : ((i : Int)+(n : Int)).toNat=i+n:=by omega
 rw [e1,e2]
theorem unq2_mk {w W3 : World} {L : List UInt8} {N q i : Nat} {v' : Value} {u u' : Unq} {tb : ByteArray} (hown : W3.ownsRowF w.heap.size 5 1 v' (u.said.length+tb.size) (Lib.byteCells u.said ++ Lib.strCells tb)) (hb : Below w.heap.size w W3)
 (hun : unqS (scan (L.drop i)) u' i=unquoteL L) (hst : u'.st=1) (huq : u'.q=(q : Int)) (h1 : 1 ≤ i) (hN : i ≤ N) (hsaid : u'.said=u.said ++ tb.data.toList) (hlen : u.said.length+tb.size ≤ i) : UnqAt2 w L N q W3 i v':=by
 have hl : u'.said.length=u.said.length+tb.size:=by rw [hsaid,List.length_append,← Lib.size_eq]
 refine ⟨u',?_,hb,hun,hst,huq,h1,hN,by omega⟩
 rw [hl,hsaid,Lib.byteCells_append,← Lib.strCells_eq]
 exact hown
theorem refUnquote_any (s : ByteArray) (w : World) (hs : s.size ≤ 140737488351232) :
 Calls Tryz.prog 29 #[.string s] w fun e w'=>e=unqRes (unquoteL s.data.toList)∧Below w.heap.size w w':=by
 have hi5 : (Tryz.prog.info? 5).map (fun i=>(i.zero,i.size,i.bytes))=some (some (.int .u8 0),1,1):=by kernel_rfl
 obtain ⟨i0,hi,hx⟩:=Option.map_eq_some_iff.1 hi5
 simp only [Prod.mk.injEq] at hx
 obtain ⟨hz0,hz1,hz2⟩:=hx
 clear hi5
 by_cases hz : 0 < s.size
 ·have hne:=ne_nil_of_size s hz
  have hE : s.toList.isEmpty=false:=by rw [Lib.toList_data];simpa using hne
  have hb0:=byte_at s 0
  have hlt:=atL_lt s.data.toList 0
  by_cases hq : atL s.data.toList 0=34 ∨ atL s.data.toList 0=39
  ·obtain ⟨c,r,hl⟩ : ∃ c r,s.data.toList=c :: r:=by
    cases h : s.data.toList with
    | nil=>exact absurd h hne
    | cons c r=>exact ⟨c,r,rfl⟩
   have hc0 : atL (c :: r) 0=c.toNat:=by simp [atL]
   have hstart : unqS (scan (s.data.toList.drop 1)) { Unq.start with st:=1,q:=(atL s.data.toList 0 : Int) } 1=unquoteL s.data.toList:=by
    rw [hl,hc0] at hq ⊢
    rw [List.drop_succ_cons,List.drop_zero,unquoteL]
    exact (unqS_go c r Unq.start _ 0 (by omega) (by rw [step0 _ _ rfl,stepFirst,if_pos (by omega)]) (by simp)).symm
   clear hl hc0
   obtain ⟨q,hqq⟩ : ∃ q,q=atL s.data.toList 0:=⟨_,rfl⟩
   rw [← hqq] at hb0 hlt hq hstart
   obtain ⟨L,hL⟩ : ∃ L,L=s.data.toList:=⟨_,rfl⟩
   have HBY : Hid (∀ i (h : i < s.size),(s[i]'h).toNat=atL (L.drop i) 0):=by
    intro i h
    rw [byte_at s i h,hL]
    unfold atL
    simp
   have HTL : Hid (∀ i,(s.extract i s.size).data.toList=L.drop i):=by rw [hL];exact cut_tail s
   have HEX : Hid (∀ i j,(s.extract i j).data.toList=(L.take j).drop i):=by
    intro i j
    rw [extract_list,hL]
   have HLN : Hid (L.length=s.size):=by rw [hL];exact (Lib.size_eq s).symm
   rw [← hL] at hstart ⊢
   have HST : Hid (unqS (scan (L.drop 1)) { Unq.start with st:=1,q:=(q : Int) } 1=unquoteL L):=hstart
   have bq : ((q : Int) != 34)=false ∨ (((q : Int) != 34)=true∧((q : Int) != 39)=false):=by
    rcases hq with h | h
    ·left;simp;omega
    ·right;constructor <;> simp <;> omega
   have hq2 : q < 128∧q ≠ 10∧q ≠ 13:=by omega
   clear hL hqq hne hstart hq
   rcases bq with bq | ⟨bq1,bq2⟩
   all_goals
    go_enter Tryz.func29,Tryz.ntmps29
    go_wp2
    go_loopw [5,6] (fun v i wr=>∃ k : Nat,i = .int .i64 (k : Nat)∧UnqAt2 w L s.size q wr k v) (fun _ i _=>s.size - (intOf i).toNat)
    case atStart=>exact ⟨1,rfl,{ Unq.start with st:=1,q:=(q : Int) },World.ownsRowF_nil _ _ _ _,Below.refl _ _,HST.out,rfl,rfl,by omega,by omega,by simp [Unq.start]⟩
    case round =>
     obtain ⟨i,rfl,u,hown,hbw,hun,hst,huq,h1,hN,hsl⟩:=hrel
     have HUN : Hid (unqS (scan (L.drop i)) u i=unquoteL L):=hun
     have hsw:=hbw.size
     obtain ⟨a,c,rfl⟩:=ownsRowF_slice hown
     clear hun
     by_cases hin : i < s.size
     ·have hby:=HBY.out i
      have hlen : (L.drop i).length=s.size - i:=by rw [List.length_drop,HLN.out]
      have hD : L.drop i ≠ []:=by intro e;rw [e] at hlen;simp at hlen;omega
      have hwl:=decL_le _ hD
      have hwd:=(decL_width (L.drop i)).1
      rw [hlen] at hwl
      have hba:=atL_lt (L.drop i) 0
      by_cases hbq : atL (L.drop i) 0=q
      ·have hdl:=dec_low (L.drop i) (by omega)
       have HR : Hid (unquoteL L=some (u.said,i+1)):=by
        rw [← HUN.out,unqS_end _ hD (by rw [strayL,hdl];simp;omega) u (u.to 5) i (by rw [step1 u _ hst,hdl,stepInside,if_neg (by simp only;omega),if_pos (by simp only;rw [huq,hbq])]) rfl]
        trivial
       rw [hbq] at hby
       have hcv:=fun n=>conv_row (w:=wr.drewN n) hown
       have hb2:=fun n=>below_drewN hbw n
       clear hdl hbq hba hwl hwd hD hlen huq
       go_wp2
       go_quiet (fail)
       go_wp2
       go_ret3
       exact ⟨by rw [HR.out];rfl,hb2 _⟩
      ·have hex:=Lib.size_eq (s.extract i s.size)
       rw [HTL.out i,hlen] at hex
       have hhd:=fun w1=>head_any2 (s.extract i s.size) w1 (by omega) (by unfold maxLen;omega)
       rw [HTL.out i] at hhd
       have hescL : (L.drop i).drop 1=L.drop (i+1):=by rw [List.drop_drop]
       have hex2:=Lib.size_eq (s.extract (i+1) s.size)
       rw [HTL.out (i+1),List.length_drop,HLN.out] at hex2
       have hes:=fun w1=>escape_any (s.extract (i+1) s.size) w1 (by omega)
       rw [HTL.out (i+1)] at hes
       have hrd:=esc_read u (L.drop (i+1)) (i+1)
       have helen:=escL_len (L.drop (i+1))
       rw [List.length_drop,HLN.out] at helen
       have htk : (s.extract i (i+(decL (L.drop i)).2)).data.toList=(L.drop i).take (decL (L.drop i)).2:=by
        rw [HEX.out,List.drop_take]
        congr 1
        omega
       have htz:=Lib.size_eq (s.extract i (i+(decL (L.drop i)).2))
       rw [htk,List.length_take,hlen] at htz
       have hrq : (decL (L.drop i)).1 ≠ q:=by
        intro e
        by_cases hlo : atL (L.drop i) 0 < 128
        ·rw [dec_low _ hlo] at e;exact hbq e
        ·have:=decL_high _ hlo;omega
       have bneq : ((atL (L.drop i) 0 : Int) == (q : Int))=false:=by simp;omega
       have hslr:=slice_run s i (decL (L.drop i)).2 (by omega)
       have hownN : ∀ n,(wr.drewN n).ownsRowF w.heap.size 5 1 (.slice a u.said.length c) u.said.length (Lib.byteCells u.said):=fun n=>hown
       have hbwN:=fun n=>below_drewN hbw n
       have hzN : ∀ n,(wr.drewN n).heap.size=wr.heap.size:=fun n=>rfl
       by_cases hs1 : strayL (L.drop i)=true
       ·have HR : Hid (unquoteL L=none):=by rw [← HUN.out,unqS_stray _ hD hs1];trivial
        have hv : headV (L.drop i) = -1:=by rw [headV,if_pos hs1]
        rw [hv] at hhd
        clear hv hs1 hrd helen hes htk htz hrq hbq hescL
        generalize atL (L.drop i) 0=b at *
        generalize (decL (L.drop i)).2=n at *
        go_wp2
        go_quiet (fail)
        go_wp2_with (go_at_call 63;refine (hhd _).mono ?_;rintro e w' ⟨rfl,rfl⟩)
        go_ret3
        exact ⟨by rw [HR.out];rfl,hbwN _⟩
       have hs2 : strayL (L.drop i)=false:=by simpa using hs1
       have hv : headV (L.drop i)=((decL (L.drop i)).1 : Int):=by rw [headV,if_neg hs1]
       rw [hv] at hhd
       clear hv hs1
       by_cases h10 : (decL (L.drop i)).1=10 ∨ (decL (L.drop i)).1=13
       ·have HR : Hid (unquoteL L=none):=by
         rw [← HUN.out,unqS_none _ hD hs2 u i (by rw [step1 u _ hst,stepInside,if_pos (by omega)])];trivial
        clear hrd helen hes htk htz hrq hbq hescL hs2
        generalize atL (L.drop i) 0=b at *
        generalize (decL (L.drop i)).2=n at *
        generalize (decL (L.drop i)).1=r at *
        rcases h10 with rfl | rfl
        all_goals
         go_wp2
         go_quiet (fail)
         go_wp2_with (go_at_call 63;refine (hhd _).mono ?_;rintro e w' ⟨rfl,rfl⟩)
         go_ret3
         exact ⟨by rw [HR.out];rfl,hbwN _⟩
       by_cases h92 : (decL (L.drop i)).1=92
       ·have hn1 : (decL (L.drop i)).2=1:=by
         by_cases hlo : atL (L.drop i) 0 < 128
         ·rw [dec_low _ hlo]
         ·have:=decL_high _ hlo;omega
        have HU2 : Hid (unqS (scan (L.drop (i+1))) (u.to 2) (i+1)=unquoteL L):=by
         rw [← HUN.out,unqS_more _ hD hs2 u (u.to 2) i (by rw [step1 u _ hst,stepInside,if_neg (by omega),if_neg (by rw [huq];omega),if_pos (by omega)]) (by simp [Unq.to]),hn1,hescL]
         trivial
        rw [hn1,h92] at hhd
        rw [hn1] at hslr
        have hslr1 : ∀ W : World,(Instr.slice 9 (.string s) (some (.int .i64 (i : Int))) (some (.int .i64 ((i : Int)+1))) none).run Tryz.prog W = .ok (.string (s.extract i (i+1))) W:=hslr
        clear hslr
        have hwl1 : 1 ≤ s.size - i:=by omega
        clear htk htz hrq hbq hescL hs2 h10 hwl hwd
        generalize atL (L.drop i) 0=b at *
        cases hel : escL (L.drop (i+1)) with
        | none =>
         have HR : Hid (unquoteL L=none):=by rw [← HU2.out,hrd.1 hel];trivial
         rw [hel] at hes
         simp only [numRes] at hes
         clear hel hrd helen h92 hn1
         go_wp2
         go_quiet (fail)
         go_wp2_with (first | (go_at_call 63;refine (hhd _).mono ?_;rintro e w' ⟨rfl,rfl⟩) | (go_at_call 64;refine (hes _).mono ?_))
         rintro e W2 ⟨rfl,b2⟩
         have hb3:=(hbwN _).trans (b2.mono (by simp;omega))
         go_wp2
         go_ret3
         exact ⟨by rw [HR.out];rfl,hb3⟩
        | some x =>
         obtain ⟨t,k⟩:=x
         obtain ⟨l1,l2,l3,l4⟩:=helen t k hel
         obtain ⟨u',a1,a2,a3,a4⟩:=hrd.2 t k hel
         rw [hel] at hes
         simp only [numRes] at hes
         obtain ⟨tb,htb⟩ : ∃ tb : ByteArray,tb=⟨t.toArray⟩:=⟨_,rfl⟩
         rw [← htb] at hes
         have htd : tb.data.toList=t:=by rw [htb]
         have hts : tb.size=t.length:=by rw [Lib.size_eq,htd]
         have HU3 : Hid (unqS (scan (L.drop (i+(k+1)))) u' (i+(k+1))=unquoteL L):=by
          rw [← HU2.out,a4,List.drop_drop]
          have e : i+(k+1)=i+1+k:=by omega
          rw [e]
          trivial
         have HSD : Hid (u'.said=u.said ++ tb.data.toList):=by rw [htd];exact a3
         have hts2 : tb.size ≤ k:=by omega
         have huq' : u'.q=(q : Int):=a2.trans huq
         have HUS : Hid (u'.st=1):=a1
         have HUQ : Hid (u'.q=(q : Int)):=huq'
         clear hel hrd helen h92 hn1 a1 a2 a3 a4 htb htd hts l1 huq' huq hst
         go_wp2
         go_quiet (fail)
         go_wp2_with (first | (go_at_call 63;refine (hhd _).mono ?_;rintro e w' ⟨rfl,rfl⟩) | (go_at_call 64;refine (hes _).mono ?_))
         rintro e W2 ⟨rfl,b2⟩
         have hzb:=b2.size
         have hb3:=(hbwN _).trans (b2.mono (by simp;omega))
         have hown2:=(hownN _).kept (grown_of_below b2 none) (by simp [Value.ownBlock];cases a <;> simp)
         have hz3 : w.heap.size ≤ W2.heap.size:=by simp at hzb;omega
         go_wp2_with (at_builtin;refine Lib.wpList_append_own_stringF _ rfl _ _ 96 9 rfl w.heap.size 5 i0 Tryz.underlying96 Tryz.underlying9 hi hz0 hz1 hz2 _ _ _ rfl hown2 tb rfl (by unfold maxLen;omega) (by omega) hz3 ?_)
         intro v' W3 hown3 hg3 _
         have hb4:=hb3.grown hg3 hz3 (fun k hk=>(hown2.lt k hk).1)
         have hqa : UnqAt2 w L s.size q W3 (i+(k+1)) v':=unq2_mk hown3 hb4 HU3.out HUS.out HUQ.out (by omega) (by omega) HSD.out (by omega)
         clear hown3 hg3 hb4
         go_wp2
         go_roundw
         case rel=>exact ⟨i+(k+1),by go_num,hqa⟩
         case measure=>simp [intOf];omega
       ·have HU2 : Hid (unqS (scan (L.drop (i+(decL (L.drop i)).2))) (u.say (decL (L.drop i)).1) (i+(decL (L.drop i)).2)=unquoteL L):=by
         rw [← HUN.out,unqS_more _ hD hs2 u (u.say (decL (L.drop i)).1) i (by rw [step1 u _ hst,stepInside,if_neg (by omega),if_neg (by rw [huq];omega),if_neg (by omega)]) (by simp [Unq.say]),List.drop_drop]
         trivial
        have hen:=enc_dec _ hD hs2
        rw [← htk] at hen
        obtain ⟨tb,htb⟩ : ∃ tb,tb=s.extract i (i+(decL (L.drop i)).2):=⟨_,rfl⟩
        rw [← htb] at hen hslr htz
        have HSD : Hid ((u.say ((decL (L.drop i)).1 : Int)).said=u.said ++ tb.data.toList):=by rw [← hen];trivial
        have HUS : Hid ((u.say ((decL (L.drop i)).1 : Int)).st=1):=rfl
        have HUQ : Hid ((u.say ((decL (L.drop i)).1 : Int)).q=(q : Int)):=huq
        clear hrd helen hes htk hrq hbq hescL hs2 hen huq hst htb
        generalize u.say ((decL (L.drop i)).1 : Int)=u' at *
        generalize atL (L.drop i) 0=b at *
        generalize (decL (L.drop i)).2=n at *
        generalize (decL (L.drop i)).1=r at *
        have htz3 : tb.size ≤ n:=by omega
        clear htz
        have b10 : ((r : Int) == 10)=false:=by simp;omega
        have b13 : ((r : Int) == 13)=false:=by simp;omega
        have b92 : ((r : Int) == 92)=false:=by simp;omega
        clear h10 h92
        go_wp2
        go_quiet (fail)
        go_wp2_with (first | (go_at_call 63;refine (hhd _).mono ?_;rintro e w' ⟨rfl,rfl⟩) | (at_builtin;refine Lib.wpList_append_own_stringF _ rfl _ _ 96 9 rfl w.heap.size 5 i0 Tryz.underlying96 Tryz.underlying9 hi hz0 hz1 hz2 _ _ _ rfl (hownN _) tb rfl (by unfold maxLen;omega) (by omega) (by simp;omega) ?_))
        intro v' W3 hown3 hg3 _
        have hb4:=(hbwN _).grown hg3 (by simp;omega) (fun k hk=>(hown.lt k hk).1)
        have hqa : UnqAt2 w L s.size q W3 (i+n) v':=unq2_mk hown3 hb4 HU2.out HUS.out HUQ.out (by omega) (by omega) HSD.out (by omega)
        clear hown3 hg3 hb4
        go_wp2
        go_roundw
        case rel=>exact ⟨i+n,by go_num,hqa⟩
        case measure=>simp [intOf];omega
     ·have HR : Hid (unquoteL L=none):=by
       rw [← HUN.out,List.drop_of_length_le (by rw [HLN.out];omega)]
       trivial
      go_wp2
      go_ret3
      exact ⟨by rw [HR.out];rfl,hbw⟩
  ·have HR : Hid (unquoteL s.data.toList=none):=by
    cases hl : s.data.toList with
    | nil=>rfl
    | cons c r =>
     have hc : atL (c :: r) 0=c.toNat:=by simp [atL]
     rw [hl,hc] at hq
     refine unqS_stop c r Unq.start 0 ?_
     intro x hx
     rw [step0 _ _ rfl,stepFirst,if_neg (by omega)]
   generalize atL s.data.toList 0=b at *
   have b1 : ((b : Int) != 34)=true:=by simp;omega
   have b2 : ((b : Int) != 39)=true:=by simp;omega
   rw [HR.out]
   clear hq
   go_enter Tryz.func29,Tryz.ntmps29
   go_wp2_with fail
   go_ret3
   exact ⟨rfl,Below.refl _ _⟩
 ·have hl : s.data.toList=[]:=List.eq_nil_of_length_eq_zero (by rw [← Lib.size_eq];omega)
  have hE : s.toList.isEmpty=true:=by rw [Lib.toList_data,hl];rfl
  rw [hl]
  clear hl
  go_enter Tryz.func29,Tryz.ntmps29
  go_wp2_with fail
  go_ret3
  exact ⟨rfl,Below.refl _ _⟩
end Go.Proofs.YthfkfbcopinmiaaGreatDoor
set_option linter.unusedVariables false
set_option maxRecDepth 100000
set_option maxHeartbeats 4000000
namespace Go.Proofs.YthfkfbcopinmiaaGreatDoor
open Go.RowKit
def tokV (t : Tk) (a : Int) : Value:=.agg #[.int .i64 t.1,.string ⟨t.2.1.toArray⟩,.int .i64 t.2.2,.int .i64 a]
theorem four_of {W1 : World} {n : Nat} {a b c d : Value} {t : TypeId} (hb : W1.heap[n]?=some (.cells #[a,b,c,d] t)) :
 (W1.cell? ⟨n,0,none⟩=some a∧W1.cell? ⟨n,1,none⟩=some b∧W1.cell? ⟨n,2,none⟩=some c∧W1.cell? ⟨n,3,none⟩=some d) ∧
 (W1.frozen? ⟨n,0,none⟩=false∧W1.frozen? ⟨n,1,none⟩=false∧W1.frozen? ⟨n,2,none⟩=false∧W1.frozen? ⟨n,3,none⟩=false):=by
 refine ⟨⟨?_,?_,?_,?_⟩,?_,?_,?_,?_⟩
 ·rw [cell_of_row W1 _ 0 _ _ _ hb];rfl
 ·rw [cell_of_row W1 _ 1 _ _ _ hb];rfl
 ·rw [cell_of_row W1 _ 2 _ _ _ hb];rfl
 ·rw [cell_of_row W1 _ 3 _ _ _ hb];rfl
 ·exact frozen_of_row W1 _ 0 _ _ hb
 ·exact frozen_of_row W1 _ 1 _ _ hb
 ·exact frozen_of_row W1 _ 2 _ _ hb
 ·exact frozen_of_row W1 _ 3 _ _ hb
theorem four_set {W : World} {n : Nat} {a b c d x y z u : Value} {t : TypeId} (hb : W.heap[n]?=some (.cells #[a,b,c,d] t)) :
 ((((W.setCell ⟨n,0,none⟩ x).setCell ⟨n,1,none⟩ y).setCell ⟨n,2,none⟩ z).setCell ⟨n,3,none⟩ u).heap[n]?=some (.cells #[x,y,z,u] t):=by
 have h1:=heap_setCell_same W n 0 _ t x hb
 have h2:=heap_setCell_same _ n 1 _ t y h1
 have h3:=heap_setCell_same _ n 2 _ t z h2
 have h4:=heap_setCell_same _ n 3 _ t u h3
 exact h4
theorem four_below {B : Nat} {w W : World} {n : Nat} {x y z u : Value} (hb : Below B w W) (hn : B ≤ n) : Below B w ((((W.setCell ⟨n,0,none⟩ x).setCell ⟨n,1,none⟩ y).setCell ⟨n,2,none⟩ z).setCell ⟨n,3,none⟩ u) :=
 (((hb.setCell hn _).setCell hn _).setCell hn _).setCell hn _
theorem next_res {W : World} {n : Nat} {a b c d : Value} {tmps : Array Value} (hb : W.heap[n]?=some (.cells #[a,b,c,d] 37)) (ht : tmps[4]?.getD undef = .pointer (some ⟨n,0,none⟩)) :
 (results Tryz.f13 tmps).run Tryz.prog W = .ok (.tuple #[.agg #[a,b,c,d],tmps.getD 5 undef,tmps.getD 6 undef]) W:=by
 obtain ⟨⟨c0,c1,c2,c3⟩,_⟩:=four_of hb
 simp [results,Tryz.results13,go_sem,ht,c0,c1,c2,c3]
theorem four_new {w W1 : World} {o : Obj} (hb : Below (w.alloc o).heap.size (w.alloc o) W1) : W1.heap[w.heap.size]?=some o:=by
 rw [hb.block _ (by simp)]
 exact heap_alloc_new w o
theorem cut_list (s : ByteArray) (k : Nat) : s.extract 0 k=⟨(s.data.toList.take k).toArray⟩:=by
 apply ByteArray.ext
 apply Array.toList_inj.1
 rw [ByteArray.data_extract,Array.toList_extract,List.extract_eq_take_drop]
 simp
theorem next_name (s : ByteArray) (sc : Bool) (w : World) (hs : s.size ≤ 140737488351232) (hn : 0 < nameL s.data.toList sc) : Calls Tryz.prog 13 #[.string s,.bool sc] w fun e w' =>
 e = .returned (.tuple #[tokV ((if wordB (s.data.toList.take (nameL s.data.toList sc)) then 2 else 1),s.data.toList.take (nameL s.data.toList sc),0) 0,.int .i64 (nameL s.data.toList sc : Nat),.int .i64 0])∧Below w.heap.size w w':=by
 have hname:=fun W=>name_any s sc W (by omega)
 have hle:=nameL_le s.data.toList sc
 rw [← Lib.size_eq] at hle
 have hcl:=cut_list s (nameL s.data.toList sc)
 generalize nameL s.data.toList sc=k at *
 have hk2 : (0 : Int) < (k : Int):=by omega
 have hk3 : (k : Int) ≤ (s.size : Int):=by omega
 have hword:=fun W=>word_any (s.extract 0 k) W
 have hxl : (s.extract 0 k).data.toList=s.data.toList.take k:=by rw [hcl]
 rw [hxl] at hword
 have HX : Hid (s.extract 0 k=⟨(s.data.toList.take k).toArray⟩):=hcl
 clear hcl
 cases hwd : wordB (s.data.toList.take k)
 ·rw [hwd] at hword
  go_enter Tryz.func13,Tryz.ntmps13
  go_wp2_with (first
   | (go_at_call 25;refine (hname _).mono ?_;rintro e W ⟨rfl,rfl⟩)
   | (go_at_call 26;refine (hword _).mono ?_;rintro e W1 ⟨rfl,hb1⟩;obtain ⟨⟨c0,c1,c2,c3⟩,f0,f1,f2,f3⟩:=four_of (four_new hb1)))
  refine bodyPost_ret (next_res (four_set (four_new hb1)) rfl) rfl ⟨?_,?_⟩
  ·simp only [tokV,HX.out];rfl
  ·exact four_below (((Below.refl _ w).alloc (Nat.le_refl _) _).trans (hb1.mono (by simp))) (Nat.le_refl _)
 ·rw [hwd] at hword
  go_enter Tryz.func13,Tryz.ntmps13
  go_wp2_with (first
   | (go_at_call 25;refine (hname _).mono ?_;rintro e W ⟨rfl,rfl⟩)
   | (go_at_call 26;refine (hword _).mono ?_;rintro e W1 ⟨rfl,hb1⟩;obtain ⟨⟨c0,c1,c2,c3⟩,f0,f1,f2,f3⟩:=four_of (four_new hb1)))
  refine bodyPost_ret (next_res (four_set (four_new hb1)) rfl) rfl ⟨?_,?_⟩
  ·simp only [tokV,HX.out];rfl
  ·exact four_below (((Below.refl _ w).alloc (Nat.le_refl _) _).trans (hb1.mono (by simp))) (Nat.le_refl _)
end Go.Proofs.YthfkfbcopinmiaaGreatDoor
namespace Go.Proofs.YthfkfbcopinmiaaGreatDoor
open Go.RowKit
def nextRes (n : Nx) (e : Ending) : Prop:=match n with
 | .ok x=>e = .returned (.tuple #[tokV x.1 0,.int .i64 (x.2 : Nat),.int .i64 0])
 | .error c=>∃ t : Tk,e = .returned (.tuple #[tokV t 0,.int .i64 0,.int .i64 (c : Nat)])
theorem next_num (s : ByteArray) (sc : Bool) (w : World) (hs : s.size ≤ 140737488351232) (hp : 0 < s.size) (hn : nameL s.data.toList sc=0) (hd : digC (atL s.data.toList 0)=true) : Calls Tryz.prog 13 #[.string s,.bool sc] w fun e w' =>
 nextRes (numbL s.data.toList sc) e∧Below w.heap.size w w':=by
 have hname:=fun W=>name_any s sc W (by omega)
 rw [hn] at hname
 have hnum:=fun W=>number_any4 s sc W (by omega)
 have hd1:=fun W=>rdigit_any (atL s.data.toList 0) W
 rw [hd] at hd1
 have hby:=byteI s 0 hp
 clear hn hd
 generalize atL s.data.toList 0=c at *
 cases hx : numbL s.data.toList sc with
 | error e0 =>
  rw [hx] at hnum
  simp only [numbRes] at hnum
  clear hx
  go_enter Tryz.func13,Tryz.ntmps13
  go_wp2_with (first
   | (go_at_call 25;refine (hname _).mono ?_;rintro e W ⟨rfl,rfl⟩)
   | (go_at_call 27;refine (hd1 _).mono ?_;rintro e W ⟨rfl,rfl⟩)
   | (go_at_call 28;refine (hnum _).mono ?_;rintro e W ⟨rfl,rfl⟩))
  exact bodyPost_ret (next_res (heap_alloc_new _ _) rfl) rfl ⟨⟨(3,[],0),rfl⟩,(Below.refl _ w).alloc (Nat.le_refl _) _⟩
 | ok x =>
  rw [hx] at hnum
  simp only [numbRes] at hnum
  have HX : Hid (x.1=(3,[],x.1.2.2)):=by
   unfold numbL at hx
   split at hx
   ·cases hx
   ·split at hx
    ·cases hx
    ·cases hx;rfl
  clear hx
  go_enter Tryz.func13,Tryz.ntmps13
  go_wp2_with (first
   | (go_at_call 25;refine (hname _).mono ?_;rintro e W ⟨rfl,rfl⟩)
   | (go_at_call 27;refine (hd1 _).mono ?_;rintro e W ⟨rfl,rfl⟩)
   | (go_at_call 28;refine (hnum _).mono ?_;rintro e W ⟨rfl,rfl⟩))
  refine bodyPost_ret (next_res (heap_alloc_new _ _) rfl) rfl ⟨?_,(Below.refl _ w).alloc (Nat.le_refl _) _⟩
  show _=_
  rw [HX.out]
  rfl
theorem next_text (s : ByteArray) (sc : Bool) (w : World) (hs : s.size ≤ 140737488351232) (hp : 0 < s.size) (hn : nameL s.data.toList sc=0) (hd : digC (atL s.data.toList 0)=false) (hq : atL s.data.toList 0=34 ∨ atL s.data.toList 0=39) : Calls Tryz.prog 13 #[.string s,.bool sc] w fun e w' =>
 nextRes (unqNx s.data.toList) e∧Below w.heap.size w w':=by
 have hname:=fun W=>name_any s sc W (by omega)
 rw [hn] at hname
 have hunq:=fun W=>refUnquote_any s W hs
 have hd1:=fun W=>rdigit_any (atL s.data.toList 0) W
 rw [hd] at hd1
 have hby:=byteI s 0 hp
 clear hn hd
 cases hx : unquoteL s.data.toList with
 | none =>
  have HN : Hid (unqNx s.data.toList = .error 40):=by show _=_;unfold unqNx;rw [hx]
  rw [hx] at hunq
  simp only [unqRes] at hunq
  clear hx
  rcases hq with hq | hq
  all_goals
   rw [hq] at hby hd1
   clear hq
   go_enter Tryz.func13,Tryz.ntmps13
   go_wp2_with (first
    | (go_at_call 25;refine (hname _).mono ?_;rintro e W ⟨rfl,rfl⟩)
    | (go_at_call 27;refine (hd1 _).mono ?_;rintro e W ⟨rfl,rfl⟩)
    | (go_at_call 29;refine (hunq _).mono ?_;rintro e W1 ⟨rfl,hb1⟩;obtain ⟨⟨c0,c1,c2,c3⟩,f0,f1,f2,f3⟩:=four_of (four_new hb1)))
   refine bodyPost_ret (next_res (four_set (four_new hb1)) rfl) rfl ⟨by rw [HN.out];exact ⟨(0,[],0),rfl⟩,?_⟩
   exact four_below (((Below.refl _ w).alloc (Nat.le_refl _) _).trans (hb1.mono (by simp))) (Nat.le_refl _)
 | some x =>
  have HN : Hid (unqNx s.data.toList = .ok ((4,x.1,0),x.2)):=by show _=_;unfold unqNx;rw [hx]
  rw [hx] at hunq
  simp only [unqRes] at hunq
  clear hx
  rcases hq with hq | hq
  all_goals
   rw [hq] at hby hd1
   clear hq
   go_enter Tryz.func13,Tryz.ntmps13
   go_wp2_with (first
    | (go_at_call 25;refine (hname _).mono ?_;rintro e W ⟨rfl,rfl⟩)
    | (go_at_call 27;refine (hd1 _).mono ?_;rintro e W ⟨rfl,rfl⟩)
    | (go_at_call 29;refine (hunq _).mono ?_;rintro e W1 ⟨rfl,hb1⟩;obtain ⟨⟨c0,c1,c2,c3⟩,f0,f1,f2,f3⟩:=four_of (four_new hb1)))
   refine bodyPost_ret (next_res (four_set (four_new hb1)) rfl) rfl ⟨by rw [HN.out];rfl,?_⟩
   exact four_below (((Below.refl _ w).alloc (Nat.le_refl _) _).trans (hb1.mono (by simp))) (Nat.le_refl _)
theorem sign_at {l : Bs} {g : Bs} : g.isPrefixOf l=(decide (g.length ≤ l.length) && (l.take g.length == g)):=by
 rw [Bool.eq_iff_iff,List.isPrefixOf_iff_prefix]
 simp only [Bool.and_eq_true,decide_eq_true_eq,beq_iff_eq]
 constructor
 ·rintro ⟨t,ht⟩
  rw [← ht]
  simp
 ·rintro ⟨h1,h2⟩
  exact ⟨l.drop g.length,by conv=>lhs;lhs;rw [← h2]
                            exact List.take_append_drop _ _⟩
theorem find_step {α : Type} {p : α→Bool} {l : List α} {k : Nat} {x : α} (hk : l[k]?=some x) (h : ∀ y ∈ l.take k,p y=false) (hx : p x=true) : l.find? p=some x:=by
 induction l generalizing k with
 | nil=>simp at hk
 | cons y r ih =>
  cases k with
  | zero =>
   have : y=x:=by simpa using hk
   subst this
   simp [hx]
  | succ k =>
   have h0:=h y (by simp)
   simp only [List.find?_cons,h0]
   exact ih (by simpa using hk) (fun z hz=>h z (by simp [hz]))
theorem find_none {α : Type} {p : α→Bool} {l : List α} (h : ∀ y ∈ l,p y=false) : l.find? p=none:=by
 rw [List.find?_eq_none]
 intro y hy
 simp [h y hy]
end Go.Proofs.YthfkfbcopinmiaaGreatDoor
set_option linter.unusedVariables false
set_option maxRecDepth 100000
set_option maxHeartbeats 2000000
namespace Go.Proofs.YthfkfbcopinmiaaGreatDoor
open Go.RowKit
theorem same_row {w w' : World} {base : Nat} {e : TypeId} {size : Nat} {v : Value} {n : Nat} {xs : List Value} (h : w.ownsRow base e size v n xs) (hh : w'.heap=w.heap) : w'.ownsRow base e size v n xs:=by
 unfold World.ownsRow at *
 rw [hh]
 exact h
theorem row_eq {W : World} {n m : Nat} {e : TypeId} {k c : Nat} {xs : List Value} (ho : W.ownsRow n e 1 (.slice (some ⟨n,0,none⟩) k c) k xs) (h : n=m) : W.ownsRow m e 1 (.slice (some ⟨m,0,none⟩) k c) k xs:=h ▸ ho
theorem heap_at {W W' : World} {n : Nat} {o : Obj} (h : W'.heap=W.heap) (hb : W.heap[n]?=some o) : W'.heap[n]?=some o:=by rw [h];exact hb
theorem drewN_below4 (w : World) (n : Nat) : Below w.heap.size w (w.drewN n):=⟨rfl,rfl,rfl,Nat.le_refl _,fun _ _=>rfl⟩
theorem next_sign (s : ByteArray) (sc : Bool) (w : World) (hs : s.size ≤ 140737488351232) (hp : 0 < s.size) (hn : nameL s.data.toList sc=0) (hd : digC (atL s.data.toList 0)=false) (hq : ¬ (atL s.data.toList 0=34 ∨ atL s.data.toList 0=39)) : Calls Tryz.prog 13 #[.string s,.bool sc] w fun e w' =>
 nextRes (signNx s.data.toList) e∧Below w.heap.size w w':=by
 have hname:=fun W=>name_any s sc W (by omega)
 rw [hn] at hname
 have hd1:=fun W=>rdigit_any (atL s.data.toList 0) W
 rw [hd] at hd1
 have hby:=byteI s 0 hp
 have b34 : (((s[0].toNat : Nat) : Int) == 34)=false:=int_eqb (by rw [hby];omega)
 have b39 : (((s[0].toNat : Nat) : Int) == 39)=false:=int_eqb (by rw [hby];omega)
 have hl28 : signsL.length=28:=rfl
 clear hn hd hq
 have hby2 : ((s[0].toNat : Nat) : Int)=((atL s.data.toList 0 : Nat) : Int):=hby
 rw [← hby] at hd1
 clear hby hby2
 go_enter Tryz.func13,Tryz.ntmps13
 go_wp2_with (first
  | (go_at_call 25;refine (hname _).mono ?_;rintro e W ⟨rfl,rfl⟩)
  | (go_at_call 27;refine (hd1 _).mono ?_;rintro e W ⟨rfl,rfl⟩)
  | (go_at_call 30;refine (signs_any _).mono ?_;rintro e W1 ⟨rfl,ho,hb1⟩))
 have hblk:=four_new hb1
 have hbw : Below w.heap.size w W1:=((Below.refl _ w).alloc (Nat.le_refl _) _).trans (hb1.mono (by simp))
 have ho:=row_eq (m:=w.heap.size+1) ho (by simp)
 go_loopw [15] (fun v15 W=>∃ k : Nat,v15 = .int .i64 k∧k ≤ 28∧Hid (W.heap=W1.heap)∧Below w.heap.size w W∧Hid (∀ g ∈ signsL.take k,g.isPrefixOf s.data.toList=false)) (fun v15 _=>28 - (intOf v15).toNat)
 case atStart=>exact ⟨0,rfl,by omega,rfl,hbw,by intro g hg;simp at hg⟩
 case round =>
  obtain ⟨k,rfl,hk,hh,hb,hl⟩:=hrel
  by_cases hkl : k < 28
  ·have hk2 : (k : Int) < 28:=by omega
   obtain ⟨g,hg⟩ : ∃ g,signsL[k]?=some g:=⟨_,List.getElem?_eq_getElem (by rw [hl28];exact hkl)⟩
   have hc:=text_at (same_row ho hh.out) hg hkl
   have hpx:=sign_at (l:=s.data.toList) (g:=g)
   rw [← Lib.size_eq] at hpx
   obtain ⟨G,hG⟩ : ∃ G : ByteArray,G=⟨g.toArray⟩:=⟨_,rfl⟩
   have hGl : G.data.toList=g:=by rw [hG]
   have hGs : G.size=g.length:=by rw [Lib.size_eq,hGl]
   rw [← hG] at hc
   have hcut:=cut_list s G.size
   have heq : ((s.extract 0 G.size).toList == G.toList)=(s.data.toList.take g.length == g):=by
    rw [Lib.toList_data,Lib.toList_data,hcut,hGl,hGs]
   have HG : Hid (signsL[k]?=some g∧G=⟨g.toArray⟩∧G.size=g.length):=⟨hg,hG,hGs⟩
   rw [← hGs] at hpx
   rw [hGs] at hpx
   clear hg hGl hcut
   cases hpre : g.isPrefixOf s.data.toList
   ·have hl2 : Hid (∀ x ∈ signsL.take (k+1),x.isPrefixOf s.data.toList=false):=by
     intro x hx
     rw [List.take_add_one,HG.out.1] at hx
     rcases List.mem_append.1 hx with hx | hx
     ·exact hl.out x hx
     ·rw [show x=g from by simpa using hx];exact hpre
    rw [hpre] at hpx
    by_cases hle : g.length ≤ s.size
    ·have e1 : ((s.extract 0 G.size).toList == G.toList)=false:=by
      rw [heq]
      rw [decide_eq_true hle,Bool.true_and] at hpx
      exact hpx.symm
     have d1 : decide ((G.size : Int) ≤ (s.size : Int))=true:=decide_eq_true (by omega)
     have d2 : (G.size : Int) ≤ (s.size : Int):=by omega
     clear hpx heq hG hGs hl hpre
     go_wp2
     go_quiet (fail)
     go_wp2
     go_roundw
     case rel=>exact ⟨k+1,by simp,by omega,hh,hb.trans ((drewN_below4 _ _).mono hb.size),hl2⟩
     case measure=>simp [intOf];omega
    ·have d1 : decide ((G.size : Int) ≤ (s.size : Int))=false:=decide_eq_false (by omega)
     have d3 : decide (G.size ≤ s.size)=false:=decide_eq_false (by omega)
     clear hle
     clear hpx heq hG hGs hl hpre
     go_wp2
     go_quiet (fail)
     go_wp2
     go_roundw
     case rel=>exact ⟨k+1,by simp,by omega,hh,hb.trans ((drewN_below4 _ _).mono hb.size),hl2⟩
     case measure=>simp [intOf];omega
   ·have HF : Hid (signNx s.data.toList = .ok ((5,g,0),g.length)):=by
     show _=_
     unfold signNx
     rw [find_step HG.out.1 hl.out hpre]
    rw [hpre] at hpx
    have hle : g.length ≤ s.size:=by
     by_cases h : g.length ≤ s.size
     ·exact h
     ·rw [decide_eq_false h] at hpx;cases hpx
    have e1 : ((s.extract 0 G.size).toList == G.toList)=true:=by
     rw [heq]
     rw [decide_eq_true hle,Bool.true_and] at hpx
     exact hpx.symm
    have d1 : decide ((G.size : Int) ≤ (s.size : Int))=true:=decide_eq_true (by omega)
    have d2 : (G.size : Int) ≤ (s.size : Int):=by omega
    have hblk2:=heap_at hh.out hblk
    obtain ⟨⟨c0,c1,c2,c3⟩,f0,f1,f2,f3⟩:=four_of hblk2
    clear hpx heq hG hGs hl hpre
    go_wp2
    go_quiet (fail)
    go_wp2
    go_region
    go_wp2
    refine bodyPost_ret (next_res (four_set (heap_at (W':=World.drewN wr _) rfl hblk2)) rfl) rfl ⟨?_,four_below (hb.trans ((drewN_below4 _ _).mono hb.size)) (Nat.le_refl _)⟩
    rw [HF.out]
    show _=_
    simp only [tokV,← HG.out.2.1,← HG.out.2.2]
    rfl
  ·have hk2 : ¬ (k : Int) < 28:=by omega
   have HF : Hid (signNx s.data.toList = .error 40):=by
    have h1:=hl.out
    rw [List.take_of_length_le (by rw [hl28];omega)] at h1
    show _=_
    unfold signNx
    rw [find_none h1]
   have hblk2:=heap_at hh.out hblk
   obtain ⟨⟨c0,c1,c2,c3⟩,f0,f1,f2,f3⟩:=four_of hblk2
   clear hl
   go_wp2
   refine bodyPost_ret (next_res (four_set hblk2) rfl) rfl ⟨?_,four_below hb (Nat.le_refl _)⟩
   rw [HF.out]
   exact ⟨(0,[],0),rfl⟩
theorem next_any (s : ByteArray) (sc : Bool) (w : World) (hs : s.size ≤ 140737488351232) (hp : 0 < s.size) : Calls Tryz.prog 13 #[.string s,.bool sc] w fun e w' =>
 nextRes (nextL s.data.toList sc) e∧Below w.heap.size w w':=by
 unfold nextL
 by_cases h1 : 0 < nameL s.data.toList sc
 ·rw [if_pos h1]
  exact next_name s sc w hs h1
 ·rw [if_neg h1]
  have h0 : nameL s.data.toList sc=0:=by omega
  cases h2 : digC (atL s.data.toList 0)
  ·rw [if_neg (by simp)]
   by_cases h3 : atL s.data.toList 0=34 ∨ atL s.data.toList 0=39
   ·rw [if_pos h3];exact next_text s sc w hs hp h0 h2 h3
   ·rw [if_neg h3];exact next_sign s sc w hs hp h0 h2 h3
  ·rw [if_pos rfl];exact next_num s sc w hs hp h0 h2
end Go.Proofs.YthfkfbcopinmiaaGreatDoor
