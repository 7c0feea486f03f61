/- Own text. Which texts are property names: package tree. What stands together: lists of trees asked by a function: package tree. What a table of files is,as a rising list of paths and bytes: writing,removing,finding;how a map of such entries reads. No program is named here. Whether no two trees of a list have the same text: package tree. -/
import Derived.Test.YtfcocoadaajbjaaGreatDoorGd07
import Derived.Maps.Ext
import Derived.Sort.KeysCollected
import Derived.Lib.Strings
import Derived.Maps.RangeWalk
set_option linter.unusedVariables false
set_option maxRecDepth 100000
set_option maxHeartbeats 8000000
namespace Go.Proofs.YtfcocoadaajbjaaGreatDoor
open Go.RowKit
def okR (mod first : Bool) (r : Int) : Bool:=letterB r || (r == 95) || ((r == 36) && !mod) || (digitB r && !first)
def restB (mod : Bool) (l : List UInt8) : Bool:=(scan l).all fun x=>okR mod false x.1
def propT (mod : Bool) (l : List UInt8) : Bool:=match scan l with
 | []=>false
 | h :: t=>okR mod true h.1 && t.all fun x=>okR mod false x.1
def fmV (v : Value) (mod : Bool) : Value:=.agg #[v,.bool mod]
theorem isProp_any (w : World) (v : Value) (mod : Bool) (s : ByteArray) (h : WAt w v) : Calls Tryz.prog 105 #[fmV v mod,.string s] w fun e w'=>e = .returned (.bool (propT mod s.data.toList))∧Below w.heap.size w w':=by
 obtain ⟨bl,t,rfl,hb⟩:=h
 unfold fmV
 obtain ⟨W0,hW0⟩ : ∃ W,w.alloc (Obj.cells #[.slice (some { block:=bl,off:=0 }) 19 19,.bool mod] 67)=W:=⟨_,rfl⟩
 have bel0 : Below w.heap.size w W0:=by rw [← hW0];exact bel_a _ _
 have hs0 : w.heap.size < W0.heap.size:=by rw [← hW0];simp
 have hc0 : ∀ pos,(W0.iter s pos).cell? ⟨w.heap.size,1,none⟩=some (.bool mod):=fun pos=>by
  have e : (W0.iter s pos).heap[w.heap.size]?=some (.cells #[.slice (some { block:=bl,off:=0 }) 19 19,.bool mod] 67 (0,0)):=by
   show (W0.heap.push _)[w.heap.size]?=_
   rw [Array.getElem?_push,if_neg (by omega),← hW0]
   exact hnew _ rfl
  simp [World.cell?,e]
 have hit : ∀ pos,Below w.heap.size w (W0.iter s pos):=fun pos=>bel0.trans ⟨rfl,rfl,rfl,by show _ ≤ (W0.heap.push _).size;simp,fun k hk=>by
  show (W0.heap.push _)[k]?=_
  rw [Array.getElem?_push,if_neg (by omega)]⟩
 go_enter Tryz.func105,Tryz.ntmps105
 go_wp2
 go_loopw [] (fun w'=>∃ (pos : Nat),w'=W0.iter s pos∧pos ≤ s.size∧Hid (pos=0 ∨ (0 < pos∧propT mod s.data.toList=restB mod (s.data.toList.drop pos)))) (fun w'=>s.size - w'.iterPos W0.heap.size)
 case atStart=>exact ⟨0,rfl,by omega,.inl rfl⟩
 case round =>
  obtain ⟨pos,rfl,hb,HR⟩:=hrel
  by_cases hp : pos < s.size
  ·have hnx : ∀ ty,(Instr.next (.pointer (some ⟨W0.heap.size,0,none⟩)) true ty).run Tryz.prog (W0.iter s pos)=_:=fun ty=>run_next_dec W0 s pos ty hp
   have hwd:=(decL_width (s.data.toList.drop pos)).1
   have hwl:=width_le s pos hp
   have sd:=scan_drop s pos hp
   obtain ⟨d,hd⟩ : ∃ d,d=decL (s.data.toList.drop pos):=⟨_,rfl⟩
   have HY : Hid (okR mod (decide (pos=0)) d.1=true→propT mod s.data.toList=restB mod (s.data.toList.drop (pos+d.2))):=fun ho=>by
    rw [hd] at ho ⊢
    rcases HR.out with rfl | ⟨h0,h1⟩
    ·rw [List.drop_zero] at sd
     unfold propT
     rw [sd]
     simp only [Nat.zero_add,List.drop_zero] at ho ⊢
     simp only [decide_true] at ho
     simp [ho,restB]
    ·rw [h1]
     unfold restB
     rw [sd,List.all_cons]
     have e : decide (pos=0)=false:=by simp;omega
     rw [e] at ho
     simp [ho]
   have HN : Hid (okR mod (decide (pos=0)) d.1=false→propT mod s.data.toList=false):=fun ho=>by
    rw [hd] at ho
    rcases HR.out with rfl | ⟨h0,h1⟩
    ·rw [List.drop_zero] at sd
     unfold propT
     rw [sd]
     simp only [List.drop_zero] at ho ⊢
     simp only [decide_true] at ho
     simp [ho]
    ·rw [h1]
     unfold restB
     rw [sd,List.all_cons]
     have e : decide (pos=0)=false:=by simp;omega
     rw [e] at ho
     simp [ho]
   clear HR sd
   rw [← hd] at hnx hwd hwl
   clear hd
   have hl:=fun W=>letter_any d.1 W
   have hg:=fun W=>digit_any d.1 W
   generalize (d.1 : Int)=r at *
   by_cases hlt : letterB r=true
   ·rw [hlt] at hl
    go_wp2_with (first
     | (go_at_call 117;refine (hl _).mono ?_;rintro e w' ⟨rfl,rfl⟩)
     | (go_at_call 118;refine (hg _).mono ?_;rintro e w' ⟨rfl,rfl⟩))
    go_roundw
    case rel=>exact ⟨_,rfl,hwl,.inr ⟨by omega,HY.out (by simp [okR,hlt])⟩⟩
    case measure=>simp;omega
   have hlt : letterB r=false:=by simpa using hlt
   rw [hlt] at hl
   by_cases h95 : r=95
   ·subst h95
    go_wp2_with (first
     | (go_at_call 117;refine (hl _).mono ?_;rintro e w' ⟨rfl,rfl⟩)
     | (go_at_call 118;refine (hg _).mono ?_;rintro e w' ⟨rfl,rfl⟩))
    go_roundw
    case rel=>exact ⟨_,rfl,hwl,.inr ⟨by omega,HY.out (by simp [okR])⟩⟩
    case measure=>simp;omega
   by_cases h36 : r=36
   ·subst h36
    rw [show digitB 36=false by rfl] at hg
    cases mod
    ·go_wp2_with (first
      | (go_at_call 117;refine (hl _).mono ?_;rintro e w' ⟨rfl,rfl⟩)
      | (go_at_call 118;refine (hg _).mono ?_;rintro e w' ⟨rfl,rfl⟩))
     go_roundw
     case rel=>exact ⟨_,rfl,hwl,.inr ⟨by omega,HY.out (by simp [okR])⟩⟩
     case measure=>simp;omega
    ·go_wp2_with (first
      | (go_at_call 117;refine (hl _).mono ?_;rintro e w' ⟨rfl,rfl⟩)
      | (go_at_call 118;refine (hg _).mono ?_;rintro e w' ⟨rfl,rfl⟩))
     go_ret
     exact ⟨ret_bool (HN.out (by rw [okR,hlt,show digitB 36=false by rfl];rfl)).symm,hit _⟩
   by_cases hdg : digitB r=true
   ·rw [hdg] at hg
    by_cases hpz : pos=0
    ·subst hpz
     go_wp2_with (first
      | (go_at_call 117;refine (hl _).mono ?_;rintro e w' ⟨rfl,rfl⟩)
      | (go_at_call 118;refine (hg _).mono ?_;rintro e w' ⟨rfl,rfl⟩))
     go_ret
     exact ⟨ret_bool (HN.out (by rw [okR,hlt,hdg];simp [h95,h36])).symm,hit _⟩
    ·have hpz' : 0 < pos:=by omega
     go_wp2_with (first
      | (go_at_call 117;refine (hl _).mono ?_;rintro e w' ⟨rfl,rfl⟩)
      | (go_at_call 118;refine (hg _).mono ?_;rintro e w' ⟨rfl,rfl⟩))
     go_roundw
     case rel=>exact ⟨_,rfl,hwl,.inr ⟨by omega,HY.out (by rw [okR,hlt,hdg];simp [hpz])⟩⟩
     case measure=>simp;omega
   have hdg : digitB r=false:=by simpa using hdg
   rw [hdg] at hg
   go_wp2_with (first
    | (go_at_call 117;refine (hl _).mono ?_;rintro e w' ⟨rfl,rfl⟩)
    | (go_at_call 118;refine (hg _).mono ?_;rintro e w' ⟨rfl,rfl⟩))
   go_ret
   exact ⟨ret_bool (HN.out (by rw [okR,hlt,hdg];simp [h95,h36])).symm,hit _⟩
  ·have hnx : ∀ ty,(Instr.next (.pointer (some ⟨W0.heap.size,0,none⟩)) true ty).run Tryz.prog (W0.iter s pos)=_:=fun ty=>run_next_end W0 s pos ty hp
   have e : s.data.toList.drop pos=[]:=drop_end s pos hp
   by_cases hz : s.size=0
   ·have HZ : Hid (propT mod s.data.toList=false):=by
     show _=_
     have : s.data.toList=[]:=by
      have:=hz
      rw [Lib.size_eq] at this
      exact List.length_eq_zero_iff.1 this
     rw [this];rfl
    have hs : s.toList=[]:=by
     rw [bytes_toList]
     rw [Lib.size_eq] at hz
     exact List.length_eq_zero_iff.1 hz
    clear HR e
    go_wp2
    go_ret
    exact ⟨ret_bool (by rw [HZ.out];try simp),hit _⟩
   ·have HZ : Hid (propT mod s.data.toList=true):=by
     show _=_
     rcases HR.out with h | ⟨_,h⟩
     ·omega
     ·rw [h,e];rfl
    have hs : ¬ s.toList=[]:=by
     rw [bytes_toList]
     rw [Lib.size_eq] at hz
     intro h
     exact hz (by rw [h];rfl)
    clear HR e
    go_wp2
    go_ret
    exact ⟨ret_bool (by rw [HZ.out];try simp [hs]),hit _⟩
def unaryL : List (List UInt8):=[[45],[33],[116,121,112,101,111,102]]
def binaryL : List (List UInt8):=[[43],[45],[42],[47],[37],[61,61,61],[33,61,61],[60],[60,61],[62],[62,61],[38,38],[124,124]]
theorem isUnary_any (w : World) (s : ByteArray) : Calls Tryz.prog 107 #[.string s] w fun e w'=>e = .returned (.bool (decide (s.data.toList ∈ unaryL)))∧w'=w:=by
 rw [← bytes_toList]
 go_enter Tryz.func107,Tryz.ntmps107
 go_wp2
 all_goals go_ret
 all_goals exact ⟨ret_bool (by simp_all [unaryL]),rfl⟩
theorem isBinary_any (w : World) (s : ByteArray) : Calls Tryz.prog 108 #[.string s] w fun e w'=>e = .returned (.bool (decide (s.data.toList ∈ binaryL)))∧w'=w:=by
 rw [← bytes_toList]
 go_enter Tryz.func108,Tryz.ntmps108
 go_wp2
 all_goals go_ret
 all_goals exact ⟨ret_bool (by simp_all [binaryL]),rfl⟩
def idT (mod : Bool) (s : ByteArray) : Bool:=propT mod s.data.toList && !isW s
theorem isId_any (w : World) (v : Value) (mod : Bool) (s : ByteArray) (h : WAt w v) : Calls Tryz.prog 104 #[fmV v mod,.string s] w fun e w'=>e = .returned (.bool (idT mod s))∧Below w.heap.size w w':=by
 obtain ⟨a,ha⟩ : ∃ a,v = .slice a 19 19:=by obtain ⟨bl,t,rfl,_⟩:=h;exact ⟨_,rfl⟩
 have hp:=fun W (b : Below w.heap.size w W)=>isProp_any W v mod s (h.bel b)
 have hc:=fun W (b : Below w.heap.size w W)=>contains_any W v s (h.bel b)
 subst ha
 unfold fmV at hp ⊢
 have e1 : ∀ o W1,Below (w.alloc o).heap.size (w.alloc o) W1→Below w.heap.size w W1∧W1.cell? ⟨w.heap.size,0,none⟩=(w.alloc o).cell? ⟨w.heap.size,0,none⟩:=fun o W1 b=>⟨(bel_a w o).trans (b.mono (by simp)),b.cell (p:=⟨w.heap.size,0,none⟩) (by simp)⟩
 unfold idT
 cases hpt : propT mod s.data.toList
 ·rw [hpt] at hp
  go_enter Tryz.func104,Tryz.ntmps104
  go_wp2_with (go_at_call 105;refine (hp _ (bel_a _ _)).mono ?_;rintro e W1 ⟨rfl,b1⟩)
  go_ret
  exact ⟨rfl,(e1 _ _ b1).1⟩
 ·rw [hpt] at hp
  go_enter Tryz.func104,Tryz.ntmps104
  go_wp2_with (first
   | (go_at_call 105;refine (hp _ (bel_a _ _)).mono ?_;rintro e W1 ⟨rfl,b1⟩;obtain ⟨b2,c2⟩:=e1 _ _ b1;simp at c2)
   | (go_at_call 116;refine (hc _ b2).mono ?_;rintro e W2 ⟨rfl,rfl⟩))
  go_ret
  exact ⟨ret_bool (by simp),b2⟩
def saysT (mod : Bool) (t : Int) (s : ByteArray) : Bool :=
 if t=1 then idT mod s
 else if t=2 then propT mod s.data.toList
 else if t=3 then propT mod s.data.toList && (s.toList != [99,111,110,115,116,114,117,99,116,111,114])
 else if t=4 then propT mod s.data.toList || (s.toList == [42])
 else if t=5 then idT mod s || (s.toList == [110,117,108,108]) || (s.toList == [117,110,100,101,102,105,110,101,100])
 else if t=6 then validL s.data.toList
 else if t=7 then decide (s.data.toList ∈ unaryL)
 else if t=8 then decide (s.data.toList ∈ binaryL)
 else s.toList == []
theorem says_any (w : World) (v : Value) (mod : Bool) (t : Int) (s : ByteArray) (h : WAt w v) : Calls Tryz.prog 91 #[fmV v mod,.int .i64 t,.string s] w fun e w'=>e = .returned (.bool (saysT mod t s))∧Below w.heap.size w w':=by
 obtain ⟨a,ha⟩ : ∃ a,v = .slice a 19 19:=by obtain ⟨bl,t,rfl,_⟩:=h;exact ⟨_,rfl⟩
 have hp:=fun W (b : Below w.heap.size w W)=>isProp_any W v mod s (h.bel b)
 have hi:=fun W (b : Below w.heap.size w W)=>isId_any W v mod s (h.bel b)
 have hv:=fun W=>valid_any s W
 have hu:=fun W=>isUnary_any W s
 have hb:=fun W=>isBinary_any W s
 subst ha
 unfold fmV at hp hi ⊢
 have e1 : ∀ o W1,Below (w.alloc o).heap.size (w.alloc o) W1→Below w.heap.size w W1:=fun o W1 b=>(bel_a w o).trans (b.mono (by simp))
 unfold saysT
 generalize propT mod s.data.toList=pb at *
 generalize idT mod s=ib at *
 generalize validL s.data.toList=vb at *
 generalize decide (s.data.toList ∈ unaryL)=ub at *
 generalize decide (s.data.toList ∈ binaryL)=bb at *
 cases pb <;> cases ib
 all_goals
  go_enter Tryz.func91,Tryz.ntmps91
  go_wp2_with (first
   | (go_at_call 105;refine (hp _ (bel_a _ _)).mono ?_;rintro e W1 ⟨rfl,b1⟩;replace b1:=e1 _ _ b1)
   | (go_at_call 104;refine (hi _ (bel_a _ _)).mono ?_;rintro e W1 ⟨rfl,b1⟩;replace b1:=e1 _ _ b1)
   | (go_at_call 106;refine (hv _).mono ?_;rintro e W1 ⟨rfl,b1⟩;replace b1:=e1 _ _ b1)
   | (go_at_call 107;refine (hu _).mono ?_;rintro e W1 ⟨rfl,rfl⟩)
   | (go_at_call 108;refine (hb _).mono ?_;rintro e W1 ⟨rfl,rfl⟩))
  all_goals go_ret
  all_goals exact ⟨ret_bool (by clear hp hi hv hu hb e1;first | (simp_all;done) | (simp_all [bne];done)),by first | exact b1 | exact bel_a _ _⟩
theorem indexFunc_any (w : World) (S : Nat→Prop) (l : List Nd) (v : Value) (f : FuncId) (cap : Array Value) (q : Nd→Bool) (hx : LAt w S v l) (hl : l.length ≤ 4194304) (ent : ∀ args w,(callFunc f args).run Tryz.prog w = .ok (.enter f args) w)
 (hq : ∀ y ∈ l,∀ (W : World) (v : Value),Below w.heap.size w W→LAt W S v y.ks→Calls Tryz.prog f (#[y.v v] ++ cap) W fun e W'=>e = .returned (.bool (q y))∧Below W.heap.size W W') :
 Calls Tryz.prog 120 #[v,.func (.func f) #[] cap] w fun e w'=>∃ i : Int,e = .returned (.int .i64 i)∧Below w.heap.size w w'∧((i = -1∧∀ y ∈ l,q y=false) ∨ ∃ (k : Nat) (hk : k < l.length),i=k∧q l[k]=true∧∀ y ∈ l.take k,q y=false):=by
 obtain ⟨ax,cx,bx,ox,fx,rfl,px,qx,rx⟩:=hx.op
 go_enter Tryz.func120,Tryz.ntmps120
 go_wp2
 go_loopw [8] (fun i wr=>∃ k : Nat,i = .int .i64 (k : Nat)∧k ≤ l.length∧Below w.heap.size w wr∧Hid (∀ y ∈ l.take k,q y=false)) (fun i _=>l.length - (intOf i).toNat)
 case atStart=>exact ⟨0,rfl,by omega,Below.refl _ _,by simp [Hid]⟩
 case round =>
  obtain ⟨k,rfl,hk,bel,HT⟩:=hrel
  by_cases hkl : k < l.length
  ·obtain ⟨rfl,hSx,hbx⟩:=px (by omega)
   obtain ⟨⟨u1,u2,u3,u4⟩,gx⟩:=kid_at (qx k hkl) (rx k hkl) hbx bel
   have hcall:=hq l[k] (List.getElem_mem hkl) wr (fx k) bel gx
   have HQ : Hid (q l[k]=true→∃ (k' : Nat) (hk : k' < l.length),(k : Int)=k'∧q l[k']=true∧∀ y ∈ l.take k',q y=false):=fun h=>⟨k,hkl,rfl,h,HT.out⟩
   have HS : Hid (q l[k]=false→∀ y ∈ l.take (k+1),q y=false):=fun h y hy=>by
    rw [List.take_succ_eq_append_getElem hkl] at hy
    rcases List.mem_append.1 hy with hy | hy
    ·exact HT.out y hy
    ·obtain rfl : y=l[k]:=by simpa using hy
     exact h
   clear hq HT
   generalize l[k]=y at *
   generalize fx k=fy at *
   cases hqy : q y
   ·rw [hqy] at hcall
    have HT':=HS.out hqy
    have HT2 : Hid (∀ y ∈ l.take (k+1),q y=false):=HT'
    clear HT' HS HQ
    go_wp2_with fail
    refine hcall.mono ?_
    rintro e W1 ⟨rfl,b1⟩
    go_wp2
    go_roundw
    case rel=>exact ⟨k+1,by simp,by omega,bel.trans (b1.mono bel.size),HT2⟩
    case measure=>simp [intOf];omega
   ·rw [hqy] at hcall
    have HQ2 : Hid (∃ (k' : Nat) (hk : k' < l.length),(k : Int)=k'∧q l[k']=true∧∀ y ∈ l.take k',q y=false):=HQ.out hqy
    clear HS HQ
    go_wp2_with fail
    refine hcall.mono ?_
    rintro e W1 ⟨rfl,b1⟩
    go_wp2
    go_ret
    exact ⟨_,rfl,bel.trans (b1.mono bel.size),.inr HQ2.out⟩
  ·have e : l.take k=l:=List.take_of_length_le (by omega)
   rw [e] at HT
   clear e hq
   go_wp2
   go_ret
   exact ⟨_,rfl,bel,.inl ⟨rfl,HT.out⟩⟩
end Go.Proofs.YtfcocoadaajbjaaGreatDoor
set_option linter.unusedVariables false
namespace Go.Proofs.YtfcocoadaajbjaaGreatDoor
open Go.WideShapes Go.Maps
open Go.Proofs (encStr)
abbrev Fls := List (ByteArray × ByteArray)
def lessB (a b : ByteArray) : Bool:=Op.bytesLess a.toList b.toList
def eqB (a b : ByteArray) : Bool:=a.toList == b.toList
theorem toList_inj {a b : ByteArray} (h : a.toList=b.toList) : a=b:=by
 rw [Lib.toList_data,Lib.toList_data] at h
 exact ByteArray.ext (Array.toList_inj.1 h)
theorem eqB_iff {a b : ByteArray} : eqB a b=true ↔ a=b:=by
 unfold eqB
 constructor
 ·intro h;exact toList_inj (by simpa using h)
 ·rintro rfl;simp
theorem eqB_self (a : ByteArray) : eqB a a=true:=eqB_iff.2 rfl
theorem eqB_ne {a b : ByteArray} (h : a ≠ b) : eqB a b=false:=by
 cases e : eqB a b
 ·rfl
 ·exact absurd (eqB_iff.1 e) h
theorem less_before : ∀ a b : List UInt8,Op.bytesLess a b=bytesBefore a b
 | [],[]=>rfl
 | [],_ :: _=>rfl
 | _ :: _,[]=>rfl
 | a :: x,b :: y=>by rw [Op.bytesLess,bytesBefore,less_before x y]
theorem lessB_before (a b : ByteArray) : lessB a b=(Lit.string a.data.toList).before (.string b.data.toList):=by
 unfold lessB
 rw [less_before,Lib.toList_data,Lib.toList_data];rfl
theorem lessB_irrefl (a : ByteArray) : lessB a a=false:=by rw [lessB_before];exact before_irrefl _
theorem lessB_trans {a b c : ByteArray} (h1 : lessB a b=true) (h2 : lessB b c=true) : lessB a c=true:=by
 rw [lessB_before] at *;exact before_trans h1 h2
theorem lessB_asymm {a b : ByteArray} (h1 : lessB a b=true) : lessB b a=false:=by
 cases e : lessB b a
 ·rfl
 ·have:=lessB_trans h1 e;rw [lessB_irrefl] at this;cases this
theorem lessB_total {a b : ByteArray} (h : a ≠ b) : lessB a b=true ∨ lessB b a=true:=by
 rw [lessB_before,lessB_before]
 have : a.data.toList ≠ b.data.toList:=fun e=>h (ByteArray.ext (Array.toList_inj.1 e))
 rcases WideAt.bytes_total _ _ this with h1 | h1
 ·exact Or.inl h1
 ·exact Or.inr h1
theorem lessB_ne {a b : ByteArray} (h : lessB a b=true) : a ≠ b:=fun e=>by
 subst e;rw [lessB_irrefl] at h;cases h
theorem lessB_of_not {a b : ByteArray} (h1 : lessB a b=false) (h2 : eqB a b=false) : lessB b a=true:=by
 have : a ≠ b:=fun e=>by subst e;rw [eqB_self] at h2;cases h2
 rcases lessB_total this with h | h
 ·rw [h1] at h;cases h
 ·exact h
def Ris (L : Fls) : Prop:=L.Pairwise fun x y=>lessB x.1 y.1=true
def ins (p b : ByteArray) : Fls→Fls
 | []=>[(p,b)]
 | x :: r=>if lessB x.1 p then x :: ins p b r else if eqB x.1 p then (p,b) :: r else (p,b) :: x :: r
def del (p : ByteArray) (L : Fls) : Fls:=L.filter fun x=>!eqB x.1 p
def hasP (p : ByteArray) (L : Fls) : Bool:=L.any fun x=>eqB x.1 p
theorem mem_ins {p b : ByteArray} : ∀ {L : Fls} {x},x ∈ ins p b L→x=(p,b) ∨ x ∈ L
 | [],x,h=>by simp [ins] at h;exact Or.inl h
 | y :: r,x,h=>by
  unfold ins at h
  split at h
  ·rcases List.mem_cons.1 h with e | h
   ·exact Or.inr (by simp [e])
   ·rcases mem_ins h with e | h
    ·exact Or.inl e
    ·exact Or.inr (by simp [h])
  ·split at h
   ·rcases List.mem_cons.1 h with e | h
    ·exact Or.inl e
    ·exact Or.inr (by simp [h])
   ·rcases List.mem_cons.1 h with e | h
    ·exact Or.inl e
    ·exact Or.inr h
theorem Ris.ins {p b : ByteArray} : ∀ {L : Fls},Ris L→Ris (ins p b L)
 | [],_=>by simp [Ris,Go.Proofs.YtfcocoadaajbjaaGreatDoor.ins]
 | y :: r,h=>by
  obtain ⟨h1,h2⟩:=List.pairwise_cons.1 h
  have h2' : Ris r:=h2
  unfold Go.Proofs.YtfcocoadaajbjaaGreatDoor.ins
  split
  ·rename_i hy
   refine List.pairwise_cons.2 ⟨fun z hz=>?_,h2'.ins⟩
   rcases mem_ins hz with e | hz
   ·subst e;exact hy
   ·exact h1 z hz
  ·rename_i hy
   have hy : lessB y.1 p=false:=by simpa using hy
   split
   ·rename_i he
    have he:=eqB_iff.1 he
    exact List.pairwise_cons.2 ⟨fun z hz=>by rw [← he];exact h1 z hz,h2⟩
   ·rename_i he
    have he : eqB y.1 p=false:=by simpa using he
    have hl:=lessB_of_not hy he
    refine List.pairwise_cons.2 ⟨fun z hz=>?_,h⟩
    rcases List.mem_cons.1 hz with e | hz
    ·subst e;exact hl
    ·exact lessB_trans hl (h1 z hz)
theorem Ris.del {p : ByteArray} {L : Fls} (h : Ris L) : Ris (del p L):=List.Pairwise.filter _ h
theorem del_of_low {p : ByteArray} {L : Fls} (h : ∀ x ∈ L,x.1 ≠ p) : del p L=L:=by
 unfold del
 exact List.filter_eq_self.2 fun x hx=>by rw [eqB_ne (h x hx)];rfl
theorem length_ins {p b : ByteArray} : ∀ {L : Fls},Ris L→(ins p b L).length=if hasP p L then L.length else L.length+1
 | [],_=>by simp [ins,hasP]
 | y :: r,h=>by
  obtain ⟨h1,h2⟩:=List.pairwise_cons.1 h
  have h2' : Ris r:=h2
  unfold ins
  split
  ·rename_i hy
   have e1 : eqB y.1 p=false:=eqB_ne (lessB_ne hy)
   have e2 : hasP p (y :: r)=hasP p r:=by unfold hasP;rw [List.any_cons,e1,Bool.false_or]
   rw [e2,List.length_cons,length_ins h2',List.length_cons]
   by_cases hr : hasP p r=true
   ·rw [if_pos hr,if_pos hr]
   ·rw [if_neg hr,if_neg hr]
  ·rename_i hy
   have hy : lessB y.1 p=false:=by simpa using hy
   split
   ·rename_i he;simp [hasP,he]
   ·rename_i he
    have he : eqB y.1 p=false:=by simpa using he
    have hl:=lessB_of_not hy he
    have : r.any (fun x=>eqB x.1 p)=false:=by
     rw [List.any_eq_false]
     intro z hz
     have:=lessB_trans hl (h1 z hz)
     simp [eqB_ne (Ne.symm (lessB_ne this))]
    simp [hasP,he,this]
theorem hasP_ins {p b q : ByteArray} : ∀ {L : Fls},hasP q (ins p b L)=(eqB p q || hasP q L)
 | []=>by simp [ins,hasP]
 | y :: r=>by
  have ih:=hasP_ins (p:=p) (b:=b) (q:=q) (L:=r)
  unfold ins
  split
  ·simp only [hasP,List.any_cons] at *
   rw [ih]
   cases eqB y.1 q <;> cases eqB p q <;> simp
  ·split
   ·rename_i he
    have he:=eqB_iff.1 he
    simp only [hasP,List.any_cons,he]
    cases eqB p q <;> simp
   ·simp [hasP]
def mapD (L : Fls) : DataW Unit:=.map (L.map fun x=>(Lit.string x.1.data.toList,.lit (.string x.2.data.toList)))
theorem same_eqB (a b : ByteArray) : (Lit.string a.data.toList).sameKey (.string b.data.toList)=eqB a b:=by
 unfold eqB
 rw [Lib.toList_data,Lib.toList_data];rfl
theorem insert_low (p b : ByteArray) : ∀ (L : Fls),Ris L→(∀ x ∈ L,lessB p x.1=true) →
 DataW.insert (Lit.string p.data.toList,(.lit (.string b.data.toList) : DataW Unit)) (L.map fun x=>(Lit.string x.1.data.toList,.lit (.string x.2.data.toList)))=((p,b) :: L).map fun x=>(Lit.string x.1.data.toList,.lit (.string x.2.data.toList))
 | [],_,_=>rfl
 | y :: r,_,h=>by
  have:=h y (by simp)
  rw [lessB_before] at this
  simp [DataW.insert,this]
theorem put_list (p b : ByteArray) : ∀ (L : Fls),Ris L →
 DataW.insert (Lit.string p.data.toList,(.lit (.string b.data.toList) : DataW Unit)) ((del p L).map fun x=>(Lit.string x.1.data.toList,.lit (.string x.2.data.toList)))=(ins p b L).map fun x=>(Lit.string x.1.data.toList,.lit (.string x.2.data.toList))
 | [],_=>rfl
 | y :: r,h=>by
  obtain ⟨h1,h2⟩:=List.pairwise_cons.1 h
  have h2' : Ris r:=h2
  have ih:=put_list p b r h2'
  by_cases hy : lessB y.1 p=true
  ·have e1 : del p (y :: r)=y :: del p r:=by simp [del,eqB_ne (lessB_ne hy)]
   have e2 : ins p b (y :: r)=y :: ins p b r:=by simp [ins,hy]
   have e3 : (Lit.string p.data.toList).before (.string y.1.data.toList)=false:=by rw [← lessB_before];exact lessB_asymm hy
   rw [e1,e2,List.map_cons,List.map_cons]
   simp [DataW.insert,e3]
   simpa using ih
  ·have hy : lessB y.1 p=false:=by simpa using hy
   by_cases he : y.1=p
   ·subst he
    have hr : ∀ x ∈ r,lessB y.1 x.1=true:=h1
    have e1 : del y.1 (y :: r)=r:=by
     have : del y.1 r=r:=del_of_low fun x hx=>Ne.symm (lessB_ne (hr x hx))
     simp only [del,List.filter_cons,eqB_self,Bool.not_true,Bool.false_eq_true,if_false] at *
     exact this
    have e2 : ins y.1 b (y :: r)=(y.1,b) :: r:=by simp [ins,lessB_irrefl,eqB_self]
    rw [e1,e2]
    exact insert_low _ _ r h2' hr
   ·have he':=eqB_ne he
    have hl:=lessB_of_not hy he'
    have hr : ∀ x ∈ y :: r,lessB p x.1=true:=fun x hx=>by
     rcases List.mem_cons.1 hx with e | hx
     ·subst e;exact hl
     ·exact lessB_trans hl (h1 x hx)
    have e1 : del p (y :: r)=y :: r:=del_of_low fun x hx=>Ne.symm (lessB_ne (hr x hx))
    have e2 : ins p b (y :: r)=(p,b) :: y :: r:=by simp [ins,hy,he']
    rw [e1,e2]
    exact insert_low _ _ _ h hr
theorem mapD_put (p b : ByteArray) {L : Fls} (h : Ris L) : (mapD L).put (.string p.data.toList) (.lit (.string b.data.toList))=mapD (ins p b L):=by
 have e : (mapD L).put (.string p.data.toList) (.lit (.string b.data.toList)) = .map (DataW.insert (Lit.string p.data.toList,(.lit (.string b.data.toList) : DataW Unit)) ((del p L).map fun x=>(Lit.string x.1.data.toList,.lit (.string x.2.data.toList)))):=by
  unfold mapD DataW.put del
  simp only
  congr 2
  rw [List.filter_map]
  congr 1
  apply List.filter_congr
  intro x _
  simp only [Function.comp_apply,same_eqB]
 rw [e,put_list p b L h];rfl
theorem mapD_size (L : Fls) : Maps.size (mapD L)=L.length:=by simp [mapD,Maps.size]
end Go.Proofs.YtfcocoadaajbjaaGreatDoor
set_option linter.unusedVariables false
set_option maxRecDepth 100000
set_option maxHeartbeats 4000000
namespace Go.Proofs.YtfcocoadaajbjaaGreatDoor
open Go.RowKit Go.Maps
theorem lawSF : Keyed Tryz.prog 9:=string_keyed Tryz.underlying9
theorem keyT {s : ByteArray} (hs : s.size ≤ 281474976710656) : keyOf Tryz.prog 9 (.string s)=some (.string s.data.toList):=by
 have : s.size ≤ maxLen:=by unfold maxLen;omega
 simp [keyOf,Tryz.underlying9,mapKey,this]
def sElem : Value→Option (DataW Unit × List MemPlace)
 | .agg cs=>if cs.size=0 then some (.lit (.string []),[]) else none
 | _=>none
theorem sElem_mk : sElem (.agg #[])=some (.lit (.string []),[]):=rfl
theorem own_tightS {w : World} {P : Program} {k : TypeId} {R : Value→Option (DataW Unit × List MemPlace)} {b n : Nat} {L : Fls} (h : w.ownsMap P k R b n (mapD L)) : w.ownsMap P k R b L.length (mapD L):=by
 obtain ⟨es,clock,hb,F,_,hD⟩:=h
 refine ⟨es,clock,hb,F,?_,hD⟩
 have e:=congrArg Maps.size hD
 rw [mapD_size] at e
 rw [e,Maps.size_eq,length_sorted]
 simp
theorem mapHint (W : World) (n : Int) : (Instr.makeMap 56 (some (.int .i64 n))).run Tryz.prog W = .ok (.map (some W.heap.size)) (W.alloc (.map #[] 0)):=by
 simp [Instr.makeMap,run_underlying Tryz.underlying56,asInt,asIntOf,newObj,Result.andThen,go_sem]
 rfl
def txts (l : List Nd) : Fls:=l.foldl (fun L x=>ins x.t ByteArray.empty L) []
theorem txts_snoc (l : List Nd) (x : Nd) : txts (l ++ [x])=ins x.t ByteArray.empty (txts l):=by simp [txts]
theorem txts_has (t : ByteArray) : ∀ l : List Nd,hasP t (l.foldl (fun L x=>ins x.t ByteArray.empty L) [])=true ↔ ∃ x ∈ l,x.t=t:=by
 suffices h : ∀ (l : List Nd) (L : Fls),hasP t (l.foldl (fun L x=>ins x.t ByteArray.empty L) L)=true ↔ (∃ x ∈ l,x.t=t) ∨ hasP t L=true by
  intro l;rw [h];simp [hasP]
 intro l
 induction l with
 | nil=>intro L;simp
 | cons x l ih =>
  intro L
  rw [List.foldl_cons,ih,hasP_ins,Bool.or_eq_true,eqB_iff]
  constructor
  ·rintro (⟨y,hy,e⟩ | e | e)
   ·exact .inl ⟨y,by simp [hy],e⟩
   ·exact .inl ⟨x,by simp,e⟩
   ·exact .inr e
  ·rintro (⟨y,hy,e⟩ | e)
   ·rcases List.mem_cons.1 hy with rfl | hy
    ·exact .inr (.inl e)
    ·exact .inl ⟨y,hy,e⟩
   ·exact .inr (.inr e)
theorem txts_ris (l : List Nd) : Ris (txts l):=by
 suffices h : ∀ (l : List Nd) (L : Fls),Ris L→Ris (l.foldl (fun L x=>ins x.t ByteArray.empty L) L) from h l [] (by simp [Ris])
 intro l
 induction l with
 | nil=>intro L h;exact h
 | cons x l ih=>intro L h;exact ih _ h.ins
def unlikeP (l : List Nd) : Prop:=(l.map (·.t)).Nodup
theorem txts_len (l : List Nd) (k : Nat) (hk : k ≤ l.length) : (txts (l.take k)).length ≤ k∧((txts (l.take k)).length=k ↔ unlikeP (l.take k)):=by
 induction k with
 | zero=>simp [txts,unlikeP]
 | succ k ih =>
  obtain ⟨h1,h2⟩:=ih (by omega)
  have e:=List.take_succ_eq_append_getElem (l:=l) (i:=k) (by omega)
  rw [e,txts_snoc,length_ins (txts_ris _)]
  have hh:=txts_has l[k].t (l.take k)
  have hu : unlikeP (l.take k ++ [l[k]]) ↔ unlikeP (l.take k)∧¬ ∃ x ∈ l.take k,x.t=l[k].t:=by
   unfold unlikeP
   rw [List.map_append,List.nodup_append]
   constructor
   ·rintro ⟨a,_,c⟩
    refine ⟨a,?_⟩
    rintro ⟨x,hx,ex⟩
    exact c x.t (List.mem_map.2 ⟨x,hx,rfl⟩) l[k].t (by simp) ex
   ·rintro ⟨a,c⟩
    refine ⟨a,by simp,?_⟩
    intro u hu v hv huv
    obtain ⟨x,hx,rfl⟩:=List.mem_map.1 hu
    obtain rfl : v=l[k].t:=by simpa using hv
    exact c ⟨x,hx,huv⟩
  rw [hu]
  unfold txts at h1 h2 ⊢
  by_cases hp : hasP l[k].t ((l.take k).foldl (fun L x=>ins x.t ByteArray.empty L) [])=true
  ·rw [if_pos hp]
   refine ⟨by omega,fun h=>by omega,fun h=>absurd (hh.1 hp) h.2⟩
  ·rw [if_neg hp]
   refine ⟨by omega,fun h=>⟨h2.1 (by omega),fun hx=>hp (hh.2 hx)⟩,fun h=>by rw [h2.2 h.1]⟩
theorem unlike_any (w : World) (S : Nat→Prop) (l : List Nd) (v : Value) (hx : LAt w S v l) (hl : l.length ≤ 4194304) (ht : ∀ x ∈ l,x.t.size ≤ 4194304) :
 Calls Tryz.prog 93 #[v] w fun e w'=>∃ b : Bool,e = .returned (.bool b)∧(b=true ↔ unlikeP l)∧Below w.heap.size w w':=by
 obtain ⟨ax,cx,bx,ox,fx,rfl,px,qx,rx⟩:=hx.op
 have hmm:=mapHint
 have tl:=txts_len l
 have tr:=fun k=>txts_ris (l.take k)
 go_enter Tryz.func93,Tryz.ntmps93
 go_wp2
 go_loopw [11] (fun i wr=>∃ k : Nat,i = .int .i64 (k : Nat)∧k ≤ l.length∧Below w.heap.size w wr∧wr.ownsMap Tryz.prog 9 sElem w.heap.size (txts (l.take k)).length (mapD (txts (l.take k)))) (fun i _=>l.length - (intOf i).toNat)
 case atStart=>exact ⟨0,rfl,by omega,bel_a _ _,World.ownsMap_made w Tryz.prog 9 sElem⟩
 case round =>
  clear hmm
  obtain ⟨k,rfl,hk,bel,own⟩:=hrel
  by_cases hkl : k < l.length
  ·obtain ⟨rfl,hSx,hbx⟩:=px (by omega)
   obtain ⟨⟨u1,u2,u3,u4⟩,gx⟩:=kid_at (qx k hkl) (rx k hkl) hbx bel
   have hk1:=keyT (s:=l[k].t) (by have:=ht l[k] (List.getElem_mem hkl);omega)
   have HS : Hid (txts (l.take (k+1))=ins l[k].t ByteArray.empty (txts (l.take k))):=by
    show _=_
    rw [List.take_succ_eq_append_getElem hkl,txts_snoc]
   have hle:=(tl k (by omega)).1
   have trk:=tr k
   obtain ⟨aa,cc,e⟩:=gx.sl
   have hltm:=own.lt
   clear tl tr
   generalize l[k]=y at *
   generalize fx k=fy at *
   subst e
   generalize hL : txts (l.take k)=L at *
   go_wp2_with (at_mapUpdate;refine wpList_mapUpdate_own _ rfl _ _ _ 56 rfl 9 124 lawSF Tryz.underlying56 sElem w.heap.size L.length (mapD L) rfl ?own ?room _ _ _ rfl rfl hk1 _ [] sElem_mk ?_;rotate_left 1;(case own=>exact own.kept (World.grownBy_alloc _ _ none) (by simp));(case room=>unfold maxLen;omega);intro W3 h3 g3)
   have own3 : W3.ownsMap Tryz.prog 9 sElem w.heap.size (txts (l.take (k+1))).length (mapD (txts (l.take (k+1)))):=by
    rw [HS.out]
    have e2:=mapD_put y.t ByteArray.empty trk
    exact own_tightS (by rw [← e2];exact h3)
   have bel3 : Below w.heap.size w W3:=(bel.alloc bel.size _).grown g3 (by simp;have:=bel.size;omega) (fun j hj=>by cases hj;exact Nat.le_refl _)
   clear h3 g3 own HS
   go_wp2
   go_roundw
   case rel=>exact ⟨k+1,by simp,by omega,bel3,own3⟩
   case measure=>simp [intOf];omega
  ·have e : k=l.length:=by omega
   have tlk:=(tl k hk).2
   have tlk1:=(tl k hk).1
   have el : l.take k=l:=by rw [e];exact List.take_length
   rw [el] at own tlk tlk1
   rw [e] at tlk
   have h1 : ∀ ty,(Builtin.len_ #[56] ty #[.map (some w.heap.size)]).run Tryz.prog wr = .ok (.int .i64 (txts l).length) wr:=fun ty=>by
    have:=own.len Tryz.underlying56 ty
    rw [mapD_size] at this
    exact this
   have HT : Hid ((txts l).length=l.length ↔ unlikeP l):=tlk
   clear tl tr el tlk own e ht
   generalize (txts l).length=c at *
   go_wp2
   go_ret
   exact ⟨_,rfl,by rw [← HT.out];simp <;> omega,bel⟩
end Go.Proofs.YtfcocoadaajbjaaGreatDoor
