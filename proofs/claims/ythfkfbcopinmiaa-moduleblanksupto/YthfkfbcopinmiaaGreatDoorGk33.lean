/- Own text. A token is the same whatever stands behind it,if nothing there goes on with it. A token is the same whatever stands behind it,if nothing there goes on with it: texts,signs,all. What follows of all tokens: scripts,places. Blanks and notes where a token begins change nothing but places. Blanks and notes where a token begins change nothing but places: the theorem. What a text in quotes says is runes. Tokens that may be are read as they are shown;what is read may be. How many bytes the texts of a source's tokens have together,and what is shown of them. -/
import Derived.Test.YthfkfbcopinmiaaGreatDoorGk28
import Derived.Test.YthfkfbcopinmiaaGreatDoorGk25
import Derived.Test.YthfkfbcopinmiaaGreatDoorGk26
import Derived.Test.YthfkfbcopinmiaaGreatDoorGk30
set_option linter.unusedVariables false
namespace Go.Proofs.YthfkfbcopinmiaaGreatDoor
theorem atL_app0 {p : Bs} (h : p ≠ []) (q : Bs) : atL (p ++ q) 0=atL p 0:=atL_app p q 0 (List.length_pos_iff.2 h)
theorem atL_take0 {l : Bs} {n : Nat} (h : 0 < n) : atL (l.take n) 0=atL l 0:=atL_take_lt l n 0 h
theorem take_ne {l : Bs} {n : Nat} (hl : l ≠ []) (hn : 0 < n) : l.take n ≠ []:=by
 cases l with
 | nil=>exact absurd rfl hl
 | cons c r=>cases n with
  | zero=>omega
  | succ n=>simp
theorem dec_local {l : Bs} (hl : l ≠ []) (hs : strayL l=false) (q : Bs) : decL (l.take (decL l).2 ++ q)=decL l:=by
 have hw:=decL_width l
 have hle:=decL_le l hl
 have ht:=decL_take l hl
 have hlen : (l.take (decL l).2).length=(decL l).2:=by rw [List.length_take];omega
 have hs2 : strayL (l.take (decL l).2)=false:=by unfold strayL;rw [ht];exact hs
 rw [decL_app _ q (take_ne hl (by omega)) (by rw [ht,hlen]) hs2,ht]
theorem stray_local {l : Bs} (hl : l ≠ []) (hs : strayL l=false) (q : Bs) : strayL (l.take (decL l).2 ++ q)=false:=by
 unfold strayL
 rw [dec_local hl hs q]
 exact hs
theorem dec_low1 {l : Bs} (h : atL l 0 < 128) : decL l=(atL l 0,1):=by rw [decL,if_pos h]
theorem beg_low {l m : Bs} (hl : l ≠ []) (hm : m ≠ []) (h : atL l 0 < 128) (he : atL m 0=atL l 0) (sc : Bool) : begL m sc=begL l sc:=by
 have h2 : atL m 0 < 128:=by omega
 unfold begL
 rw [if_neg hl,if_neg hm]
 unfold strayL
 rw [dec_low1 h,dec_low1 h2,he]
theorem beg_local {l : Bs} {sc : Bool} (h : 0 < begL l sc) (q : Bs) : begL (l.take (begL l sc) ++ q) sc=begL l sc:=by
 have hl : l ≠ []:=fun e=>by subst e;simp [begL] at h
 obtain ⟨n,hn⟩ : ∃ n,n=begL l sc:=⟨_,rfl⟩
 have hnp : 0 < n:=by omega
 have hne : l.take n ++ q ≠ []:=by simp [take_ne hl hnp]
 have hat : atL (l.take n ++ q) 0=atL l 0:=by rw [atL_app0 (take_ne hl hnp),atL_take0 hnp]
 rw [← hn]
 by_cases h1 : atL l 0=95 ∨ (sc=true∧atL l 0=36)
 ·have e1 : begL l sc=1:=by unfold begL;rw [if_neg hl,if_pos h1]
  unfold begL
  rw [if_neg hne,hat,if_pos h1]
  omega
 ·have e1:=hn
  unfold begL at e1
  rw [if_neg hl,if_neg h1] at e1
  split at e1
  ·rename_i h2
   unfold begL
   rw [if_neg hne,hat,if_neg h1]
   rw [e1,dec_local hl h2.1 q,stray_local hl h2.1 q,if_pos ⟨rfl,h2.2⟩]
  ·omega
theorem on_local {l : Bs} {sc : Bool} (h : 0 < onL l sc) (q : Bs) : onL (l.take (onL l sc) ++ q) sc=onL l sc:=by
 by_cases hb : begL l sc ≠ 0
 ·have e : onL l sc=begL l sc:=by unfold onL;rw [if_pos hb]
  rw [e]
  have:=beg_local (q:=q) (show 0 < begL l sc by omega)
  unfold onL
  rw [this,if_pos hb]
 ·have hb0 : begL l sc=0:=by omega
  by_cases hd : l ≠ []∧digC (atL l 0)=true
  ·have e : onL l sc=1:=by unfold onL;rw [if_neg hb,if_pos hd]
   have hlow : atL l 0 < 128:=by have:=hd.2;unfold digC at this;simp at this;omega
   have hne : l.take 1 ++ q ≠ []:=by simp [take_ne hd.1]
   have hat : atL (l.take 1 ++ q) 0=atL l 0:=by rw [atL_app0 (take_ne hd.1 (by omega)),atL_take0 (by omega)]
   rw [e]
   unfold onL
   rw [beg_low hd.1 hne hlow hat,if_neg hb,hat,if_pos ⟨hne,hd.2⟩]
  ·have e : onL l sc=0:=by unfold onL;rw [if_neg hb,if_neg hd]
   omega
theorem tail_local : ∀ (m : Nat) (l : Bs) (sc : Bool) (z : Bs),l.length ≤ m→onL z sc=0→tailL (l.take (tailL l sc) ++ z) sc=tailL l sc:=by
 intro m
 induction m with
 | zero =>
  intro l sc z hm hz
  have hl : l=[]:=List.eq_nil_of_length_eq_zero (by omega)
  subst hl
  have e : tailL [] sc=0:=by rw [tailL_eq];simp [onL,begL]
  rw [e,tailL_eq]
  simp [hz]
 | succ m ih =>
  intro l sc z hm hz
  by_cases h0 : onL l sc=0
  ·have e : tailL l sc=0:=by rw [tailL_eq,if_pos h0]
   rw [e,tailL_eq]
   simp [hz]
  ·have hle:=onL_le l sc
   have e : tailL l sc=onL l sc+tailL (l.drop (onL l sc)) sc:=by rw [tailL_eq,if_neg h0]
   have h1:=ih (l.drop (onL l sc)) sc z (by simp;omega) hz
   have hcut : l.take (tailL l sc) ++ z=l.take (onL l sc) ++ ((l.drop (onL l sc)).take (tailL (l.drop (onL l sc)) sc) ++ z):=by
    rw [e,List.take_add,List.append_assoc]
   rw [hcut,tailL_eq,on_local (by omega),if_neg h0]
   have hd : (l.take (onL l sc) ++ ((l.drop (onL l sc)).take (tailL (l.drop (onL l sc)) sc) ++ z)).drop (onL l sc)=(l.drop (onL l sc)).take (tailL (l.drop (onL l sc)) sc) ++ z:=by
    have hlen : (l.take (onL l sc)).length=onL l sc:=by rw [List.length_take];omega
    conv=>lhs;arg 1;rw [← hlen]
    exact List.drop_left
   rw [hd,h1,← e]
theorem name_local {l : Bs} {sc : Bool} (h : 0 < nameL l sc) {z : Bs} (hz : onL z sc=0) : nameL (l.take (nameL l sc) ++ z) sc=nameL l sc:=by
 have hb : begL l sc ≠ 0:=fun e=>by unfold nameL at h;rw [if_pos e] at h;omega
 have hle:=begL_le l sc
 have e : nameL l sc=begL l sc+tailL (l.drop (begL l sc)) sc:=by unfold nameL;rw [if_neg hb]
 have hcut : l.take (nameL l sc) ++ z=l.take (begL l sc) ++ ((l.drop (begL l sc)).take (tailL (l.drop (begL l sc)) sc) ++ z):=by
  rw [e,List.take_add,List.append_assoc]
 have hlen : (l.take (begL l sc)).length=begL l sc:=by rw [List.length_take];omega
 rw [hcut]
 unfold nameL
 rw [beg_local (by omega),if_neg hb]
 have hd : (l.take (begL l sc) ++ ((l.drop (begL l sc)).take (tailL (l.drop (begL l sc)) sc) ++ z)).drop (begL l sc)=(l.drop (begL l sc)).take (tailL (l.drop (begL l sc)) sc) ++ z:=by
  conv=>lhs;arg 1;rw [← hlen]
  exact List.drop_left
 rw [hd,tail_local _ _ sc z (Nat.le_refl _) hz,if_neg hb]
theorem on_zero {z : Bs} {sc : Bool} (h : onL z sc=0) : begL z sc=0∧(z=[] ∨ digC (atL z 0)=false):=by
 unfold onL at h
 split at h
 ·rename_i hb;exact absurd h hb
 ·rename_i hb
  refine ⟨by omega,?_⟩
  split at h
  ·cases h
  ·rename_i hd
   by_cases e : z=[]
   ·exact .inl e
   ·exact .inr (by simpa using fun h2=>hd ⟨e,h2⟩)
theorem digs_local {l : Bs} {z : Bs} (hz : z=[] ∨ digC (atL z 0)=false) : digsL (l.take (digsL l).length ++ z)=digsL l:=by
 have h1 : l.take (digsL l).length=digsL l:=by
  unfold digsL
  exact (List.prefix_iff_eq_take.1 (List.takeWhile_prefix _)).symm
 rw [h1]
 have hall : ∀ c ∈ digsL l,digC c.toNat=true:=fun c hc=>by
  unfold digsL at hc
  exact List.all_eq_true.1 List.all_takeWhile c hc
 have : ∀ d : Bs,(∀ c ∈ d,digC c.toNat=true)→digsL (d ++ z)=d:=by
  intro d
  induction d with
  | nil =>
   intro _
   cases z with
   | nil=>rfl
   | cons c r =>
    have : digC c.toNat=false:=by
     rcases hz with h | h
     ·cases h
     ·simpa [atL] using h
    simp [digsL,this]
  | cons c d ih =>
   intro h
   have hc:=h c (by simp)
   have:=ih (fun x hx=>h x (by simp [hx]))
   unfold digsL at this ⊢
   simp only [List.cons_append,List.takeWhile_cons,hc,if_true,this]
 exact this _ hall
end Go.Proofs.YthfkfbcopinmiaaGreatDoor
namespace Go.Proofs.YthfkfbcopinmiaaGreatDoor
def Unq.qs (u : Unq) : Prop:=u.st=0 ∨ u.q=34 ∨ u.q=39
theorem stepU_qs {u u' : Unq} {r : Int} (h : stepU u r=some u') (hq : u.qs) : u'.qs:=by
 unfold stepU at h
 split at h
 ·unfold stepFirst at h
  split at h
  ·rename_i h1
   cases h
   exact .inr h1
  ·cases h
 ·rename_i h0
  have hq2 : u.q=34 ∨ u.q=39:=hq.resolve_left h0
  have key : u'.q=u.q:=by
   split at h
   ·unfold stepInside at h
    repeat' split at h
    all_goals first | (cases h;done) | (cases h;rfl)
   ·split at h
    ·unfold stepEscaped at h
     repeat' split at h
     all_goals first | (cases h;done) | (cases h;rfl)
    ·split at h
     ·unfold stepNumbered at h
      repeat' split at h
      all_goals first | (cases h;done) | (cases h;rfl)
     ·first
       | (unfold stepCounting at h
          repeat' split at h
          all_goals first | (cases h;done) | (cases h;rfl))
       | (split at h
          ·unfold stepCounting at h
           repeat' split at h
           all_goals first | (cases h;done) | (cases h;rfl)
          ·first | (cases h;done) | (cases h;rfl))
  exact .inr (by rw [key];exact hq2)
theorem stepU_end {u u' : Unq} {r : Int} (h : stepU u r=some u') (h5 : u'.st=5) (hu : u.st ≠ 5) (hq : u.qs) : r=34 ∨ r=39:=by
 unfold stepU at h
 split at h
 ·unfold stepFirst at h
  split at h
  ·cases h;simp at h5
  ·cases h
 ·rename_i h0
  have hq2 : u.q=34 ∨ u.q=39:=hq.resolve_left h0
  split at h
  ·unfold stepInside at h
   split at h
   ·cases h
   ·split at h
    ·rename_i hr;rw [hr];exact hq2
    ·split at h
     ·cases h;simp [Unq.to] at h5
     ·cases h;simp [Unq.say] at h5
  ·exfalso
   split at h
   ·unfold stepEscaped at h
    repeat' split at h
    all_goals first | (cases h;done) | (cases h;simp [Unq.say,Unq.to] at h5)
   ·split at h
    ·unfold stepNumbered at h
     repeat' split at h
     all_goals first | (cases h;done) | (cases h;simp at h5)
    ·first
      | (unfold stepCounting at h
         repeat' split at h
         all_goals first | (cases h;done) | (cases h;simp [Unq.say] at h5;done) | (cases h;exact hu h5))
      | (split at h
         ·unfold stepCounting at h
          repeat' split at h
          all_goals first | (cases h;done) | (cases h;simp [Unq.say] at h5;done) | (cases h;exact hu h5)
         ·first | (cases h;done) | (cases h;exact hu h5))
theorem unqS_local : ∀ (m : Nat) (l : Bs) (u : Unq) (pos : Nat) (t : Bs) (n : Nat) (z : Bs),l.length ≤ m→u.st ≠ 5→u.qs→unqS (scan l) u pos=some (t,n)→unqS (scan (l.take (n - pos) ++ z)) u pos=some (t,n)
 | m,[],u,pos,t,n,z,_,_,_,h=>by rw [scan_nil] at h;cases h
 | 0,c :: r,u,pos,t,n,z,hm,_,_,h=>by simp at hm
 | m+1,c :: r,u,pos,t,n,z,hm,hu5,hq,h=>by
  have hne : (c :: r) ≠ []:=by simp
  have hw:=decL_width (c :: r)
  have hle:=decL_le (c :: r) hne
  have hlen:=unqS_len _ _ _ _ _ _ (Nat.le_refl _) h
  cases hs : strayL (c :: r)
  ·cases hu : stepU u (decL (c :: r)).1 with
   | none=>rw [unqS_none _ hne hs u pos hu] at h;cases h
   | some u' =>
    obtain ⟨l,hl⟩ : ∃ l,l=c :: r:=⟨_,rfl⟩
    rw [← hl] at hne hw hle hlen hs hu h hm ⊢
    by_cases h5 : u'.st=5
    ·rw [unqS_end _ hne hs u u' pos hu h5] at h
     have hr:=stepU_end hu h5 hu5 hq
     have hlow : atL l 0 < 128:=by
      by_cases hb : atL l 0 < 128
      ·exact hb
      ·have:=decL_high l hb
       omega
     have hd1 : (decL l).2=1:=by rw [dec_low1 hlow]
     cases h
     have e1 : pos+1 - pos=(decL l).2:=by omega
     rw [e1]
     have hne2 : l.take (decL l).2 ++ z ≠ []:=fun e=>take_ne hne (show 0 < (decL l).2 from hw.1) (List.append_eq_nil_iff.1 e).1
     exact unqS_end _ hne2 (stray_local hne hs z) u u' pos (by rw [dec_local hne hs z];exact hu) h5
    ·rw [unqS_more _ hne hs u u' pos hu h5] at h
     have hlen2:=unqS_len _ _ _ _ _ _ (Nat.le_refl _) h
     have ih:=unqS_local m _ u' _ t n z (by simp only [List.length_drop];omega) h5 (stepU_qs hu hq) h
     have hcut : l.take (n - pos) ++ z=l.take (decL l).2 ++ ((l.drop (decL l).2).take (n - (pos+(decL l).2)) ++ z):=by
      rw [show n - pos=(decL l).2+(n - (pos+(decL l).2)) from by omega,List.take_add,List.append_assoc]
     rw [hcut]
     have hne2 : ∀ q,l.take (decL l).2 ++ q ≠ []:=fun q=>by simp [take_ne hne (show 0 < (decL l).2 by omega)]
     rw [unqS_more _ (hne2 _) (stray_local hne hs _) u u' pos (by rw [dec_local hne hs _];exact hu) h5,dec_local hne hs]
     have hlt : (l.take (decL l).2).length=(decL l).2:=by rw [List.length_take];omega
     have hd : (l.take (decL l).2 ++ ((l.drop (decL l).2).take (n - (pos+(decL l).2)) ++ z)).drop (decL l).2=(l.drop (decL l).2).take (n - (pos+(decL l).2)) ++ z:=by
      conv=>lhs;arg 1;rw [← hlt]
      exact List.drop_left
     rw [hd]
     exact ih
  ·rw [unqS_stray _ hne hs u pos] at h;cases h
theorem unq_local {l t : Bs} {n : Nat} (h : unquoteL l=some (t,n)) (z : Bs) : unquoteL (l.take n ++ z)=some (t,n):=by
 have:=unqS_local l.length l Unq.start 0 t n z (Nat.le_refl _) (by decide) (.inl rfl) h
 rw [Nat.sub_zero] at this
 exact this
theorem signs_low : ∀ g ∈ signsL,g ≠ []∧atL g 0 < 128∧(32 : UInt8) ∉ g:=by decide
theorem find_sub {α : Type} {p q : α→Bool} {x : α} : ∀ {l : List α},l.find? p=some x→(∀ y ∈ l,q y=true→p y=true)→q x=true→l.find? q=some x
 | y :: l,h,hs,hx=>by
  rw [List.find?_cons] at h
  split at h
  ·cases h;simp [hx]
  ·rename_i hp
   have hq : q y=false:=by
    cases hq : q y
    ·rfl
    ·have:=hs y (by simp) hq;rw [hp] at this;cases this
   simp only [List.find?_cons,hq]
   exact find_sub h (fun z hz=>hs z (by simp [hz])) hx
structure Stop (l : Bs) (x : Tk × Nat) (z : Bs) (sc : Bool) : Prop where
 on : x.1.1=1 ∨ x.1.1=2 ∨ x.1.1=3→onL z sc=0
 sg : ∀ g ∈ signsL,g.isPrefixOf (l.take x.2 ++ z)=true→g.isPrefixOf l=true
theorem next_local {l : Bs} {sc : Bool} {x : Tk × Nat} {z : Bs} (hl : l ≠ []) (h : nextL l sc = .ok x) (hz : Stop l x z sc) : nextL (l.take x.2 ++ z) sc = .ok x:=by
 have hlen:=next_len hl h
 have hne : l.take x.2 ++ z ≠ []:=by simp [take_ne hl (show 0 < x.2 by omega)]
 have hat : atL (l.take x.2 ++ z) 0=atL l 0:=by rw [atL_app0 (take_ne hl (by omega)),atL_take0 (by omega)]
 have h':=h
 unfold nextL at h
 split at h
 ·rename_i h1
  have e2 : x.2=nameL l sc:=by cases h;rfl
  have hk : x.1.1=1 ∨ x.1.1=2 ∨ x.1.1=3:=by
   cases h
   simp only
   split
   ·exact .inr (.inl rfl)
   ·exact .inl rfl
  have hn:=name_local h1 (hz.on hk)
  rw [← e2] at hn
  unfold nextL
  rw [hn,e2,if_pos h1]
  cases h
  have ht : (l.take (nameL l sc) ++ z).take (nameL l sc)=l.take (nameL l sc):=by
   have hlt : (l.take (nameL l sc)).length=nameL l sc:=by rw [List.length_take];have:=nameL_le l sc;omega
   conv=>lhs;arg 1;rw [← hlt]
   exact List.take_left
  rw [ht]
 ·rename_i h1
  have hbl : begL l sc=0:=by
   by_cases e : begL l sc=0
   ·exact e
   ·exfalso
    apply h1
    unfold nameL
    rw [if_neg e]
    omega
  have nm : ∀ (hlow : atL l 0 < 128),nameL (l.take x.2 ++ z) sc=0:=fun hlow=>by
   unfold nameL
   rw [beg_low hl hne hlow hat,if_pos hbl]
  split at h
  ·rename_i h2
   have hlow : atL l 0 < 128:=by unfold digC at h2;simp at h2;omega
   unfold nextL
   rw [nm hlow,if_neg (by omega),hat,if_pos h2]
   unfold numbL at h ⊢
   split at h
   ·cases h
   ·rename_i h3
    split at h
    ·cases h
    ·rename_i h4
     cases h
     obtain ⟨hb0,hd0⟩:=on_zero (hz.on (.inr (.inr rfl)))
     simp only at hat hne ⊢
     rw [digs_local hd0,hat]
     have hdr : (l.take (digsL l).length ++ z).drop (digsL l).length=z:=by
      have hlt : (l.take (digsL l).length).length=(digsL l).length:=by rw [List.length_take];have:=digsL_le l;omega
      conv=>lhs;arg 1;rw [← hlt]
      exact List.drop_left
     rw [hdr,hb0,if_neg (fun hc=>h3 (.inl (hc.resolve_right (by omega)))),if_neg h4]
  ·rename_i h2
   split at h
   ·rename_i h3
    have hlow : atL l 0 < 128:=by omega
    unfold nextL
    rw [nm hlow,if_neg (by omega),hat,if_neg h2,if_pos h3]
    unfold unqNx at h ⊢
    split at h
    ·rename_i y hy
     cases h
     rw [unq_local (t:=y.1) (n:=y.2) hy z]
    ·cases h
   ·rename_i h3
    unfold signNx at h
    split at h
    ·rename_i g hg
     cases h
     have hm:=List.mem_of_find?_eq_some hg
     have hp:=List.find?_some hg
     obtain ⟨g0,glow,_⟩:=signs_low g hm
     obtain ⟨r,hr⟩:=List.isPrefixOf_iff_prefix.1 hp
     have hlow : atL l 0 < 128:=by rw [← hr,atL_app0 g0];exact glow
     unfold nextL
     rw [nm hlow,if_neg (by omega),hat,if_neg h2,if_neg h3]
     unfold signNx
     have htk : l.take g.length=g:=by rw [← hr];exact List.take_left
     rw [find_sub hg (fun y hy hq=>hz.sg y hy hq) (by
      show List.isPrefixOf g (l.take g.length ++ z)=true
      rw [htk]
      exact List.isPrefixOf_iff_prefix.2 ⟨z,rfl⟩)]
    ·cases h
end Go.Proofs.YthfkfbcopinmiaaGreatDoor
namespace Go.Proofs.YthfkfbcopinmiaaGreatDoor
theorem lex_step {a : Nat} {l : Bs} {sc : Bool} {ts : List (Tk × Nat)} (h : lexL a l sc = .ok ts) :
 (pastL l).2=true∧((l.drop (pastL l).1=[]∧ts=[]) ∨ ∃ x ts',l.drop (pastL l).1 ≠ []∧nextL (l.drop (pastL l).1) sc = .ok x∧lexL (a+(pastL l).1+x.2) (l.drop ((pastL l).1+x.2)) sc = .ok ts'∧ts=(x.1,a+(pastL l).1) :: ts'):=by
 rw [lexL_eq] at h
 split at h
 ·cases h
 ·rename_i h1
  refine ⟨by simpa using h1,?_⟩
  split at h
  ·rename_i h2
   cases h
   exact .inl ⟨h2,rfl⟩
  ·rename_i h2
   cases hx : nextL (l.drop (pastL l).1) sc with
   | error e=>rw [hx] at h;cases h
   | ok x =>
    rw [hx] at h
    simp only at h
    cases hy : lexL (a+(pastL l).1+x.2) (l.drop ((pastL l).1+x.2)) sc with
    | error e=>rw [hy] at h;cases h
    | ok ts' =>
     rw [hy] at h
     cases h
     exact .inr ⟨x,ts',h2,rfl,hy,rfl⟩
theorem lex_made {a : Nat} {l : Bs} {sc : Bool} {x : Tk × Nat} {ts' : List (Tk × Nat)} (h1 : (pastL l).2=true) (h2 : l.drop (pastL l).1 ≠ []) (h3 : nextL (l.drop (pastL l).1) sc = .ok x) (h4 : lexL (a+(pastL l).1+x.2) (l.drop ((pastL l).1+x.2)) sc = .ok ts') :
 lexL a l sc = .ok ((x.1,a+(pastL l).1) :: ts'):=by
 rw [lexL_eq,if_neg (by rw [h1];simp),if_neg h2,h3]
 simp only
 rw [h4]
 rfl
theorem lex_end {a : Nat} {l : Bs} {sc : Bool} (h1 : (pastL l).2=true) (h2 : l.drop (pastL l).1=[]) : lexL a l sc = .ok []:=by
 rw [lexL_eq,if_neg (by rw [h1];simp),if_pos h2]
theorem dollar_bad {a : Nat} {r : Bs} {ts : List (Tk × Nat)} (h : lexL a (36 :: r) false = .ok ts) : False:=by
 have hp : pastL (36 :: r)=(0,true):=by
  rw [pastL_cons,if_neg (by decide),if_neg (fun h=>absurd h.1 (by decide)),if_neg (fun h=>absurd h.1 (by decide))]
 have hx : nextL (36 :: r) false = .error 40:=by
  have ha : atL (36 :: r) 0=36:=rfl
  have hb : begL (36 :: r) false=0:=by
   unfold begL
   have hd : decL (36 :: r)=(36,1):=dec_low1 (by rw [ha];omega)
   unfold strayL
   rw [if_neg (by simp),ha,hd]
   decide
  have hn : nameL (36 :: r) false=0:=by unfold nameL;rw [if_pos hb]
  unfold nextL
  rw [hn,if_neg (by omega),ha,if_neg (by decide),if_neg (by omega)]
  unfold signNx
  have : signsL.find? (fun g=>g.isPrefixOf (36 :: r))=none:=by
   rw [List.find?_eq_none]
   have hall : ∀ g ∈ signsL,g.head? ≠ some 36∧g ≠ []:=by decide
   intro g hg hpre
   obtain ⟨h1,h2⟩:=hall g hg
   cases g with
   | nil=>exact h2 rfl
   | cons c q =>
    simp [List.isPrefixOf] at hpre
    exact h1 (by simp [hpre.1])
  rw [this]
 obtain ⟨_,h2⟩:=lex_step h
 rw [hp] at h2
 rcases h2 with ⟨h2,_⟩ | ⟨x,ts',_,h3,_⟩
 ·simp at h2
 ·rw [List.drop_zero,hx] at h3;cases h3
theorem beg_sc {l : Bs} (h : l=[] ∨ atL l 0 ≠ 36) : begL l true=begL l false:=by
 unfold begL
 rcases h with rfl | h
 ·rfl
 ·simp [h]
theorem beg_sc_pos {l : Bs} (h : begL l false ≠ 0) : begL l true=begL l false:=by
 apply beg_sc
 by_cases hl : l=[]
 ·exact .inl hl
 ·refine .inr fun e=>h ?_
  unfold begL
  have hd : decL l=(36,1):=by rw [dec_low1 (by omega),e]
  unfold strayL
  rw [if_neg hl,e,hd]
  decide
theorem on_sc_pos {l : Bs} (h : onL l false ≠ 0) : onL l true=onL l false:=by
 by_cases hb : begL l false ≠ 0
 ·unfold onL
  rw [beg_sc_pos hb]
 ·have hb0 : begL l false=0:=by omega
  by_cases hd : l ≠ []∧digC (atL l 0)=true
  ·have h36 : atL l 0 ≠ 36:=fun e=>by rw [e] at hd;exact absurd hd.2 (by decide)
   unfold onL
   rw [beg_sc (.inr h36)]
  ·exfalso
   apply h
   unfold onL
   rw [if_neg hb,if_neg hd]
theorem on_sc {l : Bs} (h : l=[] ∨ atL l 0 ≠ 36) : onL l true=onL l false:=by unfold onL;rw [beg_sc h]
theorem tail_sc : ∀ (m : Nat) (l : Bs),l.length ≤ m→(l.drop (tailL l false)=[] ∨ atL (l.drop (tailL l false)) 0 ≠ 36)→tailL l true=tailL l false:=by
 intro m
 induction m with
 | zero =>
  intro l hm _
  have hl : l=[]:=List.eq_nil_of_length_eq_zero (by omega)
  subst hl
  rfl
 | succ m ih =>
  intro l hm h
  by_cases h0 : onL l false=0
  ·have e : tailL l false=0:=by rw [tailL_eq,if_pos h0]
   rw [e,List.drop_zero] at h
   rw [e,tailL_eq,on_sc h,if_pos h0]
  ·have hle:=onL_le l false
   have e : tailL l false=onL l false+tailL (l.drop (onL l false)) false:=by rw [tailL_eq,if_neg h0]
   rw [e,← List.drop_drop] at h
   have:=ih (l.drop (onL l false)) (by simp;omega) h
   rw [e,tailL_eq,on_sc_pos h0,if_neg h0,this]
theorem next_sc {l : Bs} {x : Tk × Nat} (h : nextL l false = .ok x) (hd : l.drop x.2=[] ∨ atL (l.drop x.2) 0 ≠ 36) : nextL l true = .ok x:=by
 have h':=h
 unfold nextL at h
 split at h
 ·rename_i h1
  have hb : begL l false ≠ 0:=fun e=>by unfold nameL at h1;rw [if_pos e] at h1;omega
  have e : nameL l false=begL l false+tailL (l.drop (begL l false)) false:=by unfold nameL;rw [if_neg hb]
  have hx2 : x.2=nameL l false:=by cases h;rfl
  rw [hx2,e,← List.drop_drop] at hd
  have hn : nameL l true=nameL l false:=by
   unfold nameL
   rw [beg_sc_pos hb,tail_sc _ _ (Nat.le_refl _) hd]
  unfold nextL
  rw [hn,if_pos h1]
  exact h
 ·rename_i h1
  have hbl : begL l false=0:=by
   by_cases e : begL l false=0
   ·exact e
   ·exfalso
    apply h1
    unfold nameL
    rw [if_neg e]
    omega
  by_cases h36 : l=[] ∨ atL l 0 ≠ 36
  ·have hn : nameL l true=0:=by unfold nameL;rw [beg_sc h36,if_pos hbl]
   unfold nextL
   rw [hn,if_neg (by omega)]
   split at h
   ·rename_i h2
    rw [if_pos h2]
    unfold numbL at h ⊢
    have hx : x.2=(digsL l).length:=by
     split at h
     ·cases h
     ·split at h
      ·cases h
      ·cases h;rfl
    rw [hx] at hd
    rw [beg_sc hd]
    exact h
   ·rename_i h2
    rw [if_neg h2]
    exact h
  ·exfalso
   have h3 : l ≠ []∧atL l 0=36:=by
    refine ⟨fun e=>h36 (.inl e),?_⟩
    by_cases e : atL l 0=36
    ·exact e
    ·exact absurd (.inr e) h36
   cases l with
   | nil=>exact h3.1 rfl
   | cons c r =>
    have hc : c=36:=UInt8.toNat_inj.1 (by simpa [atL] using h3.2)
    subst hc
    have hb : digC (atL (36 :: r) 0)=false:=by rw [h3.2];decide
    rw [if_neg (by rw [hb];simp),if_neg (by rw [h3.2];omega)] at h
    unfold signNx at h
    split at h
    ·rename_i g hg
     have hm:=List.mem_of_find?_eq_some hg
     have hp:=List.find?_some hg
     have hall : ∀ g ∈ signsL,g.head? ≠ some 36∧g ≠ []:=by decide
     obtain ⟨q1,q2⟩:=hall g hm
     cases g with
     | nil=>exact q2 rfl
     | cons c q =>
      simp [List.isPrefixOf] at hp
      exact q1 (by simp [hp.1])
    ·cases h
theorem scripts : ∀ (m a : Nat) (l : Bs) (ts : List (Tk × Nat)),l.length ≤ m→lexL a l false = .ok ts→lexL a l true = .ok ts:=by
 intro m
 induction m with
 | zero =>
  intro a l ts hm h
  have hl : l=[]:=List.eq_nil_of_length_eq_zero (by omega)
  subst hl
  obtain ⟨h1,h2⟩:=lex_step h
  rcases h2 with ⟨h2,rfl⟩ | ⟨x,ts',h2,_⟩
  ·exact lex_end h1 h2
  ·exact absurd (by simp) h2
 | succ m ih =>
  intro a l ts hm h
  obtain ⟨h1,h2⟩:=lex_step h
  rcases h2 with ⟨h2,rfl⟩ | ⟨x,ts',h2,h3,h4,rfl⟩
  ·exact lex_end h1 h2
  ·have hlen:=next_len h2 h3
   simp only [List.length_drop] at hlen
   have h5:=ih _ _ ts' (by simp;omega) h4
   refine lex_made h1 h2 (next_sc h3 ?_) h5
   rw [List.drop_drop]
   by_cases he : l.drop ((pastL l).1+x.2)=[]
   ·exact .inl he
   ·refine .inr fun e=>?_
    cases hr : l.drop ((pastL l).1+x.2) with
    | nil=>exact he hr
    | cons c r =>
     rw [hr] at e h4
     have hc : c=36:=UInt8.toNat_inj.1 (by simpa [atL] using e)
     subst hc
     exact dollar_bad h4
theorem next_text_at {l : Bs} {sc : Bool} {x : Tk × Nat} (h : nextL l sc = .ok x) : (x.1.1=1 ∨ x.1.1=2 ∨ x.1.1=5→x.1.2.1=l.take x.2∧x.1.2.1.length=x.2)∧(1 ≤ x.1.1∧x.1.1 ≤ 5):=by
 unfold nextL at h
 split at h
 ·cases h
  have hle:=nameL_le l sc
  refine ⟨fun _=>⟨rfl,by simp;omega⟩,?_⟩
  split <;> simp
 ·split at h
  ·unfold numbL at h
   split at h
   ·cases h
   ·split at h
    ·cases h
    ·cases h
     exact ⟨fun h=>by simp at h,by simp⟩
  ·split at h
   ·unfold unqNx at h
    split at h
    ·cases h
     exact ⟨fun h=>by simp at h,by simp⟩
    ·cases h
   ·unfold signNx at h
    split at h
    ·rename_i g hg
     cases h
     have hp:=List.find?_some hg
     obtain ⟨r,hr⟩:=List.isPrefixOf_iff_prefix.1 hp
     refine ⟨fun _=>⟨?_,rfl⟩,by simp⟩
     show g=l.take g.length
     rw [← hr]
     exact List.take_left.symm
    ·cases h
end Go.Proofs.YthfkfbcopinmiaaGreatDoor
namespace Go.Proofs.YthfkfbcopinmiaaGreatDoor
def kinds (ts : List (Tk × Nat)) : List Tk:=ts.map Prod.fst
theorem shift : ∀ (m a b : Nat) (l : Bs) (sc : Bool) (ts : List (Tk × Nat)),l.length ≤ m→lexL a l sc = .ok ts→∃ ts',lexL b l sc = .ok ts'∧kinds ts'=kinds ts:=by
 intro m
 induction m with
 | zero =>
  intro a b l sc ts hm h
  obtain ⟨h1,h2⟩:=lex_step h
  rcases h2 with ⟨h2,rfl⟩ | ⟨x,ts',h2,_⟩
  ·exact ⟨[],lex_end h1 h2,rfl⟩
  ·exact absurd (List.drop_eq_nil_of_le (by omega)) h2
 | succ m ih =>
  intro a b l sc ts hm h
  obtain ⟨h1,h2⟩:=lex_step h
  rcases h2 with ⟨h2,rfl⟩ | ⟨x,ts',h2,h3,h4,rfl⟩
  ·exact ⟨[],lex_end h1 h2,rfl⟩
  ·have hlen:=next_len h2 h3
   simp only [List.length_drop] at hlen
   obtain ⟨ts2,h5,h6⟩:=ih _ (b+(pastL l).1+x.2) _ sc ts' (by simp;omega) h4
   exact ⟨_,lex_made h1 h2 h3 h5,by simp [kinds] at h6 ⊢;exact h6⟩
theorem past_none {c : UInt8} {r : Bs} (h : pastL (c :: r)=(0,true)) : isBl c=false∧¬ (c=47∧r.head?=some 47)∧¬ (c=47∧r.head?=some 42):=by
 rw [pastL_cons] at h
 split at h
 ·simp at h
 ·rename_i h1
  split at h
  ·simp at h
  ·rename_i h2
   split at h
   ·split at h
    ·simp at h
    ·simp at h
   ·rename_i h3
    exact ⟨by simpa using h1,h2,h3⟩
theorem past_here {c : UInt8} {r : Bs} (h1 : isBl c=false) (h2 : ¬ (c=47∧r.head?=some 47)) (h3 : ¬ (c=47∧r.head?=some 42)) : pastL (c :: r)=(0,true):=by
 rw [pastL_cons,if_neg (by rw [h1];simp),if_neg h2,if_neg h3]
theorem lineL_app : ∀ (r q : Bs),lineL r < r.length→lineL (r ++ q)=lineL r
 | [],q,h=>by simp at h
 | c :: r,q,h=>by
  by_cases hc : c=10
  ·simp [lineL,hc]
  ·simp only [lineL,hc,if_false,List.cons_append,List.length_cons] at h ⊢
   rw [lineL_app r q (by omega)]
theorem noteL_app : ∀ (r q : Bs) (k : Nat),noteL r=some k→noteL (r ++ q)=some k
 | c :: r,q,k,h=>by
  unfold noteL at h
  split at h
  ·rename_i hc
   have : (r ++ q).head?=some 47:=by
    cases r with
    | nil=>simp at hc
    | cons d r=>simpa using hc.2
   simp only [List.cons_append]
   unfold noteL
   rw [if_pos ⟨hc.1,this⟩]
   exact h
  ·rename_i hc
   cases hn : noteL r with
   | none=>rw [hn] at h;cases h
   | some j =>
    rw [hn] at h
    have ih:=noteL_app r q j hn
    simp only [List.cons_append]
    unfold noteL
    rw [if_neg,ih]
    ·exact h
    ·rintro ⟨h1,h2⟩
     cases r with
     | nil=>simp [noteL] at hn
     | cons d r=>exact hc ⟨h1,by simpa using h2⟩
theorem line_end : ∀ {r : Bs} {d : UInt8} {t : Bs},r.drop (lineL r)=d :: t→d=10
 | [],d,t,h=>by simp at h
 | c :: r,d,t,h=>by
  by_cases hc : c=10
  ·simp [lineL,hc] at h;exact h.1.symm
  ·simp only [lineL,hc,if_false,List.drop_succ_cons] at h
   exact line_end h
theorem line_take : ∀ {r : Bs} {n : Nat},lineL r < r.length→lineL r < n→lineL (r.take n)=lineL r
 | [],n,h,_=>by simp at h
 | c :: r,n,h,hn=>by
  cases n with
  | zero=>omega
  | succ n =>
   by_cases hc : c=10
   ·simp [lineL,hc]
   ·simp only [lineL,hc,if_false,List.length_cons,List.take_succ_cons] at h hn ⊢
    rw [line_take (by omega) (by omega)]
theorem note_take : ∀ {r : Bs} {j : Nat},noteL r=some j→noteL (r.take j)=some j
 | c :: r,j,h=>by
  unfold noteL at h
  split at h
  ·rename_i hc
   cases h
   cases r with
   | nil=>simp at hc
   | cons d t =>
    simp only [List.take_succ_cons,List.take_zero]
    unfold noteL
    rw [if_pos ⟨hc.1,by simpa using hc.2⟩]
  ·rename_i hc
   cases hn : noteL r with
   | none=>rw [hn] at h;cases h
   | some i =>
    rw [hn] at h
    cases h
    have ih:=note_take hn
    have hi:=noteL_le _ _ hn
    simp only [List.take_succ_cons]
    unfold noteL
    rw [if_neg,ih]
    ·rfl
    ·rintro ⟨h1,h2⟩
     apply hc
     refine ⟨h1,?_⟩
     cases r with
     | nil=>simp [noteL] at hn
     | cons d t =>
      cases i with
      | zero=>omega
      | succ i=>simpa using h2
theorem past_app : ∀ (m : Nat) (l q : Bs),l.length ≤ m→(pastL l).2=true→(pastL l).1 < l.length→pastL (l.take (pastL l).1 ++ q)=((pastL l).1+(pastL q).1,(pastL q).2)∧pastL (l.drop (pastL l).1)=(0,true):=by
 intro m
 induction m with
 | zero=>intro l q hm _ h;omega
 | succ m ih =>
  intro l q hm h1 h2
  cases l with
  | nil=>simp at h2
  | cons c r =>
   simp only [List.length_cons] at hm h2
   have hpc:=pastL_cons c r
   split at hpc
   ·rename_i hb
    rw [hpc] at h1 h2 ⊢
    simp only at h1 h2
    obtain ⟨i1,i2⟩:=ih r q (by omega) h1 (by omega)
    constructor
    ·simp only [List.take_succ_cons,List.cons_append]
     rw [pastL_cons,if_pos hb,i1]
     simp only [Prod.mk.injEq,and_true]
     omega
    ·simpa using i2
   ·rename_i hb
    split at hpc
    ·rename_i hl
     rw [hpc] at h1 h2 ⊢
     simp only at h1 h2
     have hle:=lineL_le r
     have hlt : lineL r < r.length:=by omega
     obtain ⟨i1,i2⟩:=ih (r.drop (lineL r)) q (by simp;omega) h1 (by simp only [List.length_drop];omega)
     have hne : r ≠ []:=fun e=>by rw [e] at hl;simp at hl
     obtain ⟨k,hk⟩ : ∃ k,k=(pastL (r.drop (lineL r))).1:=⟨_,rfl⟩
     rw [← hk] at i1 i2 h2 ⊢
     have hkp : 0 < k:=by
      -- ahead of the line's end stands the line's end itself: it is passed over
      cases hd : r.drop (lineL r) with
      | nil=>rw [List.drop_eq_nil_iff] at hd;omega
      | cons d t =>
       have hd10 : d=10:=line_end hd
       rw [hd,pastL_cons,hd10,if_pos (by decide)] at hk
       omega
     have htk : (c :: r).take (k+(lineL r+1))=c :: (r.take (lineL r) ++ (r.drop (lineL r)).take k):=by
      rw [show k+(lineL r+1)=(lineL r+k)+1 from by omega,List.take_succ_cons,List.take_add]
     constructor
     ·rw [htk]
      simp only [List.cons_append,List.append_assoc]
      rw [pastL_cons,if_neg hb]
      have hh : (r.take (lineL r) ++ ((r.drop (lineL r)).take k ++ q)).head?=some 47:=by
       have h47:=hl.2
       cases r with
       | nil=>exact absurd rfl hne
       | cons d t =>
        have hd : d=47:=by simpa using h47
        subst hd
        have : lineL (47 :: t)=lineL t+1:=by simp [lineL]
        rw [this]
        simp
      have hl2 : lineL (r.take (lineL r) ++ ((r.drop (lineL r)).take k ++ q))=lineL r:=by
       have e : r.take (lineL r) ++ ((r.drop (lineL r)).take k ++ q)=r.take (lineL r+k) ++ q:=by rw [List.take_add,List.append_assoc]
       rw [e]
       have hlt2 : lineL (r.take (lineL r+k))=lineL r:=line_take hlt (by omega)
       rw [lineL_app _ _ (by rw [hlt2,List.length_take];omega),hlt2]
      rw [if_pos ⟨hl.1,hh⟩,hl2]
      have hdr : (r.take (lineL r) ++ ((r.drop (lineL r)).take k ++ q)).drop (lineL r)=(r.drop (lineL r)).take k ++ q:=by
       have hlen : (r.take (lineL r)).length=lineL r:=by rw [List.length_take];omega
       conv=>lhs;arg 1;rw [← hlen]
       exact List.drop_left
      rw [hdr,i1]
      simp only [Prod.mk.injEq,and_true]
      omega
     ·rw [show k+(lineL r+1)=(lineL r+k)+1 from by omega,List.drop_succ_cons,← List.drop_drop]
      exact i2
    ·rename_i hl
     split at hpc
     ·rename_i hn
      cases hnl : noteL r.tail with
      | none=>rw [hnl] at hpc;rw [hpc] at h1;cases h1
      | some j =>
       rw [hnl] at hpc
       simp only at hpc
       rw [hpc] at h1 h2 ⊢
       simp only at h1 h2
       have hj:=noteL_le _ _ hnl
       simp only [List.length_tail] at hj
       obtain ⟨i1,i2⟩:=ih (r.tail.drop j) q (by simp;omega) h1 (by simp only [List.length_drop,List.length_tail];omega)
       cases r with
       | nil=>simp at hn
       | cons d t =>
        simp only [List.tail_cons] at hnl i1 i2 h2 hj ⊢
        obtain ⟨k,hk⟩ : ∃ k,k=(pastL (t.drop j)).1:=⟨_,rfl⟩
        rw [← hk] at i1 i2 h2 ⊢
        have hj2 : j ≤ t.length:=by have:=(noteL_le _ _ hnl).2;exact this
        have htk : (c :: d :: t).take (k+(j+2))=c :: d :: (t.take j ++ (t.drop j).take k):=by
         rw [show k+(j+2)=(j+k)+1+1 from by omega,List.take_succ_cons,List.take_succ_cons,List.take_add]
        constructor
        ·rw [htk]
         simp only [List.cons_append,List.append_assoc]
         rw [pastL_cons,if_neg hb,if_neg (by rintro ⟨a1,a2⟩;exact hl ⟨a1,by simpa using a2⟩),if_pos ⟨hn.1,by simpa using hn.2⟩]
         simp only [List.tail_cons]
         have hn2 : noteL (t.take j ++ ((t.drop j).take k ++ q))=some j:=by
          have h0:=note_take hnl
          exact noteL_app _ _ _ h0
         rw [hn2]
         have hdr : (t.take j ++ ((t.drop j).take k ++ q)).drop j=(t.drop j).take k ++ q:=by
          have hlen : (t.take j).length=j:=by rw [List.length_take];omega
          conv=>lhs;arg 1;rw [← hlen]
          exact List.drop_left
         simp only
         rw [hdr,i1]
         simp only [Prod.mk.injEq,and_true]
         omega
        ·rw [show k+(j+2)=(j+k)+1+1 from by omega,List.drop_succ_cons,List.drop_succ_cons,← List.drop_drop]
         exact i2
     ·rename_i hn
      rw [hpc]
      simp only [List.take_zero,List.nil_append,List.drop_zero]
      exact ⟨by simp,hpc⟩
end Go.Proofs.YthfkfbcopinmiaaGreatDoor
namespace Go.Proofs.YthfkfbcopinmiaaGreatDoor
theorem pre_cut {g A B : Bs} (h : g.isPrefixOf (A ++ 32 :: B)=true) (h32 : 32 ∉ g) : g.isPrefixOf A=true:=by
 obtain ⟨r,hr⟩:=List.isPrefixOf_iff_prefix.1 h
 apply List.isPrefixOf_iff_prefix.2
 rcases Nat.lt_or_ge A.length g.length with hl | hl
 ·exfalso
  apply h32
  have e : g[A.length]?=some 32:=by
   have h1 : (g ++ r)[A.length]?=(A ++ 32 :: B)[A.length]?:=by rw [hr]
   rw [List.getElem?_append_left hl,List.getElem?_append_right (Nat.le_refl _)] at h1
   simpa using h1
  exact List.mem_of_getElem? e
 ·exact List.prefix_of_prefix_length_le ⟨r,hr⟩ ⟨32 :: B,rfl⟩ hl
theorem pre_more {g A : Bs} (B : Bs) (h : g.isPrefixOf A=true) : g.isPrefixOf (A ++ B)=true:=by
 obtain ⟨r,hr⟩:=List.isPrefixOf_iff_prefix.1 h
 exact List.isPrefixOf_iff_prefix.2 ⟨r ++ B,by rw [← List.append_assoc,hr]⟩
theorem on_32 (r : Bs) (sc : Bool) : onL (32 :: r) sc=0:=by
 have ha : atL (32 :: r) 0=32:=rfl
 have hb : begL (32 :: r) sc=0:=by
  unfold begL strayL
  rw [if_neg (by simp),ha,dec_low1 (by rw [ha];omega),ha]
  rw [if_neg (by omega),if_neg (by decide)]
 unfold onL
 rw [if_neg (by omega),ha,if_neg (fun h=>absurd h.2 (by decide))]
theorem on_low {l m : Bs} (hl : l ≠ []) (hm : m ≠ []) (h : atL l 0 < 128) (he : atL m 0=atL l 0) (sc : Bool) : onL m sc=onL l sc:=by
 unfold onL
 rw [beg_low hl hm h he,he]
 simp [hl,hm]
theorem tail_stop : ∀ (m : Nat) (l : Bs) (sc : Bool),l.length ≤ m→onL (l.drop (tailL l sc)) sc=0:=by
 intro m
 induction m with
 | zero =>
  intro l sc hm
  have hl : l=[]:=List.eq_nil_of_length_eq_zero (by omega)
  subst hl
  simp [onL,begL]
 | succ m ih =>
  intro l sc hm
  by_cases h0 : onL l sc=0
  ·have e : tailL l sc=0:=by rw [tailL_eq,if_pos h0]
   rw [e]
   exact h0
  ·have hle:=onL_le l sc
   have e : tailL l sc=onL l sc+tailL (l.drop (onL l sc)) sc:=by rw [tailL_eq,if_neg h0]
   rw [e,← List.drop_drop]
   exact ih _ sc (by simp;omega)
theorem digs_stop (l : Bs) : l.drop (digsL l).length=[] ∨ digC (atL (l.drop (digsL l).length) 0)=false:=by
 induction l with
 | nil=>exact .inl rfl
 | cons c r ih =>
  cases hc : digC c.toNat
  ·right
   simp [digsL,hc,atL]
  ·have e : digsL (c :: r)=c :: digsL r:=by simp [digsL,hc]
   rw [e]
   simpa using ih
theorem next_stop {l : Bs} {sc : Bool} {x : Tk × Nat} (h : nextL l sc = .ok x) (hk : x.1.1=1 ∨ x.1.1=2 ∨ x.1.1=3) : onL (l.drop x.2) sc=0:=by
 unfold nextL at h
 split at h
 ·rename_i h1
  have hb : begL l sc ≠ 0:=fun e=>by unfold nameL at h1;rw [if_pos e] at h1;omega
  have e : nameL l sc=begL l sc+tailL (l.drop (begL l sc)) sc:=by unfold nameL;rw [if_neg hb]
  have hx2 : x.2=nameL l sc:=by cases h;rfl
  rw [hx2,e,← List.drop_drop]
  exact tail_stop _ _ sc (Nat.le_refl _)
 ·split at h
  ·unfold numbL at h
   split at h
   ·cases h
   ·rename_i h3
    split at h
    ·cases h
    ·cases h
     have hb : begL (l.drop (digsL l).length) sc=0:=by
      have : ¬ 0 < begL (l.drop (digsL l).length) sc:=fun hc=>h3 (.inr hc)
      omega
     have hd:=digs_stop l
     unfold onL
     rw [if_neg (by simp only;omega),if_neg]
     rintro ⟨a1,a2⟩
     rcases hd with hd | hd
     ·exact a1 hd
     ·simp only at a2;rw [hd] at a2;cases a2
  ·split at h
   ·unfold unqNx at h
    split at h
    ·cases h;simp at hk
    ·cases h
   ·unfold signNx at h
    split at h
    ·cases h;simp at hk
    ·cases h
theorem high_name {l : Bs} {sc : Bool} {x : Tk × Nat} (hl : l ≠ []) (h : nextL l sc = .ok x) (hh : ¬ atL l 0 < 128) : onL l sc ≠ 0:=by
 unfold nextL at h
 split at h
 ·rename_i h1
  have hb : begL l sc ≠ 0:=fun e=>by unfold nameL at h1;rw [if_pos e] at h1;omega
  unfold onL
  rw [if_pos hb]
  exact hb
 ·split at h
  ·rename_i h2
   unfold digC at h2
   simp at h2
   omega
  ·split at h
   ·omega
   ·unfold signNx at h
    split at h
    ·rename_i g hg
     obtain ⟨g0,glow,_⟩:=signs_low g (List.mem_of_find?_eq_some hg)
     have hp:=List.find?_some hg
     obtain ⟨r,hr⟩:=List.isPrefixOf_iff_prefix.1 hp
     rw [← hr,atL_app0 g0] at hh
     exact absurd glow hh
    ·cases h
theorem past_high {l : Bs} (hl : l ≠ []) (h : ¬ atL l 0 < 128) : (pastL l).1=0:=by
 cases l with
 | nil=>exact absurd rfl hl
 | cons c r =>
  have hc : ¬ c.toNat < 128:=by simpa [atL] using h
  have h1 : isBl c=false:=by
   cases hb : isBl c
   ·rfl
   ·exfalso
    unfold isBl at hb
    simp at hb
    rcases hb with ((hb | hb) | hb) | hb <;> (subst hb;exact hc (by decide))
  have h2 : c ≠ 47:=fun e=>by subst e;exact hc (by decide)
  rw [past_here h1 (fun h=>h2 h.1) (fun h=>h2 h.1)]
theorem places : ∀ (m a : Nat) (l : Bs) (sc : Bool) (ts : List (Tk × Nat)),l.length ≤ m→lexL a l sc = .ok ts→∀ x ∈ ts,a ≤ x.2∧x.2 < a+l.length:=by
 intro m
 induction m with
 | zero =>
  intro a l sc ts hm h x hx
  obtain ⟨h1,h2⟩:=lex_step h
  rcases h2 with ⟨h2,rfl⟩ | ⟨y,ts',h2,_⟩
  ·cases hx
  ·exact absurd (List.drop_eq_nil_of_le (by omega)) h2
 | succ m ih =>
  intro a l sc ts hm h x hx
  obtain ⟨h1,h2⟩:=lex_step h
  rcases h2 with ⟨h2,rfl⟩ | ⟨y,ts',h2,h3,h4,rfl⟩
  ·cases hx
  ·have hlen:=next_len h2 h3
   simp only [List.length_drop] at hlen
   rcases List.mem_cons.1 hx with rfl | hx
   ·simp only;omega
   ·have:=ih _ _ sc ts' (by simp;omega) h4 x hx
    simp only [List.length_drop] at this
    omega
theorem drop_cut {l : Bs} {k : Nat} (hk : k ≤ l.length) (q : Bs) : (l.take k ++ q).drop k=q:=by
 have hlen : (l.take k).length=k:=by rw [List.length_take];omega
 conv=>lhs;arg 1;rw [← hlen]
 exact List.drop_left
theorem blanks (M : Bs) (hM : ∀ r,pastL ((32 :: M) ++ r)=((32 :: M).length+(pastL r).1,(pastL r).2)) :
 ∀ (m a b : Nat) (l : Bs) (sc : Bool) (ts : List (Tk × Nat)) (w : Nat) (hw : w < ts.length),l.length ≤ m → lexL a l sc = .ok ts →
   ∃ ts',lexL b (l.take (ts[w].2 - a) ++ ((32 :: M) ++ l.drop (ts[w].2 - a))) sc = .ok ts'∧kinds ts'=kinds ts:=by
 intro m
 induction m with
 | zero =>
  intro a b l sc ts w hw hm h
  obtain ⟨h1,h2⟩:=lex_step h
  rcases h2 with ⟨h2,rfl⟩ | ⟨y,ts',h2,_⟩
  ·simp at hw
  ·exact absurd (List.drop_eq_nil_of_le (by omega)) h2
 | succ m ih =>
  intro a b l sc ts w hw hm h
  obtain ⟨h1,h2⟩:=lex_step h
  rcases h2 with ⟨h2,rfl⟩ | ⟨x,ts',h2,h3,h4,rfl⟩
  ·simp at hw
  ·have hlen:=next_len h2 h3
   simp only [List.length_drop] at hlen
   obtain ⟨k,hk⟩ : ∃ k,k=(pastL l).1:=⟨_,rfl⟩
   have hp1:=fun q=>(past_app l.length l q (Nat.le_refl _) h1 (by omega)).1
   have hp2:=(past_app l.length l [] (Nat.le_refl _) h1 (by omega)).2
   rw [← hk] at h2 h3 h4 hlen hp1 hp2 ⊢
   cases w with
   | zero =>
    simp only [List.getElem_cons_zero,Nat.add_sub_cancel_left]
    obtain ⟨ts2,h5,h6⟩:=shift _ _ (b+(k+(32 :: M).length)+x.2) _ sc ts' (Nat.le_refl _) h4
    have hpn : pastL (l.take k ++ ((32 :: M) ++ l.drop k))=(k+(32 :: M).length,true):=by
     rw [hp1,hM,hp2]
     rfl
    have hd1 : (l.take k ++ ((32 :: M) ++ l.drop k)).drop (k+(32 :: M).length)=l.drop k:=by
     rw [← List.drop_drop,drop_cut (by omega)]
     exact List.drop_left
    have hd2 : (l.take k ++ ((32 :: M) ++ l.drop k)).drop (k+(32 :: M).length+x.2)=l.drop (k+x.2):=by
     rw [← List.drop_drop,hd1,List.drop_drop]
    refine ⟨_,lex_made (x:=x) (by rw [hpn]) (by rw [hpn];simp only;rw [hd1];exact h2) (by rw [hpn];simp only;rw [hd1];exact h3) (ts':=ts2) (by rw [hpn];simp only;rw [hd2];exact h5),?_⟩
    simp [kinds] at h6 ⊢
    exact h6
   | succ w =>
    simp only [List.getElem_cons_succ]
    have hw' : w < ts'.length:=by simpa using hw
    have hpl:=places _ _ _ sc ts' (Nat.le_refl _) h4 ts'[w] (List.getElem_mem hw')
    simp only [List.length_drop] at hpl
    obtain ⟨p',hp'⟩ : ∃ p',p'=ts'[w].2 - (a+k+x.2):=⟨_,rfl⟩
    obtain ⟨ts2,h5,h6⟩:=ih (a+k+x.2) (b+k+x.2) (l.drop (k+x.2)) sc ts' w hw' (by simp;omega) h4
    rw [← hp'] at h5
    have e1 : ts'[w].2 - a=(k+x.2)+p':=by omega
    rw [e1]
    obtain ⟨l1,hl1⟩ : ∃ l1,l1=l.drop (k+x.2):=⟨_,rfl⟩
    rw [← hl1] at h4 h5
    obtain ⟨Z,hZ⟩ : ∃ Z,Z=l1.take p' ++ ((32 :: M) ++ l1.drop p'):=⟨_,rfl⟩
    have hcut : l.take (k+x.2+p') ++ ((32 :: M) ++ l.drop (k+x.2+p'))=l.take k ++ ((l.drop k).take x.2 ++ Z):=by
     rw [hZ,hl1,List.take_add,List.take_add,List.drop_drop,List.append_assoc,List.append_assoc]
    rw [hcut]
    have hl1n : p' < l1.length:=by rw [hl1,List.length_drop];omega
    have hl1ne : l1 ≠ []:=List.ne_nil_of_length_pos (by omega)
    have hsplit : l.drop k=(l.drop k).take x.2 ++ l1:=by
     rw [hl1,← List.drop_drop,List.take_append_drop]
    obtain ⟨t1,t2⟩:=lex_step h4
    have hZh : p'=0 ∨ (Z ≠ []∧atL Z 0=atL l1 0∧Z.head?=l1.head?):=by
     by_cases hp0 : p'=0
     ·exact .inl hp0
     ·right
      have hne : l1.take p' ≠ []:=take_ne hl1ne (by omega)
      refine ⟨fun e=>hne (List.append_eq_nil_iff.1 (hZ ▸ e)).1,?_,?_⟩
      ·rw [hZ,atL_app0 hne,atL_take0 (by omega)]
      ·rw [hZ]
       cases l1 with
       | nil=>exact absurd rfl hl1ne
       | cons c r =>
        cases p' with
        | zero=>exact absurd rfl hp0
        | succ p'=>simp
    have hZ0 : p'=0→Z=32 :: (M ++ l1):=fun e=>by rw [hZ,e];simp
    have hstop : Stop (l.drop k) x Z sc:=by
     constructor
     ·intro hkind
      have hon:=next_stop h3 hkind
      rw [List.drop_drop,← hl1] at hon
      rcases hZh with hp0 | ⟨zn,za,_⟩
      ·rw [hZ0 hp0];exact on_32 _ sc
      ·by_cases hlow : atL l1 0 < 128
       ·rw [on_low hl1ne zn hlow za];exact hon
       ·exfalso
        rcases t2 with ⟨t2,_⟩ | ⟨y,ts3,q2,q3,_⟩
        ·have hpz : (pastL l1).1=0:=past_high hl1ne hlow
         rw [hpz,List.drop_zero] at t2
         exact hl1ne t2
        ·have hpz : (pastL l1).1=0:=past_high hl1ne hlow
         rw [hpz,List.drop_zero] at q2 q3
         exact high_name q2 q3 hlow hon
     ·intro g hg hpre
      obtain ⟨_,_,h32⟩:=signs_low g hg
      rw [hZ,← List.append_assoc] at hpre
      have h7:=pre_cut (A:=(l.drop k).take x.2 ++ l1.take p') (B:=M ++ l1.drop p') (by simpa using hpre) h32
      have h8:=pre_more (l1.drop p') h7
      rw [List.append_assoc,List.take_append_drop,← hsplit] at h8
      exact h8
    have hnx:=next_local h2 h3 hstop
    have hqne : (l.drop k).take x.2 ++ Z ≠ []:=fun e=>take_ne h2 (show 0 < x.2 by omega) (List.append_eq_nil_iff.1 e).1
    have hpq : pastL ((l.drop k).take x.2 ++ Z)=(0,true):=by
     cases hc : l.drop k with
     | nil=>exact absurd hc h2
     | cons c r =>
      rw [hc] at hp2 hsplit
      obtain ⟨g1,g2,g3⟩:=past_none hp2
      obtain ⟨n,hn⟩ : ∃ n,x.2=n+1:=⟨x.2 - 1,by omega⟩
      rw [hn] at hsplit ⊢
      simp only [List.take_succ_cons,List.cons_append] at hsplit ⊢
      have hr : r=r.take n ++ l1:=by injection hsplit
      have hh : (r.take n ++ Z).head?=r.head? ∨ (r.take n ++ Z).head?=some 32:=by
       cases hrt : r.take n with
       | nil =>
        rw [hrt,List.nil_append] at hr
        rw [List.nil_append,hr]
        rcases hZh with hp0 | ⟨_,_,zh⟩
        ·right;rw [hZ0 hp0];rfl
        ·left;exact zh
       | cons d t =>
        left
        rw [hrt] at hr
        rw [hr]
        rfl
      rcases hh with hh | hh
      ·exact past_here g1 (by rw [hh];exact g2) (by rw [hh];exact g3)
      ·exact past_here g1 (by rw [hh];simp) (by rw [hh];simp)
    have hpL : pastL (l.take k ++ ((l.drop k).take x.2 ++ Z))=(k,true):=by rw [hp1,hpq];rfl
    have hd1:=drop_cut (l:=l) (k:=k) (by omega) ((l.drop k).take x.2 ++ Z)
    have hd2 : (l.take k ++ ((l.drop k).take x.2 ++ Z)).drop (k+x.2)=Z:=by
     rw [← List.drop_drop,hd1,drop_cut (by simp;omega)]
    refine ⟨_,lex_made (a:=b) (x:=x) (ts':=ts2) (by rw [hpL]) (by rw [hpL];simp only;rw [hd1];exact hqne) (by rw [hpL];simp only;rw [hd1];exact hnx) (by rw [hpL];simp only;rw [hd2,hZ];exact h5),?_⟩
    simp [kinds] at h6 ⊢
    exact h6
theorem note_hit (q : Bs) : ∀ note : Bs,42 ∉ note→noteL (note ++ 42 :: 47 :: q)=some (note.length+2)
 | [],_=>by simp [noteL]
 | c :: r,h=>by
  have h1 : c ≠ 42:=fun e=>h (by simp [e])
  have h2 : (42 : UInt8) ∉ r:=fun e=>h (by simp [e])
  have ih:=note_hit q r h2
  simp only [List.cons_append]
  unfold noteL
  rw [if_neg (fun hc=>h1 hc.1),ih]
  simp
end Go.Proofs.YthfkfbcopinmiaaGreatDoor
namespace Go.Proofs.YthfkfbcopinmiaaGreatDoor
end Go.Proofs.YthfkfbcopinmiaaGreatDoor
namespace Go.Proofs.YthfkfbcopinmiaaGreatDoor
structure Alone (s : Bs) (t : Tk) : Prop where
 ne : s ≠ []
 past : pastL s=(0,true)
 next : nextL s true = .ok (t,s.length)
theorem Alone.is {s : Bs} {t : Tk} (h : Alone s t) : isTk s t=true:=by
 unfold isTk
 have : lexL 0 s true = .ok [(t,0)]:=by
  have:=lex_made (a:=0) (l:=s) (sc:=true) (x:=(t,s.length)) (ts':=[]) (by rw [h.past]) (by rw [h.past];simpa using h.ne) (by rw [h.past];simpa using h.next) (by
   rw [h.past]
   simp only [Nat.zero_add,List.drop_length]
   exact lex_end (by rw [pastL_nil]) (by simp))
  rw [h.past] at this
  exact this
 rw [this]
 simp
theorem stop_nil (l : Bs) (x : Tk × Nat) (sc : Bool) : Stop l x [] sc:=by
 refine ⟨fun _=>by simp [onL,begL],fun g hg hpre=>?_⟩
 rw [List.append_nil] at hpre
 have:=pre_more (l.drop x.2) hpre
 rwa [List.take_append_drop] at this
end Go.Proofs.YthfkfbcopinmiaaGreatDoor
namespace Go.Proofs.YthfkfbcopinmiaaGreatDoor
def sumT : List Tk→Nat
 | []=>0
 | t :: ts=>t.2.1.length+sumT ts
theorem unqS_said : ∀ (m : Nat) (l : Bs) (u : Unq) (pos : Nat) (t : Bs) (n : Nat),l.length ≤ m→u.ok→u.said.length+u.pend ≤ pos→unqS (scan l) u pos=some (t,n)→t.length ≤ n+3
 | m,[],u,pos,t,n,_,_,_,h=>by rw [scan_nil] at h;cases h
 | 0,c :: r,u,pos,t,n,hm,_,_,h=>by simp at hm
 | m+1,c :: r,u,pos,t,n,hm,hok,hp,h=>by
  have hne : (c :: r) ≠ []:=by simp
  have hw:=decL_width (c :: r)
  have hle:=decL_le (c :: r) hne
  cases hs : strayL (c :: r)
  ·cases hu : stepU u (decL (c :: r)).1 with
   | none=>rw [unqS_none _ hne hs u pos hu] at h;cases h
   | some u' =>
    have henc:=enc_dec _ hne hs
    have hok2:=stepU_ok u u' _ (decL (c :: r)).2 hu hok hw.1 (by rw [henc,List.length_take];omega)
    by_cases h5 : u'.st=5
    ·rw [unqS_end _ hne hs u u' pos hu h5] at h
     cases h
     have:=hok2.2
     omega
    ·rw [unqS_more _ hne hs u u' pos hu h5] at h
     exact unqS_said m _ u' _ t n (by simp only [List.length_drop];simp only [List.length_cons] at hm ⊢;omega) hok2.1 (by have:=hok2.2;omega) h
  ·rw [unqS_stray _ hne hs u pos] at h;cases h
theorem unquoteL_said {l t : Bs} {n : Nat} (h : unquoteL l=some (t,n)) : t.length ≤ n+3 :=
 unqS_said l.length l Unq.start 0 t n (Nat.le_refl _) ⟨by simp [Unq.start],by simp [Unq.start],by simp [Unq.start],by simp [Unq.start]⟩ (by simp [Unq.start,Unq.pend]) h
theorem next_said {l : Bs} {sc : Bool} {x : Tk × Nat} (h : nextL l sc = .ok x) : x.1.2.1.length ≤ x.2+3∧0 ≤ x.1.2.2∧x.1.2.2 ≤ 9223372036854775807:=by
 unfold nextL at h
 split at h
 ·cases h
  exact ⟨by simp only [List.length_take];omega,by simp,by simp⟩
 ·split at h
  ·unfold numbL at h
   split at h
   ·cases h
   ·split at h
    ·cases h
    ·cases h
     exact ⟨by simp,by simp only;omega,by simp only;omega⟩
  ·split at h
   ·unfold unqNx at h
    split at h
    ·rename_i y hy
     cases h
     exact ⟨unquoteL_said (t:=y.1) (n:=y.2) hy,by simp,by simp⟩
    ·cases h
   ·unfold signNx at h
    split at h
    ·cases h
     exact ⟨by simp,by simp,by simp⟩
    ·cases h
theorem lex_said : ∀ (m a : Nat) (l : Bs) (sc : Bool) (ts : List (Tk × Nat)),l.length ≤ m→lexL a l sc = .ok ts→sumT (kinds ts)+4 * ts.length ≤ 8 * l.length∧∀ t ∈ kinds ts,t.2.1.length ≤ l.length+3∧0 ≤ t.2.2∧t.2.2 ≤ 9223372036854775807:=by
 intro m
 induction m with
 | zero =>
  intro a l sc ts hm h
  rw [lexL_eq] at h
  split at h
  ·cases h
  ·split at h
   ·cases h;simp [kinds,sumT]
   ·rename_i h2
    exact absurd (List.drop_eq_nil_of_le (by omega)) h2
 | succ m ih =>
  intro a l sc ts hm h
  rw [lexL_eq] at h
  split at h
  ·cases h
  ·split at h
   ·cases h;simp [kinds,sumT]
   ·rename_i h2
    cases hx : nextL (l.drop (pastL l).1) sc with
    | error e=>rw [hx] at h;cases h
    | ok x =>
     rw [hx] at h
     have hlen:=next_len h2 hx
     have hsd:=next_said hx
     simp only [List.length_drop] at hlen
     simp only at h
     cases hy : lexL (a+(pastL l).1+x.2) (l.drop ((pastL l).1+x.2)) sc with
     | error d=>rw [hy] at h;cases h
     | ok ts' =>
      rw [hy] at h
      cases h
      obtain ⟨i1,i2⟩:=ih _ _ sc ts' (by simp;omega) hy
      simp only [List.length_drop] at i1 i2
      refine ⟨?_,?_⟩
      ·simp only [kinds,List.map_cons,sumT,List.length_cons]
       simp only [kinds] at i1
       omega
      ·intro t ht
       simp only [kinds,List.map_cons,List.mem_cons] at ht
       rcases ht with rfl | ht
       ·exact ⟨by omega,hsd.2⟩
       ·have:=i2 t ht
        exact ⟨by omega,this.2⟩
end Go.Proofs.YthfkfbcopinmiaaGreatDoor
