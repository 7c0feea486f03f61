/- Own text. The lexer: two sources,one on lines behind the other (of the model;no program is named here). Two sources on lines of their own are the items of both;tokens that differ in places alone are the same items (of the model;no program is named here). Package module: Module answers what the model answers,whatever the source is;two sources,one on lines behind the other. -/
import Derived.Test.YthfkfbcopinmiaaGreatDoorGj30
import Derived.Test.YthfkfbcopinmiaaGreatDoorGj36
import Derived.Test.YthfkfbcopinmiaaGreatDoorGj26
import Derived.Test.YthfkfbcopinmiaaGreatDoorGj31
import Derived.Test.YthfkfbcopinmiaaGreatDoorGj47
set_option linter.unusedVariables false
set_option linter.unusedSimpArgs false
namespace Go.Proofs.YthfkfbcopinmiaaGreatDoor
open Go.RowKit
theorem lineL_nl : ∀ (r q : Bs),lineL r = r.length → lineL (r ++ 10 :: q) = r.length
 | [],q,_=>by simp [lineL]
 | c :: r,q,h=>by
  by_cases hc : c = 10
  ·simp [lineL,hc] at h
  ·simp only [lineL,hc,if_false,List.cons_append,List.length_cons] at h ⊢
   rw [lineL_nl r q (by omega)]
theorem past_nl (q : Bs) : pastL (10 :: q) = ((pastL q).1 + 1,(pastL q).2):=by rw [pastL_cons,if_pos (by decide)]
theorem past_close (q : Bs) : ∀ (m : Nat) (l : Bs),l.length ≤ m → (pastL l).2 = true → (pastL l).1 = l.length → pastL (l ++ 10 :: q) = (l.length + 1 + (pastL q).1,(pastL q).2):=by
 intro m
 induction m with
 | zero =>
  intro l hm _ _
  obtain rfl : l = []:=List.length_eq_zero_iff.1 (by omega)
  rw [List.nil_append,past_nl]
  simp only [List.length_nil,Prod.mk.injEq,and_true]
  omega
 | succ m ih =>
  intro l hm h1 h2
  cases l with
  | nil =>
   rw [List.nil_append,past_nl]
   simp only [List.length_nil,Prod.mk.injEq,and_true]
   omega
  | cons c r =>
   simp only [List.length_cons] at hm h2
   have hpc:=pastL_cons c r
   rw [List.cons_append]
   split at hpc
   ·rename_i hb
    rw [hpc] at h1 h2
    simp only at h1 h2
    rw [pastL_cons,if_pos hb,ih r (by omega) h1 (by omega)]
    simp only [List.length_cons,Prod.mk.injEq,and_true]
    omega
   ·rename_i hb
    split at hpc
    ·rename_i hl
     rw [hpc] at h1 h2
     simp only at h1 h2
     have hne : r ≠ []:=fun e=>by rw [e] at hl;simp at hl
     have hh : (r ++ 10 :: q).head? = some 47:=by
      rw [List.head?_append,hl.2]
      rfl
     rw [pastL_cons,if_neg hb,if_pos ⟨hl.1,hh⟩]
     have hle:=lineL_le r
     by_cases hlt : lineL r < r.length
     ·rw [lineL_app _ _ hlt,List.drop_append_of_le_length (by omega),ih (r.drop (lineL r)) (by simp;omega) h1 (by simp only [List.length_drop];omega)]
      simp only [List.length_cons,List.length_drop,Prod.mk.injEq,and_true]
      omega
     ·have e : lineL r = r.length:=by omega
      rw [lineL_nl r q e,List.drop_left,past_nl]
      simp only [List.length_cons,Prod.mk.injEq,and_true]
      omega
    ·rename_i hl
     split at hpc
     ·rename_i hn
      have hne : r ≠ []:=fun e=>by rw [e] at hn;simp at hn
      have hh : (r ++ 10 :: q).head? = some 42:=by
       rw [List.head?_append,hn.2]
       rfl
      have hh2 : (r ++ 10 :: q).head? ≠ some 47:=by rw [hh];simp
      have ht : (r ++ 10 :: q).tail = r.tail ++ 10 :: q:=by
       cases r with
       | nil=>exact absurd rfl hne
       | cons d t=>rfl
      cases hk : noteL r.tail with
      | none=>rw [hk] at hpc;rw [hpc] at h1;cases h1
      | some k =>
       rw [hk] at hpc
       simp only at hpc
       rw [hpc] at h1 h2
       simp only at h1 h2
       have hkl:=noteL_le _ _ hk
       have hrl : r.tail.length + 1 = r.length:=by
        cases r with
        | nil=>exact absurd rfl hne
        | cons d t=>rfl
       rw [pastL_cons,if_neg hb,if_neg (fun e=>hh2 e.2),if_pos ⟨hn.1,hh⟩,ht,noteL_app _ _ _ hk]
       simp only
       rw [List.drop_append_of_le_length hkl.2,ih (r.tail.drop k) (by simp only [List.length_drop];omega) h1 (by simp only [List.length_drop];omega)]
       simp only [List.length_cons,List.length_drop,Prod.mk.injEq,and_true]
       omega
     ·rw [hpc] at h2
      simp at h2
theorem pre_cut' {c : UInt8} : ∀ {g A B : Bs},g.isPrefixOf (A ++ c :: B) = true → c ∉ g → g.isPrefixOf A = true
 | [],A,B,_,_=>by simp
 | d :: g,[],B,h,hc=>by
  simp only [List.nil_append,List.isPrefixOf,Bool.and_eq_true,beq_iff_eq] at h
  exact absurd (by simp [h.1]) hc
 | d :: g,x :: A,B,h,hc=>by
  simp only [List.cons_append,List.isPrefixOf,Bool.and_eq_true,beq_iff_eq] at h ⊢
  exact ⟨h.1,pre_cut' h.2 (fun q=>hc (by simp [q]))⟩
theorem signs_nl : ∀ g ∈ signsL,(10 : UInt8) ∉ g:=by decide
theorem on_10 (r : Bs) (sc : Bool) : onL (10 :: r) sc = 0:=by
 have e : onL (10 :: r) sc = onL (10 :: []) sc:=on_low (l:=10 :: []) (m:=10 :: r) (by simp) (by simp) (by decide) rfl sc
 rw [e]
 cases sc <;> decide +kernel
theorem lex_join (q : Bs) (sc : Bool) (tq : List Tk) (hq : ∀ c,∃ t,lexL c q sc = .ok t ∧ kinds t = tq) :
 ∀ (m a b : Nat) (l : Bs) (ts : List (Tk × Nat)),l.length ≤ m → lexL a l sc = .ok ts → ∃ ts',lexL b (l ++ 10 :: q) sc = .ok ts' ∧ kinds ts' = kinds ts ++ tq:=by
 have done : ∀ (b : Nat) (l : Bs),(pastL l).2 = true → l.drop (pastL l).1 = [] → ∃ ts',lexL b (l ++ 10 :: q) sc = .ok ts' ∧ kinds ts' = tq:=by
  intro b l h1 h2
  have hle:=pastL_le l
  rw [List.drop_eq_nil_iff] at h2
  have hp:=past_close q l.length l (Nat.le_refl _) h1 (by omega)
  have hd : ∀ k,(l ++ 10 :: q).drop (l.length + 1 + k) = q.drop k:=fun k=>by
   rw [← List.drop_drop,← List.drop_drop,List.drop_left]
   rfl
  obtain ⟨t,ht,hk⟩:=hq (b + l.length + 1)
  obtain ⟨s1,s2⟩:=lex_step ht
  rcases s2 with ⟨s2,rfl⟩ | ⟨x,t',s2,s3,s4,rfl⟩
  ·exact ⟨[],lex_end (by rw [hp];exact s1) (by rw [hp];simp only;rw [hd];exact s2),hk⟩
  ·refine ⟨_,lex_made (x:=x) (ts':=t') (by rw [hp];exact s1) (by rw [hp];simp only;rw [hd];exact s2) (by rw [hp];simp only;rw [hd];exact s3) ?_,?_⟩
   ·rw [hp]
    simp only
    rw [Nat.add_assoc (l.length + 1),hd,show b + (l.length + 1 + (pastL q).1) + x.2 = b + l.length + 1 + (pastL q).1 + x.2 by omega]
    exact s4
   ·simp [kinds] at hk ⊢
    exact hk
 intro m
 induction m with
 | zero =>
  intro a b l ts hm h
  obtain ⟨h1,h2⟩:=lex_step h
  rcases h2 with ⟨h2,rfl⟩ | ⟨y,ts',h2,_⟩
  ·exact done b l h1 h2
  ·exact absurd (List.drop_eq_nil_of_le (by omega)) h2
 | succ m ih =>
  intro a b l ts hm h
  obtain ⟨h1,h2⟩:=lex_step h
  rcases h2 with ⟨h2,rfl⟩ | ⟨x,ts',h2,h3,h4,rfl⟩
  ·exact done b l h1 h2
  ·have hlen:=next_len h2 h3
   simp only [List.length_drop] at hlen
   obtain ⟨k,hk⟩ : ∃ k,k = (pastL l).1:=⟨_,rfl⟩
   have hp1:=fun q=>(past_app l.length l q (Nat.le_refl _) h1 (by omega)).1
   have hp2:=(past_app l.length l [] (Nat.le_refl _) h1 (by omega)).2
   rw [← hk] at h2 h3 h4 hlen hp1 hp2
   obtain ⟨ts2,h5,h6⟩:=ih (a + k + x.2) (b + k + x.2) (l.drop (k + x.2)) ts' (by simp;omega) h4
   obtain ⟨l1,hl1⟩ : ∃ l1,l1 = l.drop (k + x.2):=⟨_,rfl⟩
   rw [← hl1] at h4 h5
   obtain ⟨Z,hZ⟩ : ∃ Z,Z = l1 ++ 10 :: q:=⟨_,rfl⟩
   have hsplit : l.drop k = (l.drop k).take x.2 ++ l1:=by
    rw [hl1,← List.drop_drop,List.take_append_drop]
   have hcut : l ++ 10 :: q = l.take k ++ ((l.drop k).take x.2 ++ Z):=by
    conv=>lhs;rw [← List.take_append_drop k l,hsplit]
    rw [hZ,List.append_assoc,List.append_assoc]
   rw [hcut]
   obtain ⟨t1,t2⟩:=lex_step h4
   have hZh : l1 = [] ∨ (l1 ≠ [] ∧ Z ≠ [] ∧ atL Z 0 = atL l1 0 ∧ Z.head? = l1.head?):=by
    by_cases hn : l1 = []
    ·exact .inl hn
    ·right
     refine ⟨hn,by rw [hZ];simp,by rw [hZ,atL_app0 hn],?_⟩
     rw [hZ]
     cases l1 with
     | nil=>exact absurd rfl hn
     | cons c r=>rfl
   have hZ0 : l1 = [] → Z = 10 :: q:=fun e=>by rw [hZ,e];rfl
   have hstop : Stop (l.drop k) x Z sc:=by
    constructor
    ·intro hkind
     have hon:=next_stop h3 hkind
     rw [List.drop_drop,← hl1] at hon
     rcases hZh with hp0 | ⟨hl1ne,zn,za,_⟩
     ·rw [hZ0 hp0];exact on_10 _ sc
     ·by_cases hlow : atL l1 0 < 128
      ·rw [on_low hl1ne zn hlow za];exact hon
      ·exfalso
       rcases t2 with ⟨t2,_⟩ | ⟨y,ts3,q2,q3,_⟩
       ·have hpz : (pastL l1).1 = 0:=past_high hl1ne hlow
        rw [hpz,List.drop_zero] at t2
        exact hl1ne t2
       ·have hpz : (pastL l1).1 = 0:=past_high hl1ne hlow
        rw [hpz,List.drop_zero] at q2 q3
        exact high_name q2 q3 hlow hon
    ·intro g hg hpre
     rw [hZ,← List.append_assoc,← hsplit] at hpre
     exact pre_cut' hpre (signs_nl g hg)
   have hnx:=next_local h2 h3 hstop
   have hqne : (l.drop k).take x.2 ++ Z ≠ []:=fun e=>take_ne h2 (show 0 < x.2 by omega) (List.append_eq_nil_iff.1 e).1
   have hpq : pastL ((l.drop k).take x.2 ++ Z) = (0,true):=by
    cases hc : l.drop k with
    | nil=>exact absurd hc h2
    | cons c r =>
     rw [hc] at hp2 hsplit
     obtain ⟨g1,g2,g3⟩:=past_none hp2
     obtain ⟨n,hn⟩ : ∃ n,x.2 = n + 1:=⟨x.2 - 1,by omega⟩
     rw [hn] at hsplit ⊢
     simp only [List.take_succ_cons,List.cons_append] at hsplit ⊢
     have hr : r = r.take n ++ l1:=by injection hsplit
     have hh : (r.take n ++ Z).head? = r.head? ∨ (r.take n ++ Z).head? = some 10:=by
      cases hrt : r.take n with
      | nil =>
       rw [hrt,List.nil_append] at hr
       rw [List.nil_append,hr]
       rcases hZh with hp0 | ⟨_,_,_,zh⟩
       ·right;rw [hZ0 hp0];rfl
       ·left;exact zh
      | cons d t =>
       left
       rw [hrt] at hr
       rw [hr]
       rfl
     rcases hh with hh | hh
     ·exact past_here g1 (by rw [hh];exact g2) (by rw [hh];exact g3)
     ·exact past_here g1 (by rw [hh];simp) (by rw [hh];simp)
   have hpL : pastL (l.take k ++ ((l.drop k).take x.2 ++ Z)) = (k,true):=by rw [hp1,hpq];rfl
   have hd1:=drop_cut (l:=l) (k:=k) (by omega) ((l.drop k).take x.2 ++ Z)
   have hd2 : (l.take k ++ ((l.drop k).take x.2 ++ Z)).drop (k + x.2) = Z:=by
    rw [← List.drop_drop,hd1,drop_cut (by simp;omega)]
   refine ⟨_,lex_made (a:=b) (x:=x) (ts':=ts2) (by rw [hpL]) (by rw [hpL];simp only;rw [hd1];exact hqne) (by rw [hpL];simp only;rw [hd1];exact hnx) (by rw [hpL];simp only;rw [hd2,hZ];exact h5),?_⟩
   simp [kinds] at h6 ⊢
   exact h6
end Go.Proofs.YthfkfbcopinmiaaGreatDoor
set_option linter.unusedVariables false
set_option linter.unusedSimpArgs false
namespace Go.Proofs.YthfkfbcopinmiaaGreatDoor
open Go.RowKit
theorem tok_kinds (t : List (Tk × Nat)) (a : Nat) : (tokA (t.map tkT) a).k = ((kinds t)[a]?.map fun x=>x.1).getD 0 ∧ (tokA (t.map tkT) a).t = ((kinds t)[a]?.map fun x=>(⟨x.2.1.toArray⟩ : ByteArray)).getD ByteArray.empty ∧ (tokA (t.map tkT) a).n = ((kinds t)[a]?.map fun x=>x.2.2).getD 0:=by
 unfold tokA kinds
 rw [List.getElem?_map,List.getElem?_map]
 cases t[a]? with
 | none=>exact ⟨rfl,rfl,rfl⟩
 | some x=>exact ⟨rfl,rfl,rfl⟩
theorem kinds_len (t : List (Tk × Nat)) : (kinds t).length = t.length:=by simp [kinds]
theorem pre_kinds {t ta : List (Tk × Nat)} {r : List Tk} (h : kinds t = kinds ta ++ r) : Pre (ta.map tkT) (t.map tkT):=by
 have hl:=congrArg List.length h
 rw [List.length_append,kinds_len,kinds_len] at hl
 refine ⟨by simp;omega,fun a ha=>?_⟩
 have ha' : a < (kinds ta).length:=by rw [kinds_len];simpa using ha
 obtain ⟨e1,e2,e3⟩:=tok_kinds t a
 obtain ⟨f1,f2,f3⟩:=tok_kinds ta a
 rw [e1,e2,e3,f1,f2,f3,h,List.getElem?_append_left ha']
 exact ⟨rfl,rfl,rfl⟩
theorem sh_kinds {t tb : List (Tk × Nat)} {r : List Tk} {c : Nat} (hc : r.length = c) (h : kinds t = r ++ kinds tb) : Sh (t.map tkT) (tb.map tkT) c:=by
 have hl:=congrArg List.length h
 rw [List.length_append,kinds_len,kinds_len] at hl
 have e : ∀ a,(kinds t)[a + c]? = (kinds tb)[a]?:=fun a=>by rw [h,List.getElem?_append_right (by omega),hc,Nat.add_sub_cancel]
 refine ⟨by simp;omega,fun a=>?_,fun a=>?_,fun a=>?_⟩
 ·rw [(tok_kinds t (a + c)).1,(tok_kinds tb a).1,e]
 ·rw [(tok_kinds t (a + c)).2.1,(tok_kinds tb a).2.1,e]
 ·rw [(tok_kinds t (a + c)).2.2,(tok_kinds tb a).2.2,e]
theorem lex_both {a b : Bs} {sc : Bool} {ta tb : List (Tk × Nat)} (h1 : lexL 0 a sc = .ok ta) (h2 : lexL 0 b sc = .ok tb) : ∃ t,lexL 0 (a ++ 10 :: b) sc = .ok t ∧ kinds t = kinds ta ++ kinds tb :=
 lex_join b sc (kinds tb) (fun c=>shift b.length 0 c b sc tb (Nat.le_refl _) h2) a.length 0 0 a ta (Nat.le_refl _) h1
theorem source_joins {a b : Bs} {ta tb : List (Tk × Nat)} (h1 : lexL 0 a false = .ok ta) (h2 : lexL 0 b false = .ok tb) {n1 n2 b1 b2 : Nat} {l1 l2 : List Nd} (e1 : itemsM (ta.map tkT) (itemM (ta.map tkT)) n1 [] 0 = .ok l1 b1) (e2 : itemsM (tb.map tkT) (itemM (tb.map tkT)) n2 [] 0 = .ok l2 b2) :
 ∃ t,lexL 0 (a ++ 10 :: b) false = .ok t ∧ t.length = ta.length + tb.length ∧ ∃ j,j ≤ ta.length ∧ ∀ k,itemsM (t.map tkT) (itemM (t.map tkT)) (j + (n2 + k)) [] 0 = .ok (l1 ++ l2) (b2 + ta.length):=by
 obtain ⟨t,ht,hk⟩:=lex_both h1 h2
 have hl:=congrArg List.length hk
 rw [List.length_append,kinds_len,kinds_len,kinds_len] at hl
 have hS : Sh (t.map tkT) (tb.map tkT) (ta.map tkT).length:=sh_kinds (by rw [kinds_len];simp) hk
 have:=joins (pre_kinds hk) hS e1 e2
 simp only [List.length_map] at this
 exact ⟨t,ht,hl,this⟩
end Go.Proofs.YthfkfbcopinmiaaGreatDoor
set_option linter.unusedVariables false
set_option linter.unusedSimpArgs false
namespace Go.Proofs.YthfkfbcopinmiaaGreatDoor
open Go.RowKit
theorem tok_count (sc : Bool) : ∀ (m a : Nat) (l : Bs) (ts : List (Tk × Nat)),l.length ≤ m → lexL a l sc = .ok ts → ts.length ≤ l.length:=by
 intro m
 induction m with
 | zero =>
  intro a l ts hm h
  obtain ⟨h1,h2⟩:=lex_step h
  rcases h2 with ⟨h2,rfl⟩ | ⟨y,ts',h2,_⟩
  ·simp
  ·exact absurd (List.drop_eq_nil_of_le (by omega)) h2
 | succ m ih =>
  intro a l ts hm h
  obtain ⟨h1,h2⟩:=lex_step h
  rcases h2 with ⟨h2,rfl⟩ | ⟨x,ts',h2,h3,h4,rfl⟩
  ·simp
  ·have hlen:=next_len h2 h3
   simp only [List.length_drop] at hlen
   have:=ih _ _ _ (by simp;omega) h4
   simp only [List.length_drop,List.length_cons] at this ⊢
   omega
def modR (s : ByteArray) : Except (Int × Int) (List Nd):=match lexL 0 s.data.toList false with
 | .error x=>.error ((x.1 : Nat),(x.2 : Nat))
 | .ok ts=>finR (ts.map tkT) s (itemsM (ts.map tkT) (itemM (ts.map tkT)) ((ts.map tkT).length + 1) [] 0)
theorem module_any (s : ByteArray) (w : World) (he : Env w) (hs : s.size ≤ 1048600) : Calls Tryz.prog 5 #[.string s] w (WAns w (modR s)):=by
 refine module_w s w _ fun o=>?_
 have bo : Below w.heap.size w (w.alloc o):=B0.alloc le0 _
 have he':=env_below he bo
 unfold modR
 cases hl : lexL 0 s.data.toList false with
 | error x=>exact whole_bad s _ he' (by omega) hl
 | ok ts =>
  have e : s.data.toList.length = s.size:=rfl
  have hc:=tok_count false _ 0 _ ts le0 hl
  obtain ⟨h1,h2⟩:=lex_said _ 0 _ false ts le0 hl
  exact whole_ok s _ he' (by omega) hl (by omega) (fun x hx=>by have:=(h2 x.1 (List.mem_map.2 ⟨x,hx,rfl⟩)).1;omega) (itemM (ts.map tkT)) (fun a ha=>item_q ha) (fun a x b h=>item_sz a x b h) (fun a ha W v hv=>readItem hv ha)
theorem modR_ok {s : ByteArray} {xs : List Nd} (h : modR s = .ok xs) : ∃ ts b,lexL 0 s.data.toList false = .ok ts ∧ itemsM (ts.map tkT) (itemM (ts.map tkT)) (ts.length + 1) [] 0 = .ok xs b ∧ deepB 100 (.mk 68 mtT 0 xs) = false:=by
 unfold modR at h
 cases hl : lexL 0 s.data.toList false with
 | error x=>rw [hl] at h;cases h
 | ok ts =>
  rw [hl] at h
  simp only [List.length_map] at h
  cases hi : itemsM (ts.map tkT) (itemM (ts.map tkT)) (ts.length + 1) [] 0 with
  | bad p e=>rw [hi] at h;cases h
  | ok l b =>
   rw [hi] at h
   simp only [finR] at h
   cases hd : deepB 100 (.mk 68 mtT 0 l) with
   | true=>rw [hd] at h;simp at h
   | false =>
    rw [hd] at h
    simp at h
    subst h
    exact ⟨ts,b,rfl,hi,hd⟩
theorem items_end {L : List Tok} : ∀ (n : Nat) (acc : List Nd) (a : Nat) (l : List Nd) (b : Nat),itemsM L (itemM L) n acc a = .ok l b → a ≤ L.length → b ≤ L.length
 | 0,_,_,_,_,h,_=>by cases h
 | n + 1,acc,a,l,b,h,ha=>by
  rw [itemsM] at h
  by_cases q : L.length ≤ a
  ·rw [if_pos q] at h
   cases h
   exact ha
  ·rw [if_neg q] at h
   have hq:=item_q (L:=L) ha
   cases e : itemM L a with
   | bad p er=>rw [e] at h;cases h
   | ok x a1 =>
    rw [e] at h hq
    exact items_end n _ a1 l b h hq.2
theorem modR_size {s : ByteArray} {xs : List Nd} (h : modR s = .ok xs) (hs : s.size ≤ 1048600) : sizes xs ≤ 2097200:=by
 obtain ⟨ts,b,hl,hi,_⟩:=modR_ok h
 have e : s.data.toList.length = s.size:=rfl
 have hc:=tok_count false _ 0 _ ts le0 hl
 have h1:=items_sz (I:=itemM (ts.map tkT)) (fun a=>item_sz a) (ts.length + 1) [] 0 xs b hi
 have h2 : b ≤ (ts.map tkT).length:=items_end _ _ _ _ _ hi (Nat.zero_le _)
 simp only [List.length_map] at h2
 simp only [sizes] at h1
 omega
theorem modR_join {a b : ByteArray} {xs ys : List Nd} (h1 : modR a = .ok xs) (h2 : modR b = .ok ys) : modR (a ++ ⟨#[10]⟩ ++ b) = .ok (xs ++ ys):=by
 obtain ⟨ta,p,hla,hia,hda⟩:=modR_ok h1
 obtain ⟨tb,q,hlb,hib,hdb⟩:=modR_ok h2
 obtain ⟨t,ht,hlen,j,hj,hk⟩:=source_joins hla hlb hia hib
 have e : (a ++ ⟨#[10]⟩ ++ b).data.toList = a.data.toList ++ 10 :: b.data.toList:=by simp
 have hk:=hk (ta.length - j)
 rw [show j + (tb.length + 1 + (ta.length - j)) = t.length + 1 by omega] at hk
 unfold modR
 rw [e,ht]
 simp only [List.length_map]
 rw [hk]
 simp only [finR]
 have hd : deepB 100 (.mk 68 mtT 0 (xs ++ ys)) = false:=by
  have d1 : xs.any (deepB 99) = false:=hda
  have d2 : ys.any (deepB 99) = false:=hdb
  show (xs ++ ys).any (deepB 99) = false
  rw [List.any_append,d1,d2]
  rfl
 rw [hd]
 rfl
end Go.Proofs.YthfkfbcopinmiaaGreatDoor
