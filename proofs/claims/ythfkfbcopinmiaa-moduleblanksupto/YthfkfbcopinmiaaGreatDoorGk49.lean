/- Own text. Package module: Module answers what the model answers,whatever the source is;two sources,one on lines behind the other. What every statement of stage 7 begins with. The lexer: tokens laid anew,with other blanks between (of the model;no program is named here). The statements' lone: the shortest beginning that is just that token. -/
import Derived.Test.YthfkfbcopinmiaaGreatDoorGk34
import Derived.Test.YthfkfbcopinmiaaGreatDoorGk48
import Derived.Test.YthfkfbcopinmiaaGreatDoorGk01
import Derived.Lib.AppendStr
import Derived.Laws.IdiomStrings
import Derived.Laws.BytesArg
import Derived.Laws.Concat
import Derived.Deep.DeepCutAuto
import Derived.Deep.RegionHeld3
import Derived.Test.YthfkfbcopinmiaaGreatDoorGk28
set_option linter.unusedVariables false
set_option linter.unusedSimpArgs false
namespace Go.Proofs.YthfkfbcopinmiaaGreatDoor
open Go.RowKit
theorem tok_count (sc : Bool) : ∀ (m a : Nat) (l : Bs) (ts : List (Tk × Nat)),l.length ≤ m→lexL a l sc = .ok ts→ts.length ≤ l.length:=by
 intro m
 induction m with
 | zero =>
  intro a l ts hm h
  obtain ⟨h1,h2⟩:=lex_step h
  rcases h2 with ⟨h2,rfl⟩ | ⟨y,ts',h2,_⟩
  ·simp
  ·exact absurd (List.drop_eq_nil_of_le (by omega)) h2
 | succ m ih =>
  intro a l ts hm h
  obtain ⟨h1,h2⟩:=lex_step h
  rcases h2 with ⟨h2,rfl⟩ | ⟨x,ts',h2,h3,h4,rfl⟩
  ·simp
  ·have hlen:=next_len h2 h3
   simp only [List.length_drop] at hlen
   have:=ih _ _ _ (by simp;omega) h4
   simp only [List.length_drop,List.length_cons] at this ⊢
   omega
def modR (s : ByteArray) : Except (Int × Int) (List Nd):=match lexL 0 s.data.toList false with
 | .error x=>.error ((x.1 : Nat),(x.2 : Nat))
 | .ok ts=>finR (ts.map tkT) s (itemsM (ts.map tkT) (itemM (ts.map tkT)) ((ts.map tkT).length+1) [] 0)
theorem module_any (s : ByteArray) (w : World) (he : Env w) (hs : s.size ≤ 1048600) : Calls Tryz.prog 5 #[.string s] w (WAns w (modR s)):=by
 refine module_w s w _ fun o=>?_
 have bo : Below w.heap.size w (w.alloc o):=B0.alloc le0 _
 have he':=env_below he bo
 unfold modR
 cases hl : lexL 0 s.data.toList false with
 | error x=>exact whole_bad s _ he' (by omega) hl
 | ok ts =>
  have e : s.data.toList.length=s.size:=rfl
  have hc:=tok_count false _ 0 _ ts le0 hl
  obtain ⟨h1,h2⟩:=lex_said _ 0 _ false ts le0 hl
  exact whole_ok s _ he' (by omega) hl (by omega) (fun x hx=>by have:=(h2 x.1 (List.mem_map.2 ⟨x,hx,rfl⟩)).1;omega) (itemM (ts.map tkT)) (fun a ha=>item_q ha) (fun a x b h=>item_sz a x b h) (fun a ha W v hv=>readItem hv ha)
theorem modR_ok {s : ByteArray} {xs : List Nd} (h : modR s = .ok xs) : ∃ ts b,lexL 0 s.data.toList false = .ok ts∧itemsM (ts.map tkT) (itemM (ts.map tkT)) (ts.length+1) [] 0 = .ok xs b∧deepB 100 (.mk 68 mtT 0 xs)=false:=by
 unfold modR at h
 cases hl : lexL 0 s.data.toList false with
 | error x=>rw [hl] at h;cases h
 | ok ts =>
  rw [hl] at h
  simp only [List.length_map] at h
  cases hi : itemsM (ts.map tkT) (itemM (ts.map tkT)) (ts.length+1) [] 0 with
  | bad p e=>rw [hi] at h;cases h
  | ok l b =>
   rw [hi] at h
   simp only [finR] at h
   cases hd : deepB 100 (.mk 68 mtT 0 l) with
   | true=>rw [hd] at h;simp at h
   | false =>
    rw [hd] at h
    simp at h
    subst h
    exact ⟨ts,b,rfl,hi,hd⟩
theorem items_end {L : List Tok} : ∀ (n : Nat) (acc : List Nd) (a : Nat) (l : List Nd) (b : Nat),itemsM L (itemM L) n acc a = .ok l b→a ≤ L.length→b ≤ L.length
 | 0,_,_,_,_,h,_=>by cases h
 | n+1,acc,a,l,b,h,ha=>by
  rw [itemsM] at h
  by_cases q : L.length ≤ a
  ·rw [if_pos q] at h
   cases h
   exact ha
  ·rw [if_neg q] at h
   have hq:=item_q (L:=L) ha
   cases e : itemM L a with
   | bad p er=>rw [e] at h;cases h
   | ok x a1 =>
    rw [e] at h hq
    exact items_end n _ a1 l b h hq.2
theorem modR_size {s : ByteArray} {xs : List Nd} (h : modR s = .ok xs) (hs : s.size ≤ 1048600) : sizes xs ≤ 2097200:=by
 obtain ⟨ts,b,hl,hi,_⟩:=modR_ok h
 have e : s.data.toList.length=s.size:=rfl
 have hc:=tok_count false _ 0 _ ts le0 hl
 have h1:=items_sz (I:=itemM (ts.map tkT)) (fun a=>item_sz a) (ts.length+1) [] 0 xs b hi
 have h2 : b ≤ (ts.map tkT).length:=items_end _ _ _ _ _ hi (Nat.zero_le _)
 simp only [List.length_map] at h2
 simp only [sizes] at h1
 omega
set_option maxRecDepth 100000
set_option maxHeartbeats 1000000
def srcW : ByteArray:=⟨#[105,109,112,111,114,116,32,100,44,32,123,32,97,32,97,115,32,98,32,125,32,102,114,111,109,32,39,46,47,120,39,59]⟩
def srcV : ByteArray:=⟨#[105,109,112,111,114,116,32,123,32,105,102,32,125,32,102,114,111,109,32,39,46,47,120,39,59]⟩
def impD : Nd:=impAs wDefault ⟨#[100]⟩
def impW : Nd:=.mk 60 ⟨#[46,47,120]⟩ 0 [impD,impAs ⟨#[97]⟩ ⟨#[98]⟩]
theorem modW : modR srcW = .ok [impW]:=by kernel_rfl
theorem modV : modR srcV = .error (12,60):=by kernel_rfl
theorem awake_any (W : World) (he : Env W) : Calls Tryz.prog 6 #[] W fun e w'=>e = .returned (.bool true)∧Below W.heap.size W w':=by
 have C1:=module_any srcW W he (by decide)
 rw [modW] at C1
 have C2 : Hid (∀ X,Below W.heap.size W X→Calls Tryz.prog 5 #[.string srcV] X (WAns X (.error (12,60)))):=fun X b=>by
  have:=module_any srcV X (env_below he b) (by decide)
  rw [modV] at this
  exact this
 unfold srcW at C1
 unfold srcV at C2
 clear he
 go_enter Tryz.func6,Tryz.ntmps6
 go_wp2_with fail
 go_at_call 5
 refine C1.mono ?_
 rintro e W1 ⟨ad,c,rfl,l1,b1⟩
 clear C1
 obtain ⟨a,c',bl,o,f,ev,hp,h4,hk⟩:=l1.op
 obtain ⟨rfl,rfl⟩ : ad=a∧c=c':=by injection ev with e1 e2 e3;exact ⟨e1,e3⟩
 obtain ⟨rfl,hS,hbl⟩:=hp (by decide)
 obtain ⟨q0,q1,q2,q3⟩:=h4 0 (by decide)
 obtain ⟨a2,c2,bl2,o2,f2,ev2,hp2,h42,_⟩:=(hk 0 (by decide)).op
 obtain ⟨rfl,hS2,hbl2⟩:=hp2 (by decide)
 obtain ⟨r0,r1,r2,r3⟩:=h42 1 (by decide)
 rw [ev2] at q3
 have HC : Hid (∀ X,Below W1.heap.size W1 X→(X.cell? ⟨bl,o,none⟩=some (.int .i64 60)∧X.cell? ⟨bl,o+1,none⟩=some (.string ⟨#[46,47,120]⟩)∧X.cell? ⟨bl,o+3,none⟩=some (.slice (some ⟨bl2,o2,none⟩) 2 c2))∧X.cell? ⟨bl2,o2+4+1,none⟩=some (.string ⟨#[97]⟩)):=fun X b =>
  ⟨⟨(World.cell?_of_block (a:=⟨bl,_,none⟩) (b.block bl hbl)).trans q0,(World.cell?_of_block (a:=⟨bl,_,none⟩) (b.block bl hbl)).trans q1,(World.cell?_of_block (a:=⟨bl,_,none⟩) (b.block bl hbl)).trans q3⟩,(World.cell?_of_block (a:=⟨bl2,_,none⟩) (b.block bl2 hbl2)).trans r1⟩
 clear q0 q1 q2 q3 r0 r1 r2 r3 h4 hk hp hp2 h42 ev ev2 l1
 obtain ⟨V1,hV1⟩ : ∃ X,W1.alloc (Obj.cells #[.int .i64 68,.string ⟨#[]⟩,.int .i64 0,.slice (some ⟨bl,o,none⟩) 1 c] 24)=X:=⟨_,rfl⟩
 have bV : Below W1.heap.size W1 V1:=by rw [← hV1];exact B0.alloc le0 _
 have mV : V1.heap[W1.heap.size]?=some (.cells #[.int .i64 68,.string ⟨#[]⟩,.int .i64 0,.slice (some ⟨bl,o,none⟩) 1 c] 24 (0,0)):=by rw [← hV1];exact heap_alloc_new _ _
 have bw1 : Below W.heap.size W V1:=b1.trans (bV.mono b1.size)
 have C3:=C2.out V1 bw1
 simp only [Nd.k,Nd.t,Nd.n,Nd.ks,mtT,List.length_cons,List.length_nil]
 go_wp2_with fail
 go_at_call 5
 refine C3.mono ?_
 rintro e W2 ⟨b2,_,rfl⟩
 have m2:=(b2.block _ (Array.getElem?_eq_some_iff.1 mV).1).trans mV
 have b12 : Below W1.heap.size W1 W2:=bV.trans (b2.mono bV.size)
 have b13:=b12.alloc b12.size (Obj.cells #[.int .i64 0,.string ⟨#[]⟩,.int .i64 0,.slice none 0 0] 24)
 obtain ⟨⟨_,_,_⟩,_⟩:=HC.out _ b13
 have m3:=(Below.heap_alloc W2 (Obj.cells #[.int .i64 0,.string ⟨#[]⟩,.int .i64 0,.slice none 0 0] 24) _ (Array.getElem?_eq_some_iff.1 m2).1).trans m2
 obtain ⟨⟨_,_,_,_⟩,_,_,_,_⟩:=t4 m3
 have bw2 : Below W.heap.size W W2:=bw1.trans (b2.mono bw1.size)
 clear C3 hV1
 go_wp2
 go_ret
 exact ⟨rfl,bw2.alloc bw2.size _⟩
structure One (s : Bs) (t : Tk) (sc : Bool) : Prop where
 p : (pastL s).2=true
 ne : s.drop (pastL s).1 ≠ []
 next : nextL (s.drop (pastL s).1) sc = .ok (t,s.length - (pastL s).1)
theorem One.lt {s : Bs} {t : Tk} {sc : Bool} (h : One s t sc) : (pastL s).1 < s.length:=by
 by_cases q : (pastL s).1 < s.length
 ·exact q
 ·exact absurd (List.drop_eq_nil_of_le (by omega)) h.ne
theorem one_lex {s : Bs} {t : Tk} {sc : Bool} (h : One s t sc) (a : Nat) : lexL a s sc = .ok [(t,a+(pastL s).1)]:=by
 have hl:=h.lt
 refine lex_made (x:=(t,s.length - (pastL s).1)) (ts':=[]) h.p h.ne h.next ?_
 simp only
 rw [show (pastL s).1+(s.length - (pastL s).1)=s.length by omega,List.drop_length]
 exact lex_end (by rw [pastL_nil]) (by simp)
theorem past_cut {l : Bs} (hl : l ≠ []) (h : pastL l=(0,true)) {n : Nat} (hn : 1 ≤ n) (z : Bs) (h1 : z.head? ≠ some 47) (h2 : z.head? ≠ some 42) : pastL (l.take n ++ z)=(0,true):=by
 cases l with
 | nil=>exact absurd rfl hl
 | cons c r =>
  obtain ⟨g1,g2,g3⟩:=past_none h
  obtain ⟨m,rfl⟩ : ∃ m,n=m+1:=⟨n - 1,by omega⟩
  simp only [List.take_succ_cons,List.cons_append]
  have hh : (r.take m ++ z).head?=r.head? ∨ (r.take m ++ z).head?=z.head?:=by
   cases m with
   | zero=>right;simp
   | succ m =>
    cases r with
    | nil=>right;simp
    | cons d t=>left;simp
  rcases hh with hh | hh
  ·exact past_here g1 (by rw [hh];exact g2) (by rw [hh];exact g3)
  ·exact past_here g1 (by rw [hh];exact fun q=>h1 q.2) (by rw [hh];exact fun q=>h2 q.2)
theorem one_cut {l : Bs} {sc : Bool} (h1 : (pastL l).2=true) (h2 : l.drop (pastL l).1 ≠ []) {x : Tk × Nat} (h3 : nextL (l.drop (pastL l).1) sc = .ok x) : One (l.take ((pastL l).1+x.2)) x.1 sc∧(pastL l).1+x.2 ≤ l.length∧1 ≤ x.2:=by
 have hlt : (pastL l).1 < l.length:=by
  by_cases q : (pastL l).1 < l.length
  ·exact q
  ·exact absurd (List.drop_eq_nil_of_le (by omega)) h2
 obtain ⟨n1,n2⟩:=next_len h2 h3
 rw [List.length_drop] at n2
 have e : l.take ((pastL l).1+x.2)=l.take (pastL l).1 ++ (l.drop (pastL l).1).take x.2:=by rw [List.take_add]
 have h0:=(past_app _ l [] (Nat.le_refl _) h1 hlt).2
 have hq : pastL ((l.drop (pastL l).1).take x.2)=(0,true):=by
  have:=past_cut h2 h0 n1 [] (by simp) (by simp)
  rwa [List.append_nil] at this
 have hp:=(past_app _ l ((l.drop (pastL l).1).take x.2) (Nat.le_refl _) h1 hlt).1
 rw [hq,← e] at hp
 simp only [Nat.add_zero] at hp
 have hd : (l.take ((pastL l).1+x.2)).drop (pastL l).1=(l.drop (pastL l).1).take x.2:=by
  rw [List.drop_take]
  congr 1
  omega
 refine ⟨⟨by rw [hp],?_,?_⟩,by omega,n1⟩
 ·rw [hp]
  simp only
  rw [hd]
  exact take_ne h2 (by omega)
 ·rw [hp]
  simp only
  have:=next_local h2 h3 (stop_nil _ x sc)
  rw [List.append_nil] at this
  rw [hd,this,List.length_take,Nat.min_eq_left (by omega)]
  rw [show (pastL l).1+x.2 - (pastL l).1=x.2 by omega]
theorem one_of {l : Bs} {sc : Bool} {t : Tk} {p a : Nat} (h : lexL a l sc = .ok [(t,p)]) : ∃ k,1 ≤ k∧k ≤ l.length∧One (l.take k) t sc:=by
 obtain ⟨h1,h2⟩:=lex_step h
 rcases h2 with ⟨_,h2⟩ | ⟨x,ts',h2,h3,h4,h5⟩
 ·cases h2
 ·obtain ⟨g1,g2,g3⟩:=one_cut h1 h2 h3
  injection h5 with e1 e2
  injection e1 with e1 e3
  exact ⟨_,by omega,g2,by rw [e1];exact g1⟩
theorem bl_cases {c : UInt8} (h : isBl c=true) : c=9 ∨ c=10 ∨ c=13 ∨ c=32:=by
 unfold isBl at h
 simp only [Bool.or_eq_true,beq_iff_eq] at h
 rcases h with ((h | h) | h) | h <;> simp [h]
theorem on_bl {c : UInt8} (h : isBl c=true) (r : Bs) (sc : Bool) : onL (c :: r) sc=0:=by
 have e : onL (c :: r) sc=onL (c :: []) sc:=on_low (l:=c :: []) (m:=c :: r) (by simp) (by simp) (by rcases bl_cases h with rfl | rfl | rfl | rfl <;> decide) rfl sc
 rw [e]
 rcases bl_cases h with rfl | rfl | rfl | rfl <;> cases sc <;> decide +kernel
theorem signs_bl {c : UInt8} (h : isBl c=true) : ∀ g ∈ signsL,c ∉ g:=by
 rcases bl_cases h with rfl | rfl | rfl | rfl <;> decide
theorem one_then {s : Bs} {t : Tk} {sc : Bool} (h : One s t sc) {c : UInt8} (hc : isBl c=true) (Z : Bs) {b : Nat} {ts : List (Tk × Nat)} (hZ : lexL b (c :: Z) sc = .ok ts) (a : Nat) : ∃ ts',lexL a (s ++ c :: Z) sc = .ok ts'∧kinds ts'=t :: kinds ts:=by
 have hlt:=h.lt
 have h0:=(past_app _ s [] (Nat.le_refl _) h.p hlt).2
 have hc47 : c ≠ 47:=by rcases bl_cases hc with rfl | rfl | rfl | rfl <;> decide
 have hc42 : c ≠ 42:=by rcases bl_cases hc with rfl | rfl | rfl | rfl <;> decide
 have hld : (s.drop (pastL s).1).length=s.length - (pastL s).1:=List.length_drop
 have hq : pastL (s.drop (pastL s).1 ++ c :: Z)=(0,true):=by
  have:=past_cut h.ne h0 (n:=(s.drop (pastL s).1).length) (by omega) (c :: Z) (by simpa using hc47) (by simpa using hc42)
  rwa [List.take_length] at this
 have hp:=(past_app _ s (s.drop (pastL s).1 ++ c :: Z) (Nat.le_refl _) h.p hlt).1
 rw [← List.append_assoc,List.take_append_drop,hq] at hp
 simp only [Nat.add_zero] at hp
 have hd : (s ++ c :: Z).drop (pastL s).1=s.drop (pastL s).1 ++ c :: Z:=List.drop_append_of_le_length (by omega)
 have hst : Stop (s.drop (pastL s).1) (t,s.length - (pastL s).1) (c :: Z) sc:=by
  refine ⟨fun _=>on_bl hc Z sc,fun g hg hpre=>?_⟩
  have:=pre_cut' hpre (signs_bl hc g hg)
  rwa [List.take_of_length_le (by simp only;omega)] at this
 have hn:=next_local h.ne h.next hst
 rw [List.take_of_length_le (by simp only;omega)] at hn
 obtain ⟨ts2,g1,g2⟩:=shift _ b (a+(pastL s).1+(s.length - (pastL s).1)) (c :: Z) sc ts (Nat.le_refl _) hZ
 refine ⟨_,lex_made (x:=(t,s.length - (pastL s).1)) (ts':=ts2) (by rw [hp]) (by rw [hp];simp only;rw [hd];simp) (by rw [hp];simp only;rw [hd];exact hn) ?_,?_⟩
 ·rw [hp]
  simp only
  rw [show (pastL s).1+(s.length - (pastL s).1)=s.length by omega,List.drop_left]
  exact g1
 ·simp only [kinds,List.map_cons] at g2 ⊢
  rw [g2]
def Blk (M : Bs) : Prop:=∀ r,pastL (M ++ r)=(M.length+(pastL r).1,(pastL r).2)
theorem lex_skip {M : Bs} (hM : Blk M) {b : Nat} {l : Bs} {sc : Bool} {ts : List (Tk × Nat)} (h : lexL b l sc = .ok ts) (a : Nat) : ∃ ts',lexL a (M ++ l) sc = .ok ts'∧kinds ts'=kinds ts:=by
 have hp:=hM l
 have hd : ∀ k,(M ++ l).drop (M.length+k)=l.drop k:=fun k=>by rw [← List.drop_drop,List.drop_left]
 obtain ⟨h1,h2⟩:=lex_step h
 rcases h2 with ⟨h2,rfl⟩ | ⟨x,ts',h2,h3,h4,rfl⟩
 ·exact ⟨[],lex_end (by rw [hp];exact h1) (by rw [hp];simp only;rw [hd];exact h2),rfl⟩
 ·obtain ⟨ts2,h5,h6⟩:=shift _ _ (a+(M.length+(pastL l).1)+x.2) _ sc ts' (Nat.le_refl _) h4
  refine ⟨_,lex_made (x:=x) (ts':=ts2) (by rw [hp];exact h1) (by rw [hp];simp only;rw [hd];exact h2) (by rw [hp];simp only;rw [hd];exact h3) ?_,?_⟩
  ·rw [hp]
   simp only
   rw [Nat.add_assoc M.length,hd]
   exact h5
  ·simp only [kinds,List.map_cons] at h6 ⊢
   rw [h6]
def sepB : List Bs:=[[32],[10],[9,32],[32,47,42,32,59,32,42,47,32],[32,47,47,32,125,10],[13,10]]
theorem sep_blk : ∀ M ∈ sepB,Blk M∧∃ c Z,M=c :: Z∧isBl c=true:=by
 intro M hM
 simp only [sepB,List.mem_cons,List.not_mem_nil,or_false] at hM
 rcases hM with rfl | rfl | rfl | rfl | rfl | rfl
 ·exact ⟨fun r=>by simp only [List.cons_append,List.nil_append];rw [pastL_cons,if_pos (by decide)];simp;omega,_,_,rfl,by decide⟩
 ·exact ⟨fun r=>by simp only [List.cons_append,List.nil_append];rw [pastL_cons,if_pos (by decide)];simp;omega,_,_,rfl,by decide⟩
 ·exact ⟨fun r=>by simp only [List.cons_append,List.nil_append];rw [pastL_cons,if_pos (by decide),pastL_cons,if_pos (by decide)];simp;omega,_,_,rfl,by decide⟩
 ·refine ⟨fun r=>?_,_,_,rfl,by decide⟩
  simp only [List.cons_append,List.nil_append]
  rw [pastL_cons,if_pos (by decide),pastL_cons,if_neg (by decide),if_neg (by simp),if_pos (by simp)]
  simp only [List.tail_cons]
  have hn : noteL (32 :: 59 :: 32 :: 42 :: 47 :: 32 :: r)=some 5:=note_hit (32 :: r) [32,59,32] (by decide)
  rw [hn]
  simp only [List.drop_succ_cons,List.drop_zero]
  rw [pastL_cons,if_pos (by decide)]
  simp
  omega
 ·refine ⟨fun r=>?_,_,_,rfl,by decide⟩
  simp only [List.cons_append,List.nil_append]
  rw [pastL_cons,if_pos (by decide),pastL_cons,if_neg (by decide),if_pos (by simp)]
  have hn : lineL (47 :: 32 :: 125 :: 10 :: r)=3:=by simp [lineL]
  rw [hn]
  simp only [List.drop_succ_cons,List.drop_zero]
  rw [pastL_cons,if_pos (by decide)]
  simp
  omega
 ·exact ⟨fun r=>by simp only [List.cons_append,List.nil_append];rw [pastL_cons,if_pos (by decide),pastL_cons,if_pos (by decide)];simp;omega,_,_,rfl,by decide⟩
def laysB : List (Tk × Bs × Bs)→Bs
 | []=>[]
 | x :: r=>x.2.1 ++ x.2.2 ++ laysB r
theorem laysB_snoc (l : List (Tk × Bs × Bs)) (x : Tk × Bs × Bs) : laysB (l ++ [x])=laysB l ++ x.2.1 ++ x.2.2:=by
 induction l with
 | nil=>simp [laysB]
 | cons y l ih=>simp [laysB,ih]
theorem lays_lex {sc : Bool} : ∀ (l : List (Tk × Bs × Bs)),(∀ x ∈ l,One x.2.1 x.1 sc∧x.2.2 ∈ sepB)→∀ a,∃ ts,lexL a (laysB l) sc = .ok ts∧kinds ts=l.map (·.1)
 | [],_,a=>⟨[],lex_end (by rw [laysB,pastL_nil]) (by simp [laysB]),rfl⟩
 | x :: l,h,a=>by
  obtain ⟨h1,h2⟩:=h x (by simp)
  obtain ⟨ts,g1,g2⟩:=lays_lex l (fun y hy=>h y (by simp [hy])) 0
  obtain ⟨hM,c,Z,e,hc⟩:=sep_blk _ h2
  obtain ⟨ts2,g3,g4⟩:=lex_skip hM g1 0
  rw [e,List.cons_append] at g3
  obtain ⟨ts3,g5,g6⟩:=one_then h1 hc (Z ++ laysB l) g3 a
  refine ⟨ts3,?_,by rw [g6,g4,g2];rfl⟩
  rw [laysB,e,List.append_assoc,List.cons_append]
  exact g5
theorem tok_at {sc : Bool} : ∀ (m a : Nat) (l : Bs) (ts : List (Tk × Nat)),l.length ≤ m→lexL a l sc = .ok ts→∀ i (hi : i < ts.length),a ≤ ts[i].2∧∃ n,1 ≤ n∧One ((l.drop (ts[i].2 - a)).take n) ts[i].1 sc∧ts[i].2 - a+n ≤ l.length∧∀ hj : i+1 < ts.length,ts[i].2+n ≤ ts[i+1].2:=by
 intro m
 induction m with
 | zero =>
  intro a l ts hm h i hi
  obtain ⟨h1,h2⟩:=lex_step h
  rcases h2 with ⟨h2,rfl⟩ | ⟨y,ts',h2,_⟩
  ·simp at hi
  ·exact absurd (List.drop_eq_nil_of_le (by omega)) h2
 | succ m ih =>
  intro a l ts hm h i hi
  obtain ⟨h1,h2⟩:=lex_step h
  rcases h2 with ⟨h2,rfl⟩ | ⟨x,ts',h2,h3,h4,rfl⟩
  ·simp at hi
  ·obtain ⟨g1,g2,g3⟩:=one_cut h1 h2 h3
   have hlt : (pastL l).1 < l.length:=by omega
   have h0:=(past_app _ l [] (Nat.le_refl _) h1 hlt).2
   have hll : (l.drop ((pastL l).1+x.2)).length ≤ m:=by rw [List.length_drop];omega
   cases i with
   | zero =>
    simp only [List.getElem_cons_zero]
    rw [show a+(pastL l).1 - a=(pastL l).1 by omega]
    refine ⟨by omega,x.2,g3,?_,by omega,fun hj=>?_⟩
    ·have:=(one_cut (l:=l.drop (pastL l).1) (by rw [h0]) (by rw [h0];exact h2) (by rw [h0];exact h3)).1
     rw [h0] at this
     simpa using this
    ·simp only [List.getElem_cons_succ]
     have hj' : 0 < ts'.length:=by simpa using hj
     have:=(ih _ _ ts' hll h4 0 hj').1
     omega
   | succ i =>
    have hi' : i < ts'.length:=by simpa using hi
    obtain ⟨k1,n,k2,k3,k4,k5⟩:=ih _ _ ts' hll h4 i hi'
    simp only [List.getElem_cons_succ]
    rw [List.drop_drop] at k3
    rw [List.length_drop] at k4
    refine ⟨by omega,n,k2,?_,by omega,fun hj=>k5 (by simpa using hj)⟩
    rw [show (pastL l).1+x.2+(ts'[i].2 - (a+(pastL l).1+x.2))=ts'[i].2 - a by omega] at k3
    exact k3
set_option maxHeartbeats 4000000
theorem leastB {P : Nat→Prop} : ∀ n,P n→∃ m,m ≤ n∧P m∧∀ j,j < m→¬ P j:=by
 intro n
 induction n using Nat.strongRecOn with
 | _ n ih =>
  intro h
  by_cases q : ∃ j,j < n∧P j
  ·obtain ⟨j,hj,hp⟩:=q
   obtain ⟨m,h1,h2,h3⟩:=ih j hj hp
   exact ⟨m,by omega,h2,h3⟩
  ·exact ⟨n,Nat.le_refl _,h,fun j hj hp=>q ⟨j,hj,hp⟩⟩
theorem cutLo (s : ByteArray) (a : Nat) (h : a ≤ s.size) (W : World) : (Instr.slice 9 (.string s) none (some (.int .i64 (a : Int))) none).run Tryz.prog W = .ok (.string (s.extract 0 a)) W:=by
 rw [run_slice_string_h (ht:=Tryz.underlying9) (h0:=by omega) (h2:=by omega)]
 rfl
theorem ext_take (s : ByteArray) (k : Nat) : (s.extract 0 k).data.toList=s.data.toList.take k:=by
 simp [ByteArray.data_extract,Array.toList_extract,List.extract_eq_take_drop]
theorem first_one {r : Bs} {x : Tk} {n : Nat} (hn : n ≤ r.length) (h : One (r.take n) x false) : ∃ k,1 ≤ k∧k ≤ n∧One (r.take k) x false∧(∃ p,lexL 0 (r.take k) false = .ok [(x,p)])∧∀ j,1 ≤ j→j < k→∀ p,lexL 0 (r.take j) false ≠ .ok [(x,p)]:=by
 obtain ⟨k,h1,⟨hk,p,h2⟩,h3⟩:=leastB (P:=fun j=>1 ≤ j∧∃ p,lexL 0 (r.take j) false = .ok [(x,p)]) n ⟨by
  have:=h.lt
  rw [List.length_take] at this
  omega,_,one_lex h 0⟩
 obtain ⟨m,g1,g2,g3⟩:=one_of h2
 rw [List.length_take] at g2
 rw [List.take_take,Nat.min_eq_left (by omega)] at g3
 have e : m=k:=by
  by_cases q : m < k
  ·exact absurd ⟨g1,_,one_lex g3 0⟩ (h3 m q)
  ·omega
 subst e
 exact ⟨m,hk,h1,g3,⟨p,h2⟩,fun j q1 q2 p' hp=>h3 j q2 ⟨q1,p',hp⟩⟩
theorem lone_any (r : ByteArray) (x : Tk) (pp : Int) (hr : r.size ≤ 1048576) {n : Nat} (hn : n ≤ r.size) (h : One (r.data.toList.take n) x false) (w : World) :
 Calls Tryz.prog 9 #[.string r,.agg #[.int .i64 x.1,.string ⟨x.2.1.toArray⟩,.int .i64 x.2.2,.int .i64 pp]] w fun e w'=>(∃ k,k ≤ r.size∧One (r.data.toList.take k) x false∧e = .returned (.tuple #[.string (r.extract 0 k),.bool true]))∧Below w.heap.size w w':=by
 have er : r.data.toList.length=r.size:=rfl
 obtain ⟨k0,h1,h2,h3,⟨p0,h4⟩,h5⟩:=first_one (by rw [er];exact hn) h
 have HO : Hid (One (r.data.toList.take k0) x false):=h3
 have HP : Hid (lexL 0 (r.data.toList.take k0) false = .ok [(x,p0)]):=h4
 have HN : Hid (∀ j,1 ≤ j→j < k0→∀ p,lexL 0 (r.data.toList.take j) false ≠ .ok [(x,p)]):=h5
 have HL : Hid (∀ (k : Nat) (W : World),k ≤ r.size→Calls Tryz.prog 8 #[.string (r.extract 0 k),.bool false] W fun e w'=>lexRes (lexL 0 (r.data.toList.take k) false) W.heap.size e w'∧Below W.heap.size W w'):=fun k W hk=>by
  have:=lex_ref (r.extract 0 k) false W (by rw [ByteArray.size_extract];omega)
  rw [ext_take] at this
  exact this
 have HB : Hid (∀ (k : Nat) ts,lexL 0 (r.data.toList.take k) false = .ok ts→ts.length ≤ 4194304∧∀ x ∈ ts,x.1.2.1.length ≤ 4194304):=fun k ts h=>by
  obtain ⟨q1,q2⟩:=lex_said _ 0 _ false ts le0 h
  have : (r.data.toList.take k).length ≤ 1048576:=by rw [List.length_take];omega
  refine ⟨by omega,fun y hy=>?_⟩
  have:=(q2 y.1 (List.mem_map.2 ⟨y,hy,rfl⟩)).1
  omega
 have HC:=fun (k : Nat) (hk : k ≤ r.size)=>cutLo r k hk
 have HCH : Hid (∀ (k : Nat),k ≤ r.size→∀ W,(Instr.slice 9 (.string r) none (some (.int .i64 (k : Int))) none).run Tryz.prog W = .ok (.string (r.extract 0 k)) W):=HC
 have hk0 : k0 ≤ r.size:=by omega
 clear h3 h4 h5 h HC h2 hn er
 obtain ⟨xk,xt,xn⟩:=x
 simp only
 obtain ⟨XB,hX⟩ : ∃ XB : ByteArray,(⟨xt.toArray⟩ : ByteArray)=XB:=⟨_,rfl⟩
 rw [hX]
 have HX : Hid ((⟨xt.toArray⟩ : ByteArray)=XB):=hX
 clear hX
 go_enter Tryz.func9,Tryz.ntmps9
 go_wp2_with fail
 obtain ⟨V,hV⟩ : ∃ X,w.alloc (Obj.cells #[.int .i64 xk,.string XB,.int .i64 xn,.int .i64 pp] 37)=X:=⟨_,rfl⟩
 have bV : Below w.heap.size w V:=by rw [← hV];exact B0.alloc le0 _
 have mV : V.heap[w.heap.size]?=some (.cells #[.int .i64 xk,.string XB,.int .i64 xn,.int .i64 pp] 37 (0,0)):=by rw [← hV];exact heap_alloc_new _ _
 have ltV:=(Array.getElem?_eq_some_iff.1 mV).1
 rw [hV]
 clear hV
 go_loopw [6] (fun i wr=>∃ k : Nat,i = .int .i64 (k : Nat)∧1 ≤ k∧k ≤ k0∧Below V.heap.size V wr) (fun i _=>k0+1 - (intOf i).toNat)
 case atStart=>exact ⟨1,rfl,by omega,h1,Below.refl _ _⟩
 case round =>
  obtain ⟨k,rfl,hk1,hkk,bel⟩:=hrel
  have hI : ((k : Nat) : Int) ≤ (r.size : Nat):=by omega
  have hcut:=HCH.out k (by omega)
  have CL:=HL.out k wr (by omega)
  have HW : Hid (∀ X,Below wr.heap.size wr X→X.heap[w.heap.size]?=some (.cells #[.int .i64 xk,.string XB,.int .i64 xn,.int .i64 pp] 37 (0,0))∧Below V.heap.size V X):=fun X b=>⟨(b.block _ (by have:=bel.size;omega)).trans ((bel.block _ ltV).trans mV),bel.trans (b.mono bel.size)⟩
  cases hr2 : lexL 0 (r.data.toList.take k) false with
  | error y =>
   rw [hr2] at CL
   have hy : y.2=40 ∨ y.2=41:=lexF_err _ _ _ _ _ hr2
   obtain ⟨y1,y2⟩:=y
   simp only at hy
   simp only [lexRes] at CL
   have hy2 : ((y2 : Int) != 0)=true:=by simp;omega
   have hlt : k < k0:=by
    by_cases q : k=k0
    ·subst q;rw [HP.out] at hr2;cases hr2
    ·omega
   clear hr2 hy
   go_wp2_with fail
   go_at_call 8
   refine CL.mono ?_
   rintro e W1 ⟨rfl,b1⟩
   obtain ⟨m1,bel1⟩:=HW.out W1 b1
   obtain ⟨⟨_,_,_,_⟩,_,_,_,_⟩:=t4 m1
   clear CL
   go_wp2_with fail
   go_region
   go_wp2
   go_roundw
   case rel=>exact ⟨k+1,by simp,by omega,by omega,bel1.drew⟩
   case measure=>simp [intOf];omega
  | ok ts =>
   rw [hr2] at CL
   simp only [lexRes] at CL
   obtain ⟨q1,q2⟩:=HB.out k ts hr2
   have HR2 : Hid (lexL 0 (r.data.toList.take k) false = .ok ts):=hr2
   clear hr2
   go_wp2_with fail
   go_at_call 8
   refine CL.mono ?_
   rintro e W1 ⟨⟨v,rfl,hv0⟩,b1⟩
   have hv:=tkv_of hv0 q1 q2
   obtain ⟨m1,bel1⟩:=HW.out W1 b1
   obtain ⟨⟨_,_,_,_⟩,_,_,_,_⟩:=t4 m1
   clear CL hv0
   obtain ⟨ta,tc,bl,of,rfl,hta,htk,hcp⟩:=hv.h
   clear hv
   by_cases hone : ts.length=1
   ·obtain ⟨y,rfl⟩:=List.length_eq_one_iff.1 hone
    obtain rfl:=hta (by simp)
    obtain ⟨c0,c1,c2,c3⟩:=htk.c 0 (by simp)
    obtain ⟨⟨yk,yt,yn⟩,py⟩:=y
    simp only [tkT,List.map_cons,List.map_nil,List.getElem_cons_zero,Nat.zero_mul,Nat.add_zero] at c0 c1 c2
    have HT : Hid ((⟨yt.toArray⟩ : ByteArray).toList=XB.toList→yt=xt):=fun e=>by have:=(bytes_eq.2 e).trans HX.out.symm;simpa using this
    have HT2 : Hid (yt=xt→(⟨yt.toArray⟩ : ByteArray).toList=XB.toList):=fun e=>by rw [e,HX.out]
    have HK : Hid (k=k0→yk=xk∧yt=xt∧yn=xn):=fun q=>by
     have:=HR2.out
     rw [q,HP.out] at this
     injection this with this
     injection this with this
     injection this with this
     injection this with e1 e2
     injection e2 with e2 e3
     exact ⟨e1.symm,e2.symm,e3.symm⟩
    simp only [List.map_cons,List.map_nil,List.length_cons,List.length_nil]
    clear htk hta hcp q1 q2 hone
    by_cases e1 : yk=xk
    ·subst e1
     obtain ⟨Y,hY⟩ : ∃ Y : ByteArray,(⟨yt.toArray⟩ : ByteArray)=Y:=⟨_,rfl⟩
     rw [hY] at HT HT2 c1
     clear hY
     by_cases e2 : Y.toList=XB.toList
     ·by_cases e3 : yn=xn
      ·subst e3
       have hyx:=HT.out e2
       have hkk0 : k=k0:=by
        by_cases q : k=k0
        ·exact q
        ·exact absurd (by rw [← hyx];exact HR2.out) (HN.out k hk1 (by omega) py)
       go_wp2_with fail
       go_region
       go_wp2
       go_ret2
       exact ⟨⟨k0,hk0,HO.out,by first | rfl | simp⟩,bV.trans (bel1.drew.mono bV.size)⟩
      ·have hlt : k < k0:=by
        by_cases q : k=k0
        ·exact absurd (HK.out q).2.2 e3
        ·omega
       have e3b : (yn != xn)=true:=by simpa using e3
       go_wp2_with fail
       go_region
       go_wp2
       go_roundw
       case rel=>exact ⟨k+1,by simp,by omega,by omega,bel1.drew⟩
       case measure=>simp [intOf];omega
     ·have hlt : k < k0:=by
       by_cases q : k=k0
       ·exact absurd (HT2.out (HK.out q).2.1) e2
       ·omega
      have e2b : (Y.toList == XB.toList)=false:=by simpa using e2
      have e2c : (Y.toList != XB.toList)=true:=by simpa using e2
      go_wp2_with fail
      go_region
      go_wp2
      go_roundw
      case rel=>exact ⟨k+1,by simp,by omega,by omega,bel1.drew⟩
      case measure=>simp [intOf];omega
    ·have hlt : k < k0:=by
      by_cases q : k=k0
      ·exact absurd (HK.out q).1 e1
      ·omega
     have e1b : (yk != xk)=true:=by simpa using e1
     go_wp2_with fail
     go_region
     go_wp2
     go_roundw
     case rel=>exact ⟨k+1,by simp,by omega,by omega,bel1.drew⟩
     case measure=>simp [intOf];omega
   ·have hlt : k < k0:=by
     by_cases q : k=k0
     ·have:=HR2.out
      rw [q,HP.out] at this
      injection this with this
      rw [← this] at hone
      exact absurd rfl hone
     ·omega
    have hl : ((ts.length : Int) != 1)=true:=by simp;omega
    simp only [List.length_map]
    go_wp2_with fail
    go_region
    go_wp2
    go_roundw
    case rel=>exact ⟨k+1,by simp,by omega,by omega,bel1.drew⟩
    case measure=>simp [intOf];omega
end Go.Proofs.YthfkfbcopinmiaaGreatDoor
