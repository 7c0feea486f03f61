/- Own text. The program's Lex. Package module: a whole source,whatever it is. Package module: a source that is no tokens;Module itself. -/
import Derived.Test.YthfkfbcopinmiaaGreatDoorGk32
import Derived.Test.YthfkfbcopinmiaaGreatDoorGk28
import Derived.Test.YthfkfbcopinmiaaGreatDoorGk33
import Derived.Test.YthfkfbcopinmiaaGreatDoorGk11
import Derived.Test.YthfkfbcopinmiaaGreatDoorGk29
set_option linter.unusedVariables false
set_option maxRecDepth 100000
set_option maxHeartbeats 4000000
namespace Go.Proofs.YthfkfbcopinmiaaGreatDoor
open Go.RowKit
theorem row_base {w : World} {base base' : Nat} {e : TypeId} {size : Nat} {v : Value} {n : Nat} {xs : List Value} (h : w.ownsRow base e size v n xs) (hb : base' ≤ base) : w.ownsRow base' e size v n xs:=by
 refine ⟨h.1,?_⟩
 rcases h.2 with h2 | ⟨g,cap,cur,h1,h2,h3⟩
 ·exact .inl h2
 ·exact .inr ⟨g,cap,cur,h1,Nat.le_trans hb h2,h3⟩
theorem Kept.row {b : Nat} {w w' : World} {base : Nat} {e : TypeId} {size : Nat} {v : Value} {n : Nat} {xs : List Value} (h : Kept b w w') (hr : w.ownsRow base e size v n xs) (hb : b < base) : w'.ownsRow base e size v n xs:=by
 refine hr.kept (row:=some b) ⟨h.os,h.tape,h.output,h.size,fun k hk hne=>h.block k hk (fun e=>hne (by rw [e]))⟩ ?_
 cases hv : v.ownBlock with
 | none=>exact .inl rfl
 | some k =>
  refine .inr (fun e=>?_)
  have:=(hr.lt k hv).1
  cases e
  omega
theorem lexL_abs (a : Nat) (l : Bs) (sc : Bool) : lexL a (l.drop a) sc =
 if (absP l a).2=false then .error ((absP l a).1,40)
 else if l.drop (absP l a).1=[] then .ok []
 else match nextL (l.drop (absP l a).1) sc with
  | .error e=>.error ((absP l a).1,e)
  | .ok x=>consL (x.1,(absP l a).1) (lexL ((absP l a).1+x.2) (l.drop ((absP l a).1+x.2)) sc):=by
 rw [lexL_eq]
 unfold absP
 simp only [List.drop_drop,Nat.add_assoc]
 split
 ·rfl
 ·split
  ·rfl
  ·cases nextL (l.drop (a+(pastL (l.drop a)).1)) sc <;> rfl
theorem lex_any (s : ByteArray) (sc : Bool) (w : World) (he : Env w) (hs : s.size < 4294967281) : Calls Tryz.prog 14 #[.string s,.bool sc] w fun e w' =>
 lexRes (lexL 0 s.data.toList sc) w.heap.size e w'∧Below w.heap.size w w':=by
 obtain ⟨i0,hi,hz0,hz1,hz2⟩:=info_parts info_tok
 have hsl : Hid (s.size=s.data.toList.length):=Lib.size_eq s
 have ho:=he.over
 go_enter Tryz.func14,Tryz.ntmps14
 go_wp2
 go_loopw [7] (fun v7 W=>∃ (a : Nat) (d : List (Tk × Nat)),a ≤ s.size∧d.length ≤ a∧Rdr W w.heap.size s a sc∧ToksAt W (w.heap.size+1) v7 (ints d)∧Below w.heap.size w W ∧
  Hid (lexL 0 s.data.toList sc=preL d (lexL a (s.data.toList.drop a) sc))) (fun _ W=>s.size - placeOf w.heap.size W)
 case atStart=>exact ⟨0,[],Nat.zero_le _,by simp,heap_alloc_new w _,World.ownsRow_nil _ _ _ _,(Below.refl _ _).alloc (Nat.le_refl _) _,by simp [Hid,preL_nil]⟩
 case round =>
  obtain ⟨a,d,ha,hda,hR,ht,hb,hh⟩:=hrel
  have hnx:=nextP_own w.heap.size s a sc wr (env_below he hb) ho hR ha hs
  have hle:=lexL_abs a s.data.toList sc
  have hwr:=hR.cells.2.2.2.2
  unfold nxtRes at hnx
  have hap : a ≤ (absP s.data.toList a).1:=Nat.le_add_right _ _
  generalize absP s.data.toList a=P at *
  obtain ⟨p,ok⟩:=P
  simp only at hnx hle hap
  cases ok
  ·rw [if_pos rfl] at hle
   simp only [if_pos] at hnx
   have HR : Hid (lexL 0 s.data.toList sc = .error (p,40)):=by
    show _=_
    rw [hh.out,hle]
    rfl
   clear hle hh
   simp only [tokV] at hnx
   go_wp2_with (go_at_call 31;refine hnx.mono ?_;rintro e W1 ⟨a',ha',⟨rfl,rfl⟩,hR1,hK1⟩;obtain ⟨q0,q1,q2,qf,qb⟩:=hR1.cells)
   have hbW:=hb.trans (hK1.below (Nat.le_refl _) hb.size)
   go_quiet (fail)
   go_wp2
   go_ret3
   refine ⟨?_,(hbW.alloc hbW.size _).trans ((drewN_below4 _ _).mono (by have:=hbW.size;simp;omega))⟩
   rw [HR.out]
   rfl
  ·rw [if_neg (by simp)] at hle
   simp only [Bool.true_eq_false,if_false] at hnx
   by_cases hend : s.data.toList.drop p=[]
   ·rw [if_pos hend] at hle
    simp only [if_pos hend] at hnx
    have HR : Hid (lexL 0 s.data.toList sc = .ok d):=by
     show _=_
     rw [hh.out,hle]
     simp [preL]
    clear hle hh hend
    simp only [tokV] at hnx
    go_wp2_with (go_at_call 31;refine hnx.mono ?_;rintro e W1 ⟨a',ha',rfl,hR1,hK1⟩)
    have hbW:=hb.trans (hK1.below (Nat.le_refl _) hb.size)
    go_ret3
    refine ⟨?_,hbW.alloc hbW.size _⟩
    rw [HR.out]
    exact ⟨_,rfl,row_base ((hK1.row ht (by omega)).alloc _) (by omega)⟩
   ·rw [if_neg hend] at hle
    simp only [if_neg hend] at hnx
    cases hnl : nextL (s.data.toList.drop p) sc with
    | error c =>
     rw [hnl] at hle
     simp only [hnl] at hnx
     have HR : Hid (lexL 0 s.data.toList sc = .error (p,c)):=by
      show _=_
      rw [hh.out,hle]
      rfl
     have hc0 : ((c : Int) == 0)=false:=int_eqb (by rcases next_err hnl with h | h <;> omega)
     clear hle hh hend hnl
     simp only [tokV] at hnx
     go_wp2_with (go_at_call 31;refine hnx.mono ?_;rintro e W1 ⟨a',ha',⟨rfl,rfl⟩,hR1,hK1⟩;obtain ⟨q0,q1,q2,qf,qb⟩:=hR1.cells)
     have hbW:=hb.trans (hK1.below (Nat.le_refl _) hb.size)
     go_quiet (fail)
     go_wp2
     go_ret3
     refine ⟨?_,(hbW.alloc hbW.size _).trans ((drewN_below4 _ _).mono (by have:=hbW.size;simp;omega))⟩
     rw [HR.out]
     rfl
    | ok x =>
     have hx:=next_len hend hnl
     have hkd:=(next_text_at hnl).2
     rw [List.length_drop,← hsl.out] at hx
     rw [hnl] at hle
     simp only [hnl] at hnx
     simp only at hle
     have HR : Hid (lexL 0 s.data.toList sc=preL (d ++ [(x.1,p)]) (lexL (p+x.2) (s.data.toList.drop (p+x.2)) sc)):=by
      show _=_
      rw [hh.out,hle,preL_cons]
     clear hle hh hend hnl
     obtain ⟨⟨t1,t2,t3⟩,n⟩:=x
     simp only at hx HR hkd
     simp only [tokV] at hnx
     have ht1 : (t1 == 0)=false:=int_eqb (by omega)
     have hil:=ints_length d
     go_wp2_with (first
      | (go_at_call 31;refine hnx.mono ?_;rintro e W1 ⟨a',ha',⟨rfl,rfl⟩,hR1,hK1⟩;have hbW:=hb.trans (hK1.below (Nat.le_refl _) hb.size);have qb:=hR1.cells.2.2.2.2)
      | (at_builtin;refine wpList_append_own _ rfl _ _ 32 rfl (w.heap.size+1) 37 i0 _ 4 40 Tryz.underlying32 hi hz0 hz1 hz2 rfl (by decide) _ _ _ rfl (((hK1.row ht (Nat.lt_succ_self _)).alloc _).alloc _) ⟨_,0,none⟩ 1 1 (tokCells ((t1,t2,t3),(p : Int))) rfl rfl (cells_new2 _ #[.int .i64 t1,.string ⟨t2.toArray⟩,.int .i64 t3,.int .i64 (p : Int)] _ _ (by simp)) (by intro u hu;simp [tokCells] at hu;rcases hu with rfl | rfl | rfl | rfl <;> rfl) (by unfold maxLen;omega) (by omega) (by simp;omega) ?_;intro v1 W3 ho1 hg1 hn1))
     have hR3 : Rdr W3 w.heap.size s (p+n) sc:=(hg1.block _ (by simp;omega) (fun e=>by have:=(ht.lt _ e.symm).1;omega)).trans ((hR1.new _).new _)
     refine ⟨⟨p+n,d ++ [((t1,t2,t3),p)],ha',by simp;omega,hR3,?_,?_,HR⟩,?_⟩
     ·rw [ints_snoc]
      exact toks_app ho1
     ·exact ((hbW.alloc hbW.size _).alloc (by have:=hbW.size;simp;omega) _).grown hg1 (by have:=hbW.size;simp;omega) (fun j hj=>by have:=(ht.lt j hj).1;omega)
     ·rw [place_rdr hR,place_rdr hR3]
      omega
set_option linter.unusedSimpArgs false
def finR (L : List Tok) (s : ByteArray) (r : Rs (List Nd)) : Except (Int × Int) (List Nd):=match r with
 | .bad p e=>.error (beginP L s p,e)
 | .ok xs _=>if deepB 100 (.mk 68 mtT 0 xs)=true then .error (0,2) else .ok xs
def WAns (w : World) (r : Except (Int × Int) (List Nd)) (e : Ending) (w' : World) : Prop:=match r with
 | .ok xs=>AnsF w ⟨.mk 68 mtT 0 xs,0,0⟩ e w'
 | .error x=>Below w.heap.size w w'∧x.2 ≠ 0∧e = .returned (.tuple #[.agg #[.int .i64 0,.string ⟨#[]⟩,.int .i64 0,.slice none 0 0],.int .i64 x.1,.int .i64 x.2])
theorem whole_ok (s : ByteArray) (w : World) (he : Env w) (hs : s.size < 4294967281) {ts : List (Tk × Nat)} (hl : lexL 0 s.data.toList false = .ok ts) (htl : 2 * ts.length+1 ≤ 4194304) (htx : ∀ x ∈ ts,x.1.2.1.length ≤ 4194304) (F : Nat→Rs Nd)
 (hq : ∀ a,a ≤ (ts.map tkT).length→Bq (ts.map tkT) (a+1) (F a)) (hsz : ∀ a x b,F a = .ok x b→x.size+2 * a ≤ 2 * b)
 (hR : ∀ a,a ≤ (ts.map tkT).length→∀ W v,TkV W v (ts.map tkT)→Calls Tryz.prog 15 #[v,.int .i64 (a : Int),.func (.func 11) #[] #[]] W (AnsF W (faceR (F a)))) :
 Calls Tryz.prog 10 #[.string s,.int .i64 68,.func (.func 11) #[] #[]] w (WAns w (finR (ts.map tkT) s (itemsM (ts.map tkT) F ((ts.map tkT).length+1) [] 0))):=by
 have HRd : Hid (∀ a,a ≤ (ts.map tkT).length→∀ W v,TkV W v (ts.map tkT)→Calls Tryz.prog 15 #[v,.int .i64 (a : Int),.func (.func 11) #[] #[]] W (AnsF W (faceR (F a)))):=hR
 have HQ : Hid (∀ a,a ≤ (ts.map tkT).length→Bq (ts.map tkT) (a+1) (F a)):=hq
 have HZ : Hid (∀ a x b,F a = .ok x b→x.size+2 * a ≤ 2 * b):=hsz
 clear hR hq hsz
 obtain ⟨R,hR⟩ : ∃ R,finR (ts.map tkT) s (itemsM (ts.map tkT) F ((ts.map tkT).length+1) [] 0)=R:=⟨_,rfl⟩
 have HR0 : Hid (finR (ts.map tkT) s (itemsM (ts.map tkT) F ((ts.map tkT).length+1) [] 0)=R):=hR
 rw [hR]
 clear hR
 obtain ⟨i0,hi0,hz0,hz1,hz2⟩:=info_parts info_nd
 have HL : Hid (∀ W,Below w.heap.size w W→Calls Tryz.prog 14 #[.string s,.bool false] W fun e w'=>(∃ v,e = .returned (.tuple #[v,.int .i64 0,.int .i64 0])∧TkV w' v (ts.map tkT))∧Below W.heap.size W w'):=fun W b=>by
  refine (lex_any s false W (env_below he b) hs).mono ?_
  rintro e W1 ⟨h1,h2⟩
  rw [hl] at h1
  obtain ⟨v,rfl,hv⟩:=h1
  exact ⟨⟨v,rfl,tkv_of hv (by omega) htx⟩,h2⟩
 have hLt : (ts.map tkT).length=ts.length:=by simp
 have hLm : 2 * (ts.map tkT).length+1 ≤ 4194304:=by omega
 clear hLt
 generalize ts.map tkT=L at *
 clear hl htx he
 have b0 : Below w.heap.size w (w.alloc zN):=B0.alloc le0 _
 have M0 : Hid (∀ W,Below (w.alloc zN).heap.size (w.alloc zN) W→W.heap[w.heap.size]?=some (.cells #[.int .i64 0,.string ⟨#[]⟩,.int .i64 0,.slice none 0 0] 24 (0,0))):=fun W b=>(b.block _ (by simp)).trans (heap_alloc_new w _)
 go_enter Tryz.func10,Tryz.ntmps10
 go_wp2_with fail
 go_at_call 14
 refine (HL.out _ b0).mono ?_
 rintro e W1 ⟨⟨v,rfl,hv⟩,b1⟩
 obtain ⟨ta,tc,bl,of,rfl,hta,htk,hcp⟩:=hv.h
 have s1:=b1.size
 simp only [World.size_alloc] at s1
 have m1:=M0.out _ b1
 have bw1:=b0.trans (b1.mono (by simp))
 obtain ⟨N,hN⟩ : ∃ N,W1.heap.size=N:=⟨_,rfl⟩
 go_wp2
 obtain ⟨W2,hW2⟩ : ∃ W,W1.alloc (Obj.cells #[.int .i64 68,.string ⟨#[]⟩,.int .i64 0,.slice none 0 0] 24)=W:=⟨_,rfl⟩
 have b2 : Below W1.heap.size W1 W2:=by rw [← hW2];exact B0.alloc le0 _
 have n2 : W2.heap[N]?=some (.cells #[.int .i64 68,.string ⟨#[]⟩,.int .i64 0,.slice none 0 0] 24 (0,0)):=by rw [← hW2,← hN];exact heap_alloc_new _ _
 have s2 : N < W2.heap.size:=(Array.getElem?_eq_some_iff.1 n2).1
 have bw2:=bw1.trans (b2.mono (by omega))
 have HV : Hid (∀ W,W1.heap.size ≤ W.heap.size→(∀ j,j < N→W.heap[j]?=W1.heap[j]?)→TkV W (.slice ta L.length tc) L∧W.heap[w.heap.size]?=some (.cells #[.int .i64 0,.string ⟨#[]⟩,.int .i64 0,.slice none 0 0] 24 (0,0))):=fun W h1 h2=>⟨hv.keep le0 h1 (fun j hj=>h2 j (by omega)),(h2 _ (by omega)).trans m1⟩
 have k2 : ∀ j,j < N→W2.heap[j]?=W1.heap[j]?:=fun j hj=>b2.block j (by omega)
 have HN : Hid (W1.heap.size=N):=hN
 have hwN : w.heap.size < N:=by omega
 rw [hW2]
 clear hW2 b2 hv m1 hN htk s1
 go_loopw [13] (fun v13 wr=>∃ (a k : Nat) (dn : List Nd) (vl : Value) (Lc : List (Nd × Value)),v13 = .int .i64 (a : Nat)∧Hid (finR L s (itemsM L F k dn a)=R)∧Hid (L.length+1 ≤ k+a)∧Hid (sizes dn ≤ 2 * a)∧Hid (dn.length ≤ a)∧Below w.heap.size w wr∧N < wr.heap.size∧Hid (∀ j,j < N→wr.heap[j]?=W1.heap[j]?)∧wr.heap[N]?=some (.cells #[.int .i64 68,.string ⟨#[]⟩,.int .i64 0,vl] 24 (0,0))∧Grow (N+1) wr vl Lc dn.length∧Hid (Lc.map (·.1)=dn)∧a ≤ L.length) (fun v13 _=>L.length - (intOf v13).toNat)
 case atStart=>exact ⟨0,L.length+1,[],_,[],rfl,HR0.out,by show _ ≤ _;omega,by show _ ≤ _;simp [sizes],by show _ ≤ _;simp,bw2,s2,k2,n2,Grow.nil _ _,by simp [Hid],Nat.zero_le _⟩
 case round =>
  clear n2 s2 bw2 k2 HR0
  obtain ⟨a,k,dn,vl,Lc,rfl,HI,HK,HS,HDL,bel,sN,KB,n2,gr,HM,hal⟩:=hrel
  obtain ⟨k,rfl⟩ : ∃ k',k=k'+1:=⟨k - 1,by have:=HK.out;omega⟩
  have own:=gr.own
  obtain ⟨hv,m2⟩:=HV.out wr (by have:=HN.out;omega) KB.out
  by_cases hla : a < L.length
  ·have hlen : ((a : Nat) : Int) < (L.length : Nat):=by omega
   have CR:=HRd.out a (by omega) wr _ hv
   have hqa:=HQ.out a (by omega)
   cases hF : F a with
   | bad p er =>
    rw [hF] at CR hqa
    obtain rfl : .error (beginP L s p,er)=R:=by rw [← HI.out,itemsM,if_neg (by omega),hF];rfl
    obtain ⟨hp,her⟩:=hqa
    simp only [faceR,zeroNd] at CR
    simp only [Nd.k,Nd.t,Nd.n,Nd.ks,List.length_nil,mtT] at CR
    have herb : (er != 0)=true:=by simp [her]
    have HER : Hid (er ≠ 0):=her
    clear hF HI her
    go_wp2_with fail
    go_at_call 15
    refine CR.mono ?_
    rintro e W3 ⟨ad,c,rfl,l3,b3⟩
    have b4 : Below W3.heap.size W3 (W3.alloc (Obj.cells #[.int .i64 0,.string ⟨#[]⟩,.int .i64 0,.slice ad 0 c] 24)):=B0.alloc le0 _
    have b34:=b3.trans (b4.mono b3.size)
    have CB:=beginsM_any (a:=p) s (hv.bel b34) hp
    have bw4 : Below w.heap.size w (W3.alloc (Obj.cells #[.int .i64 0,.string ⟨#[]⟩,.int .i64 0,.slice ad 0 c] 24)):=bel.trans (b34.mono bel.size)
    have m4:=(b34.block _ (by omega)).trans m2
    have ltm : w.heap.size < (W3.alloc (Obj.cells #[.int .i64 0,.string ⟨#[]⟩,.int .i64 0,.slice ad 0 c] 24)).heap.size:=(Array.getElem?_eq_some_iff.1 m4).1
    clear CR b4 b34 l3
    go_wp2_with fail
    go_at_call 16
    refine CB.mono ?_
    rintro e W5 ⟨rfl,b5⟩
    have m5:=(b5.block _ ltm).trans m4
    have bw5:=bw4.trans (b5.mono bw4.size)
    obtain ⟨⟨_,_,_,_⟩,_,_,_,_⟩:=t4 m5
    clear CB
    go_wp2
    refine bodyPost_ret (res_whole Tryz.results10 (t4_set _ _ _ _ m5) rfl) rfl ⟨?_,HER.out,rfl⟩
    exact (((bw5.setCell le0 _).setCell le0 _).setCell le0 _).setCell le0 _
   | ok x b =>
    rw [hF] at CR hqa
    obtain ⟨hab,hbl⟩:=hqa
    have hxs:=HZ.out a x b hF
    have HI' : Hid (finR L s (itemsM L F k (dn ++ [x]) b)=R):=by show _=_;rw [← HI.out,itemsM,if_neg (by omega),hF];rfl
    have HK' : Hid (L.length+1 ≤ k+b):=by show _ ≤ _;have:=HK.out;omega
    have HS' : Hid (sizes (dn ++ [x]) ≤ 2 * b):=by show _ ≤ _;have:=HS.out;rw [sizes_app'];simp only [sizes];omega
    have HD' : Hid ((dn ++ [x]).length ≤ b):=by show _ ≤ _;have:=HDL.out;simp;omega
    have hdl2 : dn.length+1 ≤ 4194304:=by have:=HDL.out;omega
    clear hxs HI HK HS HDL hF hv
    simp only [faceR] at CR
    obtain ⟨⟨e0,e1,e2,e3⟩,_,_,_,f3⟩:=t4 n2
    go_wp2_with fail
    go_at_call 15
    refine CR.mono ?_
    rintro e W3 ⟨ad,c,rfl,l3,b3⟩
    have n3:=(b3.block _ sN).trans n2
    have own3:=row_bel own b3
    have s3:=b3.size
    have b4 : Below W3.heap.size W3 (W3.alloc (Obj.cells #[.int .i64 x.k,.string x.t,.int .i64 x.n,.slice ad x.ks.length c] 24)):=B0.alloc le0 _
    have n4:=(b4.block _ (by omega)).trans n3
    have far : Hid (∀ (o : Obj) (W6 : World),((W3.alloc (Obj.cells #[.int .i64 x.k,.string x.t,.int .i64 x.n,.slice ad x.ks.length c] 24)).alloc o).grownBy W6 vl.ownBlock→W6.heap[N]?=some (.cells #[.int .i64 68,.string ⟨#[]⟩,.int .i64 0,vl] 24 (0,0))∧(∀ j,j < N→W6.heap[j]?=W1.heap[j]?)∧Below w.heap.size w W6∧N < W6.heap.size):=fun o W6 hg=>by
     have ne : ∀ j,j < N+1→some j ≠ vl.ownBlock:=fun j hj e=>by have:=(row_lt own j e.symm).1;omega
     have bA : Below wr.heap.size wr ((W3.alloc (Obj.cells #[.int .i64 x.k,.string x.t,.int .i64 x.n,.slice ad x.ks.length c] 24)).alloc o):=(b3.alloc b3.size _).alloc (by simp;omega) o
     have gs:=hg.size
     have aS:=bA.size
     have bl:=bel.size
     refine ⟨(hg.block _ (by omega) (ne _ (by omega))).trans ((bA.block _ sN).trans n2),fun j hj=>(hg.block _ (by omega) (ne _ (by omega))).trans ((bA.block _ (by omega)).trans (KB.out j hj)),(bel.trans (bA.mono bl)).grown hg (by omega) (fun j e=>by have:=(row_lt own j e).1;omega),by omega⟩
    clear e0 e1 e2 e3 f3
    obtain ⟨⟨e0,e1,e2,e3⟩,_,_,_,f3⟩:=t4 n3
    obtain ⟨⟨e4,e5,e6,e7⟩,_,_,_,f7⟩:=t4 n4
    go_wp2_with (at_builtin;refine wpList_append_lies _ (by rfl) _ _ _ (by rfl) (N+1) 24 i0 _ 4 56 Tryz.underlying22 hi0 hz0 hz1 hz2 rfl (by omega) _ dn.length (rowN Lc) (by rfl) ((own3.alloc _).alloc _) ⟨W3.heap.size+1,0,none⟩ 1 1 [Value.int IntKind.i64 x.k,Value.string x.t,Value.int IntKind.i64 x.n,Value.slice ad x.ks.length c] (by rfl) (by rfl) (World.news_of_block (cs:=#[Value.int IntKind.i64 x.k,Value.string x.t,Value.int IntKind.i64 x.n,Value.slice ad x.ks.length c]) (t:=24) (fr:=(0,0)) (hnew _ (by simp))) (by simp [Value.oneCell']) (by omega) (by unfold maxLen;omega) (by omega) (by simp;omega) (W3.heap.size+2) (by simp) ?_;intro gg cap W6 hown6 hgrow hat hlt6;obtain ⟨n6,k6,bw6,s6⟩:=far.out _ W6 hgrow;obtain ⟨⟨_,_,_,_⟩,_,_,_,_⟩:=t4 n6)
    have gr':=gr.push (by omega) (b3.trans (b4.mono b3.size)) (l3.bel b4) hgrow (by simpa using hat) hown6 (p:=⟨N,3,none⟩) (by simp) (Value.slice (some { block:=gg,off:=0 }) (dn.length+1) cap)
    have HM' : Hid ((Lc ++ [(x,Value.slice ad x.ks.length c)]).map (·.1)=dn ++ [x]):=by show _=_;rw [List.map_append,HM.out];rfl
    have n7:=box4_set3 (Value.slice (some { block:=gg,off:=0 }) (dn.length+1) cap) n6
    have k7 : Hid (∀ j,j < N→(W6.setCell ⟨N,3,none⟩ (Value.slice (some { block:=gg,off:=0 }) (dn.length+1) cap)).heap[j]?=W1.heap[j]?):=fun j hj=>(Below.heap_setCell _ _ _ _ (by simp;omega)).trans (k6 j hj)
    have b7:=bw6.setCell (p:=⟨N,3,none⟩) (by show _ ≤ N;omega) (Value.slice (some { block:=gg,off:=0 }) (dn.length+1) cap)
    go_roundw
    case rel=>exact ⟨b,k,dn ++ [x],_,_,by simp,HI',HK',HS',HD',b7,by simpa [World.setCell] using s6,k7,n7,by simpa using gr',HM',hbl⟩
    case measure=>simp [intOf];omega
  ·obtain rfl : a=L.length:=by omega
   have hlen : ¬ ((L.length : Nat) : Int) < (L.length : Nat):=by omega
   have HI2 : Hid (finR L s (.ok dn L.length)=R):=by show _=_;rw [← HI.out,itemsM,if_pos le0]
   clear HI
   have lx:=gr.lat HM.out
   obtain ⟨al,cl,rfl⟩:=lx.sl
   obtain ⟨⟨e0,e1,e2,e3⟩,_,_,_,_⟩:=t4 n2
   obtain ⟨⟨_,_,_,_⟩,_,_,_,_⟩:=t4 m2
   have CD:=deeper_any 100 (.mk 68 mtT 0 dn) wr _ _ (by omega) lx (by simp only [Nd.size];have:=HS.out;omega)
   simp only [Nd.v,Nd.k,Nd.t,Nd.n,mtT] at CD
   cases hdp : deepB 100 (.mk 68 mtT 0 dn) with
   | true =>
    obtain rfl : .error (0,2)=R:=by rw [← HI2.out,finR,if_pos hdp]
    have hdp':=hdp
    simp only [mtT] at hdp'
    rw [hdp'] at CD
    have ltm:=(Array.getElem?_eq_some_iff.1 m2).1
    clear gr own hdp hdp' HI2
    go_wp2_with fail
    go_at_call 17
    refine CD.mono ?_
    rintro e W3 ⟨rfl,b3⟩
    have m3:=(b3.block _ ltm).trans m2
    obtain ⟨⟨_,_,_,_⟩,_,_,_,_⟩:=t4 m3
    have bw3:=bel.trans (b3.mono bel.size)
    go_wp2
    refine bodyPost_ret (res_whole Tryz.results10 (t4_set _ _ _ _ m3) rfl) rfl ⟨?_,?_,rfl⟩
    ·exact (((bw3.setCell le0 _).setCell le0 _).setCell le0 _).setCell le0 _
    ·show (2 : Int) ≠ 0;decide
   | false =>
    obtain rfl : .ok dn=R:=by rw [← HI2.out,finR,if_neg (by rw [hdp];decide)]
    have hdp':=hdp
    simp only [mtT] at hdp'
    rw [hdp'] at CD
    clear hdp hdp' HI2
    have HB : Hid (∀ W,Below wr.heap.size wr W→W.heap[N]?=some (.cells #[.int .i64 68,.string ⟨#[]⟩,.int .i64 0,.slice al dn.length cl] 24 (0,0))∧W.heap[w.heap.size]?=some (.cells #[.int .i64 0,.string ⟨#[]⟩,.int .i64 0,.slice none 0 0] 24 (0,0))):=fun W b=>⟨(b.block _ sN).trans n2,(b.block _ (by omega)).trans m2⟩
    clear gr own
    go_wp2_with fail
    go_at_call 17
    refine CD.mono ?_
    rintro e W3 ⟨rfl,b3⟩
    obtain ⟨n3,m3⟩:=HB.out _ b3
    have l3:=lx.bel b3
    clear e0 e1 e2 e3
    obtain ⟨⟨e0,e1,e2,e3⟩,_,_,_,_⟩:=t4 n3
    obtain ⟨⟨_,_,_,_⟩,_,_,_,_⟩:=t4 m3
    have bw3:=bel.trans (b3.mono bel.size)
    go_wp2
    refine bodyPost_ret (res_whole Tryz.results10 (t4_set _ _ _ _ m3) rfl) rfl ⟨al,cl,rfl,?_,?_⟩
    ·exact (l3.mono (T:=fun b=>w.heap.size+1 ≤ b) (fun b hb=>by omega)).set4 (by omega) (by omega) _ _ _ _
    ·exact (((bw3.setCell le0 _).setCell le0 _).setCell le0 _).setCell le0 _
theorem whole_bad (s : ByteArray) (w : World) (he : Env w) (hs : s.size < 4294967281) {x : Nat × Nat} (hl : lexL 0 s.data.toList false = .error x) :
 Calls Tryz.prog 10 #[.string s,.int .i64 68,.func (.func 11) #[] #[]] w (WAns w (.error ((x.1 : Nat),(x.2 : Nat)))):=by
 have hx : x.2=40 ∨ x.2=41:=lexF_err _ _ _ _ _ hl
 obtain ⟨p,er⟩:=x
 simp only at hx
 have b0 : Below w.heap.size w (w.alloc zN):=B0.alloc le0 _
 have M0 : Hid (∀ W,Below (w.alloc zN).heap.size (w.alloc zN) W→W.heap[w.heap.size]?=some (.cells #[.int .i64 0,.string ⟨#[]⟩,.int .i64 0,.slice none 0 0] 24 (0,0))):=fun W b=>(b.block _ (by simp)).trans (heap_alloc_new w _)
 have CL:=lex_any s false (w.alloc zN) (env_below he b0) hs
 rw [hl] at CL
 simp only [lexRes] at CL
 have her : ((er : Int) != 0)=true:=by simp;omega
 have HE : Hid ((er : Int) ≠ 0):=by show _ ≠ _;omega
 clear he hl hx
 go_enter Tryz.func10,Tryz.ntmps10
 go_wp2_with fail
 go_at_call 14
 refine CL.mono ?_
 rintro e W1 ⟨rfl,b1⟩
 have m1:=M0.out _ b1
 have bw1:=b0.trans (b1.mono (by simp))
 obtain ⟨⟨_,_,_,_⟩,_,_,_,_⟩:=t4 m1
 clear CL
 go_wp2
 refine bodyPost_ret (res_whole Tryz.results10 (t4_set _ _ _ _ m1) rfl) rfl ⟨?_,HE.out,rfl⟩
 exact (((bw1.setCell le0 _).setCell le0 _).setCell le0 _).setCell le0 _
theorem res_ModuleW {W : World} {p : Nat} {a b c d vq vr : Value} {tmps : Array Value} (mp : W.heap[p]?=some (.cells #[a,b,c,d] 24 (0,0))) (h4 : tmps[2]?.getD undef = .pointer (some ⟨p,0,none⟩)) (h5 : tmps[3]?.getD undef=vq) (h6 : tmps[4]?.getD undef=vr) : (results Tryz.f5 tmps).run Tryz.prog W = .ok (.tuple #[.agg #[a,b,c,d],vq,vr]) W:=by
 obtain ⟨⟨c0,c1,c2,c3⟩,_⟩:=t4 mp
 simp [results,Tryz.results5,go_sem,h4,h5,h6,c0,c1,c2,c3]
theorem module_ok (s : ByteArray) (w : World) (r : Fc) (C : ∀ o,Calls Tryz.prog 10 #[.string s,.int .i64 68,.func (.func 11) #[] #[]] (w.alloc o) (AnsF (w.alloc o) r)) :
 Calls Tryz.prog 5 #[.string s] w (AnsF w r):=by
 have bel_n : ∀ o,Below w.heap.size w (w.alloc o):=fun o=>B0.alloc le0 o
 have M0 : Hid (∀ W,Below (w.alloc zN).heap.size (w.alloc zN) W→W.heap[w.heap.size]?=some (.cells #[.int .i64 0,.string ⟨#[]⟩,.int .i64 0,.slice none 0 0] 24 (0,0))):=fun W b=>(b.block _ (by simp)).trans (heap_alloc_new w _)
 go_enter Tryz.func5,Tryz.ntmps5
 go_wp2_with (go_at_call 10;refine (C _).mono ?_;rintro e W1 ⟨ad,c,rfl,l1,b1⟩;have m1:=M0.out _ b1;obtain ⟨⟨_,_,_,_⟩,_,_,_,_⟩:=t4 m1)
 have b2 : Below w.heap.size w W1:=(bel_n _).trans (b1.mono (by simp))
 have s1:=b1.size
 simp at s1
 refine bodyPost_ret (res_ModuleW (t4_set _ _ _ _ m1) rfl rfl rfl) rfl ⟨ad,c,rfl,?_,?_⟩
 ·exact (l1.mono (T:=fun b=>w.heap.size+1 ≤ b) (fun b hb=>by simp at hb;omega)).set4 (by omega) (by omega) _ _ _ _
 ·exact (((b2.setCell le0 _).setCell le0 _).setCell le0 _).setCell le0 _
theorem module_none (s : ByteArray) (w : World) (x : Int × Int) (C : ∀ o,Calls Tryz.prog 10 #[.string s,.int .i64 68,.func (.func 11) #[] #[]] (w.alloc o) (WAns (w.alloc o) (.error x))) :
 Calls Tryz.prog 5 #[.string s] w (WAns w (.error x)):=by
 have M0 : Hid (∀ W,Below (w.alloc zN).heap.size (w.alloc zN) W→W.heap[w.heap.size]?=some (.cells #[.int .i64 0,.string ⟨#[]⟩,.int .i64 0,.slice none 0 0] 24 (0,0))):=fun W b=>(b.block _ (by simp)).trans (heap_alloc_new w _)
 have b0 : Below w.heap.size w (w.alloc zN):=B0.alloc le0 _
 have C0:=C zN
 clear C
 go_enter Tryz.func5,Tryz.ntmps5
 go_wp2_with fail
 go_at_call 10
 refine C0.mono ?_
 obtain ⟨p,er⟩:=x
 rintro e W1 ⟨b1,her,rfl⟩
 have m1:=M0.out _ b1
 have b2 : Below w.heap.size w W1:=b0.trans (b1.mono (by simp))
 have HER : Hid (er ≠ 0):=her
 obtain ⟨⟨_,_,_,_⟩,_,_,_,_⟩:=t4 m1
 clear C0 her
 go_wp2
 refine bodyPost_ret (res_ModuleW (t4_set _ _ _ _ m1) rfl rfl rfl) rfl ⟨?_,HER.out,rfl⟩
 exact (((b2.setCell le0 _).setCell le0 _).setCell le0 _).setCell le0 _
theorem module_w (s : ByteArray) (w : World) (r : Except (Int × Int) (List Nd)) (C : ∀ o,Calls Tryz.prog 10 #[.string s,.int .i64 68,.func (.func 11) #[] #[]] (w.alloc o) (WAns (w.alloc o) r)) :
 Calls Tryz.prog 5 #[.string s] w (WAns w r):=by
 cases r with
 | error x=>exact module_none s w x C
 | ok xs=>exact module_ok s w _ C
end Go.Proofs.YthfkfbcopinmiaaGreatDoor
