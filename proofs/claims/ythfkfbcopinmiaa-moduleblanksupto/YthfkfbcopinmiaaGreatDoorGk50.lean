/- Own text. A list of numbers as it is read. ModuleBlanks: the walk. -/
import Derived.Test.YthfkfbcopinmiaaGreatDoorRows
import Derived.Test.YthfkfbcopinmiaaGreatDoorGk01
import Derived.ProofKit
import Derived.OpenShut
import Derived.JoinedCond
import Derived.SizedLaws
import Derived.Carry
import Derived.Deep.Slices
import Derived.Deep.SlicePairs
import Derived.Test.YthfkfbcopinmiaaGreatDoorGk49
set_option linter.unusedVariables false
set_option linter.unusedSimpArgs false
set_option maxRecDepth 100000
namespace Go.Proofs.YthfkfbcopinmiaaGreatDoor.Bi
open Go.ChangeShapes Go.WideShapes Go.ChangeAt Go.RowKit
structure VAt (w : World) (B : Nat) (v : Value) (xs : List Value) : Prop where
 f : ∃ ad c,v = .slice ad xs.length c
 c : 0 < xs.length→∃ b o c,v = .slice (some ⟨b,o,none⟩) xs.length c∧b < B∧∀ i (h : i < xs.length),w.cell? ⟨b,o+i,none⟩=some xs[i]
theorem VAt.bel {w w' : World} {B : Nat} {v : Value} {xs : List Value} (h : VAt w B v xs) (k : Below B w w') : VAt w' B v xs :=
 ⟨h.f,fun h0=>by
  obtain ⟨b,o,c,e,hb,hc⟩:=h.c h0
  exact ⟨b,o,c,e,hb,fun i hi=>(World.cell?_of_block (a:=⟨b,o+i,none⟩) (k.block b hb)).trans (hc i hi)⟩⟩
theorem VAt.mono {w : World} {B B' : Nat} {v : Value} {xs : List Value} (h : VAt w B v xs) (k : B ≤ B') : VAt w B' v xs :=
 ⟨h.f,fun h0=>by
  obtain ⟨b,o,c,e,hb,hc⟩:=h.c h0
  exact ⟨b,o,c,e,Nat.lt_of_lt_of_le hb k,hc⟩⟩
def ints (l : List Int) : List Value:=l.map fun x=>.int .i64 x
theorem ints_len (l : List Int) : (ints l).length=l.length:=by simp [ints]
abbrev IAt (w : World) (B : Nat) (v : Value) (l : List Int) : Prop:=VAt w B v (ints l)
theorem IAt.op {w : World} {B : Nat} {v : Value} {l : List Int} (h : IAt w B v l) : ∃ ad c,v = .slice ad l.length c:=by
 obtain ⟨ad,c,e⟩:=h.f
 exact ⟨ad,c,by rw [e,ints_len]⟩
theorem IAt.cl {w : World} {B : Nat} {v : Value} {l : List Int} (h : IAt w B v l) (h0 : 0 < l.length) : ∃ b o c,v = .slice (some ⟨b,o,none⟩) l.length c∧b < B∧∀ i (h : i < l.length),w.cell? ⟨b,o+i,none⟩=some (.int .i64 l[i]):=by
 obtain ⟨b,o,c,e,hb,hc⟩:=h.c (by rw [ints_len];exact h0)
 exact ⟨b,o,c,by rw [e,ints_len],hb,fun i hi=>by rw [hc i (by rw [ints_len];exact hi)];simp [ints]⟩
theorem bulk_slice {H : Type} (l r : List (DataW H)) : Rows.uptoBulk (.slice l r)=Rows.uptoBulkAll l+Rows.uptoBulkAll r+1:=by simp [Rows.uptoBulk]
theorem bulk_pos {H : Type} : ∀ d : DataW H,1 ≤ Rows.uptoBulk d
 | .lit l=>by cases l <;> simp [Rows.uptoBulk]
 | .nil=>by simp [Rows.uptoBulk]
 | .ptr d=>by simp [Rows.uptoBulk]
 | .slice a b=>by simp [Rows.uptoBulk]
 | .agg a=>by simp [Rows.uptoBulk]
 | .iface a b=>by simp [Rows.uptoBulk]
 | .map a=>by simp [Rows.uptoBulk]
 | .held a=>by simp [Rows.uptoBulk]
theorem bulk_len {H : Type} : ∀ (l : List (DataW H)),l.length ≤ Rows.uptoBulkAll l
 | []=>by simp
 | d :: r=>by have:=bulk_len r;have:=bulk_pos d;simp only [List.length_cons,Rows.uptoBulkAll];omega
theorem cells_i : Tryz.prog.cellsOf 3=1:=by kernel_rfl
theorem addr_none {w : World} {a : Addr} {v : Value} (h : w.cell? a=some v) : a=⟨a.block,a.off,none⟩:=by
 unfold World.cell? at h
 split at h
 ·split at h
  ·cases h
  ·rename_i hs
   obtain ⟨b,o,s⟩:=a
   cases s with
   | none=>rfl
   | some _=>simp at hs
 ·cases h
theorem add_plain (b o n : Nat) : (⟨b,o,none⟩ : Addr).add n=⟨b,o+n,none⟩:=by
 unfold Addr.add
 split
 ·rename_i h;simp_all
 ·rfl
theorem vat_open {W : World} {a : Addr} {len cap : Nat} {V : Nat→Value} {X : List Value} (hX : X=(List.range len).map V) (hc : ∀ i,i < len→W.cell? (a.add i)=some (V i)) : VAt W W.heap.size (.slice (some a) len cap) X:=by
 have hl : X.length=len:=by rw [hX];simp
 refine ⟨⟨some a,cap,by rw [hl]⟩,fun h0=>?_⟩
 have c0:=hc 0 (by omega)
 have ha0 : a.add 0=a:=by simp [Addr.add]
 rw [ha0] at c0
 have ha:=addr_none c0
 refine ⟨a.block,a.off,cap,by rw [hl,← ha],World.block_lt_of_cell? W a c0,fun i hi=>?_⟩
 have ci:=hc i (by omega)
 rw [ha,add_plain] at ci
 rw [ci]
 subst hX
 simp
theorem ints_open {H : Type} {enc : TypeId × Value→H} {W : World} {n : Nat} {cs : List Value} {d : DataW H} {ps : List MemPlace} (h : DataW.trod enc Tryz.prog W 0 (fun _=>true) true n 31 cs=some (d,ps)) :
 ∃ (v : Value) (l : List Int),cs=[v]∧IAt W W.heap.size v l∧l.length ≤ Rows.uptoBulk d∧∀ x ∈ l,-9223372036854775808 ≤ x∧x ≤ 9223372036854775807:=by
 rcases Deep.open_slice1 Tryz.underlying31 cells_i h with ⟨rfl,hx⟩ | ⟨a,len,cap,m,k,V,D,Pl,rfl,_,hl,hm,hmm,hx,hc⟩
 ·exact ⟨_,[],rfl,⟨⟨none,0,rfl⟩,fun h0=>absurd h0 (by simp [ints])⟩,by simp,by simp⟩
 ·have hlm : len ≤ m:=by rw [hmm];simp;omega
  have each : ∀ i,i < m→∃ z : Int,V i = .int .i64 z∧-9223372036854775808 ≤ z∧z ≤ 9223372036854775807:=fun i hi=>by
   obtain ⟨z,e,_,w2⟩:=DataW.trod_int Tryz.underlying3 (hc i hi).2
   simp only [List.cons.injEq,and_true] at e
   have hb:=bounds_i64 w2
   exact ⟨z,e,hb.1,hb.2⟩
  obtain ⟨q,hq⟩:=@Deep.choose_lt Int ⟨0⟩ m _ each
  have hd : d = .slice ((List.range len).map D) ((List.range (m - len)).map fun j=>D (len+j)):=congrArg Prod.fst hx
  refine ⟨_,(List.range len).map q,rfl,vat_open (V:=V) (by unfold ints;rw [List.map_map];exact List.map_congr_left fun i hi=>by have:=List.mem_range.1 hi;exact ((hq i (by omega)).1).symm) (fun i hi=>(hc i (by omega)).1),?_,fun x hx=>?_⟩
  ·rw [hd,bulk_slice]
   have:=bulk_len ((List.range len).map D)
   simp only [List.length_map,List.length_range] at this ⊢
   omega
  ·obtain ⟨i,hi,rfl⟩:=List.mem_map.1 hx
   exact (hq i (by have:=List.mem_range.1 hi;omega)).2
theorem open_ints {H : Type} {enc : TypeId × Value→H} {W : World} {base : Nat} {v : Value} {d : DataW H} {ps : List MemPlace} (hv : Value.okWide Tryz.prog W .any base 31 v) (h : DataW.Trod enc Tryz.prog W 0 (fun _=>true) true 31 v d ps) :
 ∃ l,IAt W W.heap.size v l∧l.length ≤ Rows.uptoBulk d∧∀ x ∈ l,-9223372036854775808 ≤ x∧x ≤ 9223372036854775807:=by
 obtain ⟨a,len,cap,rfl⟩:=okWide_slice Tryz.underlying31 hv
 obtain ⟨fuel,h⟩:=h
 obtain ⟨v,l,e,h1,h2,h3⟩:=ints_open h
 simp only [Value.cells,List.cons.injEq,and_true] at e
 subst e
 exact ⟨l,h1,h2,h3⟩
end Go.Proofs.YthfkfbcopinmiaaGreatDoor.Bi
set_option linter.unusedVariables false
set_option linter.unusedSimpArgs false
set_option maxRecDepth 100000
set_option maxHeartbeats 4000000
namespace Go.Proofs.YthfkfbcopinmiaaGreatDoor
open Go.RowKit
theorem module_any2 (s : ByteArray) (w : World) (he : Env w) (hs : s.size < 4294967281) (ht : ∀ ts,lexL 0 s.data.toList false = .ok ts→2 * ts.length+1 ≤ 4194304∧∀ x ∈ ts,x.1.2.1.length ≤ 4194304) : Calls Tryz.prog 5 #[.string s] w (WAns w (modR s)):=by
 refine module_w s w _ fun o=>?_
 have bo : Below w.heap.size w (w.alloc o):=B0.alloc le0 _
 have he':=env_below he bo
 unfold modR
 cases hl : lexL 0 s.data.toList false with
 | error x=>exact whole_bad s _ he' hs hl
 | ok ts =>
  obtain ⟨h1,h2⟩:=ht ts hl
  exact whole_ok s _ he' hs hl h1 h2 (itemM (ts.map tkT)) (fun a ha=>item_q ha) (fun a x b h=>item_sz a x b h) (fun a ha W v hv=>readItem hv ha)
theorem modR_same {s t : ByteArray} {xs : List Nd} {ts us : List (Tk × Nat)} (h : modR s = .ok xs) (h1 : lexL 0 s.data.toList false = .ok ts) (h2 : lexL 0 t.data.toList false = .ok us) (hk : kinds us=kinds ts) : modR t = .ok xs:=by
 obtain ⟨ts',b,hl,hi,hd⟩:=modR_ok h
 rw [h1] at hl
 injection hl with hl
 subst hl
 have e:=same_items hk hi
 have hlen : us.length=ts.length:=by rw [← kinds_len,hk,kinds_len]
 unfold modR
 rw [h2]
 simp only [List.length_map]
 rw [hlen,e]
 simp only [finR]
 rw [hd]
 rfl
theorem cutLH (s : ByteArray) (a b : Nat) (h1 : a ≤ b) (h2 : b ≤ s.size) (W : World) : (Instr.slice 9 (.string s) (some (.int .i64 (a : Int))) (some (.int .i64 (b : Int))) none).run Tryz.prog W = .ok (.string (s.extract a b)) W:=by
 rw [run_slice_string (h:=Tryz.underlying9) (h0:=by omega) (h1:=by omega) (h2:=by omega)]
 rfl
theorem ext_cut (s : ByteArray) (a b : Nat) : (s.extract a b).data.toList=(s.data.toList.drop a).take (b - a):=by
 simp [ByteArray.data_extract,Array.toList_extract,List.extract_eq_take_drop]
theorem toks_cut {s : ByteArray} {ts : List (Tk × Nat)} (h : lexL 0 s.data.toList false = .ok ts) (i : Nat) (hi : i < ts.length) : ∃ en n : Nat,ts[i].2+n ≤ en∧en ≤ s.size∧One ((s.data.toList.drop ts[i].2).take n) ts[i].1 false∧(∀ h : i+1 < ts.length,en=ts[i+1].2)∧(¬ i+1 < ts.length→en=s.size):=by
 have e : s.data.toList.length=s.size:=rfl
 obtain ⟨_,n,h1,h2,h3,h4⟩:=tok_at _ 0 _ ts le0 h i hi
 simp only [Nat.sub_zero] at h2 h3
 by_cases q : i+1 < ts.length
 ·obtain ⟨_,m,_,_,g3,_⟩:=tok_at _ 0 _ ts le0 h (i+1) q
  simp only [Nat.sub_zero] at g3
  exact ⟨ts[i+1].2,n,h4 q,by omega,h2,fun _=>rfl,fun q'=>absurd q q'⟩
 ·exact ⟨s.size,n,by omega,Nat.le_refl _,h2,fun q'=>absurd q' q,fun _=>rfl⟩
def sepA (j : Nat) : ByteArray:=⟨((sepB[j]?).getD []).toArray⟩
theorem sepA_in {j : Nat} (h : j < 6) : (sepA j).data.toList ∈ sepB∧(sepA j).size ≤ 9:=by
 match j,h with
 | 0,_=>exact ⟨by decide,by decide⟩
 | 1,_=>exact ⟨by decide,by decide⟩
 | 2,_=>exact ⟨by decide,by decide⟩
 | 3,_=>exact ⟨by decide,by decide⟩
 | 4,_=>exact ⟨by decide,by decide⟩
 | 5,_=>exact ⟨by decide,by decide⟩
theorem six_cell {W : World} {b : Nat} (h : W.heap[b]?=some (.cells #[.string ⟨#[32]⟩,.string ⟨#[10]⟩,.string ⟨#[9,32]⟩,.string ⟨#[32,47,42,32,59,32,42,47,32]⟩,.string ⟨#[32,47,47,32,125,10]⟩,.string ⟨#[13,10]⟩] 9 (0,0))) {j : Nat} (hj : j < 6) : W.cell? ⟨b,j,none⟩=some (.string (sepA j)):=by
 rw [cell_of_row W b j _ _ _ h]
 match j,hj with
 | 0,_=>rfl
 | 1,_=>rfl
 | 2,_=>rfl
 | 3,_=>rfl
 | 4,_=>rfl
 | 5,_=>rfl
namespace MoB
theorem walk (s : ByteArray) (vb : Value) (bs : List Int) (w : World) (hs : s.size ≤ 1048576) (hb : Bi.IAt w w.heap.size vb bs) (hbl : bs.length ≤ 1048576) (hbv : ∀ x ∈ bs,-9223372036854775808 ≤ x∧x ≤ 9223372036854775807) (he : Env w) :
 Calls Tryz.prog 4 #[.string s,vb] w fun e w'=>e = .returned (.bool true)∧Below w.heap.size w w':=by
 have CA : Hid (∀ X,Below w.heap.size w X→Calls Tryz.prog 6 #[] X fun e w'=>e = .returned (.bool true)∧Below X.heap.size X w'):=fun X b=>awake_any X (env_below he b)
 have HEv : Hid (∀ X,Below w.heap.size w X→Env X):=fun X b=>env_below he b
 have C1:=module_any s w he (by omega)
 have CL : Hid (∀ X,Calls Tryz.prog 8 #[.string s,.bool false] X fun e w'=>lexRes (lexL 0 s.data.toList false) X.heap.size e w'∧Below X.heap.size X w'):=fun X=>lex_ref s false X (by omega)
 obtain ⟨ab,cb,rfl⟩:=hb.op
 clear he
 go_enter Tryz.func4,Tryz.ntmps4
 go_wp2_with fail
 go_at_call 5
 refine C1.mono ?_
 intro e W1 A1
 clear C1
 cases hA : modR s with
 | error x =>
  rw [hA] at A1
  obtain ⟨p1,er1⟩:=x
  obtain ⟨b1,her,rfl⟩:=A1
  have heb : (er1 != 0)=true:=by simpa using her
  have bV1 : Below w.heap.size w (W1.alloc (Obj.cells #[.int .i64 0,.string ⟨#[]⟩,.int .i64 0,.slice none 0 0] 24)):=b1.alloc b1.size _
  have C2:=CL.out (W1.alloc (Obj.cells #[.int .i64 0,.string ⟨#[]⟩,.int .i64 0,.slice none 0 0] 24))
  clear her hA
  cases hl : lexL 0 s.data.toList false with
  | error y =>
   rw [hl] at C2
   simp only [lexRes] at C2
   clear hl
   go_wp2_with fail
   go_at_call 8
   refine C2.mono ?_
   rintro e W2 ⟨rfl,b2⟩
   have bV2:=bV1.trans (b2.mono bV1.size)
   have CW:=CA.out _ bV2
   go_wp2_with fail
   go_at_call 6
   refine CW.mono ?_
   rintro e W4 ⟨rfl,b4⟩
   go_wp2
   go_ret
   exact ⟨rfl,bV2.trans (b4.mono bV2.size)⟩
  | ok ts =>
   rw [hl] at C2
   simp only [lexRes] at C2
   clear hl
   go_wp2_with fail
   go_at_call 8
   refine C2.mono ?_
   rintro e W2 ⟨⟨v,rfl,_⟩,b2⟩
   have bV2:=bV1.trans (b2.mono bV1.size)
   have CW:=CA.out _ bV2
   go_wp2_with fail
   go_at_call 6
   refine CW.mono ?_
   rintro e W4 ⟨rfl,b4⟩
   go_wp2
   go_ret
   exact ⟨rfl,bV2.trans (b4.mono bV2.size)⟩
 | ok xs =>
  rw [hA] at A1
  obtain ⟨ad1,c1,rfl,l1,b1⟩:=A1
  have hz0 : ((0 : Nat) : Int)=0:=rfl
  simp only [Nd.k,Nd.t,Nd.n,Nd.ks,mtT] at l1 ⊢
  simp only [hz0]
  clear hz0
  obtain ⟨ts,_,hl,_,_⟩:=modR_ok hA
  have hzz:=modR_size hA (by omega)
  have e0 : s.data.toList.length=s.size:=rfl
  have hct:=tok_count false _ 0 _ ts le0 hl
  have hbt : ∀ x ∈ ts,x.1.2.1.length ≤ 1048600:=fun x hx=>by
   have:=((lex_said _ 0 _ false ts le0 hl).2 x.1 (List.mem_map.2 ⟨x,hx,rfl⟩)).1
   omega
  have HTK : Hid (∀ i (hi : i < ts.length),∃ en n : Nat,ts[i].2+n ≤ en∧en ≤ s.size∧One ((s.data.toList.drop ts[i].2).take n) ts[i].1 false∧(∀ h : i+1 < ts.length,en=ts[i+1].2)∧(¬ i+1 < ts.length→en=s.size)):=toks_cut hl
  have HM : Hid (∀ (t : ByteArray) us,lexL 0 t.data.toList false = .ok us→kinds us=kinds ts→modR t = .ok xs∧2 * us.length+1 ≤ 4194304∧∀ x ∈ us,x.1.2.1.length ≤ 4194304):=fun t us h1 h2=>by
   have hlen : us.length=ts.length:=by rw [← kinds_len,h2,kinds_len]
   refine ⟨modR_same hA hl h1 h2,by omega,fun x hx=>?_⟩
   have hm : x.1 ∈ kinds ts:=by rw [← h2];exact List.mem_map.2 ⟨x,hx,rfl⟩
   obtain ⟨y,hy,e⟩:=List.mem_map.1 hm
   have:=hbt y hy
   rw [e] at this
   omega
  have C2:=CL.out (W1.alloc (Obj.cells #[.int .i64 68,.string ⟨#[]⟩,.int .i64 0,.slice ad1 xs.length c1] 24))
  rw [hl] at C2
  simp only [lexRes] at C2
  have htl : ts.length ≤ 1048576:=by omega
  have bV1 : Below w.heap.size w (W1.alloc (Obj.cells #[.int .i64 68,.string ⟨#[]⟩,.int .i64 0,.slice ad1 xs.length c1] 24)):=b1.alloc b1.size _
  have a1 : Below W1.heap.size W1 (W1.alloc (Obj.cells #[.int .i64 68,.string ⟨#[]⟩,.int .i64 0,.slice ad1 xs.length c1] 24)):=B0.alloc le0 _
  have m1 : (W1.alloc (Obj.cells #[.int .i64 68,.string ⟨#[]⟩,.int .i64 0,.slice ad1 xs.length c1] 24)).heap[W1.heap.size]?=some (.cells #[.int .i64 68,.string ⟨#[]⟩,.int .i64 0,.slice ad1 xs.length c1] 24):=heap_alloc_new _ _
  clear hA hl e0 hct
  go_wp2_with fail
  go_at_call 8
  refine C2.mono ?_
  rintro e W2 ⟨⟨v,rfl,hv0⟩,b2⟩
  have hv:=tkv_of hv0 (by omega) (fun x hx=>by have:=hbt x hx;omega)
  clear C2 hv0 hbt
  obtain ⟨ta,tc,bl,of,rfl,hta,htk,hcp⟩:=hv.h
  simp only [List.length_map]
  obtain ⟨V,hV⟩ : ∃ X,W2.alloc (Obj.cells #[.string ⟨#[32]⟩,.string ⟨#[10]⟩,.string ⟨#[9,32]⟩,.string ⟨#[32,47,42,32,59,32,42,47,32]⟩,.string ⟨#[32,47,47,32,125,10]⟩,.string ⟨#[13,10]⟩] 9)=X:=⟨_,rfl⟩
  have a2 : Below W2.heap.size W2 V:=by rw [← hV];exact B0.alloc le0 _
  have m6 : V.heap[W2.heap.size]?=some (.cells #[.string ⟨#[32]⟩,.string ⟨#[10]⟩,.string ⟨#[9,32]⟩,.string ⟨#[32,47,42,32,59,32,42,47,32]⟩,.string ⟨#[32,47,47,32,125,10]⟩,.string ⟨#[13,10]⟩] 9 (0,0)):=by rw [← hV];exact heap_alloc_new _ _
  have bV2:=bV1.trans (b2.mono bV1.size)
  have bV : Below w.heap.size w V:=bV2.trans (a2.mono bV2.size)
  have f12 : Below (W1.alloc (Obj.cells #[.int .i64 68,.string ⟨#[]⟩,.int .i64 0,.slice ad1 xs.length c1] 24)).heap.size (W1.alloc (Obj.cells #[.int .i64 68,.string ⟨#[]⟩,.int .i64 0,.slice ad1 xs.length c1] 24)) V:=b2.trans (a2.mono b2.size)
  have mn : V.heap[W1.heap.size]?=some (.cells #[.int .i64 68,.string ⟨#[]⟩,.int .i64 0,.slice ad1 xs.length c1] 24):=(f12.block _ (by simp)).trans m1
  have f1 : Below W1.heap.size W1 V:=a1.trans (f12.mono a1.size)
  have g1 : LAt V (fun _=>True) (.slice ad1 xs.length c1) xs:=(l1.bel f1).mono (fun _ _=>trivial)
  have HC : Hid (∀ X,Below V.heap.size V X→(X.heap[W1.heap.size]?=some (.cells #[.int .i64 68,.string ⟨#[]⟩,.int .i64 0,.slice ad1 xs.length c1] 24)∧X.heap[W2.heap.size]?=some (.cells #[.string ⟨#[32]⟩,.string ⟨#[10]⟩,.string ⟨#[9,32]⟩,.string ⟨#[32,47,42,32,59,32,42,47,32]⟩,.string ⟨#[32,47,47,32,125,10]⟩,.string ⟨#[13,10]⟩] 9 (0,0)))∧LAt X (fun _=>True) (.slice ad1 xs.length c1) xs∧Toks X bl of (ts.map tkT)∧Bi.IAt X w.heap.size (.slice ab bs.length cb) bs):=fun X b =>
   ⟨⟨(b.block _ (Array.getElem?_eq_some_iff.1 mn).1).trans mn,(b.block _ (Array.getElem?_eq_some_iff.1 m6).1).trans m6⟩,g1.bel b,(htk.bel a2).bel b,hb.bel (bV.trans (b.mono bV.size))⟩
  clear b1 b2 a1 a2 m1 f12 f1 bV1 bV2 g1 l1 htk hv hb mn m6
  have hnI : ((0 : Int) != 0)=false:=by decide
  go_wp2_with fail
  clear hV
  generalize W1.heap.size=n1 at *
  generalize W2.heap.size=n2 at *
  go_loopw [12,13] (fun tv iv wr=>∃ (k : Nat) (t : ByteArray) (l : List (Tk × Bs × Bs)),iv = .int .i64 (k : Nat)∧tv = .string t∧k ≤ ts.length∧Below V.heap.size V wr∧Hid (t.data.toList=laysB l∧l.map (·.1)=(kinds ts).take k∧∀ x ∈ l,One x.2.1 x.1 false∧x.2.2 ∈ sepB)∧Hid (t.size ≤ (if h : k < ts.length then ts[k].2 else s.size)+9 * k)∧t.size ≤ 16777216) (fun tv iv _=>ts.length - (intOf iv).toNat)
  case atStart=>exact ⟨0,_,[],rfl,rfl,Nat.zero_le _,Below.refl _ _,⟨rfl,rfl,(fun x hx=>by cases hx)⟩,Nat.zero_le _,Nat.zero_le _⟩
  case round =>
   obtain ⟨k,t,l,rfl,rfl,hk,bel,HT,HZ,htz⟩:=hrel
   obtain ⟨⟨mn,m6⟩,g1,htk,hbi⟩:=HC.out wr bel
   by_cases hkl : k < ts.length
   ·have hI : ((k : Nat) : Int) < (ts.length : Nat):=by omega
    obtain ⟨en,n,h1,h2,h3,h4,h5⟩:=HTK.out k hkl
    obtain rfl:=hta (by simpa using (by omega : 0 < ts.length))
    have hkm : k < (ts.map tkT).length:=by simpa using hkl
    obtain ⟨c0,d1,d2,d3⟩:=htk.c k hkm
    have etk : (ts.map tkT)[k]=tkT ts[k]:=by simp
    rw [etk] at c0 d1 d2 d3
    simp only [tkT] at c0 d1 d2 d3
    have HZ2 : Hid (t.size ≤ ts[k].2+9 * k):=by have:=HZ.out;rw [dif_pos hkl] at this;exact this
    have HEN : Hid (en ≤ if h : k+1 < ts.length then ts[k+1].2 else s.size):=by
     show _ ≤ _
     by_cases q : k+1 < ts.length
     ·rw [dif_pos q,h4 q];exact Nat.le_refl _
     ·rw [dif_neg q,h5 q];exact Nat.le_refl _
    have HE1 : Hid (∀ h : k+1 < ts.length,wr.cell? ⟨bl,of+(k+1) * 4+3,none⟩=some (.int .i64 (en : Nat))):=fun h=>by
     obtain ⟨_,_,_,q⟩:=htk.c (k+1) (by simpa using h)
     have e2 : (ts.map tkT)[k+1]'(by simpa using h)=tkT ts[k+1]:=by simp
     rw [e2] at q
     rw [h4 h]
     exact q
    have HE2 : Hid (¬ k+1 < ts.length→en=s.size):=h5
    have HKN : Hid ((kinds ts).take (k+1)=(kinds ts).take k ++ [ts[k].1]):=by
     show _=_
     have hk2 : k < (kinds ts).length:=by rw [kinds_len];exact hkl
     rw [List.take_succ_eq_append_getElem hk2]
     simp [kinds]
    have HO : Hid (One (((s.extract ts[k].2 en).data.toList).take n) ts[k].1 false):=by
     show One _ _ _
     rw [ext_cut,List.take_take,Nat.min_eq_left (by omega)]
     exact h3
    have hsl:=cutLH s ts[k].2 en (by omega) h2
    have hez : (s.extract ts[k].2 en).size=en - ts[k].2:=by rw [ByteArray.size_extract];omega
    clear h3 h4 h5 etk hkm HZ
    generalize ts[k].2=p at *
    generalize ts[k].1=x at *
    go_upto_if 53 with fail
    go_cut [14] (fun c X=>c = .int .i64 (en : Nat)∧X=wr)
    case first =>
     by_cases hk1 : k+1 < ts.length
     ·have hI2 : ((k : Nat) : Int)+1 < (ts.length : Nat):=by omega
      have q3:=HE1.out hk1
      go_wp2
      go_meet
      exact ⟨rfl,rfl⟩
     ·have hI2 : ¬ ((k : Nat) : Int)+1 < (ts.length : Nat):=by omega
      have q3:=HE2.out hk1
      go_wp2
      go_meet
      exact ⟨by rw [q3],rfl⟩
    case rest =>
     obtain ⟨rfl,rfl⟩:=hcut
     have CN:=lone_any (s.extract p en) x (p : Nat) (by omega) (n:=n) (by omega) HO.out wc.drew
     have hblt : bl < wc.heap.size:=World.block_lt_of_cell? wc _ c0
     generalize s.extract p en=r at *
     generalize (⟨x.2.1.toArray⟩ : ByteArray)=xt at *
     have hst : (fun (X : World)=>X.cell? ⟨bl,of+k * 4,none⟩=some (.int .i64 x.1)∧X.cell? ⟨bl,of+k * 4+1,none⟩=some (.string xt)∧X.cell? ⟨bl,of+k * 4+2,none⟩=some (.int .i64 x.2.2)∧X.cell? ⟨bl,of+k * 4+3,none⟩=some (.int .i64 (p : Nat))) wc.drew:=⟨c0,d1,d2,d3⟩
     have HK : Hid (∀ X,Below wc.heap.size wc X→X.cell? ⟨bl,of+k * 4,none⟩=some (.int .i64 x.1)∧X.cell? ⟨bl,of+k * 4+1,none⟩=some (.string xt)∧X.cell? ⟨bl,of+k * 4+2,none⟩=some (.int .i64 x.2.2)∧X.cell? ⟨bl,of+k * 4+3,none⟩=some (.int .i64 (p : Nat))):=fun X b=>by
      have e2:=b.block bl hblt
      exact ⟨(World.cell?_of_block (a:=⟨_,_,none⟩) e2).trans c0,(World.cell?_of_block (a:=⟨_,_,none⟩) e2).trans d1,(World.cell?_of_block (a:=⟨_,_,none⟩) e2).trans d2,(World.cell?_of_block (a:=⟨_,_,none⟩) e2).trans d3⟩
     clear c0 d1 d2 d3
     go_wp2_with fail
     go_region_held3 (fun X=>X.cell? ⟨bl,of+k * 4,none⟩=some (.int .i64 x.1)∧X.cell? ⟨bl,of+k * 4+1,none⟩=some (.string xt)∧X.cell? ⟨bl,of+k * 4+2,none⟩=some (.int .i64 x.2.2)∧X.cell? ⟨bl,of+k * 4+3,none⟩=some (.int .i64 (p : Nat)))
      (first | assumption | exact hst | exact hst2)
      (first
       | (go_at_call 9;refine CN.mono ?_;rintro e W6 ⟨⟨kk,hkk,hone,rfl⟩,b6⟩;have hst2:=HK.out W6 (B0.drew.trans b6)))
     have bel6 : Below V.heap.size V W6:=bel.drew.trans (b6.mono bel.size)
     have HOW : Hid (One (r.extract 0 kk).data.toList x false):=by show One _ _ _;rw [ext_take];exact hone
     have how : (r.extract 0 kk).size ≤ en - p:=by rw [ByteArray.size_extract];omega
     clear hst hst2 HK CN hone mn m6 g1 htk hbi hsl HE1 HE2
     generalize r.extract 0 kk=o at *
     obtain ⟨⟨mn,m6⟩,g1,htk,hbi⟩:=HC.out W6 bel6
     have hto : t.size+o.size ≤ 33554432:=by omega
     go_upto_if 84 with fail
     go_cut [17] (fun c X=>∃ j : Nat,j < 6∧c = .int .i64 (j : Nat)∧X=W6)
     case first =>
      by_cases hkb : k < bs.length
      ·have hI2 : ((k : Nat) : Int) < (bs.length : Nat):=by omega
       obtain ⟨b',o',c',ev,_,hcl⟩:=hbi.cl (by omega)
       obtain ⟨rfl,rfl⟩ : ab=some ⟨b',o',none⟩∧cb=c':=by injection ev with e1 e2 e3;exact ⟨e1,e3⟩
       have ck:=hcl k hkb
       obtain ⟨hv1,hv2⟩:=hbv _ (List.getElem_mem hkb)
       generalize bs[k]=z at *
       have t1:=Int.lt_tmod_of_pos z (show (0 : Int) < 6 by decide)
       have t2:=Int.tmod_lt_of_pos z (show (0 : Int) < 6 by decide)
       have t3:=Int.tmod_nonneg 6 (show 0 ≤ z.tmod 6+6 by omega)
       have t4':=Int.tmod_lt_of_pos (z.tmod 6+6) (show (0 : Int) < 6 by decide)
       obtain ⟨j,hj⟩ : ∃ j : Nat,(z.tmod 6+6).tmod 6=(j : Int):=⟨((z.tmod 6+6).tmod 6).toNat,by omega⟩
       have hj6 : j < 6:=by omega
       clear hcl t3 t4' hv1 hv2
       go_wp2
       go_meet
       exact ⟨j,hj6,rfl,rfl⟩
      ·have hI2 : ¬ ((k : Nat) : Int) < (bs.length : Nat):=by omega
       go_wp2
       go_meet
       exact ⟨0,by omega,rfl,rfl⟩
     case rest =>
      obtain ⟨j,hj6,rfl,rfl⟩:=hcut
      have hc6:=six_cell m6 hj6
      have hjI : ((j : Nat) : Int) < 6:=by omega
      obtain ⟨s1,s2⟩:=sepA_in hj6
      have HS : Hid ((sepA j).data.toList ∈ sepB):=s1
      clear s1 mn m6 g1 htk hbi
      generalize sepA j=M at *
      have HD : Hid ((t ++ o ++ M).data.toList=t.data.toList ++ o.data.toList ++ M.data.toList):=by show _=_;simp
      have HSZ : Hid ((t ++ o ++ M).size=t.size+o.size+M.size):=by show _=_;rw [ByteArray.size_append,ByteArray.size_append]
      go_wp2
      go_roundw
      case rel =>
       refine ⟨k+1,t ++ o ++ M,l ++ [(x,o.data.toList,M.data.toList)],by simp,rfl,by omega,bel6,⟨?_,?_,?_⟩,?_,?_⟩
       ·rw [HD.out,laysB_snoc,HT.out.1]
       ·rw [List.map_append,HT.out.2.1,HKN.out];rfl
       ·intro y hy
        rcases List.mem_append.1 hy with hy | hy
        ·exact HT.out.2.2 y hy
        ·rw [List.mem_singleton.1 hy];exact ⟨HOW.out,HS.out⟩
       ·show _ ≤ _
        have:=HSZ.out
        have:=HZ2.out
        have:=HEN.out
        omega
       ·have:=HSZ.out
        have:=HZ2.out
        omega
      case measure=>simp [intOf];omega
   ·obtain rfl : k=ts.length:=by omega
    have hI : ¬ ((ts.length : Nat) : Int) < (ts.length : Nat):=by omega
    have HL : Hid (∃ us,lexL 0 t.data.toList false = .ok us∧kinds us=kinds ts):=by
     obtain ⟨h1,h2,h3⟩:=HT.out
     obtain ⟨us,g1,g2⟩:=lays_lex l h3 0
     rw [← h1] at g1
     refine ⟨us,g1,?_⟩
     rw [g2,h2,List.take_of_length_le (by rw [kinds_len];exact Nat.le_refl _)]
    obtain ⟨us,hl1,hl2⟩:=HL.out
    obtain ⟨hm,hb1,hb2⟩:=HM.out t us hl1 hl2
    have bw:=bV.trans (bel.mono bV.size)
    have CM:=module_any2 t wr (HEv.out wr bw) (by omega) (fun us' h=>by rw [hl1] at h;injection h with h;subst h;exact ⟨hb1,hb2⟩)
    rw [hm] at CM
    clear hm hl1 hl2 hb1 hb2 HL
    go_wp2_with fail
    go_at_call 5
    refine CM.mono ?_
    rintro e W3 ⟨ad2,c2,rfl,l2,b3⟩
    have hz0 : ((0 : Nat) : Int)=0:=rfl
    simp only [Nd.k,Nd.t,Nd.n,Nd.ks,mtT] at l2 ⊢
    simp only [hz0]
    clear hz0 CM
    obtain ⟨U,hU⟩ : ∃ X,W3.alloc (Obj.cells #[.int .i64 68,.string ⟨#[]⟩,.int .i64 0,.slice ad2 xs.length c2] 24)=X:=⟨_,rfl⟩
    have aU : Below W3.heap.size W3 U:=by rw [← hU];exact B0.alloc le0 _
    have mU : U.heap[W3.heap.size]?=some (.cells #[.int .i64 68,.string ⟨#[]⟩,.int .i64 0,.slice ad2 xs.length c2] 24):=by rw [← hU];exact heap_alloc_new _ _
    have belU : Below V.heap.size V U:=(bel.trans (b3.mono bel.size)).trans (aU.mono (Nat.le_trans bel.size b3.size))
    obtain ⟨⟨mn',_⟩,g1',_,_⟩:=HC.out U belU
    have lU:=l2.bel aU
    obtain ⟨⟨_,_,_,_⟩,_,_,_,_⟩:=t4 mU
    obtain ⟨⟨_,_,_,_⟩,_,_,_,_⟩:=t4 mn'
    have CS:=rsame_any (.mk 68 mtT 0 xs) (.mk 68 mtT 0 xs) U _ _ _ _ lU g1' (by simp only [Nd.size];omega) (by simp only [Nd.size];omega)
    simp only [Nd.v,Nd.k,Nd.t,Nd.n,mtT] at CS
    have bU : Below w.heap.size w U:=bV.trans (belU.mono bV.size)
    clear lU l2 g1 g1' htk hbi mn m6
    go_wp2_with fail
    go_at_call 7
    refine CS.mono ?_
    rintro e W4 ⟨bb,rfl,hbb,b4⟩
    obtain rfl : bb=true:=hbb.2 (by trivial)
    have bU4:=bU.trans (b4.mono bU.size)
    have CW:=CA.out _ bU4
    clear CS hbb
    go_wp2_with fail
    go_at_call 6
    refine CW.mono ?_
    rintro e W5 ⟨rfl,b5⟩
    go_wp2
    go_ret
    exact ⟨rfl,bU4.trans (b5.mono bU4.size)⟩
end MoB
end Go.Proofs.YthfkfbcopinmiaaGreatDoor
