/- Own text. ModuleJoins: the walk. -/
import Derived.Test.YthfkfbcopinmiaaGreatDoorGj48
import Derived.Test.YthfkfbcopinmiaaGreatDoorGj01
import Derived.Lib.AppendStr
import Derived.Laws.IdiomStrings
import Derived.Laws.BytesArg
import Derived.Laws.Concat
import Derived.Deep.DeepCutAuto
import Derived.Deep.RegionHeld3
set_option linter.unusedVariables false
set_option linter.unusedSimpArgs false
set_option maxRecDepth 100000
set_option maxHeartbeats 4000000
namespace Go.Proofs.YthfkfbcopinmiaaGreatDoor
open Go.RowKit
def srcW : ByteArray:=⟨#[105,109,112,111,114,116,32,100,44,32,123,32,97,32,97,115,32,98,32,125,32,102,114,111,109,32,39,46,47,120,39,59]⟩
def srcV : ByteArray:=⟨#[105,109,112,111,114,116,32,123,32,105,102,32,125,32,102,114,111,109,32,39,46,47,120,39,59]⟩
def impD : Nd:=impAs wDefault ⟨#[100]⟩
def impW : Nd:=.mk 60 ⟨#[46,47,120]⟩ 0 [impD,impAs ⟨#[97]⟩ ⟨#[98]⟩]
theorem modW : modR srcW = .ok [impW]:=by kernel_rfl
theorem modV : modR srcV = .error (12,60):=by kernel_rfl
theorem awake_any (W : World) (he : Env W) : Calls Tryz.prog 6 #[] W fun e w'=>e = .returned (.bool true) ∧ Below W.heap.size W w':=by
 have C1:=module_any srcW W he (by decide)
 rw [modW] at C1
 have C2 : Hid (∀ X,Below W.heap.size W X → Calls Tryz.prog 5 #[.string srcV] X (WAns X (.error (12,60)))):=fun X b=>by
  have:=module_any srcV X (env_below he b) (by decide)
  rw [modV] at this
  exact this
 unfold srcW at C1
 unfold srcV at C2
 clear he
 go_enter Tryz.func6,Tryz.ntmps6
 go_wp2_with fail
 go_at_call 5
 refine C1.mono ?_
 rintro e W1 ⟨ad,c,rfl,l1,b1⟩
 clear C1
 obtain ⟨a,c',bl,o,f,ev,hp,h4,hk⟩:=l1.op
 obtain ⟨rfl,rfl⟩ : ad = a ∧ c = c':=by injection ev with e1 e2 e3;exact ⟨e1,e3⟩
 obtain ⟨rfl,hS,hbl⟩:=hp (by decide)
 obtain ⟨q0,q1,q2,q3⟩:=h4 0 (by decide)
 obtain ⟨a2,c2,bl2,o2,f2,ev2,hp2,h42,_⟩:=(hk 0 (by decide)).op
 obtain ⟨rfl,hS2,hbl2⟩:=hp2 (by decide)
 obtain ⟨r0,r1,r2,r3⟩:=h42 1 (by decide)
 rw [ev2] at q3
 have HC : Hid (∀ X,Below W1.heap.size W1 X → (X.cell? ⟨bl,o,none⟩ = some (.int .i64 60) ∧ X.cell? ⟨bl,o + 1,none⟩ = some (.string ⟨#[46,47,120]⟩) ∧ X.cell? ⟨bl,o + 3,none⟩ = some (.slice (some ⟨bl2,o2,none⟩) 2 c2)) ∧ X.cell? ⟨bl2,o2 + 4 + 1,none⟩ = some (.string ⟨#[97]⟩)):=fun X b =>
  ⟨⟨(World.cell?_of_block (a:=⟨bl,_,none⟩) (b.block bl hbl)).trans q0,(World.cell?_of_block (a:=⟨bl,_,none⟩) (b.block bl hbl)).trans q1,(World.cell?_of_block (a:=⟨bl,_,none⟩) (b.block bl hbl)).trans q3⟩,(World.cell?_of_block (a:=⟨bl2,_,none⟩) (b.block bl2 hbl2)).trans r1⟩
 clear q0 q1 q2 q3 r0 r1 r2 r3 h4 hk hp hp2 h42 ev ev2 l1
 obtain ⟨V1,hV1⟩ : ∃ X,W1.alloc (Obj.cells #[.int .i64 68,.string ⟨#[]⟩,.int .i64 0,.slice (some ⟨bl,o,none⟩) 1 c] 24) = X:=⟨_,rfl⟩
 have bV : Below W1.heap.size W1 V1:=by rw [← hV1];exact B0.alloc le0 _
 have mV : V1.heap[W1.heap.size]? = some (.cells #[.int .i64 68,.string ⟨#[]⟩,.int .i64 0,.slice (some ⟨bl,o,none⟩) 1 c] 24 (0,0)):=by rw [← hV1];exact heap_alloc_new _ _
 have bw1 : Below W.heap.size W V1:=b1.trans (bV.mono b1.size)
 have C3:=C2.out V1 bw1
 simp only [Nd.k,Nd.t,Nd.n,Nd.ks,mtT,List.length_cons,List.length_nil]
 go_wp2_with fail
 go_at_call 5
 refine C3.mono ?_
 rintro e W2 ⟨b2,_,rfl⟩
 have m2:=(b2.block _ (Array.getElem?_eq_some_iff.1 mV).1).trans mV
 have b12 : Below W1.heap.size W1 W2:=bV.trans (b2.mono bV.size)
 have b13:=b12.alloc b12.size (Obj.cells #[.int .i64 0,.string ⟨#[]⟩,.int .i64 0,.slice none 0 0] 24)
 obtain ⟨⟨_,_,_⟩,_⟩:=HC.out _ b13
 have m3:=(Below.heap_alloc W2 (Obj.cells #[.int .i64 0,.string ⟨#[]⟩,.int .i64 0,.slice none 0 0] 24) _ (Array.getElem?_eq_some_iff.1 m2).1).trans m2
 obtain ⟨⟨_,_,_,_⟩,_,_,_,_⟩:=t4 m3
 have bw2 : Below W.heap.size W W2:=bw1.trans (b2.mono bw1.size)
 clear C3 hV1
 go_wp2
 go_ret
 exact ⟨rfl,bw2.alloc bw2.size _⟩
theorem WAns.gen {w w' : World} {r : Except (Int × Int) (List Nd)} {e : Ending} (h : WAns w r e w') : ∃ (k : Int) (t : ByteArray) (n : Int) (ad : Option Addr) (m c : Nat) (p er : Int),e = .returned (.tuple #[.agg #[.int .i64 k,.string t,.int .i64 n,.slice ad m c],.int .i64 p,.int .i64 er]) ∧ Below w.heap.size w w':=by
 cases r with
 | error x=>obtain ⟨h1,_,h2⟩:=h;exact ⟨_,_,_,_,_,_,_,_,h2,h1⟩
 | ok xs=>obtain ⟨ad,c,h1,_,h2⟩:=h;exact ⟨_,_,_,_,_,_,_,_,h1,h2⟩
namespace MoJ
theorem walk (a b : ByteArray) (w : World) (hz : a.size + b.size ≤ 1048576) (he : Env w) :
 Calls Tryz.prog 3 #[.string a,.string b] w fun e w'=>e = .returned (.bool true) ∧ Below w.heap.size w w':=by
 have CM : Hid (∀ (s : ByteArray) (X : World),s.size ≤ 1048600 → Below w.heap.size w X → Calls Tryz.prog 5 #[.string s] X (WAns X (modR s))):=fun s X hs b=>module_any s X (env_below he b) hs
 have CA : Hid (∀ X,Below w.heap.size w X → Calls Tryz.prog 6 #[] X fun e w'=>e = .returned (.bool true) ∧ Below X.heap.size X w'):=fun X b=>awake_any X (env_below he b)
 have hsa : a.size ≤ 1048600:=by omega
 have hsb : b.size ≤ 1048600:=by omega
 have hsx : (a ++ ⟨#[10]⟩ ++ b).size ≤ 1048600:=by rw [ByteArray.size_append,ByteArray.size_append];show a.size + 1 + b.size ≤ _;omega
 have HX : Hid (∀ xs ys,modR a = .ok xs → modR b = .ok ys → modR (a ++ ⟨#[10]⟩ ++ b) = .ok (xs ++ ys)):=fun _ _=>modR_join
 have HSZ : Hid (∀ (s : ByteArray) (xs : List Nd),s.size ≤ 1048600 → modR s = .ok xs → sizes xs ≤ 2097200):=fun s xs h1 h2=>modR_size h2 h1
 clear he
 have bV0 : Below w.heap.size w w:=Below.refl _ _
 have C1:=CM.out a w hsa bV0
 go_enter Tryz.func3,Tryz.ntmps3
 go_wp2_with fail
 go_at_call 5
 refine C1.mono ?_
 intro e W1 A1
 clear C1
 cases hA : modR a with
 | error x =>
  rw [hA] at A1
  obtain ⟨p1,er1⟩:=x
  obtain ⟨b1,her,rfl⟩:=A1
  have heb : (er1 != 0) = true:=by simpa using her
  have bV1 : Below w.heap.size w (W1.alloc (Obj.cells #[.int .i64 0,.string ⟨#[]⟩,.int .i64 0,.slice none 0 0] 24)):=b1.alloc b1.size _
  clear her hA HX
  have C2:=CM.out b _ hsb bV1
  go_wp2_with fail
  go_at_call 5
  refine C2.mono ?_
  intro e W2 A2
  obtain ⟨k2,t2,n2,a2,m2,c2,p2,er2,rfl,b2⟩:=A2.gen
  have bV2 : Below w.heap.size w (W2.alloc (Obj.cells #[.int .i64 k2,.string t2,.int .i64 n2,.slice a2 m2 c2] 24)):=(bV1.trans (b2.mono bV1.size)).alloc (Nat.le_trans bV1.size b2.size) _
  clear C2 A2
  have C3:=CM.out (a ++ ⟨#[10]⟩ ++ b) _ hsx bV2
  go_wp2_with fail
  go_at_call 5
  refine C3.mono ?_
  intro e W3 A3
  obtain ⟨k3,t3,n3,a3,m3,c3,p3,er3,rfl,b3⟩:=A3.gen
  have bV3 : Below w.heap.size w (W3.alloc (Obj.cells #[.int .i64 k3,.string t3,.int .i64 n3,.slice a3 m3 c3] 24)):=(bV2.trans (b3.mono bV2.size)).alloc (Nat.le_trans bV2.size b3.size) _
  clear C3 A3
  have CW:=CA.out _ bV3
  go_wp2_with fail
  go_at_call 6
  refine CW.mono ?_
  rintro e W4 ⟨rfl,b4⟩
  go_wp2
  go_ret
  exact ⟨rfl,bV3.trans (b4.mono bV3.size)⟩
 | ok xs =>
  rw [hA] at A1
  obtain ⟨ad1,c1,rfl,l1,b1⟩:=A1
  simp only [Nd.k,Nd.t,Nd.n,Nd.ks,mtT] at l1 ⊢
  have bV1 : Below w.heap.size w (W1.alloc (Obj.cells #[.int .i64 68,.string ⟨#[]⟩,.int .i64 0,.slice ad1 xs.length c1] 24)):=b1.alloc b1.size _
  have C2:=CM.out b _ hsb bV1
  go_wp2_with fail
  go_at_call 5
  refine C2.mono ?_
  intro e W2 A2
  clear C2
  cases hB : modR b with
  | error y =>
   rw [hB] at A2
   obtain ⟨p2,er2⟩:=y
   obtain ⟨b2,her,rfl⟩:=A2
   have heb : (er2 != 0) = true:=by simpa using her
   have bV2 : Below w.heap.size w (W2.alloc (Obj.cells #[.int .i64 0,.string ⟨#[]⟩,.int .i64 0,.slice none 0 0] 24)):=(bV1.trans (b2.mono bV1.size)).alloc (Nat.le_trans bV1.size b2.size) _
   clear her hA hB HX l1
   have C3:=CM.out (a ++ ⟨#[10]⟩ ++ b) _ hsx bV2
   go_wp2_with fail
   go_at_call 5
   refine C3.mono ?_
   intro e W3 A3
   obtain ⟨k3,t3,n3,a3,m3,c3,p3,er3,rfl,b3⟩:=A3.gen
   have bV3 : Below w.heap.size w (W3.alloc (Obj.cells #[.int .i64 k3,.string t3,.int .i64 n3,.slice a3 m3 c3] 24)):=(bV2.trans (b3.mono bV2.size)).alloc (Nat.le_trans bV2.size b3.size) _
   clear C3 A3
   have CW:=CA.out _ bV3
   go_wp2_with fail
   go_at_call 6
   refine CW.mono ?_
   rintro e W4 ⟨rfl,b4⟩
   go_wp2
   go_ret
   exact ⟨rfl,bV3.trans (b4.mono bV3.size)⟩
  | ok ys =>
   rw [hB] at A2
   obtain ⟨ad2,c2,rfl,l2,b2⟩:=A2
   simp only [Nd.k,Nd.t,Nd.n,Nd.ks,mtT] at l2 ⊢
   have bV2 : Below w.heap.size w (W2.alloc (Obj.cells #[.int .i64 68,.string ⟨#[]⟩,.int .i64 0,.slice ad2 ys.length c2] 24)):=(bV1.trans (b2.mono bV1.size)).alloc (Nat.le_trans bV1.size b2.size) _
   have C3:=CM.out (a ++ ⟨#[10]⟩ ++ b) _ hsx bV2
   rw [HX.out xs ys hA hB] at C3
   have hzz:=HSZ.out _ (xs ++ ys) hsx (HX.out xs ys hA hB)
   clear hA hB HX HSZ CM
   go_wp2_with fail
   go_at_call 5
   refine C3.mono ?_
   intro e W3 A3
   obtain ⟨ad3,c3,rfl,l3,b3⟩:=A3
   simp only [Nd.k,Nd.t,Nd.n,Nd.ks,mtT] at l3 ⊢
   have hzl : (xs ++ ys).length = xs.length + ys.length:=List.length_append
   have HZS : Hid (∀ (k : Nat) (hk : k < (xs ++ ys).length),(∀ h : k < xs.length,(xs ++ ys)[k] = xs[k]) ∧ ∀ (j : Nat) (hj : j < ys.length),k = xs.length + j → (xs ++ ys)[k] = ys[j]):=fun k hk=>⟨fun h=>List.getElem_append_left h,fun j hj e=>by subst e;rw [List.getElem_append_right (by omega)];simp⟩
   generalize xs ++ ys = zs at *
   obtain ⟨V3,hV3⟩ : ∃ X,W3.alloc (Obj.cells #[.int .i64 68,.string ⟨#[]⟩,.int .i64 0,.slice ad3 zs.length c3] 24) = X:=⟨_,rfl⟩
   have a3 : Below W3.heap.size W3 V3:=by rw [← hV3];exact B0.alloc le0 _
   have mx : V3.heap[W3.heap.size]? = some (.cells #[.int .i64 68,.string ⟨#[]⟩,.int .i64 0,.slice ad3 zs.length c3] 24):=by rw [← hV3];exact heap_alloc_new _ _
   have bV3 : Below w.heap.size w V3:=(bV2.trans (b3.mono bV2.size)).trans (a3.mono (Nat.le_trans bV2.size b3.size))
   have e23 : Below (W2.alloc (Obj.cells #[.int .i64 68,.string ⟨#[]⟩,.int .i64 0,.slice ad2 ys.length c2] 24)).heap.size (W2.alloc (Obj.cells #[.int .i64 68,.string ⟨#[]⟩,.int .i64 0,.slice ad2 ys.length c2] 24)) V3:=b3.trans (a3.mono b3.size)
   have a2 : Below W2.heap.size W2 (W2.alloc (Obj.cells #[.int .i64 68,.string ⟨#[]⟩,.int .i64 0,.slice ad2 ys.length c2] 24)):=B0.alloc le0 _
   have mm : V3.heap[W2.heap.size]? = some (.cells #[.int .i64 68,.string ⟨#[]⟩,.int .i64 0,.slice ad2 ys.length c2] 24):=(e23.block _ (by simp)).trans (heap_alloc_new _ _)
   have f23 : Below W2.heap.size W2 V3:=a2.trans (e23.mono a2.size)
   have e13 : Below (W1.alloc (Obj.cells #[.int .i64 68,.string ⟨#[]⟩,.int .i64 0,.slice ad1 xs.length c1] 24)).heap.size (W1.alloc (Obj.cells #[.int .i64 68,.string ⟨#[]⟩,.int .i64 0,.slice ad1 xs.length c1] 24)) V3:=b2.trans (f23.mono b2.size)
   have a1 : Below W1.heap.size W1 (W1.alloc (Obj.cells #[.int .i64 68,.string ⟨#[]⟩,.int .i64 0,.slice ad1 xs.length c1] 24)):=B0.alloc le0 _
   have mn : V3.heap[W1.heap.size]? = some (.cells #[.int .i64 68,.string ⟨#[]⟩,.int .i64 0,.slice ad1 xs.length c1] 24):=(e13.block _ (by simp)).trans (heap_alloc_new _ _)
   have f13 : Below W1.heap.size W1 V3:=a1.trans (e13.mono a1.size)
   have g1 : LAt V3 (fun _=>True) (.slice ad1 xs.length c1) xs:=(l1.bel f13).mono (fun _ _=>trivial)
   have g2 : LAt V3 (fun _=>True) (.slice ad2 ys.length c2) ys:=(l2.bel f23).mono (fun _ _=>trivial)
   have g3 : LAt V3 (fun _=>True) (.slice ad3 zs.length c3) zs:=(l3.bel a3).mono (fun _ _=>trivial)
   have HC : Hid (∀ X,Below V3.heap.size V3 X → X.heap[W1.heap.size]? = some (.cells #[.int .i64 68,.string ⟨#[]⟩,.int .i64 0,.slice ad1 xs.length c1] 24) ∧ X.heap[W2.heap.size]? = some (.cells #[.int .i64 68,.string ⟨#[]⟩,.int .i64 0,.slice ad2 ys.length c2] 24) ∧ X.heap[W3.heap.size]? = some (.cells #[.int .i64 68,.string ⟨#[]⟩,.int .i64 0,.slice ad3 zs.length c3] 24)):=fun X b=>⟨(b.block _ (Array.getElem?_eq_some_iff.1 mn).1).trans mn,(b.block _ (Array.getElem?_eq_some_iff.1 mm).1).trans mm,(b.block _ (Array.getElem?_eq_some_iff.1 mx).1).trans mx⟩
   have HL : Hid (∀ X,Below V3.heap.size V3 X → LAt X (fun _=>True) (.slice ad1 xs.length c1) xs ∧ LAt X (fun _=>True) (.slice ad2 ys.length c2) ys ∧ LAt X (fun _=>True) (.slice ad3 zs.length c3) zs):=fun X b=>⟨g1.bel b,g2.bel b,g3.bel b⟩
   obtain ⟨⟨_,_,_,_⟩,_,_,_,_⟩:=t4 mn
   obtain ⟨⟨_,_,_,_⟩,_,_,_,_⟩:=t4 mm
   obtain ⟨⟨_,_,_,_⟩,_,_,_,_⟩:=t4 mx
   have HLT : Hid (W1.heap.size < V3.heap.size ∧ W2.heap.size < V3.heap.size ∧ W3.heap.size < V3.heap.size):=⟨(Array.getElem?_eq_some_iff.1 mn).1,(Array.getElem?_eq_some_iff.1 mm).1,(Array.getElem?_eq_some_iff.1 mx).1⟩
   have hne : (zs.length : Int) = (xs.length : Int) + (ys.length : Int):=by omega
   have hxb : (xs.length : Int) ≤ 4194300:=by have:=sizes_len zs;omega
   have hyb : (ys.length : Int) ≤ 4194300:=by have:=sizes_len zs;omega
   have hzb : zs.length ≤ 4194300:=by have:=sizes_len zs;omega
   have HZZ : Hid (∀ x ∈ zs,x.size ≤ 4194300):=fun x hx=>by have:=sizes_mem hx;omega
   have HZL : Hid (zs.length = xs.length + ys.length):=hzl
   clear hzl hzz l1 l2 l3 g1 g2 g3 f13 f23 e13 e23 a1 a2 a3 mn mm mx b1 b2 b3 C3 bV0 bV1 bV2
   go_wp2_with fail
   clear hV3
   generalize W1.heap.size = n1 at *
   generalize W2.heap.size = n2 at *
   generalize W3.heap.size = n3 at *
   go_loopw [14] (fun i wr=>∃ k : Nat,i = .int .i64 (k : Nat) ∧ k ≤ zs.length ∧ Below V3.heap.size V3 wr) (fun i _=>zs.length - (intOf i).toNat)
   case atStart=>exact ⟨0,rfl,Nat.zero_le _,Below.refl _ _⟩
   case round =>
    obtain ⟨k,rfl,hk,bel⟩:=hrel
    obtain ⟨mn,mm,mx⟩:=HC.out wr bel
    obtain ⟨g1,g2,g3⟩:=HL.out wr bel
    obtain ⟨⟨_,_,_,_⟩,_,_,_,_⟩:=t4 mn
    obtain ⟨⟨_,_,_,_⟩,_,_,_,_⟩:=t4 mm
    obtain ⟨⟨_,_,_,_⟩,_,_,_,_⟩:=t4 mx
    by_cases hkz : k < zs.length
    ·have hI : ((k : Nat) : Int) < (zs.length : Nat):=by omega
     obtain ⟨hlt1,hlt2,hlt3⟩:=HLT.out
     have hsz:=bel.size
     have q1 : n1 < wr.heap.size:=by omega
     have q2 : n2 < wr.heap.size:=by omega
     have q3 : n3 < wr.heap.size:=by omega
     have bz : Below wr.heap.size wr (wr.alloc (Obj.cells #[.int .i64 0,.string ⟨#[]⟩,.int .i64 0,.slice none 0 0] 24)):=B0.alloc le0 _
     obtain ⟨⟨_,_,_,_⟩,_,_,_,_⟩:=t4 ((bz.block _ q1).trans mn)
     obtain ⟨⟨_,_,_,_⟩,_,_,_,_⟩:=t4 ((bz.block _ q2).trans mm)
     have mz:=heap_alloc_new wr (Obj.cells #[.int .i64 0,.string ⟨#[]⟩,.int .i64 0,.slice none 0 0] 24)
     obtain ⟨⟨_,_,_,_⟩,_,_,_,_⟩:=t4 mz
     clear hlt1 hlt2 hlt3
     go_upto_if 71 with fail
     go_cut [] (fun X=>∃ (z : Nd) (fz : Value),Hid (z = zs[k]) ∧ X.heap[wr.heap.size]? = some (.cells #[.int .i64 z.k,.string z.t,.int .i64 z.n,fz] 24) ∧ LAt X (fun _=>True) fz z.ks ∧ Below wr.heap.size wr X)
     case first =>
      by_cases hkx : k < xs.length
      ·have hI2 : ((k : Nat) : Int) < (xs.length : Nat):=by omega
       obtain ⟨aa,cc,bl,of,fx,ev,hp,h4,hks⟩:=g1.op
       obtain ⟨rfl,rfl⟩ : ad1 = aa ∧ c1 = cc:=by injection ev with e1 e2 e3;exact ⟨e1,e3⟩
       obtain ⟨rfl,_,hbl⟩:=hp (by omega)
       obtain ⟨_,_,_,_⟩:=(h4 k hkx).of_block (bz.block bl hbl)
       have lz:=hks k hkx
       have HE : Hid (xs[k] = zs[k]):=((HZS.out k hkz).1 hkx).symm
       clear h4 hks hp ev g1 g2 g3
       generalize xs[k] = z at *
       generalize fx k = fz at *
       obtain ⟨az,cz,rfl⟩:=lz.sl
       go_wp2
       go_meet
       exact ⟨z,_,HE.out,heap_alloc_new wr _,lz.bel (B0.alloc le0 _),B0.alloc le0 _⟩
      ·have hI2 : ¬ ((k : Nat) : Int) < (xs.length : Nat):=by omega
       obtain ⟨j,hj⟩ : ∃ j,k = xs.length + j:=⟨k - xs.length,by omega⟩
       have hjy : j < ys.length:=by have:=HZL.out;omega
       have hjI : ((k : Nat) : Int) - (xs.length : Nat) = (j : Nat):=by omega
       obtain ⟨aa,cc,bl,of,fx,ev,hp,h4,hks⟩:=g2.op
       obtain ⟨rfl,rfl⟩ : ad2 = aa ∧ c2 = cc:=by injection ev with e1 e2 e3;exact ⟨e1,e3⟩
       obtain ⟨rfl,_,hbl⟩:=hp (by omega)
       obtain ⟨_,_,_,_⟩:=(h4 j hjy).of_block (bz.block bl hbl)
       have lz:=hks j hjy
       have HE : Hid (ys[j] = zs[k]):=((HZS.out k hkz).2 j hjy hj).symm
       clear h4 hks hp ev g1 g2 g3 hj
       generalize ys[j] = z at *
       generalize fx j = fz at *
       obtain ⟨az,cz,rfl⟩:=lz.sl
       go_wp2
       go_meet
       exact ⟨z,_,HE.out,heap_alloc_new wr _,lz.bel (B0.alloc le0 _),B0.alloc le0 _⟩
     case rest =>
      obtain ⟨z,fz,HE,mq,lz,bX⟩:=hcut
      have belX:=bel.trans (bX.mono hsz)
      obtain ⟨_,_,mx'⟩:=HC.out wc belX
      obtain ⟨_,_,g3'⟩:=HL.out wc belX
      obtain ⟨aa,cc,bl,of,fx,ev,hp,h4,hks⟩:=g3'.op
      obtain ⟨rfl,rfl⟩ : ad3 = aa ∧ c3 = cc:=by injection ev with e1 e2 e3;exact ⟨e1,e3⟩
      obtain ⟨rfl,_,hbl⟩:=hp (by omega)
      have hmem:=HZZ.out _ (List.getElem_mem hkz)
      have lx:=hks k hkz
      have four:=h4 k hkz
      obtain ⟨⟨_,_,_,c33⟩,_,_,_,_⟩:=t4 mx'
      obtain ⟨⟨d0,d1,d2,d3⟩,_,_,_,_⟩:=t4 mq
      have hq : n3 < wc.heap.size:=(Array.getElem?_eq_some_iff.1 mx').1
      have hqq : wr.heap.size < wc.heap.size:=(Array.getElem?_eq_some_iff.1 mq).1
      have HE' : Hid (z = zs[k]):=HE
      clear h4 hks hp ev g1 g2 g3 g3' mn mm mx
      generalize zs[k] = x at *
      generalize fx k = fxk at *
      obtain ⟨u0,u1,u2,u3⟩:=four
      have CS:=rsame_any x z wc.drew (fun _=>True) (fun _=>True) fxk fz (lx.bel B0.drew) (lz.bel B0.drew) (by omega) (by rw [HE.out];omega)
      have hst : (fun (X : World)=>X.cell? ⟨n3,3,none⟩ = some (.slice (some ⟨bl,of,none⟩) zs.length c3) ∧ (X.cell? ⟨bl,of + k * 4,none⟩ = some (.int .i64 x.k) ∧ X.cell? ⟨bl,of + k * 4 + 1,none⟩ = some (.string x.t) ∧ X.cell? ⟨bl,of + k * 4 + 2,none⟩ = some (.int .i64 x.n) ∧ X.cell? ⟨bl,of + k * 4 + 3,none⟩ = some fxk) ∧ X.cell? ⟨wr.heap.size,0,none⟩ = some (.int .i64 z.k) ∧ X.cell? ⟨wr.heap.size,1,none⟩ = some (.string z.t) ∧ X.cell? ⟨wr.heap.size,2,none⟩ = some (.int .i64 z.n) ∧ X.cell? ⟨wr.heap.size,3,none⟩ = some fz) wc.drew:=⟨c33,⟨u0,u1,u2,u3⟩,d0,d1,d2,d3⟩
      have HK : Hid (∀ X,Below wc.heap.size wc X → X.cell? ⟨n3,3,none⟩ = some (.slice (some ⟨bl,of,none⟩) zs.length c3) ∧ (X.cell? ⟨bl,of + k * 4,none⟩ = some (.int .i64 x.k) ∧ X.cell? ⟨bl,of + k * 4 + 1,none⟩ = some (.string x.t) ∧ X.cell? ⟨bl,of + k * 4 + 2,none⟩ = some (.int .i64 x.n) ∧ X.cell? ⟨bl,of + k * 4 + 3,none⟩ = some fxk) ∧ X.cell? ⟨wr.heap.size,0,none⟩ = some (.int .i64 z.k) ∧ X.cell? ⟨wr.heap.size,1,none⟩ = some (.string z.t) ∧ X.cell? ⟨wr.heap.size,2,none⟩ = some (.int .i64 z.n) ∧ X.cell? ⟨wr.heap.size,3,none⟩ = some fz):=fun X b=>by
       have e1:=b.block n3 hq
       have e2:=b.block bl hbl
       have e3:=b.block wr.heap.size hqq
       exact ⟨(World.cell?_of_block (a:=⟨_,_,none⟩) e1).trans c33,⟨(World.cell?_of_block (a:=⟨_,_,none⟩) e2).trans u0,(World.cell?_of_block (a:=⟨_,_,none⟩) e2).trans u1,(World.cell?_of_block (a:=⟨_,_,none⟩) e2).trans u2,(World.cell?_of_block (a:=⟨_,_,none⟩) e2).trans u3⟩,(World.cell?_of_block (a:=⟨_,_,none⟩) e3).trans d0,(World.cell?_of_block (a:=⟨_,_,none⟩) e3).trans d1,(World.cell?_of_block (a:=⟨_,_,none⟩) e3).trans d2,(World.cell?_of_block (a:=⟨_,_,none⟩) e3).trans d3⟩
      clear u0 u1 u2 u3 d0 d1 d2 d3 c33 lx lz mx' mq HE
      simp only [Nd.v] at CS
      go_wp2_with fail
      go_region_held3 (fun X=>X.cell? ⟨n3,3,none⟩ = some (.slice (some ⟨bl,of,none⟩) zs.length c3) ∧ (X.cell? ⟨bl,of + k * 4,none⟩ = some (.int .i64 x.k) ∧ X.cell? ⟨bl,of + k * 4 + 1,none⟩ = some (.string x.t) ∧ X.cell? ⟨bl,of + k * 4 + 2,none⟩ = some (.int .i64 x.n) ∧ X.cell? ⟨bl,of + k * 4 + 3,none⟩ = some fxk) ∧ X.cell? ⟨wr.heap.size,0,none⟩ = some (.int .i64 z.k) ∧ X.cell? ⟨wr.heap.size,1,none⟩ = some (.string z.t) ∧ X.cell? ⟨wr.heap.size,2,none⟩ = some (.int .i64 z.n) ∧ X.cell? ⟨wr.heap.size,3,none⟩ = some fz)
       (first | assumption | exact hst | exact hst2)
       (first
        | (go_at_call 7;refine CS.mono ?_;rintro e W6 ⟨bb,rfl,hb,b6⟩;have hst2:=HK.out W6 (B0.drew.trans b6)))
      obtain rfl : bb = true:=hb.2 HE'.out.symm
      have bel6 : Below V3.heap.size V3 W6:=belX.drew.trans (b6.mono belX.size)
      clear hst hst2 HK CS hb
      go_wp2
      go_roundw
      case rel=>exact ⟨k + 1,by simp,by omega,bel6⟩
      case measure=>simp [intOf];omega
    ·have hI : ¬ ((k : Nat) : Int) < (zs.length : Nat):=by omega
     have bw:=bV3.trans (bel.mono bV3.size)
     have CW:=CA.out _ bw
     go_wp2_with fail
     go_at_call 6
     refine CW.mono ?_
     rintro e W4 ⟨rfl,b4⟩
     go_wp2
     go_ret
     exact ⟨rfl,bw.trans (b4.mono bw.size)⟩
end MoJ
end Go.Proofs.YthfkfbcopinmiaaGreatDoor
