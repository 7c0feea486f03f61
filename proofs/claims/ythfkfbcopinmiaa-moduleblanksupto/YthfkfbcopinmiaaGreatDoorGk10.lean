/- Own text. Package parse: its face: one rule is read,or the fault is answered. Package module: the reader,and what is read by a rule of layer 6. Package module: what is given up is caught. -/
import Derived.Test.YthfkfbcopinmiaaGreatDoorGk06
import Derived.Test.YthfkfbcopinmiaaGreatDoorGk07
import Derived.Test.YthfkfbcopinmiaaGreatDoorGk09
import Derived.Defers
import Derived.Recover
set_option linter.unusedVariables false
set_option linter.unusedSimpArgs false
set_option maxRecDepth 100000
set_option maxHeartbeats 8000000
namespace Go.Proofs.YthfkfbcopinmiaaGreatDoor
open Go.RowKit
structure Fc where
 x : Nd
 p : Nat
 e : Int
def zeroNd : Nd:=.mk 0 mtT 0 []
def faceR (r : Rs Nd) : Fc:=match r with
 | .ok x b=>⟨x,b,0⟩
 | .bad p e=>⟨zeroNd,p,e⟩
def readP (L : List Tok) (F : Nat→Nat→Rs Nd) (i : Int) : Fc:=if i < 0 then ⟨zeroNd,0,60⟩ else if (L.length : Int) < i then ⟨zeroNd,L.length,60⟩ else faceR (F i.toNat 0)
def AnsF (w : World) (r : Fc) (e : Ending) (w' : World) : Prop:=∃ ad c,e = .returned (.tuple #[.agg #[.int .i64 r.x.k,.string r.x.t,.int .i64 r.x.n,.slice ad r.x.ks.length c],.int .i64 (r.p : Int),.int .i64 r.e])∧LAt w' (fun b=>w.heap.size ≤ b) (.slice ad r.x.ks.length c) r.x.ks∧Below w.heap.size w w'
structure TkV (w : World) (v : Value) (L : List Tok) : Prop where
 h : ∃ (ta : Option Addr) (tc bl of : Nat),v = .slice ta L.length tc∧(0 < L.length→ta=some ⟨bl,of,none⟩)∧Toks w bl of L∧L.length ≤ tc
 small : L.length ≤ 4194304
 texts : Small L
theorem new_any (v : Value) (ad : Option Addr) (n c : Nat) (hv : v = .slice ad n c) (i : Int) (w : World) : Calls Tryz.prog 33 #[v,.int .i64 i] w fun e w'=>e = .returned (.agg #[v,.int .i64 i])∧Below w.heap.size w w':=by
 subst hv
 have bel_n : ∀ o,Below w.heap.size w (w.alloc o):=fun o=>B0.alloc le0 o
 go_enter Tryz.func33,Tryz.ntmps33
 go_wp2
 have m0 : (w.alloc (Obj.cells #[.slice ad n c,.int .i64 i] 58)).heap[w.heap.size]?=some (.cells #[.slice ad n c,.int .i64 i] 58 (0,0)):=heap_alloc_new w _
 have c0 : (w.alloc (Obj.cells #[.slice ad n c,.int .i64 i] 58)).cell? ⟨w.heap.size,0,none⟩=some (.slice ad n c):=by rw [cell_of_row _ _ _ _ _ _ m0];rfl
 have c1 : (w.alloc (Obj.cells #[.slice ad n c,.int .i64 i] 58)).cell? ⟨w.heap.size,1,none⟩=some (.int .i64 i):=by rw [cell_of_row _ _ _ _ _ _ m0];rfl
 refine bodyPost_ret (v:=.agg #[Value.slice ad n c,Value.int IntKind.i64 i]) (by simp [results,Tryz.results33,go_sem,c0,c1]) rfl ⟨rfl,bel_n _⟩
theorem set1 {w : World} {b : Nat} {v : Value} {t : TypeId} (h : w.heap[b]?=some (.cells #[v] t (0,0))) (u : Value) : (w.setCell ⟨b,0,none⟩ u).heap[b]?=some (.cells #[u] t (0,0)):=by
 simp [World.setCell,Array.getElem?_modify,h]
theorem res_read {W : World} {p q r : Nat} {a b c d vq vr : Value} {tmps : Array Value} (mp : W.heap[p]?=some (.cells #[a,b,c,d] 24 (0,0))) (mq : W.heap[q]?=some (.cells #[vq] 3 (0,0))) (mr : W.heap[r]?=some (.cells #[vr] 25 (0,0)))
 (h6 : tmps[6]?.getD undef = .pointer (some ⟨p,0,none⟩)) (h7 : tmps[7]?.getD undef = .pointer (some ⟨q,0,none⟩)) (h8 : tmps[8]?.getD undef = .pointer (some ⟨r,0,none⟩)) : (results Tryz.f93 tmps).run Tryz.prog W = .ok (.tuple #[.agg #[a,b,c,d],vq,vr]) W:=by
 obtain ⟨⟨c0,c1,c2,c3⟩,_⟩:=t4 mp
 have cq : W.cell? ⟨q,0,none⟩=some vq:=by rw [cell_of_row _ _ _ _ _ _ mq];rfl
 have cr : W.cell? ⟨r,0,none⟩=some vr:=by rw [cell_of_row _ _ _ _ _ _ mr];rfl
 simp [results,Tryz.results93,go_sem,h6,h7,h8,c0,c1,c2,c3,cq,cr]
theorem door_ok {w W3 : World} {x : Nd} {b : Nat} {ad : Option Addr} {c : Nat} {tmps : Array Value} (j3 : W3.heap[w.heap.size]?=some (.cells #[.int .i64 x.k,.string x.t,.int .i64 x.n,.slice ad x.ks.length c] 24 (0,0))) (m2 : W3.heap[w.heap.size+1]?=some (.cells #[.int .i64 0] 3 (0,0))) (m3 : W3.heap[w.heap.size+1+1]?=some (.cells #[.int .i64 0] 25 (0,0)))
 (l3 : LAt W3 (fun b=>w.heap.size+3 ≤ b) (.slice ad x.ks.length c) x.ks) (b3 : Below w.heap.size w W3) (h6 : tmps[6]?.getD undef = .pointer (some ⟨w.heap.size,0,none⟩)) (h7 : tmps[7]?.getD undef = .pointer (some ⟨w.heap.size+1,0,none⟩)) (h8 : tmps[8]?.getD undef = .pointer (some ⟨w.heap.size+1+1,0,none⟩)) :
 bodyPostD Tryz.prog Tryz.f93 (AnsF w (faceR (Rs.ok x b))) Exit.ret { tmps:=tmps,defers:=[{ target:=Target.fn (Fn.func 111) #[Value.pointer (some ⟨w.heap.size,0,none⟩),Value.pointer (some ⟨w.heap.size+1,0,none⟩),Value.pointer (some ⟨w.heap.size+1+1,0,none⟩)],args:=#[] }] }
  ((((((W3.setCell ⟨w.heap.size,0,none⟩ (Value.int IntKind.i64 x.k)).setCell ⟨w.heap.size,1,none⟩ (Value.string x.t)).setCell ⟨w.heap.size,2,none⟩ (Value.int IntKind.i64 x.n)).setCell ⟨w.heap.size,3,none⟩ (Value.slice ad x.ks.length c)).setCell ⟨w.heap.size+1,0,none⟩ (Value.int IntKind.i64 (b : Int))).setCell ⟨w.heap.size+1+1,0,none⟩ (Value.int IntKind.i64 0)).drew:=by
 obtain ⟨W4,hW4⟩ : ∃ W,((((W3.setCell ⟨w.heap.size,0,none⟩ (Value.int IntKind.i64 x.k)).setCell ⟨w.heap.size,1,none⟩ (Value.string x.t)).setCell ⟨w.heap.size,2,none⟩ (Value.int IntKind.i64 x.n)).setCell ⟨w.heap.size,3,none⟩ (Value.slice ad x.ks.length c))=W:=⟨_,rfl⟩
 have n1 : W4.heap[w.heap.size]?=some (.cells #[.int .i64 x.k,.string x.t,.int .i64 x.n,.slice ad x.ks.length c] 24 (0,0)):=by rw [← hW4];exact t4_set _ _ _ _ j3
 have o4 : ∀ j,j ≠ w.heap.size→W4.heap[j]?=W3.heap[j]?:=fun j hj=>by rw [← hW4];exact blk_set4 hj _ _ _ _
 have s4 : W4.heap.size=W3.heap.size:=by rw [← hW4];simp [World.setCell]
 have e4 : W4.os=W3.os∧W4.tape=W3.tape∧W4.output=W3.output:=by rw [← hW4];exact ⟨rfl,rfl,rfl⟩
 rw [hW4]
 clear hW4
 obtain ⟨W5,hW5⟩ : ∃ W,W4.setCell ⟨w.heap.size+1,0,none⟩ (Value.int IntKind.i64 (b : Int))=W:=⟨_,rfl⟩
 have n2 : W5.heap[w.heap.size+1]?=some (.cells #[.int .i64 (b : Int)] 3 (0,0)):=by rw [← hW5];exact set1 ((o4 _ (by omega)).trans m2) _
 have o5 : ∀ j,j ≠ w.heap.size+1→W5.heap[j]?=W4.heap[j]?:=fun j hj=>by rw [← hW5];exact Below.heap_setCell _ _ _ _ hj
 have s5 : W5.heap.size=W3.heap.size:=by rw [← hW5];simp [World.setCell,s4]
 have e5 : W5.os=W3.os∧W5.tape=W3.tape∧W5.output=W3.output:=by rw [← hW5];exact e4
 rw [hW5]
 clear hW5
 obtain ⟨W6,hW6⟩ : ∃ W,W5.setCell ⟨w.heap.size+1+1,0,none⟩ (Value.int IntKind.i64 0)=W:=⟨_,rfl⟩
 have n3 : W6.heap[w.heap.size+1+1]?=some (.cells #[.int .i64 0] 25 (0,0)):=by rw [← hW6];exact set1 ((o5 _ (by omega)).trans ((o4 _ (by omega)).trans m3)) _
 have o6 : ∀ j,j ≠ w.heap.size+1+1→W6.heap[j]?=W5.heap[j]?:=fun j hj=>by rw [← hW6];exact Below.heap_setCell _ _ _ _ hj
 have s6 : W6.drew.heap.size=W3.heap.size:=by rw [← hW6];simp [World.setCell,World.drew,s5]
 have e6 : W6.os=W3.os∧W6.tape=W3.tape∧W6.output=W3.output:=by rw [← hW6];exact e5
 rw [hW6]
 clear hW6
 have q1 : W6.drew.heap[w.heap.size]?=some (.cells #[.int .i64 x.k,.string x.t,.int .i64 x.n,.slice ad x.ks.length c] 24 (0,0)):=(o6 _ (by omega)).trans ((o5 _ (by omega)).trans n1)
 have q2 : W6.drew.heap[w.heap.size+1]?=some (.cells #[.int .i64 (b : Int)] 3 (0,0)):=(o6 _ (by omega)).trans n2
 have q3 : W6.drew.heap[w.heap.size+1+1]?=some (.cells #[.int .i64 0] 25 (0,0)):=n3
 have o7 : ∀ j,j ≠ w.heap.size→j ≠ w.heap.size+1→j ≠ w.heap.size+1+1→W6.drew.heap[j]?=W3.heap[j]?:=fun j h1 h2 h3=>(o6 j h3).trans ((o5 j h2).trans (o4 j h1))
 refine leaves_cons (f:=111) (args:=#[.pointer (some ⟨w.heap.size,0,none⟩),.pointer (some ⟨w.heap.size+1,0,none⟩),.pointer (some ⟨w.heap.size+1+1,0,none⟩)]) (by simp) (by simp [go_sem]) ?_
 refine (catch_idle w.heap.size (w.heap.size+1) (w.heap.size+1+1) _).mono ?_
 rintro e u' W7 ⟨rfl,rfl,rfl⟩
 have zb:=b3.size
 refine ⟨_,res_read q1 q2 q3 h6 h7 h8,ad,c,rfl,?_,?_⟩
 ·exact ((l3.keep (by omega) (fun j hj hl=>o7 j (by omega) (by omega) (by omega))).mono (fun b hb=>by omega))
 ·exact ⟨e6.1.trans b3.os,e6.2.1.trans b3.tape,e6.2.2.trans b3.output,by omega,fun j hj=>(o7 j (by omega) (by omega) (by omega)).trans (b3.block j hj)⟩
theorem read_any (L : List Tok) (k : FuncId) (F : Nat→Nat→Rs Nd) (eg : ∀ args w,(callFunc k args).run Tryz.prog w = .ok (.enter k args) w) (hC : CN k L (fuelL L) 20 F) (w : World) (v : Value) (i : Int) (hv : TkV w v L) (hi : -9223372036854775808 ≤ i∧i ≤ 9223372036854775807) :
 Calls Tryz.prog 93 #[v,.int .i64 i,.func (.func k) #[] #[]] w (AnsF w (readP L F i)):=by
 obtain ⟨⟨ta,tc,bl,of,rfl,hta,hx,hcp⟩,hsm,htx⟩:=hv
 have hmf : ∀ (fn : Fn) (first cap : Array Value) (w : World),(Instr.makeFunc fn first cap).run Tryz.prog w = .ok (.func fn first cap) w:=fun _ _ _ _=>rfl
 unfold readP
 by_cases h1 : i < 0
 ·rw [if_pos h1]
  go_enter_defers Tryz.func93,Tryz.ntmps93
  go_wp2
  obtain ⟨W,hW⟩ : ∃ W,((w.alloc (Obj.cells #[.int .i64 0,.string ⟨#[]⟩,.int .i64 0,.slice none 0 0] 24)).alloc (Obj.cells #[.int .i64 (min (max i 0) (L.length : Int))] 3)).alloc (Obj.cells #[.int .i64 60] 25)=W:=⟨_,rfl⟩
  have bW : Below w.heap.size w W:=by rw [← hW];exact ((B0.alloc le0 _).alloc (by simp) _).alloc (by simp;omega) _
  have mp : W.heap[w.heap.size]?=some (.cells #[.int .i64 0,.string ⟨#[]⟩,.int .i64 0,.slice none 0 0] 24 (0,0)):=by rw [← hW];exact hold _ (by simp;omega) (hold _ (by simp) (hnew _ rfl))
  have mq : W.heap[w.heap.size+1]?=some (.cells #[.int .i64 (min (max i 0) (L.length : Int))] 3 (0,0)):=by rw [← hW];exact hold _ (by simp) (hnew _ (by simp))
  have mr : W.heap[w.heap.size+1+1]?=some (.cells #[.int .i64 60] 25 (0,0)):=by rw [← hW];exact hnew _ (by simp)
  have em : min (max i 0) (L.length : Int)=((0 : Nat) : Int):=by omega
  rw [em] at mq
  rw [hW]
  exact ⟨_,res_read mp mq mr rfl rfl rfl,none,0,rfl,.nil _ _,bW⟩
 ·rw [if_neg h1]
  by_cases h2 : (L.length : Int) < i
  ·rw [if_pos h2]
   go_enter_defers Tryz.func93,Tryz.ntmps93
   go_wp2
   obtain ⟨W,hW⟩ : ∃ W,((w.alloc (Obj.cells #[.int .i64 0,.string ⟨#[]⟩,.int .i64 0,.slice none 0 0] 24)).alloc (Obj.cells #[.int .i64 (min (max i 0) (L.length : Int))] 3)).alloc (Obj.cells #[.int .i64 60] 25)=W:=⟨_,rfl⟩
   have bW : Below w.heap.size w W:=by rw [← hW];exact ((B0.alloc le0 _).alloc (by simp) _).alloc (by simp;omega) _
   have mp : W.heap[w.heap.size]?=some (.cells #[.int .i64 0,.string ⟨#[]⟩,.int .i64 0,.slice none 0 0] 24 (0,0)):=by rw [← hW];exact hold _ (by simp;omega) (hold _ (by simp) (hnew _ rfl))
   have mq : W.heap[w.heap.size+1]?=some (.cells #[.int .i64 (min (max i 0) (L.length : Int))] 3 (0,0)):=by rw [← hW];exact hold _ (by simp) (hnew _ (by simp))
   have mr : W.heap[w.heap.size+1+1]?=some (.cells #[.int .i64 60] 25 (0,0)):=by rw [← hW];exact hnew _ (by simp)
   have em : min (max i 0) (L.length : Int)=(L.length : Int):=by omega
   rw [em] at mq
   rw [hW]
   exact ⟨_,res_read mp mq mr rfl rfl rfl,none,0,rfl,.nil _ _,bW⟩
  ·rw [if_neg h2]
   obtain ⟨a,rfl⟩ : ∃ a : Nat,i=(a : Int):=⟨i.toNat,by omega⟩
   have hal : a ≤ L.length:=by omega
   rw [show ((a : Int).toNat)=a from rfl]
   obtain ⟨rr,hrr⟩ : ∃ r,F a 0=r:=⟨_,rfl⟩
   have HRR : Hid (F a 0=rr):=hrr
   rw [hrr]
   clear hrr
   obtain ⟨W0,hW0⟩ : ∃ W,((w.alloc (Obj.cells #[.int .i64 0,.string ⟨#[]⟩,.int .i64 0,.slice none 0 0] 24)).alloc (Obj.cells #[.int .i64 0] 3)).alloc (Obj.cells #[.int .i64 0] 25)=W:=⟨_,rfl⟩
   have b0 : Below w.heap.size w W0:=by rw [← hW0];exact ((B0.alloc le0 _).alloc (by simp) _).alloc (by simp;omega) _
   have mp : W0.heap[w.heap.size]?=some (.cells #[.int .i64 0,.string ⟨#[]⟩,.int .i64 0,.slice none 0 0] 24 (0,0)):=by rw [← hW0];exact hold _ (by simp;omega) (hold _ (by simp) (hnew _ rfl))
   have mq : W0.heap[w.heap.size+1]?=some (.cells #[.int .i64 0] 3 (0,0)):=by rw [← hW0];exact hold _ (by simp) (hnew _ (by simp))
   have mr : W0.heap[w.heap.size+1+1]?=some (.cells #[.int .i64 0] 25 (0,0)):=by rw [← hW0];exact hnew _ (by simp)
   have s0 : W0.heap.size=w.heap.size+3:=by rw [← hW0];simp
   have HC : Hid (CN k L (fuelL L) 20 F):=hC
   clear hC
   go_enter_defers Tryz.func93,Tryz.ntmps93
   go_wp2_with fail
   go_at_call 33
   refine (new_any _ ta L.length tc rfl (a : Int) _).mono ?_
   rintro e W1 ⟨rfl,b1⟩
   obtain ⟨WR,hWR⟩ : ∃ W,W1.alloc (Obj.cells #[.slice ta L.length tc,.int .i64 (a : Int),.int .i64 0] 128)=W:=⟨_,rfl⟩
   have bR : Below W1.heap.size W1 WR:=by rw [← hWR];exact B0.alloc le0 _
   have mR : WR.heap[W1.heap.size]?=some (.cells #[.slice ta L.length tc,.int .i64 (a : Int),.int .i64 0] 128 (0,0)):=by rw [← hWR];exact hnew _ rfl
   have s1:=b1.size
   have sR:=bR.size
   have bW : Below w.heap.size w WR:=b0.trans ((b1.mono (by omega)).trans (bR.mono (by omega)))
   have rR : Rd WR ⟨W1.heap.size,bl,of,tc,ta⟩ L a (opE 0):=⟨mR,hta,hx.bel bW,fun q=>by have:=hx.lt q;show bl ≠ W1.heap.size;omega,hal,hsm,hcp⟩
   have CR:=HC.out _ _ _ _ rR (by omega) (fuel_ok L a 0 20 (by omega))
   rw [HRR.out] at CR
   go_wp2_with fail
   go_at_fn k
   refine CR.mono ?_
   rintro e W2 A2
   have kp : ∀ {W : World},KeptR W1.heap.size WR W→W.heap[w.heap.size]?=some (.cells #[.int .i64 0,.string ⟨#[]⟩,.int .i64 0,.slice none 0 0] 24 (0,0))∧W.heap[w.heap.size+1]?=some (.cells #[.int .i64 0] 3 (0,0))∧W.heap[w.heap.size+1+1]?=some (.cells #[.int .i64 0] 25 (0,0)):=fun {W} kk=>by
    have g : ∀ j,j < W0.heap.size→W.heap[j]?=W0.heap[j]?:=fun j hj=>(kk.block j (by omega) (by omega)).trans ((bR.block j (by omega)).trans (b1.block j hj))
    exact ⟨(g _ (by omega)).trans mp,(g _ (by omega)).trans mq,(g _ (by omega)).trans mr⟩
   have KP : Hid (∀ {W : World},KeptR W1.heap.size WR W→W.heap[w.heap.size]?=some (.cells #[.int .i64 0,.string ⟨#[]⟩,.int .i64 0,.slice none 0 0] 24 (0,0))∧W.heap[w.heap.size+1]?=some (.cells #[.int .i64 0] 3 (0,0))∧W.heap[w.heap.size+1+1]?=some (.cells #[.int .i64 0] 25 (0,0))):=kp
   clear kp
   cases rr with
   | bad p er =>
    obtain ⟨rfl,b2⟩:=A2
    obtain ⟨m1,m2,m3⟩:=KP.out b2
    have s2:=b2.size
    go_wp2
    refine leaves_cons (f:=111) (args:=#[.pointer (some ⟨w.heap.size,0,none⟩),.pointer (some ⟨w.heap.size+1,0,none⟩),.pointer (some ⟨w.heap.size+1+1,0,none⟩)]) (by simp) (by simp [go_sem]) ?_
    refine (catch_panicking w.heap.size (w.heap.size+1) (w.heap.size+1+1) p er _ _ _ _ _ _ _ m1 m2 m3 (by omega) (by omega) (by omega) []).mono ?_
    rintro e u' W3 ⟨rfl,rfl,n1,n2,n3,k3⟩
    refine ⟨_,res_read n1 n2 n3 rfl rfl rfl,none,0,rfl,.nil _ _,?_⟩
    refine ⟨k3.os.trans (b2.os.trans bW.os),k3.tape.trans (b2.tape.trans bW.tape),k3.output.trans (b2.output.trans bW.output),by have:=bW.size;have:=k3.size;omega,fun j hj=>?_⟩
    exact (k3.block j (by have:=bW.size;omega) (by omega) (by omega) (by omega)).trans ((b2.block j (by have:=bW.size;omega) (by show j ≠ W1.heap.size;omega)).trans (bW.block j hj))
   | ok x b =>
    obtain ⟨ad,c,rfl,l2,r2,b2⟩:=A2
    obtain ⟨m1,m2,m3⟩:=KP.out b2
    have s2:=b2.size
    obtain ⟨⟨_,_,_,_⟩,_,_,_,_⟩:=t4 m1
    go_wp2_with fail
    obtain ⟨W3,hW3⟩ : ∃ W,((((W2.setCell ⟨w.heap.size,0,none⟩ (Value.int IntKind.i64 x.k)).setCell ⟨w.heap.size,1,none⟩ (Value.string x.t)).setCell ⟨w.heap.size,2,none⟩ (Value.int IntKind.i64 x.n)).setCell ⟨w.heap.size,3,none⟩ (Value.slice ad x.ks.length c))=W:=⟨_,rfl⟩
    have j3 : W3.heap[w.heap.size]?=some (.cells #[.int .i64 x.k,.string x.t,.int .i64 x.n,.slice ad x.ks.length c] 24 (0,0)):=by rw [← hW3];exact t4_set _ _ _ _ m1
    have o3 : ∀ j,j ≠ w.heap.size→W3.heap[j]?=W2.heap[j]?:=fun j hj=>by rw [← hW3];exact blk_set4 hj _ _ _ _
    have s3 : W3.heap.size=W2.heap.size:=by rw [← hW3];simp [World.setCell]
    have e3 : W3.os=W2.os∧W3.tape=W2.tape∧W3.output=W2.output:=by rw [← hW3];exact ⟨rfl,rfl,rfl⟩
    have r3 : Rd W3 ⟨W1.heap.size,bl,of,tc,ta⟩ L b (opE 0):=by rw [← hW3];exact r2.set4 (by show W1.heap.size ≠ _;omega) (fun q=>by have:=hx.lt q;show bl ≠ _;omega) _ _ _ _
    have l3 : LAt W3 (fun b=>w.heap.size+1 ≤ b) (.slice ad x.ks.length c) x.ks:=by rw [← hW3];exact l2.set4 (by omega) (by omega) _ _ _ _
    rw [hW3]
    have m2':=(o3 _ (by omega)).trans m2
    have m3':=(o3 _ (by omega)).trans m3
    have cq : W3.cell? ⟨w.heap.size+1,0,none⟩=some (Value.int IntKind.i64 0):=by rw [cell_of_row _ _ _ _ _ _ m2'];rfl
    have fq : W3.frozen? ⟨w.heap.size+1,0,none⟩=false:=by simp [World.frozen?,m2']
    have cr : W3.cell? ⟨w.heap.size+1+1,0,none⟩=some (Value.int IntKind.i64 0):=by rw [cell_of_row _ _ _ _ _ _ m3'];rfl
    have fr : W3.frozen? ⟨w.heap.size+1+1,0,none⟩=false:=by simp [World.frozen?,m3']
    obtain ⟨⟨_,_,_,_⟩,_,_,_,_⟩:=t4 j3
    have CP:=place_any (r3.bel (B0.drew))
    refine wp_region_noPanic ?_
    refine wp_region_any (by kernel_rfl) ?_
    change wpAny _ _ _ _ _ _ _ (World.drew _)
    have cqd : W3.drew.cell? ⟨w.heap.size+1,0,none⟩=some (Value.int IntKind.i64 0):=cq
    have j3d : W3.drew.heap[w.heap.size]?=some (.cells #[.int .i64 x.k,.string x.t,.int .i64 x.n,.slice ad x.ks.length c] 24 (0,0)):=j3
    obtain ⟨⟨_,_,_,_⟩,_,_,_,_⟩:=t4 j3d
    refine tk 1 (.pointer (some ⟨W1.heap.size,0,none⟩)) ?_
    refine tk 2 (.pointer (some ⟨W1.heap.size,0,none⟩)) ?_
    refine tk 3 (.pointer (some ⟨W1.heap.size,0,none⟩)) ?_
    refine wpAny_two (i:=0) (j:=4) (is:=[4,5,6,7]) (js:=[0,5,6,7]) (os:=[_,_,_,_]) (us:=[_,_,_,_]) (by kernel_rfl) rfl rfl (by kernel_rfl) (by kernel_rfl) rfl rfl (by decide) (by decide) ?_ ?_
    all_goals
     go_wp2_with fail
     go_at_call 34
     refine CP.mono ?_
     rintro e W5 ⟨rfl,rfl⟩
     go_wp2_with fail
     refine NoPanic.normal ?_
     go_wp2
     have zW:=bW.size
     refine door_ok j3 m2' m3' ?_ ?_ rfl rfl rfl
     ·exact ((l2.mono' (T:=fun b=>WR.heap.size ≤ b) (fun b hl hb=>hb)).keep (by omega) (fun j hj hl=>o3 j (by omega))).mono (fun b hb=>by omega)
     ·exact ⟨e3.1.trans (b2.os.trans bW.os),e3.2.1.trans (b2.tape.trans bW.tape),e3.2.2.trans (b2.output.trans bW.output),by omega,fun j hj=>(o3 j (by omega)).trans ((b2.block j (by omega) (by show j ≠ W1.heap.size;omega)).trans (bW.block j hj))⟩
def mE : Ex:=⟨[],60⟩
theorem exprM_ge (L : List Tok) (a : Nat) : Ge (a+1) (exprM L a):=(mono_all L (fuelL L)).expr' a 0
theorem typeM_ge (L : List Tok) (a : Nat) : Ge (a+1) (typeM L a):=(mono_all L (fuelL L)).type' a 0
theorem stmtM_ge (L : List Tok) (a : Nat) : Ge (a+1) (stmtM L a):=(mono_all L (fuelL L)).stmt' a 0
theorem toM_ge (L : List Tok) (a : Nat) : Ge a (toM L a):=Ge.ite (fun _=>(typeM_ge L _).mono (by omega)) (fun _=>Ge.ok le0)
theorem endM_ge (L : List Tok) (n : Nd) (a : Nat) : Ge (a+1) (endM L n a):=(want_ge L sSe a).bind (fun u b hb=>Ge.ok hb)
theorem tkv_rest {w : World} {P : Pl} {L : List Tok} {a : Nat} {o : Ex} {v : Value} (h : Rd w P L a o) (hs : Small L) (hv : restV P L a v) : TkV w v (L.drop a):=by
 obtain ⟨ad,rfl,had⟩:=hv
 have hle:=h.le
 have hsm:=h.small
 have hcp:=h.cap
 have hl : (L.drop a).length=L.length - a:=List.length_drop
 refine ⟨⟨ad,P.tc - a,P.bl,P.of+a * 4,by rw [hl],fun q=>had (by omega),⟨fun q=>h.x.lt (by omega),fun i hi=>?_⟩,by omega⟩,by omega,fun x hx=>hs x (List.mem_of_mem_drop hx)⟩
 have hi' : a+i < L.length:=by omega
 have e : (L.drop a)[i]=L[a+i]:=List.getElem_drop
 rw [e]
 have:=h.x.c (a+i) hi'
 rw [show P.of+a * 4+i * 4=P.of+(a+i) * 4 by omega]
 exact this
theorem go_any {w : World} {P : Pl} {L : List Tok} {a : Nat} {o : Ex} (h : Rd w P L a o) (b : Nat) (hb : b ≤ L.length) :
 Calls Tryz.prog 92 #[.pointer (some ⟨P.R,0,none⟩),.int .i64 (b : Int)] w fun e w'=>e = .returned (.tuple #[])∧Rd w' P L b o∧KeptR P.R w w':=by
 obtain ⟨⟨c0,c1⟩,f1⟩:=h.cells
 go_enter Tryz.func92,Tryz.ntmps92
 go_wp2
 first
  | go_end0
  | refine bodyPost_ret (results_none rfl _ _ _) rfl ?_
 exact ⟨rfl,h.go b hb,KeptR.set P.R w 1 _⟩
theorem by_any {L : List Tok} (hs : Small L) {w : World} {P : Pl} {a : Nat} (h : Rd w P L a mE) {k : FuncId} (eg : ∀ args w,(callFunc k args).run Tryz.prog w = .ok (.enter k args) w) (r : Rs Nd)
 (hC : ∀ W v,TkV W v (L.drop a)→Calls Tryz.prog k #[v,.int .i64 0] W (AnsF W (faceR r))) (hg : Gd (L.drop a) 0 r) (hb : Bd (L.drop a) r) :
 Calls Tryz.prog 58 #[.pointer (some ⟨P.R,0,none⟩),.func (.func k) #[] #[]] w (AnsN P L mE w (r.up a)):=by
 have hRw:=h.lt
 have hle:=h.le
 have hsm:=h.small
 have hdl : (L.drop a).length=L.length - a:=List.length_drop
 obtain ⟨h0,a0,z0,M0⟩:=begin_cell h
 have C1:=rest_any h0
 have HC : Hid (∀ W v,TkV W v (L.drop a)→Calls Tryz.prog k #[v,.int .i64 0] W (AnsF W (faceR r))):=hC
 clear hC
 go_enter Tryz.func58,Tryz.ntmps58
 go_wp2_with fail
 go_at_call 91
 refine C1.mono ?_
 rintro e W1 ⟨⟨v,rfl,hv⟩,b1⟩
 have r1:=h0.bel b1
 have T1:=tkv_rest r1 hs hv
 clear hv
 have C2:=HC.out _ _ T1
 clear HC T1 C1
 have k1 : KeptR P.R (w.alloc zN) W1:=.of b1
 have s1:=b1.size
 cases r with
 | bad p er =>
  have he : er ≠ 0:=fun e=>hg.1 p (by rw [e])
  have hp : p ≤ L.length - a:=by have : p ≤ (L.drop a).length:=hb.1;omega
  have he2 : er=60 ∨ er=2:=by rcases hb.2 with e | e | e;exact .inl e;exact .inr e;exact absurd e he
  have hpw : IntKind.i64.wrap ((a : Int)+(p : Int))=((p+a : Nat) : Int):=by rw [IntKind.wrap_i64];omega
  simp only [faceR,zeroNd] at C2
  go_wp2_with fail
  go_at_fn k
  refine C2.mono ?_
  rintro e W2 ⟨ad,c,rfl,l2,b2⟩
  have r2:=r1.bel b2
  simp only [Nd.k,Nd.t,Nd.n,Nd.ks,List.length_nil]
  have r3:=r2.bel (B0.alloc le0 (Obj.cells #[.int .i64 0,.string mtT,.int .i64 0,.slice ad 0 c] 24))
  have k2 : KeptR P.R w (W2.alloc (Obj.cells #[.int .i64 0,.string mtT,.int .i64 0,.slice ad 0 c] 24)):=a0.trans ((k1.trans (.of b2)).alloc _)
  rcases he2 with rfl | rfl
  all_goals
   go_wp2_with fail
   go_at_call 34
   refine (place_any r3).mono ?_
   rintro e W3 ⟨rfl,rfl⟩
   go_wp2
   exact ⟨rfl,rfl,k2⟩
 | ok x b =>
  have hb2 : b ≤ L.length - a:=by have : b ≤ (L.drop a).length:=hb;omega
  have hpw : IntKind.i64.wrap ((a : Int)+(b : Int))=((b+a : Nat) : Int):=by rw [IntKind.wrap_i64];omega
  simp only [faceR] at C2
  go_wp2_with fail
  go_at_fn k
  refine C2.mono ?_
  rintro e W2 ⟨ad,c,rfl,l2,b2⟩
  have r2:=r1.bel b2
  have hx : LAt (W2.alloc (Obj.cells #[.int .i64 x.k,.string x.t,.int .i64 x.n,.slice ad x.ks.length c] 24)) (fun b=>W1.heap.size ≤ b) (Value.slice ad x.ks.length c) x.ks:=l2.bel (B0.alloc le0 _)
  obtain ⟨W3,hW3⟩ : ∃ W,W2.alloc (Obj.cells #[.int .i64 x.k,.string x.t,.int .i64 x.n,.slice ad x.ks.length c] 24)=W:=⟨_,rfl⟩
  have b3 : Below W2.heap.size W2 W3:=by rw [← hW3];exact B0.alloc le0 _
  have m3 : W3.heap[W2.heap.size]?=some (.cells #[.int .i64 x.k,.string x.t,.int .i64 x.n,.slice ad x.ks.length c] 24 (0,0)):=by rw [← hW3];exact hnew _ rfl
  rw [hW3] at hx
  have r3:=r2.bel b3
  have k3 : KeptR P.R (w.alloc zN) W3:=(k1.trans (.of b2)).trans (.of b3)
  have s2:=b2.size
  have s3 : W2.heap.size < W3.heap.size:=(Array.getElem?_eq_some_iff.1 m3).1
  go_wp2_with fail
  go_at_call 34
  refine (place_any r3).mono ?_
  rintro e W3' ⟨rfl,rfl⟩
  go_wp2_with fail
  go_at_call 92
  refine (go_any r3 (b+a) (by omega)).mono ?_
  rintro e W4 ⟨rfl,r4,k4⟩
  have m4:=(k4.block W2.heap.size s3 (by have:=r2.lt;omega)).trans m3
  obtain ⟨⟨_,_,_,_⟩,_,_,_,_⟩:=t4 m4
  have kk:=k3.trans k4
  have m0:=M0.out _ kk
  obtain ⟨⟨_,_,_,_⟩,_,_,_,_⟩:=t4 m0
  go_wp2
  refine bodyPost_ret (res_n4 Tryz.results58 (t4_set _ _ _ _ m0) rfl) rfl ?_
  exact close_ok (x:=x) h (a0.trans kk) ((hx.mono (T:=fun b=>w.heap.size+1 ≤ b) (fun b hb=>by simp at s1;omega)).keepR k4 (by omega)) (by omega) r4
theorem catch_idleM (p q r : Nat) (w : World) :
 CallsD Tryz.prog 32 #[.pointer (some ⟨p,0,none⟩),.pointer (some ⟨q,0,none⟩),.pointer (some ⟨r,0,none⟩)] .returning w fun e u' w'=>e = .returned (.tuple #[])∧u' = .returning∧w'=w:=by
 refine callsD_of_wpS Tryz.func32 rfl fun c₀ cs hu=>?_
 apply wpS_seq
 apply wpS_region
 simp [wpOpsS,go_sem,recoverD,hu,Tryz.ntmps32,Exit.thenS]
 refine wpS_of_wp ?_
 simp only [List.size_toArray,List.length_cons,List.length_nil,Nat.reduceAdd,Nat.reduceSub,Array.replicate_succ,Array.replicate_zero,List.push_toArray,List.append_toArray,List.nil_append,List.cons_append,List.setIfInBounds_toArray,List.set_cons_zero,List.set_cons_succ]
 go_wp2
 cases c₀
 simp_all [bodyPostS,results,Tryz.results32]
theorem catch_panickingM (p q r a : Nat) (er : Int) (n0 n1 n2 n3 q0 r0 : Value) (w : World) (mp : w.heap[p]?=some (.cells #[n0,n1,n2,n3] 24 (0,0))) (mq : w.heap[q]?=some (.cells #[q0] 3 (0,0))) (mr : w.heap[r]?=some (.cells #[r0] 25 (0,0))) (hpq : p ≠ q) (hpr : p ≠ r) (hqr : q ≠ r) (older : List PanicEntry) :
 CallsD Tryz.prog 32 #[.pointer (some ⟨p,0,none⟩),.pointer (some ⟨q,0,none⟩),.pointer (some ⟨r,0,none⟩)] (.panicking ({ v:=faultV a er,recovered:=false } :: older)) w fun e u' w'=>e = .returned (.tuple #[])∧u' = .panicking ({ v:=faultV a er,recovered:=true } :: older) ∧
  w'.heap[p]?=some (.cells #[.int .i64 0,.string ⟨#[]⟩,.int .i64 0,.slice none 0 0] 24 (0,0))∧w'.heap[q]?=some (.cells #[.int .i64 (a : Int)] 3 (0,0))∧w'.heap[r]?=some (.cells #[.int .i64 er] 25 (0,0))∧Kept3 p q r w w':=by
 refine callsD_of_wpS Tryz.func32 rfl fun c₀ cs hu=>?_
 apply wpS_seq
 apply wpS_region
 unfold faultV at *
 simp [wpOpsS,go_sem,recoverD,hu,Tryz.ntmps32,Exit.thenS]
 refine wpS_of_wp ?_
 simp only [List.size_toArray,List.length_cons,List.length_nil,Nat.reduceAdd,Nat.reduceSub,Array.replicate_succ,Array.replicate_zero,List.push_toArray,List.append_toArray,List.nil_append,List.cons_append,List.setIfInBounds_toArray,List.set_cons_zero,List.set_cons_succ]
 obtain ⟨⟨_,_,_,_⟩,_,_,_,_⟩:=t4 mp
 have cq : w.cell? ⟨q,0,none⟩=some q0:=by simp [World.cell?,mq]
 have fq : w.frozen? ⟨q,0,none⟩=false:=by simp [World.frozen?,mq]
 have cr : w.cell? ⟨r,0,none⟩=some r0:=by simp [World.cell?,mr]
 have fr : w.frozen? ⟨r,0,none⟩=false:=by simp [World.frozen?,mr]
 have lp : p < w.heap.size:=(Array.getElem?_eq_some_iff.1 mp).1
 have lq : q < w.heap.size:=(Array.getElem?_eq_some_iff.1 mq).1
 have lr : r < w.heap.size:=(Array.getElem?_eq_some_iff.1 mr).1
 have hta : ∀ w : World,(Instr.typeAssert (Value.iface 73 (Value.agg #[Value.int IntKind.i64 (a : Int),Value.int IntKind.i64 er])) 20 73 false).run Tryz.prog w = .ok (Value.agg #[Value.int IntKind.i64 (a : Int),Value.int IntKind.i64 er]) w:=fun w=>by
  first
   | rfl
   | kernel_rfl
   | simp [Instr.typeAssert,go_sem]
 go_wp2
 go_region
 obtain ⟨W1,hW1⟩ : ∃ W,((((w.setCell ⟨p,0,none⟩ (Value.int IntKind.i64 0)).setCell ⟨p,1,none⟩ (Value.string ⟨#[]⟩)).setCell ⟨p,2,none⟩ (Value.int IntKind.i64 0)).setCell ⟨p,3,none⟩ (Value.slice none 0 0))=W:=⟨_,rfl⟩
 have p1 : W1.heap[p]?=some (.cells #[.int .i64 0,.string ⟨#[]⟩,.int .i64 0,.slice none 0 0] 24 (0,0)):=by rw [← hW1];exact t4_set _ _ _ _ mp
 have o1 : ∀ j,j ≠ p→W1.heap[j]?=w.heap[j]?:=fun j hj=>by rw [← hW1];exact blk_set4 hj _ _ _ _
 have s1 : W1.heap.size=w.heap.size:=by rw [← hW1];simp [World.setCell]
 have e1 : W1.os=w.os∧W1.tape=w.tape∧W1.output=w.output:=by rw [← hW1];exact ⟨rfl,rfl,rfl⟩
 rw [hW1]
 obtain ⟨W2,hW2⟩ : ∃ W,W1.setCell ⟨q,0,none⟩ (Value.int IntKind.i64 (a : Int))=W:=⟨_,rfl⟩
 have q2 : W2.heap[q]?=some (.cells #[.int .i64 (a : Int)] 3 (0,0)):=by rw [← hW2];simp [World.setCell,Array.getElem?_modify,o1 q (fun e=>hpq e.symm),mq]
 have o2 : ∀ j,j ≠ q→W2.heap[j]?=W1.heap[j]?:=fun j hj=>by rw [← hW2];exact Below.heap_setCell _ _ _ _ hj
 have s2 : W2.heap.size=w.heap.size:=by rw [← hW2];simp [World.setCell,s1]
 have e2 : W2.os=w.os∧W2.tape=w.tape∧W2.output=w.output:=by rw [← hW2];exact e1
 rw [hW2]
 obtain ⟨W3,hW3⟩ : ∃ W,W2.setCell ⟨r,0,none⟩ (Value.int IntKind.i64 er)=W:=⟨_,rfl⟩
 have r3 : W3.heap[r]?=some (.cells #[.int .i64 er] 25 (0,0)):=by rw [← hW3];simp [World.setCell,Array.getElem?_modify,o2 r (fun e=>hqr e.symm),o1 r (fun e=>hpr e.symm),mr]
 have o3 : ∀ j,j ≠ r→W3.heap[j]?=W2.heap[j]?:=fun j hj=>by rw [← hW3];exact Below.heap_setCell _ _ _ _ hj
 have s3 : W3.heap.size=w.heap.size:=by rw [← hW3];simp [World.setCell,s2]
 have e3 : W3.os=w.os∧W3.tape=w.tape∧W3.output=w.output:=by rw [← hW3];exact e2
 rw [hW3]
 have oa : ∀ ob j,j < w.heap.size→(W3.alloc ob).drew.heap[j]?=W3.heap[j]?:=fun ob j hj=>Below.heap_alloc W3 ob j (by omega)
 refine ⟨rfl,_,rfl,.tuple #[],by simp [results,Tryz.results32],rfl,rfl,?_,?_,?_,e3.1,e3.2.1,e3.2.2,?_,?_⟩
 ·exact (oa _ p lp).trans ((o3 p hpr).trans ((o2 p hpq).trans p1))
 ·exact (oa _ q lq).trans ((o3 q hqr).trans q2)
 ·exact (oa _ r lr).trans r3
 ·show w.heap.size ≤ (W3.alloc _).heap.size
  simp
  omega
 ·intro k hk h1 h2 h3
  exact (oa _ k hk).trans ((o3 k h3).trans ((o2 k h2).trans (o1 k h1)))
end Go.Proofs.YthfkfbcopinmiaaGreatDoor
