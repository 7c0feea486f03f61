/- Own text. Package cursor: names that may not stand twice. Regions that draw their order,order by order;parameters. Package cursor: parameters. -/
import Derived.Test.YthfkfbcopinmiaaGreatDoorGk03
set_option linter.unusedVariables false
set_option linter.unusedSimpArgs false
set_option maxRecDepth 100000
set_option maxHeartbeats 4000000
namespace Go.Proofs.YthfkfbcopinmiaaGreatDoor
open Go.RowKit Go.Maps
theorem lawS : Keyed Tryz.prog 9:=string_keyed Tryz.underlying9
theorem keyS {s : ByteArray} (hs : s.size ≤ 281474976710656) : keyOf Tryz.prog 9 (.string s)=some (.string s.data.toList):=by
 have : s.size ≤ maxLen:=by unfold maxLen;omega
 simp [keyOf,Tryz.underlying9,mapKey,this]
def uElem : Value→Option (DataW Unit × List MemPlace)
 | .agg cs=>if cs.size=0 then some (.lit (.bool true),[]) else none
 | _=>none
theorem uElem_inv {v : Value} {z : DataW Unit × List MemPlace} (h : uElem v=some z) : v = .agg #[]:=by
 unfold uElem at h
 split at h
 ·split at h
  ·rename_i cs h0
   rw [Array.size_eq_zero_iff.1 h0]
  ·cases h
 ·cases h
theorem zeroU (w : World) : (zeroValue 82).run Tryz.prog w = .ok (.agg #[]) w:=by kernel_rfl
def NM (w : World) (M : Nat) (ns : List (List UInt8)) : Prop:=∃ D : DataW Unit,w.ownsMap Tryz.prog 9 uElem M ns.length D∧∀ k,Maps.has D (.string k)=decide (k ∈ ns)
theorem NM.lt {w : World} {M : Nat} {ns : List (List UInt8)} (h : NM w M ns) : M < w.heap.size:=let ⟨_,h,_⟩:=h;h.lt
theorem NM.keep {w w' : World} {M : Nat} {ns : List (List UInt8)} (h : NM w M ns) (e : w'.heap[M]?=w.heap[M]?) : NM w' M ns:=by
 obtain ⟨D,⟨es,clock,hb,r⟩,h2⟩:=h
 exact ⟨D,⟨es,clock,e.trans hb,r⟩,h2⟩
theorem NM.nil (w : World) : NM (w.alloc (.map #[] 0)) w.heap.size []:=⟨_,World.ownsMap_made w Tryz.prog 9 uElem,fun k=>by simp [Maps.has]⟩
theorem NM.look {w : World} {M : Nat} {ns : List (List UInt8)} (h : NM w M ns) {s : ByteArray} (hs : s.size ≤ 281474976710656) : (Instr.lookup 84 (.map (some M)) (.string s) true).run Tryz.prog w = .ok (.tuple #[.agg #[],.bool (decide (s.data.toList ∈ ns))]) w:=by
 obtain ⟨D,h1,h2⟩:=h
 obtain ⟨v,ps,hrun,hv⟩:=h1.look_ok lawS Tryz.underlying84 (zeroU w) (zd:=.lit (.bool true)) (zp:=[]) rfl (keyS hs)
 rw [hrun,uElem_inv hv,h2]
def addR (L : List Tok) (ns : List (List UInt8)) (a : Nat) : Rs (List (List UInt8)):=if (tokA L a).t.data.toList ∈ ns then .bad a 60 else .ok (ns ++ [(tokA L a).t.data.toList]) a
def AnsA (P : Pl) (L : List Tok) (o : Ex) (M : Nat) (w : World) (r : Rs (List (List UInt8))) (e : Ending) (w' : World) : Prop:=match r with
 | .ok ns a=>e = .returned (.tuple #[])∧Rd w' P L a o∧NM w' M ns∧KeptR M w w'
 | .bad p er=>Gave p er e∧KeptR M w w'
theorem KeptR.grown {M : Nat} {w w' : World} (h : w.grownBy w' (some M)) : KeptR M w w':=⟨h.os,h.tape,h.output,h.size,fun k hk hb=>h.block k hk (fun e=>hb (by injection e))⟩
theorem add_any {w : World} {P : Pl} {L : List Tok} {a : Nat} {o : Ex} {M : Nat} {ns : List (List UInt8)} (h : Rd w P L a o) (hm : NM w M ns) (hR : P.R ≠ M) (hb : 0 < L.length→P.bl ≠ M) (hs : Small L) (hn : ns.length ≤ 4194304) :
 Calls Tryz.prog 75 #[.pointer (some ⟨P.R,0,none⟩),.map (some M)] w (AnsA P L o M w (addR L ns a)):=by
 have C1:=token_any h
 have hsz:=hs.at a
 have hM0:=hm.lt
 have HL : Hid (∀ W,Below w.heap.size w W→NM W M ns):=fun W b=>hm.keep (b.block M hM0)
 have hR0:=h
 unfold addR
 generalize tokA L a=x at *
 have hf:=fld1 (.int .i64 x.k) (.string x.t) (.int .i64 x.n) (.int .i64 x.p)
 unfold Tok.v at C1
 have hk:=keyS (s:=x.t) (by omega)
 by_cases hq : x.t.data.toList ∈ ns
 ·rw [if_pos hq]
  unfold AnsA
  go_enter Tryz.func75,Tryz.ntmps75
  go_wp2_with (first
   | (go_at_call 36;refine C1.mono ?_;rintro e W1 ⟨rfl,b1⟩;have hlk:=(HL.out _ b1).look (s:=x.t) (by omega);rw [decide_eq_true hq] at hlk;have r1:=(hR0.bel b1).bel (B0.alloc le0 (.cells #[] 82)))
   | (go_at_call 72;refine (wrong_any r1).mono ?_;rintro e W2 ⟨rfl,b2⟩))
  exact ⟨rfl,rfl,(KeptR.of b1).trans ((KeptR.of (B0.alloc le0 _)).trans (.of b2))⟩
 ·rw [if_neg hq]
  unfold AnsA
  obtain ⟨D,hD1,hD2⟩:=hm
  have HD : Hid (∀ W,Below w.heap.size w W→W.ownsMap Tryz.prog 9 uElem M ns.length D):=fun W b=>by
   obtain ⟨es,clock,hb',r⟩:=hD1
   exact ⟨es,clock,(b.block M hM0).trans hb',r⟩
  clear hD1
  go_enter Tryz.func75,Tryz.ntmps75
  go_wp2_with (first
   | (go_at_call 36;refine C1.mono ?_;rintro e W1 ⟨rfl,b1⟩;have hlk:=(HL.out _ b1).look (s:=x.t) (by omega);rw [decide_eq_false hq] at hlk;have b2:=b1.alloc b1.size (.cells #[] 82))
   | (at_mapUpdate;refine wpList_mapUpdate_own _ rfl _ _ _ 84 rfl 9 82 lawS Tryz.underlying84 uElem M ns.length D rfl (HD.out _ b2) (by unfold maxLen;omega) _ _ _ rfl rfl hk (.lit (.bool true)) [] rfl ?_;intro W3 h3 g3))
  first
   | go_end0
   | refine bodyPost_ret (results_none rfl _ _ _) rfl ?_
  have hx : Maps.IsMap D:=(HD.out _ b1).isMap
  have r2:=hR0.bel b2
  refine ⟨rfl,r2.keep g3.size (g3.block _ r2.lt (fun e=>hR (by injection e))) (fun q=>g3.block _ (r2.x.lt q) (fun e=>hb q (by injection e))),⟨_,by simpa using h3,fun k=>?_⟩,(KeptR.of b2).trans (.grown g3)⟩
  by_cases hkx : k=x.t.data.toList
  ·subst hkx
   rw [Maps.has_put_same hx (lawS.key (by trivial))]
   simp
  ·rw [Maps.has_put_other (by intro e;injection e with e;exact hkx e),hD2]
   simp [hkx]
set_option maxHeartbeats 8000000
section
variable {PP : Program} {md : Region.Mode} {ops : Array Oper} {Q : Exit→Act→World→Prop}
def chainB (md : Region.Mode) (ops : Array Oper) : Array Bool→List Nat→Bool
 | listed,[]=>Region.ready md ops listed == []
 | listed,i :: is=>(Region.ready md ops listed == [i]) && chainB md ops (listed.setIfInBounds i true) is
theorem wpOp_list {i : Nat} {o : Oper} {rest : List Oper} {a : Act} {w : World} (ho : ops[i]?=some o) (h : wpList PP ops Q (o :: rest) a w) : wpOp PP ops Q i (wpList PP ops Q rest) a w:=by
 unfold wpOp
 rw [ho]
 unfold wpList at h
 exact h
theorem wpAny_chain : ∀ (os : List Oper) (is : List Nat) (fuel : Nat) (listed : Array Bool) (a : Act) (w : World),chainB md ops listed is=true→is.map (ops[·]?)=os.map some→is.length ≤ fuel→wpList PP ops Q os a w→wpAny PP md ops Q fuel listed a w
 | [],[],fuel,listed,a,w,hc,_,_,h=>by
  have hr : Region.ready md ops listed=[]:=by simpa [chainB] using hc
  cases fuel with
  | zero=>exact ⟨hr,h⟩
  | succ f=>exact ⟨fun _=>h,fun i hi=>by rw [hr] at hi;cases hi⟩
 | o :: os,i :: is,fuel,listed,a,w,hc,hm,hf,h=>by
  obtain ⟨f,rfl⟩ : ∃ f,fuel=f+1:=⟨fuel - 1,by simp at hf;omega⟩
  have hc' : Region.ready md ops listed=[i]∧chainB md ops (listed.setIfInBounds i true) is=true:=by simpa [chainB] using hc
  simp only [List.map_cons,List.cons.injEq] at hm
  refine ⟨fun h0=>(by rw [hc'.1] at h0;cases h0),fun j hj=>?_⟩
  rw [hc'.1] at hj
  obtain rfl : j=i:=by simpa using hj
  exact wpOp_mono (fun a' w' h'=>wpAny_chain os is f _ a' w' hc'.2 hm.2 (by simpa using hf) h') (wpOp_list hm.1 h)
 | [],_ :: _,_,_,_,_,_,hm,_,_=>by cases hm
 | _ :: _,[],_,_,_,_,_,hm,_,_=>by cases hm
theorem wpAny_two {i j : Nat} {is js : List Nat} {oi oj : Oper} {os us : List Oper} {fuel : Nat} {listed : Array Bool} {a : Act} {w : World} (hr : Region.ready md ops listed=[i,j]) (hi : ops[i]?=some oi) (hj : ops[j]?=some oj)
 (ci : chainB md ops (listed.setIfInBounds i true) is=true) (cj : chainB md ops (listed.setIfInBounds j true) js=true) (mi : is.map (ops[·]?)=os.map some) (mj : js.map (ops[·]?)=us.map some) (li : is.length ≤ fuel) (lj : js.length ≤ fuel)
 (h1 : wpList PP ops Q (oi :: os) a w) (h2 : wpList PP ops Q (oj :: us) a w) : wpAny PP md ops Q (fuel+1) listed a w:=by
 refine ⟨fun h0=>(by rw [hr] at h0;cases h0),fun k hk=>?_⟩
 rw [hr] at hk
 rcases List.mem_cons.1 hk with rfl | hk
 ·exact wpOp_mono (fun a' w' h'=>wpAny_chain os is fuel _ a' w' ci mi li h') (wpOp_list hi h1)
 ·obtain rfl : k=j:=by simpa using hk
  exact wpOp_mono (fun a' w' h'=>wpAny_chain us js fuel _ a' w' cj mj lj h') (wpOp_list hj h2)
end
def parG (L : List Tok) (G : Nat→Rs Nd) (ns : List (List UInt8)) (a : Nat) : Rs (Nd × List (List UInt8)):=(addR L ns a).bind fun ns1 _=>(idR L a).bind fun t a1=>(G a1).bind fun y a2=>.ok (mk0 13 t [y],ns1) a2
structure ParI (P : Pl) (pc pl pt M : Nat) (fv : Value) (ns : List (List UInt8)) (W : World) : Prop where
 c : W.cell? ⟨pc,0,none⟩=some (.pointer (some ⟨P.R,0,none⟩))
 l : W.cell? ⟨pl,0,none⟩=some (.map (some M))
 t : W.cell? ⟨pt,0,none⟩=some fv
 n : NM W M ns
 len : ns.length ≤ 4194304
theorem LAt.single {W : World} {S : Nat→Prop} {b : Nat} {x : Nd} {v : Value} {t : TypeId} {fr : Nat × Nat} (hb : W.heap[b]?=some (.cells #[.int .i64 x.k,.string x.t,.int .i64 x.n,v] t fr)) (hS : S b) (hx : LAt W S v x.ks) : LAt W S (.slice (some ⟨b,0,none⟩) 1 1) [x]:=by
 have hc : ∀ i,W.cell? ⟨b,i,none⟩=(#[Value.int .i64 x.k,.string x.t,.int .i64 x.n,v] : Array Value)[i]?:=fun i=>cell_of_row W b i _ _ _ hb
 refine .row b 0 1 [x] (fun _=>v) hS (Array.getElem?_eq_some_iff.1 hb).1 (fun i hi=>?_) (fun i hi=>?_)
 ·obtain rfl : i=0:=by simp at hi;omega
  exact ⟨hc 0,hc 1,hc 2,hc 3⟩
 ·obtain rfl : i=0:=by simp at hi;omega
  exact hx
theorem Kept2.new {R M : Nat} {w w' : World} (h : Kept2 R M w w') {n : Nat} (hn : w.heap.size ≤ n) (i : Nat) (v : Value) : Kept2 R M w (w'.setCell ⟨n,i,none⟩ v) :=
 ⟨h.os,h.tape,h.output,by simpa [World.setCell] using h.size,fun k hk hb hm=>(Below.heap_setCell _ _ _ _ (by show k ≠ n;omega)).trans (h.block k hk hb hm)⟩
theorem Kept2.set4 {R M : Nat} {w w' : World} (h : Kept2 R M w w') {n : Nat} (hn : w.heap.size ≤ n) (p q r s : Value) : Kept2 R M w ((((w'.setCell ⟨n,0,none⟩ p).setCell ⟨n,1,none⟩ q).setCell ⟨n,2,none⟩ r).setCell ⟨n,3,none⟩ s) :=
 (((h.new hn _ _).new hn _ _).new hn _ _).new hn _ _
theorem Rd.set4 {w : World} {P : Pl} {L : List Tok} {a : Nat} {o : Ex} (h : Rd w P L a o) {n : Nat} (hR : P.R ≠ n) (hb : 0 < L.length→P.bl ≠ n) (p q r s : Value) : Rd ((((w.setCell ⟨n,0,none⟩ p).setCell ⟨n,1,none⟩ q).setCell ⟨n,2,none⟩ r).setCell ⟨n,3,none⟩ s) P L a o :=
 (((h.other hR hb _ _).other hR hb _ _).other hR hb _ _).other hR hb _ _
theorem blk_set4 {w : World} {n j : Nat} (hj : j ≠ n) (p q r s : Value) : ((((w.setCell ⟨n,0,none⟩ p).setCell ⟨n,1,none⟩ q).setCell ⟨n,2,none⟩ r).setCell ⟨n,3,none⟩ s).heap[j]?=w.heap[j]?:=by
 rw [Below.heap_setCell _ _ _ _ hj,Below.heap_setCell _ _ _ _ hj,Below.heap_setCell _ _ _ _ hj,Below.heap_setCell _ _ _ _ hj]
theorem ParI.keep {P : Pl} {pc pl pt M : Nat} {fv : Value} {ns : List (List UInt8)} {W W' : World} (h : ParI P pc pl pt M fv ns W) (e1 : W'.heap[pc]?=W.heap[pc]?) (e2 : W'.heap[pl]?=W.heap[pl]?) (e3 : W'.heap[pt]?=W.heap[pt]?) (e4 : W'.heap[M]?=W.heap[M]?) : ParI P pc pl pt M fv ns W' :=
 ⟨(World.cell?_of_block (a:=⟨pc,0,none⟩) e1).trans h.c,(World.cell?_of_block (a:=⟨pl,0,none⟩) e2).trans h.l,(World.cell?_of_block (a:=⟨pt,0,none⟩) e3).trans h.t,h.n.keep e4,h.len⟩
theorem par_any {P : Pl} {L : List Tok} {o : Ex} {k : FuncId} {rs caps : Array Value} (eg : ∀ args w,(callFunc k args).run Tryz.prog w = .ok (.enter k args) w) (G : Nat→Rs Nd) {pc pl pt M a : Nat} {ns : List (List UInt8)} {w : World} (h : Rd w P L a o) (hi : ParI P pc pl pt M (.func (.func k) rs caps) ns w) (hs : Small L)
 (hM : M ≠ P.R) (hMb : 0 < L.length→P.bl ≠ M) (hpc : pc ≠ P.R∧pc ≠ M) (hpl : pl ≠ P.R∧pl ≠ M) (hpt : pt ≠ P.R∧pt ≠ M) (hns : ns.length ≤ a)
 (hT : ∀ W b,a < b→Rd W P L b o→Calls Tryz.prog k (rs ++ caps) W (AnsN P L o W (G b))) :
 Calls Tryz.prog 109 #[.pointer (some ⟨pc,0,none⟩),.pointer (some ⟨pl,0,none⟩),.pointer (some ⟨pt,0,none⟩)] w (AnsS P L o M (fun ns W=>ParI P pc pl pt M (.func (.func k) rs caps) ns W) w (parG L G ns a)):=by
 obtain ⟨h0,a0,z0,M0⟩:=begin_cell h
 have hRw:=h.lt
 have hbl0:=h.x.lt
 have hsm:=h.small
 obtain ⟨c1,c2,c3,hn,hlen⟩:=hi
 have e1:=World.block_lt_of_cell? w _ c1
 have e2:=World.block_lt_of_cell? w _ c2
 have e3:=World.block_lt_of_cell? w _ c3
 simp only at e1 e2 e3
 have hMl:=hn.lt
 have CA:=add_any h0 (hn.keep (a0.block M hMl hM)) (fun e=>hM e.symm) hMb hs (by omega)
 have HC : Hid (∀ W,KeptR M (w.alloc zN) W→W.cell? ⟨pc,0,none⟩=some (.pointer (some ⟨P.R,0,none⟩))∧W.cell? ⟨pl,0,none⟩=some (.map (some M))∧W.cell? ⟨pt,0,none⟩=some (.func (.func k) rs caps)):=fun W b =>
  ⟨(World.cell?_of_block (a:=⟨pc,0,none⟩) ((b.block pc (by omega) hpc.2).trans (a0.block pc e1 hpc.1))).trans c1,(World.cell?_of_block (a:=⟨pl,0,none⟩) ((b.block pl (by omega) hpl.2).trans (a0.block pl e2 hpl.1))).trans c2,(World.cell?_of_block (a:=⟨pt,0,none⟩) ((b.block pt (by omega) hpt.2).trans (a0.block pt e3 hpt.1))).trans c3⟩
 have g1 : (w.alloc zN).cell? ⟨pc,0,none⟩=some (.pointer (some ⟨P.R,0,none⟩)):=(HC.out _ (KeptR.refl _ _)).1
 have g2 : (w.alloc zN).cell? ⟨pl,0,none⟩=some (.map (some M)):=(HC.out _ (KeptR.refl _ _)).2.1
 have ka : ∀ {W : World},KeptR M (w.alloc zN) W→Kept2 P.R M w W:=fun b=>⟨b.os.trans a0.os,b.tape.trans a0.tape,b.output.trans a0.output,Nat.le_trans a0.size b.size,fun j hj h1 h2=>(b.block j (by omega) h2).trans (a0.block j hj h1)⟩
 have KA : Hid (∀ {W : World},KeptR M (w.alloc zN) W→Kept2 P.R M w W):=ka
 clear ka
 unfold parG
 cases hA : addR L ns a with
 | bad p er =>
  rw [hA] at CA
  rw [Rs.bind_bad]
  unfold AnsA at CA
  unfold AnsS
  go_enter Tryz.func109,Tryz.ntmps109
  go_wp2_with (go_at_call 75;refine CA.mono ?_;rintro e W1 ⟨rfl,b1⟩)
  exact ⟨rfl,rfl,KA.out b1⟩
 | ok ns1 a' =>
  have hA' : a'=a∧ns1.length=ns.length+1:=by
   unfold addR at hA
   split at hA
   ·cases hA
   ·cases hA;exact ⟨rfl,by simp⟩
  obtain ⟨rfl,hln⟩:=hA'
  rw [hA] at CA
  rw [Rs.bind_ok]
  clear hA
  unfold AnsA at CA
  have CI : Hid (∀ W,Rd W P L a' o→Calls Tryz.prog 38 #[.pointer (some ⟨P.R,0,none⟩)] W (AnsT P L o W (idR L a'))):=fun W r=>id_any r hs
  cases hI : idR L a' with
  | bad p er =>
   rw [hI] at CI
   rw [Rs.bind_bad]
   clear hI
   unfold AnsT at CI
   unfold AnsS
   go_enter Tryz.func109,Tryz.ntmps109
   go_wp2_with (go_at_call 75;refine CA.mono ?_;rintro e W1 ⟨rfl,r1,n1,b1⟩;obtain ⟨q1,q2,q3⟩:=HC.out _ b1;have s1:=b1.size)
   have q5 : W1.drew.cell? ⟨pc,0,none⟩=some (.pointer (some ⟨P.R,0,none⟩)):=q1
   have q6 : W1.drew.cell? ⟨pt,0,none⟩=some (.func (.func k) rs caps):=q3
   refine wp_region_any (by kernel_rfl) ?_
   change wpAny _ _ _ _ _ _ _ (World.drew _)
   refine wpAny_ready (rs:=[0,2]) (by kernel_rfl) (by simp) ?_
   refine AllReady.cons rfl (fun K hK=>?_) (AllReady.cons rfl (fun K hK=>?_) AllReady.nil)
   ·go_simp
    refine hK _ _ ?_
    clear hK K
    refine wpAny_two (i:=1) (j:=2) (is:=[2,3,4,5,6]) (js:=[1,3,4,5,6]) (os:=[_,_,_,_,_]) (us:=[_,_,_,_,_]) (by kernel_rfl) rfl rfl (by kernel_rfl) (by kernel_rfl) rfl rfl (by decide) (by decide) ?_ ?_
    all_goals
     go_wp2_with (first
      | (go_at_call 38;refine (CI.out _ (r1.bel B0.drew)).mono ?_;rintro e W2 ⟨rfl,b2⟩))
     exact ⟨rfl,rfl,(KA.out b1).trans ((Kept2.of (.of B0.drew)).trans (.of b2))⟩
   ·go_simp
    refine hK _ _ ?_
    clear hK K
    refine wpAny_chain [_,_,_,_,_,_] [0,1,3,4,5,6] _ _ _ _ (by kernel_rfl) rfl (by decide) ?_
    go_wp2_with (first
     | (go_at_call 38;refine (CI.out _ (r1.bel B0.drew)).mono ?_;rintro e W2 ⟨rfl,b2⟩))
    exact ⟨rfl,rfl,(KA.out b1).trans ((Kept2.of (.of B0.drew)).trans (.of b2))⟩
  | ok t a1 =>
   have ha1 : a' < a1∧a' < L.length:=by
    unfold idR at hI
    split at hI
    ·rename_i hh;cases hI;exact ⟨by omega,isN_lt hh⟩
    ·cases hI
   rw [hI] at CI
   rw [Rs.bind_ok]
   clear hI
   unfold AnsT at CI
   have CG : Hid (∀ W,Rd W P L a1 o→Calls Tryz.prog k (rs ++ caps) W (AnsN P L o W (G a1))):=fun W r=>hT W a1 ha1.1 r
   clear hT
   cases hG : G a1 with
   | bad p er =>
    rw [hG] at CG
    rw [Rs.bind_bad]
    unfold AnsN at CG
    unfold AnsS
    go_enter Tryz.func109,Tryz.ntmps109
    go_wp2_with (go_at_call 75;refine CA.mono ?_;rintro e W1 ⟨rfl,r1,n1,b1⟩;obtain ⟨q1,q2,q3⟩:=HC.out _ b1;have s1:=b1.size)
    have HT2 : Hid (∀ W,KeptR P.R W1.drew W→W.cell? ⟨pt,0,none⟩=some (.func (.func k) rs caps)):=fun W b=>(World.cell?_of_block (a:=⟨pt,0,none⟩) (b.block pt (by show pt < W1.heap.size;omega) hpt.1)).trans q3
    have q5 : W1.drew.cell? ⟨pc,0,none⟩=some (.pointer (some ⟨P.R,0,none⟩)):=q1
    have q6 : W1.drew.cell? ⟨pt,0,none⟩=some (.func (.func k) rs caps):=q3
    refine wp_region_any (by kernel_rfl) ?_
    change wpAny _ _ _ _ _ _ _ (World.drew _)
    refine wpAny_ready (rs:=[0,2]) (by kernel_rfl) (by simp) ?_
    refine AllReady.cons rfl (fun K hK=>?_) (AllReady.cons rfl (fun K hK=>?_) AllReady.nil)
    ·go_simp
     refine hK _ _ ?_
     clear hK K
     refine wpAny_two (i:=1) (j:=2) (is:=[2,3,4,5,6]) (js:=[1,3,4,5,6]) (os:=[_,_,_,_,_]) (us:=[_,_,_,_,_]) (by kernel_rfl) rfl rfl (by kernel_rfl) (by kernel_rfl) rfl rfl (by decide) (by decide) ?_ ?_
     all_goals
      go_wp2_with (first
       | (go_at_call 38;refine (CI.out _ (r1.bel B0.drew)).mono ?_;rintro e W2 ⟨rfl,r2,b2⟩;have q4:=HT2.out _ b2;have s2:=b2.size)
       | (go_at_fn k;refine (CG.out _ r2).mono ?_;rintro e W3 ⟨rfl,b3⟩))
      exact ⟨rfl,rfl,(KA.out b1).trans ((Kept2.of (.of B0.drew)).trans ((Kept2.of b2).trans (.of b3)))⟩
    ·go_simp
     refine hK _ _ ?_
     clear hK K
     refine wpAny_chain [_,_,_,_,_,_] [0,1,3,4,5,6] _ _ _ _ (by kernel_rfl) rfl (by decide) ?_
     go_wp2_with (first
      | (go_at_call 38;refine (CI.out _ (r1.bel B0.drew)).mono ?_;rintro e W2 ⟨rfl,r2,b2⟩;have q4:=HT2.out _ b2;have s2:=b2.size)
      | (go_at_fn k;refine (CG.out _ r2).mono ?_;rintro e W3 ⟨rfl,b3⟩))
     exact ⟨rfl,rfl,(KA.out b1).trans ((Kept2.of (.of B0.drew)).trans ((Kept2.of b2).trans (.of b3)))⟩
   | ok y a2 =>
    rw [hG] at CG
    rw [Rs.bind_ok]
    unfold AnsN at CG
    unfold AnsS
    go_enter Tryz.func109,Tryz.ntmps109
    go_wp2_with (go_at_call 75;refine CA.mono ?_;rintro e W1 ⟨rfl,r1,n1,b1⟩;obtain ⟨q1,q2,q3⟩:=HC.out _ b1;have s1:=b1.size)
    have HT2 : Hid (∀ W,KeptR P.R W1.drew W→W.cell? ⟨pt,0,none⟩=some (.func (.func k) rs caps)):=fun W b=>(World.cell?_of_block (a:=⟨pt,0,none⟩) (b.block pt (by show pt < W1.heap.size;omega) hpt.1)).trans q3
    have q5 : W1.drew.cell? ⟨pc,0,none⟩=some (.pointer (some ⟨P.R,0,none⟩)):=q1
    have q6 : W1.drew.cell? ⟨pt,0,none⟩=some (.func (.func k) rs caps):=q3
    have HM0 : Hid (∀ W2,KeptR P.R W1.drew W2→∀ W3,KeptR P.R W2 W3→∀ ob W4,Below (W3.alloc ob).heap.size (W3.alloc ob) W4→W4.heap[w.heap.size]?=some (.cells #[.int .i64 0,.string ⟨#[]⟩,.int .i64 0,.slice none 0 0] 24 (0,0))):=fun W2 b2 W3 b3 ob W4 b4=>by
     have s2:=b2.size
     have s3:=b3.size
     change W1.heap.size ≤ W2.heap.size at s2
     refine (b4.block _ (by simp;omega)).trans ((Below.heap_alloc _ _ _ (by omega)).trans ((b3.block _ (by omega) (by omega)).trans ((b2.block _ (by show w.heap.size < W1.heap.size;omega) (by omega)).trans ?_)))
     exact (b1.block _ (by omega) (by omega)).trans (heap_alloc_new w _)
    refine wp_region_any (by kernel_rfl) ?_
    change wpAny _ _ _ _ _ _ _ (World.drew _)
    refine wpAny_ready (rs:=[0,2]) (by kernel_rfl) (by simp) ?_
    refine AllReady.cons rfl (fun K hK=>?_) (AllReady.cons rfl (fun K hK=>?_) AllReady.nil)
    ·go_simp
     refine hK _ _ ?_
     clear hK K
     refine wpAny_two (i:=1) (j:=2) (is:=[2,3,4,5,6]) (js:=[1,3,4,5,6]) (os:=[_,_,_,_,_]) (us:=[_,_,_,_,_]) (by kernel_rfl) rfl rfl (by kernel_rfl) (by kernel_rfl) rfl rfl (by decide) (by decide) ?_ ?_
     all_goals
      go_wp2_with (first
       | (go_at_call 38;refine (CI.out _ (r1.bel B0.drew)).mono ?_;rintro e W2 ⟨rfl,r2,b2⟩;have q4:=HT2.out _ b2;have s2:=b2.size)
       | (go_at_fn k;refine (CG.out _ r2).mono ?_;rintro e W3 ⟨ad,c,rfl,l3,r3,b3⟩;have s3:=b3.size)
       | (go_at_call 42;refine (node_any 13 t (some ⟨W3.heap.size,0,none⟩) 1 1 _).mono ?_;rintro e W4 ⟨rfl,b4⟩;have m4:=HM0.out _ b2 _ b3 _ _ b4;obtain ⟨⟨_,_,_,_⟩,_,_,_,_⟩:=t4 m4))
      have s4:=b4.size
      have s1' : W1.heap.size ≤ W2.heap.size:=s2
      have kf : Kept2 P.R M w W4:=(KA.out b1).trans ((Kept2.of (.of B0.drew)).trans ((Kept2.of b2).trans ((Kept2.of b3).trans (.of (.of (B0.alloc le0 _ |>.trans (b4.mono (by simp))))))))
      have hbl : 0 < L.length→P.bl ≠ w.heap.size:=fun q=>by have:=hbl0 q;omega
      have l4 : LAt W4 (fun b=>w.heap.size+1 ≤ b) (.slice (some ⟨W3.heap.size,0,none⟩) 1 1) [y]:=LAt.single (x:=y) (v:=.slice ad y.ks.length c) (t:=24) (fr:=(0,0)) ((b4.block _ (by simp)).trans (heap_alloc_new W3 _)) (by show _ ≤ _;omega) (((l3.bel (B0.alloc le0 _)).bel b4).mono (fun b hb=>by omega))
      refine bodyPost_ret (res_n4 Tryz.results109 (t4_set _ _ _ _ m4) rfl) rfl ⟨some ⟨W3.heap.size,0,none⟩,1,rfl,l4.set4 (by omega) (by omega) _ _ _ _,(((r3.bel (B0.alloc le0 _)).bel b4).set4 (by omega) hbl _ _ _ _),?_,kf.set4 le0 _ _ _ _⟩
      have bk : ∀ j,j < w.heap.size→j ≠ P.R→W4.heap[j]?=W1.heap[j]?:=fun j h1 h2=>(b4.block j (by simp;omega)).trans ((Below.heap_alloc _ _ _ (by omega)).trans ((b3.block j (by omega) h2).trans (b2.block j (by show j < W1.heap.size;omega) h2)))
      exact ParI.keep (W:=W1) ⟨q1,q2,q3,n1,by omega⟩ ((blk_set4 (by omega) _ _ _ _).trans (bk _ e1 hpc.1)) ((blk_set4 (by omega) _ _ _ _).trans (bk _ e2 hpl.1)) ((blk_set4 (by omega) _ _ _ _).trans (bk _ e3 hpt.1)) ((blk_set4 (by omega) _ _ _ _).trans (bk _ hMl hM))
    ·go_simp
     refine hK _ _ ?_
     clear hK K
     refine wpAny_chain [_,_,_,_,_,_] [0,1,3,4,5,6] _ _ _ _ (by kernel_rfl) rfl (by decide) ?_
     go_wp2_with (first
      | (go_at_call 38;refine (CI.out _ (r1.bel B0.drew)).mono ?_;rintro e W2 ⟨rfl,r2,b2⟩;have q4:=HT2.out _ b2;have s2:=b2.size)
      | (go_at_fn k;refine (CG.out _ r2).mono ?_;rintro e W3 ⟨ad,c,rfl,l3,r3,b3⟩;have s3:=b3.size)
      | (go_at_call 42;refine (node_any 13 t (some ⟨W3.heap.size,0,none⟩) 1 1 _).mono ?_;rintro e W4 ⟨rfl,b4⟩;have m4:=HM0.out _ b2 _ b3 _ _ b4;obtain ⟨⟨_,_,_,_⟩,_,_,_,_⟩:=t4 m4))
     have s4:=b4.size
     have s1' : W1.heap.size ≤ W2.heap.size:=s2
     have kf : Kept2 P.R M w W4:=(KA.out b1).trans ((Kept2.of (.of B0.drew)).trans ((Kept2.of b2).trans ((Kept2.of b3).trans (.of (.of (B0.alloc le0 _ |>.trans (b4.mono (by simp))))))))
     have hbl : 0 < L.length→P.bl ≠ w.heap.size:=fun q=>by have:=hbl0 q;omega
     have l4 : LAt W4 (fun b=>w.heap.size+1 ≤ b) (.slice (some ⟨W3.heap.size,0,none⟩) 1 1) [y]:=LAt.single (x:=y) (v:=.slice ad y.ks.length c) (t:=24) (fr:=(0,0)) ((b4.block _ (by simp)).trans (heap_alloc_new W3 _)) (by show _ ≤ _;omega) (((l3.bel (B0.alloc le0 _)).bel b4).mono (fun b hb=>by omega))
     refine bodyPost_ret (res_n4 Tryz.results109 (t4_set _ _ _ _ m4) rfl) rfl ⟨some ⟨W3.heap.size,0,none⟩,1,rfl,l4.set4 (by omega) (by omega) _ _ _ _,(((r3.bel (B0.alloc le0 _)).bel b4).set4 (by omega) hbl _ _ _ _),?_,kf.set4 le0 _ _ _ _⟩
     have bk : ∀ j,j < w.heap.size→j ≠ P.R→W4.heap[j]?=W1.heap[j]?:=fun j h1 h2=>(b4.block j (by simp;omega)).trans ((Below.heap_alloc _ _ _ (by omega)).trans ((b3.block j (by omega) h2).trans (b2.block j (by show j < W1.heap.size;omega) h2)))
     exact ParI.keep (W:=W1) ⟨q1,q2,q3,n1,by omega⟩ ((blk_set4 (by omega) _ _ _ _).trans (bk _ e1 hpc.1)) ((blk_set4 (by omega) _ _ _ _).trans (bk _ e2 hpl.1)) ((blk_set4 (by omega) _ _ _ _).trans (bk _ e3 hpt.1)) ((blk_set4 (by omega) _ _ _ _).trans (bk _ hMl hM))
def sPo : ByteArray:=⟨#[40]⟩
def sPc : ByteArray:=⟨#[41]⟩
def paramsG (L : List Tok) (G : Nat→Rs Nd) (a : Nat) : Rs Nd:=(wantR L sPo a).bind fun _ a1=>(listG L sPc (parG L G) (L.length+1 - a1) [] [] a1).bind fun l a2=>.ok (mk0 12 mtT l) a2
theorem parG_ok {L : List Tok} {G : Nat→Rs Nd} {ns : List (List UInt8)} {a b : Nat} {x : Nd × List (List UInt8)} (hm : ∀ a x b,G a = .ok x b→a ≤ b) (h : parG L G ns a = .ok x b) : a < b∧x.2.length=ns.length+1:=by
 unfold parG addR idR at h
 split at h
 ·cases h
 ·rw [Rs.bind_ok] at h
  split at h
  ·rw [Rs.bind_ok] at h
   cases hG : G (a+1) with
   | bad p e=>rw [hG] at h;cases h
   | ok y a2 =>
    rw [hG,Rs.bind_ok] at h
    cases h
    have:=hm _ _ _ hG
    exact ⟨by omega,by simp⟩
  ·cases h
theorem eg_par : ∀ args w,(callFunc 109 args).run Tryz.prog w = .ok (.enter 109 args) w:=Go.Proofs.enters_of Tryz.func109 (by kernel_rfl) rfl
theorem params_any {P : Pl} {L : List Tok} {o : Ex} {k : FuncId} {rs caps : Array Value} (eg : ∀ args w,(callFunc k args).run Tryz.prog w = .ok (.enter k args) w) (G : Nat→Rs Nd) (w : World) (a : Nat) (h : Rd w P L a o) (hs : Small L)
 (hmono : ∀ a x b,G a = .ok x b→a ≤ b)
 (hT : ∀ W b,a < b→Rd W P L b o→Calls Tryz.prog k (rs ++ caps) W (AnsN P L o W (G b))) :
 Calls Tryz.prog 77 #[.pointer (some ⟨P.R,0,none⟩),.func (.func k) rs caps] w (AnsN P L o w (paramsG L G a)):=by
 have hRw:=h.lt
 have hbl0:=h.x.lt
 obtain ⟨wA,hwA⟩ : ∃ W,(w.alloc (.cells #[.pointer (some ⟨P.R,0,none⟩)] 76)).alloc (.cells #[.func (.func k) rs caps] 55)=W:=⟨_,rfl⟩
 have bA : Below w.heap.size w wA:=by rw [← hwA];exact (B0.alloc le0 _).alloc (by simp) _
 have sA : wA.heap.size=w.heap.size+2:=by rw [← hwA];simp
 have mA : wA.heap[w.heap.size]?=some (.cells #[.pointer (some ⟨P.R,0,none⟩)] 76):=by rw [← hwA];exact hold _ (by simp) (hnew _ rfl)
 have mB : wA.heap[w.heap.size+1]?=some (.cells #[.func (.func k) rs caps] 55):=by rw [← hwA];exact hnew _ (by simp)
 have hA:=h.bel bA
 obtain ⟨h0,a0,z0,M0⟩:=begin_cell hA
 have kw : KeptR P.R w (wA.alloc zN):=(KeptR.of bA).trans a0
 have HC : Hid (∀ W,KeptR P.R (wA.alloc zN) W→W.cell? ⟨w.heap.size,0,none⟩=some (.pointer (some ⟨P.R,0,none⟩))∧W.cell? ⟨w.heap.size+1,0,none⟩=some (.func (.func k) rs caps)):=fun W b=>by
  have e1 : W.heap[w.heap.size]?=_:=(b.block _ (by omega) (by omega)).trans ((a0.block _ (by omega) (by omega)).trans mA)
  have e2 : W.heap[w.heap.size+1]?=some (.cells #[.func (.func k) rs caps] 55):=(b.block _ (by omega) (by omega)).trans ((a0.block _ (by omega) (by omega)).trans mB)
  simp [World.cell?,e1,e2]
 obtain ⟨d1,d2⟩:=HC.out _ (KeptR.refl _ _)
 have CW:=want_any h0 sPo
 have hmm:=@run_makeMap Tryz.prog
 unfold paramsG
 cases hq : isS L a sPo with
 | false =>
  rw [wantR_no hq] at *
  rw [Rs.bind_bad]
  unfold AnsN
  unfold AnsU sPo at CW
  go_enter Tryz.func77,Tryz.ntmps77
  go_wp2_with (go_at_call 39;refine CW.mono ?_;rintro e W1 ⟨rfl,b1⟩)
  exact ⟨rfl,rfl,kw.trans b1⟩
 | true =>
  rw [wantR_yes hq] at *
  rw [Rs.bind_ok]
  unfold AnsU sPo at CW
  have HL : Hid (∀ W0,Rd W0 P L (a+1) o→KeptR P.R (wA.alloc zN) W0→Calls Tryz.prog 84 #[.pointer (some ⟨P.R,0,none⟩),.string ⟨#[41]⟩,.func (.func 109) #[] #[.pointer (some ⟨w.heap.size,0,none⟩),.pointer (some ⟨W0.heap.size+1,0,none⟩),.pointer (some ⟨w.heap.size+1,0,none⟩)]]
   ((W0.alloc (.map #[] 0)).alloc (.cells #[.map (some W0.heap.size)] 84)) (AnsL P L o W0.heap.size ((W0.alloc (.map #[] 0)).alloc (.cells #[.map (some W0.heap.size)] 84)) (listG L sPc (parG L G) (L.length+1 - (a+1)) [] [] (a+1)))):=fun W0 r0 b0=>by
   obtain ⟨WL,hWL⟩ : ∃ W,((W0.alloc (.map #[] 0)).alloc (.cells #[.map (some W0.heap.size)] 84))=W:=⟨_,rfl⟩
   rw [hWL]
   have s0:=b0.size
   have sL : WL.heap.size=W0.heap.size+2:=by rw [← hWL];simp [World.setCell]
   have bL : Below W0.heap.size W0 WL:=by rw [← hWL];exact (B0.alloc le0 _).alloc (by simp) _
   have mL : WL.heap[W0.heap.size]?=(W0.alloc (.map #[] 0)).heap[W0.heap.size]?:=by rw [← hWL];exact Below.heap_alloc _ _ _ (by simp)
   have cL : WL.cell? ⟨W0.heap.size+1,0,none⟩=some (.map (some W0.heap.size)):=by
    have : WL.heap[W0.heap.size+1]?=some (.cells #[.map (some W0.heap.size)] 84):=by rw [← hWL];exact hnew _ (by simp)
    simp [World.cell?,this]
   obtain ⟨f1,f2⟩:=HC.out _ b0
   have r0l:=r0.lt
   refine list_any (σ:=List (List UInt8)) (k:=109) (rs:=#[]) eg_par (parG L G) (fun ns W=>ParI P w.heap.size (W0.heap.size+1) (w.heap.size+1) W0.heap.size (.func (.func k) rs caps) ns W) (fun ns b=>ns.length ≤ b) W0.heap.size WL (a+1) [] (r0.bel bL) (by simp) ⟨(bL.cell (p:=⟨w.heap.size,0,none⟩) (by show w.heap.size < _;omega)).trans f1,cL,(bL.cell (p:=⟨w.heap.size+1,0,none⟩) (by show w.heap.size+1 < _;omega)).trans f2,(NM.nil W0).keep mL,by simp⟩ (by omega) (fun st a x b hF=>(parG_ok hmono hF).1) (fun st b x a1 c h1 h2 h3=>by have:=parG_ok hmono h2;omega) (fun st W W' hI h1 h2 hb=>?_) (fun W st b hb hJ r hI hsz hk=>?_)
   ·exact hI.keep (hb _ (by omega) (by omega)) (hb _ (by omega) (by omega)) (hb _ (by omega) (by omega)) (hb _ (by omega) (by omega))
   ·simp only [Array.empty_append]
    exact par_any eg G r hI hs (by omega) (fun q=>by have:=hbl0 q;omega) ⟨by omega,by omega⟩ ⟨by omega,by omega⟩ ⟨by omega,by omega⟩ hJ (fun W c hc r=>hT W c (by omega) r)
  clear hT
  generalize listG L sPc (parG L G) (L.length+1 - (a+1)) [] [] (a+1)=res at *
  cases res with
  | bad p er =>
   rw [Rs.bind_bad]
   unfold AnsL at HL
   unfold AnsN
   go_enter Tryz.func77,Tryz.ntmps77
   go_wp2_with (first
    | (go_at_call 39;refine CW.mono ?_;rintro e W0 ⟨rfl,r0,b0⟩;obtain ⟨d3,d4⟩:=HC.out _ b0;have s0:=b0.size;have d5:=((((Below.refl W0.heap.size W0).alloc le0 (.map #[] 0)).alloc (by simp) (.cells #[.map (some W0.heap.size)] 84)).cell (p:=⟨w.heap.size,0,none⟩) (by show w.heap.size < W0.heap.size;omega)).trans d3)
    | (go_at_call 84;refine (HL.out _ r0 b0).mono ?_;rintro e W2 ⟨rfl,b2⟩))
   have bL:=((Below.refl W0.heap.size W0).alloc le0 (.map #[] 0)).alloc (by simp) (.cells #[.map (some W0.heap.size)] 84)
   exact ⟨rfl,rfl,Kept2.late ((kw.trans b0).trans (.of bL)) b2 (by omega)⟩
  | ok l a2 =>
   rw [Rs.bind_ok]
   unfold AnsL at HL
   have HM2 : Hid (∀ W0,KeptR P.R (wA.alloc zN) W0→∀ W2,Kept2 P.R W0.heap.size ((W0.alloc (.map #[] 0)).alloc (.cells #[.map (some W0.heap.size)] 84)) W2→KeptR P.R (wA.alloc zN) W2):=fun W0 b0 W2 b2=>by
    have bL:=((Below.refl W0.heap.size W0).alloc le0 (.map #[] 0)).alloc (by simp) (.cells #[.map (some W0.heap.size)] 84)
    exact Kept2.late (b0.trans (.of bL)) b2 b0.size
   go_enter Tryz.func77,Tryz.ntmps77
   go_wp2_with (first
    | (go_at_call 39;refine CW.mono ?_;rintro e W0 ⟨rfl,r0,b0⟩;obtain ⟨d3,d4⟩:=HC.out _ b0;have s0:=b0.size;have d5:=((((Below.refl W0.heap.size W0).alloc le0 (.map #[] 0)).alloc (by simp) (.cells #[.map (some W0.heap.size)] 84)).cell (p:=⟨w.heap.size,0,none⟩) (by show w.heap.size < W0.heap.size;omega)).trans d3)
    | (go_at_call 84;refine (HL.out _ r0 b0).mono ?_;rintro e W2 ⟨ad,c,rfl,l2,r2,b2⟩;have k2:=HM2.out _ b0 _ b2)
    | (go_at_call 42;refine (node_any 12 ⟨#[]⟩ ad l.length c _).mono ?_;rintro e W3 ⟨rfl,b3⟩;have m3:=M0.out _ (k2.trans (.of b3));rw [sA] at m3;obtain ⟨⟨_,_,_,_⟩,_,_,_,_⟩:=t4 m3))
   refine bodyPost_ret (res_n4 Tryz.results77 (t4_set _ _ _ _ m3) rfl) rfl ?_
   have hbl : 0 < L.length→P.bl ≠ w.heap.size+2:=fun q=>by have:=hbl0 q;omega
   have kf : KeptR P.R w W3:=(kw.trans k2).trans (.of b3)
   refine ⟨ad,c,rfl,(l2.bel b3 |>.mono (T:=fun b=>w.heap.size+3 ≤ b) (fun b hb=>by simp at hb;omega)).set4 (by omega) (by omega) _ _ _ _,(r2.bel b3).set4 (by omega) hbl _ _ _ _,(((kf.new (by omega) _ _).new (by omega) _ _).new (by omega) _ _).new (by omega) _ _⟩
end Go.Proofs.YthfkfbcopinmiaaGreatDoor
