/- Own text. Package parse: the rules,one by one: unary operators. Package parse: the rules,one by one: what assigns. Package parse: the rules,one by one: expressions opened,assigned,closed. -/
import Derived.Test.YthfkfbcopinmiaaGreatDoorGk12
set_option linter.unusedVariables false
set_option linter.unusedSimpArgs false
set_option maxRecDepth 100000
set_option maxHeartbeats 8000000
namespace Go.Proofs.YthfkfbcopinmiaaGreatDoor
open Go.RowKit
theorem unary_step (L : List Tok) (hs : Small L) (f : Nat) (MN : Mono L f) (hU : CN 158 L f 10 (unaryF L f)) (hPo : CN 161 L f 9 (postF L f)) : CN 158 L (f+1) 10 (unaryF L (f+1)):=by
 intro w P a o h ho hM
 have hRw:=h.lt
 have hle:=h.le
 obtain ⟨h0,a0,z0,M0⟩:=begin_cell h
 obtain ⟨res,hres⟩ : ∃ r,unaryF L (f+1) a o=r:=⟨_,rfl⟩
 have HR : Hid (unaryF L (f+1) a o=res):=hres
 rw [hres]
 clear hres
 have HU' : Hid (CN 158 L f 10 (unaryF L f)):=hU
 have HPO' : Hid (CN 161 L f 9 (postF L f)):=hPo
 clear hU
 clear hPo
 go_enter Tryz.func158,Tryz.ntmps158
 cases q28 : isS L a sMi with
 | true =>
  have T28:=stands_any h0 sMi
  rw [q28] at T28
  have u28:=isS_lt q28
  go_wp2_with fail
  go_at_call 51
  refine T28.mono ?_
  rintro e W28 ⟨rfl,b28'⟩
  have r28:=h0.bel b28'
  have b28:=KeptR.of (b:=P.R) b28'
  have k28:=(KeptR.refl P.R (w.alloc zN)).trans b28
  have z28:=k28.size
  have y28:=r28.le
  go_wp2_with fail
  go_at_call 112
  refine (begin_any r28 (by omega)).mono ?_
  rintro e W29 A29
  cases h29 : beginR L a o with
  | bad p er =>
   rw [h29] at A29
   obtain ⟨rfl,b29⟩:=A29
   obtain rfl : Rs.bad p er=res:=by rw [← HR.out,unaryF];simp [Rs.bind,mtT,q28,h29]
   exact ⟨rfl,rfl,a0.trans (k28.trans b29)⟩
  | ok x29 a29 =>
   rw [h29] at A29
   obtain ⟨rfl,r29,b29⟩:=A29
   have y29:=r29.le
   have k29:=k28.trans b29
   have z29:=k29.size
   obtain ⟨rfl,e1,e2⟩:=beginR_ok h29
   go_wp2_with fail
   go_at_call 37
   refine (pass_any r29 (by omega) (hs.at _)).mono ?_
   rintro e W30 ⟨rfl,r30,b30⟩
   have k30:=k29.trans b30
   have z30:=k30.size
   have y30:=r30.le
   go_wp2_with fail
   go_at_call 158
   refine (HU'.out _ _ _ _ r30 (by omega) (by unfold Ms at *;omega)).mono ?_
   rintro e W31 A31
   cases h31 : unaryF L f (a+1) (o+1) with
   | bad p er =>
    rw [h31] at A31
    obtain ⟨rfl,b31⟩:=A31
    obtain rfl : Rs.bad p er=res:=by rw [← HR.out,unaryF];simp [Rs.bind,mtT,q28,h29,h31]
    exact ⟨rfl,rfl,a0.trans (k30.trans b31)⟩
   | ok x31 a31 =>
    rw [h31] at A31
    obtain ⟨ad31,c31,rfl,l31',r31,b31⟩:=A31
    have g31:=(MN.unary' (a+1) (o+1)) _ _ h31
    have y31:=r31.le
    have k31:=k30.trans b31
    have z31:=k31.size
    have l31:=l31'.mono (T:=fun b=>w.heap.size+1 ≤ b) (fun b hb=>by have:=k30.size;omega)
    go_wp2_with fail
    go_at_call 42
    refine (node_any 15 (tokA L a).t (some ⟨W31.heap.size,0,none⟩) 1 1 _).mono ?_
    rintro e W32 ⟨rfl,b32'⟩
    have j32 : W32.heap[W31.heap.size]?=_:=(b32'.block _ (by simp)).trans (heap_alloc_new W31 _)
    have r32:=(r31.bel (B0.alloc le0 _)).bel b32'
    have b32 : KeptR P.R W31 W32:=(KeptR.of (B0.alloc le0 _)).trans (.of b32')
    have k32:=k31.trans b32
    have z32:=k32.size
    have l32 : LAt W32 (fun b=>w.heap.size+1 ≤ b) (.slice (some ⟨W31.heap.size,0,none⟩) 1 1) [x31]:=LAt.n1 j32 (by have:=k31.size;show _ ≤ _;omega) (l31.keepR ((KeptR.refl P.R W31).trans b32) (by omega))
    go_wp2_with fail
    go_at_call 114
    refine (end_any (r32.bel (B0.alloc le0 _)) (by omega)).mono ?_
    rintro e W34 ⟨rfl,r34,b34⟩
    have k34:=(k32.alloc (Obj.cells #[.int .i64 15,.string (tokA L a).t,.int .i64 0,.slice (some ⟨W31.heap.size,0,none⟩) 1 1] 24)).trans b34
    have z34:=k34.size
    have v33 : W34.heap[W32.heap.size]?=_:=(((KeptR.refl P.R _).trans b34).block (W32.heap.size) (by simp) (by have:=k32.size;omega)).trans (heap_alloc_new W32 _)
    obtain ⟨⟨_,_,_,_⟩,_,_,_,_⟩:=t4 v33
    obtain rfl : Rs.ok (mk0 15 (tokA L a).t [x31]) a31=res:=by rw [← HR.out,unaryF];simp [Rs.bind,mtT,q28,h29,h31]
    have m0:=M0.out _ k34
    obtain ⟨⟨_,_,_,_⟩,_,_,_,_⟩:=t4 m0
    go_wp2
    refine bodyPost_ret (res_n4 Tryz.results158 (t4_set _ _ _ _ m0) rfl) rfl ?_
    exact close_ok (x:=(mk0 15 (tokA L a).t [x31])) h (a0.trans k34) (l32.keepR (((KeptR.refl P.R W32).alloc _).trans b34) (by omega)) (by omega) r34
 | false =>
  have T28:=stands_any h0 sMi
  rw [q28] at T28
  go_wp2_with fail
  go_at_call 51
  refine T28.mono ?_
  rintro e W28 ⟨rfl,b28'⟩
  have r28:=h0.bel b28'
  have b28:=KeptR.of (b:=P.R) b28'
  have k28:=(KeptR.refl P.R (w.alloc zN)).trans b28
  have z28:=k28.size
  have y28:=r28.le
  cases q35 : isS L a sNo with
  | true =>
   have T35:=stands_any r28 sNo
   rw [q35] at T35
   have u35:=isS_lt q35
   go_wp2_with fail
   go_at_call 51
   refine T35.mono ?_
   rintro e W35 ⟨rfl,b35'⟩
   have r35:=r28.bel b35'
   have b35:=KeptR.of (b:=P.R) b35'
   have k35:=k28.trans b35
   have z35:=k35.size
   have y35:=r35.le
   go_wp2_with fail
   go_at_call 112
   refine (begin_any r35 (by omega)).mono ?_
   rintro e W36 A36
   cases h36 : beginR L a o with
   | bad p er =>
    rw [h36] at A36
    obtain ⟨rfl,b36⟩:=A36
    obtain rfl : Rs.bad p er=res:=by rw [← HR.out,unaryF];simp [Rs.bind,mtT,q28,q35,h36]
    exact ⟨rfl,rfl,a0.trans (k35.trans b36)⟩
   | ok x36 a36 =>
    rw [h36] at A36
    obtain ⟨rfl,r36,b36⟩:=A36
    have y36:=r36.le
    have k36:=k35.trans b36
    have z36:=k36.size
    obtain ⟨rfl,e1,e2⟩:=beginR_ok h36
    go_wp2_with fail
    go_at_call 37
    refine (pass_any r36 (by omega) (hs.at _)).mono ?_
    rintro e W37 ⟨rfl,r37,b37⟩
    have k37:=k36.trans b37
    have z37:=k37.size
    have y37:=r37.le
    go_wp2_with fail
    go_at_call 158
    refine (HU'.out _ _ _ _ r37 (by omega) (by unfold Ms at *;omega)).mono ?_
    rintro e W38 A38
    cases h38 : unaryF L f (a+1) (o+1) with
    | bad p er =>
     rw [h38] at A38
     obtain ⟨rfl,b38⟩:=A38
     obtain rfl : Rs.bad p er=res:=by rw [← HR.out,unaryF];simp [Rs.bind,mtT,q28,q35,h36,h38]
     exact ⟨rfl,rfl,a0.trans (k37.trans b38)⟩
    | ok x38 a38 =>
     rw [h38] at A38
     obtain ⟨ad38,c38,rfl,l38',r38,b38⟩:=A38
     have g38:=(MN.unary' (a+1) (o+1)) _ _ h38
     have y38:=r38.le
     have k38:=k37.trans b38
     have z38:=k38.size
     have l38:=l38'.mono (T:=fun b=>w.heap.size+1 ≤ b) (fun b hb=>by have:=k37.size;omega)
     go_wp2_with fail
     go_at_call 42
     refine (node_any 15 (tokA L a).t (some ⟨W38.heap.size,0,none⟩) 1 1 _).mono ?_
     rintro e W39 ⟨rfl,b39'⟩
     have j39 : W39.heap[W38.heap.size]?=_:=(b39'.block _ (by simp)).trans (heap_alloc_new W38 _)
     have r39:=(r38.bel (B0.alloc le0 _)).bel b39'
     have b39 : KeptR P.R W38 W39:=(KeptR.of (B0.alloc le0 _)).trans (.of b39')
     have k39:=k38.trans b39
     have z39:=k39.size
     have l39 : LAt W39 (fun b=>w.heap.size+1 ≤ b) (.slice (some ⟨W38.heap.size,0,none⟩) 1 1) [x38]:=LAt.n1 j39 (by have:=k38.size;show _ ≤ _;omega) (l38.keepR ((KeptR.refl P.R W38).trans b39) (by omega))
     go_wp2_with fail
     go_at_call 114
     refine (end_any (r39.bel (B0.alloc le0 _)) (by omega)).mono ?_
     rintro e W41 ⟨rfl,r41,b41⟩
     have k41:=(k39.alloc (Obj.cells #[.int .i64 15,.string (tokA L a).t,.int .i64 0,.slice (some ⟨W38.heap.size,0,none⟩) 1 1] 24)).trans b41
     have z41:=k41.size
     have v40 : W41.heap[W39.heap.size]?=_:=(((KeptR.refl P.R _).trans b41).block (W39.heap.size) (by simp) (by have:=k39.size;omega)).trans (heap_alloc_new W39 _)
     obtain ⟨⟨_,_,_,_⟩,_,_,_,_⟩:=t4 v40
     obtain rfl : Rs.ok (mk0 15 (tokA L a).t [x38]) a38=res:=by rw [← HR.out,unaryF];simp [Rs.bind,mtT,q28,q35,h36,h38]
     have m0:=M0.out _ k41
     obtain ⟨⟨_,_,_,_⟩,_,_,_,_⟩:=t4 m0
     go_wp2
     refine bodyPost_ret (res_n4 Tryz.results158 (t4_set _ _ _ _ m0) rfl) rfl ?_
     exact close_ok (x:=(mk0 15 (tokA L a).t [x38])) h (a0.trans k41) (l39.keepR (((KeptR.refl P.R W39).alloc _).trans b41) (by omega)) (by omega) r41
  | false =>
   have T35:=stands_any r28 sNo
   rw [q35] at T35
   go_wp2_with fail
   go_at_call 51
   refine T35.mono ?_
   rintro e W35 ⟨rfl,b35'⟩
   have r35:=r28.bel b35'
   have b35:=KeptR.of (b:=P.R) b35'
   have k35:=k28.trans b35
   have z35:=k35.size
   have y35:=r35.le
   cases q42 : isWd L a wTypeof with
   | true =>
    have T42:=standsWord_any r35 wTypeof
    rw [q42] at T42
    have u42:=isWd_lt q42
    go_wp2_with fail
    go_at_call 18
    refine T42.mono ?_
    rintro e W42 ⟨rfl,b42'⟩
    have r42:=r35.bel b42'
    have b42:=KeptR.of (b:=P.R) b42'
    have k42:=k35.trans b42
    have z42:=k42.size
    have y42:=r42.le
    go_wp2_with fail
    go_at_call 112
    refine (begin_any r42 (by omega)).mono ?_
    rintro e W43 A43
    cases h43 : beginR L a o with
    | bad p er =>
     rw [h43] at A43
     obtain ⟨rfl,b43⟩:=A43
     obtain rfl : Rs.bad p er=res:=by rw [← HR.out,unaryF];simp [Rs.bind,mtT,q28,q35,q42,h43]
     exact ⟨rfl,rfl,a0.trans (k42.trans b43)⟩
    | ok x43 a43 =>
     rw [h43] at A43
     obtain ⟨rfl,r43,b43⟩:=A43
     have y43:=r43.le
     have k43:=k42.trans b43
     have z43:=k43.size
     obtain ⟨rfl,e1,e2⟩:=beginR_ok h43
     go_wp2_with fail
     go_at_call 37
     refine (pass_any r43 (by omega) (hs.at _)).mono ?_
     rintro e W44 ⟨rfl,r44,b44⟩
     have k44:=k43.trans b44
     have z44:=k44.size
     have y44:=r44.le
     go_wp2_with fail
     go_at_call 158
     refine (HU'.out _ _ _ _ r44 (by omega) (by unfold Ms at *;omega)).mono ?_
     rintro e W45 A45
     cases h45 : unaryF L f (a+1) (o+1) with
     | bad p er =>
      rw [h45] at A45
      obtain ⟨rfl,b45⟩:=A45
      obtain rfl : Rs.bad p er=res:=by rw [← HR.out,unaryF];simp [Rs.bind,mtT,q28,q35,q42,h43,h45]
      exact ⟨rfl,rfl,a0.trans (k44.trans b45)⟩
     | ok x45 a45 =>
      rw [h45] at A45
      obtain ⟨ad45,c45,rfl,l45',r45,b45⟩:=A45
      have g45:=(MN.unary' (a+1) (o+1)) _ _ h45
      have y45:=r45.le
      have k45:=k44.trans b45
      have z45:=k45.size
      have l45:=l45'.mono (T:=fun b=>w.heap.size+1 ≤ b) (fun b hb=>by have:=k44.size;omega)
      go_wp2_with fail
      go_at_call 42
      refine (node_any 15 (tokA L a).t (some ⟨W45.heap.size,0,none⟩) 1 1 _).mono ?_
      rintro e W46 ⟨rfl,b46'⟩
      have j46 : W46.heap[W45.heap.size]?=_:=(b46'.block _ (by simp)).trans (heap_alloc_new W45 _)
      have r46:=(r45.bel (B0.alloc le0 _)).bel b46'
      have b46 : KeptR P.R W45 W46:=(KeptR.of (B0.alloc le0 _)).trans (.of b46')
      have k46:=k45.trans b46
      have z46:=k46.size
      have l46 : LAt W46 (fun b=>w.heap.size+1 ≤ b) (.slice (some ⟨W45.heap.size,0,none⟩) 1 1) [x45]:=LAt.n1 j46 (by have:=k45.size;show _ ≤ _;omega) (l45.keepR ((KeptR.refl P.R W45).trans b46) (by omega))
      go_wp2_with fail
      go_at_call 114
      refine (end_any (r46.bel (B0.alloc le0 _)) (by omega)).mono ?_
      rintro e W48 ⟨rfl,r48,b48⟩
      have k48:=(k46.alloc (Obj.cells #[.int .i64 15,.string (tokA L a).t,.int .i64 0,.slice (some ⟨W45.heap.size,0,none⟩) 1 1] 24)).trans b48
      have z48:=k48.size
      have v47 : W48.heap[W46.heap.size]?=_:=(((KeptR.refl P.R _).trans b48).block (W46.heap.size) (by simp) (by have:=k46.size;omega)).trans (heap_alloc_new W46 _)
      obtain ⟨⟨_,_,_,_⟩,_,_,_,_⟩:=t4 v47
      obtain rfl : Rs.ok (mk0 15 (tokA L a).t [x45]) a45=res:=by rw [← HR.out,unaryF];simp [Rs.bind,mtT,q28,q35,q42,h43,h45]
      have m0:=M0.out _ k48
      obtain ⟨⟨_,_,_,_⟩,_,_,_,_⟩:=t4 m0
      go_wp2
      refine bodyPost_ret (res_n4 Tryz.results158 (t4_set _ _ _ _ m0) rfl) rfl ?_
      exact close_ok (x:=(mk0 15 (tokA L a).t [x45])) h (a0.trans k48) (l46.keepR (((KeptR.refl P.R W46).alloc _).trans b48) (by omega)) (by omega) r48
   | false =>
    have T42:=standsWord_any r35 wTypeof
    rw [q42] at T42
    go_wp2_with fail
    go_at_call 18
    refine T42.mono ?_
    rintro e W42 ⟨rfl,b42'⟩
    have r42:=r35.bel b42'
    have b42:=KeptR.of (b:=P.R) b42'
    have k42:=k35.trans b42
    have z42:=k42.size
    have y42:=r42.le
    go_wp2_with fail
    go_at_call 161
    refine (HPO'.out _ _ _ _ r42 (by omega) (by unfold Ms at *;omega)).mono ?_
    rintro e W49 A49
    cases h49 : postF L f a o with
    | bad p er =>
     rw [h49] at A49
     obtain ⟨rfl,b49⟩:=A49
     obtain rfl : Rs.bad p er=res:=by rw [← HR.out,unaryF];simp [Rs.bind,mtT,q28,q35,q42,h49]
     exact ⟨rfl,rfl,a0.trans (k42.trans b49)⟩
    | ok x49 a49 =>
     rw [h49] at A49
     obtain ⟨ad49,c49,rfl,l49',r49,b49⟩:=A49
     have g49:=(MN.post' a o) _ _ h49
     have y49:=r49.le
     have k49:=k42.trans b49
     have z49:=k49.size
     have l49:=l49'.mono (T:=fun b=>w.heap.size+1 ≤ b) (fun b hb=>by have:=k42.size;omega)
     obtain rfl : Rs.ok x49 a49=res:=by rw [← HR.out,unaryF];simp [Rs.bind,mtT,q28,q35,q42,h49]
     have m0:=M0.out _ k49
     obtain ⟨⟨_,_,_,_⟩,_,_,_,_⟩:=t4 m0
     go_wp2
     refine bodyPost_ret (res_n4 Tryz.results158 (t4_set _ _ _ _ m0) rfl) rfl ?_
     exact close_ok (x:=x49) h (a0.trans k49) (l49.keepR (KeptR.refl P.R W49) (by omega)) (by omega) r49
theorem ended_any {w : World} {P : Pl} {L : List Tok} {a : Nat} {o : Ex} (h : Rd w P L a o) (k : Int) (t : ByteArray) (n : Int) (ad : Option Addr) (ln cp : Nat) :
 Calls Tryz.prog 133 #[.pointer (some ⟨P.R,0,none⟩),.agg #[.int .i64 k,.string t,.int .i64 n,.slice ad ln cp]] w (AnsW P L o (.agg #[.int .i64 k,.string t,.int .i64 n,.slice ad ln cp]) w (wantR L sSe a)):=by
 have hRw:=h.lt
 have hbl0:=h.x.lt
 obtain ⟨wA,hwA⟩ : ∃ W,w.alloc (.cells #[.int .i64 k,.string t,.int .i64 n,.slice ad ln cp] 24)=W:=⟨_,rfl⟩
 have bA : Below w.heap.size w wA:=by rw [← hwA];exact B0.alloc le0 _
 have sA : wA.heap.size=w.heap.size+1:=by rw [← hwA];simp
 have mA : wA.heap[w.heap.size]?=some (.cells #[.int .i64 k,.string t,.int .i64 n,.slice ad ln cp] 24 (0,0)):=by rw [← hwA];exact hnew _ rfl
 obtain ⟨h0,a0,z0,M0⟩:=begin_cell (h.bel bA)
 have C1:=want_any h0 sSe
 generalize wantR L sSe a=rr at *
 go_enter Tryz.func133,Tryz.ntmps133
 go_wp2_with fail
 go_at_call 39
 refine C1.mono ?_
 rintro e W1 A1
 cases rr with
 | bad p er =>
  obtain ⟨rfl,b1⟩:=A1
  exact ⟨rfl,rfl,((KeptR.of bA).trans a0).trans b1⟩
 | ok u a1 =>
  obtain ⟨rfl,r1,b1⟩:=A1
  have m0:=M0.out _ b1
  rw [sA] at m0
  have v0 : W1.heap[w.heap.size]?=_:=(b1.block _ (by omega) (by omega)).trans ((a0.block _ (by omega) (by omega)).trans mA)
  obtain ⟨⟨_,_,_,_⟩,_,_,_,_⟩:=t4 m0
  obtain ⟨⟨_,_,_,_⟩,_,_,_,_⟩:=t4 v0
  have kf : KeptR P.R w W1:=((KeptR.of bA).trans a0).trans b1
  have hbl : 0 < L.length→P.bl ≠ w.heap.size+1:=fun q=>by have:=hbl0 q;omega
  go_wp2
  refine bodyPost_ret (res_n4 Tryz.results133 (t4_set _ _ _ _ m0) rfl) rfl ?_
  exact ⟨rfl,r1.set4 (by omega) hbl _ _ _ _,(((kf.new (by omega) _ _).new (by omega) _ _).new (by omega) _ _).new (by omega) _ _⟩
def CA (L : List Tok) (f : Nat) : Prop:=∀ (w : World) (P : Pl) (a o : Nat) (x : Nd) (ad0 : Option Addr) (c0 : Nat) (S : Nat → Prop),Rd w P L a (opE o) → o ≤ 400 → Ms L a o 19 ≤ f → a < L.length → LAt w S (.slice ad0 x.ks.length c0) x.ks → (∀ b,S b → b ≠ P.R ∧ b < w.heap.size) →
    Calls Tryz.prog 143 #[.pointer (some ⟨P.R,0,none⟩),.agg #[.int .i64 x.k,.string x.t,.int .i64 x.n,.slice ad0 x.ks.length c0]] w (fun e w'=>match assignF L f x a o with
     | .ok y b=>∃ ad c,e = .returned (.agg #[.int .i64 y.k,.string y.t,.int .i64 y.n,.slice ad y.ks.length c])∧LAt w' (fun b=>S b ∨ w.heap.size ≤ b) (.slice ad y.ks.length c) y.ks∧Rd w' P L b (opE o)∧KeptR P.R w w'
     | .bad p er=>Gave p er e∧KeptR P.R w w')
theorem assign_step (L : List Tok) (hs : Small L) (f : Nat) (MN : Mono L f) (hE : CN 126 L f 20 (exprF L f)) : CA L (f+1):=by
 intro w P a o x ad0 c0 S h ho hM hla hx hS
 have hRw:=h.lt
 have hbl0:=h.x.lt
 have HE' : Hid (CN 126 L f 20 (exprF L f)):=hE
 clear hE
 obtain ⟨wA,hwA⟩ : ∃ W,w.alloc (.cells #[.int .i64 x.k,.string x.t,.int .i64 x.n,.slice ad0 x.ks.length c0] 24)=W:=⟨_,rfl⟩
 have bA : Below w.heap.size w wA:=by rw [← hwA];exact B0.alloc le0 _
 have sA : wA.heap.size=w.heap.size+1:=by rw [← hwA];simp
 have mA : wA.heap[w.heap.size]?=some (.cells #[.int .i64 x.k,.string x.t,.int .i64 x.n,.slice ad0 x.ks.length c0] 24 (0,0)):=by rw [← hwA];exact hnew _ rfl
 obtain ⟨h0,a0,z0,M0⟩:=begin_cell (h.bel bA)
 have kw : KeptR P.R w (wA.alloc zN):=(KeptR.of bA).trans a0
 have HV : Hid (∀ W,KeptR P.R (wA.alloc zN) W→W.heap[w.heap.size]?=some (.cells #[.int .i64 x.k,.string x.t,.int .i64 x.n,.slice ad0 x.ks.length c0] 24 (0,0))):=fun W b=>(b.block _ (by omega) (by omega)).trans ((a0.block _ (by omega) (by omega)).trans mA)
 obtain ⟨⟨_,_,_,_⟩,_,_,_,_⟩:=t4 (HV.out _ (KeptR.refl _ _))
 obtain ⟨res,hres⟩ : ∃ r,assignF L (f+1) x a o=r:=⟨_,rfl⟩
 have HR : Hid (assignF L (f+1) x a o=res):=hres
 rw [hres]
 clear hres
 by_cases hK : x.k=6 ∨ x.k=21 ∨ x.k=22
 ·have CP:=pass_any h0 hla (hs.at _)
  have hm : assignF L (f+1) x a o=(exprF L f (a+1) o).bind fun v a2=>.ok (mk0 18 mtT [x,v]) a2:=by rw [assignF,if_pos hK]
  rw [hm] at HR
  clear hm
  rcases (by rcases hK with e | e | e;exact .inl (by simp [e]);exact .inr (.inl ⟨by simp [e],by simp [e]⟩);exact .inr (.inr ⟨by simp [e],by simp [e],by simp [e]⟩) : (x.k == 6)=true ∨ ((x.k == 6)=false∧(x.k == 21)=true) ∨ ((x.k == 6)=false∧(x.k == 21)=false∧(x.k == 22)=true)) with q6 | ⟨q6,q7⟩ | ⟨q6,q7,q8⟩
  all_goals
   clear hK
   go_enter Tryz.func143,Tryz.ntmps143
   go_wp2_with fail
   go_at_call 37
   refine CP.mono ?_
   rintro e W1 ⟨rfl,r1',b1'⟩
   go_wp2_with fail
   refine wp_region_any (by kernel_rfl) ?_
   change wpAny _ _ _ _ _ _ _ (World.drew _)
   have b1 : KeptR P.R (wA.alloc zN) W1.drew:=b1'.trans (.of (B0.drew))
   have r1:=r1'.bel (B0.drew)
   have y1:=r1.le
   obtain ⟨⟨_,_,_,_⟩,_,_,_,_⟩:=t4 (HV.out _ b1)
   have C2:=HE'.out _ _ _ _ r1 ho (by unfold Ms at *;omega)
   refine wpAny_take (i:=1) (v:=.pointer (some ⟨P.R,0,none⟩)) rfl (by kernel_rfl) (by kernel_rfl) (by kernel_rfl) (fun _ _ _ h=>h) (Or.inl ⟨by rfl,fun w=>by go_simp⟩) ?_
   cases h2 : exprF L f (a+1) o with
   | bad p er =>
    rw [h2] at C2
    obtain rfl : Rs.bad p er=res:=by rw [← HR.out,h2];rfl
    refine wpAny_two (i:=0) (j:=2) (is:=[2,3,4,5]) (js:=[0,3,4,5]) (os:=[_,_,_,_]) (us:=[_,_,_,_]) (by kernel_rfl) rfl rfl (by kernel_rfl) (by kernel_rfl) rfl rfl (by decide) (by decide) ?_ ?_
    all_goals
     go_wp2_with fail
     go_at_call 126
     refine C2.mono ?_
     rintro e W2 ⟨rfl,b2⟩
     exact ⟨rfl,rfl,kw.trans (b1.trans b2)⟩
   | ok y a2 =>
    rw [h2] at C2
    obtain rfl : Rs.ok (mk0 18 mtT [x,y]) a2=res:=by rw [← HR.out,h2];rfl
    refine wpAny_two (i:=0) (j:=2) (is:=[2,3,4,5]) (js:=[0,3,4,5]) (os:=[_,_,_,_]) (us:=[_,_,_,_]) (by kernel_rfl) rfl rfl (by kernel_rfl) (by kernel_rfl) rfl rfl (by decide) (by decide) ?_ ?_
    all_goals
     go_wp2_with fail
     go_at_call 126
     refine C2.mono ?_
     rintro e W2 ⟨ad2,c2,rfl,l2,r2,b2⟩
     have k2:=b1.trans b2
     have z2:=k2.size
     obtain ⟨⟨_,_,_,_⟩,_,_,_,_⟩:=t4 (HV.out _ k2)
     go_wp2_with fail
     go_at_call 42
     refine (node_any 18 ⟨#[]⟩ (some ⟨W2.heap.size,0,none⟩) 2 2 _).mono ?_
     rintro e W4 ⟨rfl,b4⟩
     have j4 : W4.heap[W2.heap.size]?=_:=(b4.block _ (by simp)).trans (heap_alloc_new W2 _)
     have k4 : KeptR P.R W2 W4:=(KeptR.of (B0.alloc le0 _)).trans (.of b4)
     have r4:=(r2.bel (B0.alloc le0 _)).bel b4
     have m0:=M0.out _ (k2.trans k4)
     rw [sA] at m0
     obtain ⟨⟨_,_,_,_⟩,_,_,_,_⟩:=t4 m0
     go_wp2
     have kf:=kw.trans (k2.trans k4)
     have hbl : 0 < L.length→P.bl ≠ w.heap.size+1:=fun q=>by have:=hbl0 q;omega
     have z4:=k4.size
     refine bodyPost_ret (res_n4 Tryz.results143 (t4_set _ _ _ _ m0) rfl) rfl ?_
     refine ⟨some ⟨W2.heap.size,0,none⟩,2,rfl,?_,r4.set4 (by omega) hbl _ _ _ _,(((kf.new (by omega) _ _).new (by omega) _ _).new (by omega) _ _).new (by omega) _ _⟩
     have kx:=(((kf.new (n:=w.heap.size+1) (by omega) 0 (.int .i64 18)).new (n:=w.heap.size+1) (by omega) 1 (.string ⟨#[]⟩)).new (n:=w.heap.size+1) (by omega) 2 (.int .i64 0)).new (n:=w.heap.size+1) (by omega) 3 (.slice (some ⟨W2.heap.size,0,none⟩) 2 2)
     have zd : W1.drew.heap.size=W1.heap.size:=rfl
     have z1:=b1.size
     refine LAt.n2 (x:=x) (y:=y) (t:=24) (fr:=(0,0)) ((blk_set4 (by omega) _ _ _ _).trans j4) (Or.inr (by omega)) ((hx.keep kx.size (fun b hb hl=>kx.block b hl (hS b hb).1)).mono (fun b hb=>Or.inl hb)) ?_
     exact ((l2.keepR k4 (by omega)).set4 (C:=w.heap.size) (by omega) (by omega) _ _ _ _).mono (fun b hb=>Or.inr hb)
 ·have hm : assignF L (f+1) x a o = .bad a 60:=by rw [assignF,if_neg hK]
  obtain rfl : Rs.bad a 60=res:=by rw [← HR.out,hm]
  have q6 : (x.k == 6)=false:=by simp;intro e;exact hK (.inl e)
  have q7 : (x.k == 21)=false:=by simp;intro e;exact hK (.inr (.inl e))
  have q8 : (x.k == 22)=false:=by simp;intro e;exact hK (.inr (.inr e))
  go_enter Tryz.func143,Tryz.ntmps143
  go_wp2_with fail
  go_at_call 72
  refine (wrong_any h0).mono ?_
  rintro e W1 ⟨rfl,b1⟩
  go_wp2
  exact ⟨rfl,rfl,kw.trans (.of b1)⟩
theorem expr_step (L : List Tok) (hs : Small L) (f : Nat) (MN : Mono L f) (hC : CN 142 L f 12 (condF L f)) (hA : CA L f) : CN 126 L (f+1) 20 (exprF L (f+1)):=by
 intro w P a o h ho hM
 have hRw:=h.lt
 have hle:=h.le
 obtain ⟨h0,a0,z0,M0⟩:=begin_cell h
 obtain ⟨res,hres⟩ : ∃ r,exprF L (f+1) a o=r:=⟨_,rfl⟩
 have HR : Hid (exprF L (f+1) a o=res):=hres
 rw [hres]
 clear hres
 have HC' : Hid (CN 142 L f 12 (condF L f)):=hC
 have HA' : Hid (CA L f):=hA
 clear hC
 clear hA
 go_enter Tryz.func126,Tryz.ntmps126
 go_wp2_with fail
 go_at_call 112
 refine (begin_any h0 (by omega)).mono ?_
 rintro e W1 A1
 cases h1 : beginR L a o with
 | bad p er =>
  rw [h1] at A1
  obtain ⟨rfl,b1⟩:=A1
  obtain rfl : Rs.bad p er=res:=by rw [← HR.out,exprF];simp [Rs.bind,mtT,h1]
  exact ⟨rfl,rfl,a0.trans ((KeptR.refl P.R (w.alloc zN)).trans b1)⟩
 | ok x1 a1 =>
  rw [h1] at A1
  obtain ⟨rfl,r1,b1⟩:=A1
  have y1:=r1.le
  have k1:=(KeptR.refl P.R (w.alloc zN)).trans b1
  have z1:=k1.size
  obtain ⟨rfl,e1,e2⟩:=beginR_ok h1
  go_wp2_with fail
  go_at_call 142
  refine (HC'.out _ _ _ _ r1 (by omega) (by unfold Ms at *;omega)).mono ?_
  rintro e W2 A2
  cases h2 : condF L f a (o+1) with
  | bad p er =>
   rw [h2] at A2
   obtain ⟨rfl,b2⟩:=A2
   obtain rfl : Rs.bad p er=res:=by rw [← HR.out,exprF];simp [Rs.bind,mtT,h1,h2]
   exact ⟨rfl,rfl,a0.trans (k1.trans b2)⟩
  | ok x2 a2 =>
   rw [h2] at A2
   obtain ⟨ad2,c2,rfl,l2',r2,b2⟩:=A2
   have g2:=(MN.cond' a (o+1)) _ _ h2
   have y2:=r2.le
   have k2:=k1.trans b2
   have z2:=k2.size
   have l2:=l2'.mono (T:=fun b=>w.heap.size+1 ≤ b) (fun b hb=>by have:=k1.size;omega)
   cases q4 : isS L a2 sAs with
   | true =>
    have T4:=stands_any (r2.bel (B0.alloc le0 (Obj.cells #[.int .i64 x2.k,.string x2.t,.int .i64 x2.n,.slice ad2 x2.ks.length c2] 24))) sAs
    rw [q4] at T4
    have u4:=isS_lt q4
    go_wp2_with fail
    go_at_call 51
    refine T4.mono ?_
    rintro e W4 ⟨rfl,b4'⟩
    have r4:=(r2.bel (B0.alloc le0 _)).bel b4'
    have b4:=KeptR.of (b:=P.R) b4'
    have k4:=(k2.alloc (Obj.cells #[.int .i64 x2.k,.string x2.t,.int .i64 x2.n,.slice ad2 x2.ks.length c2] 24)).trans b4
    have z4:=k4.size
    have y4:=r4.le
    have v3 : W4.heap[W2.heap.size]?=_:=(((KeptR.refl P.R _).trans b4).block (W2.heap.size) (by simp) (by have:=k2.size;omega)).trans (heap_alloc_new W2 _)
    obtain ⟨⟨_,_,_,_⟩,_,_,_,_⟩:=t4 v3
    have lS : LAt W4 (fun b=>w.heap.size+1 ≤ b∧b < W2.heap.size) (Value.slice ad2 x2.ks.length c2) x2.ks:=(l2.mono' (T:=fun b=>w.heap.size+1 ≤ b∧b < W2.heap.size) (fun b hb hS=>⟨hS,hb⟩)).keep (((KeptR.refl P.R W2).alloc _).trans b4).size (fun b hS hl=>(((KeptR.refl P.R W2).alloc _).trans b4).block b hl (by omega))
    have hv0:=(Array.getElem?_eq_some_iff.1 v3).1
    go_wp2_with fail
    go_at_call 143
    refine (HA'.out _ _ _ _ x2 _ _ _ r4 (by omega) (by unfold Ms at *;omega) (by omega) lS (fun b hb=>⟨by omega,by omega⟩)).mono ?_
    rintro e W5 A5
    cases h5 : assignF L f x2 a2 (o+1) with
    | bad p er =>
     rw [h5] at A5
     obtain ⟨rfl,b5⟩:=A5
     obtain rfl : Rs.bad p er=res:=by rw [← HR.out,exprF];simp [Rs.bind,mtT,h1,h2,q4,h5]
     exact ⟨rfl,rfl,a0.trans (k4.trans b5)⟩
    | ok x5 a5 =>
     rw [h5] at A5
     obtain ⟨ad5,c5,rfl,l5,r5,b5⟩:=A5
     have k5:=k4.trans b5
     have z5:=k5.size
     clear v3
     have v3 : W5.heap[W2.heap.size]?=_:=((((KeptR.refl P.R _).trans b4).trans b5).block (W2.heap.size) (by simp) (by have:=k2.size;omega)).trans (heap_alloc_new W2 _)
     obtain ⟨⟨_,_,_,_⟩,_,_,_,_⟩:=t4 v3
     have gS : w.heap.size+1 ≤ W2.heap.size:=by have:=k2.size;omega
     have lT : LAt ((((W5.setCell ⟨W2.heap.size,0,none⟩ (.int .i64 x5.k)).setCell ⟨W2.heap.size,1,none⟩ (.string x5.t)).setCell ⟨W2.heap.size,2,none⟩ (.int .i64 x5.n)).setCell ⟨W2.heap.size,3,none⟩ (.slice ad5 x5.ks.length c5)) (fun b=>w.heap.size+1 ≤ b) (Value.slice ad5 x5.ks.length c5) x5.ks:=(l5.mono (T:=fun b=>w.heap.size+1 ≤ b∧b ≠ W2.heap.size) (fun b hb=>by rcases hb with hb | hb <;> constructor <;> omega)).keep (by simp [World.setCell]) (fun b hb hl=>blk_set4 hb.2 _ _ _ _) |>.mono (fun b hb=>hb.1)
     have jS:=t4_set (.int .i64 x5.k) (.string x5.t) (.int .i64 x5.n) (.slice ad5 x5.ks.length c5) v3
     have kS:=(((k5.new (n:=W2.heap.size) (by omega) 0 (.int .i64 x5.k)).new (n:=W2.heap.size) (by omega) 1 (.string x5.t)).new (n:=W2.heap.size) (by omega) 2 (.int .i64 x5.n)).new (n:=W2.heap.size) (by omega) 3 (.slice ad5 x5.ks.length c5)
     have rS:=r5.set4 (n:=W2.heap.size) (by omega) (fun q=>by have:=h.x.lt q;omega) (.int .i64 x5.k) (.string x5.t) (.int .i64 x5.n) (.slice ad5 x5.ks.length c5)
     have zS:=kS.size
     go_wp2_with fail
     go_at_call 114
     refine (end_any rS (by omega)).mono ?_
     rintro e W6 ⟨rfl,r6,b6⟩
     have k6:=kS.trans b6
     have z6:=k6.size
     have vF:=(b6.block _ (by have:=(Array.getElem?_eq_some_iff.1 jS).1;exact this) (by omega)).trans jS
     obtain ⟨⟨_,_,_,_⟩,_,_,_,_⟩:=t4 vF
     obtain rfl : Rs.ok x5 a5=res:=by rw [← HR.out,exprF];simp [Rs.bind,mtT,h1,h2,q4,h5]
     have m0:=M0.out _ k6
     obtain ⟨⟨_,_,_,_⟩,_,_,_,_⟩:=t4 m0
     go_wp2
     refine bodyPost_ret (res_n4 Tryz.results126 (t4_set _ _ _ _ m0) rfl) rfl ?_
     exact close_ok (x:=x5) h (a0.trans k6) (lT.keepR ((KeptR.refl P.R _).trans b6) (by omega)) (by omega) r6
   | false =>
    have T4:=stands_any (r2.bel (B0.alloc le0 (Obj.cells #[.int .i64 x2.k,.string x2.t,.int .i64 x2.n,.slice ad2 x2.ks.length c2] 24))) sAs
    rw [q4] at T4
    go_wp2_with fail
    go_at_call 51
    refine T4.mono ?_
    rintro e W4 ⟨rfl,b4'⟩
    have r4:=(r2.bel (B0.alloc le0 _)).bel b4'
    have b4:=KeptR.of (b:=P.R) b4'
    have k4:=(k2.alloc (Obj.cells #[.int .i64 x2.k,.string x2.t,.int .i64 x2.n,.slice ad2 x2.ks.length c2] 24)).trans b4
    have z4:=k4.size
    have y4:=r4.le
    go_wp2_with fail
    go_at_call 114
    refine (end_any r4 (by omega)).mono ?_
    rintro e W7 ⟨rfl,r7,b7⟩
    have k7:=k4.trans b7
    have z7:=k7.size
    have v3 : W7.heap[W2.heap.size]?=_:=((((KeptR.refl P.R _).trans b4).trans b7).block (W2.heap.size) (by simp) (by have:=k2.size;omega)).trans (heap_alloc_new W2 _)
    obtain ⟨⟨_,_,_,_⟩,_,_,_,_⟩:=t4 v3
    obtain rfl : Rs.ok x2 a2=res:=by rw [← HR.out,exprF];simp [Rs.bind,mtT,h1,h2,q4]
    have m0:=M0.out _ k7
    obtain ⟨⟨_,_,_,_⟩,_,_,_,_⟩:=t4 m0
    go_wp2
    refine bodyPost_ret (res_n4 Tryz.results126 (t4_set _ _ _ _ m0) rfl) rfl ?_
    exact close_ok (x:=x2) h (a0.trans k7) (l2.keepR ((((KeptR.refl P.R W2).alloc _).trans b4).trans b7) (by omega)) (by omega) r7
end Go.Proofs.YthfkfbcopinmiaaGreatDoor
