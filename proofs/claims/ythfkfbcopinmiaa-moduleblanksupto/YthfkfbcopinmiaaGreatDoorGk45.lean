/- Own text. Package module: which method reads what begins here. -/
import Derived.Test.YthfkfbcopinmiaaGreatDoorGk11
set_option linter.unusedVariables false
set_option linter.unusedSimpArgs false
set_option maxRecDepth 100000
set_option maxHeartbeats 2000000
namespace Go.Proofs.YthfkfbcopinmiaaGreatDoor
open Go.RowKit
def mdK (L : List Tok) (a : Nat) : FuncId:=if isWd L a wClass=true then 19 else if isWd L a wImport=true then 20 else if isWd L a wExport=true then 21 else if opensM L a nType sAs=true then 23 else 24
def dcK (L : List Tok) (a : Nat) : Option FuncId:=if isWd L a wLet=true then some 24 else if isWd L a wConst=true then some 24 else if isWd L a wFunc=true then some 24 else if isWd L a wClass=true then some 19 else if isNm L a nType=true then some 23 else none
theorem ofModule_any {w : World} {P : Pl} {L : List Tok} {a : Nat} (h : Rd w P L a mE) :
 Calls Tryz.prog 11 #[.pointer (some ⟨P.R,0,none⟩)] w fun e w'=>e = .returned (bound P (mdK L a))∧Below w.heap.size w w':=by
 obtain ⟨res,hres⟩ : ∃ r,mdK L a=r:=⟨_,rfl⟩
 have HR : Hid (mdK L a=res):=hres
 rw [hres]
 clear hres
 go_enter Tryz.func11,Tryz.ntmps11
 have T0:=standsWord_any (h.bel (Below.refl w.heap.size w)) wClass
 cases q0 : isWd L a wClass with
 | true =>
  rw [q0] at T0
  go_wp2_with fail
  go_at_call 18
  refine T0.mono ?_
  rintro e W0 ⟨rfl,b0⟩
  have c0:=(Below.refl w.heap.size w).trans (b0.mono (Below.refl w.heap.size w).size)
  obtain rfl : 19=res:=by rw [← HR.out,mdK];simp [q0]
  go_wp2
  go_ret
  exact ⟨rfl,c0⟩
 | false =>
  rw [q0] at T0
  go_wp2_with fail
  go_at_call 18
  refine T0.mono ?_
  rintro e W0 ⟨rfl,b0⟩
  have c0:=(Below.refl w.heap.size w).trans (b0.mono (Below.refl w.heap.size w).size)
  have T1:=standsWord_any (h.bel c0) wImport
  cases q1 : isWd L a wImport with
  | true =>
   rw [q1] at T1
   go_wp2_with fail
   go_at_call 18
   refine T1.mono ?_
   rintro e W1 ⟨rfl,b1⟩
   have c1:=c0.trans (b1.mono c0.size)
   obtain rfl : 20=res:=by rw [← HR.out,mdK];simp [q0,q1]
   go_wp2
   go_ret
   exact ⟨rfl,c1⟩
  | false =>
   rw [q1] at T1
   go_wp2_with fail
   go_at_call 18
   refine T1.mono ?_
   rintro e W1 ⟨rfl,b1⟩
   have c1:=c0.trans (b1.mono c0.size)
   have T2:=standsWord_any (h.bel c1) wExport
   cases q2 : isWd L a wExport with
   | true =>
    rw [q2] at T2
    go_wp2_with fail
    go_at_call 18
    refine T2.mono ?_
    rintro e W2 ⟨rfl,b2⟩
    have c2:=c1.trans (b2.mono c1.size)
    obtain rfl : 21=res:=by rw [← HR.out,mdK];simp [q0,q1,q2]
    go_wp2
    go_ret
    exact ⟨rfl,c2⟩
   | false =>
    rw [q2] at T2
    go_wp2_with fail
    go_at_call 18
    refine T2.mono ?_
    rintro e W2 ⟨rfl,b2⟩
    have c2:=c1.trans (b2.mono c1.size)
    have T3:=opens_any (h.bel c2) nType sAs
    cases q3 : opensM L a nType sAs with
    | true =>
     rw [q3] at T3
     go_wp2_with fail
     go_at_call 22
     refine T3.mono ?_
     rintro e W3 ⟨rfl,b3⟩
     have c3:=c2.trans (b3.mono c2.size)
     obtain rfl : 23=res:=by rw [← HR.out,mdK];simp [q0,q1,q2,q3]
     go_wp2
     go_ret
     exact ⟨rfl,c3⟩
    | false =>
     rw [q3] at T3
     go_wp2_with fail
     go_at_call 22
     refine T3.mono ?_
     rintro e W3 ⟨rfl,b3⟩
     have c3:=c2.trans (b3.mono c2.size)
     obtain rfl : 24=res:=by rw [← HR.out,mdK];simp [q0,q1,q2,q3]
     go_wp2
     go_ret
     exact ⟨rfl,c3⟩
theorem declared_any {w : World} {P : Pl} {L : List Tok} {a : Nat} (h : Rd w P L a mE) :
 Calls Tryz.prog 57 #[.pointer (some ⟨P.R,0,none⟩)] w fun e w'=>match dcK L a with
 | some k=>e = .returned (bound P k)∧Below w.heap.size w w'
 | none=>Gave a 60 e∧KeptR P.R w w':=by
 obtain ⟨res,hres⟩ : ∃ r,dcK L a=r:=⟨_,rfl⟩
 have HR : Hid (dcK L a=res):=hres
 rw [hres]
 clear hres
 go_enter Tryz.func57,Tryz.ntmps57
 have T0:=standsWord_any (h.bel (Below.refl w.heap.size w)) wLet
 cases q0 : isWd L a wLet with
 | true =>
  rw [q0] at T0
  go_wp2_with fail
  go_at_call 18
  refine T0.mono ?_
  rintro e W0 ⟨rfl,b0⟩
  have c0:=(Below.refl w.heap.size w).trans (b0.mono (Below.refl w.heap.size w).size)
  obtain rfl : some 24=res:=by rw [← HR.out,dcK];simp [q0]
  go_wp2
  go_ret
  exact ⟨rfl,c0⟩
 | false =>
  rw [q0] at T0
  go_wp2_with fail
  go_at_call 18
  refine T0.mono ?_
  rintro e W0 ⟨rfl,b0⟩
  have c0:=(Below.refl w.heap.size w).trans (b0.mono (Below.refl w.heap.size w).size)
  have T1:=standsWord_any (h.bel c0) wConst
  cases q1 : isWd L a wConst with
  | true =>
   rw [q1] at T1
   go_wp2_with fail
   go_at_call 18
   refine T1.mono ?_
   rintro e W1 ⟨rfl,b1⟩
   have c1:=c0.trans (b1.mono c0.size)
   obtain rfl : some 24=res:=by rw [← HR.out,dcK];simp [q0,q1]
   go_wp2
   go_ret
   exact ⟨rfl,c1⟩
  | false =>
   rw [q1] at T1
   go_wp2_with fail
   go_at_call 18
   refine T1.mono ?_
   rintro e W1 ⟨rfl,b1⟩
   have c1:=c0.trans (b1.mono c0.size)
   have T2:=standsWord_any (h.bel c1) wFunc
   cases q2 : isWd L a wFunc with
   | true =>
    rw [q2] at T2
    go_wp2_with fail
    go_at_call 18
    refine T2.mono ?_
    rintro e W2 ⟨rfl,b2⟩
    have c2:=c1.trans (b2.mono c1.size)
    obtain rfl : some 24=res:=by rw [← HR.out,dcK];simp [q0,q1,q2]
    go_wp2
    go_ret
    exact ⟨rfl,c2⟩
   | false =>
    rw [q2] at T2
    go_wp2_with fail
    go_at_call 18
    refine T2.mono ?_
    rintro e W2 ⟨rfl,b2⟩
    have c2:=c1.trans (b2.mono c1.size)
    have T3:=standsWord_any (h.bel c2) wClass
    cases q3 : isWd L a wClass with
    | true =>
     rw [q3] at T3
     go_wp2_with fail
     go_at_call 18
     refine T3.mono ?_
     rintro e W3 ⟨rfl,b3⟩
     have c3:=c2.trans (b3.mono c2.size)
     obtain rfl : some 19=res:=by rw [← HR.out,dcK];simp [q0,q1,q2,q3]
     go_wp2
     go_ret
     exact ⟨rfl,c3⟩
    | false =>
     rw [q3] at T3
     go_wp2_with fail
     go_at_call 18
     refine T3.mono ?_
     rintro e W3 ⟨rfl,b3⟩
     have c3:=c2.trans (b3.mono c2.size)
     have K4:=token_any (h.bel c3)
     have T4 : ∀ W,Calls Tryz.prog 54 #[(tokA L a).v,.string nType] W fun e w'=>e = .returned (.bool (isNm L a nType))∧Below W.heap.size W w':=fun W=>isName_any (tokA L a) nType W
     go_wp2_with fail
     go_at_call 36
     refine K4.mono ?_
     rintro e X4 ⟨rfl,y4⟩
     have d4:=c3.trans (y4.mono c3.size)
     cases q4 : isNm L a nType with
     | true =>
      rw [q4] at T4
      go_wp2_with fail
      go_at_call 54
      refine (T4 _).mono ?_
      rintro e W4 ⟨rfl,b4⟩
      have c4:=d4.trans (b4.mono d4.size)
      obtain rfl : some 23=res:=by rw [← HR.out,dcK];simp [q0,q1,q2,q3,q4]
      go_wp2
      go_ret
      exact ⟨rfl,c4⟩
     | false =>
      rw [q4] at T4
      go_wp2_with fail
      go_at_call 54
      refine (T4 _).mono ?_
      rintro e W4 ⟨rfl,b4⟩
      have c4:=d4.trans (b4.mono d4.size)
      obtain rfl : none=res:=by rw [← HR.out,dcK];simp [q0,q1,q2,q3,q4]
      go_wp2_with fail
      go_at_call 72
      refine (wrong_any (h.bel c4)).mono ?_
      rintro e WZ ⟨rfl,bZ⟩
      go_wp2
      exact ⟨rfl,rfl,(KeptR.of c4).trans (.of bZ)⟩
end Go.Proofs.YthfkfbcopinmiaaGreatDoor
