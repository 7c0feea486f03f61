/- Own text. Package parse: the rules, one by one: all together. -/
import Derived.Test.YtmfgcaffdkakhaaGreatR3
import Derived.Test.YtmfgcaffdkakhaaGreatR4
import Derived.Test.YtmfgcaffdkakhaaGreatR6
import Derived.Test.YtmfgcaffdkakhaaGreatR7
import Derived.Test.YtmfgcaffdkakhaaGreatR8
import Derived.Test.YtmfgcaffdkakhaaGreatR9
import Derived.Test.YtmfgcaffdkakhaaGreatR11
import Derived.Test.YtmfgcaffdkakhaaGreatR13
import Derived.Test.YtmfgcaffdkakhaaGreatR14
import Derived.Test.YtmfgcaffdkakhaaGreatR15
import Derived.Test.YtmfgcaffdkakhaaGreatR16
import Derived.Test.YtmfgcaffdkakhaaGreatR17
import Derived.Test.YtmfgcaffdkakhaaGreatR19
namespace Go.Proofs.YtmfgcaffdkakhaaGreat
open Go.RowKit
set_option linter.unusedVariables false
set_option linter.unusedSimpArgs false

structure AllC (L : List Tok) (f : Nat) : Prop where
  hE : CN 12 L f 20 (exprF L f)
  hT : CN 13 L f 20 (typeF L f)
  hS : CN 14 L f 20 (stmtF L f)
  hTy : CN 95 L f 18 (typingF L f)
  hTo : CN 70 L f 19 (typeOrF L f)
  hB : CN 71 L f 19 (blkF L f)
  hAny : CN 36 L f 22 (anyF L f)
  hC : CN 29 L f 12 (condF L f)
  hU : CN 83 L f 10 (unaryF L f)
  hPo : CN 99 L f 9 (postF L f)
  hPr : CN 106 L f 8 (primF L f)
  hWp : CN 107 L f 7 (wprimF L f)
  hSp : CN 108 L f 7 (sprimF L f)
  hAr : CN 110 L f 6 (arrowF L f)
  hAb : CN 111 L f 21 (abodyF L f)
  hOp : CN 109 L f 5 (propF L f)
  hPt : CN 34 L f 12 (ptypeF L f)
  hRt : CN 65 L f 11 (rtypeF L f)
  hOt : CN 89 L f 9 (objtF L f)
  hFt : CN 91 L f 10 (ftypeF L f)
  hCi : CN 72 L f 21 (condiF L f)
  hEl : CN 73 L f 19 (elseF L f)
  hEo : CN 75 L f 21 (exprOrF L f)
  hA : CA L f
  hL : CL L f
  hBn : CBn L f
theorem allC (L : List Tok) (hs : Small L) : ∀ f, AllC L f := by
  intro f
  induction f with
  | zero =>
    refine { hE := ?_, hT := ?_, hS := ?_, hTy := ?_, hTo := ?_, hB := ?_, hAny := ?_, hC := ?_, hU := ?_, hPo := ?_, hPr := ?_, hWp := ?_, hSp := ?_, hAr := ?_, hAb := ?_, hOp := ?_, hPt := ?_, hRt := ?_, hOt := ?_, hFt := ?_, hCi := ?_, hEl := ?_, hEo := ?_, hA := ?_, hL := ?_, hBn := ?_ }
    all_goals first
      | (intro w P a o h ho hM; exfalso; unfold Ms at hM; omega)
      | (intro w P a o x ad0 c0 S h ho hM hla hx hS; exfalso; unfold Ms at hM; omega)
      | (intro w P a o n h ho hM; exfalso; unfold Ms at hM; omega)
      | (intro w P a o m h ho h1 h7 hM; exfalso; unfold Ms at hM; omega)
  | succ f ih =>
    have MN := mono_all L f
    exact {
      hE := expr_step L hs f MN ih.hC ih.hA
      hT := type_step L hs f MN ih.hPt
      hS := stmt_step L hs f MN ih.hAny
      hTy := typing_step L hs f MN ih.hT
      hTo := typeOr_step L hs f MN ih.hTy
      hB := block_step L hs f MN ih.hS
      hAny := any_step L hs f MN ih.hL ih.hTo ih.hB ih.hCi ih.hEl ih.hEo ih.hE
      hC := cond_step L hs f MN ih.hBn ih.hE
      hU := unary_step L hs f MN ih.hU ih.hPo
      hPo := post_step L hs f MN ih.hPr ih.hE
      hPr := prim_step L hs f MN ih.hWp ih.hSp
      hWp := wprim_step L hs f MN ih.hE ih.hTo ih.hB
      hSp := sprim_step L hs f MN ih.hE ih.hOp ih.hAr
      hAr := arrow_step L hs f MN ih.hTo ih.hAb
      hAb := abody_step L hs f MN ih.hB ih.hE
      hOp := prop_step L hs f MN ih.hE
      hPt := ptype_step L hs f MN ih.hRt
      hRt := rtype_step L hs f MN ih.hOt ih.hFt ih.hT
      hOt := objt_step L hs f MN ih.hTy
      hFt := ftype_step L hs f MN ih.hTy ih.hT
      hCi := condi_step L hs f MN ih.hE
      hEl := else_step L hs f MN ih.hS ih.hB
      hEo := exprOr_step L hs f MN ih.hE
      hA := assign_step L hs f MN ih.hE
      hL := let_step L hs f MN ih.hTo ih.hE
      hBn := bin_step L hs f MN ih.hU ih.hBn
    }
/-- fuel that is enough, whatever the place. -/
def fuelL (L : List Tok) : Nat := ((L.length + 1) * 402 + 400) * 32 + 32
theorem fuel_ok (L : List Tok) (a o rk : Nat) (h : rk ≤ 32) : Ms L a o rk ≤ fuelL L := by
  unfold Ms fuelL
  have : L.length - a ≤ L.length := Nat.sub_le _ _
  omega
end Go.Proofs.YtmfgcaffdkakhaaGreat
