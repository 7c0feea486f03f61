/- Own text. The package-level tables as they are laid (package lex and what it calls), and a world for the witness. -/
import Derived.Test.YthfkfbcopinmiaaGreatDoorCards
import Derived.Test.YthfkfbcopinmiaaGreatDoorTie
import Derived.Test.YthfkfbcopinmiaaGreatDoorGk34
import Derived.Test.YthfkfbcopinmiaaGreatDoorRows
import Derived.JoinedCond
import Derived.SizedLaws
import Derived.Deep.Slices
import Derived.ProofKit
import Derived.OpenShut
import Derived.Deep.DeepHandedRow
import Derived.Lib.LaidU8T
import Derived.Shelf.Vars
import Derived.Stop.LaidErr
import Derived.Carry
set_option linter.unusedVariables false
namespace Go.Proofs.YthfkfbcopinmiaaGreatDoor
open Go.ChangeShapes Go.WideShapes Go.ChangeAt Go.RowKit
theorem own : ownKnob Tryz.prog.godebug = none := by kernel_rfl
theorem laidOut : laidOutB Tryz.prog = true := by kernel_rfl
theorem below_trodAll {H : Type} {enc : TypeId × Value → H} {P : Program} (hl : laidOutB P = true) {W W' : World} (hb : Below W.heap.size W W') : ∀ (ts : List TypeId) {vs : List Value} {ds : List (DataW H)} {ps : List MemPlace},
    ts.all (fun t => P.readableRec t && decide (t < P.types.size)) = true → DataW.TrodAll enc P W 0 (fun _ => true) true ts vs ds ps → (∀ x ∈ ps, x.block < W.heap.size) →
    DataW.TrodAll enc P W' 0 (fun b => decide (b < W.heap.size)) true ts vs ds ps := by
  intro ts
  induction ts with
  | nil =>
    intro vs ds ps _ h _
    cases vs <;> cases ds <;> first | exact h | exact h.elim
  | cons t ts ih =>
    intro vs ds ps hr h hlt
    obtain ⟨v, vs', d, ds', p, q, rfl, rfl, rfl, h1, h2⟩ := trodAll_cons h
    simp only [List.all_cons, Bool.and_eq_true, decide_eq_true_eq] at hr
    exact ⟨p, q, Below.trod hl hr.1.1 hr.1.2 h1 hb (fun x hx => hlt x (by simp [hx])), ih (by simpa using hr.2) h2 (fun x hx => hlt x (by simp [hx])), rfl⟩

/-- The tables that the rows list, in their order. -/
abbrev laidTabs : List (String × DataW Unit) := [("unicode/utf8.acceptRanges", Rows.laid_unicode_utf8_acceptRanges), ("gusset/lex.words", Rows.laid_gusset_lex_words), ("gusset/lex.signs", Rows.laid_gusset_lex_signs), ("unicode/utf8.first", Rows.laid_unicode_utf8_first)]

theorem cells_of_texts {W : World} {fuel : Nat} {t e : TypeId} {n : Nat} {cs : List Value} {l : List Bs} {p : List MemPlace} (ht : Tryz.prog.underlying t = some (.array n e)) (he : Tryz.prog.underlying e = some .string) (hce : Tryz.prog.cellsOf e = 1) (hct : Tryz.prog.cellsOf t = n) (hn : l.length = n)
    (h : DataW.trod (fun _ => ()) Tryz.prog W 0 (fun _ => true) false fuel t cs = some (.agg (l.map fun b => .lit (.string b)), p)) (hcl : cs.length = n) : cs = textCells l := by
  apply List.ext_getElem?
  intro i
  by_cases hi : i < n
  · obtain ⟨fuel', d, q, hd, hf⟩ := Lib.array_elem ht h i hi
    rw [hce, Nat.mul_one] at hf
    obtain ⟨s, hc, hx, _⟩ := DataW.trod_string he hf
    have h1 : cs[i]? = some (.string s) := by
      have := congrArg (·[0]?) hc
      simpa [List.getElem?_take, List.getElem?_drop] using this
    simp only [Prod.mk.injEq] at hx
    rw [List.getElem?_map, hx.1] at hd
    obtain ⟨b, hb, e⟩ := Option.map_eq_some_iff.1 hd
    simp only [DataW.lit.injEq, Lit.string.injEq] at e
    rw [h1]
    simp only [textCells, List.getElem?_map, hb, Option.map_some, e]
  · rw [List.getElem?_eq_none (by omega), List.getElem?_eq_none (by simp [textCells]; omega)]
theorem trod_array_len {W : World} {fuel : Nat} {t e : TypeId} {n : Nat} {cs : List Value} {x : DataW Unit × List MemPlace} (ht : Tryz.prog.underlying t = some (.array n e)) (hct : Tryz.prog.cellsOf t = n)
    (h : DataW.trod (fun _ => ()) Tryz.prog W 0 (fun _ => true) false fuel t cs = some x) : cs.length = n := by
  cases fuel with
  | zero => simp [DataW.trod] at h
  | succ fuel =>
    simp only [DataW.trod, ht, hct] at h
    split at h
    · rename_i hl; simpa using hl
    · cases h
theorem texts_laid {W : World} {name : String} {g : Nat} {t e : TypeId} {n : Nat} (l : List Bs) (hg : Tryz.prog.globalNamed name = some g) (hty : (Tryz.prog.globals[g]?).map (·.type) = some t) (ht : Tryz.prog.underlying t = some (.array n e)) (he : Tryz.prog.underlying e = some .string) (hce : Tryz.prog.cellsOf e = 1) (hct : Tryz.prog.cellsOf t = n) (hn : l.length = n)
    (h : Lib.VarReads Tryz.prog W name (.agg (l.map fun b => .lit (.string b)))) : ∃ t fr, W.heap[g]? = some (.cells (textCells l).toArray t fr) := by
  obtain ⟨g', t', cs, fuel, p, hg', ht', hvar, hd⟩ := h
  obtain rfl := Option.some.inj (hg.symm.trans hg')
  obtain rfl := Option.some.inj (hty.symm.trans ht')
  have hc := cells_of_texts ht he hce hct hn hd (trod_array_len ht hct hd)
  unfold World.var? at hvar
  rw [hg] at hvar
  simp only [Option.bind_some] at hvar
  cases hb : W.heap[g]? with
  | none => rw [hb] at hvar; cases hvar
  | some o =>
    rw [hb] at hvar
    cases o with
    | cells cs' t2 fr =>
      cases hvar
      exact ⟨t2, fr, by rw [← hc]⟩
    | _ => cases hvar

def u8ren : Go.Shelf.Ren := ⟨fun n => n, fun | 5 => 5 | 119 => 138 | 138 => 140 | 139 => 141 | n => n, fun | 3 => 2 | 4 => 3 | n => n⟩
theorem first_is : Rows.laid_unicode_utf8_first = Lib.firstData := by kernel_rfl
theorem accept_is : (Rows.laid_unicode_utf8_acceptRanges : DataW Unit) = Lib.acceptData := by kernel_rfl
theorem words_is : (Rows.laid_gusset_lex_words : DataW Unit) = .agg (wordsL.map fun b => .lit (.string b)) := by kernel_rfl
theorem signs_is : (Rows.laid_gusset_lex_signs : DataW Unit) = .agg (signsL.map fun b => .lit (.string b)) := by kernel_rfl

theorem env_of {W : World} (h : laidMetH Tryz.prog laidTabs W) (hsh : W.ShapedOpen Tryz.prog) : Env W := by
  have hl : laidMet Tryz.prog laidTabs W := h
  have r2 : Lib.VarReads Tryz.prog W "unicode/utf8.first" Rows.laid_unicode_utf8_first := Lib.laidMet.reads hl (by simp)
  have r3 : Lib.VarReads Tryz.prog W "unicode/utf8.acceptRanges" Rows.laid_unicode_utf8_acceptRanges := Lib.laidMet.reads hl (by simp)
  have r4 : Lib.VarReads Tryz.prog W "gusset/lex.words" Rows.laid_gusset_lex_words := Lib.laidMet.reads hl (by simp)
  have r5 : Lib.VarReads Tryz.prog W "gusset/lex.signs" Rows.laid_gusset_lex_signs := Lib.laidMet.reads hl (by simp)
  rw [first_is] at r2
  rw [accept_is] at r3
  rw [words_is] at r4
  rw [signs_is] at r5
  refine ⟨?_, ?_, ?_, ?_⟩
  · exact utf8Tabs_of_readsT (ρ := u8ren) ⟨by kernel_rfl, by kernel_rfl, by kernel_rfl, by kernel_rfl⟩ ⟨by kernel_rfl, by kernel_rfl, by kernel_rfl, by kernel_rfl, by kernel_rfl, by kernel_rfl, by kernel_rfl⟩ r2 r3
  · exact texts_laid (g := 4) wordsL (by kernel_rfl) (by kernel_rfl) Tryz.underlying143 Tryz.underlying9 (by kernel_rfl) (by kernel_rfl) rfl r4
  · exact texts_laid (g := 0) signsL (by kernel_rfl) (by kernel_rfl) Tryz.underlying134 Tryz.underlying9 (by kernel_rfl) (by kernel_rfl) rfl r5
  · exact cell_of_shapedOpen_int (t := 3) (zero := #[.int .i64 0]) hsh (of_decide_eq_true (by kernel_rfl)) (by kernel_rfl) rfl (by kernel_rfl) (by kernel_rfl) Tryz.underlying3

def layCells (C : Array Value) : Obj → Obj
  | .cells _ t frozen => .cells C t frozen
  | o => o
/-- The tables' blocks, holding what their initialisers lay: for the witness. -/
def layTabs (h : Array Obj) : Array Obj :=
  (((h.modify 2 (layCells (Lib.firstTab.map (Value.int .u8)).toArray)).modify 3 (layCells ((List.range 16).flatMap fun i => [Value.int .u8 (Lib.accLo i), Value.int .u8 (Lib.accHi i)]).toArray)).modify 4 (layCells (textCells wordsL).toArray)).modify 0 (layCells (textCells signsL).toArray)
end Go.Proofs.YthfkfbcopinmiaaGreatDoor
