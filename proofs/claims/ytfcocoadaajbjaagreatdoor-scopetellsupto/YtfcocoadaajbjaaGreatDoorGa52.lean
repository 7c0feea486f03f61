/- Own text. The words as they are laid, and a world for the witness. -/
import Derived.Test.YtfcocoadaajbjaaGreatDoorCards
import Derived.Test.YtfcocoadaajbjaaGreatDoorTie
import Derived.Test.YtfcocoadaajbjaaGreatDoorGa46
import Derived.Test.YtfcocoadaajbjaaGreatDoorGa51
import Derived.ProofKit
import Derived.OpenShut
import Derived.Deep.DeepHandedRow
import Derived.Lib.LaidU8T
import Derived.Shelf.Vars
import Derived.Stop.LaidErr
import Derived.Carry
set_option linter.unusedVariables false
namespace Go.Proofs.YtfcocoadaajbjaaGreatDoor
open Go.ChangeShapes Go.WideShapes Go.ChangeAt Go.RowKit
theorem own : ownKnob Tryz.prog.godebug = none := by kernel_rfl
theorem laidOut : laidOutB Tryz.prog = true := by kernel_rfl
theorem below_trodAll {H : Type} {enc : TypeId × Value → H} {P : Program} (hl : laidOutB P = true) {W W' : World} (hb : Below W.heap.size W W') : ∀ (ts : List TypeId) {vs : List Value} {ds : List (DataW H)} {ps : List MemPlace},
    ts.all (fun t => P.readableRec t && decide (t < P.types.size)) = true → DataW.TrodAll enc P W 0 (fun _ => true) true ts vs ds ps → (∀ x ∈ ps, x.block < W.heap.size) →
    DataW.TrodAll enc P W' 0 (fun b => decide (b < W.heap.size)) true ts vs ds ps := by
  intro ts
  induction ts with
  | nil =>
    intro vs ds ps _ h _
    cases vs <;> cases ds <;> first | exact h | exact h.elim
  | cons t ts ih =>
    intro vs ds ps hr h hlt
    obtain ⟨v, vs', d, ds', p, q, rfl, rfl, rfl, h1, h2⟩ := trodAll_cons h
    simp only [List.all_cons, Bool.and_eq_true, decide_eq_true_eq] at hr
    exact ⟨p, q, Below.trod hl hr.1.1 hr.1.2 h1 hb (fun x hx => hlt x (by simp [hx])), ih (by simpa using hr.2) h2 (fun x hx => hlt x (by simp [hx])), rfl⟩

/-- The tables that the rows list. -/
abbrev laidTabs : List (String × DataW Unit) := [("gusset/lex.words", Rows.laid_gusset_lex_words)]

theorem cells_of_texts {W : World} {fuel : Nat} {t e : TypeId} {n : Nat} {cs : List Value} {l : List (List UInt8)} {p : List MemPlace} (ht : Tryz.prog.underlying t = some (.array n e)) (he : Tryz.prog.underlying e = some .string) (hce : Tryz.prog.cellsOf e = 1) (hct : Tryz.prog.cellsOf t = n) (hn : l.length = n)
    (h : DataW.trod (fun _ => ()) Tryz.prog W 0 (fun _ => true) false fuel t cs = some (.agg (l.map fun b => .lit (.string b)), p)) (hcl : cs.length = n) : cs = textC l := by
  apply List.ext_getElem?
  intro i
  by_cases hi : i < n
  · obtain ⟨fuel', d, q, hd, hf⟩ := Lib.array_elem ht h i hi
    rw [hce, Nat.mul_one] at hf
    obtain ⟨s, hc, hx, _⟩ := DataW.trod_string he hf
    have h1 : cs[i]? = some (.string s) := by
      have := congrArg (·[0]?) hc
      simpa [List.getElem?_take, List.getElem?_drop] using this
    simp only [Prod.mk.injEq] at hx
    rw [List.getElem?_map, hx.1] at hd
    obtain ⟨b, hb, e⟩ := Option.map_eq_some_iff.1 hd
    simp only [DataW.lit.injEq, Lit.string.injEq] at e
    rw [h1]
    simp only [textC, List.getElem?_map, hb, Option.map_some, e]
  · rw [List.getElem?_eq_none (by omega), List.getElem?_eq_none (by simp [textC]; omega)]
theorem trod_array_len {W : World} {fuel : Nat} {t e : TypeId} {n : Nat} {cs : List Value} {x : DataW Unit × List MemPlace} (ht : Tryz.prog.underlying t = some (.array n e)) (hct : Tryz.prog.cellsOf t = n)
    (h : DataW.trod (fun _ => ()) Tryz.prog W 0 (fun _ => true) false fuel t cs = some x) : cs.length = n := by
  cases fuel with
  | zero => simp [DataW.trod] at h
  | succ fuel =>
    simp only [DataW.trod, ht, hct] at h
    split at h
    · rename_i hl; simpa using hl
    · cases h
theorem texts_laid {W : World} {name : String} {g : Nat} {t e : TypeId} {n : Nat} (l : List (List UInt8)) (hg : Tryz.prog.globalNamed name = some g) (hty : (Tryz.prog.globals[g]?).map (·.type) = some t) (ht : Tryz.prog.underlying t = some (.array n e)) (he : Tryz.prog.underlying e = some .string) (hce : Tryz.prog.cellsOf e = 1) (hct : Tryz.prog.cellsOf t = n) (hn : l.length = n)
    (h : Lib.VarReads Tryz.prog W name (.agg (l.map fun b => .lit (.string b)))) : ∃ t fr, W.heap[g]? = some (.cells (textC l).toArray t fr) := by
  obtain ⟨g', t', cs, fuel, p, hg', ht', hvar, hd⟩ := h
  obtain rfl := Option.some.inj (hg.symm.trans hg')
  obtain rfl := Option.some.inj (hty.symm.trans ht')
  have hc := cells_of_texts ht he hce hct hn hd (trod_array_len ht hct hd)
  unfold World.var? at hvar
  rw [hg] at hvar
  simp only [Option.bind_some] at hvar
  cases hb : W.heap[g]? with
  | none => rw [hb] at hvar; cases hvar
  | some o =>
    rw [hb] at hvar
    cases o with
    | cells cs' t2 fr =>
      cases hvar
      exact ⟨t2, fr, by rw [← hc]⟩
    | _ => cases hvar
theorem words_is : (Rows.laid_gusset_lex_words : DataW Unit) = .agg (wordsF.map fun b => .lit (.string b)) := by kernel_rfl
theorem env_of {W : World} (h : laidMetH Tryz.prog laidTabs W) (hsh : W.ShapedOpen Tryz.prog) : WEnv W := by
  have hl : laidMet Tryz.prog laidTabs W := h
  have r4 : Lib.VarReads Tryz.prog W "gusset/lex.words" Rows.laid_gusset_lex_words := Lib.laidMet.reads hl (by simp)
  rw [words_is] at r4
  exact texts_laid (g := 0) wordsF (by kernel_rfl) (by kernel_rfl) Tryz.underlying92 Tryz.underlying9 (by kernel_rfl) (by kernel_rfl) rfl r4
def layCells (C : Array Value) : Obj → Obj
  | .cells _ t frozen => .cells C t frozen
  | o => o
/-- The table's block, holding what its initialiser lays: for the witness. -/
def layTabs (h : Array Obj) : Array Obj := h.modify 0 (layCells (textC wordsF).toArray)
end Go.Proofs.YtfcocoadaajbjaaGreatDoor
