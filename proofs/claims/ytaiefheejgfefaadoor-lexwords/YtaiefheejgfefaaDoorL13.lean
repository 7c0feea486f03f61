/- Own text. The program's Words. -/
import Derived.Test.YtaiefheejgfefaaDoorL9
import Derived.Laws.Tables
namespace Go.Proofs.YtaiefheejgfefaaDoor
open Go.RowKit
set_option linter.unusedVariables false

theorem below_setRow {B : Nat} {a w : World} (h : Below B a w) {g : Nat} (hg : B ≤ g) (cs : Array Value) : Below B a (w.setRow g cs) := by
  refine h.trans ⟨rfl, rfl, rfl, by simp [World.setRow], fun k hk => ?_⟩
  simp only [World.setRow, Array.getElem?_modify]
  rw [if_neg (by omega)]
theorem ones_text (l : List Bs) : (textCells l).toArray.all (·.oneCell') = true := by
  rw [Array.all_eq_true_iff_forall_mem]
  intro v hv
  simp only [List.mem_toArray, textCells, List.mem_map] at hv
  obtain ⟨b, _, rfl⟩ := hv
  rfl

set_option maxHeartbeats 2000000 in
set_option maxRecDepth 100000 in
theorem wordsP_any (w : World) (he : Env w) : Calls Tryd.prog 15 #[] w fun e w' => e = .returned (.slice (some ⟨w.heap.size, 0, none⟩) 19 19) ∧ w'.heap[w.heap.size]? = some (.cells (textCells wordsL).toArray 62) ∧ Below w.heap.size w w' := by
  obtain ⟨tw, fw, hw⟩ := he.wrd
  have hwz : (Tryd.prog.info? 62).map (·.size) = some (textCells wordsL).toArray.size := by kernel_rfl
  have hone := ones_text wordsL
  have hVs : (textCells wordsL).toArray.size = 19 := rfl
  generalize (textCells wordsL).toArray = V at *
  go_enter Tryd.func15, Tryd.ntmps15
  go_wp2_with (first
    | (refine wpList_load_row rfl 62 _ rfl 0 rfl tw _ fw _ hw Tryd.underlying62 rfl hwz ?_)
    | (refine wpList_store_row rfl 62 _ _ rfl w.heap.size V rfl rfl 62 _ (heap_alloc_new w _) hwz (by rw [hVs]; rfl) hone ?_))
  go_ret
  exact ⟨rfl, setRow_heap _ _ _ _ _ _ (heap_alloc_new w _), below_setRow ((Below.refl _ _).alloc (Nat.le_refl _) _) (Nat.le_refl _) _⟩
end Go.Proofs.YtaiefheejgfefaaDoor
