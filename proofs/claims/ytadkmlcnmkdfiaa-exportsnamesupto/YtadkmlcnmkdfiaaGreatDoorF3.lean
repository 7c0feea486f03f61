/- Own text. Which texts may stand: package tree, with the words of package lex and the runes of package runes. -/
import Derived.Test.YtadkmlcnmkdfiaaGreatDoorFA
import Derived.Test.YtadkmlcnmkdfiaaGreatDoorFS
import Derived.Test.YtadkmlcnmkdfiaaGreatDoorRunes1
import Derived.Laws.Tables
namespace Go.Proofs.YtadkmlcnmkdfiaaGreatDoor
open Go.RowKit
set_option linter.unusedVariables false

/-- the words of the language. -/
def wordsF : List (List UInt8) := [[99, 108, 97, 115, 115], [99, 111, 110, 115, 116], [100, 101, 102, 97, 117, 108, 116], [101, 108, 115, 101], [101, 120, 112, 111, 114, 116], [102, 97, 108, 115, 101], [102, 117, 110, 99, 116, 105, 111, 110], [105, 102], [105, 109, 112, 111, 114, 116], [108, 101, 116], [110, 101, 119], [110, 117, 108, 108], [114, 101, 116, 117, 114, 110], [116, 104, 105, 115], [116, 104, 114, 111, 119], [116, 114, 117, 101], [116, 121, 112, 101, 111, 102], [117, 110, 100, 101, 102, 105, 110, 101, 100], [119, 104, 105, 108, 101]]
def textC (l : List (List UInt8)) : List Value := l.map fun b => .string ⟨b.toArray⟩
/-- the words, as package lex keeps them. -/
def WEnv (w : World) : Prop := ∃ t fr, w.heap[0]? = some (.cells (textC wordsF).toArray t fr)
/-- the words in a list. -/
def WAt (w : World) (v : Value) : Prop := ∃ bl t, v = .slice (some ⟨bl, 0, none⟩) 19 19 ∧ w.heap[bl]? = some (.cells (textC wordsF).toArray t (0, 0))
theorem WAt.bel {w w' : World} {v : Value} (h : WAt w v) (b : Below w.heap.size w w') : WAt w' v := by
  obtain ⟨bl, t, h1, h2⟩ := h
  exact ⟨bl, t, h1, (b.block bl (Array.getElem?_eq_some_iff.1 h2).1).trans h2⟩
theorem below_row {B : Nat} {a w : World} (h : Below B a w) {g : Nat} (hg : B ≤ g) (cs : Array Value) : Below B a (w.setRow g cs) := by
  refine h.trans ⟨rfl, rfl, rfl, by simp [World.setRow], fun k hk => ?_⟩
  simp only [World.setRow, Array.getElem?_modify]
  rw [if_neg (by omega)]
theorem ones_textC (l : List (List UInt8)) : (textC l).toArray.all (·.oneCell') = true := by
  rw [Array.all_eq_true_iff_forall_mem]
  intro v hv
  simp only [List.mem_toArray, textC, List.mem_map] at hv
  obtain ⟨b, _, rfl⟩ := hv
  rfl
set_option maxHeartbeats 2000000 in
set_option maxRecDepth 100000 in
theorem wordsF_any (w : World) (he : WEnv w) : Calls Tryz.prog 47 #[] w fun e w' => ∃ v, e = .returned v ∧ WAt w' v ∧ Below w.heap.size w w' := by
  obtain ⟨tw, fw, hw⟩ := he
  have hwz : (Tryz.prog.info? 133).map (·.size) = some (textC wordsF).toArray.size := by kernel_rfl
  have hone := ones_textC wordsF
  have hVs : (textC wordsF).toArray.size = 19 := rfl
  unfold WAt
  generalize (textC wordsF).toArray = V at *
  go_enter Tryz.func47, Tryz.ntmps47
  go_wp2_with (first
    | (refine wpList_load_row rfl 133 _ rfl 0 rfl tw _ fw _ hw Tryz.underlying133 rfl hwz ?_)
    | (refine wpList_store_row rfl 133 _ _ rfl w.heap.size V rfl rfl 133 _ (heap_alloc_new w _) hwz (by rw [hVs]; rfl) hone ?_))
  go_ret
  exact ⟨_, rfl, ⟨_, _, rfl, setRow_heap _ _ _ _ _ _ (heap_alloc_new w _)⟩, below_row ((Below.refl _ _).alloc (Nat.le_refl _) _) (Nat.le_refl _) _⟩

theorem bytes_toList (s : ByteArray) : s.toList = s.data.toList := ByteArray.toList_eq s
set_option maxHeartbeats 4000000 in
theorem index_any (w : World) (v : Value) (s : ByteArray) (h : WAt w v) : Calls Tryz.prog 185 #[v, .string s] w fun e w' => ∃ i : Int, e = .returned (.int .i64 i) ∧ (0 ≤ i ↔ s.data.toList ∈ wordsF) ∧ w' = w := by
  obtain ⟨bl, t, rfl, hb⟩ := h
  have hl : wordsF.length = 19 := rfl
  have hcell : ∀ k (hk : k < wordsF.length), w.cell? ⟨bl, k, none⟩ = some (.string ⟨wordsF[k].toArray⟩) := fun k hk => by
    rw [cell_of_row w bl _ _ _ _ hb]
    simp [textC, List.getElem?_eq_getElem hk]
  clear hb
  generalize wordsF = L at *
  go_enter Tryz.func185, Tryz.ntmps185
  go_wp2
  go_loopw [8] (fun i wr => ∃ k : Nat, i = .int .i64 (k : Nat) ∧ k ≤ 19 ∧ wr = w ∧ Hid (s.data.toList ∉ L.take k)) (fun i _ => 19 - (intOf i).toNat)
  case atStart => exact ⟨0, rfl, by omega, rfl, by simp [Hid]⟩
  case round =>
    obtain ⟨k, rfl, hk, rfl, HT⟩ := hrel
    by_cases hkl : k < 19
    · have hc := hcell k (by omega)
      have HS : Hid (L.take (k + 1) = L.take k ++ [L[k]]) := List.take_succ_eq_append_getElem (by omega)
      have HM : Hid (L[k] ∈ L) := List.getElem_mem _
      clear hcell
      generalize L[k] = b at *
      by_cases he : s.data.toList = b
      · have he2 : s.toList = b := by rw [bytes_toList]; exact he
        have HE : Hid (s.data.toList = b) := he
        clear he
        go_wp2
        go_ret
        exact ⟨_, rfl, ⟨fun _ => HE.out ▸ HM.out, fun _ => by omega⟩, rfl⟩
      · have HT' : Hid (s.data.toList ∉ L.take (k + 1)) := by
          show _ ∉ _
          rw [HS.out, List.mem_append]
          rintro (h | h)
          · exact HT.out h
          · exact he (by simpa using h)
        clear HT HS
        have he2 : (s.toList == b) = false := by rw [bytes_toList]; simpa using he
        go_wp2
        go_roundw
        case rel => exact ⟨k + 1, by simp, by omega, by first | rfl | trivial, HT'⟩
        case measure => simp [intOf]; omega
    · have e : L.take k = L := List.take_of_length_le (by omega)
      rw [e] at HT
      go_wp2
      go_ret
      exact ⟨_, rfl, ⟨fun h => by omega, fun h => absurd h HT.out⟩, rfl⟩
def isW (s : ByteArray) : Bool := decide (s.data.toList ∈ wordsF)
theorem contains_any (w : World) (v : Value) (s : ByteArray) (h : WAt w v) : Calls Tryz.prog 174 #[v, .string s] w fun e w' => e = .returned (.bool (isW s)) ∧ w' = w := by
  have hi := index_any w v s h
  unfold isW
  go_enter Tryz.func174, Tryz.ntmps174
  go_wp2_with (go_at_call 185; refine hi.mono ?_; rintro e w' ⟨i, rfl, hi2, rfl⟩)
  all_goals go_ret
  all_goals exact ⟨ret_bool (by rw [Bool.eq_iff_iff]; try simp [hi2]), rfl⟩

end Go.Proofs.YtadkmlcnmkdfiaaGreatDoor
