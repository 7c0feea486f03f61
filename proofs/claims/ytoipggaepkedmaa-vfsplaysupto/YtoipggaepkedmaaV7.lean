/- Own text. What must come whatever the input is: sure answers true. -/
import Derived.Test.YtoipggaepkedmaaV5
import Derived.Test.YtoipggaepkedmaaV6
namespace Go.Proofs.Ytoipggaepkedmaa
open Go.RowKit Go.Maps
set_option linter.unusedVariables false

theorem lessB_data (a b : ByteArray) : lessB a b = Op.bytesLess a.data.toList b.data.toList := by unfold lessB; rw [Lib.toList_data, Lib.toList_data]
theorem eqB_data (a b : ByteArray) : eqB a b = (a.data.toList == b.data.toList) := by unfold eqB; rw [Lib.toList_data, Lib.toList_data]

abbrev sA : ByteArray := ⟨#[47, 97]⟩
abbrev sB : ByteArray := ⟨#[47, 98]⟩
abbrev s1 : ByteArray := ⟨#[49]⟩
abbrev s2 : ByteArray := ⟨#[50]⟩
abbrev s3 : ByteArray := ⟨#[51]⟩

theorem ev1 : wrL ⟨#[47, 98]⟩ ⟨#[50]⟩ [] = [(⟨#[47, 98]⟩, ⟨#[50]⟩)] := by
  unfold wrL; rw [if_pos (by decide)]; rfl
theorem ev2 : wrL ⟨#[47, 97]⟩ ⟨#[49]⟩ [(⟨#[47, 98]⟩, ⟨#[50]⟩)] = [(⟨#[47, 97]⟩, ⟨#[49]⟩), (⟨#[47, 98]⟩, ⟨#[50]⟩)] := by
  unfold wrL; rw [if_pos (by decide)]; simp [ins, lessB_data, eqB_data, Op.bytesLess]
theorem ev3 : wrL ⟨#[47, 98]⟩ ⟨#[51]⟩ [(⟨#[47, 97]⟩, ⟨#[49]⟩), (⟨#[47, 98]⟩, ⟨#[50]⟩)] = [(⟨#[47, 97]⟩, ⟨#[49]⟩), (⟨#[47, 98]⟩, ⟨#[51]⟩)] := by
  unfold wrL; rw [if_pos (by decide)]; simp [ins, lessB_data, eqB_data, Op.bytesLess]
theorem ev4 : del ⟨#[47, 97]⟩ [(⟨#[47, 97]⟩, ⟨#[49]⟩), (⟨#[47, 98]⟩, ⟨#[51]⟩)] = [(⟨#[47, 98]⟩, ⟨#[51]⟩)] := by simp [del, eqB_data]
theorem ev5 : del ⟨#[47, 97]⟩ [(⟨#[47, 98]⟩, ⟨#[51]⟩)] = [(⟨#[47, 98]⟩, ⟨#[51]⟩)] := by simp [del, eqB_data]
theorem fit_no : fitB [(⟨#[98]⟩, ByteArray.empty), (⟨#[97]⟩, ByteArray.empty)] = false := by
  apply fitB_false (i := 1) (by simp)
  simp [fitAt, lessB_data, Op.bytesLess]
theorem ev6 (L : Fls) : ldL [(⟨#[98]⟩, ByteArray.empty), (⟨#[97]⟩, ByteArray.empty)] L = L := by unfold ldL; rw [fit_no]; rfl
theorem ev7 : ldE [(⟨#[98]⟩, ByteArray.empty), (⟨#[97]⟩, ByteArray.empty)] = 21 := by unfold ldE; rw [fit_no]; rfl
theorem hv1 : hasP ⟨#[47, 98]⟩ [(⟨#[47, 97]⟩, ⟨#[49]⟩), (⟨#[47, 98]⟩, ⟨#[51]⟩)] = true := by simp [hasP, eqB_data]
theorem hv2 : getP ⟨#[47, 98]⟩ [(⟨#[47, 97]⟩, ⟨#[49]⟩), (⟨#[47, 98]⟩, ⟨#[51]⟩)] = ⟨#[51]⟩ := by simp [getP, eqB_data]
theorem hv3 : hasP ⟨#[47, 97]⟩ [(⟨#[47, 97]⟩, ⟨#[49]⟩), (⟨#[47, 98]⟩, ⟨#[51]⟩)] = true := by simp [hasP, eqB_data]
theorem hv4 : hasP ⟨#[47, 97]⟩ [(⟨#[47, 98]⟩, ⟨#[51]⟩)] = false := by simp [hasP, eqB_data]
theorem wv1 : wrE ⟨#[50]⟩ = 0 := by unfold wrE; rw [if_pos (by decide)]
theorem wv2 : wrE ⟨#[49]⟩ = 0 := by unfold wrE; rw [if_pos (by decide)]
theorem wv3 : wrE ⟨#[51]⟩ = 0 := by unfold wrE; rw [if_pos (by decide)]
theorem sameB_self (F : Fls) : sameB F F = true := by unfold sameB; exact decide_eq_true rfl

/-- files that were just laid into a block of their own. -/
theorem fat_new (W : World) (F : Fls) (n : Nat) (hn : n = F.length) (cs : Array Value) (hcs : cs.toList = flat F) : FAt (W.alloc (.cells cs 44)) (.slice (some ⟨W.heap.size, 0, none⟩) n n) F := by
  subst hn
  refine .inr ⟨W.heap.size, 0, _, rfl, fun i hi => ?_, by simp⟩
  have hf := flat_get F i hi
  rw [← hcs] at hf
  rw [cell_of_row _ _ _ _ _ _ (heap_alloc_new W _), cell_of_row _ _ _ _ _ _ (heap_alloc_new W _), Nat.zero_add]
  simpa using hf

theorem Tab.drewN {w : World} {tb mb : Nat} {L : Fls} (h : Tab w tb mb L) (n : Nat) : Tab (w.drewN n) tb mb L := ⟨h.blk, h.own, h.ris, h.sz⟩
abbrev objTwo : Obj := .cells #[.string ⟨#[47, 97]⟩, .string ⟨#[49]⟩, .string ⟨#[47, 98]⟩, .string ⟨#[51]⟩] 44
theorem fat_two (W : World) : FAt (W.alloc (.cells #[.string ⟨#[47, 97]⟩, .string ⟨#[49]⟩, .string ⟨#[47, 98]⟩, .string ⟨#[51]⟩] 44)) (.slice (some ⟨W.heap.size, 0, none⟩) 2 2) [(⟨#[47, 97]⟩, ⟨#[49]⟩), (⟨#[47, 98]⟩, ⟨#[51]⟩)] :=
  fat_new W _ 2 rfl _ rfl
theorem fat_bad (W : World) : FAt (W.alloc (.cells #[.string ⟨#[98]⟩, .string ByteArray.empty, .string ⟨#[97]⟩, .string ByteArray.empty] 44)) (.slice (some ⟨W.heap.size, 0, none⟩) 2 2) [(⟨#[98]⟩, ByteArray.empty), (⟨#[97]⟩, ByteArray.empty)] :=
  fat_new W _ 2 rfl _ rfl
theorem bad_sizes : ∀ x ∈ ([(⟨#[98]⟩, ByteArray.empty), (⟨#[97]⟩, ByteArray.empty)] : Fls), x.1.size ≤ 281474976710656 := by
  intro x hx; simp at hx; rcases hx with rfl | rfl <;> decide

set_option maxHeartbeats 8000000 in
set_option maxRecDepth 100000 in
theorem sure_any (w : World) : Calls Try.prog 14 #[] w fun e w' => e = .returned (.bool true) ∧ Below w.heap.size w w' := by
  have g1 := hv1
  have g2 := hv2
  have g3 := hv3
  have g4 := hv4
  have g5 := wv1
  have g6 := wv2
  have g7 := wv3
  go_enter Try.func14, Try.ntmps14
  go_wp2_with (first
    | (go_at_call 9; refine (new_any _).mono ?_; rintro e W ⟨rfl, hT, hB⟩)
    | (go_at_call 15; refine (write_any _ _ _ _ _ _ hT (by simp) (by decide) (by decide)).mono ?_; rintro e W1 ⟨rfl, T1, k1⟩; replace hB := belOff hB k1 hB.size (fun i hi => by omega); replace hT := T1; clear T1 k1; simp only [ev1, ev2, ev3] at hT)
    | (go_at_call 21; refine (read_any _ _ _ _ _ hT (by decide)).mono ?_; rintro e W1 ⟨rfl, b1⟩; replace hB := hB.trans (b1.mono hB.size); replace hT := hT.below b1 hT.ltT hT.ltM; clear b1)
    | (go_at_call 19; refine (has_any _ _ _ _ _ hT (by decide)).mono ?_; rintro e W1 ⟨rfl, b1⟩; replace hB := hB.trans (b1.mono hB.size); replace hT := hT.below b1 hT.ltT hT.ltM; clear b1)
    | (go_at_call 11; (first | refine (len_any _ _ _ _ hC).mono ?_ | refine (len_any _ _ _ _ hT).mono ?_); rintro e W1 ⟨rfl, rfl⟩)
    | (go_at_call 13; refine (files_any _ _ _ _ hT (by simp)).mono ?_; rintro e W1 ⟨vf, rfl, hrow, b1⟩; replace hB := hB.trans (b1.mono hB.size); replace hT := hT.below b1 hT.ltT hT.ltM; clear b1)
    | (go_at_call 12; refine (same_any _ _ _ _ _ (fat_of_row (hrow.alloc _)) (fat_two _) (by simp) (by simp)).mono ?_; rw [sameB_self]; rintro e W1 ⟨rfl, n1, rfl⟩; replace hB := below_drewN (hB.alloc hB.size objTwo) n1; replace hT := (hT.alloc objTwo).drewN n1; clear hrow)
    | (go_at_call 20; refine (remove_any _ _ _ _ _ hT (by decide)).mono ?_; rintro e W1 ⟨rfl, T1, k1⟩; replace hB := belOff hB k1 hB.size (fun i hi => by omega); replace hT := T1; clear T1 k1; simp only [ev4, ev5] at hT)
    | (go_at_call 17; refine (load_any _ _ _ _ _ _ (hT.alloc _) (fat_bad _) (by simp) bad_sizes).mono ?_; rw [ev7, ev6]; rintro e W1 ⟨nb, rfl, T1, _, k1⟩; replace hB := belOff (hB.alloc hB.size _) k1 (by have := hB.size; simp; omega) (fun i hi => by omega); replace hT := T1; clear T1 k1)
    | (go_at_call 22; refine (copy_any _ _ _ _ hT (by simp)).mono ?_; rintro e W1 ⟨rfl, hC, b1⟩; replace hB := hB.trans (b1.mono hB.size); clear hT b1))
  go_ret
  exact ⟨rfl, hB⟩

end Go.Proofs.Ytoipggaepkedmaa
