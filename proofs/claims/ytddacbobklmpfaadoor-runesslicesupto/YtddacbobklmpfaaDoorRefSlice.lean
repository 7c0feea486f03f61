/- The contract of the document's Slice. -/
import Derived.Test.YtddacbobklmpfaaDoorSlice2
import Derived.Test.YtddacbobklmpfaaDoorRefRunes
namespace Go.Proofs.YtddacbobklmpfaaDoor
open Go.RowKit

/-- The k-th text of a row of texts. -/
theorem strs_cell {w : World} {B n : Nat} {xs : Rns} {g c : Nat} (h : w.ownsRow B 9 1 (.slice (some ⟨g, 0, none⟩) n c) n (strsV xs)) (k : Nat) (hk : k < xs.length) : w.cell? ⟨g, k, none⟩ = some (.string ⟨(xs[k]).2.toArray⟩) := by
  have := h.cells (g := g) rfl k (.string ⟨(xs[k]).2.toArray⟩) (by simp [strsV, List.getElem?_eq_getElem hk])
  have ha : (⟨g, 0, none⟩ : Addr).add k = ⟨g, k, none⟩ := by cases k <;> simp [Addr.add]
  rw [ha] at this
  exact this

theorem strs_form {w : World} {B : Nat} {v : Value} {xs : Rns} (hown : w.ownsRow B 9 1 v xs.length (strsV xs)) : ∃ (g : Option Addr) (c : Nat), (∀ k, k < xs.length → ∃ b : Nat, g = some ⟨b, 0, none⟩ ∧ ∀ j (h : j < xs.length), w.cell? ⟨b, j, none⟩ = some (.string ⟨(xs[j]).2.toArray⟩)) ∧ v = .slice g xs.length c := by
  rcases hown.2 with ⟨rfl, h0⟩ | ⟨b, cap, cur, rfl, _⟩
  · have hx : xs = [] := List.eq_nil_of_length_eq_zero h0
    subst hx
    exact ⟨none, 0, fun k hk => by simp at hk, rfl⟩
  · exact ⟨_, cap, fun k hk => ⟨b, rfl, fun j hj => strs_cell hown j hj⟩, rfl⟩

set_option maxHeartbeats 2000000 in
theorem refSlice_any (s : ByteArray) (f t : Int) (w : World) (hs : s.size ≤ 1099511627776) :
    Calls Tryd.prog 15 #[.string s, .int .i64 f, .int .i64 t] w fun e w' => e = .returned (.string ⟨(sliceZ s.data.toList f t).toArray⟩) ∧ Below w.heap.size w w' := by
  have hr := refRunes_any s w hs
  have hcl := scan_length s.data.toList
  have hbl := scan_bytes s.data.toList
  have hmem := bytesOf_mem_le (scan s.data.toList)
  rw [hbl, ← Lib.size_eq] at hmem
  have hpl : ∀ k, (part ((scan s.data.toList).take k) (max f 0).toNat t.toNat).length ≤ s.size := by
    intro k
    have h1 := part_le ((scan s.data.toList).take k) (max f 0).toNat t.toNat
    have h2 := bytesOf_take_le (scan s.data.toList) k
    rw [hbl, ← Lib.size_eq] at h2
    omega
  have hst := part_step (scan s.data.toList) (max f 0).toNat t.toNat
  rw [← Lib.size_eq] at hcl
  unfold sliceZ
  clear hbl
  generalize scan s.data.toList = xs at *
  have HST : Hid (∀ k (h : k < xs.length), part (xs.take (k + 1)) (max f 0).toNat t.toNat = part (xs.take k) (max f 0).toNat t.toNat ++ (if (max f 0).toNat ≤ k ∧ k < t.toNat then (xs[k]).2 else [])) := hst
  clear hst
  have HPL : Hid (∀ k, (part (xs.take k) (max f 0).toNat t.toNat).length ≤ s.size) := hpl
  have HME : Hid (∀ k (h : k < xs.length), (xs[k]).2.length ≤ s.size) := hmem
  clear hpl hmem
  go_enter Tryd.func15, Tryd.ntmps15
  go_wp2_with (go_at_call 9; refine hr.mono ?_)
  rintro e W1 ⟨v, rfl, hown, hb⟩
  clear hr
  obtain ⟨g, c, hcells, rfl⟩ := strs_form hown
  have HC : Hid (∀ k, k < xs.length → ∃ b : Nat, g = some ⟨b, 0, none⟩ ∧ ∀ j (h : j < xs.length), W1.cell? ⟨b, j, none⟩ = some (.string ⟨(xs[j]).2.toArray⟩)) := hcells
  clear hcells hown
  go_wp2
  go_loop [9, 10] (fun o i => ∃ (k : Nat) (out : ByteArray), k ≤ xs.length ∧ i = .int .i64 (k : Nat) ∧ o = .string out ∧ out.data.toList = part (xs.take k) (max f 0).toNat t.toNat) (fun _ i => xs.length - (intOf i).toNat)
  case atStart => exact ⟨0, _, by omega, rfl, rfl, by simp [part, bytesOf]⟩
  case round =>
    obtain ⟨k, out, hk, rfl, rfl, hout⟩ := hrel
    by_cases hlt : k < xs.length
    · obtain ⟨b, rfl, hc⟩ := HC.out k hlt
      have hck := hc k hlt
      have hp1 := HPL.out k
      have hp2 := HME.out k hlt
      rw [← hout, ← Lib.size_eq] at hp1
      have hs1 := HST.out k hlt
      rw [← hout] at hs1
      have HS1 : Hid (part (xs.take (k + 1)) (max f 0).toNat t.toNat = out.data.toList ++ (if (max f 0).toNat ≤ k ∧ k < t.toNat then (xs[k]).2 else [])) := hs1
      obtain ⟨pc, hpc⟩ : ∃ pc : ByteArray, pc = ⟨(xs[k]).2.toArray⟩ := ⟨_, rfl⟩
      have hpl : pc.data.toList = (xs[k]).2 := by rw [hpc]
      rw [← hpc] at hck
      rw [← hpl, ← Lib.size_eq] at hp2
      rw [← hpl] at HS1
      clear hs1 hout hc hpc hpl
      by_cases hin : f ≤ (k : Int) ∧ (k : Int) < t
      · obtain ⟨h1, h2⟩ := hin
        have HS2 : Hid (part (xs.take (k + 1)) (max f 0).toNat t.toNat = out.data.toList ++ pc.data.toList) := by rw [HS1.out, if_pos (by omega)]; trivial
        go_wp2
        go_round
        case rel => exact ⟨k + 1, _, hlt, by go_num, rfl, by rw [HS2.out]; simp⟩
        case measure => simp [intOf]; omega
      · have HS2 : Hid (part (xs.take (k + 1)) (max f 0).toNat t.toNat = out.data.toList) := by rw [HS1.out, if_neg (by omega), List.append_nil]; trivial
        have hor : (k : Int) < f ∨ (f ≤ (k : Int) ∧ t ≤ (k : Int)) := by omega
        clear hin
        rcases hor with h1 | ⟨h1, h2⟩
        all_goals
          go_wp2
          go_round
          case rel => exact ⟨k + 1, out, hlt, by go_num, rfl, by rw [HS2.out]⟩
          case measure => simp [intOf]; omega
    · have hall : xs.take k = xs := List.take_of_length_le (by omega)
      rw [hall] at hout
      have HO : Hid (out = ⟨(part xs (max f 0).toNat t.toNat).toArray⟩) := ba_of_list hout
      clear hout hall
      go_wp2
      go_ret
      exact ⟨ret_str HO.out, hb⟩
end Go.Proofs.YtddacbobklmpfaaDoor
