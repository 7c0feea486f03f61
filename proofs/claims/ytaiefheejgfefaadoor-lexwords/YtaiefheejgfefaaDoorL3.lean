/- Own text. The program's names, whole. -/
import Derived.Test.YtaiefheejgfefaaDoorL2

import Derived.Test.YtaiefheejgfefaaDoorXC
import Derived.Test.YtaiefheejgfefaaDoorSliceA
namespace Go.Proofs.YtaiefheejgfefaaDoor
open Go.RowKit
set_option linter.unusedVariables false

theorem box_cell (w : World) (v : Value) (t : TypeId) (o : Obj) : ((w.alloc (.cells #[v] t)).alloc o).cell? ⟨w.heap.size, 0, none⟩ = some v := by
  have hb : Below (w.alloc (.cells #[v] t)).heap.size (w.alloc (.cells #[v] t)) ((w.alloc (.cells #[v] t)).alloc o) := (Below.refl _ _).alloc (Nat.le_refl _) _
  rw [hb.cell (p := ⟨w.heap.size, 0, none⟩) (by simp), cell_of_row _ _ 0 _ _ _ (heap_alloc_new w _)]
  rfl
theorem name_res {W : World} {n : Nat} {a b c d : Value} {tmps : Array Value} (hb : W.heap[n]? = some (.cells #[a, b, c, d] 36)) (ht : tmps[4]?.getD undef = .pointer (some ⟨n, 0, none⟩)) :
    (results Tryd.f48 tmps).run Tryd.prog W = .ok (.tuple #[.agg #[a, b, c, d], tmps.getD 5 undef, tmps.getD 6 undef]) W := by
  obtain ⟨⟨c0, c1, c2, c3⟩, _⟩ := four_of hb
  simp [results, Tryd.results48, go_sem, ht, c0, c1, c2, c3]
theorem four_new2 {w W1 : World} {o1 o2 : Obj} (hb : Below ((w.alloc o1).alloc o2).heap.size ((w.alloc o1).alloc o2) W1) : W1.heap[w.heap.size + 1]? = some o2 := by
  have h := four_new hb
  simpa using h
theorem kindW (b : Bool) (x : Bs) : tokV ((if b then 2 else 1), x, 0) 0 = .agg #[.int .i64 (if b then 2 else 1), .string ⟨x.toArray⟩, .int .i64 0, .int .i64 0] := rfl

set_option maxHeartbeats 4000000 in
set_option maxRecDepth 100000 in
theorem name_own (b : Nat) (s : ByteArray) (sc : Bool) (w : World) (he : Env w) (hc : w.cell? ⟨b, 2, none⟩ = some (.bool sc)) (hs : s.size < 4294967281) (h0 : begL s.data.toList sc ≠ 0) :
    Calls Tryd.prog 48 #[.pointer (some ⟨b, 0, none⟩), .string s] w fun e w' =>
    e = .returned (.tuple #[tokV ((if wordB (s.data.toList.take (nameL s.data.toList sc)) then 2 else 1), s.data.toList.take (nameL s.data.toList sc), 0) 0, .int .i64 (nameL s.data.toList sc : Nat), .int .i64 0]) ∧ Below w.heap.size w w' := by
  have hmf : ∀ (fn : Fn) (first cap : Array Value) (w : World), (Instr.makeFunc fn first cap).run Tryd.prog w = .ok (.func fn first cap) w := fun _ _ _ _ => rfl
  have hltc := World.block_lt_of_cell? w _ hc
  have hbx := box_cell w (.pointer (some ⟨b, 0, none⟩)) 63
  have hcc := fun o1 o2 => (((Below.refl w.heap.size w).alloc (Nat.le_refl _) o1).alloc (o := o2) (by simp)).cell (p := ⟨b, 2, none⟩) hltc |>.trans hc
  have hle := tailL_le s.data.toList sc
  rw [← Lib.size_eq] at hle
  have hif := fun o2 => IndexFunc_own b w.heap.size s sc _ (hbx o2) (hcc _ o2)
  rw [nameL_tail _ _ h0]
  clear hbx hcc
  have hword := fun W (h : Env W) => isWord_any (s.extract 0 (tailL s.data.toList sc)) W h
  have hcl := cut_list s (tailL s.data.toList sc)
  have hxl : (s.extract 0 (tailL s.data.toList sc)).data.toList = s.data.toList.take (tailL s.data.toList sc) := by rw [hcl]
  have hxs : (s.extract 0 (tailL s.data.toList sc)).size ≤ 281474976710656 := by rw [Lib.size_eq, hxl, List.length_take]; omega
  have hcn := fun W => clone_any (s.extract 0 (tailL s.data.toList sc)) W hxs
  rw [hxl] at hword
  have HX : Hid (s.extract 0 (tailL s.data.toList sc) = ⟨(s.data.toList.take (tailL s.data.toList sc)).toArray⟩) := hcl
  clear hcl hxl hxs h0
  have hsl := Lib.size_eq s
  unfold ixL at hif
  rw [← hsl] at hif
  clear hsl
  generalize tailL s.data.toList sc = k at *
  have hk3 : (k : Int) ≤ (s.size : Int) := by omega
  have hk0 : ¬ (k : Int) < 0 := by omega
  have hx0 : (0 : Int) ≤ (k : Int) := by omega
  by_cases hk : k = s.size
  · rw [if_pos hk] at hif
    subst hk
    generalize hX : s.extract 0 s.size = X at *
    cases hwd : wordB (s.data.toList.take s.size)
    all_goals
      rw [hwd] at hword
      clear hwd
      go_enter Tryd.func48, Tryd.ntmps48
      go_wp2_with (first
        | (go_at_call 67; refine (hif _).mono ?_; rintro e W1 ⟨rfl, hb1⟩; have hbw : Below w.heap.size w W1 := (((Below.refl _ w).alloc (Nat.le_refl _) _).alloc (by simp) _).trans (hb1.mono (by simp; omega)))
        | (go_at_call 69; refine (hword _ (env_below he hbw)).mono ?_; rintro e W2 ⟨rfl, rfl⟩)
        | (go_at_call 70; refine (hcn _).mono ?_; rintro e W3 ⟨rfl, hb3⟩; obtain ⟨⟨c0, c1, c2, c3⟩, f0, f1, f2, f3⟩ := four_of (heap_at2 hb3 (four_new2 hb1))))
      refine bodyPost_ret (name_res (four_set (heap_at2 hb3 (four_new2 hb1))) rfl) rfl ⟨?_, ?_⟩
      · simp only [tokV, HX.out]; rfl
      · exact four_below (hbw.trans (hb3.mono hbw.size)) (by omega)
  · rw [if_neg hk] at hif
    generalize hX : s.extract 0 k = X at *
    cases hwd : wordB (s.data.toList.take k)
    all_goals
      rw [hwd] at hword
      clear hwd
      go_enter Tryd.func48, Tryd.ntmps48
      go_wp2_with (first
        | (go_at_call 67; refine (hif _).mono ?_; rintro e W1 ⟨rfl, hb1⟩; have hbw : Below w.heap.size w W1 := (((Below.refl _ w).alloc (Nat.le_refl _) _).alloc (by simp) _).trans (hb1.mono (by simp; omega)))
        | (go_at_call 69; refine (hword _ (env_below he hbw)).mono ?_; rintro e W2 ⟨rfl, rfl⟩)
        | (go_at_call 70; refine (hcn _).mono ?_; rintro e W3 ⟨rfl, hb3⟩; obtain ⟨⟨c0, c1, c2, c3⟩, f0, f1, f2, f3⟩ := four_of (heap_at2 hb3 (four_new2 hb1))))
      refine bodyPost_ret (name_res (four_set (heap_at2 hb3 (four_new2 hb1))) rfl) rfl ⟨?_, ?_⟩
      · simp only [tokV, HX.out]; rfl
      · exact four_below (hbw.trans (hb3.mono hbw.size)) (by omega)
end Go.Proofs.YtaiefheejgfefaaDoor
