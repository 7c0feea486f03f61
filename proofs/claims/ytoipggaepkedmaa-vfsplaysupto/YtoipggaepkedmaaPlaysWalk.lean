/- Own text. A row of calls on both tables: what VfsPlays goes through. -/
import Derived.Test.YtoipggaepkedmaaVOps
import Derived.Deep.DrawnRows
namespace Go.Proofs.Ytoipggaepkedmaa
open Go.ChangeShapes Go.WideShapes Go.ChangeAt Go.RowKit
set_option linter.unusedVariables false

theorem step_any (W0 w : World) (tb mb rb : Nat) (v : Value) (L : Fls) (o : OpV) (h : Two w W0.heap.size tb mb rb v L) (hw : Below W0.heap.size W0 w) (hf : FAt W0 o.fv o.files) (hL : L.length ≤ 2097152) (hp : o.path.size ≤ 1048576) (hb : o.bytes.size ≤ 1048576) (hF : o.files.length ≤ 1048576) (hz : ∀ y ∈ o.files, y.1.size ≤ 1048576)
    (n1 : -9223372036854775808 ≤ o.n) (n2 : o.n ≤ 9223372036854775807) :
    Calls Try.prog 10 #[.pointer (some ⟨tb, 0, none⟩), .pointer (some ⟨rb, 0, none⟩), .agg #[.int .i64 o.kind, .int .i64 o.n, .string o.path, .string o.bytes, o.fv]] w (Left2 W0 tb rb L o.files) := by
  by_cases k0 : o.kind = 0
  · rw [k0]; exact step_write W0 w tb mb rb v L o.files o.n o.path o.bytes o.fv h hw (by omega) (by omega) (by omega)
  by_cases k1 : o.kind = 1
  · rw [k1]; exact step_remove W0 w tb mb rb v L o.files o.n o.path o.bytes o.fv h hw (by omega) (by omega)
  by_cases k3 : o.kind = 3
  · rw [k3]; exact step_load W0 w tb mb rb v L o.files o.n o.path o.bytes o.fv h hw hf (by omega) (fun x hx => by have := hz x hx; omega)
  by_cases k4 : o.kind = 4
  · rw [k4]; exact step_long W0 w tb mb rb v L o.files o.n o.path o.bytes o.fv h hw (by omega) (by omega) n1 n2
  exact step_read W0 w tb mb rb v L o.files o.kind o.n o.path o.bytes o.fv h hw (by omega) (by omega) k0 k1 k3 k4

theorem row_len {w : World} {base : Nat} {e : TypeId} {size : Nat} {v : Value} {n : Nat} {xs : List Value} (h : w.ownsRow base e size v n xs) : ∃ A c, v = .slice A n c := by
  rcases h.2 with ⟨rfl, rfl⟩ | ⟨g, cap, cur, rfl, _⟩
  · exact ⟨_, _, rfl⟩
  · exact ⟨_, _, rfl⟩

theorem cells5 {w W : World} {B bl i : Nat} {x : Value} (hB : Below B w W) (hb : bl < B) (c : w.cell? ⟨bl, i, none⟩ = some x) : W.cell? ⟨bl, i, none⟩ = some x := (hB.cell hb).trans c

theorem rtab_new2 (W : World) : RTab (W.alloc (.cells #[.slice none 0 0] 28)) W.heap.size (.slice none 0 0) [] :=
  ⟨heap_alloc_new W _, World.ownsRow_nil _ _ _ _⟩

end Go.Proofs.Ytoipggaepkedmaa

namespace Go.Proofs.Ytoipggaepkedmaa.vfsPlays
open Go.ChangeShapes Go.WideShapes Go.ChangeAt Go.RowKit
set_option linter.unusedVariables false

attribute [local go_sem ↓] Go.wp_at_zero Go.wp_at_succ

set_option maxHeartbeats 16000000 in
set_option maxRecDepth 100000 in
theorem walk (v0 : Value) (S : List OpV) (w : World) (f0 : OAt w v0 S) (z0 : OBk 1048576 S) :
    Calls Try.prog 3 #[v0] w fun e w' => e = .returned (.bool true) ∧ Below w.heap.size w w' := by
  obtain ⟨A0, c0, rfl, hf⟩ := f0
  obtain ⟨zl, ze⟩ := z0
  go_enter Try.func3, Try.ntmps3
  go_wp2_with (go_at_call 9; refine (new_ex _).mono ?_; rintro e W0 ⟨tb, mb0, rfl, hT0, hw0, m1, m2⟩)
  have hw1 := hw0.alloc hw0.size (.cells #[.slice none 0 0] 28)
  have l1 := hT0.ltT
  have l2 := hT0.ltM
  have l3 := hw0.size
  have h20 : Two (W0.alloc (.cells #[.slice none 0 0] 28)) w.heap.size tb mb0 W0.heap.size (.slice none 0 0) [] :=
    ⟨hT0.alloc _, rtab_new2 W0, by omega, by omega, (fun j hj => by cases hj), m1, m2, l3⟩
  clear hT0
  obtain ⟨rb, hrb⟩ : ∃ rb, rb = W0.heap.size := ⟨_, rfl⟩
  rw [← hrb] at h20 ⊢
  clear hrb l1 l2
  go_loopw [5] (fun i wr => ∃ (k mb : Nat) (v : Value) (L : Fls), i = .int .i64 (k : Nat) ∧ k ≤ S.length ∧ Two wr w.heap.size tb mb rb v L ∧ Below w.heap.size w wr ∧ L.length ≤ k + 1048576) (fun i _ => S.length - (intOf i).toNat)
  case atStart => exact ⟨0, mb0, _, [], rfl, by omega, h20, hw1, by simp⟩
  case round =>
    clear h20 hw1
    obtain ⟨k, mb, v, L, rfl, hk, h2, hbw, hLl⟩ := hrel
    by_cases hkl : k < S.length
    · obtain ⟨bl, of, hia, hbl, d0, d1, d2, d3, d4, hfa⟩ := hf k hkl
      obtain ⟨y1, y2, y3, y4, y5, y6⟩ := ze S[k] (List.getElem_mem hkl)
      have g0 := cells5 hbw hbl d0
      have g1 := cells5 hbw hbl d1
      have g2 := cells5 hbw hbl d2
      have g3 := cells5 hbw hbl d3
      have g4 := cells5 hbw hbl d4
      have hst := step_any w wr.drew tb mb rb v L S[k] h2.drew hbw.drew hfa (by omega) y1 y2 y3 y4 y5 y6
      generalize S[k] = o at *
      obtain ⟨ok, on, op, ob, ofv, ofs⟩ := o
      simp only at g0 g1 g2 g3 g4 hst y3
      clear d0 d1 d2 d3 d4 hfa y1 y2 y4 y5 y6 hf ze h2 hw0
      have hLb : ∀ M : Fls, M.length ≤ max (L.length + 1) ofs.length → M.length ≤ k + 1 + 1048576 := fun M hM => by omega
      have hLc : k + 1 ≤ 1048576 := by omega
      go_wp2_with fail
      go_region_with (first
        | (go_at_call 10; refine hst.mono ?_; rintro e W2 ⟨rfl, mb2, v2, L2, hh2, hw2, hl2⟩; obtain ⟨A2, c2, rfl⟩ := row_len hh2.r.row; have q2 := hh2.r.cell; have ess := sameB_self L2)
        | (go_at_call 11; refine (len_any _ tb mb2 L2 hh2.t).mono ?_; rintro e W3 ⟨rfl, rfl⟩)
        | (go_at_call 13; refine (files_any _ tb mb2 L2 hh2.t (by omega)).mono ?_; rintro e W4 ⟨v4, rfl, hrow4, b4⟩; have hh4 := hh2.below b4; have hw4 := hw2.trans (b4.mono hw2.size); have q4 := hh4.r.cell)
        | (go_at_call 12; refine (same_any _ _ _ L2 L2 (fat_of_row hrow4) (fat_of_row hh4.r.row) (by omega) (by omega)).mono ?_; rw [ess]; rintro e W5 ⟨rfl, n5, rfl⟩; have hh5 := hh4.drewN n5; have hw5 := below_drewN hw4 n5))
      all_goals
        have hLe := hLb L2 hl2
        clear hst g0 g1 g2 g3 g4 hia hLb hh2 hw2 hh4 hw4 q2 q4 hrow4 b4
        go_wp2
        go_roundw
        case rel => exact ⟨k + 1, mb2, _, L2, by simp, by omega, hh5, hw5, hLe⟩
        case measure => simp [intOf]; omega
    · go_wp2_with (go_at_call 14; refine (sure_any _).mono ?_; rintro e W7 ⟨rfl, b7⟩; have hb7 := hbw.trans (b7.mono hbw.size))
      go_ret
      exact ⟨rfl, hb7⟩

end Go.Proofs.Ytoipggaepkedmaa.vfsPlays
