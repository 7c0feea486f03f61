/- Own text. Package value: Truth, Same, Typeof, Text, handed. -/
import Derived.Test.YtlijplbaefaeaaaDoorPvB
import Derived.Lib.ItoaNum
namespace Go.Proofs.YtlijplbaefaeaaaDoor
open Go.RowKit Go.Maps
set_option linter.unusedVariables false
set_option linter.unusedSimpArgs false

/-- the package-level variable that is read. -/
def EvP (w : World) : Prop := Lib.TabIs Tryd.prog w "internal/strconv.uint64pow10" .u64 Lib.pow10Tab
theorem gPowS : Tryd.prog.globalNamed "internal/strconv.uint64pow10" = some 0 := by kernel_rfl
theorem EvP.bel {w w' : World} (hp : EvP w) (b : Below w.heap.size w w') : EvP w' := by
  unfold EvP Lib.TabIs World.var? at hp ⊢
  rw [gPowS] at hp ⊢
  simp only [Option.bind_some] at hp ⊢
  have hl : 0 < w.heap.size := by
    rcases Nat.lt_or_ge 0 w.heap.size with h' | h'
    · exact h'
    · rw [Array.getElem?_eq_none h'] at hp; cases hp
  rw [b.block _ hl]
  exact hp
theorem dec_dig : ∀ n : Nat, 0 < n → Lib.decDigits n = digL n := by
  intro n
  induction n using Nat.strongRecOn with
  | _ n ih =>
    intro h
    rw [digL_pos h, Lib.decDigits]
    by_cases q : n < 10
    · rw [dif_pos q, show n / 10 = 0 by omega, digL_zero, show n % 10 = n by omega]
      try rfl
    · rw [dif_neg q, ih (n / 10) (by omega) (by omega)]
      try rfl
theorem itoa_prt (n : Int) : Lib.itoa n = prtL n := by
  unfold Lib.itoa prtL
  by_cases h : n < 0
  · rw [if_pos h, if_neg (by omega), if_pos h, dec_dig _ (by omega)]
    rfl
  · rw [if_neg h]
    by_cases h0 : n = 0
    · subst h0
      rw [if_pos rfl]
      rw [show (0 : Int).toNat = 0 by rfl, Lib.decDigits, dif_pos (by omega)]
      rfl
    · rw [if_neg h0, if_neg h, dec_dig _ (by omega), show n.toNat = n.natAbs by omega]
      rfl
theorem grow_bel (w : World) (k : Nat) (os : Array Obj) : Below w.heap.size w («Sort».grow (w.drewN k) os) :=
  ⟨rfl, rfl, rfl, by show w.heap.size ≤ (w.heap ++ os).size; rw [Array.size_append]; omega, fun j hj => by show (w.heap ++ os)[j]? = w.heap[j]?; exact Array.getElem?_append_left hj⟩
set_option maxRecDepth 100000 in
set_option maxHeartbeats 4000000 in
theorem ptruth_any (x : Vl) (w : World) : Calls Tryd.prog 8 #[x.v] w fun e w' => e = .returned (.bool (truV x)) ∧ Below w.heap.size w w' := by
  obtain ⟨k, n, t⟩ := x
  have HR : Hid (truV ⟨k, n, t⟩ = (if k = 0 ∨ k = 1 then false else if k = 2 ∨ k = 3 then n != 0 else if k = 4 then !t.toList.isEmpty else true)) := rfl
  generalize truV ⟨k, n, t⟩ = r at *
  unfold Vl.v
  dsimp only
  go_enter Tryd.func8, Tryd.ntmps8
  go_wp2
  all_goals (go_ret; refine ⟨?_, belA _ _⟩; rw [HR.out]; simp_all)
set_option maxRecDepth 100000 in
set_option maxHeartbeats 4000000 in
theorem psame_any (x y : Vl) (w : World) : Calls Tryd.prog 14 #[x.v, y.v] w fun e w' => e = .returned (.bool (samV x y)) ∧ Below w.heap.size w w' := by
  obtain ⟨k, n, t⟩ := x
  obtain ⟨k', n', t'⟩ := y
  have HR : Hid (samV ⟨k, n, t⟩ ⟨k', n', t'⟩ = (if k ≠ k' then false else if k = 0 ∨ k = 1 then true else if k = 4 then t.toList == t'.toList else n == n')) := rfl
  generalize samV ⟨k, n, t⟩ ⟨k', n', t'⟩ = r at *
  unfold Vl.v
  dsimp only
  go_enter Tryd.func14, Tryd.ntmps14
  go_wp2
  all_goals (go_ret; refine ⟨?_, belAA _ _ _⟩; rw [HR.out]; simp_all)
set_option maxRecDepth 100000 in
set_option maxHeartbeats 4000000 in
theorem ptypeof_in (k : Int) (w : World) : Calls Tryd.prog 28 #[.int .i64 k] w fun e w' => e = .returned (.string (typT ⟨k, 0, ⟨#[]⟩⟩)) ∧ w' = w := by
  obtain ⟨r, hr⟩ : ∃ r, typT ⟨k, 0, ⟨#[]⟩⟩ = r := ⟨_, rfl⟩
  rw [hr]
  have HR : Hid (typT ⟨k, 0, ⟨#[]⟩⟩ = r) := hr
  clear hr
  go_enter Tryd.func28, Tryd.ntmps28
  go_wp2
  all_goals (go_ret; refine ⟨?_, rfl⟩; rw [← HR.out]; unfold typT; simp_all)
theorem typT_sz (x : Vl) : (typT x).size ≤ 100 := by
  unfold typT
  repeat' split
  all_goals decide
theorem kinT_sz (k : Int) : (kinT k).size ≤ 100 := by
  unfold kinT
  repeat' split
  all_goals decide
set_option maxRecDepth 100000 in
set_option maxHeartbeats 4000000 in
theorem ptypeof_any (x : Vl) (w : World) : Calls Tryd.prog 10 #[x.v] w fun e w' => e = .returned (.string (typT x)) ∧ Below w.heap.size w w' := by
  obtain ⟨k, n, t⟩ := x
  have hz := typT_sz ⟨k, n, t⟩
  have hc := fun W => ptypeof_in k W
  rw [show typT ⟨k, 0, ⟨#[]⟩⟩ = typT ⟨k, n, t⟩ from rfl] at hc
  generalize typT ⟨k, n, t⟩ = r at *
  unfold Vl.v
  dsimp only
  go_enter Tryd.func10, Tryd.ntmps10
  go_wp2_with (first
    | (go_at_call 28; refine (hc _).mono ?_; rintro e W1 ⟨rfl, rfl⟩)
    | (go_at_call 27; refine (clone_any r _ (by omega)).mono ?_; rintro e W2 ⟨rfl, b2⟩))
  go_ret
  exact ⟨rfl, (belA w _).trans (b2.mono (by simp))⟩
set_option maxRecDepth 100000 in
theorem fbool_any (b : Bool) (w : World) : Calls Tryd.prog 49 #[.bool b] w fun e w' => e = .returned (.string (if b then ⟨#[116, 114, 117, 101]⟩ else ⟨#[102, 97, 108, 115, 101]⟩)) ∧ w' = w := by
  have hi : ∀ W, Calls Tryd.prog 54 #[.bool b] W fun e w' => e = .returned (.string (if b then ⟨#[116, 114, 117, 101]⟩ else ⟨#[102, 97, 108, 115, 101]⟩)) ∧ w' = W := by
    intro W
    go_enter Tryd.func54, Tryd.ntmps54
    cases b <;> go_wp2
    all_goals (go_ret; exact ⟨rfl, rfl⟩)
  generalize (if b then (⟨#[116, 114, 117, 101]⟩ : ByteArray) else ⟨#[102, 97, 108, 115, 101]⟩) = r at *
  go_enter Tryd.func49, Tryd.ntmps49
  go_wp2_with (go_at_call 54; refine (hi _).mono ?_; rintro e W1 ⟨rfl, rfl⟩)
  go_ret
  exact ⟨rfl, rfl⟩
set_option maxRecDepth 100000 in
set_option maxHeartbeats 8000000 in
theorem ptext_in (x : Vl) (w : World) (hx : okV x) (he : EvP w) : Calls Tryd.prog 29 #[x.v] w fun e w' => e = .returned (.string (txtV x)) ∧ Below w.heap.size w w' := by
  obtain ⟨k, n, t⟩ := x
  obtain ⟨hn, _⟩ := hx
  dsimp only at hn
  obtain ⟨r, hr⟩ : ∃ r, txtV ⟨k, n, t⟩ = r := ⟨_, rfl⟩
  rw [hr]
  have HR : Hid (txtV ⟨k, n, t⟩ = r) := hr
  have C1 := fun W => ptruth_any ⟨k, n, t⟩ W
  have HT : Hid (k = 2 → truV ⟨k, n, t⟩ = (n != 0)) := fun e => by simp [truV, e]
  have HE : Hid (EvP w) := he
  clear hr he
  unfold Vl.v at C1 ⊢
  dsimp only at C1 ⊢
  generalize truV ⟨k, n, t⟩ = tr at *
  have b0 := belA w (.cells #[.int .i64 k, .int .i64 n, .string t] 23)
  have hi := Tryd.strconv_Itoa n hn.1 hn.2 (w.alloc (.cells #[.int .i64 k, .int .i64 n, .string t] 23)) (HE.out.bel b0)
  rw [itoa_prt] at hi
  clear hn
  go_enter Tryd.func29, Tryd.ntmps29
  go_wp2_with (first
    | (go_at_call 8; refine (C1 _).mono ?_; rintro e W1 ⟨rfl, b1⟩)
    | (go_at_call 49; refine (fbool_any tr _).mono ?_; rintro e W2 ⟨rfl, rfl⟩)
    | (go_at_call 50; refine hi.mono ?_; rintro e W1 ⟨rfl, d, os, rfl⟩))
  all_goals (go_ret; refine ⟨?_, ?_⟩)
  all_goals first
    | (exact belA _ _)
    | (exact (belA w _).trans (b1.mono (by simp)))
    | (exact (belA w _).trans ((grow_bel _ d os).mono (by simp)))
    | skip
  all_goals (rw [← HR.out]; unfold txtV kinT; simp_all [HT.out])
theorem txtV_sz (x : Vl) (hx : okV x) : (txtV x).size ≤ 281474976710656 := by
  unfold txtV
  split
  · split <;> decide
  · split
    · show (prtL x.n).toArray.size ≤ _
      obtain ⟨hn, _⟩ := hx
      have := digL_lt 20 x.n.natAbs (by omega)
      unfold prtL
      simp only [List.size_toArray]
      split
      · decide
      · split <;> simp <;> omega
    · split
      · have := hx.2
        omega
      · have := kinT_sz x.kd
        omega
set_option maxRecDepth 100000 in
set_option maxHeartbeats 4000000 in
theorem ptext_any (p : Option Addr) (x : Vl) (w : World) (hx : okV x) (he : EvP w) : Calls Tryd.prog 12 #[.pointer p, x.v] w fun e w' => e = .returned (.string (txtV x)) ∧ Below w.heap.size w w' := by
  have hz := txtV_sz x hx
  have hc := ptext_in x (w.alloc (.cells #[.int .i64 x.kd, .int .i64 x.n, .string x.tx] 23)) hx (he.bel (belA w _))
  generalize txtV x = r at *
  unfold Vl.v at hc ⊢
  clear he hx
  go_enter Tryd.func12, Tryd.ntmps12
  go_wp2_with (first
    | (go_at_call 29; refine hc.mono ?_; rintro e W1 ⟨rfl, b1⟩)
    | (go_at_call 27; refine (clone_any r _ hz).mono ?_; rintro e W2 ⟨rfl, b2⟩))
  go_ret
  exact ⟨rfl, (belA w _).trans ((b1.trans (b2.mono b1.size)).mono (by simp))⟩
set_option maxRecDepth 100000 in
set_option maxHeartbeats 4000000 in
theorem handed_any (x : Vl) (w : World) (hx : x.tx.size ≤ 140737488355328) : Calls Tryd.prog 45 #[x.v] w fun e w' => e = .returned x.v ∧ Below w.heap.size w w' := by
  obtain ⟨k, n, t⟩ := x
  unfold Vl.v
  dsimp only at hx ⊢
  obtain ⟨W0, hW0⟩ : ∃ X, (w.alloc (.cells #[.int .i64 k, .int .i64 n, .string t] 23)).alloc (.cells #[.int .i64 0, .int .i64 0, .string ⟨#[]⟩] 23) = X := ⟨_, rfl⟩
  have b0 : Below w.heap.size w W0 := by rw [← hW0]; exact belAA _ _ _
  have m0 : W0.heap[w.heap.size]? = some (.cells #[.int .i64 k, .int .i64 n, .string t] 23 (0, 0)) := by rw [← hW0]; exact hol _ (hnw _ rfl)
  have r0 : W0.heap[w.heap.size + 1]? = some (.cells #[.int .i64 0, .int .i64 0, .string ⟨#[]⟩] 23 (0, 0)) := by rw [← hW0]; exact hnw _ (by simp)
  obtain ⟨⟨c0, c1, c2⟩, z0, z1, z2⟩ := free3 m0
  have B0 : Hid (Below w.heap.size w W0) := b0
  have M0 : Hid (W0.heap[w.heap.size]? = some (.cells #[.int .i64 k, .int .i64 n, .string t] 23 (0, 0))) := m0
  have R0 : Hid (W0.heap[w.heap.size + 1]? = some (.cells #[.int .i64 0, .int .i64 0, .string ⟨#[]⟩] 23 (0, 0))) := r0
  clear b0 m0 r0
  go_enter Tryd.func45, Tryd.ntmps45
  go_wp2_with fail
  go_at_call 27
  refine (clone_any t _ (by omega)).mono ?_
  rintro e W1 ⟨rfl, b1⟩
  have B1 : Hid (Below w.heap.size w W1) := B0.out.trans (b1.mono B0.out.size)
  have m1 := (b1.block _ (glt M0.out)).trans M0.out
  have r1 := (b1.block _ (glt R0.out)).trans R0.out
  clear c0 c1 c2 z0 z1 z2 hW0 b1
  obtain ⟨⟨c0, c1, c2⟩, z0, z1, z2⟩ := free3 m1
  obtain ⟨⟨d0, d1, d2⟩, y0, y1, y2⟩ := free3 r1
  have M1 : Hid (W1.heap[w.heap.size]? = some (.cells #[.int .i64 k, .int .i64 n, .string t] 23 (0, 0))) := m1
  have R1 : Hid (W1.heap[w.heap.size + 1]? = some (.cells #[.int .i64 0, .int .i64 0, .string ⟨#[]⟩] 23 (0, 0))) := r1
  clear m1 r1
  go_wp2
  refine bodyPost_ret (res_vl Tryd.results45 (set3_same _ _ _ ((Below.heap_setCell _ _ _ _ (by simp)).trans R1.out)) rfl) rfl ⟨rfl, ?_⟩
  exact set3_bel _ _ _ ⟨B1.out.os, B1.out.tape, B1.out.output, by simpa [World.setCell] using B1.out.size, fun j hj => (Below.heap_setCell _ _ _ _ (by show j ≠ w.heap.size; omega)).trans (B1.out.block j hj)⟩ (by omega)
end Go.Proofs.YtlijplbaefaeaaaDoor
