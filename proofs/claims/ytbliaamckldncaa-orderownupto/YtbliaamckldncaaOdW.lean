/- Own text. OrderWalks and OrderParts, given what the program's functions answer. -/
import Derived.Test.YtbliaamckldncaaOd8
namespace Go.Proofs.Ytbliaamckldncaa
open Go.RowKit Gph
set_option linter.unusedVariables false
set_option linter.unusedSimpArgs false

theorem ordL_len {E : List (List Int)} (root : Int) : (ordL E root).length ≤ E.length := by
  unfold ordL
  split
  · rename_i h
    have hok := (graph_of h.1).2
    obtain ⟨T, e, D⟩ := dfs_did hok E.length root.toNat (List.replicate E.length false) [] (by rw [nE_len]; simp) (by rw [nE_len]; omega) (not_on_rep _ _) (by rw [off_rep]; omega)
    have := D.cnt
    rw [off_rep] at this
    rw [e]
    simp only [List.nil_append]
    omega
  · simp
theorem sameI_self (a : List Int) : sameI a a = true := by simp [sameI]
theorem sameE_self (a : List (List Int)) : sameE a a = true := by simp [sameE]
set_option maxRecDepth 100000 in
set_option maxHeartbeats 8000000 in
theorem walks_walk (H : Prg) (v : Value) (E : List (List Int)) (root : Int) (w : World) (hz : E.length ≤ 1048576 ∧ ∀ l ∈ E, l.length ≤ 1048576) (f0 : EAt w w.heap.size v E) :
    Calls Try.prog 4 #[v, .int .i64 root] w fun e w' => e = .returned (.bool true) ∧ Below w.heap.size w w' := by
  obtain ⟨hl, hk⟩ := hz
  have hlen := ordL_len (E := E) root
  obtain ⟨ad, c, rfl⟩ := f0.op
  go_enter Try.func4, Try.ntmps4
  go_wp2_with fail
  go_at_call 8
  refine (twin_any f0 (by omega) (fun l hl => by have := hk l hl; omega)).mono ?_
  rintro e W1 ⟨v1, rfl, E1, b1⟩
  have z1 := b1.size
  have e1 := f0.bel b1
  go_wp2_with fail
  go_at_call 16
  refine (H.od W1 v1 E root E1 hl hk).mono ?_
  rintro e W2 ⟨v2, rfl, T2, b2⟩
  have z2 := b2.size
  have B2 := b1.trans (b2.mono z1)
  have e2 := f0.bel B2
  have E2 := (E1.bel b2).mono z2
  go_wp2_with fail
  go_at_call 17
  refine (rorder_any e2 (by omega) (by omega) (fun l hl => by have := hk l hl; omega) root).mono ?_
  rintro e W3 ⟨v3, rfl, T3, b3⟩
  have z3 := b3.size
  have B3 := B2.trans (b3.mono (by omega))
  have e3 := f0.bel B3
  have E3 := (E2.bel b3).mono z3
  have t2 : IAt W3 W3.heap.size v2 (nI (ordL E root)) := ((vat_row T2).bel b3).mono z3
  have t3 : IAt W3 W3.heap.size v3 (nI (ordL E root)) := vat_row T3
  have C3 := rsame_any t2 t3 (Nat.le_refl _) (by rw [nI_len]; omega) (by rw [nI_len]; omega)
  rw [sameI_self] at C3
  have HC : Hid _ := C3
  clear C3 t2 t3 T2 T3 E1 E2 e1 e2
  go_wp2_with fail
  go_at_call 15
  refine (Calls.mono HC.out) ?_
  rintro e W4 ⟨rfl, b4⟩
  have z4 := b4.size
  have B4 := B3.trans (b4.mono (by omega))
  have C5 := rsameAll_any ((E3.bel b4).mono z4) ((f0.bel B4).mono (show w.heap.size ≤ W4.heap.size by omega)) (Nat.le_refl _) (by omega) (by omega) (fun l hl => by have := hk l hl; omega) (fun l hl => by have := hk l hl; omega)
  rw [sameE_self] at C5
  have HC5 : Hid _ := C5
  clear C5 HC E3 e3
  go_wp2_with fail
  go_at_call 11
  refine (Calls.mono HC5.out) ?_
  rintro e W5 ⟨rfl, b5⟩
  have z5 := b5.size
  have B5 := B4.trans (b5.mono (by omega))
  clear HC5
  go_wp2_with fail
  go_at_call 14
  refine (awake_any H W5).mono ?_
  rintro e W6 ⟨rfl, b6⟩
  go_wp2
  go_ret
  exact ⟨rfl, B5.trans (b6.mono (by omega))⟩
theorem partsF_len (m : Nat → Nat → Bool) (n : Nat) : (partsF m n).length ≤ n ∧ ∀ l ∈ partsF m n, l.length ≤ n := by
  unfold partsF
  constructor
  · rw [List.length_map]
    have := List.length_filter_le (hd m) (List.range n)
    simpa using this
  · intro l hl
    obtain ⟨i, _, rfl⟩ := List.mem_map.1 hl
    have := List.length_filter_le (fun k => decide (i ≤ k) && m i k) (List.range n)
    unfold part
    simpa using this
theorem PartsOf.len {E : List (List Int)} {P : List (List Nat)} (h : PartsOf E P) : P.length ≤ E.length ∧ ∀ l ∈ P, l.length ≤ E.length := by
  by_cases hc : chk E = true
  · obtain ⟨m, _, rfl⟩ := h.yes hc
    exact partsF_len m E.length
  · rw [h.no hc]; simp
theorem toI_mem {P : List (List Nat)} {N : Nat} (h : ∀ l ∈ P, l.length ≤ N) : ∀ l ∈ toI P, l.length ≤ N := fun l hl => by
  obtain ⟨l', hl', rfl⟩ := List.mem_map.1 hl
  rw [nI_len]
  exact h l' hl'
set_option maxRecDepth 100000 in
set_option maxHeartbeats 8000000 in
theorem parts_walk (H : Prg) (v : Value) (E : List (List Int)) (w : World) (hz : E.length ≤ 1048576 ∧ ∀ l ∈ E, l.length ≤ 1048576) (f0 : EAt w w.heap.size v E) :
    Calls Try.prog 3 #[v] w fun e w' => e = .returned (.bool true) ∧ Below w.heap.size w w' := by
  obtain ⟨hl, hk⟩ := hz
  obtain ⟨ad, c, rfl⟩ := f0.op
  obtain ⟨cn, hcn⟩ : ∃ x, chkN E = x := ⟨_, rfl⟩
  have CK := fun (W : World) (v : Value) (h : EAt W W.heap.size v E) => H.ck W v E h hl hk
  have CR := fun (W : World) (b : Below w.heap.size w W) => rcheck_any (f0.bel b) b.size (by omega) (fun l hl => by have := hk l hl; omega)
  rw [hcn] at CK CR
  have HCK : Hid _ := CK
  have HCR : Hid _ := CR
  clear CK CR hcn
  go_enter Try.func3, Try.ntmps3
  go_wp2_with fail
  go_at_call 8
  refine (twin_any f0 (by omega) (fun l hl => by have := hk l hl; omega)).mono ?_
  rintro e W1 ⟨v1, rfl, E1, b1⟩
  have z1 := b1.size
  go_wp2_with fail
  go_at_call 9
  refine (HCK.out W1 v1 E1).mono ?_
  rintro e W2 ⟨rfl, b2⟩
  have z2 := b2.size
  have B2 := b1.trans (b2.mono z1)
  have E2 := (E1.bel b2).mono z2
  go_wp2_with fail
  go_at_call 10
  refine (HCR.out W2 B2).mono ?_
  rintro e W3 ⟨rfl, b3⟩
  have z3 := b3.size
  have B3 := B2.trans (b3.mono (by omega))
  have E3 := (E2.bel b3).mono z3
  clear HCK HCR E1 E2
  go_wp2_with fail
  go_at_call 12
  refine (H.pt W3 v1 E E3 hl hk).mono ?_
  rintro e W4 ⟨v4, P, rfl, hP, hPo, b4⟩
  have z4 := b4.size
  have B4 := B3.trans (b4.mono (by omega))
  have E4 := (E3.bel b4).mono z4
  have p4 := hP.eat
  go_wp2_with fail
  go_at_call 13
  refine (rparts_any (f0.bel B4) (by omega) (by omega) (fun l hl => by have := hk l hl; omega)).mono ?_
  rintro e W5 ⟨v5, P', rfl, p5, hPo', b5⟩
  have z5 := b5.size
  have B5 := B4.trans (b5.mono (by omega))
  have E5 := (E4.bel b5).mono z5
  obtain rfl := hPo.unique hPo'
  have hPl := hPo.len
  have C5 := rsameAll_any ((p4.bel b5).mono z5) p5 (Nat.le_refl _) (by rw [toI_len]; omega) (by rw [toI_len]; omega) (toI_mem fun l hl => by have := hPl.2 l hl; omega) (toI_mem fun l hl => by have := hPl.2 l hl; omega)
  rw [sameE_self] at C5
  have HC5 : Hid _ := C5
  clear C5 p4 p5 hP E3 E4
  go_wp2_with fail
  go_at_call 11
  refine (Calls.mono HC5.out) ?_
  rintro e W6 ⟨rfl, b6⟩
  have z6 := b6.size
  have B6 := B5.trans (b6.mono (by omega))
  have C7 := rsameAll_any ((E5.bel b6).mono z6) ((f0.bel B6).mono (show w.heap.size ≤ W6.heap.size by omega)) (Nat.le_refl _) (by omega) (by omega) (fun l hl => by have := hk l hl; omega) (fun l hl => by have := hk l hl; omega)
  rw [sameE_self] at C7
  have HC7 : Hid _ := C7
  clear C7 HC5 E5
  go_wp2_with fail
  go_at_call 11
  refine (Calls.mono HC7.out) ?_
  rintro e W7 ⟨rfl, b7⟩
  have z7 := b7.size
  have B7 := B6.trans (b7.mono (by omega))
  clear HC7
  go_wp2_with fail
  go_at_call 14
  refine (awake_any H W7).mono ?_
  rintro e W8 ⟨rfl, b8⟩
  go_wp2
  go_ret
  exact ⟨rfl, B7.trans (b8.mono (by omega))⟩
end Go.Proofs.Ytbliaamckldncaa
