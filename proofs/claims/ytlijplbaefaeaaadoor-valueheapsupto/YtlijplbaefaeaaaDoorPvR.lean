/- Own text. Package value's heap: the nil heap; New. -/
import Derived.Test.YtlijplbaefaeaaaDoorPvQ
namespace Go.Proofs.YtlijplbaefaeaaaDoor
open Go.RowKit Go.Maps
set_option linter.unusedVariables false
set_option linter.unusedSimpArgs false

set_option maxRecDepth 100000 in
set_option maxHeartbeats 4000000 in
theorem hlist_nil (x : Vl) (W : World) : Calls Tryd.prog 43 #[.pointer none, x.v] W fun e W' => e = .returned (.tuple #[.pointer none, .bool false]) ∧ Below W.heap.size W W' := by
  obtain ⟨W0, hW0⟩ : ∃ X, W.alloc (.cells #[.int .i64 x.kd, .int .i64 x.n, .string x.tx] 23) = X := ⟨_, rfl⟩
  have b0 : Below W.heap.size W W0 := by rw [← hW0]; exact belA _ _
  have m0 : W0.heap[W.heap.size]? = some (.cells #[.int .i64 x.kd, .int .i64 x.n, .string x.tx] 23 (0, 0)) := by rw [← hW0]; exact hnw _ rfl
  obtain ⟨⟨c0, c1, c2⟩, _⟩ := free3 m0
  have HC := hat_nil x W0
  have B0 : Hid (Below W.heap.size W W0) := b0
  clear b0 m0
  by_cases hk : x.kd = 5
  · have e0 : (x.kd != 5) = false := by simp [hk]
    unfold Vl.v at HC ⊢
    clear hk
    go_enter Tryd.func43, Tryd.ntmps43
    go_wp2_with fail
    go_at_call 53
    refine HC.mono ?_
    rintro e W1 ⟨rfl, b1⟩
    have B1 : Hid (Below W.heap.size W W1) := B0.out.trans (b1.mono B0.out.size)
    clear HC hW0 b1 c0 c1 c2
    have eq1 := as_ln W1
    go_wp2
    refine bodyPost_ret (res_two Tryd.results43 rfl rfl) rfl ?_
    exact ⟨rfl, B1.out⟩
  · have e0 : (x.kd != 5) = true := by simp [hk]
    clear hk HC
    unfold Vl.v
    go_enter Tryd.func43, Tryd.ntmps43
    go_wp2
    refine bodyPost_ret (res_two Tryd.results43 rfl rfl) rfl ?_
    exact ⟨rfl, B0.out⟩
set_option maxRecDepth 100000 in
set_option maxHeartbeats 4000000 in
theorem hobject_nil (x : Vl) (W : World) : Calls Tryd.prog 44 #[.pointer none, x.v] W fun e W' => e = .returned (.tuple #[.map none, .bool false]) ∧ Below W.heap.size W W' := by
  obtain ⟨W0, hW0⟩ : ∃ X, W.alloc (.cells #[.int .i64 x.kd, .int .i64 x.n, .string x.tx] 23) = X := ⟨_, rfl⟩
  have b0 : Below W.heap.size W W0 := by rw [← hW0]; exact belA _ _
  have m0 : W0.heap[W.heap.size]? = some (.cells #[.int .i64 x.kd, .int .i64 x.n, .string x.tx] 23 (0, 0)) := by rw [← hW0]; exact hnw _ rfl
  obtain ⟨⟨c0, c1, c2⟩, _⟩ := free3 m0
  have HC := hat_nil x W0
  have B0 : Hid (Below W.heap.size W W0) := b0
  clear b0 m0
  by_cases hk : x.kd = 6
  · have e0 : (x.kd != 6) = false := by simp [hk]
    unfold Vl.v at HC ⊢
    clear hk
    go_enter Tryd.func44, Tryd.ntmps44
    go_wp2_with fail
    go_at_call 53
    refine HC.mono ?_
    rintro e W1 ⟨rfl, b1⟩
    have B1 : Hid (Below W.heap.size W W1) := B0.out.trans (b1.mono B0.out.size)
    clear HC hW0 b1 c0 c1 c2
    have eq1 := as_on W1
    go_wp2
    refine bodyPost_ret (res_two Tryd.results44 rfl rfl) rfl ?_
    exact ⟨rfl, B1.out⟩
  · have e0 : (x.kd != 6) = true := by simp [hk]
    clear hk HC
    unfold Vl.v
    go_enter Tryd.func44, Tryd.ntmps44
    go_wp2
    refine bodyPost_ret (res_two Tryd.results44 rfl rfl) rfl ?_
    exact ⟨rfl, B0.out⟩
set_option maxRecDepth 100000 in
set_option maxHeartbeats 4000000 in
theorem hlen_nil (x : Vl) (W : World) : Calls Tryd.prog 25 #[.pointer none, x.v] W fun e W' => e = .returned (.int .i64 0) ∧ Below W.heap.size W W' := by
  obtain ⟨W0, hW0⟩ : ∃ X, W.alloc (.cells #[.int .i64 x.kd, .int .i64 x.n, .string x.tx] 23) = X := ⟨_, rfl⟩
  have b0 : Below W.heap.size W W0 := by rw [← hW0]; exact belA _ _
  have m0 : W0.heap[W.heap.size]? = some (.cells #[.int .i64 x.kd, .int .i64 x.n, .string x.tx] 23 (0, 0)) := by rw [← hW0]; exact hnw _ rfl
  obtain ⟨⟨c0, c1, c2⟩, _⟩ := free3 m0
  have HC := hlist_nil x W0
  have B0 : Hid (Below W.heap.size W W0) := b0
  clear b0 m0
  unfold Vl.v at HC ⊢
  go_enter Tryd.func25, Tryd.ntmps25
  go_wp2_with fail
  go_at_call 43
  refine HC.mono ?_
  rintro e W1 ⟨rfl, b1⟩
  have B1 : Hid (Below W.heap.size W W1) := B0.out.trans (b1.mono B0.out.size)
  clear HC hW0 b1 c0 c1 c2
  go_wp2
  go_ret
  exact ⟨rfl, B1.out⟩
set_option maxRecDepth 100000 in
set_option maxHeartbeats 4000000 in
theorem hget_nil (x : Vl) (s : ByteArray) (W : World) : Calls Tryd.prog 24 #[.pointer none, x.v, .string s] W fun e W' => e = .returned (optV none) ∧ Below W.heap.size W W' := by
  obtain ⟨W0, hW0⟩ : ∃ X, (W.alloc (.cells #[.int .i64 x.kd, .int .i64 x.n, .string x.tx] 23)).alloc (.cells #[.int .i64 0, .int .i64 0, .string ⟨#[]⟩] 23) = X := ⟨_, rfl⟩
  have b0 : Below W.heap.size W W0 := by rw [← hW0]; exact belAA _ _ _
  have m0 : W0.heap[W.heap.size]? = some (.cells #[.int .i64 x.kd, .int .i64 x.n, .string x.tx] 23 (0, 0)) := by rw [← hW0]; exact hol _ (hnw _ rfl)
  have r0 : W0.heap[W.heap.size + 1]? = some (.cells #[.int .i64 0, .int .i64 0, .string ⟨#[]⟩] 23 (0, 0)) := by rw [← hW0]; exact hnw _ (by simp)
  obtain ⟨⟨c0, c1, c2⟩, _⟩ := free3 m0
  have HC := hobject_nil x W0
  have B0 : Hid (Below W.heap.size W W0) := b0
  have R0 : Hid (W0.heap[W.heap.size + 1]? = some (.cells #[.int .i64 0, .int .i64 0, .string ⟨#[]⟩] 23 (0, 0))) := r0
  clear b0 m0 r0
  unfold Vl.v at HC ⊢
  go_enter Tryd.func24, Tryd.ntmps24
  go_wp2_with fail
  go_at_call 44
  refine HC.mono ?_
  rintro e W1 ⟨rfl, b1⟩
  have B1 : Hid (Below W.heap.size W W1) := B0.out.trans (b1.mono B0.out.size)
  have r1 := (b1.block _ (glt R0.out)).trans R0.out
  have R1 : Hid (W1.heap[W.heap.size + 1]? = some (.cells #[.int .i64 0, .int .i64 0, .string ⟨#[]⟩] 23 (0, 0))) := r1
  obtain ⟨⟨d0, d1, d2⟩, y0, y1, y2⟩ := free3 r1
  clear HC hW0 b1 c0 c1 c2 r1
  go_wp2
  refine bodyPost_ret (res_vb Tryd.results24 (fin_val R1.out B1.out _ _ _).1 rfl rfl) rfl ⟨rfl, (fin_val R1.out B1.out _ _ _).2⟩
set_option maxRecDepth 100000 in
set_option maxHeartbeats 4000000 in
theorem hAt_nil (x : Vl) (i : Int) (W : World) : Calls Tryd.prog 23 #[.pointer none, x.v, .int .i64 i] W fun e W' => e = .returned (optV none) ∧ Below W.heap.size W W' := by
  obtain ⟨W0, hW0⟩ : ∃ X, (W.alloc (.cells #[.int .i64 x.kd, .int .i64 x.n, .string x.tx] 23)).alloc (.cells #[.int .i64 0, .int .i64 0, .string ⟨#[]⟩] 23) = X := ⟨_, rfl⟩
  have b0 : Below W.heap.size W W0 := by rw [← hW0]; exact belAA _ _ _
  have m0 : W0.heap[W.heap.size]? = some (.cells #[.int .i64 x.kd, .int .i64 x.n, .string x.tx] 23 (0, 0)) := by rw [← hW0]; exact hol _ (hnw _ rfl)
  have r0 : W0.heap[W.heap.size + 1]? = some (.cells #[.int .i64 0, .int .i64 0, .string ⟨#[]⟩] 23 (0, 0)) := by rw [← hW0]; exact hnw _ (by simp)
  obtain ⟨⟨c0, c1, c2⟩, _⟩ := free3 m0
  have HC := hlist_nil x W0
  have B0 : Hid (Below W.heap.size W W0) := b0
  have R0 : Hid (W0.heap[W.heap.size + 1]? = some (.cells #[.int .i64 0, .int .i64 0, .string ⟨#[]⟩] 23 (0, 0))) := r0
  clear b0 m0 r0
  unfold Vl.v at HC ⊢
  go_enter Tryd.func23, Tryd.ntmps23
  go_wp2_with fail
  go_at_call 43
  refine HC.mono ?_
  rintro e W1 ⟨rfl, b1⟩
  have B1 : Hid (Below W.heap.size W W1) := B0.out.trans (b1.mono B0.out.size)
  have r1 := (b1.block _ (glt R0.out)).trans R0.out
  have R1 : Hid (W1.heap[W.heap.size + 1]? = some (.cells #[.int .i64 0, .int .i64 0, .string ⟨#[]⟩] 23 (0, 0))) := r1
  obtain ⟨⟨d0, d1, d2⟩, y0, y1, y2⟩ := free3 r1
  clear HC hW0 b1 c0 c1 c2 r1
  go_wp2
  refine bodyPost_ret (res_vb Tryd.results23 (fin_val R1.out B1.out _ _ _).1 rfl rfl) rfl ⟨rfl, (fin_val R1.out B1.out _ _ _).2⟩
set_option maxRecDepth 100000 in
set_option maxHeartbeats 4000000 in
theorem hset_nil (x : Vl) (s : ByteArray) (y : Vl) (W : World) : Calls Tryd.prog 22 #[.pointer none, x.v, .string s, y.v] W fun e W' => e = .returned (.bool false) ∧ Below W.heap.size W W' := by
  obtain ⟨W0, hW0⟩ : ∃ X, (W.alloc (.cells #[.int .i64 x.kd, .int .i64 x.n, .string x.tx] 23)).alloc (.cells #[.int .i64 y.kd, .int .i64 y.n, .string y.tx] 23) = X := ⟨_, rfl⟩
  have b0 : Below W.heap.size W W0 := by rw [← hW0]; exact belAA _ _ _
  have m0 : W0.heap[W.heap.size]? = some (.cells #[.int .i64 x.kd, .int .i64 x.n, .string x.tx] 23 (0, 0)) := by rw [← hW0]; exact hol _ (hnw _ rfl)
  have r0 : W0.heap[W.heap.size + 1]? = some (.cells #[.int .i64 y.kd, .int .i64 y.n, .string y.tx] 23 (0, 0)) := by rw [← hW0]; exact hnw _ (by simp)
  obtain ⟨⟨c0, c1, c2⟩, _⟩ := free3 m0
  have HC := hobject_nil x W0
  have B0 : Hid (Below W.heap.size W W0) := b0
  have R0 : Hid (W0.heap[W.heap.size + 1]? = some (.cells #[.int .i64 y.kd, .int .i64 y.n, .string y.tx] 23 (0, 0))) := r0
  clear b0 m0 r0
  unfold Vl.v at HC ⊢
  go_enter Tryd.func22, Tryd.ntmps22
  go_wp2_with fail
  go_at_call 44
  refine HC.mono ?_
  rintro e W1 ⟨rfl, b1⟩
  have B1 : Hid (Below W.heap.size W W1) := B0.out.trans (b1.mono B0.out.size)
  have r1 := (b1.block _ (glt R0.out)).trans R0.out
  have R1 : Hid (W1.heap[W.heap.size + 1]? = some (.cells #[.int .i64 y.kd, .int .i64 y.n, .string y.tx] 23 (0, 0))) := r1
  obtain ⟨⟨d0, d1, d2⟩, y0, y1, y2⟩ := free3 r1
  clear HC hW0 b1 c0 c1 c2 r1
  go_wp2
  go_ret
  exact ⟨rfl, B1.out⟩
set_option maxRecDepth 100000 in
set_option maxHeartbeats 4000000 in
theorem hput_nil (x : Vl) (i : Int) (y : Vl) (W : World) : Calls Tryd.prog 26 #[.pointer none, x.v, .int .i64 i, y.v] W fun e W' => e = .returned (.bool false) ∧ Below W.heap.size W W' := by
  obtain ⟨W0, hW0⟩ : ∃ X, (W.alloc (.cells #[.int .i64 x.kd, .int .i64 x.n, .string x.tx] 23)).alloc (.cells #[.int .i64 y.kd, .int .i64 y.n, .string y.tx] 23) = X := ⟨_, rfl⟩
  have b0 : Below W.heap.size W W0 := by rw [← hW0]; exact belAA _ _ _
  have m0 : W0.heap[W.heap.size]? = some (.cells #[.int .i64 x.kd, .int .i64 x.n, .string x.tx] 23 (0, 0)) := by rw [← hW0]; exact hol _ (hnw _ rfl)
  have r0 : W0.heap[W.heap.size + 1]? = some (.cells #[.int .i64 y.kd, .int .i64 y.n, .string y.tx] 23 (0, 0)) := by rw [← hW0]; exact hnw _ (by simp)
  obtain ⟨⟨c0, c1, c2⟩, _⟩ := free3 m0
  have HC := hlist_nil x W0
  have B0 : Hid (Below W.heap.size W W0) := b0
  have R0 : Hid (W0.heap[W.heap.size + 1]? = some (.cells #[.int .i64 y.kd, .int .i64 y.n, .string y.tx] 23 (0, 0))) := r0
  clear b0 m0 r0
  unfold Vl.v at HC ⊢
  go_enter Tryd.func26, Tryd.ntmps26
  go_wp2_with fail
  go_at_call 43
  refine HC.mono ?_
  rintro e W1 ⟨rfl, b1⟩
  have B1 : Hid (Below W.heap.size W W1) := B0.out.trans (b1.mono B0.out.size)
  have r1 := (b1.block _ (glt R0.out)).trans R0.out
  have R1 : Hid (W1.heap[W.heap.size + 1]? = some (.cells #[.int .i64 y.kd, .int .i64 y.n, .string y.tx] 23 (0, 0))) := r1
  obtain ⟨⟨d0, d1, d2⟩, y0, y1, y2⟩ := free3 r1
  clear HC hW0 b1 c0 c1 c2 r1
  go_wp2
  go_ret
  exact ⟨rfl, B1.out⟩
set_option maxRecDepth 100000 in
set_option maxHeartbeats 4000000 in
theorem hpush_nil (x y : Vl) (W : World) : Calls Tryd.prog 21 #[.pointer none, x.v, y.v] W fun e W' => e = .returned (.bool false) ∧ Below W.heap.size W W' := by
  obtain ⟨W0, hW0⟩ : ∃ X, (W.alloc (.cells #[.int .i64 x.kd, .int .i64 x.n, .string x.tx] 23)).alloc (.cells #[.int .i64 y.kd, .int .i64 y.n, .string y.tx] 23) = X := ⟨_, rfl⟩
  have b0 : Below W.heap.size W W0 := by rw [← hW0]; exact belAA _ _ _
  have m0 : W0.heap[W.heap.size]? = some (.cells #[.int .i64 x.kd, .int .i64 x.n, .string x.tx] 23 (0, 0)) := by rw [← hW0]; exact hol _ (hnw _ rfl)
  have r0 : W0.heap[W.heap.size + 1]? = some (.cells #[.int .i64 y.kd, .int .i64 y.n, .string y.tx] 23 (0, 0)) := by rw [← hW0]; exact hnw _ (by simp)
  obtain ⟨⟨c0, c1, c2⟩, _⟩ := free3 m0
  have HC := hlist_nil x W0
  have B0 : Hid (Below W.heap.size W W0) := b0
  have R0 : Hid (W0.heap[W.heap.size + 1]? = some (.cells #[.int .i64 y.kd, .int .i64 y.n, .string y.tx] 23 (0, 0))) := r0
  clear b0 m0 r0
  unfold Vl.v at HC ⊢
  go_enter Tryd.func21, Tryd.ntmps21
  go_wp2_with fail
  go_at_call 43
  refine HC.mono ?_
  rintro e W1 ⟨rfl, b1⟩
  have B1 : Hid (Below W.heap.size W W1) := B0.out.trans (b1.mono B0.out.size)
  have r1 := (b1.block _ (glt R0.out)).trans R0.out
  have R1 : Hid (W1.heap[W.heap.size + 1]? = some (.cells #[.int .i64 y.kd, .int .i64 y.n, .string y.tx] 23 (0, 0))) := r1
  obtain ⟨⟨d0, d1, d2⟩, y0, y1, y2⟩ := free3 r1
  clear HC hW0 b1 c0 c1 c2 r1
  go_wp2
  go_ret
  exact ⟨rfl, B1.out⟩
set_option maxRecDepth 100000 in
set_option maxHeartbeats 4000000 in
theorem harrN (W : World) (v : Value) : Calls Tryd.prog 19 #[.pointer none, v] W fun e W' => e = .returned zV.v ∧ Below W.heap.size W W' := by
  obtain ⟨W0, hW0⟩ : ∃ X, W.alloc (.cells #[.int .i64 0, .int .i64 0, .string ⟨#[]⟩] 23) = X := ⟨_, rfl⟩
  have b0 : Below W.heap.size W W0 := by rw [← hW0]; exact belA _ _
  have m0 : W0.heap[W.heap.size]? = some (.cells #[.int .i64 0, .int .i64 0, .string ⟨#[]⟩] 23 (0, 0)) := by rw [← hW0]; exact hnw _ rfl
  obtain ⟨⟨d0, d1, d2⟩, y0, y1, y2⟩ := free3 m0
  have B0 : Hid (Below W.heap.size W W0) := b0
  have M0 : Hid (W0.heap[W.heap.size]? = some (.cells #[.int .i64 0, .int .i64 0, .string ⟨#[]⟩] 23 (0, 0))) := m0
  clear b0 m0
  go_enter Tryd.func19, Tryd.ntmps19
  go_wp2
  exact bodyPost_ret (res_vl Tryd.results19 (set3_same _ _ _ M0.out) rfl) rfl ⟨rfl, set3_bel _ _ _ B0.out (by omega)⟩
set_option maxRecDepth 100000 in
set_option maxHeartbeats 4000000 in
theorem hobjN (W : World) (u v : Value) : Calls Tryd.prog 20 #[.pointer none, u, v] W fun e W' => e = .returned zV.v ∧ Below W.heap.size W W' := by
  obtain ⟨W0, hW0⟩ : ∃ X, W.alloc (.cells #[.int .i64 0, .int .i64 0, .string ⟨#[]⟩] 23) = X := ⟨_, rfl⟩
  have b0 : Below W.heap.size W W0 := by rw [← hW0]; exact belA _ _
  have m0 : W0.heap[W.heap.size]? = some (.cells #[.int .i64 0, .int .i64 0, .string ⟨#[]⟩] 23 (0, 0)) := by rw [← hW0]; exact hnw _ rfl
  obtain ⟨⟨d0, d1, d2⟩, y0, y1, y2⟩ := free3 m0
  have B0 : Hid (Below W.heap.size W W0) := b0
  have M0 : Hid (W0.heap[W.heap.size]? = some (.cells #[.int .i64 0, .int .i64 0, .string ⟨#[]⟩] 23 (0, 0))) := m0
  clear b0 m0
  go_enter Tryd.func20, Tryd.ntmps20
  go_wp2
  exact bodyPost_ret (res_vl Tryd.results20 (set3_same _ _ _ M0.out) rfl) rfl ⟨rfl, set3_bel _ _ _ B0.out (by omega)⟩
set_option maxRecDepth 100000 in
set_option maxHeartbeats 4000000 in
theorem hnew_any (W : World) : Calls Tryd.prog 7 #[] W fun e W' => ∃ hb S, e = .returned (.pointer (some ⟨hb, 0, none⟩)) ∧ vAt W' hb [] S ∧ Below W.heap.size W W' ∧ ∀ b, S b → W.heap.size ≤ b := by
  obtain ⟨W0, hW0⟩ : ∃ X, W.alloc (.cells #[.slice none 0 0, .map none] 55) = X := ⟨_, rfl⟩
  have b0 : Below W.heap.size W W0 := by rw [← hW0]; exact belA _ _
  have m0 : W0.heap[W.heap.size]? = some (.cells #[.slice none 0 0, .map none] 55 (0, 0)) := by rw [← hW0]; exact hnw _ rfl
  have B0 : Hid (Below W.heap.size W W0) := b0
  have M0 : Hid (W0.heap[W.heap.size]? = some (.cells #[.slice none 0 0, .map none] 55 (0, 0))) := m0
  clear b0 m0
  go_enter Tryd.func7, Tryd.ntmps7
  go_wp2
  go_ret
  refine ⟨W.heap.size, _, rfl, ⟨[], .slice none 0 0, [], ⟨.map none, fun _ => 0, ⟨M0.out, rfl, Nat.le_refl _, World.ownsRow_nil _ _ _ _, fun i h1 => absurd h1 (by simp), fun i j hi => absurd hi (by simp), fun i j hi => absurd hi (by simp), .inl ⟨rfl, rfl⟩, fun mb e => (by cases e), fun t ht => absurd ht (by simp), fun t ht => absurd ht (by simp)⟩, fun b => Iff.rfl⟩, fun k => by simp [wds]⟩, B0.out, ?_⟩
  rintro b (q | q | ⟨p, hp, q⟩ | ⟨mb, q, _⟩)
  · omega
  · cases q
  · cases hp
  · cases q
end Go.Proofs.YtlijplbaefaeaaaDoor
