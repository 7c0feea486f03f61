/- Own text. Package value's heap: at, list, object. -/
import Derived.Test.YtlijplbaefaeaaaDoorPvE
import Derived.Test.YtlijplbaefaeaaaDoorVb5
import Derived.Test.YtlijplbaefaeaaaDoorVq
namespace Go.Proofs.YtlijplbaefaeaaaDoor
open Go.RowKit Go.Maps
set_option linter.unusedVariables false
set_option linter.unusedSimpArgs false

theorem faL_get {H : Hp} {V : List Pb} {m : Nat} (hm : m < H.length) (h2 : m < V.length) (h : m < (faL H V).length) : (faL H V)[m] = faV H[m] V[m] := by simp [faL]
/-- the place of a value. -/
theorem HvT.place {hb n : Nat} {H : Hp} {T : List Wd} {pv : Value} {V : List Pb} {tv : Value} {S : Nat → Prop} {W : World} (h : HvT hb n H T pv V tv S W) {m : Nat} (hm : m < n) : ∃ (g c : Nat) (h1 : m < H.length) (h2 : m < V.length), pv = .slice (some ⟨g, 0, none⟩) n c ∧ W.cell? ⟨g, m, none⟩ = some (faV H[m] V[m]) ∧ g < W.heap.size := by
  obtain ⟨C, h, _⟩ := h
  have h1 : m < H.length := by have := h.nl; omega
  have h2 : m < V.length := by have := h.len; omega
  obtain ⟨g, c, e, _, hg⟩ := h.p.form (by omega)
  have hp := h.p
  rw [e] at hp
  refine ⟨g, c, h1, h2, e, ?_, hg⟩
  have := hp.cellAt m (by omega)
  rw [this, List.getElem?_take_of_lt hm, List.getElem?_eq_getElem (by rw [faL_len h.len]; exact h1), faL_get h1 h2]
theorem bel_drew {B : Nat} {W X : World} (b : Below B W X) : Below B W X.drew := ⟨b.os, b.tape, b.output, b.size, b.block⟩
set_option maxRecDepth 100000 in
set_option maxHeartbeats 4000000 in
theorem hat_nil (x : Vl) (W : World) : Calls Tryd.prog 53 #[.pointer none, x.v] W fun e W' => e = .returned .nilIface ∧ Below W.heap.size W W' := by
  have b0 := belA W (.cells #[.int .i64 x.kd, .int .i64 x.n, .string x.tx] 23)
  unfold Vl.v
  go_enter Tryd.func53, Tryd.ntmps53
  go_wp2
  go_region
  go_wp2
  go_ret
  exact ⟨rfl, bel_drew b0⟩
set_option maxRecDepth 100000 in
set_option maxHeartbeats 4000000 in
theorem hat_any {hb n : Nat} {H : Hp} {T : List Wd} {pv : Value} {V : List Pb} {S : Nat → Prop} {W : World} (h : HvS hb n H T pv V S W) (x : Vl) (hn : n ≤ 70368744177664) :
    Calls Tryd.prog 53 #[.pointer (some ⟨hb, 0, none⟩), x.v] W fun e W' => Below W.heap.size W W' ∧ ((¬ (0 ≤ x.n ∧ x.n < n) ∧ e = .returned .nilIface) ∨ ∃ (m : Nat) (h1 : m < H.length) (h2 : m < V.length), x.n = m ∧ m < n ∧ e = .returned (faV H[m] V[m])) := by
  obtain ⟨tv, h⟩ := h
  obtain ⟨k, xn, t⟩ := x
  dsimp only
  obtain ⟨W0, hW0⟩ : ∃ X, W.alloc (.cells #[.int .i64 k, .int .i64 xn, .string t] 23) = X := ⟨_, rfl⟩
  have b0 : Below W.heap.size W W0 := by rw [← hW0]; exact belA _ _
  have m0 : W0.heap[W.heap.size]? = some (.cells #[.int .i64 k, .int .i64 xn, .string t] 23 (0, 0)) := by rw [← hW0]; exact hnw _ rfl
  have h0 := h.bel b0
  obtain ⟨⟨c0, c1⟩, _⟩ := cellB h0.cell
  have n1 : W0.cell? ⟨W.heap.size, 1, none⟩ = some (.int .i64 xn) := by simp [World.cell?, m0]
  have B0 : Hid (Below W.heap.size W W0) := b0
  clear b0 m0 h
  obtain ⟨A, c, e⟩ : ∃ A c, pv = .slice A n c := by
    obtain ⟨C, h, _⟩ := h0
    exact vform h.p
  by_cases hx : 0 ≤ xn ∧ xn < n
  · obtain ⟨m, rfl⟩ : ∃ m : Nat, xn = (m : Nat) := ⟨xn.toNat, by omega⟩
    have hmn : m < n := by omega
    obtain ⟨g, c', h1, h2, e', hc, hg⟩ := h0.place hmn
    subst e'
    obtain ⟨r, hr⟩ : ∃ r, faV H[m] V[m] = r := ⟨_, rfl⟩
    have HR : Hid (faV H[m] V[m] = r) := hr
    rw [hr] at hc
    have hi : (m : Int) < (n : Int) := by omega
    have hge : (0 : Int) ≤ (m : Int) := by omega
    have c0' : (World.drew W0).cell? ⟨hb, 0, none⟩ = some (.slice (some ⟨g, 0, none⟩) n c') := c0
    have n1' : (World.drew W0).cell? ⟨W.heap.size, 1, none⟩ = some (.int .i64 (m : Nat)) := n1
    have hc' : (World.drew W0).cell? ⟨g, m, none⟩ = some r := hc
    clear e hr h0 hx c0 c1 n1 hc
    unfold Vl.v
    dsimp only
    go_enter Tryd.func53, Tryd.ntmps53
    go_wp2_with fail
    refine region_held (fun X => X.cell? ⟨W.heap.size, 1, none⟩ = some (.int .i64 ((m : Nat) : Int)) ∧ X.cell? ⟨hb, 0, none⟩ = some (.slice (some ⟨g, 0, none⟩) n c')) (by kernel_rfl) ⟨n1', c0'⟩ (fun hS => ?_)
    refine tH 0 ?_
    simp only [List.set]
    refine tH 1 ?_
    simp only [List.set]
    refine tH 2 ?_
    simp only [List.set]
    refine tH 3 ?_
    simp only [List.set]
    refine tH 4 ?_
    simp only [List.set]
    refine tH 5 (v := .bool false) ?_
    simp only [List.set]
    refine tH 6 ?_
    simp only [List.set]
    refine tH 7 ?_
    simp only [List.set]
    refine tH 8 ?_
    simp only [List.set]
    refine tH 9 ?_
    simp only [List.set]
    refine tH 10 ?_
    simp only [List.set]
    refine tH 11 ?_
    simp only [List.set]
    refine tH 12 ?_
    simp only [List.set]
    refine tH 13 ?_
    simp only [List.set]
    refine tH 14 ?_
    simp only [List.set]
    refine tH 15 (v := .bool false) ?_
    simp only [List.set]
    refine tH 16 ?_
    simp only [List.set]
    refine wpAnyH_done (by kernel_rfl) ?_ _
    go_wp2_with fail
    refine region_held (fun X => (X.cell? ⟨W.heap.size, 1, none⟩ = some (.int .i64 (m : Nat)) ∧ X.cell? ⟨hb, 0, none⟩ = some (.slice (some ⟨g, 0, none⟩) n c')) ∧ X.cell? ⟨g, m, none⟩ = some r) (by kernel_rfl) ⟨⟨n1', c0'⟩, hc'⟩ (fun hS => ?_)
    refine tH 0 ?_
    simp only [List.set]
    refine tH 1 ?_
    simp only [List.set]
    refine tH 2 ?_
    simp only [List.set]
    refine tH 3 ?_
    simp only [List.set]
    refine tH 4 ?_
    simp only [List.set]
    refine tH 5 ?_
    simp only [List.set]
    refine tH 6 ?_
    simp only [List.set]
    refine tH 7 ?_
    simp only [List.set]
    refine tH 8 ?_
    simp only [List.set]
    refine wpAnyH_done (by kernel_rfl) ?_ _
    go_wp2
    go_ret
    exact ⟨bel_drew (bel_drew B0.out), .inr ⟨m, h1, h2, rfl, hmn, by rw [HR.out]; rfl⟩⟩
  · have HX : Hid (¬ (0 ≤ xn ∧ xn < n)) := hx
    subst e
    clear h0 hx
    unfold Vl.v
    dsimp only
    have c0' : (World.drew W0).cell? ⟨hb, 0, none⟩ = some (.slice A n c) := c0
    have n1' : (World.drew W0).cell? ⟨W.heap.size, 1, none⟩ = some (.int .i64 xn) := n1
    clear c0 c1 n1
    by_cases hx : xn < 0
    · go_enter Tryd.func53, Tryd.ntmps53
      go_wp2_with fail
      refine region_held (fun X => X.cell? ⟨W.heap.size, 1, none⟩ = some (.int .i64 (xn)) ∧ X.cell? ⟨hb, 0, none⟩ = some (.slice A n c)) (by kernel_rfl) ⟨n1', c0'⟩ (fun hS => ?_)
      refine tH 0 ?_
      simp only [List.set]
      refine tH 1 ?_
      simp only [List.set]
      refine tH 2 ?_
      simp only [List.set]
      refine tH 3 ?_
      simp only [List.set]
      refine tH 4 ?_
      simp only [List.set]
      refine tH 5 (v := .bool true) ?_
      simp only [List.set]
      refine tH 6 ?_
      simp only [List.set]
      refine tH 7 ?_
      simp only [List.set]
      refine tS 8 ?_
      simp only [List.set]
      refine tS 9 ?_
      simp only [List.set]
      refine tS 10 ?_
      simp only [List.set]
      refine tS 11 ?_
      simp only [List.set]
      refine tS 12 ?_
      simp only [List.set]
      refine tS 13 ?_
      simp only [List.set]
      refine tS 14 ?_
      simp only [List.set]
      refine tS 15 ?_
      simp only [List.set]
      refine tH 16 ?_
      simp only [List.set]
      refine wpAnyH_done (by kernel_rfl) ?_ _
      go_wp2
      go_ret
      exact ⟨bel_drew B0.out, .inl ⟨HX.out, rfl⟩⟩
    · have hx1 : 0 ≤ xn := by omega
      have hx2 : (n : Int) ≤ xn := by have := HX.out; omega
      go_enter Tryd.func53, Tryd.ntmps53
      go_wp2_with fail
      refine region_held (fun X => X.cell? ⟨W.heap.size, 1, none⟩ = some (.int .i64 (xn)) ∧ X.cell? ⟨hb, 0, none⟩ = some (.slice A n c)) (by kernel_rfl) ⟨n1', c0'⟩ (fun hS => ?_)
      refine tH 0 ?_
      simp only [List.set]
      refine tH 1 ?_
      simp only [List.set]
      refine tH 2 ?_
      simp only [List.set]
      refine tH 3 ?_
      simp only [List.set]
      refine tH 4 ?_
      simp only [List.set]
      refine tH 5 (v := .bool false) ?_
      simp only [List.set]
      refine tH 6 ?_
      simp only [List.set]
      refine tH 7 ?_
      simp only [List.set]
      refine tH 8 ?_
      simp only [List.set]
      refine tH 9 ?_
      simp only [List.set]
      refine tH 10 ?_
      simp only [List.set]
      refine tH 11 ?_
      simp only [List.set]
      refine tH 12 ?_
      simp only [List.set]
      refine tH 13 ?_
      simp only [List.set]
      refine tH 14 ?_
      simp only [List.set]
      refine tH 15 (v := .bool true) ?_
      simp only [List.set]
      refine tH 16 ?_
      simp only [List.set]
      refine wpAnyH_done (by kernel_rfl) ?_ _
      go_wp2
      go_ret
      exact ⟨bel_drew B0.out, .inl ⟨HX.out, rfl⟩⟩
/-- which thing a value is. -/
def LiA (H : Hp) (V : List Pb) (x : Vl) (o : Bool) (e : Ending) : Prop := (isH H x o = false ∧ e = .returned (.tuple #[if o then .map none else .pointer none, .bool false])) ∨ ∃ (m : Nat) (h1 : m < H.length) (h2 : m < V.length), x.n = (m : Nat) ∧ H[m].ob = o ∧ isH H x o = true ∧ e = .returned (.tuple #[if o then .map (some V[m].1) else .pointer (some ⟨V[m].1, 0, none⟩), .bool true])
theorem as_ln (W : World) : (Instr.typeAssert .nilIface 20 59 true).run Tryd.prog W = .ok (.tuple #[.pointer none, .bool false]) W := by kernel_rfl
theorem as_ll (g : Nat) (W : World) : (Instr.typeAssert (.iface 59 (.pointer (some ⟨g, 0, none⟩))) 20 59 true).run Tryd.prog W = .ok (.tuple #[.pointer (some ⟨g, 0, none⟩), .bool true]) W := by kernel_rfl
theorem as_lo (g : Nat) (W : World) : (Instr.typeAssert (.iface 65 (.map (some g))) 20 59 true).run Tryd.prog W = .ok (.tuple #[.pointer none, .bool false]) W := by kernel_rfl
theorem as_on (W : World) : (Instr.typeAssert .nilIface 20 65 true).run Tryd.prog W = .ok (.tuple #[.map none, .bool false]) W := by kernel_rfl
theorem as_ol (g : Nat) (W : World) : (Instr.typeAssert (.iface 59 (.pointer (some ⟨g, 0, none⟩))) 20 65 true).run Tryd.prog W = .ok (.tuple #[.map none, .bool false]) W := by kernel_rfl
theorem as_oo (g : Nat) (W : World) : (Instr.typeAssert (.iface 65 (.map (some g))) 20 65 true).run Tryd.prog W = .ok (.tuple #[.map (some g), .bool true]) W := by kernel_rfl
theorem res_two {fn : Func} {p q : Nat} (h : fn.results = #[.tmp p, .tmp q]) {W : World} {u v : Value} {tmps : Array Value} (hp : tmps[p]?.getD undef = u) (hq : tmps[q]?.getD undef = v) : (results fn tmps).run Tryd.prog W = .ok (.tuple #[u, v]) W := by
  simp [results, h, go_sem, hp, hq]
set_option maxRecDepth 100000 in
set_option maxHeartbeats 4000000 in
theorem hlist_any {hb n : Nat} {H : Hp} {T : List Wd} {pv : Value} {V : List Pb} {S : Nat → Prop} {W : World} (h : HvS hb n H T pv V S W) (x : Vl) (hn : n ≤ 70368744177664) (hN : n = H.length) :
    Calls Tryd.prog 43 #[.pointer (some ⟨hb, 0, none⟩), x.v] W fun e W' => Below W.heap.size W W' ∧ LiA H V x false e := by
  obtain ⟨W0, hW0⟩ : ∃ X, W.alloc (.cells #[.int .i64 x.kd, .int .i64 x.n, .string x.tx] 23) = X := ⟨_, rfl⟩
  have b0 : Below W.heap.size W W0 := by rw [← hW0]; exact belA _ _
  have m0 : W0.heap[W.heap.size]? = some (.cells #[.int .i64 x.kd, .int .i64 x.n, .string x.tx] 23 (0, 0)) := by rw [← hW0]; exact hnw _ rfl
  obtain ⟨⟨c0, c1, c2⟩, _⟩ := free3 m0
  have HC := hat_any (h.bel b0) x hn
  have B0 : Hid (Below W.heap.size W W0) := b0
  clear b0 m0 h
  by_cases hk : x.kd = 5
  · have HK : Hid (x.kd = 5) := hk
    have e0 : (x.kd != 5) = false := by simp [hk]
    unfold Vl.v at HC ⊢
    clear hk
    go_enter Tryd.func43, Tryd.ntmps43
    go_wp2_with fail
    go_at_call 53
    refine HC.mono ?_
    rintro e W1 ⟨b1, q⟩
    have B1 : Hid (Below W.heap.size W W1) := B0.out.trans (b1.mono B0.out.size)
    clear HC hW0 b1 c0 c1 c2
    rcases q with ⟨q, rfl⟩ | ⟨m, h1, h2, q1, q2, rfl⟩
    · have HR : Hid (isH H x false = false) := isH_n (by rw [← hN]; exact q)
      clear q
      have eq1 := as_ln W1
      go_wp2
      refine bodyPost_ret (res_two Tryd.results43 rfl rfl) rfl ?_
      exact ⟨B1.out, .inl ⟨HR.out, rfl⟩⟩
    · have HI := isH_at (H := H) (o := false) HK.out q1 h1
      have HQ : Hid (x.n = (m : Nat)) := q1
      clear q1 q2
      cases ho : H[m].ob with
      | false =>
        rw [ho] at HI
        simp only [faV, ho]
        have eq1 := as_ll V[m].1 W1
        go_wp2
        refine bodyPost_ret (res_two Tryd.results43 rfl rfl) rfl ?_
        exact ⟨B1.out, .inr ⟨m, h1, h2, HQ.out, ho, HI, rfl⟩⟩
      | true =>
        rw [ho] at HI
        simp only [faV, ho, if_true]
        have eq1 := as_lo V[m].1 W1
        go_wp2
        refine bodyPost_ret (res_two Tryd.results43 rfl rfl) rfl ?_
        exact ⟨B1.out, .inl ⟨HI, rfl⟩⟩
  · have e0 : (x.kd != 5) = true := by simp [hk]
    have HR : Hid (isH H x false = false) := isH_kd hk
    clear hk HC
    unfold Vl.v
    go_enter Tryd.func43, Tryd.ntmps43
    go_wp2
    refine bodyPost_ret (res_two Tryd.results43 rfl rfl) rfl ?_
    exact ⟨B0.out, .inl ⟨HR.out, rfl⟩⟩
set_option maxRecDepth 100000 in
set_option maxHeartbeats 4000000 in
theorem hobject_any {hb n : Nat} {H : Hp} {T : List Wd} {pv : Value} {V : List Pb} {S : Nat → Prop} {W : World} (h : HvS hb n H T pv V S W) (x : Vl) (hn : n ≤ 70368744177664) (hN : n = H.length) :
    Calls Tryd.prog 44 #[.pointer (some ⟨hb, 0, none⟩), x.v] W fun e W' => Below W.heap.size W W' ∧ LiA H V x true e := by
  obtain ⟨W0, hW0⟩ : ∃ X, W.alloc (.cells #[.int .i64 x.kd, .int .i64 x.n, .string x.tx] 23) = X := ⟨_, rfl⟩
  have b0 : Below W.heap.size W W0 := by rw [← hW0]; exact belA _ _
  have m0 : W0.heap[W.heap.size]? = some (.cells #[.int .i64 x.kd, .int .i64 x.n, .string x.tx] 23 (0, 0)) := by rw [← hW0]; exact hnw _ rfl
  obtain ⟨⟨c0, c1, c2⟩, _⟩ := free3 m0
  have HC := hat_any (h.bel b0) x hn
  have B0 : Hid (Below W.heap.size W W0) := b0
  clear b0 m0 h
  by_cases hk : x.kd = 6
  · have HK : Hid (x.kd = 6) := hk
    have e0 : (x.kd != 6) = false := by simp [hk]
    unfold Vl.v at HC ⊢
    clear hk
    go_enter Tryd.func44, Tryd.ntmps44
    go_wp2_with fail
    go_at_call 53
    refine HC.mono ?_
    rintro e W1 ⟨b1, q⟩
    have B1 : Hid (Below W.heap.size W W1) := B0.out.trans (b1.mono B0.out.size)
    clear HC hW0 b1 c0 c1 c2
    rcases q with ⟨q, rfl⟩ | ⟨m, h1, h2, q1, q2, rfl⟩
    · have HR : Hid (isH H x true = false) := isH_n (by rw [← hN]; exact q)
      clear q
      have eq1 := as_on W1
      go_wp2
      refine bodyPost_ret (res_two Tryd.results44 rfl rfl) rfl ?_
      exact ⟨B1.out, .inl ⟨HR.out, rfl⟩⟩
    · have HI := isH_at (H := H) (o := true) HK.out q1 h1
      have HQ : Hid (x.n = (m : Nat)) := q1
      clear q1 q2
      cases ho : H[m].ob with
      | false =>
        rw [ho] at HI
        simp only [faV, ho]
        have eq1 := as_ol V[m].1 W1
        go_wp2
        refine bodyPost_ret (res_two Tryd.results44 rfl rfl) rfl ?_
        exact ⟨B1.out, .inl ⟨HI, rfl⟩⟩
      | true =>
        rw [ho] at HI
        simp only [faV, ho, if_true]
        have eq1 := as_oo V[m].1 W1
        go_wp2
        refine bodyPost_ret (res_two Tryd.results44 rfl rfl) rfl ?_
        exact ⟨B1.out, .inr ⟨m, h1, h2, HQ.out, ho, HI, rfl⟩⟩
  · have e0 : (x.kd != 6) = true := by simp [hk]
    have HR : Hid (isH H x true = false) := isH_kd hk
    clear hk HC
    unfold Vl.v
    go_enter Tryd.func44, Tryd.ntmps44
    go_wp2
    refine bodyPost_ret (res_two Tryd.results44 rfl rfl) rfl ?_
    exact ⟨B0.out, .inl ⟨HR.out, rfl⟩⟩
end Go.Proofs.YtlijplbaefaeaaaDoor
