/- Own text. The form of a tree: package tree. -/
import Derived.Test.YtggahoefbcnaiaaDoorF11
namespace Go.Proofs.YtggahoefbcnaiaaDoor
open Go.RowKit
set_option linter.unusedVariables false
set_option linter.unusedSimpArgs false

theorem box2 {w : World} {b : Nat} {p q : Value} (h : ∃ t, w.heap[b]? = some (.cells #[p, q] t (0, 0))) : w.cell? ⟨b, 0, none⟩ = some p ∧ w.cell? ⟨b, 1, none⟩ = some q := by
  obtain ⟨t, h⟩ := h
  simp [World.cell?, h]
theorem box2_of {w w' : World} {b : Nat} {p q : Value} (h : ∃ t, w.heap[b]? = some (.cells #[p, q] t (0, 0))) (e : w'.heap[b]? = w.heap[b]?) : ∃ t, w'.heap[b]? = some (.cells #[p, q] t (0, 0)) := by
  obtain ⟨t, h⟩ := h
  exact ⟨t, e.trans h⟩
theorem PAt.get {w : World} {a : Option Addr} {ks : List Int} (h : PAt w (.slice a ks.length ks.length) ks) {k : Nat} (hk : k < ks.length) : ∃ bl, a = some ⟨bl, 0, none⟩ ∧ bl < w.heap.size ∧ ∀ w', Below w.heap.size w w' → w'.cell? ⟨bl, k, none⟩ = some (.int .i64 ks[k]) := by
  rcases h with ⟨rfl, _⟩ | ⟨bl, t, h1, h2⟩
  · simp at hk
  · cases h1
    have hl := (Array.getElem?_eq_some_iff.1 h2).1
    refine ⟨bl, rfl, hl, fun w' b => ?_⟩
    rw [cell_of_row w' bl _ _ _ _ ((b.block bl hl).trans h2)]
    simp [hk]

set_option maxRecDepth 100000 in
set_option maxHeartbeats 8000000 in
theorem follows_of (x : Nd) (zx : x.size ≤ 4194304) (tx : x.tx) (hK : ∀ y ∈ x.ks, FitC y) : FolC x := by
  intro w S v fv vr mod r hx hw hp hp3
  have zs := x.size_eq
  have lx := sizes_len x.ks
  have lx2 : x.ks.length ≤ 4194304 := by omega
  have hsy := fun W (b : Below w.heap.size w W) => says_any W fv mod r.t x.t (hw.bel b)
  obtain ⟨a, rfl⟩ : ∃ a, fv = .slice a 19 19 := by obtain ⟨bl, t, rfl, _⟩ := hw; exact ⟨_, rfl⟩
  obtain ⟨ax, cx, bx, ox, fx, rfl, px, qx, rx⟩ := hx.op
  obtain ⟨ar, rfl⟩ := hp.sl
  have HB : Hid (∀ o o' o'', Below w.heap.size w (((w.alloc o).alloc o').alloc o'')) := fun o o' o'' => ((bel_a w o).alloc (by simp) o').alloc (by simp <;> omega) o''
  have e1 : Hid (∀ o o' o'' W1, Below (((w.alloc o).alloc o').alloc o'').heap.size (((w.alloc o).alloc o').alloc o'') W1 → Below w.heap.size w W1 ∧ W1.heap[w.heap.size]? = some o ∧ W1.heap[w.heap.size + 1]? = some o' ∧ W1.heap[w.heap.size + 1 + 1]? = some o'' ∧ w.heap.size + 3 ≤ W1.heap.size) := fun o o' o'' W1 b =>
    ⟨(((bel_a w o).alloc (by simp) _).alloc (by simp <;> omega) _).trans (b.mono (by simp; omega)), (b.block w.heap.size (by simp <;> omega)).trans (hold _ (by simp <;> omega) (hold _ (by simp) (hnew _ rfl))), (b.block (w.heap.size + 1) (by simp <;> omega)).trans (hold _ (by simp) (hnew _ (by simp))), (b.block (w.heap.size + 1 + 1) (by simp <;> omega)).trans (hnew _ (by simp)), by have := b.size; simpa using this⟩
  unfold fmV Nd.v Rul.v at *
  unfold folP hdB
  obtain ⟨sb, hsb⟩ : ∃ sb, saysT mod r.t x.t = sb := ⟨_, rfl⟩
  rw [hsb] at hsy ⊢
  clear hsb tx
  cases sb
  · go_enter Tryd.func42, Tryd.ntmps42
    go_wp2_with (go_at_call 66; refine (hsy _ (HB.out _ _ _)).mono ?_; rintro e W1 ⟨rfl, b1⟩)
    go_ret
    exact ⟨rfl, (e1.out _ _ _ _ b1).1⟩
  by_cases hn0 : x.n < 0
  · go_enter Tryd.func42, Tryd.ntmps42
    go_wp2_with (go_at_call 66; refine (hsy _ (HB.out _ _ _)).mono ?_; rintro e W1 ⟨rfl, b1⟩; obtain ⟨b2, m0, m1, m2, z3⟩ := e1.out _ _ _ _ b1; obtain ⟨⟨c0, c1, c2, c3⟩, _⟩ := box4 m1)
    go_ret
    exact ⟨ret_bool (by simp [hn0]), b2⟩
  by_cases hnm : r.m < x.n
  · go_enter Tryd.func42, Tryd.ntmps42
    go_wp2_with (go_at_call 66; refine (hsy _ (HB.out _ _ _)).mono ?_; rintro e W1 ⟨rfl, b1⟩; obtain ⟨b2, m0, m1, m2, z3⟩ := e1.out _ _ _ _ b1; obtain ⟨⟨c0, c1, c2, c3⟩, _⟩ := box4 m1; obtain ⟨⟨d0, d1, d2, d3⟩, _⟩ := box4 m2)
    go_ret
    exact ⟨ret_bool (by simp [hnm]), b2⟩
  by_cases hlen : x.ks.length < r.ks.length
  · go_enter Tryd.func42, Tryd.ntmps42
    go_wp2_with (go_at_call 66; refine (hsy _ (HB.out _ _ _)).mono ?_; rintro e W1 ⟨rfl, b1⟩; obtain ⟨b2, m0, m1, m2, z3⟩ := e1.out _ _ _ _ b1; obtain ⟨⟨c0, c1, c2, c3⟩, _⟩ := box4 m1; obtain ⟨⟨d0, d1, d2, d3⟩, _⟩ := box4 m2)
    go_ret
    exact ⟨ret_bool (by simp [hlen]), b2⟩
  have HG : Hid ((true && !decide (x.n < 0) && !decide (r.m < x.n) && !decide (x.ks.length < r.ks.length) && fitsL mod r.ks r.r x.ks) = fitsL mod r.ks r.r x.ks) := by simp [Hid, hn0, hnm, hlen]
  rw [HG.out]
  go_enter Tryd.func42, Tryd.ntmps42
  go_wp2_with (go_at_call 66; refine (hsy _ (HB.out _ _ _)).mono ?_; rintro e W1 ⟨rfl, b1⟩; obtain ⟨b2, m0, m1, m2, z3⟩ := e1.out _ _ _ _ b1; obtain ⟨⟨c0, c1, c2, c3⟩, _⟩ := box4 m1; obtain ⟨⟨d0, d1, d2, d3⟩, _⟩ := box4 m2)
  clear c0 c1 c2 c3 d0 d1 d2 d3 m1 b1 hsy
  go_loopw [41] (fun i wr => ∃ k : Nat, i = .int .i64 (k : Nat) ∧ k ≤ x.ks.length ∧ Below w.heap.size w wr ∧ w.heap.size + 3 ≤ wr.heap.size ∧ (∃ t, wr.heap[w.heap.size]? = some (.cells #[.slice a 19 19, .bool mod] t (0, 0))) ∧
      wr.heap[w.heap.size + 1 + 1]? = some (.cells #[.int .i64 r.t, .int .i64 r.m, .slice ar r.ks.length r.ks.length, .int .i64 r.r] 58 (0, 0)) ∧ Hid (fitsL mod r.ks r.r x.ks = fitsL mod (r.ks.drop k) r.r (x.ks.drop k))) (fun i _ => x.ks.length - (intOf i).toNat)
  case atStart => exact ⟨0, rfl, by omega, b2, z3, ⟨_, m0⟩, m2, by simp [Hid]⟩
  case round =>
    clear m0 m2 b2 z3
    obtain ⟨k, rfl, hk, bel, sz, m0, m2, HT⟩ := hrel
    obtain ⟨f0, f1⟩ := box2 m0
    obtain ⟨⟨d0, d1, d2, d3⟩, _⟩ := box4 m2
    by_cases hkl : k < x.ks.length
    · obtain ⟨rfl, hSx, hbx⟩ := px (by omega)
      obtain ⟨⟨u1, u2, u3, u4⟩, gx⟩ := kid_at (qx k hkl) (rx k hkl) hbx bel
      have HD : Hid (x.ks.drop k = x.ks[k] :: x.ks.drop (k + 1)) := List.drop_eq_getElem_cons hkl
      have hfit := hK x.ks[k] (List.getElem_mem hkl)
      obtain ⟨ay, cy, ey⟩ := gx.sl
      clear hK qx rx px
      generalize x.ks[k] = y at *
      generalize fx k = fy at *
      subst ey
      obtain ⟨p, hpp⟩ : ∃ p, p = (r.ks.drop k).headD r.r := ⟨_, rfl⟩
      have hcall : ∀ W, Below wr.heap.size wr W → _ := fun W b => hfit W S _ (.slice a 19 19) mod p (gx.bel b) (hw.bel (bel.trans (b.mono bel.size)))
      have HF : Hid (fitsL mod r.ks r.r x.ks = (fitsP mod p y && fitsL mod (r.ks.drop (k + 1)) r.r (x.ks.drop (k + 1)))) := by
        show _ = _
        rw [HT.out, HD.out, fitsL_cons, ← hpp, List.tail_drop]
      clear HT HD hfit
      obtain ⟨wr2, hwr2⟩ : ∃ W, wr.alloc (Obj.cells #[Value.int IntKind.i64 y.k, Value.string y.t, Value.int IntKind.i64 y.n, Value.slice ay y.ks.length cy] 24) = W := ⟨_, rfl⟩
      have bw2 : Below wr.heap.size wr wr2 := by rw [← hwr2]; exact bel_a _ _
      have mK : wr2.heap[wr.heap.size]? = some (.cells #[Value.int IntKind.i64 y.k, Value.string y.t, Value.int IntKind.i64 y.n, Value.slice ay y.ks.length cy] 24 (0, 0)) := by rw [← hwr2]; exact hnew _ rfl
      obtain ⟨⟨k0, k1, k2, k3⟩, _⟩ := box4 mK
      obtain ⟨f0', f1'⟩ := box2 (box2_of m0 (bw2.block w.heap.size (by omega)))
      obtain ⟨⟨d0', d1', d2', d3'⟩, _⟩ := box4 ((bw2.block (w.heap.size + 1 + 1) (by omega)).trans m2)
      have hcc := hcall wr2 bw2
      have fin : Hid (∀ W1, Below wr2.heap.size wr2 W1 → Below w.heap.size w W1 ∧ w.heap.size + 3 ≤ W1.heap.size ∧ (∃ t, W1.heap[w.heap.size]? = some (.cells #[.slice a 19 19, .bool mod] t (0, 0))) ∧ W1.heap[w.heap.size + 1 + 1]? = some (.cells #[.int .i64 r.t, .int .i64 r.m, .slice ar r.ks.length r.ks.length, .int .i64 r.r] 58 (0, 0))) := fun W1 b => by
        have b3 := bw2.trans (b.mono bw2.size)
        exact ⟨bel.trans (b3.mono bel.size), Nat.le_trans sz b3.size, box2_of m0 (b3.block _ (by omega)), (b3.block _ (by omega)).trans m2⟩
      clear hcall m0 m2 mK
      unfold fmV Nd.v at hcc
      by_cases hkr : k < r.ks.length
      · obtain ⟨bl, rfl, hbl, hc⟩ := (hp.bel bel).get hkr
        have hc2 := hc wr2 bw2
        have hpe : p = r.ks[k] := by rw [hpp, List.drop_eq_getElem_cons hkr]; rfl
        rw [← hpe] at hc2
        clear hc hpe hpp hp
        cases hfb : fitsP mod p y
        · rw [hfb] at hcc HF
          go_wp2_with (go_at_call 67; refine hcc.mono ?_; rintro e W1 ⟨rfl, b1⟩)
          go_ret
          exact ⟨ret_bool (by rw [HF.out]; rfl), (fin.out _ b1).1⟩
        · rw [hfb] at hcc HF
          go_wp2_with (go_at_call 67; refine hcc.mono ?_; rintro e W1 ⟨rfl, b1⟩)
          obtain ⟨b2, z3, q0, q2⟩ := fin.out _ b1
          go_roundw
          case rel => exact ⟨k + 1, by simp, by omega, b2, z3, q0, q2, HF.out⟩
          case measure => simp [intOf]; omega
      · have hpe : p = r.r := by rw [hpp, List.drop_of_length_le (by omega)]; rfl
        subst hpe
        clear hpp hp
        cases hfb : fitsP mod r.r y
        · rw [hfb] at hcc HF
          go_wp2_with (go_at_call 67; refine hcc.mono ?_; rintro e W1 ⟨rfl, b1⟩)
          go_ret
          exact ⟨ret_bool (by rw [HF.out]; rfl), (fin.out _ b1).1⟩
        · rw [hfb] at hcc HF
          go_wp2_with (go_at_call 67; refine hcc.mono ?_; rintro e W1 ⟨rfl, b1⟩)
          obtain ⟨b2, z3, q0, q2⟩ := fin.out _ b1
          go_roundw
          case rel => exact ⟨k + 1, by simp, by omega, b2, z3, q0, q2, HF.out⟩
          case measure => simp [intOf]; omega
    · have HE : Hid (fitsL mod r.ks r.r x.ks = true) := by
        show _ = _
        rw [HT.out, List.drop_of_length_le (by omega : x.ks.length ≤ k), fitsL_nil]
      clear HT hK
      go_wp2
      go_ret
      exact ⟨ret_bool (by rw [HE.out]), bel⟩
end Go.Proofs.YtggahoefbcnaiaaDoor
