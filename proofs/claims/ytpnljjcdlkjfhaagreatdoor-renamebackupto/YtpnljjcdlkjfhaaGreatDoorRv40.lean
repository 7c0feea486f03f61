/- Own text. The document's Resolve of one tree: its one top. The document's loader at one file. -/
import Derived.Test.YtpnljjcdlkjfhaaGreatDoorRv26
import Derived.Test.YtpnljjcdlkjfhaaGreatDoorRv36
import Derived.Test.YtpnljjcdlkjfhaaGreatDoorRv39
set_option linter.unusedVariables false
set_option linter.unusedSimpArgs false
namespace Go.Proofs.YtpnljjcdlkjfhaaGreatDoor
open Go.RowKit
theorem info_topR : (Tryz.prog.info? 221).map (fun i => (i.zero, i.size, i.bytes)) = some (some (.agg #[.string ByteArray.empty, .int .i64 0, .int .i64 0, .int .i64 0, .bool false]), 5, 48) := by kernel_rfl
theorem info_strR : (Tryz.prog.info? 9).map (fun i => (i.zero, i.size, i.bytes)) = some (some (.string ByteArray.empty), 1, 16) := by kernel_rfl
abbrev wsO (tv ev : Value) : Obj := .cells #[tv, .slice none 0 0, .slice none 0 0, .bool false, .bool false, .int .i64 0, .int .i64 0, ev] 157
theorem box8 {w : World} {b : Nat} {p0 p1 p2 p3 p4 p5 p6 p7 : Value} {t : TypeId} (h : w.heap[b]? = some (.cells #[p0, p1, p2, p3, p4, p5, p6, p7] t (0, 0))) :
    (w.cell? ⟨b, 0, none⟩ = some p0 ∧ w.cell? ⟨b, 1, none⟩ = some p1 ∧ w.cell? ⟨b, 2, none⟩ = some p2 ∧ w.cell? ⟨b, 3, none⟩ = some p3 ∧ w.cell? ⟨b, 4, none⟩ = some p4 ∧ w.cell? ⟨b, 5, none⟩ = some p5 ∧ w.cell? ⟨b, 6, none⟩ = some p6 ∧ w.cell? ⟨b, 7, none⟩ = some p7) ∧ (∀ i, w.frozen? ⟨b, i, none⟩ = false) := by
  refine ⟨by simp [World.cell?, h], fun i => by simp [World.frozen?, h]⟩
theorem ws_set7 {w : World} {b : Nat} {tv ev : Value} (h : w.heap[b]? = some (wsO tv ev)) (v : Value) : (w.setCell ⟨b, 7, none⟩ v).heap[b]? = some (wsO tv v) := by simp [World.setCell, Array.getElem?_modify, h]
theorem ws_set0 {w : World} {b : Nat} {tv ev : Value} (h : w.heap[b]? = some (wsO tv ev)) (v : Value) : (w.setCell ⟨b, 0, none⟩ v).heap[b]? = some (wsO v ev) := by simp [World.setCell, Array.getElem?_modify, h]
theorem res_sc {fn : Func} {p q r : Nat} (h : fn.results = #[.cell p 98, .tmp q, .tmp r]) {W : World} {n : Nat} {a b u v : Value} {tmps : Array Value} (h0 : W.cell? ⟨n, 0, none⟩ = some a) (h1 : W.cell? ⟨n, 1, none⟩ = some b) (ht : tmps[p]?.getD undef = .pointer (some ⟨n, 0, none⟩)) (hq : tmps[q]?.getD undef = u) (hr : tmps[r]?.getD undef = v) :
    (results fn tmps).run Tryz.prog W = .ok (.tuple #[.agg #[a, b], u, v]) W := by
  simp [results, h, go_sem, ht, h0, h1, hq, hr]
theorem two_set {w : World} {b : Nat} {p q : Value} {t : TypeId} (h : w.heap[b]? = some (.cells #[p, q] t (0, 0))) (x y : Value) : (((w.setCell ⟨b, 0, none⟩ x).setCell ⟨b, 1, none⟩ y).cell? ⟨b, 0, none⟩ = some x) ∧ (((w.setCell ⟨b, 0, none⟩ x).setCell ⟨b, 1, none⟩ y).cell? ⟨b, 1, none⟩ = some y) := by
  simp [World.setCell, World.cell?, Array.getElem?_modify, h]
section
variable {W : World} {wb : Nat}
set_option maxRecDepth 100000 in
set_option maxHeartbeats 8000000 in
theorem give_nil {tv : Value} (h : W.heap[wb]? = some (wsO tv (.slice none 0 0))) (s : ByteArray) (p : Int) : Calls Tryz.prog 120 #[.pointer (some ⟨wb, 0, none⟩), .string s, .int .i64 p] W fun e w' => e = .returned (.tuple #[]) ∧ (∃ ev, w'.heap[wb]? = some (wsO tv ev)) ∧ Kpt wb W w' := by
  obtain ⟨i0, hi0, hz0, hz1, hz2⟩ := info_parts info_strR
  have hl := (Array.getElem?_eq_some_iff.1 h).1
  have HW : Hid _ := h
  obtain ⟨⟨c0, c1, c2, c3, c4, c5, c6, c7⟩, _⟩ := box8 h
  clear h
  go_enter Tryz.func120, Tryz.ntmps120
  go_wp2_with fail
  go_loopw [6] (fun i wr => i = .int .i64 0 ∧ wr = W) (fun i _ => 0)
  case atStart => exact ⟨rfl, rfl⟩
  case round =>
    obtain ⟨rfl, h0⟩ := hrel
    have h1 := h0.symm
    subst h1
    clear h0
    go_wp2_with (at_builtin; refine wpList_append_lies _ (by rfl) _ _ _ (by rfl) 0 9 i0 _ 1 16 Tryz.underlying70 hi0 hz0 hz1 hz2 rfl (by omega) _ 0 [] (by rfl) (World.ownsRow_nil _ _ _ _) ⟨W.heap.size, 0, none⟩ 1 1 [.string s] (by rfl) (by rfl) (World.news_of_block (cs := #[.string s]) (t := 9) (fr := (0, 0)) (hnew _ rfl)) (by simp [Value.oneCell']) (by omega) (by unfold maxLen; omega) (by omega) (by simp) _ rfl ?_; intro gg cap W3 r1 r2 r3 r4; have w3 : Hid (W3.heap[wb]? = some (wsO tv (.slice none 0 0))) := (grownP_bel r2).block wb (by simp; omega) |>.trans (hold _ hl HW.out); have k3 : Hid (Kpt wb W W3) := ((Kpt.refl wb W).alloc _).then (grownP_bel r2); clear r1 r2 r3 r4; obtain ⟨⟨_, _, _, _, _, _, _, d7⟩, fz⟩ := box8 w3.out; have f7 := fz 7; clear fz)
    go_end0
    exact ⟨rfl, ⟨_, ws_set7 w3.out _⟩, k3.out.set 7 _⟩
set_option maxRecDepth 100000 in
set_option maxHeartbeats 8000000 in
theorem top_nil {ev : Value} (h : W.heap[wb]? = some (wsO (.slice none 0 0) ev)) (s : ByteArray) : Calls Tryz.prog 162 #[.pointer (some ⟨wb, 0, none⟩), .string s] W fun e w' => e = .returned (.int .i64 (-1)) ∧ w' = W := by
  obtain ⟨⟨c0, c1, c2, c3, c4, c5, c6, c7⟩, _⟩ := box8 h
  clear h
  go_enter Tryz.func162, Tryz.ntmps162
  go_wp2_with fail
  go_loopw [5] (fun i wr => i = .int .i64 0 ∧ wr = W) (fun i _ => 0)
  case atStart => exact ⟨rfl, rfl⟩
  case round =>
    obtain ⟨rfl, rfl⟩ := hrel
    go_wp2
    go_ret
    exact ⟨rfl, rfl⟩
set_option maxRecDepth 100000 in
set_option maxHeartbeats 8000000 in
theorem declare_nil {ev : Value} (h : W.heap[wb]? = some (wsO (.slice none 0 0) ev)) (s : ByteArray) : Calls Tryz.prog 119 #[.pointer (some ⟨wb, 0, none⟩), .string s, .int .i64 63, .int .i64 1, .int .i64 0, .bool false] W fun e w' => e = .returned (.tuple #[]) ∧ (∃ gt ct, w'.heap[wb]? = some (wsO (.slice (some ⟨gt, 0, none⟩) 1 ct) ev)) ∧ Kpt wb W w' := by
  obtain ⟨i0, hi0, hz0, hz1, hz2⟩ := info_parts info_topR
  have hl := (Array.getElem?_eq_some_iff.1 h).1
  have HW : Hid _ := h
  obtain ⟨⟨c0, c1, c2, c3, c4, c5, c6, c7⟩, _⟩ := box8 h
  have CT := fun s => top_nil h s
  clear h
  go_enter Tryz.func119, Tryz.ntmps119
  go_wp2_with fail
  go_at_call 162
  refine (CT _).mono ?_
  rintro e W1 ⟨rfl, rfl⟩
  go_wp2_with (at_builtin; refine wpList_append_lies _ (by rfl) _ _ _ (by rfl) 0 221 i0 _ 5 48 Tryz.underlying95 hi0 hz0 hz1 hz2 rfl (by omega) _ 0 [] (by rfl) (World.ownsRow_nil _ _ _ _) ⟨W1.heap.size, 0, none⟩ 1 1 [.string s, .int .i64 63, .int .i64 1, .int .i64 0, .bool true] (by rfl) (by rfl) (World.news_of_block (cs := #[.string s, .int .i64 63, .int .i64 1, .int .i64 0, .bool true]) (t := 221) (fr := (0, 0)) (hnew _ rfl)) (by simp [Value.oneCell']) (by omega) (by unfold maxLen; omega) (by omega) (by simp) _ rfl ?_; intro gg cap W3 r1 r2 r3 r4; have w3 : Hid (W3.heap[wb]? = some (wsO (.slice none 0 0) ev)) := (grownP_bel r2).block wb (by simp; omega) |>.trans (hold _ hl HW.out); have k3 : Hid (Kpt wb W1 W3) := ((Kpt.refl wb W1).alloc _).then (grownP_bel r2); clear r1 r2 r3 r4; obtain ⟨⟨d0, _, _, _, _, _, _, d7⟩, fz⟩ := box8 w3.out; have f0 := fz 0; clear fz)
  go_end0
  exact ⟨rfl, ⟨_, _, ws_set0 w3.out _⟩, k3.out.set 0 _⟩
set_option maxRecDepth 100000 in
set_option maxHeartbeats 8000000 in
theorem tops_d5 {g2 o2 c2 c : Nat} {a : Option Addr} (h : W.heap[wb]? = some (wsO (.slice none 0 0) (.slice none 0 0))) (hn : N5At W g2 o2 a c) (hg2 : g2 ≠ wb) : Calls Tryz.prog 77 #[.pointer (some ⟨wb, 0, none⟩), d5V g2 o2 c2, .int .i64 1, .int .i64 0] W fun e w' => e = .returned (.tuple #[]) ∧ (∃ gt ct ev, w'.heap[wb]? = some (wsO (.slice (some ⟨gt, 0, none⟩) 1 ct) ev)) ∧ Kpt wb W w' := by
  obtain ⟨W0, hW0⟩ : ∃ X, W.alloc (.cells #[.int .i64 63, .string ⟨#[]⟩, .int .i64 0, .slice (some ⟨g2, o2, none⟩) 1 c2] 51) = X := ⟨_, rfl⟩
  have hl := (Array.getElem?_eq_some_iff.1 h).1
  have w0 : W0.heap[wb]? = some (wsO (.slice none 0 0) (.slice none 0 0)) := by rw [← hW0]; exact hold _ hl h
  have m0 : W0.heap[W.heap.size]? = some (.cells #[.int .i64 63, .string ⟨#[]⟩, .int .i64 0, .slice (some ⟨g2, o2, none⟩) 1 c2] 51 (0, 0)) := by rw [← hW0]; exact hnew _ rfl
  have s0 : W.heap.size < W0.heap.size := (Array.getElem?_eq_some_iff.1 m0).1
  have k0 : Kpt wb W W0 := by rw [← hW0]; exact (Kpt.refl wb W).alloc _
  have n0 : N5At W0 g2 o2 a c := by rw [← hW0]; exact hn.bel (bel_a _ _) hn.lt
  have K0 : Hid _ := k0
  have HM : Hid (∀ X, Kpt wb W0 X → N5At X g2 o2 a c ∧ X.cell? ⟨W.heap.size, 0, none⟩ = some (.int .i64 63) ∧ X.cell? ⟨W.heap.size, 3, none⟩ = some (.slice (some ⟨g2, o2, none⟩) 1 c2)) := fun X k => by
    have e := (box4 ((k.block _ s0 (by omega)).trans m0)).1
    have e2 := k.block g2 n0.lt hg2
    exact ⟨⟨(World.cell?_of_block (a := ⟨g2, _, none⟩) e2).trans n0.k, (World.cell?_of_block (a := ⟨g2, _, none⟩) e2).trans n0.t, (World.cell?_of_block (a := ⟨g2, _, none⟩) e2).trans n0.n, (World.cell?_of_block (a := ⟨g2, _, none⟩) e2).trans n0.ks⟩, e.1, e.2.2.2⟩
  have CG := fun s => give_nil w0 s 1
  obtain ⟨⟨q0, q1, q2, q3⟩, _⟩ := box4 m0
  clear h hn m0 k0 n0 w0
  go_enter Tryz.func77, Tryz.ntmps77
  go_wp2_with fail
  go_at_call 120
  refine (CG _).mono ?_
  rintro e W1 ⟨rfl, ⟨ev, w1⟩, k1⟩
  have W1H : Hid _ := w1
  have K1 : Hid _ := k1
  clear w1 k1 q0 q1 q2 q3 hW0 CG
  obtain ⟨⟨n0, n1, n2, n3⟩, q0, q3⟩ := HM.out W1 K1.out
  go_wp2_with fail
  go_at_call 119
  have hl1 : wb < W1.heap.size := (Array.getElem?_eq_some_iff.1 W1H.out).1
  refine (declare_nil (hold _ hl1 W1H.out) _).mono ?_
  rintro e W2 ⟨rfl, ⟨gt, ct, w2⟩, k2⟩
  have W2H : Hid _ := w2
  have K2 : Hid _ := k2
  clear w2 k2
  go_wp2
  go_end0
  exact ⟨rfl, ⟨gt, ct, ev, W2H.out⟩, K0.out.trans (K1.out.trans (((Kpt.refl wb W1).alloc _).trans K2.out))⟩
set_option maxRecDepth 100000 in
set_option maxHeartbeats 8000000 in
theorem resolve_m5 {g o c g2 o2 c2 ca : Nat} {a : Option Addr} (h : D5At W g o g2 o2 c2 a ca) : Calls Tryz.prog 52 #[nv 68 ⟨#[]⟩ 0 (some ⟨g, o, none⟩) 1 c] W fun e w' => (∃ gt ct, e = .returned (.tuple #[.agg #[.slice (some ⟨gt, 0, none⟩) 1 ct, .slice none 0 0], .int .i64 0, .int .i64 0])) ∧ Below W.heap.size W w' := by
  obtain ⟨W0, hW0⟩ : ∃ X, (W.alloc (.cells #[.int .i64 68, .string ⟨#[]⟩, .int .i64 0, .slice (some ⟨g, o, none⟩) 1 c] 51)).alloc (.cells #[.slice none 0 0, .slice none 0 0] 98) = X := ⟨_, rfl⟩
  have b0 : Below W.heap.size W W0 := by rw [← hW0]; exact (bel_a _ _).alloc (by simp <;> omega) _
  have m0 : W0.heap[W.heap.size]? = some (.cells #[.int .i64 68, .string ⟨#[]⟩, .int .i64 0, .slice (some ⟨g, o, none⟩) 1 c] 51 (0, 0)) := by rw [← hW0]; exact hold _ (by simp <;> omega) (hnew _ rfl)
  have n0 : W0.heap[W.heap.size + 1]? = some (.cells #[.slice none 0 0, .slice none 0 0] 98 (0, 0)) := by rw [← hW0]; exact hnew _ (by simp)
  have s0 : W.heap.size + 1 < W0.heap.size := (Array.getElem?_eq_some_iff.1 n0).1
  have hl := h.lt
  have hl2 := h.kid.lt
  have HD : Hid (∀ X, Below W.heap.size W X → D5At X g o g2 o2 c2 a ca) := fun X b => h.bel b hl hl2
  have B0 : Hid _ := b0
  have M0 : Hid _ := m0
  have N0 : Hid _ := n0
  obtain ⟨⟨q0, q1, q2, q3⟩, _⟩ := box4 m0
  have CF := rform_m5 (c := c) (h.bel b0 hl hl2)
  clear h b0 m0 n0
  go_enter Tryz.func52, Tryz.ntmps52
  go_wp2_with fail
  go_at_call 76
  refine CF.mono ?_
  rintro e W1 ⟨rfl, b1⟩
  have B1 : Hid (Below W0.heap.size W0 W1) := b1
  have s1 : W0.heap.size ≤ W1.heap.size := b1.size
  obtain ⟨W2, hW2⟩ : ∃ X, W1.alloc (wsO (.slice none 0 0) (.slice none 0 0)) = X := ⟨_, rfl⟩
  have B2 : Hid (Below W0.heap.size W0 W2) := by show Below _ _ _; rw [← hW2]; exact b1.alloc s1 _
  have w2 : W2.heap[W1.heap.size]? = some (wsO (.slice none 0 0) (.slice none 0 0)) := by rw [← hW2]; exact hnew _ rfl
  have W2H : Hid _ := w2
  have s2 : W1.heap.size < W2.heap.size := (Array.getElem?_eq_some_iff.1 w2).1
  have HM : Hid (∀ X, Kpt W1.heap.size W2 X → (X.cell? ⟨W.heap.size, 0, none⟩ = some (.int .i64 68) ∧ X.cell? ⟨W.heap.size, 1, none⟩ = some (.string ⟨#[]⟩) ∧ X.cell? ⟨W.heap.size, 2, none⟩ = some (.int .i64 0) ∧ X.cell? ⟨W.heap.size, 3, none⟩ = some (.slice (some ⟨g, o, none⟩) 1 c)) ∧ D5At X g o g2 o2 c2 a ca) := fun X k => by
    have hb : Below W0.heap.size W0 X := B2.out.trans (k.below s1 B2.out.size)
    exact ⟨(box4 ((hb.block _ (by omega)).trans M0.out)).1, HD.out X (B0.out.trans (hb.mono B0.out.size))⟩
  clear b1 w2 q0 q1 q2 q3 hW0 CF
  obtain ⟨⟨q0, q1, q2, q3⟩, _⟩ := HM.out W2 (Kpt.refl _ _)
  go_wp2_with fail
  go_loopw [7, 8] (fun v i wr => ∃ k : Nat, i = .int .i64 (k : Nat) ∧ k ≤ 1 ∧ Hid (k = 0 → v = .int .i64 1 ∧ wr = W2) ∧ Hid (k = 1 → ∃ gt ct ev, wr.heap[W1.heap.size]? = some (wsO (.slice (some ⟨gt, 0, none⟩) 1 ct) ev)) ∧ Hid (Kpt W1.heap.size W2 wr)) (fun _ i _ => 1 - (intOf i).toNat)
  case atStart => exact ⟨0, rfl, by omega, fun _ => ⟨rfl, rfl⟩, fun h => absurd h (by decide), Kpt.refl _ _⟩
  case round =>
    obtain ⟨k, rfl, hk, h0, h1, kz⟩ := hrel
    clear hW2 q0 q1 q2 q3
    obtain rfl | rfl : k = 0 ∨ k = 1 := by omega
    · obtain ⟨rfl, hw⟩ := h0.out rfl
      have hw' := hw.symm
      subst hw'
      clear hw h0 h1
      obtain ⟨⟨q0, q1, q2, q3⟩, hd⟩ := HM.out W2 (Kpt.refl _ _)
      have DH : Hid _ := hd
      obtain ⟨d0, d1, d2, d3, _⟩ := hd
      go_wp2_with fail
      go_at_call 77
      refine (tops_d5 W2H.out DH.out.kid (by omega)).mono ?_
      rintro e W3 ⟨rfl, ⟨gt, ct, ev, w3⟩, k3⟩
      have W3H : Hid _ := w3
      have K3 : Hid _ := k3
      clear w3 k3 q0 q1 q2 q3 d0 d1 d2 d3
      obtain ⟨⟨q0, q1, q2, q3⟩, hd⟩ := HM.out W3 K3.out
      have DH3 : Hid _ := hd
      obtain ⟨d0, d1, d2, d3, _⟩ := hd
      go_wp2_with fail
      go_at_call 78
      refine (size_d5 DH3.out.kid _).mono ?_
      rintro e W4 ⟨rfl, b4⟩
      have w4 := (b4.block _ (Array.getElem?_eq_some_iff.1 W3H.out).1).trans W3H.out
      have k4 := K3.out.then b4
      go_wp2
      exact ⟨⟨1, by simp, by omega, fun h => absurd h (by decide), fun _ => ⟨gt, ct, ev, w4⟩, k4⟩, by simp [intOf]⟩
    · obtain ⟨gt, ct, ev, w3⟩ := h1.out rfl
      have W3H : Hid _ := w3
      clear w3 h0 h1
      obtain ⟨⟨q0, q1, q2, q3⟩, hd⟩ := HM.out wr kz.out
      have DH : Hid _ := hd
      clear hd
      go_wp2_with fail
      go_at_call 79
      refine (kids_m5 DH.out).mono ?_
      rintro e W4 ⟨rfl, b4⟩
      have w4 := (b4.block _ (Array.getElem?_eq_some_iff.1 W3H.out).1).trans W3H.out
      have k4 : Hid (Kpt W1.heap.size W2 W4) := kz.out.then b4
      have B4 : Hid (Below W0.heap.size W0 W4) := B2.out.trans (k4.out.below s1 B2.out.size)
      obtain ⟨⟨x0, x1, x2, x3, x4, x5, x6, x7⟩, _⟩ := box8 w4
      have n4 := (B4.out.block (W.heap.size + 1) s0).trans N0.out
      have N4 : Hid _ := n4
      have y0 : W4.cell? ⟨W.heap.size + 1, 0, none⟩ = some (.slice none 0 0) := by simp [World.cell?, n4]
      have y1 : W4.cell? ⟨W.heap.size + 1, 1, none⟩ = some (.slice none 0 0) := by simp [World.cell?, n4]
      have z0 : W4.frozen? ⟨W.heap.size + 1, 0, none⟩ = false := by simp [World.frozen?, n4]
      have z1 : W4.frozen? ⟨W.heap.size + 1, 1, none⟩ = false := by simp [World.frozen?, n4]
      clear q0 q1 q2 q3 b4 w4 n4
      go_wp2_with fail
      have su : (fun X : World => X.cell? ⟨W1.heap.size, 0, none⟩ = some (.slice (some ⟨gt, 0, none⟩) 1 ct) ∧ X.cell? ⟨W1.heap.size, 1, none⟩ = some (.slice none 0 0)) (World.drew W4) := ⟨x0, x1⟩
      refine wp_region_U (u := 9) (S := fun X => X.cell? ⟨W1.heap.size, 0, none⟩ = some (.slice (some ⟨gt, 0, none⟩) 1 ct) ∧ X.cell? ⟨W1.heap.size, 1, none⟩ = some (.slice none 0 0)) (by kernel_rfl) ?_
      change wpAnyU _ _ _ _ _ _ _ _ _ (World.drew _)
      refine uT 0 (.pointer (some ⟨W1.heap.size, 0, none⟩)) su ?_
      refine uT 1 (.pointer (some ⟨W1.heap.size, 0, none⟩)) su ?_
      refine uT 2 (.pointer (some ⟨W1.heap.size, 0, none⟩)) su ?_
      refine uT 3 (.slice (some ⟨gt, 0, none⟩) 1 ct) su ?_
      refine uT 4 (.pointer (some ⟨W1.heap.size, 0, none⟩)) su ?_
      refine uT 5 (.pointer (some ⟨W1.heap.size, 0, none⟩)) su ?_
      refine uT 6 (.pointer (some ⟨W1.heap.size, 1, none⟩)) su ?_
      refine uT 7 (.slice none 0 0) su ?_
      refine uT 8 (.agg #[.slice (some ⟨gt, 0, none⟩) 1 ct, .slice none 0 0]) su ?_
      refine U_end (by kernel_rfl) ?_
      refine wpAny_chain [_, _, _] [9, 10, 11] _ _ _ _ (by kernel_rfl) rfl (by decide) ?_
      clear su x0 x1 x2 x3 x4 x5 x6 x7
      go_wp2
      have t2 := two_set N4.out (.slice (some ⟨gt, 0, none⟩) 1 ct) (.slice none 0 0)
      refine bodyPost_ret (res_sc Tryz.results52 (W := World.drew _) t2.1 t2.2 rfl rfl rfl) rfl ⟨⟨gt, ct, rfl⟩, ?_⟩
      have bb := B0.out.trans (B4.out.mono B0.out.size)
      exact below_drewN ((bb.setCell (by show _ ≤ W.heap.size + 1; omega) _).setCell (by show _ ≤ W.heap.size + 1; omega) _) 1
end
theorem nrm_A : Pa.nrmB pthA = pthA ∧ Pa.nrmE pthA = 0 := by decide +kernel
theorem res_gr {fn : Func} {p q r s : Nat} (h : fn.results = #[.cell p 38, .tmp q, .tmp r, .tmp s]) {W : World} {n : Nat} {a u v y : Value} {tmps : Array Value} (hb : W.cell? ⟨n, 0, none⟩ = some a) (ht : tmps[p]?.getD undef = .pointer (some ⟨n, 0, none⟩)) (hq : tmps[q]?.getD undef = u) (hr : tmps[r]?.getD undef = v) (hs : tmps[s]?.getD undef = y) :
    (results fn tmps).run Tryz.prog W = .ok (.tuple #[.agg #[a], u, v, y]) W := by
  simp [results, h, go_sem, ht, hb, hq, hr, hs]
section
variable {W : World} {fb cf : Nat}
set_option maxRecDepth 100000 in
set_option maxHeartbeats 4000000 in
theorem load_src (hf : W.ownsRow 0 47 2 (.slice (some ⟨fb, 0, none⟩) 1 cf) 1 (Vf.flat tabA)) :
    Calls Tryz.prog 28 #[.slice (some ⟨fb, 0, none⟩) 1 cf, .string pthA] W fun e w' => ∃ gm cm g o c, e = .returned (.tuple #[.agg #[.slice (some ⟨gm, 0, none⟩) 1 cm], .string ⟨#[]⟩, .string ⟨#[]⟩, .int .i64 0]) ∧ MdAt w' W.heap.size gm g o c ∧ Below W.heap.size W w' := by
  have HF : Hid (∀ X, Below W.heap.size W X → X.ownsRow 0 47 2 (.slice (some ⟨fb, 0, none⟩) 1 cf) 1 (Vf.flat tabA)) := fun X b => row_bel hf b
  have CN := fun X => Pa.refNormal_any pthA X (by decide)
  simp only [nrm_A.1, nrm_A.2] at CN
  have CP : ∀ X, Below W.heap.size W X → _ := fun X b => rprobe_any X _ tabA pthA (HF.out X b) tabA_ris (by decide) (by decide)
  simp only [tabA_prb, Option.getD_some, Option.isSome_some] at CP
  have HP : Hid _ := CP
  clear CP hf
  go_enter Tryz.func28, Tryz.ntmps28
  go_wp2_with fail
  go_at_call 49
  refine (CN _).mono ?_
  rintro e W1 ⟨rfl, b1⟩
  have B1 : Hid (Below W.heap.size W W1) := (bel_a W _).trans (b1.mono (by simp))
  have HG : Hid (W1.heap[W.heap.size]? = some (.cells #[.slice none 0 0] 38 (0, 0))) := (b1.block _ (by simp)).trans (hnew _ rfl)
  have hs1 : W.heap.size < W1.heap.size := (Array.getElem?_eq_some_iff.1 HG.out).1
  clear b1
  go_wp2_with fail
  go_at_call 50
  refine (HP.out W1 B1.out).mono ?_
  rintro e W2 ⟨rfl, b2⟩
  have B2 : Hid (Below W.heap.size W W2) := B1.out.trans (b2.mono B1.out.size)
  have HG2 : Hid _ := (b2.block _ hs1).trans HG.out
  have hs2 : W.heap.size < W2.heap.size := (Array.getElem?_eq_some_iff.1 HG2.out).1
  clear b2
  go_wp2_with fail
  go_at_call 51
  refine (visit_src (hnew _ rfl) (HF.out _ (B2.out.alloc B2.out.size _))).mono ?_
  rintro e W3 ⟨rfl, ⟨gm, cm, g, o, c, w3, m3⟩, k3⟩
  have g3 := (k3.block W.heap.size (by simp; omega) (by omega)).trans (hold _ hs2 HG2.out)
  have B3 : Hid (Below W.heap.size W W3) := (B2.out.alloc B2.out.size _).trans (k3.below B2.out.size (by simp; omega))
  have M3 : Hid _ := m3
  obtain ⟨⟨c0, c1, c2, c3, c4⟩, _⟩ := box5 w3
  have q0 : W3.cell? ⟨W.heap.size, 0, none⟩ = some (.slice none 0 0) := by simp [World.cell?, g3]
  have q1 : W3.frozen? ⟨W.heap.size, 0, none⟩ = false := by simp [World.frozen?, g3]
  obtain ⟨W4, hW4⟩ : ∃ X, W3.setCell ⟨W.heap.size, 0, none⟩ (.slice (some ⟨gm, 0, none⟩) 1 cm) = X := ⟨_, rfl⟩
  have B4 : Hid (Below W.heap.size W W4) := by show Below _ _ _; rw [← hW4]; exact B3.out.setCell (by show _ ≤ W.heap.size; omega) _
  have q4 : W4.cell? ⟨W.heap.size, 0, none⟩ = some (.slice (some ⟨gm, 0, none⟩) 1 cm) := by rw [← hW4]; exact World.cell?_setCell_same' _ _ _ (by rw [q0]; rfl)
  have M4 : Hid (MdAt W4 (W.heap.size + 1) gm g o c) := (M3.out.mono (by simp; omega)).keep fun k hk _ => by rw [← hW4]; exact Below.heap_setCell _ _ _ _ (by show k ≠ W.heap.size; omega)
  clear g3 w3 m3 k3 CN
  go_wp2
  trace_state
  refine bodyPost_ret (res_gr Tryz.results28 q4 rfl rfl rfl rfl) rfl ⟨gm, cm, g, o, c, rfl, M4.out.mono (by omega), B4.out⟩
end
end Go.Proofs.YtpnljjcdlkjfhaaGreatDoor
