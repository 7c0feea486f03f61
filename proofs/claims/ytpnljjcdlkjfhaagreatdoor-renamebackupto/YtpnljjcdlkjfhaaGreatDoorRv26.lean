/- Own text. The program's image of the one item of one module. The document's walk over one tree: its names, which are none. -/
import Derived.Test.YtpnljjcdlkjfhaaGreatDoorRv25
import Derived.Test.YtpnljjcdlkjfhaaGreatDoorRv17
set_option linter.unusedVariables false
set_option linter.unusedSimpArgs false
namespace Go.Proofs.YtpnljjcdlkjfhaaGreatDoor
open Go.RowKit
theorem n5_lat {W : World} {g2 o2 ca : Nat} {a : Option Addr} (h : N5At W g2 o2 a ca) (c2 : Nat) : LAt W (fun _ => True) (.slice (some ⟨g2, o2, none⟩) 1 c2) [N5] := by
  refine LAt.row g2 o2 c2 [N5] (fun _ => .slice a 0 ca) trivial h.lt (fun i hi => ?_) (fun i hi => ?_)
  · obtain rfl : i = 0 := by simp at hi; exact hi
    exact ⟨by simpa [N5, Nd.k] using h.k, by simpa [N5, Nd.t] using h.t, by simpa [N5, Nd.n] using h.n, by simpa using h.ks⟩
  · obtain rfl : i = 0 := by simp at hi; exact hi
    exact .nil a ca
theorem res_ndb {fn : Func} {p q : Nat} (h : fn.results = #[.cell p 51, .tmp q]) {W : World} {n : Nat} {a b c d u : Value} {t : TypeId} {tmps : Array Value} (hb : W.heap[n]? = some (.cells #[a, b, c, d] t (0, 0))) (ht : tmps[p]?.getD undef = .pointer (some ⟨n, 0, none⟩)) (hq : tmps[q]?.getD undef = u) :
    (results fn tmps).run Tryz.prog W = .ok (.tuple #[.agg #[a, b, c, d], u]) W := by
  obtain ⟨⟨c0, c1, c2, c3⟩, _⟩ := box4 hb
  simp [results, h, go_sem, ht, hq, c0, c1, c2, c3]
theorem d5_at {W : World} {g g2 o2 c2 c : Nat} {a : Option Addr} {t : TypeId} (h : W.heap[g]? = some (.cells #[.int .i64 63, .string ⟨#[]⟩, .int .i64 0, .slice (some ⟨g2, o2, none⟩) 1 c2] t (0, 0))) (k : N5At W g2 o2 a c) : D5At W g 0 g2 o2 c2 a c := by
  obtain ⟨⟨c0, c1, c2, c3⟩, _⟩ := box4 h
  exact ⟨c0, c1, c2, c3, k⟩
theorem d5_tx : D5.tx := by
  intro y hy
  simp [D5, N5, Nd.flat_eq, flats_cons, flats_nil, Nd.ks] at hy
  rcases hy with rfl | rfl <;> decide
section
variable {W : World} {gm gs g o c cu cm cs ne ce nf cf : Nat} {au pe pf : Option Addr}
set_option maxRecDepth 100000 in
set_option maxHeartbeats 4000000 in
theorem item_one (h : LkAt W gm gs g o c au cu) {g2 o2 c2 ca : Nat} {a : Option Addr} (hd : D5At W g o g2 o2 c2 a ca) : Calls Tryz.prog 21 #[lkV gm cm gs cs pe pf ne ce nf cf, .int .i64 0, .int .i64 0] W fun e w' => (∃ n, e = .returned (.tuple #[.agg #[.int .i64 40, .string ⟨#[100, 101, 102, 97, 117, 108, 116, 36, 48]⟩, .int .i64 1, .slice (some ⟨n, 0, none⟩) 2 2], .bool true])) ∧ Below W.heap.size W w' := by
  have HH : Hid (∀ X, Below W.heap.size W X → LkAt X gm gs g o c au cu) := fun X b => h.bel b
  have hl := hd.lt
  have hl2 := hd.kid.lt
  have HD : Hid (∀ X, Below W.heap.size W X → D5At X g o g2 o2 c2 a ca) := fun X b => hd.bel b hl hl2
  clear h hd
  go_enter Tryz.func21, Tryz.ntmps21
  go_wp2_with fail
  go_at_call 30
  have b0 : Hid (Below W.heap.size W ((W.alloc (.cells #[.slice (some ⟨gm, 0, none⟩) 1 cm, .slice (some ⟨gs, 0, none⟩) 1 cs, .slice pe ne ce, .slice pf nf cf] 43)).alloc (.cells #[.int .i64 0, .string ⟨#[]⟩, .int .i64 0, .slice none 0 0] 51))) := (bel_a W _).alloc (by simp <;> omega) _
  have m0 := hold (w := W.alloc (.cells #[.slice (some ⟨gm, 0, none⟩) 1 cm, .slice (some ⟨gs, 0, none⟩) 1 cs, .slice pe ne ce, .slice pf nf cf] 43)) (.cells #[.int .i64 0, .string ⟨#[]⟩, .int .i64 0, .slice none 0 0] 51) (k := W.heap.size) (by simp <;> omega) (hnew (w := W) (.cells #[.slice (some ⟨gm, 0, none⟩) 1 cm, .slice (some ⟨gs, 0, none⟩) 1 cs, .slice pe ne ce, .slice pf nf cf] 43) rfl)
  have m1 := hnew (w := W.alloc (.cells #[.slice (some ⟨gm, 0, none⟩) 1 cm, .slice (some ⟨gs, 0, none⟩) 1 cs, .slice pe ne ce, .slice pf nf cf] 43)) (.cells #[.int .i64 0, .string ⟨#[]⟩, .int .i64 0, .slice none 0 0] 51) (k := W.heap.size + 1) (by simp)
  obtain ⟨W0, hW0⟩ : ∃ X, ((W.alloc (.cells #[.slice (some ⟨gm, 0, none⟩) 1 cm, .slice (some ⟨gs, 0, none⟩) 1 cs, .slice pe ne ce, .slice pf nf cf] 43)).alloc (.cells #[.int .i64 0, .string ⟨#[]⟩, .int .i64 0, .slice none 0 0] 51)) = X := ⟨_, rfl⟩
  rw [hW0] at b0 m0 m1 ⊢
  have HS : Hid (W0.heap.size = W.heap.size + 2) := by show _ = _; rw [← hW0]; simp
  clear hW0
  have M0 : Hid _ := m0
  have M1 : Hid _ := m1
  clear m0 m1
  refine (wItem (HH.out _ b0.out)).mono ?_
  rintro e W1 ⟨rfl, b1⟩
  have B1 : Hid (Below W0.heap.size W0 W1) := b1
  have D1 : Hid _ := HD.out _ (b0.out.trans (b1.mono b0.out.size))
  obtain ⟨d0, d1, d2, d3, _⟩ := D1.out
  clear b1
  go_wp2_with fail
  go_at_call 32
  refine (held_d5 _ _ _ _ _ _ D1.out.kid).mono ?_
  rintro e W2 ⟨⟨n2, rfl⟩, b2⟩
  have B2 : Hid (Below W0.heap.size W0 W2) := B1.out.trans (b2.mono B1.out.size)
  clear d0 d1 d2 d3 b2
  go_wp2_with fail
  go_at_call 31
  refine (hasImage_let _ _ _ _).mono ?_
  rintro e W3 ⟨rfl, b3⟩
  have B3 : Hid (Below W0.heap.size W0 W3) := B2.out.trans (b3.mono B2.out.size)
  have D3 : Hid _ := HD.out _ (b0.out.trans (B3.out.mono b0.out.size))
  obtain ⟨d0, d1, d2, d3, _⟩ := D3.out
  clear b3
  go_wp2_with fail
  go_at_call 33
  refine (copy_any D5 W3 (fun _ => True) (.slice (some ⟨g2, o2, none⟩) 1 c2) (n5_lat D3.out.kid c2) (by simp [D5, N5, Nd.size_eq, sizes_cons, sizes_nil, Nd.ks]) d5_tx).mono ?_
  rintro e W4 ⟨v4, rfl, p4, b4⟩
  obtain ⟨g4, o4, c4, a4, ca4, rfl, hS4, hn4⟩ := n5_of (h := p4.lat)
  have B4 : Hid (Below W0.heap.size W0 W4) := B3.out.trans (b4.mono B3.out.size)
  have hg4 : g4 < W4.heap.size := hS4.2
  have N4 : Hid _ := hn4
  clear d0 d1 d2 d3 b4 p4 hS4 hn4
  simp only [D5, Nd.v, Nd.k, Nd.t, Nd.n]
  obtain ⟨W5, hW5⟩ : ∃ X, W4.alloc (.cells #[.int .i64 63, .string ⟨#[]⟩, .int .i64 0, .slice (some ⟨g4, o4, none⟩) 1 c4] 51) = X := ⟨_, rfl⟩
  have hs0 := HS.out
  have hs4 := B4.out.size
  have B5 : Hid (Below W0.heap.size W0 W5) := by show Below _ _ _; rw [← hW5]; exact B4.out.alloc hs4 _
  have i5 : W5.heap[W4.heap.size]? = some (.cells #[.int .i64 63, .string ⟨#[]⟩, .int .i64 0, .slice (some ⟨g4, o4, none⟩) 1 c4] 51 (0, 0)) := by rw [← hW5]; exact hnew _ rfl
  have N5' : Hid (N5At W5 g4 o4 a4 ca4) := by show N5At _ _ _ _ _; rw [← hW5]; exact N4.out.bel (bel_a _ _) hg4
  have I5 : Hid (D5At W5 W4.heap.size 0 g4 o4 c4 a4 ca4) := d5_at i5 N5'.out
  obtain ⟨i0, i1, i2, i3, _⟩ := I5.out
  obtain ⟨⟨c0, c1, c2', c3⟩, _⟩ := box4 ((B5.out.block W.heap.size (by omega)).trans M0.out)
  have HI : Hid (∀ X, Below W5.heap.size W5 X → D5At X W4.heap.size 0 g4 o4 c4 a4 ca4) := fun X b => I5.out.bel b I5.out.lt I5.out.kid.lt
  clear i5 hs0 hs4
  go_wp2_with fail
  go_at_call 34
  refine (each_d5 (HH.out _ (b0.out.trans (B5.out.mono b0.out.size))) I5.out).mono ?_
  rintro e W6 ⟨rfl, b6⟩
  have B6 : Hid (Below W5.heap.size W5 W6) := b6
  clear hW5 b6 c0 c1 c2' c3 i0 i1 i2 i3
  go_wp2_with fail
  go_at_call 36
  refine (drop_d5 _ _ _ _ _ _ _ _ (HI.out _ B6.out)).mono ?_
  rintro e W7 ⟨rfl, rfl⟩
  obtain ⟨i0, i1, i2, i3, _⟩ := HI.out _ B6.out
  go_wp2_with fail
  go_at_call 32
  refine (held_d5 _ _ _ _ _ _ (HI.out _ B6.out).kid).mono ?_
  rintro e W8 ⟨⟨n8, rfl⟩, b8⟩
  have B8 : Hid (Below W5.heap.size W5 W8) := B6.out.trans (b8.mono B6.out.size)
  clear b8 i0 i1 i2 i3
  go_wp2_with fail
  go_at_call 37
  refine (declared_let _ _).mono ?_
  rintro e W9 ⟨rfl, b9⟩
  have B9 : Hid (Below W0.heap.size W0 W9) := B5.out.trans ((B8.out.trans (b9.mono B8.out.size)).mono B5.out.size)
  have m9 := (B9.out.block (W.heap.size + 1) (by have := HS.out; omega)).trans M1.out
  have M9 : Hid _ := m9
  obtain ⟨⟨q0, q1, q2, q3⟩, _⟩ := box4 m9
  clear b9 m9
  go_wp2
  refine bodyPost_ret (res_ndb Tryz.results21 (box4_set _ _ _ _ M9.out) rfl rfl) rfl ⟨⟨_, rfl⟩, ?_⟩
  have bb := b0.out.trans (B9.out.mono b0.out.size)
  exact (((bb.setCell (by show _ ≤ W.heap.size + 1; omega) _).setCell (by show _ ≤ W.heap.size + 1; omega) _).setCell (by show _ ≤ W.heap.size + 1; omega) _).setCell (by show _ ≤ W.heap.size + 1; omega) _
end
theorem size_n5 (a : Option Addr) (c : Nat) (W : World) : Calls Tryz.prog 78 #[nv 1 ⟨#[]⟩ 5 a 0 c] W fun e w' => e = .returned (.int .i64 1) ∧ Below W.heap.size W w' := by
  have := rsize_any N5 W (fun _ => True) (.slice a 0 c) (.nil a c) (by simp [N5, Nd.size_eq, sizes_cons, sizes_nil, Nd.ks])
  have e : N5.size = 1 := by simp [N5, Nd.size_eq, sizes_cons, sizes_nil, Nd.ks]
  rw [e] at this
  exact this
theorem size_d5 {W : World} {g2 o2 ca : Nat} {a : Option Addr} (h : N5At W g2 o2 a ca) (c2 : Nat) : Calls Tryz.prog 78 #[d5V g2 o2 c2] W fun e w' => e = .returned (.int .i64 2) ∧ Below W.heap.size W w' := by
  have := rsize_any D5 W (fun _ => True) (.slice (some ⟨g2, o2, none⟩) 1 c2) (n5_lat h c2) (by simp [D5, N5, Nd.size_eq, sizes_cons, sizes_nil, Nd.ks])
  have e : D5.size = 2 := by simp [D5, N5, Nd.size_eq, sizes_cons, sizes_nil, Nd.ks]
  rw [e] at this
  exact this
section
variable {W : World} {wb : Nat}
set_option maxRecDepth 100000 in
set_option maxHeartbeats 8000000 in
theorem kids_n5 (a : Option Addr) (c : Nat) (W : World) : Calls Tryz.prog 79 #[.pointer (some ⟨wb, 0, none⟩), nv 1 ⟨#[]⟩ 5 a 0 c, .int .i64 2] W fun e w' => e = .returned (.tuple #[]) ∧ Below W.heap.size W w' := by
  go_enter Tryz.func79, Tryz.ntmps79
  go_wp2_with fail
  go_loopw [7] (fun i wr => i = .int .i64 0 ∧ wr = W.alloc (.cells #[.int .i64 1, .string ⟨#[]⟩, .int .i64 5, .slice a 0 c] 51)) (fun i _ => 0)
  case atStart => exact ⟨rfl, rfl⟩
  case round =>
    obtain ⟨rfl, rfl⟩ := hrel
    go_wp2
    go_end0
    exact ⟨rfl, bel_a _ _⟩
set_option maxRecDepth 100000 in
set_option maxHeartbeats 8000000 in
theorem walk_n5 (a : Option Addr) (c : Nat) (W : World) : Calls Tryz.prog 121 #[.pointer (some ⟨wb, 0, none⟩), nv 1 ⟨#[]⟩ 5 a 0 c, .int .i64 2] W fun e w' => e = .returned (.tuple #[]) ∧ Below W.heap.size W w' := by
  have C := fun X => kids_n5 (wb := wb) a c X
  go_enter Tryz.func121, Tryz.ntmps121
  go_wp2_with fail
  go_at_call 79
  refine (C _).mono ?_
  rintro e W1 ⟨rfl, b1⟩
  go_wp2
  go_end0
  exact ⟨rfl, (bel_a W _).trans (b1.mono (by simp))⟩
set_option maxRecDepth 100000 in
set_option maxHeartbeats 8000000 in
theorem kids_d5 {g2 o2 c2 c : Nat} {a : Option Addr} (h : N5At W g2 o2 a c) : Calls Tryz.prog 79 #[.pointer (some ⟨wb, 0, none⟩), d5V g2 o2 c2, .int .i64 1] W fun e w' => e = .returned (.tuple #[]) ∧ Below W.heap.size W w' := by
  have CW := fun X => walk_n5 (wb := wb) a c X
  have CZ := fun X => size_n5 a c X
  obtain ⟨W0, hW0⟩ : ∃ X, W.alloc (.cells #[.int .i64 63, .string ⟨#[]⟩, .int .i64 0, .slice (some ⟨g2, o2, none⟩) 1 c2] 51) = X := ⟨_, rfl⟩
  have b0 : Below W.heap.size W W0 := by rw [← hW0]; exact bel_a _ _
  have m0 : W0.heap[W.heap.size]? = some (.cells #[.int .i64 63, .string ⟨#[]⟩, .int .i64 0, .slice (some ⟨g2, o2, none⟩) 1 c2] 51 (0, 0)) := by rw [← hW0]; exact hnew _ rfl
  have s0 : W.heap.size < W0.heap.size := (Array.getElem?_eq_some_iff.1 m0).1
  have hl := h.lt
  have HN : Hid (∀ X, Below W0.heap.size W0 X → N5At X g2 o2 a c ∧ X.cell? ⟨W.heap.size, 3, none⟩ = some (.slice (some ⟨g2, o2, none⟩) 1 c2)) := fun X b => ⟨h.bel (b0.trans (b.mono b0.size)) hl, (box4 ((b.block _ s0).trans m0)).1.2.2.2⟩
  have B0 : Hid _ := b0
  clear h b0 m0
  go_enter Tryz.func79, Tryz.ntmps79
  go_wp2_with fail
  go_loopw [6, 7] (fun v i wr => ∃ k : Nat, i = .int .i64 (k : Nat) ∧ k ≤ 1 ∧ (k = 0 → v = .int .i64 2) ∧ Hid (Below W0.heap.size W0 wr)) (fun _ i _ => 1 - (intOf i).toNat)
  case atStart => exact ⟨0, rfl, by omega, fun _ => rfl, Below.refl _ _⟩
  case round =>
    obtain ⟨k, rfl, hk, hv, bz⟩ := hrel
    clear hW0
    obtain ⟨⟨n0, n1, n2, n3⟩, q3⟩ := HN.out wr bz.out
    obtain rfl | rfl : k = 0 ∨ k = 1 := by omega
    · obtain rfl := hv rfl
      go_wp2_with fail
      go_at_call 121
      refine (CW _).mono ?_
      rintro e W1 ⟨rfl, b1⟩
      have B1 : Hid (Below W0.heap.size W0 W1) := bz.out.trans (b1.mono bz.out.size)
      clear b1 n0 n1 n2 n3 q3
      obtain ⟨⟨n0, n1, n2, n3⟩, q3⟩ := HN.out W1 B1.out
      go_wp2_with fail
      go_at_call 78
      refine (CZ _).mono ?_
      rintro e W2 ⟨rfl, b2⟩
      go_wp2
      exact ⟨⟨1, by simp, by omega, fun h => absurd h (by decide), B1.out.trans (b2.mono B1.out.size)⟩, by simp [intOf]⟩
    · go_wp2
      go_end0
      exact ⟨rfl, B0.out.trans (bz.out.mono B0.out.size)⟩
set_option maxRecDepth 100000 in
set_option maxHeartbeats 8000000 in
theorem walk_d5 {g2 o2 c2 c : Nat} {a : Option Addr} (h : N5At W g2 o2 a c) : Calls Tryz.prog 121 #[.pointer (some ⟨wb, 0, none⟩), d5V g2 o2 c2, .int .i64 1] W fun e w' => e = .returned (.tuple #[]) ∧ Below W.heap.size W w' := by
  have C : Hid (∀ X, Below W.heap.size W X → Calls Tryz.prog 79 #[.pointer (some ⟨wb, 0, none⟩), d5V g2 o2 c2, .int .i64 1] X fun e w' => e = .returned (.tuple #[]) ∧ Below X.heap.size X w') := fun X b => kids_d5 (h.bel b h.lt)
  clear h
  go_enter Tryz.func121, Tryz.ntmps121
  go_wp2_with fail
  go_at_call 79
  refine (C.out _ (bel_a W _)).mono ?_
  rintro e W1 ⟨rfl, b1⟩
  go_wp2
  go_end0
  exact ⟨rfl, (bel_a W _).trans (b1.mono (by simp))⟩
set_option maxRecDepth 100000 in
set_option maxHeartbeats 8000000 in
theorem kids_m5 {g o c g2 o2 c2 ca : Nat} {a : Option Addr} (h : D5At W g o g2 o2 c2 a ca) : Calls Tryz.prog 79 #[.pointer (some ⟨wb, 0, none⟩), nv 68 ⟨#[]⟩ 0 (some ⟨g, o, none⟩) 1 c, .int .i64 0] W fun e w' => e = .returned (.tuple #[]) ∧ Below W.heap.size W w' := by
  obtain ⟨W0, hW0⟩ : ∃ X, W.alloc (.cells #[.int .i64 68, .string ⟨#[]⟩, .int .i64 0, .slice (some ⟨g, o, none⟩) 1 c] 51) = X := ⟨_, rfl⟩
  have b0 : Below W.heap.size W W0 := by rw [← hW0]; exact bel_a _ _
  have m0 : W0.heap[W.heap.size]? = some (.cells #[.int .i64 68, .string ⟨#[]⟩, .int .i64 0, .slice (some ⟨g, o, none⟩) 1 c] 51 (0, 0)) := by rw [← hW0]; exact hnew _ rfl
  have s0 : W.heap.size < W0.heap.size := (Array.getElem?_eq_some_iff.1 m0).1
  have hl := h.lt
  have hl2 := h.kid.lt
  have HN : Hid (∀ X, Below W0.heap.size W0 X → D5At X g o g2 o2 c2 a ca ∧ X.cell? ⟨W.heap.size, 3, none⟩ = some (.slice (some ⟨g, o, none⟩) 1 c)) := fun X b => ⟨h.bel (b0.trans (b.mono b0.size)) hl hl2, (box4 ((b.block _ s0).trans m0)).1.2.2.2⟩
  have B0 : Hid _ := b0
  clear h b0 m0
  go_enter Tryz.func79, Tryz.ntmps79
  go_wp2_with fail
  go_loopw [6, 7] (fun v i wr => ∃ k : Nat, i = .int .i64 (k : Nat) ∧ k ≤ 1 ∧ (k = 0 → v = .int .i64 1) ∧ Hid (Below W0.heap.size W0 wr)) (fun _ i _ => 1 - (intOf i).toNat)
  case atStart => exact ⟨0, rfl, by omega, fun _ => rfl, Below.refl _ _⟩
  case round =>
    obtain ⟨k, rfl, hk, hv, bz⟩ := hrel
    clear hW0
    obtain ⟨HD, q3⟩ := HN.out wr bz.out
    have HD1 : Hid _ := HD
    obtain ⟨n0, n1, n2, n3, _⟩ := HD
    obtain rfl | rfl : k = 0 ∨ k = 1 := by omega
    · obtain rfl := hv rfl
      go_wp2_with fail
      go_at_call 121
      refine (walk_d5 HD1.out.kid).mono ?_
      rintro e W1 ⟨rfl, b1⟩
      have B1 : Hid (Below W0.heap.size W0 W1) := bz.out.trans (b1.mono bz.out.size)
      clear b1 n0 n1 n2 n3 q3
      obtain ⟨HD, q3⟩ := HN.out W1 B1.out
      have HD2 : Hid _ := HD
      obtain ⟨n0, n1, n2, n3, _⟩ := HD
      go_wp2_with fail
      go_at_call 78
      refine (size_d5 HD2.out.kid _).mono ?_
      rintro e W2 ⟨rfl, b2⟩
      go_wp2
      exact ⟨⟨1, by simp, by omega, fun h => absurd h (by decide), B1.out.trans (b2.mono B1.out.size)⟩, by simp [intOf]⟩
    · go_wp2
      go_end0
      exact ⟨rfl, B0.out.trans (bz.out.mono B0.out.size)⟩
end
end Go.Proofs.YtpnljjcdlkjfhaaGreatDoor
