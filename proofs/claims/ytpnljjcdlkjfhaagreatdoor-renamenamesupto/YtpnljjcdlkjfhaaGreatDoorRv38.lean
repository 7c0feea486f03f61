/- Own text. What one module is linked to: its uses, its exports of types alone. The document's answer: Dir, the parts of a text, Normal. -/
import Derived.Test.YtpnljjcdlkjfhaaGreatDoorRv37
import Derived.Test.YtpnljjcdlkjfhaaGreatDoorRv34
set_option linter.unusedVariables false
set_option linter.unusedSimpArgs false
namespace Go.Proofs.YtpnljjcdlkjfhaaGreatDoor
open Go.RowKit
/-- one module, its scope and its entries in memory. -/
structure LnAt (W : World) (gm gs gE g o c gt ct ge ce : Nat) : Prop where
  md : MdAt W 0 gm g o c
  s0 : W.cell? ⟨gs, 0, none⟩ = some (.slice (some ⟨gt, 0, none⟩) 1 ct)
  s1 : W.cell? ⟨gs, 1, none⟩ = some (.slice none 0 0)
  n0 : W.cell? ⟨gE, 0, none⟩ = some (.slice none 0 0)
  n1 : W.cell? ⟨gE, 1, none⟩ = some (.slice (some ⟨ge, 0, none⟩) 1 ce)
  n2 : W.cell? ⟨gE, 2, none⟩ = some (.slice none 0 0)
  n3 : W.cell? ⟨gE, 3, none⟩ = some (.slice none 0 0)
  en : E5At W 0 ge
theorem LnAt.bel {W X : World} {gm gs gE g o c gt ct ge ce : Nat} (h : LnAt W gm gs gE g o c gt ct ge ce) (b : Below W.heap.size W X) : LnAt X gm gs gE g o c gt ct ge ce := by
  have ls : gs < W.heap.size := World.block_lt_of_cell? W _ h.s0
  have lE : gE < W.heap.size := World.block_lt_of_cell? W _ h.n0
  exact ⟨h.md.bel b, (b.cell (p := ⟨gs, _, none⟩) ls).trans h.s0, (b.cell (p := ⟨gs, _, none⟩) ls).trans h.s1, (b.cell (p := ⟨gE, _, none⟩) lE).trans h.n0, (b.cell (p := ⟨gE, _, none⟩) lE).trans h.n1, (b.cell (p := ⟨gE, _, none⟩) lE).trans h.n2, (b.cell (p := ⟨gE, _, none⟩) lE).trans h.n3, h.en.keep fun k _ hk => b.block k hk⟩
abbrev lnO (gm cm gs cs gE cE : Nat) (vf : Value) : Obj := .cells #[.slice (some ⟨gm, 0, none⟩) 1 cm, .slice (some ⟨gs, 0, none⟩) 1 cs, .slice (some ⟨gE, 0, none⟩) 1 cE, vf] 43
abbrev lnV (gm cm gs cs gE cE : Nat) (vf : Value) : Value := .agg #[.slice (some ⟨gm, 0, none⟩) 1 cm, .slice (some ⟨gs, 0, none⟩) 1 cs, .slice (some ⟨gE, 0, none⟩) 1 cE, vf]
section
variable {W : World}
set_option maxRecDepth 100000 in
set_option maxHeartbeats 8000000 in
theorem z13_n5 (a : Option Addr) (c : Nat) (W : World) : Calls Tryz.prog 124 #[nv 1 ⟨#[]⟩ 5 a 0 c] W fun e w' => e = .returned (.int .i64 1) ∧ Below W.heap.size W w' := by
  go_enter Tryz.func124, Tryz.ntmps124
  go_wp2_with fail
  go_loopw [3, 4] (fun v i wr => v = .int .i64 1 ∧ i = .int .i64 0 ∧ wr = W.alloc (.cells #[.int .i64 1, .string ⟨#[]⟩, .int .i64 5, .slice a 0 c] 51)) (fun _ i _ => 0)
  case atStart => exact ⟨rfl, rfl, rfl⟩
  case round =>
    obtain ⟨rfl, rfl, rfl⟩ := hrel
    go_wp2
    go_ret
    exact ⟨rfl, bel_a _ _⟩
set_option maxRecDepth 100000 in
set_option maxHeartbeats 8000000 in
theorem z13_d5 {g2 o2 c2 c : Nat} {a : Option Addr} (h : N5At W g2 o2 a c) : Calls Tryz.prog 124 #[d5V g2 o2 c2] W fun e w' => e = .returned (.int .i64 2) ∧ Below W.heap.size W w' := by
  have CZ := fun X => z13_n5 a c X
  obtain ⟨W0, hW0⟩ : ∃ X, W.alloc (.cells #[.int .i64 63, .string ⟨#[]⟩, .int .i64 0, .slice (some ⟨g2, o2, none⟩) 1 c2] 51) = X := ⟨_, rfl⟩
  have b0 : Below W.heap.size W W0 := by rw [← hW0]; exact bel_a _ _
  have m0 : W0.heap[W.heap.size]? = some (.cells #[.int .i64 63, .string ⟨#[]⟩, .int .i64 0, .slice (some ⟨g2, o2, none⟩) 1 c2] 51 (0, 0)) := by rw [← hW0]; exact hnew _ rfl
  have s0 : W.heap.size < W0.heap.size := (Array.getElem?_eq_some_iff.1 m0).1
  have hl := h.lt
  have HN : Hid (∀ X, Below W0.heap.size W0 X → N5At X g2 o2 a c ∧ X.cell? ⟨W.heap.size, 3, none⟩ = some (.slice (some ⟨g2, o2, none⟩) 1 c2)) := fun X b => ⟨h.bel (b0.trans (b.mono b0.size)) hl, (box4 ((b.block _ s0).trans m0)).1.2.2.2⟩
  have B0 : Hid _ := b0
  clear h b0 m0
  go_enter Tryz.func124, Tryz.ntmps124
  go_wp2_with fail
  go_loopw [3, 4] (fun v i wr => ∃ k : Nat, i = .int .i64 (k : Nat) ∧ k ≤ 1 ∧ v = .int .i64 (k + 1 : Int) ∧ Hid (Below W0.heap.size W0 wr)) (fun _ i _ => 1 - (intOf i).toNat)
  case atStart => exact ⟨0, rfl, by omega, rfl, Below.refl _ _⟩
  case round =>
    obtain ⟨k, rfl, hk, rfl, bz⟩ := hrel
    clear hW0
    obtain ⟨⟨n0, n1, n2, n3⟩, q3⟩ := HN.out wr bz.out
    obtain rfl | rfl : k = 0 ∨ k = 1 := by omega
    · go_wp2_with fail
      go_at_call 124
      refine (CZ _).mono ?_
      rintro e W2 ⟨rfl, b2⟩
      go_wp2
      exact ⟨⟨1, by simp, by omega, by simp, bz.out.trans (b2.mono bz.out.size)⟩, by simp [intOf]⟩
    · go_wp2
      go_ret
      exact ⟨by simp, B0.out.trans (bz.out.mono B0.out.size)⟩
set_option maxRecDepth 100000 in
set_option maxHeartbeats 8000000 in
theorem listed_m5 {g o c g2 o2 c2 ca : Nat} {a : Option Addr} (h : D5At W g o g2 o2 c2 a ca) : Calls Tryz.prog 85 #[nv 68 ⟨#[]⟩ 0 (some ⟨g, o, none⟩) 1 c] W fun e w' => e = .returned (.slice none 0 0) ∧ Below W.heap.size W w' := by
  obtain ⟨W0, hW0⟩ : ∃ X, W.alloc (.cells #[.int .i64 68, .string ⟨#[]⟩, .int .i64 0, .slice (some ⟨g, o, none⟩) 1 c] 51) = X := ⟨_, rfl⟩
  have b0 : Below W.heap.size W W0 := by rw [← hW0]; exact bel_a _ _
  have m0 : W0.heap[W.heap.size]? = some (.cells #[.int .i64 68, .string ⟨#[]⟩, .int .i64 0, .slice (some ⟨g, o, none⟩) 1 c] 51 (0, 0)) := by rw [← hW0]; exact hnew _ rfl
  have s0 : W.heap.size < W0.heap.size := (Array.getElem?_eq_some_iff.1 m0).1
  have hl := h.lt
  have hl2 := h.kid.lt
  have HN : Hid (∀ X, Below W0.heap.size W0 X → D5At X g o g2 o2 c2 a ca ∧ X.cell? ⟨W.heap.size, 3, none⟩ = some (.slice (some ⟨g, o, none⟩) 1 c)) := fun X b => ⟨h.bel (b0.trans (b.mono b0.size)) hl hl2, (box4 ((b.block _ s0).trans m0)).1.2.2.2⟩
  have B0 : Hid _ := b0
  clear h b0 m0
  go_enter Tryz.func85, Tryz.ntmps85
  go_wp2_with fail
  go_loopw [3, 4, 5] (fun l v i wr => ∃ k : Nat, i = .int .i64 (k : Nat) ∧ k ≤ 1 ∧ l = .slice none 0 0 ∧ (k = 0 → v = .int .i64 1) ∧ Hid (Below W0.heap.size W0 wr)) (fun _ _ i _ => 1 - (intOf i).toNat)
  case atStart => exact ⟨0, rfl, by omega, rfl, fun _ => rfl, Below.refl _ _⟩
  case round =>
    obtain ⟨k, rfl, hk, rfl, hv, bz⟩ := hrel
    clear hW0
    generalize wr = W1 at *
    obtain ⟨HD, q3⟩ := HN.out W1 bz.out
    have HD1 : Hid _ := HD
    obtain ⟨n0, n1, n2, n3, _⟩ := HD
    obtain rfl | rfl : k = 0 ∨ k = 1 := by omega
    · obtain rfl := hv rfl
      obtain ⟨W2, hW2⟩ : ∃ X, W1.alloc (.cells #[.int .i64 63, .string ⟨#[]⟩, .int .i64 0, .slice (some ⟨g2, o2, none⟩) 1 c2] 51) = X := ⟨_, rfl⟩
      have b2 : Below W1.heap.size W1 W2 := by rw [← hW2]; exact bel_a _ _
      have m2 : W2.heap[W1.heap.size]? = some (.cells #[.int .i64 63, .string ⟨#[]⟩, .int .i64 0, .slice (some ⟨g2, o2, none⟩) 1 c2] 51 (0, 0)) := by rw [← hW2]; exact hnew _ rfl
      have B2 : Hid (Below W0.heap.size W0 W2) := bz.out.trans (b2.mono bz.out.size)
      obtain ⟨⟨e0, e1, e2, e3⟩, _⟩ := box4 m2
      have D2 : Hid _ := (HN.out W2 B2.out).1
      clear b2 m2
      go_wp2_with fail
      go_loopw [3, 8] (fun l i wr => l = .slice none 0 0 ∧ i = .int .i64 0 ∧ wr = W2) (fun _ i _ => 0)
      case atStart => exact ⟨rfl, rfl, rfl⟩
      case round =>
        obtain ⟨rfl, rfl, h0⟩ := hrel
        have h1 := h0.symm
        subst h1
        clear h0 hW2
        go_wp2_with fail
        go_at_call 124
        refine (z13_d5 D2.out.kid).mono ?_
        rintro e W4 ⟨rfl, b4⟩
        go_wp2
        go_roundw
        case rel => exact ⟨1, by simp, by omega, rfl, fun h => absurd h (by decide), B2.out.trans (b4.mono B2.out.size)⟩
        case measure => simp [intOf]
    · go_wp2
      go_ret
      exact ⟨rfl, B0.out.trans (bz.out.mono B0.out.size)⟩
set_option maxRecDepth 100000 in
set_option maxHeartbeats 8000000 in
theorem uses_ln {gm cm gs cs gE cE g o c gt ct ge ce : Nat} {vf : Value} (h : LnAt W gm gs gE g o c gt ct ge ce) : Calls Tryz.prog 56 #[lnV gm cm gs cs gE cE vf, .int .i64 0] W fun e w' => e = .returned (.tuple #[.string ⟨#[]⟩, .bool true]) ∧ Below W.heap.size W w' := by
  have HL : Hid (∀ X, Below W.heap.size W X → LnAt X gm gs gE g o c gt ct ge ce) := fun X b => h.bel b
  obtain ⟨W0, hW0⟩ : ∃ X, W.alloc (lnO gm cm gs cs gE cE vf) = X := ⟨_, rfl⟩
  have b0 : Below W.heap.size W W0 := by rw [← hW0]; exact bel_a _ _
  have m0 : W0.heap[W.heap.size]? = some (lnO gm cm gs cs gE cE vf) := by rw [← hW0]; exact hnew _ rfl
  have s0 : W.heap.size < W0.heap.size := (Array.getElem?_eq_some_iff.1 m0).1
  have B0 : Hid _ := b0
  have HM : Hid (∀ X, Below W0.heap.size W0 X → X.cell? ⟨W.heap.size, 0, none⟩ = some (.slice (some ⟨gm, 0, none⟩) 1 cm) ∧ X.cell? ⟨W.heap.size, 1, none⟩ = some (.slice (some ⟨gs, 0, none⟩) 1 cs) ∧ X.cell? ⟨W.heap.size, 2, none⟩ = some (.slice (some ⟨gE, 0, none⟩) 1 cE) ∧ X.cell? ⟨W.heap.size, 3, none⟩ = some vf) := fun X b => (box4 ((b.block _ s0).trans m0)).1
  clear h b0 m0
  obtain ⟨q0, q1, q2, q3⟩ := HM.out W0 (Below.refl _ _)
  have L0 : Hid _ := HL.out W0 B0.out
  obtain ⟨m0, m1, m2, m3, m4, _, _, hd⟩ := L0.out.md
  obtain ⟨g2, o2, c2, a2, ca, _, D0⟩ := hd
  have DH : Hid _ := D0
  obtain ⟨d0, d1, d2, d3, _⟩ := D0
  go_enter Tryz.func56, Tryz.ntmps56
  go_wp2_with fail
  go_at_call 85
  refine (listed_m5 DH.out).mono ?_
  rintro e W1 ⟨rfl, b1⟩
  have B1 : Hid (Below W0.heap.size W0 W1) := b1
  clear b1 q0 q1 q2 q3 m0 m1 m2 m3 m4 d0 d1 d2 d3 hW0
  obtain ⟨q0, q1, q2, q3⟩ := HM.out W1 B1.out
  have L1 : Hid _ := HL.out W1 (B0.out.trans (B1.out.mono B0.out.size))
  have x1 := L1.out.s1
  go_wp2_with fail
  go_loopw [8] (fun i wr => i = .int .i64 0 ∧ wr = W1) (fun i _ => 0)
  case atStart => exact ⟨rfl, rfl⟩
  case round =>
    obtain ⟨rfl, rfl⟩ := hrel
    go_wp2
    go_ret2
    exact ⟨rfl, B0.out.trans (B1.out.mono B0.out.size)⟩
set_option maxRecDepth 100000 in
set_option maxHeartbeats 8000000 in
theorem alone_ln {gm cm gs cs gE cE g o c gt ct ge ce : Nat} {vf : Value} (h : LnAt W gm gs gE g o c gt ct ge ce) : Calls Tryz.prog 57 #[lnV gm cm gs cs gE cE vf, .int .i64 0] W fun e w' => e = .returned (.tuple #[.string ⟨#[]⟩, .bool true]) ∧ Below W.heap.size W w' := by
  have HL : Hid (∀ X, Below W.heap.size W X → LnAt X gm gs gE g o c gt ct ge ce) := fun X b => h.bel b
  obtain ⟨WA, hWA⟩ : ∃ X, (W.alloc (lnO gm cm gs cs gE cE vf)).alloc (enO (.slice none 0 0)) = X := ⟨_, rfl⟩
  have bA : Below W.heap.size W WA := by rw [← hWA]; exact (bel_a _ _).alloc (by simp <;> omega) _
  have mA : WA.heap[W.heap.size + 1]? = some (enO (.slice none 0 0)) := by rw [← hWA]; exact hnew _ (by simp)
  obtain ⟨W0, hW0⟩ : ∃ X, (((WA.setCell ⟨W.heap.size + 1, 0, none⟩ (.slice none 0 0)).setCell ⟨W.heap.size + 1, 1, none⟩ (.slice (some ⟨ge, 0, none⟩) 1 ce)).setCell ⟨W.heap.size + 1, 2, none⟩ (.slice none 0 0)).setCell ⟨W.heap.size + 1, 3, none⟩ (.slice none 0 0) = X := ⟨_, rfl⟩
  have b0 : Below W.heap.size W W0 := by
    rw [← hW0]
    exact (((bA.setCell (by show _ ≤ W.heap.size + 1; omega) _).setCell (by show _ ≤ W.heap.size + 1; omega) _).setCell (by show _ ≤ W.heap.size + 1; omega) _).setCell (by show _ ≤ W.heap.size + 1; omega) _
  have m0 : W0.heap[W.heap.size + 1]? = some (enO (.slice (some ⟨ge, 0, none⟩) 1 ce)) := by rw [← hW0]; exact box4_set _ _ _ _ mA
  obtain ⟨⟨a0, a1, a2, a3⟩, e0, e1, e2, e3⟩ := box4 mA
  have lA := (h.bel bA)
  have k0 := lA.n0
  have k1 := lA.n1
  have k2 := lA.n2
  have k3 := lA.n3
  clear lA bA mA
  have s0 : W.heap.size + 1 < W0.heap.size := (Array.getElem?_eq_some_iff.1 m0).1
  have B0 : Hid _ := b0
  have HM : Hid (∀ X, Below W0.heap.size W0 X → X.cell? ⟨W.heap.size + 1, 0, none⟩ = some (.slice none 0 0) ∧ X.cell? ⟨W.heap.size + 1, 1, none⟩ = some (.slice (some ⟨ge, 0, none⟩) 1 ce) ∧ X.cell? ⟨W.heap.size + 1, 2, none⟩ = some (.slice none 0 0) ∧ X.cell? ⟨W.heap.size + 1, 3, none⟩ = some (.slice none 0 0)) := fun X b => (box4 ((b.block _ s0).trans m0)).1
  have l1 : gE < W.heap.size := World.block_lt_of_cell? W _ h.n0
  have n0 := h.n0
  have n1 := h.n1
  have n2 := h.n2
  have n3 := h.n3
  clear h b0 m0
  go_enter Tryz.func57, Tryz.ntmps57
  go_wp2_with fail
  clear hWA a0 a1 a2 a3 e0 e1 e2 e3 k0 k1 k2 k3 n0 n1 n2 n3
  go_loopw [7, 8, 9] (fun b s i wr => ∃ k : Nat, i = .int .i64 (k : Nat) ∧ k ≤ 1 ∧ b = .int .i64 (-1) ∧ s = .string ⟨#[]⟩ ∧ Hid (Below W0.heap.size W0 wr)) (fun _ _ i _ => 1 - (intOf i).toNat)
  case atStart => exact ⟨0, rfl, by omega, rfl, rfl, Below.refl _ _⟩
  case round =>
    obtain ⟨k, rfl, hk, rfl, rfl, bz⟩ := hrel
    clear hW0
    generalize wr = W1 at *
    obtain ⟨q0, q1, q2, q3⟩ := HM.out W1 bz.out
    have BW : Hid (Below W.heap.size W W1) := B0.out.trans (bz.out.mono B0.out.size)
    have E1 : Hid _ := (HL.out W1 BW.out).en
    obtain ⟨y0, y1, y2, y3, y4, _⟩ := E1.out
    have lg : ge < W1.heap.size := E1.out.lt
    obtain rfl | rfl : k = 0 ∨ k = 1 := by omega
    · go_wp2
      exact ⟨⟨1, by simp, by omega, rfl, rfl, bz.out.alloc bz.out.size _⟩, by simp [intOf]⟩
    · clear y0 y1 y2 y3 y4
      go_wp2_with fail
      go_loopw [7, 8, 11] (fun b s i wr => i = .int .i64 0 ∧ b = .int .i64 (-1) ∧ s = .string ⟨#[]⟩ ∧ wr = W1) (fun _ _ i _ => 0)
      case atStart => exact ⟨rfl, rfl, rfl, rfl⟩
      case round =>
        obtain ⟨rfl, rfl, rfl, h0⟩ := hrel
        have h1 := h0.symm
        subst h1
        clear h0
        go_wp2
        go_ret2
        exact ⟨rfl, BW.out⟩
end
end Go.Proofs.YtpnljjcdlkjfhaaGreatDoor
set_option linter.unusedVariables false
namespace Go.Proofs.YtpnljjcdlkjfhaaGreatDoor.Pa
open Go.RowKit
set_option maxRecDepth 100000 in
theorem refDir_any (s : ByteArray) (w : World) (hs : s.size < 4611686018427387904) : Calls Tryz.prog 110 #[.string s] w fun e w' => e = .returned (.string (dirB s)) ∧ Below w.heap.size w w' := by
  go_enter Tryz.func110, Tryz.ntmps110
  go_wp2
  go_loopw [3] (fun v3 W => ∃ k : Nat, k ≤ s.size ∧ v3 = .int .i64 ((k : Int) - 1) ∧ W = w ∧ Hid (∀ j, k ≤ j → s.data.toList[j]? ≠ some 47)) (fun v3 _ => (intOf v3 + 1).toNat)
  case atStart => exact ⟨s.size, Nat.le_refl _, rfl, rfl, fun j hj h => by have := (List.getElem?_eq_some_iff.1 h).1; rw [← Lib.size_eq] at this; omega⟩
  case round =>
    obtain ⟨k, hk, rfl, rfl, hh⟩ := hrel
    cases k with
    | zero =>
      go_wp2
      go_ret
      have h47 : (47 : UInt8) ∉ s.data.toList := fun hm => by
        obtain ⟨k, hk⟩ := List.getElem?_of_mem hm
        exact hh.out k (Nat.zero_le _) hk
      exact ⟨ret_str (toList_ext (by rw [dirB_list, dirS_none h47])), Below.refl _ _⟩
    | succ j =>
      have ej : ((j + 1 : Nat) : Int) - 1 = (j : Int) := by omega
      have hj : j < s.size := by omega
      have c1 : (j : Int) ≤ (s.size : Int) := by omega
      rw [ej]
      clear ej
      have hby := byte_at s j hj
      go_wp2
      · have hx0 : (((s[j].toNat : Nat) : Int) == 47) = true := by assumption
        have hx : ((s[j].toNat : Nat) : Int) = 47 := by simpa using hx0
        clear hx0
        go_ret
        have h47 : s.data.toList[j]? = some 47 := by
          rw [hby]
          exact congrArg some (UInt8.toNat_inj.1 (by simpa using (Int.ofNat_inj.1 (by simpa using hx) : s[j].toNat = 47)))
        exact ⟨ret_str (toList_ext (by rw [dirB_list, dirS_cut s j h47 (fun i hi => hh.out i hi)])), Below.refl _ _⟩
      · have hx0 : (((s[j].toNat : Nat) : Int) == 47) = false := by assumption
        have hx : ¬ ((s[j].toNat : Nat) : Int) = 47 := by simpa using hx0
        go_roundw
        case rel =>
          refine ⟨j, by omega, rfl, by simp, fun i hi h => ?_⟩
          by_cases e : i = j
          · subst e
            rw [hby] at h
            exact hx (by rw [Option.some.inj h]; rfl)
          · exact hh.out i (by omega) h
        case measure => simp [intOf]

/-- parts, place by place. -/
theorem parts_end {l : Bs} {f : Nat} (h : 47 ∉ (l.drop f).take (l.length - f)) : splitS (l.drop f) = [(l.drop f).take (l.length - f)] := by
  have e : (l.drop f).take (l.length - f) = l.drop f := List.take_of_length_le (by simp)
  rw [e] at h ⊢
  exact splitS_plain h
set_option maxRecDepth 100000 in
theorem parts_cut {l : Bs} {f i : Nat} (hf : f ≤ i) (hi : l[i]? = some 47) (h : 47 ∉ (l.drop f).take (i - f)) : splitS (l.drop f) = (l.drop f).take (i - f) :: splitS (l.drop (i + 1)) := by
  have e : l.drop f = (l.drop f).take (i - f) ++ 47 :: l.drop (i + 1) := by
    have h2 : (l.drop f)[i - f]? = some 47 := by rw [List.getElem?_drop, Nat.add_sub_cancel' hf]; exact hi
    have := split_at h2
    rw [List.drop_drop] at this
    rwa [show f + (i - f + 1) = i + 1 from by omega] at this
  conv => lhs; rw [e]
  exact splitS_cut _ h
set_option maxRecDepth 100000 in
theorem parts_go {l : Bs} {f i : Nat} {c : UInt8} (hf : f ≤ i) (hi : l[i]? = some c) (hc : c ≠ 47) (h : 47 ∉ (l.drop f).take (i - f)) : 47 ∉ (l.drop f).take (i + 1 - f) := by
  rw [show i + 1 - f = (i - f) + 1 from by omega, List.take_add_one, List.getElem?_drop, Nat.add_sub_cancel' hf, hi]
  intro hm
  rcases List.mem_append.1 hm with hm | hm
  · exact h hm
  · exact hc (by have h3 := hm; simp at h3; exact h3.symm)

set_option maxRecDepth 100000 in
theorem slice_run (s : ByteArray) (i j : Nat) (h1 : i ≤ j) (h2 : j ≤ s.size) (W : World) : (Instr.slice 9 (.string s) (some (.int .i64 (i : Int))) (some (.int .i64 (j : Int))) none).run Tryz.prog W = .ok (.string (s.extract i j)) W := by
  rw [run_slice_string W _ _ _ _ _ _ Tryz.underlying9 (by omega) (by omega) (by omega)]
  rfl

set_option maxHeartbeats 4000000 in
set_option maxRecDepth 100000 in
theorem parts_any (s : ByteArray) (w : World) (hs : s.size ≤ 1099511627776) : Calls Tryz.prog 68 #[.string s] w fun e w' =>
    ∃ v, e = .returned v ∧ Texts w' w.heap.size v (splitS s.data.toList) ∧ Below w.heap.size w w' ∧ (splitS s.data.toList).length ≤ s.size + 1 := by
  obtain ⟨i0, hi, hz0, hz1, hz2⟩ := info_parts info_str
  go_enter Tryz.func68, Tryz.ntmps68
  go_wp2
  go_loopw [3, 4, 5] (fun v3 v4 v5 W => ∃ (f i : Nat) (acc : List Bs), f ≤ i ∧ i ≤ s.size + 1 ∧ (i ≤ s.size ∨ f = s.size + 1) ∧ v4 = .int .i64 f ∧ v5 = .int .i64 i ∧ Texts W w.heap.size v3 acc ∧ Below w.heap.size w W ∧ acc.length ≤ f ∧
      Hid (splitS s.data.toList = acc ++ (if f ≤ s.size then splitS (s.data.toList.drop f) else []) ∧ 47 ∉ (s.data.toList.drop f).take (i - f))) (fun _ _ v5 _ => s.size + 1 - (intOf v5).toNat)
  case atStart => exact ⟨0, 0, [], by omega, by omega, .inl (by omega), rfl, rfl, World.ownsRow_nil _ _ _ _, Below.refl _ _, by simp, by simp, by simp⟩
  case round =>
    obtain ⟨f, i, acc, hfi, hiz, hor, rfl, rfl, ht, hb, hal, hh⟩ := hrel
    have hsl : Hid (s.size = s.data.toList.length) := Lib.size_eq s
    by_cases hie : i ≤ s.size
    · have hi1 : (i : Int) ≤ (s.size : Int) := by omega
      have hsr := slice_run s f i hfi hie
      obtain ⟨X, hX, hXl⟩ : ∃ X, (∀ W, (Instr.slice 9 (.string s) (some (.int .i64 (f : Int))) (some (.int .i64 (i : Int))) none).run Tryz.prog W = .ok (.string X) W) ∧ X.data.toList = (s.data.toList.drop f).take (i - f) := ⟨_, hsr, extract_mid s f i⟩
      have HX : Hid (X.data.toList = (s.data.toList.drop f).take (i - f)) := hXl
      clear hsr hXl
      by_cases hiz2 : i = s.size
      · have hsp : Hid (splitS s.data.toList = acc ++ [X.data.toList]) := by
          obtain ⟨h1, h2⟩ := hh.out
          rw [if_pos (by omega)] at h1
          show _ = _
          rw [h1, HX.out]
          rw [hiz2, hsl.out] at h2 ⊢
          rw [parts_end h2]
        subst hiz2
        clear HX
        go_wp2_with (at_builtin; refine wpList_append_own _ rfl _ _ 70 rfl w.heap.size 9 i0 (.string ByteArray.empty) 1 16 Tryz.underlying70 hi hz0 hz1 hz2 rfl (by decide) _ _ _ rfl (ht.alloc _) ⟨_, 0, none⟩ 1 1 [.string X] rfl rfl (cell_one_new _ _ _) (fun x hx => by simp at hx; subst hx; rfl) (by unfold maxLen; omega) (by omega) (by have := hb.size; simp; omega) ?_; intro v1 W1 ho1 hg1 hn1)
        go_roundw
        case rel =>
          refine ⟨s.size + 1, s.size + 1, acc ++ [X.data.toList], by omega, by omega, .inr rfl, by simp, by simp, texts_app ho1 rfl, (hb.alloc hb.size _).grown hg1 (by have := hb.size; simp; omega) (fun j hj => (ht.lt j hj).1), by simp; omega, ?_, by simp⟩
          rw [hsp.out, if_neg (by omega), List.append_nil]
        case measure => simp [intOf]
      · have c1 : ((i : Int) == (s.size : Int)) = false := by simp; omega
        have hil : i < s.size := by omega
        have hby := byte_at s i hil
        by_cases hx : s[i] = 47
        · have hsp : Hid (splitS s.data.toList = (acc ++ [X.data.toList]) ++ splitS (s.data.toList.drop (i + 1))) := by
            obtain ⟨h1, h2⟩ := hh.out
            rw [if_pos (by omega)] at h1
            show _ = _
            rw [h1, HX.out, parts_cut hfi (by rw [hby, hx]) h2]
            simp
          clear HX hby hiz2
          go_wp2_with (at_builtin; refine wpList_append_own _ rfl _ _ 70 rfl w.heap.size 9 i0 (.string ByteArray.empty) 1 16 Tryz.underlying70 hi hz0 hz1 hz2 rfl (by decide) _ _ _ rfl (ht.alloc _) ⟨_, 0, none⟩ 1 1 [.string X] rfl rfl (cell_one_new _ _ _) (fun x hx => by simp at hx; subst hx; rfl) (by unfold maxLen; omega) (by omega) (by have := hb.size; simp; omega) ?_; intro v1 W1 ho1 hg1 hn1)
          go_roundw
          case rel =>
            refine ⟨i + 1, i + 1, acc ++ [X.data.toList], by omega, by omega, .inl (by omega), by simp, by simp, texts_app ho1 rfl, (hb.alloc hb.size _).grown hg1 (by have := hb.size; simp; omega) (fun j hj => (ht.lt j hj).1), by simp; omega, ?_, by simp⟩
            rw [hsp.out, if_pos (by omega)]
          case measure => simp [intOf]; omega
        · have c2 : (((s[i].toNat : Nat) : Int) == 47) = false := by
            simp
            exact fun e => hx (UInt8.toNat_inj.1 (by simpa using (Int.ofNat_inj.1 (by simpa using e) : s[i].toNat = 47)))
          have hg2 : Hid (47 ∉ (s.data.toList.drop f).take (i + 1 - f)) := parts_go hfi hby hx hh.out.2
          clear HX hby hiz2 hx
          go_wp2
          go_roundw
          case rel => exact ⟨f, i + 1, acc, by omega, by omega, .inl (by omega), rfl, by simp, ht, hb, hal, hh.out.1, hg2.out⟩
          case measure => simp [intOf]; omega
    · have hf : f = s.size + 1 := by omega
      have hi1 : ¬ (i : Int) ≤ (s.size : Int) := by omega
      have hsp : Hid (splitS s.data.toList = acc) := by
        have h1 := hh.out.1
        rw [if_neg (by omega), List.append_nil] at h1
        exact h1
      clear hh
      subst hf
      go_wp2
      go_ret
      refine ⟨_, rfl, ?_, hb, ?_⟩
      · rw [hsp.out]; exact ht
      · rw [hsp.out]; exact hal

end Go.Proofs.YtpnljjcdlkjfhaaGreatDoor.Pa
