/- Own text. The program's image of one tree: export default 5. The document's form of one tree: export default 5. The contract of byNumber of package runes: the number of a byte in hexadecimal digits. The contract of Quote of package runes: a text in quotes, of every text that is not too long. -/
import Derived.Test.YtpnljjcdlkjfhaaGreatDoorRv16
import Derived.Test.YtpnljjcdlkjfhaaGreatDoorRv12
import Derived.Test.YtpnljjcdlkjfhaaGreatDoorRv14
import Derived.Test.YtpnljjcdlkjfhaaGreatDoorShelf
import Derived.Test.YtpnljjcdlkjfhaaGreatDoorRv04
import Derived.Test.YtpnljjcdlkjfhaaGreatDoorRv05
import Derived.WalkKit
import Derived.Handy
import Derived.Lib.OthersKept
import Derived.BigCall
set_option linter.unusedVariables false
set_option linter.unusedSimpArgs false
namespace Go.Proofs.YtpnljjcdlkjfhaaGreatDoor
open Go.RowKit
def N5 : Nd := .mk 1 ⟨#[]⟩ 5 []
def D5 : Nd := .mk 63 ⟨#[]⟩ 0 [N5]
def M5 : Nd := .mk 68 ⟨#[]⟩ 0 [D5]
/-- a tree that is an N5 lies at g, o. -/
structure N5At (W : World) (g o : Nat) (a : Option Addr) (c : Nat) : Prop where
  k : W.cell? ⟨g, o, none⟩ = some (.int .i64 1)
  t : W.cell? ⟨g, o + 1, none⟩ = some (.string ⟨#[]⟩)
  n : W.cell? ⟨g, o + 2, none⟩ = some (.int .i64 5)
  ks : W.cell? ⟨g, o + 3, none⟩ = some (.slice a 0 c)
theorem N5At.lt {W : World} {g o c : Nat} {a : Option Addr} (h : N5At W g o a c) : g < W.heap.size := World.block_lt_of_cell? W _ h.k
theorem N5At.bel {W X : World} {B g o c : Nat} {a : Option Addr} (h : N5At W g o a c) (b : Below B W X) (hg : g < B) : N5At X g o a c :=
  ⟨(b.cell (p := ⟨g, _, none⟩) hg).trans h.k, (b.cell (p := ⟨g, _, none⟩) hg).trans h.t, (b.cell (p := ⟨g, _, none⟩) hg).trans h.n, (b.cell (p := ⟨g, _, none⟩) hg).trans h.ks⟩
theorem n5_of {W : World} {S : Nat → Prop} {v : Value} (h : LAt W S v [N5]) : ∃ g o c a ca, v = .slice (some ⟨g, o, none⟩) 1 c ∧ S g ∧ N5At W g o a ca := by
  obtain ⟨a, c, bl, o, f, rfl, h1, h2, h3⟩ := h.op
  obtain ⟨rfl, hS, hb⟩ := h1 (by simp)
  obtain ⟨p, q, r, s⟩ := h2 0 (by simp)
  obtain ⟨b, d, e⟩ := (h3 0 (by simp)).sl
  rw [e] at s
  exact ⟨bl, o, c, b, d, rfl, hS, by simpa [N5, Nd.k] using p, by simpa [N5, Nd.t] using q, by simpa [N5, Nd.n] using r, by simpa [N5, Nd.ks] using s⟩
/-- .. a D5. -/
structure D5At (W : World) (g o g2 o2 c2 : Nat) (a : Option Addr) (c : Nat) : Prop where
  k : W.cell? ⟨g, o, none⟩ = some (.int .i64 63)
  t : W.cell? ⟨g, o + 1, none⟩ = some (.string ⟨#[]⟩)
  n : W.cell? ⟨g, o + 2, none⟩ = some (.int .i64 0)
  ks : W.cell? ⟨g, o + 3, none⟩ = some (.slice (some ⟨g2, o2, none⟩) 1 c2)
  kid : N5At W g2 o2 a c
theorem D5At.lt {W : World} {g o g2 o2 c2 c : Nat} {a : Option Addr} (h : D5At W g o g2 o2 c2 a c) : g < W.heap.size := World.block_lt_of_cell? W _ h.k
theorem D5At.bel {W X : World} {B g o g2 o2 c2 c : Nat} {a : Option Addr} (h : D5At W g o g2 o2 c2 a c) (b : Below B W X) (hg : g < B) (hg2 : g2 < B) : D5At X g o g2 o2 c2 a c :=
  ⟨(b.cell (p := ⟨g, _, none⟩) hg).trans h.k, (b.cell (p := ⟨g, _, none⟩) hg).trans h.t, (b.cell (p := ⟨g, _, none⟩) hg).trans h.n, (b.cell (p := ⟨g, _, none⟩) hg).trans h.ks, h.kid.bel b hg2⟩
theorem d5_of {W : World} {S : Nat → Prop} {v : Value} (h : LAt W S v [D5]) : ∃ g o c g2 o2 c2 a ca, v = .slice (some ⟨g, o, none⟩) 1 c ∧ S g ∧ S g2 ∧ D5At W g o g2 o2 c2 a ca := by
  obtain ⟨a, c, bl, o, f, rfl, h1, h2, h3⟩ := h.op
  obtain ⟨rfl, hS, hb⟩ := h1 (by simp)
  obtain ⟨p, q, r, s⟩ := h2 0 (by simp)
  have hk : LAt W S (f 0) [N5] := h3 0 (by simp)
  obtain ⟨g2, o2, c2, a2, ca2, e, hS2, hn⟩ := n5_of hk
  rw [e] at s
  exact ⟨bl, o, c, g2, o2, c2, a2, ca2, rfl, hS, hS2, by simpa [D5, Nd.k] using p, by simpa [D5, Nd.t] using q, by simpa [D5, Nd.n] using r, by simpa using s, hn⟩
/-- the value of a D5. -/
abbrev d5V (g2 o2 c2 : Nat) : Value := .agg #[.int .i64 63, .string ⟨#[]⟩, .int .i64 0, .slice (some ⟨g2, o2, none⟩) 1 c2]
abbrev dflS : ByteArray := ⟨#[100, 101, 102, 97, 117, 108, 116]⟩
set_option maxRecDepth 100000 in
set_option maxHeartbeats 4000000 in
theorem isType_one (w : World) : Calls Tryz.prog 60 #[.int .i64 1] w fun e w' => e = .returned (.bool false) ∧ w' = w := by
  go_enter Tryz.func60, Tryz.ntmps60
  go_wp2
  go_ret
  exact ⟨rfl, rfl⟩
set_option maxRecDepth 100000 in
set_option maxHeartbeats 4000000 in
theorem hasImage_let (w : World) (s : ByteArray) (n : Int) (v : Value) : Calls Tryz.prog 31 #[.agg #[.int .i64 40, .string s, .int .i64 n, v]] w fun e w' => e = .returned (.bool true) ∧ Below w.heap.size w w' := by
  go_enter Tryz.func31, Tryz.ntmps31
  go_wp2
  go_ret
  exact ⟨rfl, bel_a _ _⟩
set_option maxRecDepth 100000 in
set_option maxHeartbeats 4000000 in
theorem drop_leaf (w : World) (g o : Nat) (a : Option Addr) (c : Nat) (h : N5At w g o a c) : Calls Tryz.prog 36 #[.pointer (some ⟨g, o, none⟩)] w fun e w' => e = .returned (.tuple #[]) ∧ w' = w := by
  obtain ⟨h0, h1, h2, h3⟩ := h
  go_enter Tryz.func36, Tryz.ntmps36
  go_wp2_with fail
  go_loopw [9] (fun i wr => i = .int .i64 0 ∧ wr = w) (fun i _ => 0)
  case atStart => exact ⟨rfl, rfl⟩
  case round =>
    obtain ⟨rfl, rfl⟩ := hrel
    go_wp2
    go_end0
    exact ⟨rfl, rfl⟩
set_option maxRecDepth 100000 in
set_option maxHeartbeats 4000000 in
theorem drop_d5 (w : World) (g o g2 o2 c2 : Nat) (a : Option Addr) (c : Nat) (h : D5At w g o g2 o2 c2 a c) : Calls Tryz.prog 36 #[.pointer (some ⟨g, o, none⟩)] w fun e w' => e = .returned (.tuple #[]) ∧ w' = w := by
  have C := drop_leaf w g2 o2 a c h.kid
  have CT := isType_one w
  obtain ⟨h0, h1, h2, h3, hk⟩ := h
  obtain ⟨k0, k1, k2, k3⟩ := hk
  go_enter Tryz.func36, Tryz.ntmps36
  go_wp2_with fail
  go_loopw [9] (fun i wr => ∃ k : Nat, i = .int .i64 (k : Nat) ∧ k ≤ 1 ∧ wr = w) (fun i _ => 1 - (intOf i).toNat)
  case atStart => exact ⟨0, rfl, by omega, rfl⟩
  case round =>
    obtain ⟨k, rfl, hk, rfl⟩ := hrel
    obtain rfl | rfl : k = 0 ∨ k = 1 := by omega
    · go_wp2_with fail
      go_at_call 60
      refine CT.mono ?_
      rintro e W1 ⟨rfl, rfl⟩
      go_wp2_with fail
      go_at_call 36
      refine C.mono ?_
      rintro e W2 ⟨rfl, rfl⟩
      go_wp2
      exact ⟨⟨1, by simp, by omega, by first | rfl | trivial⟩, by simp [intOf]⟩
    · go_wp2
      go_end0
      exact ⟨rfl, rfl⟩
set_option maxRecDepth 100000 in
set_option maxHeartbeats 4000000 in
theorem held_d5 (w : World) (g2 o2 c2 : Nat) (a : Option Addr) (c : Nat) (h : N5At w g2 o2 a c) : Calls Tryz.prog 32 #[d5V g2 o2 c2] w fun e w' => (∃ n, e = .returned (.agg #[.int .i64 40, .string dflS, .int .i64 1, .slice (some ⟨n, 0, none⟩) 2 2])) ∧ Below w.heap.size w w' := by
  have hl := h.lt
  have HK : Hid (∀ X, Below w.heap.size w X → N5At X g2 o2 a c) := fun X b => h.bel b hl
  obtain ⟨k0, k1, k2, k3⟩ := h
  go_enter Tryz.func32, Tryz.ntmps32
  go_wp2
  refine bodyPost_ret (res_nd Tryz.results32 (hold _ (by simp <;> omega) (hold _ (by simp <;> omega) (hnew _ (by simp)))) rfl) rfl ⟨⟨_, rfl⟩, ?_⟩
  exact (((bel_a _ _).alloc (by simp) _).alloc (by simp <;> omega) _).alloc (by simp <;> omega) _
set_option maxRecDepth 100000 in
set_option maxHeartbeats 4000000 in
theorem declared_let (w : World) (n : Nat) : Calls Tryz.prog 37 #[.agg #[.int .i64 40, .string dflS, .int .i64 1, .slice (some ⟨n, 0, none⟩) 2 2], .int .i64 0] w fun e w' => e = .returned (.agg #[.int .i64 40, .string ⟨#[100, 101, 102, 97, 117, 108, 116, 36, 48]⟩, .int .i64 1, .slice (some ⟨n, 0, none⟩) 2 2]) ∧ Below w.heap.size w w' := by
  have C := fun X => nameP_any 0 dflS X (by omega) (by omega) (by decide)
  rw [show nmL 0 dflS.data.toList = [100, 101, 102, 97, 117, 108, 116, 36, 48] by decide +kernel] at C
  go_enter Tryz.func37, Tryz.ntmps37
  go_wp2_with fail
  go_at_call 7
  refine (C _).mono ?_
  rintro e W1 ⟨rfl, b1⟩
  have r0 := (b1.block w.heap.size (by simp <;> omega)).trans (hold _ (by simp) (hnew _ rfl))
  have r1 := (b1.block (w.heap.size + 1) (by simp <;> omega)).trans (hnew _ (by simp))
  have bw := ((bel_a w _).alloc (by simp) _).trans (b1.mono (by simp <;> omega))
  obtain ⟨⟨_, _, _, _⟩, _⟩ := box4 r0
  obtain ⟨⟨_, _, _, _⟩, _⟩ := box4 r1
  have HR : Hid _ := r1
  have HB : Hid _ := bw
  clear r0 r1 bw b1
  go_wp2
  refine bodyPost_ret (res_nd Tryz.results37 (box4_set _ _ _ _ ((Below.heap_setCell _ _ _ _ (by simp)).trans HR.out)) rfl) rfl ⟨rfl, ?_⟩
  exact ((((HB.out.setCell (by simp) _).setCell (by simp) _).setCell (by simp) _).setCell (by simp) _).setCell (by simp) _
set_option maxRecDepth 100000 in
set_option maxHeartbeats 8000000 in
theorem rex_m (t : ByteArray) (n : Int) (a : Option Addr) (len c : Nat) (w : World) : Calls Tryz.prog 111 #[nv 68 t n a len c] w fun e w' => e = .returned (.bool false) ∧ Below w.heap.size w w' := by
  go_enter Tryz.func111, Tryz.ntmps111
  go_wp2
  go_ret
  exact ⟨rfl, bel_a _ _⟩
set_option maxRecDepth 100000 in
set_option maxHeartbeats 8000000 in
theorem rty_m (t : ByteArray) (n : Int) (a : Option Addr) (len c : Nat) (w : World) : Calls Tryz.prog 112 #[nv 68 t n a len c] w fun e w' => e = .returned (.bool false) ∧ Below w.heap.size w w' := by
  go_enter Tryz.func112, Tryz.ntmps112
  go_wp2
  go_ret
  exact ⟨rfl, bel_a _ _⟩
set_option maxRecDepth 100000 in
set_option maxHeartbeats 8000000 in
theorem rst_m (t : ByteArray) (n : Int) (a : Option Addr) (len c : Nat) (w : World) : Calls Tryz.prog 113 #[nv 68 t n a len c] w fun e w' => e = .returned (.bool false) ∧ Below w.heap.size w w' := by
  go_enter Tryz.func113, Tryz.ntmps113
  go_wp2
  go_ret
  exact ⟨rfl, bel_a _ _⟩
set_option maxRecDepth 100000 in
set_option maxHeartbeats 8000000 in
theorem rit_m (t : ByteArray) (n : Int) (a : Option Addr) (len c : Nat) (w : World) : Calls Tryz.prog 114 #[nv 68 t n a len c] w fun e w' => e = .returned (.bool false) ∧ Below w.heap.size w w' := by
  have C := rst_m t n a len c
  go_enter Tryz.func114, Tryz.ntmps114
  go_wp2_with fail
  go_at_call 113
  refine (C _).mono ?_
  rintro e W1 ⟨rfl, b1⟩
  go_wp2
  go_ret
  exact ⟨rfl, (bel_a w _).trans (b1.mono (by simp))⟩
set_option maxRecDepth 100000 in
set_option maxHeartbeats 8000000 in
theorem rex_n5 (a : Option Addr) (c : Nat) (w : World) : Calls Tryz.prog 111 #[nv 1 ⟨#[]⟩ 5 a 0 c] w fun e w' => e = .returned (.bool true) ∧ Below w.heap.size w w' := by
  have C2 := bare' 1 ⟨#[]⟩ 5 a 0 c
  go_enter Tryz.func111, Tryz.ntmps111
  go_wp2_with fail
  go_at_call 149
  refine (C2 _).mono ?_
  rintro e W1 ⟨rfl, b1⟩
  go_wp2
  go_ret
  exact ⟨rfl, (bel_a w _).trans (b1.mono (by simp))⟩
set_option maxRecDepth 100000 in
set_option maxHeartbeats 8000000 in
theorem rit_d5 {W : World} {g2 o2 c2 c : Nat} {a : Option Addr} (h : N5At W g2 o2 a c) : Calls Tryz.prog 114 #[d5V g2 o2 c2] W fun e w' => e = .returned (.bool true) ∧ Below W.heap.size W w' := by
  have hl := h.lt
  have HK : Hid (∀ X, Below W.heap.size W X → N5At X g2 o2 a c) := fun X b => h.bel b hl
  have CP := fun X => plain' 63 ⟨#[]⟩ 0 (some ⟨g2, o2, none⟩) 1 c2 X
  simp only [show plainT ⟨#[]⟩ 0 = true by decide +kernel] at CP
  have CE := fun X => rex_n5 a c X
  clear h
  go_enter Tryz.func114, Tryz.ntmps114
  go_wp2_with fail
  go_at_call 115
  refine (CP _).mono ?_
  rintro e W1 ⟨rfl, b1⟩
  have bw : Hid _ := (bel_a W _).trans (b1.mono (by simp))
  obtain ⟨k0, k1, k2, k3⟩ := HK.out _ bw.out
  go_wp2_with fail
  go_at_call 111
  refine (CE _).mono ?_
  rintro e W2 ⟨rfl, b2⟩
  go_wp2
  go_ret
  exact ⟨rfl, bw.out.trans (b2.mono bw.out.size)⟩
set_option maxRecDepth 100000 in
set_option maxHeartbeats 8000000 in
theorem dol_n5 (a : Option Addr) (c : Nat) (w : World) : Calls Tryz.prog 116 #[nv 1 ⟨#[]⟩ 5 a 0 c] w fun e w' => e = .returned (.bool false) ∧ Below w.heap.size w w' := by
  go_enter Tryz.func116, Tryz.ntmps116
  go_wp2_with fail
  go_loopw [4] (fun i wr => i = .int .i64 0 ∧ wr = w.alloc (.cells #[.int .i64 1, .string ⟨#[]⟩, .int .i64 5, .slice a 0 c] 51)) (fun i _ => 0)
  case atStart => exact ⟨rfl, rfl⟩
  case round =>
    obtain ⟨rfl, rfl⟩ := hrel
    go_wp2_with fail
    go_loopw [5] (fun i wr => i = .int .i64 0 ∧ wr = w.alloc (.cells #[.int .i64 1, .string ⟨#[]⟩, .int .i64 5, .slice a 0 c] 51)) (fun i _ => 0)
    case atStart => exact ⟨rfl, rfl⟩
    case round =>
      obtain ⟨rfl, rfl⟩ := hrel
      go_wp2
      go_ret
      exact ⟨rfl, bel_a _ _⟩
set_option maxRecDepth 100000 in
set_option maxHeartbeats 8000000 in
theorem dol_d5 {W : World} {g2 o2 c2 c : Nat} {a : Option Addr} (h : N5At W g2 o2 a c) : Calls Tryz.prog 116 #[d5V g2 o2 c2] W fun e w' => e = .returned (.bool false) ∧ Below W.heap.size W w' := by
  have C := fun X => dol_n5 a c X
  obtain ⟨W0, hW0⟩ : ∃ X, W.alloc (.cells #[.int .i64 63, .string ⟨#[]⟩, .int .i64 0, .slice (some ⟨g2, o2, none⟩) 1 c2] 51) = X := ⟨_, rfl⟩
  have b0 : Below W.heap.size W W0 := by rw [← hW0]; exact bel_a _ _
  have m0 : W0.heap[W.heap.size]? = some (.cells #[.int .i64 63, .string ⟨#[]⟩, .int .i64 0, .slice (some ⟨g2, o2, none⟩) 1 c2] 51 (0, 0)) := by rw [← hW0]; exact hnew _ rfl
  have s0 : W.heap.size < W0.heap.size := (Array.getElem?_eq_some_iff.1 m0).1
  have hl := h.lt
  have HN : Hid (∀ X, Below W.heap.size W X → N5At X g2 o2 a c) := fun X b => h.bel b hl
  have M0 : Hid _ := m0
  have B0 : Hid _ := b0
  obtain ⟨⟨q0, q1, q2, q3⟩, _⟩ := box4 m0
  clear h b0 m0
  go_enter Tryz.func116, Tryz.ntmps116
  go_wp2_with fail
  go_loopw [4] (fun i wr => i = .int .i64 0 ∧ wr = W0) (fun i _ => 0)
  case atStart => exact ⟨rfl, rfl⟩
  case round =>
    obtain ⟨rfl, h0⟩ := hrel
    have h1 := h0.symm
    subst h1
    clear h0
    go_wp2_with fail
    clear hW0
    go_loopw [5] (fun i wz => ∃ k : Nat, i = .int .i64 (k : Nat) ∧ k ≤ 1 ∧ Hid (Below W0.heap.size W0 wz)) (fun i _ => 1 - (intOf i).toNat)
    case atStart => exact ⟨0, rfl, by omega, Below.refl _ _⟩
    case round =>
      obtain ⟨k, rfl, hk, bz⟩ := hrel
      obtain ⟨⟨z0, z1, z2, z3⟩, _⟩ := box4 ((bz.out.block _ s0).trans M0.out)
      have bw : Hid (Below W.heap.size W wr) := B0.out.trans (bz.out.mono B0.out.size)
      obtain ⟨n0, n1, n2, n3⟩ := HN.out wr bw.out
      obtain rfl | rfl : k = 0 ∨ k = 1 := by omega
      · go_wp2_with fail
        go_at_call 116
        refine (C _).mono ?_
        rintro e W2 ⟨rfl, b2⟩
        go_wp2
        exact ⟨⟨1, by simp, by omega, bz.out.trans (b2.mono bz.out.size)⟩, by simp [intOf]⟩
      · go_wp2
        go_ret
        exact ⟨rfl, bw.out⟩
set_option maxRecDepth 100000 in
set_option maxHeartbeats 8000000 in
theorem rform_m5 {W : World} {g o g2 o2 c2 c ca : Nat} {a : Option Addr} (h : D5At W g o g2 o2 c2 a ca) : Calls Tryz.prog 76 #[nv 68 ⟨#[]⟩ 0 (some ⟨g, o, none⟩) 1 c] W fun e w' => e = .returned (.int .i64 5) ∧ Below W.heap.size W w' := by
  have CE := fun X => rex_m ⟨#[]⟩ 0 (some ⟨g, o, none⟩) 1 c X
  have CT := fun X => rty_m ⟨#[]⟩ 0 (some ⟨g, o, none⟩) 1 c X
  have CS := fun X => rst_m ⟨#[]⟩ 0 (some ⟨g, o, none⟩) 1 c X
  have CI := fun X => rit_m ⟨#[]⟩ 0 (some ⟨g, o, none⟩) 1 c X
  have CP := fun X => plain' 68 ⟨#[]⟩ 0 (some ⟨g, o, none⟩) 1 c X
  simp only [show plainT ⟨#[]⟩ 0 = true by decide +kernel] at CP
  have hl := h.lt
  have hl2 := h.kid.lt
  have HD : Hid (∀ X, Below W.heap.size W X → D5At X g o g2 o2 c2 a ca) := fun X b => h.bel b hl hl2
  obtain ⟨W0, hW0⟩ : ∃ X, W.alloc (.cells #[.int .i64 68, .string ⟨#[]⟩, .int .i64 0, .slice (some ⟨g, o, none⟩) 1 c] 51) = X := ⟨_, rfl⟩
  have b0 : Below W.heap.size W W0 := by rw [← hW0]; exact bel_a _ _
  have m0 : W0.heap[W.heap.size]? = some (.cells #[.int .i64 68, .string ⟨#[]⟩, .int .i64 0, .slice (some ⟨g, o, none⟩) 1 c] 51 (0, 0)) := by rw [← hW0]; exact hnew _ rfl
  have s0 : W.heap.size < W0.heap.size := (Array.getElem?_eq_some_iff.1 m0).1
  have M0 : Hid _ := m0
  have B0 : Hid _ := b0
  have HM : Hid (∀ X, Below W0.heap.size W0 X → X.cell? ⟨W.heap.size, 0, none⟩ = some (.int .i64 68) ∧ X.cell? ⟨W.heap.size, 1, none⟩ = some (.string ⟨#[]⟩) ∧ X.cell? ⟨W.heap.size, 2, none⟩ = some (.int .i64 0) ∧ X.cell? ⟨W.heap.size, 3, none⟩ = some (.slice (some ⟨g, o, none⟩) 1 c)) := fun X b => (box4 ((b.block _ s0).trans m0)).1
  obtain ⟨q0, q1, q2, q3⟩ := HM.out W0 (Below.refl _ _)
  clear h b0 m0
  go_enter Tryz.func76, Tryz.ntmps76
  go_wp2_with fail
  go_at_call 111
  refine (CE _).mono ?_
  rintro e W1 ⟨rfl, b1⟩
  have B1 : Hid (Below W0.heap.size W0 W1) := b1
  clear b1 hW0 q0 q1 q2 q3
  obtain ⟨q0, q1, q2, q3⟩ := HM.out W1 B1.out
  go_wp2_with fail
  go_at_call 112
  refine (CT _).mono ?_
  rintro e W2 ⟨rfl, b2⟩
  have B2 : Hid (Below W0.heap.size W0 W2) := B1.out.trans (b2.mono B1.out.size)
  clear b2 q0 q1 q2 q3
  obtain ⟨q0, q1, q2, q3⟩ := HM.out W2 B2.out
  go_wp2_with fail
  go_at_call 113
  refine (CS _).mono ?_
  rintro e W3 ⟨rfl, b3⟩
  have B3 : Hid (Below W0.heap.size W0 W3) := B2.out.trans (b3.mono B2.out.size)
  clear b3 q0 q1 q2 q3
  obtain ⟨q0, q1, q2, q3⟩ := HM.out W3 B3.out
  go_wp2_with fail
  go_at_call 114
  refine (CI _).mono ?_
  rintro e W4 ⟨rfl, b4⟩
  have B4 : Hid (Below W0.heap.size W0 W4) := B3.out.trans (b4.mono B3.out.size)
  clear b4 q0 q1 q2 q3
  obtain ⟨q0, q1, q2, q3⟩ := HM.out W4 B4.out
  go_wp2_with fail
  go_at_call 115
  refine (CP _).mono ?_
  rintro e W5 ⟨rfl, b5⟩
  have B5 : Hid (Below W0.heap.size W0 W5) := B4.out.trans (b5.mono B4.out.size)
  clear b5 q0 q1 q2 q3
  go_wp2_with fail
  go_loopw [3] (fun i wz => ∃ k : Nat, i = .int .i64 (k : Nat) ∧ k ≤ 1 ∧ Hid (Below W0.heap.size W0 wz)) (fun i _ => 1 - (intOf i).toNat)
  case atStart => exact ⟨0, rfl, by omega, B5.out⟩
  case round =>
    obtain ⟨k, rfl, hk, bz⟩ := hrel
    obtain ⟨q0, q1, q2, q3⟩ := HM.out wr bz.out
    have bw : Hid (Below W.heap.size W wr) := B0.out.trans (bz.out.mono B0.out.size)
    have DZ : Hid _ := HD.out wr bw.out
    obtain ⟨d0, d1, d2, d3, _⟩ := DZ.out
    obtain rfl | rfl : k = 0 ∨ k = 1 := by omega
    · go_wp2_with fail
      go_at_call 114
      refine (rit_d5 DZ.out.kid).mono ?_
      rintro e W6 ⟨rfl, b6⟩
      have B6 : Hid (Below W0.heap.size W0 W6) := bz.out.trans (b6.mono bz.out.size)
      clear b6 q0 q1 q2 q3 d0 d1 d2 d3
      obtain ⟨q0, q1, q2, q3⟩ := HM.out W6 B6.out
      have D6 : Hid _ := HD.out W6 (B0.out.trans (B6.out.mono B0.out.size))
      obtain ⟨d0, d1, d2, d3, _⟩ := D6.out
      go_wp2_with fail
      go_at_call 116
      refine (dol_d5 D6.out.kid).mono ?_
      rintro e W7 ⟨rfl, b7⟩
      go_wp2
      exact ⟨⟨1, by simp, by omega, B6.out.trans (b7.mono B6.out.size)⟩, by simp [intOf]⟩
    · go_wp2
      go_ret
      exact ⟨rfl, bw.out⟩
theorem zeros_any (w : World) (hc : w.cell? ⟨6, 15, none⟩ = some (.int .u8 4)) :
    Calls Tryz.prog 210 #[.int .u64 16] w fun e w' => e = .returned (.int .i64 4) ∧ w' = w := by
  have hb : bits BinOp.and IntKind.u64 16 (IntKind.u64.wrap (-16)) = 16 := by kernel_rfl
  have hm : IntKind.u64.wrap 4573923408821661840 = 4573923408821661840 := by kernel_rfl
  go_enter Tryz.func210, Tryz.ntmps210
  go_wp2
  go_ret
  exact ⟨rfl, rfl⟩

theorem digit_at (u : Nat) (hu : u < 16) (h : u < (ByteArray.mk #[48, 49, 50, 51, 52, 53, 54, 55, 56, 57, 97, 98, 99, 100, 101, 102, 103, 104, 105, 106, 107, 108, 109, 110, 111, 112, 113, 114, 115, 116, 117, 118, 119, 120, 121, 122]).size) :
    (ByteArray.mk #[48, 49, 50, 51, 52, 53, 54, 55, 56, 57, 97, 98, 99, 100, 101, 102, 103, 104, 105, 106, 107, 108, 109, 110, 111, 112, 113, 114, 115, 116, 117, 118, 119, 120, 121, 122])[u]'h = hexc u := by
  have hall : ∀ v : Fin 16, (ByteArray.mk #[48, 49, 50, 51, 52, 53, 54, 55, 56, 57, 97, 98, 99, 100, 101, 102, 103, 104, 105, 106, 107, 108, 109, 110, 111, 112, 113, 114, 115, 116, 117, 118, 119, 120, 121, 122]).data.toList.getD v.val 0 = hexc v.val := by decide
  rw [← hall ⟨u, hu⟩]
  show _ = (ByteArray.mk _).data.toList.getD u 0
  rw [List.getD_eq_getElem?_getD, Array.getElem?_toList, Array.getElem?_eq_getElem h]
  rfl

theorem conv_cells (W : World) (C : Array Value) (t : TypeId) (o : Nat) (l : List UInt8) (h : ∀ j (hj : j < l.length), C[o + j]? = some (.int .u8 (l[j].toNat : Int))) (c : Nat) :
    (convert 57 9 (.slice (some ⟨W.heap.size, o, none⟩) l.length c)).run Tryz.prog (W.alloc (.cells C t)) = .ok (.string ⟨l.toArray⟩) (W.alloc (.cells C t)) := by
  refine run_convert_bytes_back _ _ _ 5 _ _ l Tryz.underlying57 Tryz.underlying5 Tryz.underlying9 ?_
  intro j hj
  rw [← h j hj]
  have hb : (W.alloc (.cells C t)).heap[W.heap.size]? = some (.cells C t) := by
    show (W.heap.push _)[W.heap.size]? = _
    simp
  have ha : (⟨W.heap.size, o, none⟩ : Addr).add j = ⟨W.heap.size, o + j, none⟩ := by cases j <;> simp [Addr.add]
  rw [ha]
  simp only [World.cell?, hb]
  rfl

def zc65 : Array Value := (List.replicate 65 (Value.int .u8 0)).toArray
theorem zc65_size : zc65.size = 65 := by kernel_rfl
theorem zc65_zero (w : World) : (zeroValue 258).run Tryz.prog w = .ok (.agg zc65) w := by kernel_rfl
theorem conv1 (W : World) (C : Array Value) (hC : C.size = 65) (x : UInt8) (c : Nat) :
    (convert 57 9 (.slice (some ⟨W.heap.size, 64, none⟩) 1 c)).run Tryz.prog (W.alloc (.cells (C.setIfInBounds 64 (.int .u8 (x.toNat : Int))) 258)) = .ok (.string ⟨#[x]⟩) (W.alloc (.cells (C.setIfInBounds 64 (.int .u8 (x.toNat : Int))) 258)) := by
  refine conv_cells W _ _ 64 [x] ?_ c
  intro j hj
  obtain rfl : j = 0 := by simpa using hj
  simp [hC]
theorem conv2 (W : World) (C : Array Value) (hC : C.size = 65) (x y : UInt8) (c : Nat) :
    (convert 57 9 (.slice (some ⟨W.heap.size, 63, none⟩) 2 c)).run Tryz.prog (W.alloc (.cells ((C.setIfInBounds 64 (.int .u8 (y.toNat : Int))).setIfInBounds 63 (.int .u8 (x.toNat : Int))) 258)) = .ok (.string ⟨#[x, y]⟩) (W.alloc (.cells ((C.setIfInBounds 64 (.int .u8 (y.toNat : Int))).setIfInBounds 63 (.int .u8 (x.toNat : Int))) 258)) := by
  refine conv_cells W _ _ 63 [x, y] ?_ c
  intro j hj
  match j, hj with
  | 0, _ => simp [hC]
  | 1, _ => simp [hC]

theorem ret_ss {a b : ByteArray} (h : a = b) : Ending.returned (.tuple #[.slice none 0 0, .string a]) = .returned (.tuple #[.slice none 0 0, .string b]) := by rw [h]
theorem ret_str {a b : ByteArray} (h : a = b) : Ending.returned (.string a) = .returned (.string b) := by rw [h]

theorem bits_one (u : Nat) (w : World) (hu : u < 16) (hc : w.cell? ⟨6, 15, none⟩ = some (.int .u8 4)) (hz : 6 < w.heap.size) :
    Calls Tryz.prog 178 #[.slice none 0 0, .int .u64 u, .int .i64 16, .bool false, .bool false] w fun e w' => e = .returned (.tuple #[.slice none 0 0, .string ⟨(hexL u).toArray⟩]) ∧ Below w.heap.size w w' := by
  go_enter Tryz.func178, Tryz.ntmps178
  have hcc : ∀ o, (w.alloc o).cell? ⟨6, 15, none⟩ = some (.int .u8 4) := fun o => by rw [World.cell?_alloc_past _ _ _ hz]; exact hc
  have hpow : (bits BinOp.and IntKind.i64 16 15 == 0) = true := by decide
  have hconv := fun C hC x c => conv1 w C hC x c
  have hzv := zc65_zero
  have hzs := zc65_size
  go_wp2_with (first | (go_at_call 210; refine (zeros_any _ (hcc _)).mono ?_; rintro e w' ⟨rfl, rfl⟩) | (go_at_call 209; go_in))
  go_rounds 1
  go_ret2
  exact ⟨ret_ss (by rw [hexL_one u hu, digit_at u hu]), (Below.refl _ w).alloc (Nat.le_refl _) _⟩

set_option maxHeartbeats 1000000 in
theorem bits_two (u : Nat) (w : World) (hu : 16 ≤ u) (hu2 : u < 256) (hc : w.cell? ⟨6, 15, none⟩ = some (.int .u8 4)) (hz : 6 < w.heap.size) :
    Calls Tryz.prog 178 #[.slice none 0 0, .int .u64 u, .int .i64 16, .bool false, .bool false] w fun e w' => e = .returned (.tuple #[.slice none 0 0, .string ⟨(hexL u).toArray⟩]) ∧ Below w.heap.size w w' := by
  go_enter Tryz.func178, Tryz.ntmps178
  have hcc : ∀ o, (w.alloc o).cell? ⟨6, 15, none⟩ = some (.int .u8 4) := fun o => by rw [World.cell?_alloc_past _ _ _ hz]; exact hc
  have hpow : (bits BinOp.and IntKind.i64 16 15 == 0) = true := by decide
  have hconv := fun C hC x y c => conv2 w C hC x y c
  have hzv := zc65_zero
  have hzs := zc65_size
  have hall : ∀ v : Fin 256, bits BinOp.and IntKind.u64 ((v.val : Nat) : Int) 15 = ((v.val % 16 : Nat) : Int) := by decide +kernel
  have hand0 := hall ⟨u, hu2⟩
  clear hall
  obtain ⟨m, hm⟩ : ∃ m, m = u % 16 := ⟨_, rfl⟩
  have hand : bits BinOp.and IntKind.u64 (u : Int) 15 = (m : Int) := by rw [hm]; exact hand0
  have hm2 : m < 16 := by omega
  have HM : Hid (m = u % 16) := hm
  clear hm hand0
  go_wp2_with (first | (go_at_call 210; refine (zeros_any _ (hcc _)).mono ?_; rintro e w' ⟨rfl, rfl⟩) | (go_at_call 209; go_in))
  go_rounds 2
  go_ret2
  exact ⟨ret_ss (by simp only [hexL_two u hu, ← HM.out, digit_at m hm2, digit_at (u / 16) (by omega)]), (Below.refl _ w).alloc (Nat.le_refl _) _⟩

theorem grown_of_below {w w' : World} (h : Below w.heap.size w w') (row : Option Nat) : w.grownBy w' row := ⟨h.os, h.tape, h.output, h.size, fun k hk _ => h.block k hk⟩
theorem builder_below {T e : TypeId} {B b : Nat} {bs : List Value} {w w' : World} (h : Lib.IsBuilderF T e B b bs w) (hb : Below w.heap.size w w') : Lib.IsBuilderF T e B b bs w' := by
  have one : ∀ p, Lib.BuilderAtF T e B b p bs w → Lib.BuilderAtF T e B b p bs w' := by
    intro p hp
    have hlt := hp.lt
    obtain ⟨hB, v, hv, hown, hne⟩ := hp
    exact ⟨hB, v, (hb.block b hlt).trans hv, hown.kept (grown_of_below hb none) (by cases hv : v.ownBlock <;> simp), hne⟩
  exact h.elim (fun x => .inl (one _ x)) (fun x => .inr (one _ x))
theorem run_next_dec_at {P : Program} (w : World) (k : Nat) (s : ByteArray) (pos : Nat) (ty : TypeId) (hk : w.heap[k]? = some (.stringIter s pos)) (h : pos < s.size) :
    (Instr.next (.pointer (some ⟨k, 0, none⟩)) true ty).run P w =
      .ok (.tuple #[.bool true, .int .i64 pos, .int .i32 (decL (s.data.toList.drop pos)).1]) (w.iterAt k s (pos + (decL (s.data.toList.drop pos)).2)) := by
  rw [← decode_eq]
  exact Lib.run_next_any_at w k s pos ty hk h
theorem first_byte (s : ByteArray) (pos : Nat) (h : pos < s.size) : (s[pos]'h).toNat = atL (s.data.toList.drop pos) 0 := by
  rw [← get_drop, get_at s pos h]
theorem atL_take (l : List UInt8) (n : Nat) (h : 1 ≤ n) : atL (l.take n) 0 = atL l 0 := by
  unfold atL
  cases l <;> cases n <;> simp_all

def tabCell (w : World) : Prop := w.cell? ⟨6, 15, none⟩ = some (.int .u8 4)
theorem tabCell.lt {w : World} (h : tabCell w) : 6 < w.heap.size := by
  refine Decidable.byContradiction fun hn => ?_
  simp [tabCell, World.cell?, Array.getElem?_eq_none (Nat.le_of_not_lt hn)] at h
theorem tabCell.below {B : Nat} {w w' : World} (h : tabCell w) (hb : Below B w w') (hB : 6 < B) : tabCell w' := (hb.cell (p := ⟨6, 15, none⟩) hB).trans h

theorem cons_cells (l : List UInt8) : [Value.int .u8 92] ++ Lib.byteCells l = Lib.byteCells (92 :: l) := by simp [Lib.byteCells]
end Go.Proofs.YtpnljjcdlkjfhaaGreatDoor
