/- Own text. The document's parser: what stands at a place, and passing over it. The document's parser: a number and a semicolon behind it, as an expression. -/
import Derived.Test.YtpnljjcdlkjfhaaGreatDoorRv25
set_option linter.unusedVariables false
set_option linter.unusedSimpArgs false
namespace Go.Proofs.YtpnljjcdlkjfhaaGreatDoor
open Go.RowKit
def isB (t : Tq) (s : ByteArray) : Bool := (t.1.1 == 5 || t.1.1 == 2) && (t.1.2.1 == s.data.toList)
def kdB (k : Int) (t : Tq) (s : ByteArray) : Bool := (t.1.1 == k) && (t.1.2.1 == s.data.toList)
section
variable {W : World} {b g c : Nat} {T : List Tq} {a o : Nat}

set_option maxRecDepth 100000 in
set_option maxHeartbeats 4000000 in
theorem is_any (h : PS W b g c T a o) (s : ByteArray) : Calls Tryz.prog 188 #[.pointer (some ⟨b, 0, none⟩), .string s] W fun e w' => e = .returned (.bool (isB (tkAt T a) s)) ∧ Below W.heap.size W w' := by
  have C := lookP_any h 0 (by omega)
  rw [Nat.add_zero] at C
  clear h
  generalize tkAt T a = x at *
  obtain ⟨⟨k, l, n⟩, p⟩ := x
  have he := eq_bytes l s
  obtain ⟨Y, hY⟩ : ∃ Y : ByteArray, ⟨l.toArray⟩ = Y := ⟨_, rfl⟩
  simp only [tqV, hY] at C he
  unfold isB
  simp only
  generalize (l == s.data.toList) = q at *
  clear hY
  rcases Bool.eq_false_or_eq_true (k == 5) with h5 | h5
  · cases q
    all_goals
      go_enter Tryz.func188, Tryz.ntmps188
      go_wp2_with (go_at_call 219; refine C.mono ?_; rintro e W1 ⟨rfl, b1⟩)
      go_ret
      exact ⟨by simp [h5, he], b1.alloc b1.size _⟩
  · rcases Bool.eq_false_or_eq_true (k == 2) with h2 | h2
    · cases q
      all_goals
        go_enter Tryz.func188, Tryz.ntmps188
        go_wp2_with (go_at_call 219; refine C.mono ?_; rintro e W1 ⟨rfl, b1⟩)
        go_ret
        exact ⟨by simp [h5, h2, he], b1.alloc b1.size _⟩
    · go_enter Tryz.func188, Tryz.ntmps188
      go_wp2_with (go_at_call 219; refine C.mono ?_; rintro e W1 ⟨rfl, b1⟩)
      go_ret
      exact ⟨by simp [h5, h2, he], b1.alloc b1.size _⟩

set_option maxRecDepth 100000 in
set_option maxHeartbeats 4000000 in
theorem named_any (h : PS W b g c T a o) (j : Nat) (hj : j ≤ 4) (s : ByteArray) : Calls Tryz.prog 190 #[.pointer (some ⟨b, 0, none⟩), .int .i64 (j : Nat), .string s] W fun e w' => e = .returned (.bool (kdB 1 (tkAt T (a + j)) s)) ∧ Below W.heap.size W w' := by
  have C := tok_any h j hj
  clear h
  generalize tkAt T (a + j) = x at *
  obtain ⟨⟨k, l, n⟩, p⟩ := x
  have he := eq_bytes l s
  obtain ⟨Y, hY⟩ : ∃ Y : ByteArray, ⟨l.toArray⟩ = Y := ⟨_, rfl⟩
  simp only [tqV, hY] at C he
  unfold kdB
  simp only
  generalize (l == s.data.toList) = q at *
  clear hY
  rcases Bool.eq_false_or_eq_true (k == 1) with h5 | h5
  · cases q
    all_goals
      go_enter Tryz.func190, Tryz.ntmps190
      go_wp2_with (go_at_call 191; refine C.mono ?_; rintro e W1 ⟨rfl, b1⟩)
      go_ret
      exact ⟨by simp [h5, he], b1.alloc b1.size _⟩
  · go_enter Tryz.func190, Tryz.ntmps190
    go_wp2_with (go_at_call 191; refine C.mono ?_; rintro e W1 ⟨rfl, b1⟩)
    go_ret
    exact ⟨by simp [h5, he], b1.alloc b1.size _⟩

set_option maxRecDepth 100000 in
set_option maxHeartbeats 4000000 in
theorem sign_any (h : PS W b g c T a o) (j : Nat) (hj : j ≤ 4) (s : ByteArray) : Calls Tryz.prog 192 #[.pointer (some ⟨b, 0, none⟩), .int .i64 (j : Nat), .string s] W fun e w' => e = .returned (.bool (kdB 5 (tkAt T (a + j)) s)) ∧ Below W.heap.size W w' := by
  have C := tok_any h j hj
  clear h
  generalize tkAt T (a + j) = x at *
  obtain ⟨⟨k, l, n⟩, p⟩ := x
  have he := eq_bytes l s
  obtain ⟨Y, hY⟩ : ∃ Y : ByteArray, ⟨l.toArray⟩ = Y := ⟨_, rfl⟩
  simp only [tqV, hY] at C he
  unfold kdB
  simp only
  generalize (l == s.data.toList) = q at *
  clear hY
  rcases Bool.eq_false_or_eq_true (k == 5) with h5 | h5
  · cases q
    all_goals
      go_enter Tryz.func192, Tryz.ntmps192
      go_wp2_with (go_at_call 191; refine C.mono ?_; rintro e W1 ⟨rfl, b1⟩)
      go_ret
      exact ⟨by simp [h5, he], b1.alloc b1.size _⟩
  · go_enter Tryz.func192, Tryz.ntmps192
    go_wp2_with (go_at_call 191; refine C.mono ?_; rintro e W1 ⟨rfl, b1⟩)
    go_ret
    exact ⟨by simp [h5, he], b1.alloc b1.size _⟩


/-- one place on. -/
theorem PS.on {X : World} (h : PS X b g c T a o) (hl : a < T.length) : PS (X.setCell ⟨b, 1, none⟩ (.int .i64 ((a : Nat) + 1 : Int))) b g c T (a + 1) o := h.set1 (a + 1) (by omega)
theorem kp1 {W X : World} (h : Kpt b W X) (v : Value) : Kpt b W (X.setCell ⟨b, 1, none⟩ v) := h.set 1 v
set_option maxRecDepth 100000 in
set_option maxHeartbeats 4000000 in
theorem eat_no (h : PS W b g c T a o) (s : ByteArray) (hs : isB (tkAt T a) s = false) : Calls Tryz.prog 230 #[.pointer (some ⟨b, 0, none⟩), .string s] W fun e w' => e = .returned (.bool false) ∧ Below W.heap.size W w' := by
  have C := is_any h s
  rw [hs] at C
  obtain ⟨⟨c0, c1, c2, c3, c4⟩, _⟩ := t5 h.blk
  clear h
  go_enter Tryz.func230, Tryz.ntmps230
  go_wp2_with (go_at_call 188; refine C.mono ?_; rintro e W1 ⟨rfl, b1⟩)
  go_ret
  exact ⟨rfl, b1⟩
set_option maxRecDepth 100000 in
set_option maxHeartbeats 4000000 in
theorem eat_yes (h : PS W b g c T a o) (s : ByteArray) (hs : isB (tkAt T a) s = true) (hl : a < T.length) : Calls Tryz.prog 230 #[.pointer (some ⟨b, 0, none⟩), .string s] W fun e w' => e = .returned (.bool true) ∧ PS w' b g c T (a + 1) o ∧ Kpt b W w' := by
  have C := is_any h s
  rw [hs] at C
  have ln := h.ln
  obtain ⟨⟨c0, c1, c2, c3, c4⟩, _⟩ := t5 h.blk
  have H : Hid _ := h
  clear h
  go_enter Tryz.func230, Tryz.ntmps230
  go_wp2_with (go_at_call 188; refine C.mono ?_; rintro e W1 ⟨rfl, b1⟩; have h1 := H.out.bel b1; obtain ⟨⟨_, _, _, _, _⟩, _, _, _, _, _⟩ := t5 h1.blk)
  go_ret
  exact ⟨rfl, h1.on hl, kp1 (.of b1) _⟩
set_option maxRecDepth 100000 in
set_option maxHeartbeats 4000000 in
theorem want_yes (h : PS W b g c T a o) (s : ByteArray) (hs : isB (tkAt T a) s = true) (hl : a < T.length) : Calls Tryz.prog 220 #[.pointer (some ⟨b, 0, none⟩), .string s] W fun e w' => e = .returned (.tuple #[]) ∧ PS w' b g c T (a + 1) o ∧ Kpt b W w' := by
  have C := eat_yes h s hs hl
  clear h
  go_enter Tryz.func220, Tryz.ntmps220
  go_wp2_with (go_at_call 230; refine C.mono ?_; rintro e W1 ⟨rfl, h1, k1⟩)
  go_end0
  exact ⟨rfl, h1, k1⟩
set_option maxRecDepth 100000 in
set_option maxHeartbeats 4000000 in
theorem id_yes (h : PS W b g c T a o) {l : Bs} {n p : Int} (hx : tkAt T a = ((1, l, n), p)) (hl : a < T.length) : Calls Tryz.prog 221 #[.pointer (some ⟨b, 0, none⟩)] W fun e w' => e = .returned (.string ⟨l.toArray⟩) ∧ PS w' b g c T (a + 1) o ∧ Kpt b W w' := by
  have C := lookP_any h 0 (by omega)
  rw [Nat.add_zero, hx] at C
  have ln := h.ln
  have H : Hid _ := h
  clear h hx
  obtain ⟨Y, hY⟩ : ∃ Y : ByteArray, ⟨l.toArray⟩ = Y := ⟨_, rfl⟩
  simp only [tqV, hY] at C ⊢
  go_enter Tryz.func221, Tryz.ntmps221
  go_wp2_with fail
  go_at_call 219
  refine C.mono ?_
  rintro e W1 ⟨rfl, b1⟩
  have b2 := b1.alloc b1.size (.cells #[.int .i64 1, .string Y, .int .i64 n, .int .i64 p] 215)
  have h1 := H.out.bel b2
  have m1 := hnew (w := W1) (.cells #[.int .i64 1, .string Y, .int .i64 n, .int .i64 p] 215) rfl
  have nb : W1.heap.size ≠ b := by have := (H.out.bel b1).lt; omega
  have m2 := (Below.heap_setCell (W1.alloc (.cells #[.int .i64 1, .string Y, .int .i64 n, .int .i64 p] 215)) ⟨b, 1, none⟩ (.int .i64 ((a : Nat) + 1 : Int)) W1.heap.size nb).trans m1
  obtain ⟨⟨_, _, _, _, _⟩, _, _, _, _, _⟩ := t5 h1.blk
  obtain ⟨⟨_, _, _, _⟩, _⟩ := box4 m1
  obtain ⟨⟨_, _, _, _⟩, _⟩ := box4 m2
  have HK : Hid _ := h1.on hl
  have HL : Hid _ := kp1 (Kpt.of (b := b) b2) (.int .i64 ((a : Nat) + 1 : Int))
  clear h1 b2 b1 m1 m2 nb
  go_wp2
  go_ret
  exact ⟨rfl, HK.out, HL.out⟩
set_option maxRecDepth 100000 in
set_option maxHeartbeats 4000000 in
theorem prop_1 (h : PS W b g c T a o) {l : Bs} {n p : Int} (hx : tkAt T a = ((1, l, n), p)) (hl : a < T.length) : Calls Tryz.prog 224 #[.pointer (some ⟨b, 0, none⟩)] W fun e w' => e = .returned (.string ⟨l.toArray⟩) ∧ PS w' b g c T (a + 1) o ∧ Kpt b W w' := by
  have C := lookP_any h 0 (by omega)
  rw [Nat.add_zero, hx] at C
  have ln := h.ln
  have H : Hid _ := h
  clear h hx
  obtain ⟨Y, hY⟩ : ∃ Y : ByteArray, ⟨l.toArray⟩ = Y := ⟨_, rfl⟩
  simp only [tqV, hY] at C ⊢
  go_enter Tryz.func224, Tryz.ntmps224
  go_wp2_with fail
  go_at_call 219
  refine C.mono ?_
  rintro e W1 ⟨rfl, b1⟩
  have b2 := b1.alloc b1.size (.cells #[.int .i64 1, .string Y, .int .i64 n, .int .i64 p] 215)
  have h1 := H.out.bel b2
  have m1 := hnew (w := W1) (.cells #[.int .i64 1, .string Y, .int .i64 n, .int .i64 p] 215) rfl
  have nb : W1.heap.size ≠ b := by have := (H.out.bel b1).lt; omega
  have m2 := (Below.heap_setCell (W1.alloc (.cells #[.int .i64 1, .string Y, .int .i64 n, .int .i64 p] 215)) ⟨b, 1, none⟩ (.int .i64 ((a : Nat) + 1 : Int)) W1.heap.size nb).trans m1
  obtain ⟨⟨_, _, _, _, _⟩, _, _, _, _, _⟩ := t5 h1.blk
  obtain ⟨⟨_, _, _, _⟩, _⟩ := box4 m1
  obtain ⟨⟨_, _, _, _⟩, _⟩ := box4 m2
  have HK : Hid _ := h1.on hl
  have HL : Hid _ := kp1 (Kpt.of (b := b) b2) (.int .i64 ((a : Nat) + 1 : Int))
  clear h1 b2 b1 m1 m2 nb
  go_wp2
  go_ret
  exact ⟨rfl, HK.out, HL.out⟩
set_option maxRecDepth 100000 in
set_option maxHeartbeats 4000000 in
theorem prop_2 (h : PS W b g c T a o) {l : Bs} {n p : Int} (hx : tkAt T a = ((2, l, n), p)) (hl : a < T.length) : Calls Tryz.prog 224 #[.pointer (some ⟨b, 0, none⟩)] W fun e w' => e = .returned (.string ⟨l.toArray⟩) ∧ PS w' b g c T (a + 1) o ∧ Kpt b W w' := by
  have C := lookP_any h 0 (by omega)
  rw [Nat.add_zero, hx] at C
  have ln := h.ln
  have H : Hid _ := h
  clear h hx
  obtain ⟨Y, hY⟩ : ∃ Y : ByteArray, ⟨l.toArray⟩ = Y := ⟨_, rfl⟩
  simp only [tqV, hY] at C ⊢
  go_enter Tryz.func224, Tryz.ntmps224
  go_wp2_with fail
  go_at_call 219
  refine C.mono ?_
  rintro e W1 ⟨rfl, b1⟩
  have b2 := b1.alloc b1.size (.cells #[.int .i64 2, .string Y, .int .i64 n, .int .i64 p] 215)
  have h1 := H.out.bel b2
  have m1 := hnew (w := W1) (.cells #[.int .i64 2, .string Y, .int .i64 n, .int .i64 p] 215) rfl
  have nb : W1.heap.size ≠ b := by have := (H.out.bel b1).lt; omega
  have m2 := (Below.heap_setCell (W1.alloc (.cells #[.int .i64 2, .string Y, .int .i64 n, .int .i64 p] 215)) ⟨b, 1, none⟩ (.int .i64 ((a : Nat) + 1 : Int)) W1.heap.size nb).trans m1
  obtain ⟨⟨_, _, _, _, _⟩, _, _, _, _, _⟩ := t5 h1.blk
  obtain ⟨⟨_, _, _, _⟩, _⟩ := box4 m1
  obtain ⟨⟨_, _, _, _⟩, _⟩ := box4 m2
  have HK : Hid _ := h1.on hl
  have HL : Hid _ := kp1 (Kpt.of (b := b) b2) (.int .i64 ((a : Nat) + 1 : Int))
  clear h1 b2 b1 m1 m2 nb
  go_wp2
  go_ret
  exact ⟨rfl, HK.out, HL.out⟩
set_option maxRecDepth 100000 in
set_option maxHeartbeats 4000000 in
theorem text_any (h : PS W b g c T a o) {l : Bs} {n p : Int} (hx : tkAt T a = ((4, l, n), p)) (hl : a < T.length) : Calls Tryz.prog 229 #[.pointer (some ⟨b, 0, none⟩), .bool false] W fun e w' => e = .returned (.string ⟨l.toArray⟩) ∧ PS w' b g c T (a + 1) o ∧ Kpt b W w' := by
  have C := tok_any h 0 (by omega)
  rw [Nat.add_zero, hx] at C
  have ln := h.ln
  have H : Hid _ := h
  clear h hx
  obtain ⟨Y, hY⟩ : ∃ Y : ByteArray, ⟨l.toArray⟩ = Y := ⟨_, rfl⟩
  simp only [tqV, hY] at C ⊢
  go_enter Tryz.func229, Tryz.ntmps229
  go_wp2_with fail
  go_at_call 191
  refine C.mono ?_
  rintro e W1 ⟨rfl, b1⟩
  have b2 := b1.alloc b1.size (.cells #[.int .i64 4, .string Y, .int .i64 n, .int .i64 p] 215)
  have h1 := H.out.bel b2
  have m1 := hnew (w := W1) (.cells #[.int .i64 4, .string Y, .int .i64 n, .int .i64 p] 215) rfl
  have nb : W1.heap.size ≠ b := by have := (H.out.bel b1).lt; omega
  have m2 := (Below.heap_setCell (W1.alloc (.cells #[.int .i64 4, .string Y, .int .i64 n, .int .i64 p] 215)) ⟨b, 1, none⟩ (.int .i64 ((a : Nat) + 1 : Int)) W1.heap.size nb).trans m1
  obtain ⟨⟨_, _, _, _, _⟩, _, _, _, _, _⟩ := t5 h1.blk
  obtain ⟨⟨_, _, _, _⟩, _⟩ := box4 m1
  obtain ⟨⟨_, _, _, _⟩, _⟩ := box4 m2
  have HK : Hid _ := h1.on hl
  have HL : Hid _ := kp1 (Kpt.of (b := b) b2) (.int .i64 ((a : Nat) + 1 : Int))
  clear h1 b2 b1 m1 m2 nb
  go_wp2
  go_ret
  exact ⟨rfl, HK.out, HL.out⟩
set_option maxRecDepth 100000 in
set_option maxHeartbeats 4000000 in
theorem wantName_yes (h : PS W b g c T a o) (s : ByteArray) (hs : kdB 1 (tkAt T a) s = true) (hl : a < T.length) : Calls Tryz.prog 223 #[.pointer (some ⟨b, 0, none⟩), .string s] W fun e w' => e = .returned (.tuple #[]) ∧ PS w' b g c T (a + 1) o ∧ Kpt b W w' := by
  have C := named_any h 0 (by omega) s
  rw [Nat.add_zero, hs] at C
  have ln := h.ln
  obtain ⟨⟨c0, c1, c2, c3, c4⟩, _⟩ := t5 h.blk
  have H : Hid _ := h
  clear h
  go_enter Tryz.func223, Tryz.ntmps223
  go_wp2_with (go_at_call 190; refine C.mono ?_; rintro e W1 ⟨rfl, b1⟩; have h1 := H.out.bel b1; obtain ⟨⟨_, _, _, _, _⟩, _, _, _, _, _⟩ := t5 h1.blk)
  go_end0
  exact ⟨rfl, h1.on hl, kp1 (.of b1) _⟩
set_option maxRecDepth 100000 in
set_option maxHeartbeats 4000000 in
theorem enter_yes (h : PS W b g c T a o) (ho : o < 400) : Calls Tryz.prog 226 #[.pointer (some ⟨b, 0, none⟩)] W fun e w' => e = .returned (.bool true) ∧ PS w' b g c T a (o + 1) ∧ Kpt b W w' := by
  obtain ⟨⟨c0, c1, c2, c3, c4⟩, _, _, _, _, _⟩ := t5 h.blk
  have h400 : ¬ (400 : Int) ≤ ((o : Nat) : Int) := by omega
  have H : Hid _ := h
  clear h
  go_enter Tryz.func226, Tryz.ntmps226
  go_wp2
  go_ret
  exact ⟨rfl, H.out.set2 (o + 1), (Kpt.refl b W).set 2 _⟩
theorem nameN_any (s : ByteArray) (w : World) : Calls Tryz.prog 225 #[.string s] w fun e w' => e = .returned (.agg #[.int .i64 6, .string s, .int .i64 0, .slice none 0 0]) ∧ Below w.heap.size w w' := by
  go_enter Tryz.func225, Tryz.ntmps225
  go_wp2
  refine bodyPost_ret (res_nd Tryz.results225 (heap_alloc_new _ _) rfl) rfl ?_
  exact ⟨rfl, bel_a _ _⟩
end
section
variable {W : World} {b g c : Nat} {T : List Tq} {a o : Nat}
theorem Kpt.four {w w' : World} (h : Kpt b w w') {n : Nat} (hn : w.heap.size ≤ n) (p q r s : Value) : Kpt b w ((((w'.setCell ⟨n, 0, none⟩ p).setCell ⟨n, 1, none⟩ q).setCell ⟨n, 2, none⟩ r).setCell ⟨n, 3, none⟩ s) :=
  (((h.new hn 0 p).new hn 1 q).new hn 2 r).new hn 3 s
theorem PS.other {X : World} (h : PS X b g c T a o) {n : Nat} (hb : b ≠ n) (hg : g ≠ n) (i : Nat) (v : Value) : PS (X.setCell ⟨n, i, none⟩ v) b g c T a o :=
  h.out (by simp [World.setCell]) (Below.heap_setCell _ _ _ _ hb) (Below.heap_setCell _ _ _ _ hg)
theorem PS.four {X : World} (h : PS X b g c T a o) {n : Nat} (hb : b ≠ n) (hg : g ≠ n) (p q r s : Value) : PS ((((X.setCell ⟨n, 0, none⟩ p).setCell ⟨n, 1, none⟩ q).setCell ⟨n, 2, none⟩ r).setCell ⟨n, 3, none⟩ s) b g c T a o :=
  (((h.other hb hg 0 p).other hb hg 1 q).other hb hg 2 r).other hb hg 3 s
theorem Kpt.keep {w w' : World} (h : Kpt b w w') {k : Nat} (hk : k < w.heap.size) (hb : k ≠ b) {x : Option Obj} (e : w.heap[k]? = x) : w'.heap[k]? = x := (h.block k hk hb).trans e
def numV (n : Int) : Value := .agg #[.int .i64 1, .string ⟨#[]⟩, .int .i64 n, .slice none 0 0]
/-- what a rule answers of a number: the place behind it. -/
def NumR (W : World) (b g c : Nat) (T : List Tq) (a o : Nat) (n : Int) (e : Ending) (w' : World) : Prop := e = .returned (numV n) ∧ PS w' b g c T a o ∧ Kpt b W w'
abbrev zNd : Obj := .cells #[.int .i64 0, .string ⟨#[]⟩, .int .i64 0, .slice none 0 0] 51
set_option maxRecDepth 100000 in
set_option maxHeartbeats 4000000 in
theorem primary_num (h : PS W b g c T a o) {l : Bs} {n p : Int} (hx : tkAt T a = ((3, l, n), p)) (hl : a < T.length) : Calls Tryz.prog 273 #[.pointer (some ⟨b, 0, none⟩)] W (NumR W b g c T (a + 1) o n) := by
  have ln := h.ln
  obtain ⟨wA, hwA⟩ : ∃ X, W.alloc zNd = X := ⟨_, rfl⟩
  have m0 : wA.heap[W.heap.size]? = some zNd := by rw [← hwA]; exact hnew _ rfl
  have bA : Below W.heap.size W wA := by rw [← hwA]; exact bel_a _ _
  have sA : W.heap.size < wA.heap.size := (Array.getElem?_eq_some_iff.1 m0).1
  have hA := h.bel bA
  have C := lookP_any hA 0 (by omega)
  rw [Nat.add_zero, hx] at C
  obtain ⟨Y, hY⟩ : ∃ Y : ByteArray, ⟨l.toArray⟩ = Y := ⟨_, rfl⟩
  simp only [tqV, hY] at C
  have nb : b ≠ W.heap.size := by have := h.lt; omega
  have ng : g ≠ W.heap.size := by have := h.tk.lt; omega
  obtain ⟨⟨_, _, _, _, _⟩, _⟩ := t5 hA.blk
  have H : Hid _ := hA
  have HB : Hid _ := bA
  have HM : Hid (wA.heap[W.heap.size]? = some zNd) := m0
  have HS : Hid (W.heap.size < wA.heap.size) := sA
  clear h hA bA m0 sA hx
  go_enter Tryz.func273, Tryz.ntmps273
  go_wp2_with fail
  go_at_call 219
  refine C.mono ?_
  rintro e W1 ⟨rfl, b1⟩
  have b2 := b1.alloc b1.size (.cells #[.int .i64 3, .string Y, .int .i64 n, .int .i64 p] 215)
  have h1 := H.out.bel b2
  have m1 := hnew (w := W1) (.cells #[.int .i64 3, .string Y, .int .i64 n, .int .i64 p] 215) rfl
  have z1 := (b2.block _ HS.out).trans HM.out
  have nb1 : W1.heap.size ≠ b := by have := (H.out.bel b1).lt; omega
  have nr1 : W.heap.size ≠ b := fun e => nb e.symm
  have m2 := (Below.heap_setCell (W1.alloc (.cells #[.int .i64 3, .string Y, .int .i64 n, .int .i64 p] 215)) ⟨b, 1, none⟩ (.int .i64 ((a : Nat) + 1 : Int)) W1.heap.size nb1).trans m1
  have z2 := (Below.heap_setCell (W1.alloc (.cells #[.int .i64 3, .string Y, .int .i64 n, .int .i64 p] 215)) ⟨b, 1, none⟩ (.int .i64 ((a : Nat) + 1 : Int)) W.heap.size nr1).trans z1
  obtain ⟨⟨_, _, _, _, _⟩, _, _, _, _, _⟩ := t5 h1.blk
  obtain ⟨⟨_, _, _, _⟩, _⟩ := box4 m1
  obtain ⟨⟨_, _, _, _⟩, _⟩ := box4 m2
  obtain ⟨⟨_, _, _, _⟩, _, _, _, _⟩ := box4 z2
  have HK : Hid _ := (h1.on hl).four nb ng
  have HL : Hid _ := (kp1 (Kpt.of (b := b) (HB.out.trans (b2.mono (Nat.le_of_lt HS.out)))) (.int .i64 ((a : Nat) + 1 : Int))).four (Nat.le_refl _)
  have HZ : Hid _ := z2
  clear h1 b2 b1 m1 m2 nb z1 z2
  go_wp2
  refine bodyPost_ret (res_nd Tryz.results273 (box4_set _ _ _ _ HZ.out) rfl) rfl ?_
  exact ⟨rfl, HK.out _ _ _ _, HL.out _ _ _ _⟩
/-- a function whose answer is a tree: its cell, and the number that it holds. -/
structure Nst (W X : World) (b g c : Nat) (T : List Tq) (a o : Nat) (k : Nat) (n : Int) : Prop where
  ps : PS X b g c T a o
  kp : Kpt b W X
  r : X.heap[W.heap.size]? = some zNd
  m : X.heap[k]? = some (.cells #[.int .i64 1, .string ⟨#[]⟩, .int .i64 n, .slice none 0 0] 51 (0, 0))
theorem Nst.bel {W X Y : World} {k : Nat} {n : Int} (h : Nst W X b g c T a o k n) (B : Below X.heap.size X Y) : Nst W Y b g c T a o k n :=
  ⟨h.ps.bel B, h.kp.then B, (B.block _ (Array.getElem?_eq_some_iff.1 h.r).1).trans h.r, (B.block _ (Array.getElem?_eq_some_iff.1 h.m).1).trans h.m⟩
theorem Nst.end {W X : World} {k : Nat} {n : Int} (h : PS W b g c T a o) {a' o' : Nat} (hX : Nst W X b g c T a' o' k n) (p q r s : Value) : PS ((((X.setCell ⟨W.heap.size, 0, none⟩ p).setCell ⟨W.heap.size, 1, none⟩ q).setCell ⟨W.heap.size, 2, none⟩ r).setCell ⟨W.heap.size, 3, none⟩ s) b g c T a' o' ∧ Kpt b W ((((X.setCell ⟨W.heap.size, 0, none⟩ p).setCell ⟨W.heap.size, 1, none⟩ q).setCell ⟨W.heap.size, 2, none⟩ r).setCell ⟨W.heap.size, 3, none⟩ s) :=
  ⟨hX.ps.four (by have := h.lt; omega) (by have := h.tk.lt; omega) _ _ _ _, hX.kp.four (Nat.le_refl _) _ _ _ _⟩
/-- behind a call that answers a number, laid into a cell. -/
theorem Nst.of {W wA W1 : World} {n : Int} (h : PS W b g c T a o) {a' o' : Nat} (hA : W.alloc zNd = wA) (h1 : PS W1 b g c T a' o') (k1 : Kpt b wA W1) : Nst W (W1.alloc (.cells #[.int .i64 1, .string ⟨#[]⟩, .int .i64 n, .slice none 0 0] 51)) b g c T a' o' W1.heap.size n := by
  have bA : Below W.heap.size W wA := by rw [← hA]; exact bel_a _ _
  have sA : wA.heap.size = W.heap.size + 1 := by rw [← hA]; simp
  have m0 : wA.heap[W.heap.size]? = some zNd := by rw [← hA]; exact hnew _ rfl
  refine ⟨h1.bel (bel_a _ _), ((Kpt.of bA).trans k1).alloc _, hold _ (by have := k1.size; omega) (k1.keep (by omega) (by have := h.lt; omega) m0), hnew _ rfl⟩
set_option maxRecDepth 100000 in
set_option maxHeartbeats 4000000 in
theorem postfix_num (h : PS W b g c T a o) {l : Bs} {n p : Int} (hx : tkAt T a = ((3, l, n), p)) (hl : a < T.length) (e1 : isB (tkAt T (a + 1)) ⟨#[46]⟩ = false) (e2 : isB (tkAt T (a + 1)) ⟨#[91]⟩ = false) (e3 : isB (tkAt T (a + 1)) ⟨#[40]⟩ = false) : Calls Tryz.prog 271 #[.pointer (some ⟨b, 0, none⟩)] W (NumR W b g c T (a + 1) o n) := by
  obtain ⟨wA, hwA⟩ : ∃ X, W.alloc zNd = X := ⟨_, rfl⟩
  have C := primary_num (h.bel (by rw [← hwA]; exact bel_a W zNd : Below W.heap.size W wA)) hx hl
  have H : Hid _ := h
  have HA : Hid (W.alloc zNd = wA) := hwA
  clear h hx
  go_enter Tryz.func271, Tryz.ntmps271
  go_wp2_with fail
  go_at_call 273
  refine C.mono ?_
  rintro e W1 ⟨rfl, h1, k1⟩
  simp only [numV]
  have hX := Nst.of (n := n) H.out HA.out h1 k1
  have HX : Hid _ := hX
  obtain ⟨⟨_, _, _, _, _⟩, _⟩ := t5 hX.ps.blk
  clear h1 k1 hX C
  go_wp2
  generalize W1.alloc (.cells #[.int .i64 1, .string ⟨#[]⟩, .int .i64 n, .slice none 0 0] 51) = X at *
  go_loopw [] (fun wr => wr = X) (fun _ => 0)
  case atStart => rfl
  case round =>
    obtain rfl := hrel
    go_wp2_with fail
    go_at_call 230
    refine (eat_no HX.out.ps _ e1).mono ?_
    rintro e Y1 ⟨rfl, b1⟩
    have H1 : Hid _ := HX.out.bel b1
    go_wp2_with fail
    go_at_call 230
    refine (eat_no H1.out.ps _ e2).mono ?_
    rintro e Y2 ⟨rfl, b2⟩
    have H2 : Hid _ := H1.out.bel b2
    go_wp2_with fail
    go_at_call 230
    refine (eat_no H2.out.ps _ e3).mono ?_
    rintro e Y3 ⟨rfl, b3⟩
    have H3 : Hid _ := H2.out.bel b3
    obtain ⟨⟨_, _, _, _⟩, _⟩ := box4 H3.out.m
    obtain ⟨⟨_, _, _, _⟩, _, _, _, _⟩ := box4 H3.out.r
    clear b1 b2 b3
    go_wp2
    refine bodyPost_ret (res_nd Tryz.results271 (box4_set _ _ _ _ H3.out.r) rfl) rfl ?_
    obtain ⟨z1, z2⟩ := Nst.end H.out H3.out (.int .i64 1) (.string ⟨#[]⟩) (.int .i64 n) (.slice none 0 0)
    exact ⟨rfl, z1, z2⟩
end
end Go.Proofs.YtpnljjcdlkjfhaaGreatDoor
