/- Own text. The document's parser: a number and a semicolon behind it, as an expression: operators. The document's parser: Expr at a number; a default export. The document's parser: what a walk through a rule keeps; a default export. -/
import Derived.Test.YtpnljjcdlkjfhaaGreatDoorRv27
set_option linter.unusedVariables false
set_option linter.unusedSimpArgs false
namespace Go.Proofs.YtpnljjcdlkjfhaaGreatDoor
open Go.RowKit
section
variable {W : World} {b g c : Nat} {T : List Tq} {a o : Nat}
/-- what stands behind an operand, if nothing of the expression does. -/
structure EndT (t : Tq) : Prop where
  k : t.1.1 = 5
  e1 : isB t ⟨#[46]⟩ = false
  e2 : isB t ⟨#[91]⟩ = false
  e3 : isB t ⟨#[40]⟩ = false
  e4 : isB t ⟨#[63]⟩ = false
  e5 : isB t ⟨#[61]⟩ = false
  rk : ∀ w, Calls Tryz.prog 268 #[.string ⟨t.1.2.1.toArray⟩] w fun e w' => e = .returned (.int .i64 (-1)) ∧ w' = w
/-- a number at which no other rule begins. -/
structure NumT (t : Tq) (n : Int) : Prop where
  x : ∃ l p, t = ((3, l, n), p)
theorem NumT.no {t : Tq} {n : Int} (h : NumT t n) (s : ByteArray) : isB t s = false := by
  obtain ⟨l, p, rfl⟩ := h.x
  unfold isB
  simp
set_option maxRecDepth 100000 in
theorem fldT (x y z u : Value) (w : World) (i : Nat) (v : Value) (hi : #[x, y, z, u][i]? = some v) : (Instr.field 215 (.agg #[x, y, z, u]) i).run Tryz.prog w = .ok v w := by
  have : i < 4 := by simpa using (Array.getElem?_eq_some_iff.1 hi).1
  match i, this with
  | 0, _ => simp at hi; subst hi; rfl
  | 1, _ => simp at hi; subst hi; rfl
  | 2, _ => simp at hi; subst hi; rfl
  | 3, _ => simp at hi; subst hi; rfl
set_option maxRecDepth 100000 in
set_option maxHeartbeats 4000000 in
theorem unary_num (h : PS W b g c T a o) {n : Int} (hx : NumT (tkAt T a) n) (hl : a < T.length) (he : EndT (tkAt T (a + 1))) : Calls Tryz.prog 267 #[.pointer (some ⟨b, 0, none⟩)] W (NumR W b g c T (a + 1) o n) := by
  obtain ⟨wA, hwA⟩ : ∃ X, W.alloc zNd = X := ⟨_, rfl⟩
  have bA : Below W.heap.size W wA := by rw [← hwA]; exact bel_a W zNd
  have m0 : wA.heap[W.heap.size]? = some zNd := by rw [← hwA]; exact hnew _ rfl
  have sA : W.heap.size < wA.heap.size := (Array.getElem?_eq_some_iff.1 m0).1
  have hA := h.bel bA
  obtain ⟨l, p, hxx⟩ := hx.x
  have C := lookP_any hA 0 (by omega)
  rw [Nat.add_zero, hxx] at C
  obtain ⟨Y, hY⟩ : ∃ Y : ByteArray, ⟨l.toArray⟩ = Y := ⟨_, rfl⟩
  simp only [tqV, hY] at C
  have F1 := fun (w : World) => fldT (.int .i64 3) (.string Y) (.int .i64 n) (.int .i64 p) w 1 _ rfl
  have H : Hid _ := h
  have HA : Hid _ := hA
  have HB : Hid _ := bA
  have HM : Hid (wA.heap[W.heap.size]? = some zNd) := m0
  have HS : Hid (W.heap.size < wA.heap.size) := sA
  have nb : b ≠ W.heap.size := by have := h.lt; omega
  have ng : g ≠ W.heap.size := by have := h.tk.lt; omega
  clear h hA bA m0 sA
  go_enter Tryz.func267, Tryz.ntmps267
  go_wp2_with fail
  go_at_call 219
  refine C.mono ?_
  rintro e W1 ⟨rfl, b1⟩
  have h1 := HA.out.bel b1
  obtain ⟨⟨_, _, _, _, _⟩, _⟩ := t5 h1.blk
  go_wp2_with fail
  go_at_call 188
  refine (is_any h1 _).mono ?_
  rw [hx.no]
  rintro e W2 ⟨rfl, b2⟩
  have h2 := h1.bel b2
  go_wp2_with fail
  go_at_call 188
  refine (is_any h2 _).mono ?_
  rw [hx.no]
  rintro e W3 ⟨rfl, b3⟩
  have h3 := h2.bel b3
  go_wp2_with fail
  go_at_call 188
  refine (is_any h3 _).mono ?_
  rw [hx.no]
  rintro e W4 ⟨rfl, b4⟩
  have h4 := h3.bel b4
  go_wp2_with fail
  go_at_call 271
  refine (postfix_num h4 hxx hl he.e1 he.e2 he.e3).mono ?_
  rintro e W5 ⟨rfl, h5, k5⟩
  simp only [numV]
  have B := b1.trans ((b2.trans ((b3.trans (b4.mono b3.size)).mono b2.size)).mono b1.size)
  have z4 := (B.block _ HS.out).trans HM.out
  have z5 := k5.keep (by have := B.size; have := HS.out; omega) (fun e => nb e.symm) z4
  obtain ⟨⟨_, _, _, _⟩, _, _, _, _⟩ := box4 z5
  have HZ : Hid _ := z5
  have HK : Hid _ := h5.four nb ng (.int .i64 1) (.string ⟨#[]⟩) (.int .i64 n) (.slice none 0 0)
  have HL : Hid _ := (Kpt.four ((Kpt.of (b := b) (HB.out.trans (B.mono (Nat.le_of_lt HS.out)))).trans k5) (Nat.le_refl _)) (.int .i64 1) (.string ⟨#[]⟩) (.int .i64 n) (.slice none 0 0)
  clear B h1 h2 h3 h4 h5 z4 z5
  go_wp2
  refine bodyPost_ret (res_nd Tryz.results267 (box4_set _ _ _ _ HZ.out) rfl) rfl ?_
  exact ⟨rfl, HK.out, HL.out⟩
set_option maxRecDepth 100000 in
set_option maxHeartbeats 4000000 in
theorem binary_six (h : PS W b g c T a o) {n : Int} (hx : NumT (tkAt T a) n) (hl : a < T.length) (he : EndT (tkAt T (a + 1))) : Calls Tryz.prog 261 #[.pointer (some ⟨b, 0, none⟩), .int .i64 6] W (NumR W b g c T (a + 1) o n) := by
  obtain ⟨wA, hwA⟩ : ∃ X, W.alloc zNd = X := ⟨_, rfl⟩
  have bA : Below W.heap.size W wA := by rw [← hwA]; exact bel_a W zNd
  have m0 : wA.heap[W.heap.size]? = some zNd := by rw [← hwA]; exact hnew _ rfl
  have sA : W.heap.size < wA.heap.size := (Array.getElem?_eq_some_iff.1 m0).1
  have C := unary_num (h.bel bA) hx hl he
  have HB : Hid _ := bA
  have HM : Hid (wA.heap[W.heap.size]? = some zNd) := m0
  have HS : Hid (W.heap.size < wA.heap.size) := sA
  have nb : b ≠ W.heap.size := by have := h.lt; omega
  have ng : g ≠ W.heap.size := by have := h.tk.lt; omega
  clear h bA m0 sA
  go_enter Tryz.func261, Tryz.ntmps261
  go_wp2_with fail
  go_at_call 267
  refine C.mono ?_
  rintro e W5 ⟨rfl, h5, k5⟩
  simp only [numV]
  have z5 := k5.keep HS.out (fun e => nb e.symm) HM.out
  obtain ⟨⟨_, _, _, _⟩, _, _, _, _⟩ := box4 z5
  have HZ : Hid _ := z5
  have HK : Hid _ := h5.four nb ng (.int .i64 1) (.string ⟨#[]⟩) (.int .i64 n) (.slice none 0 0)
  have HL : Hid _ := (Kpt.four ((Kpt.of (b := b) HB.out).trans k5) (Nat.le_refl _)) (.int .i64 1) (.string ⟨#[]⟩) (.int .i64 n) (.slice none 0 0)
  clear h5 z5
  go_wp2
  refine bodyPost_ret (res_nd Tryz.results261 (box4_set _ _ _ _ HZ.out) rfl) rfl ?_
  exact ⟨rfl, HK.out, HL.out⟩
set_option maxRecDepth 100000 in
set_option maxHeartbeats 4000000 in
theorem binary_down (h : PS W b g c T a o) {n : Int} (he : EndT (tkAt T (a + 1))) (k : Nat) (hk : k < 6) (C : ∀ W, PS W b g c T a o → Calls Tryz.prog 261 #[.pointer (some ⟨b, 0, none⟩), .int .i64 ((k : Nat) + 1 : Int)] W (NumR W b g c T (a + 1) o n)) : Calls Tryz.prog 261 #[.pointer (some ⟨b, 0, none⟩), .int .i64 (k : Nat)] W (NumR W b g c T (a + 1) o n) := by
  obtain ⟨wA, hwA⟩ : ∃ X, W.alloc zNd = X := ⟨_, rfl⟩
  have bA : Below W.heap.size W wA := by rw [← hwA]; exact bel_a W zNd
  have CB := C wA (h.bel bA)
  have H : Hid _ := h
  have HA : Hid (W.alloc zNd = wA) := hwA
  have hk6 : (((k : Nat) : Int) == 6) = false := int_eqb (by omega)
  have hkr : ((-1 : Int) == ((k : Nat) : Int)) = false := int_eqb (by omega)
  clear h bA C
  go_enter Tryz.func261, Tryz.ntmps261
  go_wp2_with fail
  go_at_call 261
  refine CB.mono ?_
  rintro e W1 ⟨rfl, h1, k1⟩
  simp only [numV]
  have hX := Nst.of (n := n) H.out HA.out h1 k1
  have HX : Hid _ := hX
  obtain ⟨⟨_, _, _, _, _⟩, _⟩ := t5 hX.ps.blk
  clear h1 k1 hX CB
  go_wp2
  generalize W1.alloc (.cells #[.int .i64 1, .string ⟨#[]⟩, .int .i64 n, .slice none 0 0] 51) = X at *
  have hrk := he.rk
  have CL : ∀ Y, PS Y b g c T (a + 1) o → Calls Tryz.prog 219 #[.pointer (some ⟨b, 0, none⟩), .int .i64 0] Y fun e w' => e = .returned (tqV (tkAt T (a + 1))) ∧ Below Y.heap.size Y w' := fun Y hY => lookP_any hY 0 (by omega)
  have hk5 := he.k
  generalize tkAt T (a + 1) = y at *
  obtain ⟨⟨yk, yl, yn⟩, yp⟩ := y
  simp only at hk5 hrk
  subst hk5
  obtain ⟨Y, hY⟩ : ∃ Y : ByteArray, ⟨yl.toArray⟩ = Y := ⟨_, rfl⟩
  simp only [tqV, hY] at CL hrk
  have F0 := fun (w : World) => fldT (.int .i64 5) (.string Y) (.int .i64 yn) (.int .i64 yp) w 0 _ rfl
  have F1 := fun (w : World) => fldT (.int .i64 5) (.string Y) (.int .i64 yn) (.int .i64 yp) w 1 _ rfl
  have CL' : Hid _ := CL
  have RK' : Hid _ := hrk
  clear CL hrk he
  go_loopw [] (fun wr => wr = X) (fun _ => 0)
  case atStart => rfl
  case round =>
    obtain rfl := hrel
    go_wp2_with fail
    go_at_call 219
    refine (CL'.out _ HX.out.ps).mono ?_
    rintro e Y1 ⟨rfl, b1⟩
    have H1 : Hid _ := HX.out.bel b1
    go_wp2_with fail
    go_at_call 219
    refine (CL'.out _ H1.out.ps).mono ?_
    rintro e Y2 ⟨rfl, b2⟩
    have H2 : Hid _ := H1.out.bel b2
    go_wp2_with fail
    go_at_call 268
    refine (RK'.out _).mono ?_
    rintro e Y3 ⟨rfl, h3⟩
    obtain rfl := h3.symm
    obtain ⟨⟨_, _, _, _⟩, _⟩ := box4 H2.out.m
    obtain ⟨⟨_, _, _, _⟩, _, _, _, _⟩ := box4 H2.out.r
    clear b1 b2
    go_wp2
    refine bodyPost_ret (res_nd Tryz.results261 (box4_set _ _ _ _ H2.out.r) rfl) rfl ?_
    obtain ⟨z1, z2⟩ := Nst.end H.out H2.out (.int .i64 1) (.string ⟨#[]⟩) (.int .i64 n) (.slice none 0 0)
    exact ⟨rfl, z1, z2⟩
theorem binary_all (h : PS W b g c T a o) {n : Int} (hx : NumT (tkAt T a) n) (hl : a < T.length) (he : EndT (tkAt T (a + 1))) : Calls Tryz.prog 261 #[.pointer (some ⟨b, 0, none⟩), .int .i64 0] W (NumR W b g c T (a + 1) o n) :=
  binary_down h he 0 (by omega) fun W h => binary_down h he 1 (by omega) fun W h => binary_down h he 2 (by omega) fun W h => binary_down h he 3 (by omega) fun W h => binary_down h he 4 (by omega) fun W h => binary_down h he 5 (by omega) fun W h => binary_six h hx hl he
set_option maxRecDepth 100000 in
set_option maxHeartbeats 4000000 in
theorem cond_num (h : PS W b g c T a o) {n : Int} (hx : NumT (tkAt T a) n) (hl : a < T.length) (he : EndT (tkAt T (a + 1))) : Calls Tryz.prog 252 #[.pointer (some ⟨b, 0, none⟩)] W (NumR W b g c T (a + 1) o n) := by
  obtain ⟨wA, hwA⟩ : ∃ X, W.alloc zNd = X := ⟨_, rfl⟩
  have bA : Below W.heap.size W wA := by rw [← hwA]; exact bel_a W zNd
  have CB := binary_all (h.bel bA) hx hl he
  have H : Hid _ := h
  have HA : Hid (W.alloc zNd = wA) := hwA
  clear h bA
  go_enter Tryz.func252, Tryz.ntmps252
  go_wp2_with fail
  go_at_call 261
  refine CB.mono ?_
  rintro e W1 ⟨rfl, h1, k1⟩
  simp only [numV]
  have HX : Hid _ := Nst.of (n := n) H.out HA.out h1 k1
  clear h1 k1 CB
  go_wp2_with fail
  go_at_call 230
  refine (eat_no HX.out.ps _ he.e4).mono ?_
  rintro e Y2 ⟨rfl, b2⟩
  have H2 : Hid _ := HX.out.bel b2
  obtain ⟨⟨_, _, _, _⟩, _⟩ := box4 H2.out.m
  obtain ⟨⟨_, _, _, _⟩, _, _, _, _⟩ := box4 H2.out.r
  clear b2
  go_wp2
  refine bodyPost_ret (res_nd Tryz.results252 (box4_set _ _ _ _ H2.out.r) rfl) rfl ?_
  obtain ⟨z1, z2⟩ := Nst.end H.out H2.out (.int .i64 1) (.string ⟨#[]⟩) (.int .i64 n) (.slice none 0 0)
  exact ⟨rfl, z1, z2⟩
theorem arrow_no (h : PS W b g c T a o) (hs : isB (tkAt T a) ⟨#[40]⟩ = false) : Calls Tryz.prog 250 #[.pointer (some ⟨b, 0, none⟩)] W fun e w' => e = .returned (.bool false) ∧ Below W.heap.size W w' := by
  have C := is_any h ⟨#[40]⟩
  rw [hs] at C
  clear h
  go_enter Tryz.func250, Tryz.ntmps250
  go_wp2_with (go_at_call 188; refine C.mono ?_; rintro e W1 ⟨rfl, b1⟩)
  go_ret
  exact ⟨rfl, b1⟩
end
section
variable {W : World} {b g c : Nat} {T : List Tq} {a o : Nat}
set_option maxRecDepth 100000 in
set_option maxHeartbeats 4000000 in
theorem expr_num (h : PS W b g c T a o) {n : Int} (hx : NumT (tkAt T a) n) (hl : a < T.length) (ho : o < 400) (he : EndT (tkAt T (a + 1))) : Calls Tryz.prog 232 #[.pointer (some ⟨b, 0, none⟩)] W (NumR W b g c T (a + 1) o n) := by
  obtain ⟨wA, hwA⟩ : ∃ X, W.alloc zNd = X := ⟨_, rfl⟩
  have bA : Below W.heap.size W wA := by rw [← hwA]; exact bel_a W zNd
  have m0 : wA.heap[W.heap.size]? = some zNd := by rw [← hwA]; exact hnew _ rfl
  have sA : W.heap.size < wA.heap.size := (Array.getElem?_eq_some_iff.1 m0).1
  have C := enter_yes (h.bel bA) ho
  have nb : b ≠ W.heap.size := by have := h.lt; omega
  have ng : g ≠ W.heap.size := by have := h.tk.lt; omega
  have lb := h.lt
  have lg := h.tk.lt
  have HB : Hid _ := bA
  have HM : Hid (wA.heap[W.heap.size]? = some zNd) := m0
  have HS : Hid (W.heap.size < wA.heap.size) := sA
  clear h bA m0 sA
  go_enter Tryz.func232, Tryz.ntmps232
  go_wp2_with fail
  go_at_call 226
  refine C.mono ?_
  rintro e W1 ⟨rfl, h1, k1⟩
  have s1 := k1.size
  have z1 := k1.keep HS.out (fun e => nb e.symm) HM.out
  have hS1 := HS.out
  have h2 := h1.bel (bel_a W1 zNd)
  have z2 := hold zNd (by omega : W.heap.size < W1.heap.size) z1
  have m2 := hnew (w := W1) zNd rfl
  have HK2 : Hid (Kpt b W (W1.alloc zNd)) := ((Kpt.of HB.out).trans k1).alloc _
  go_wp2_with fail
  go_at_call 250
  refine (arrow_no h2 (hx.no _)).mono ?_
  rintro e W2 ⟨rfl, b2⟩
  have h3 := h2.bel b2
  have sz2 := b2.size
  have sz2 : W1.heap.size + 1 ≤ W2.heap.size := by simpa using sz2
  go_wp2_with fail
  go_at_call 252
  refine (cond_num h3 hx hl he).mono ?_
  rintro e W3 ⟨rfl, h4, k4⟩
  simp only [numV]
  have nk : W1.heap.size ≠ b := by omega
  have nkg : g ≠ W1.heap.size := by omega
  have z3 := k4.keep (by omega : W.heap.size < W2.heap.size) (fun e => nb e.symm) ((b2.block _ (by simp; omega)).trans z2)
  have m3 := k4.keep (by omega : W1.heap.size < W2.heap.size) nk ((b2.block _ (by simp)).trans m2)
  obtain ⟨⟨_, _, _, _⟩, _, _, _, _⟩ := box4 m3
  have HK4 := ((HK2.out.then b2).trans k4).four (show W.heap.size ≤ W1.heap.size by omega) (.int .i64 1) (.string ⟨#[]⟩) (.int .i64 n) (.slice none 0 0)
  have h5 := h4.four (fun e => nk e.symm) nkg (.int .i64 1) (.string ⟨#[]⟩) (.int .i64 n) (.slice none 0 0)
  have m4 := box4_set (.int .i64 1) (.string ⟨#[]⟩) (.int .i64 n) (.slice none 0 0) m3
  have z4 := ((((Below.heap_setCell (((W3.setCell ⟨W1.heap.size, 0, none⟩ (.int .i64 1)).setCell ⟨W1.heap.size, 1, none⟩ (.string ⟨#[]⟩)).setCell ⟨W1.heap.size, 2, none⟩ (.int .i64 n)) ⟨W1.heap.size, 3, none⟩ (.slice none 0 0) W.heap.size (by show W.heap.size ≠ W1.heap.size; omega)).trans (Below.heap_setCell _ _ _ _ (by show W.heap.size ≠ W1.heap.size; omega))).trans (Below.heap_setCell _ _ _ _ (by show W.heap.size ≠ W1.heap.size; omega))).trans (Below.heap_setCell _ _ _ _ (by show W.heap.size ≠ W1.heap.size; omega))).trans z3
  obtain ⟨W4, hW4⟩ : ∃ X, (((W3.setCell ⟨W1.heap.size, 0, none⟩ (.int .i64 1)).setCell ⟨W1.heap.size, 1, none⟩ (.string ⟨#[]⟩)).setCell ⟨W1.heap.size, 2, none⟩ (.int .i64 n)).setCell ⟨W1.heap.size, 3, none⟩ (.slice none 0 0) = X := ⟨_, rfl⟩
  rw [hW4] at HK4 h5 m4 z4
  obtain ⟨⟨_, _, _, _, _⟩, _⟩ := t5 h5.blk
  clear h1 h2 h3 h4 z1 z2 z3 m2 m3
  go_wp2_with fail
  go_at_call 188
  refine (is_any h5 _).mono ?_
  rw [he.e5]
  rintro e W5 ⟨rfl, b5⟩
  have h6 := h5.bel b5
  have z5 := (b5.block _ (Array.getElem?_eq_some_iff.1 z4).1).trans z4
  have m5 := (b5.block _ (Array.getElem?_eq_some_iff.1 m4).1).trans m4
  have h7 := h6.set2 o
  have z6 := (Below.heap_setCell W5 ⟨b, 2, none⟩ (.int .i64 (o : Nat)) W.heap.size (fun e => nb e.symm)).trans z5
  have m6 := (Below.heap_setCell W5 ⟨b, 2, none⟩ (.int .i64 (o : Nat)) W1.heap.size nk).trans m5
  have k7 := ((HK4.then b5).set 2 (.int .i64 (o : Nat)))
  obtain ⟨⟨_, _, _, _, _⟩, _, _, _, _, _⟩ := t5 h6.blk
  obtain ⟨⟨_, _, _, _⟩, _⟩ := box4 m6
  obtain ⟨⟨_, _, _, _⟩, _, _, _, _⟩ := box4 z6
  have HK : Hid _ := h7.four nb ng (.int .i64 1) (.string ⟨#[]⟩) (.int .i64 n) (.slice none 0 0)
  have HL : Hid _ := k7.four (Nat.le_refl _) (.int .i64 1) (.string ⟨#[]⟩) (.int .i64 n) (.slice none 0 0)
  have HZ : Hid _ := z6
  clear h5 h6 h7 z4 z5 z6 m4 m5 m6 k7 hW4
  go_wp2
  refine bodyPost_ret (res_nd Tryz.results232 (box4_set _ _ _ _ HZ.out) rfl) rfl ?_
  exact ⟨rfl, HK.out, HL.out⟩
end
section
variable {W : World} {b g c : Nat} {T : List Tq} {a o : Nat}
theorem is_no (h : PS W b g c T a o) (s : ByteArray) (hs : isB (tkAt T a) s = false) : Calls Tryz.prog 188 #[.pointer (some ⟨b, 0, none⟩), .string s] W fun e w' => e = .returned (.bool false) ∧ Below W.heap.size W w' := by
  have := is_any h s
  rwa [hs] at this
theorem is_yes (h : PS W b g c T a o) (s : ByteArray) (hs : isB (tkAt T a) s = true) : Calls Tryz.prog 188 #[.pointer (some ⟨b, 0, none⟩), .string s] W fun e w' => e = .returned (.bool true) ∧ Below W.heap.size W w' := by
  have := is_any h s
  rwa [hs] at this
theorem named_no (h : PS W b g c T a o) (s : ByteArray) (hs : kdB 1 (tkAt T a) s = false) : Calls Tryz.prog 190 #[.pointer (some ⟨b, 0, none⟩), .int .i64 0, .string s] W fun e w' => e = .returned (.bool false) ∧ Below W.heap.size W w' := by
  have := named_any h 0 (by omega) s
  rwa [Nat.add_zero, hs] at this
theorem named_yes (h : PS W b g c T a o) (s : ByteArray) (hs : kdB 1 (tkAt T a) s = true) : Calls Tryz.prog 190 #[.pointer (some ⟨b, 0, none⟩), .int .i64 0, .string s] W fun e w' => e = .returned (.bool true) ∧ Below W.heap.size W w' := by
  have := named_any h 0 (by omega) s
  rwa [Nat.add_zero, hs] at this
theorem tok_is (h : PS W b g c T a o) {t : Tq} (hs : tkAt T a = t) : Calls Tryz.prog 191 #[.pointer (some ⟨b, 0, none⟩), .int .i64 0] W fun e w' => e = .returned (.agg #[.int .i64 t.1.1, .string ⟨t.1.2.1.toArray⟩, .int .i64 t.1.2.2, .int .i64 t.2]) ∧ Below W.heap.size W w' := by
  have := tok_any h 0 (by omega)
  rwa [Nat.add_zero, hs] at this
/-- what a walk keeps: where the parser stands, and the blocks of the call's own that it knows. -/
structure Zst (W X : World) (b g c : Nat) (T : List Tq) (a o : Nat) (K : List (Nat × Obj)) : Prop where
  ps : PS X b g c T a o
  kp : Kpt b W X
  lb : b < W.heap.size
  lg : g < W.heap.size
  kn : ∀ p ∈ K, X.heap[p.1]? = some p.2 ∧ W.heap.size ≤ p.1
theorem Zst.begin (h : PS W b g c T a o) : Zst W W b g c T a o [] := ⟨h, Kpt.refl _ _, h.lt, h.tk.lt, by simp⟩
theorem Zst.bel {X Y : World} {K : List (Nat × Obj)} (h : Zst W X b g c T a o K) (B : Below X.heap.size X Y) : Zst W Y b g c T a o K :=
  ⟨h.ps.bel B, h.kp.then B, h.lb, h.lg, fun p hp => ⟨(B.block _ (Array.getElem?_eq_some_iff.1 (h.kn p hp).1).1).trans (h.kn p hp).1, (h.kn p hp).2⟩⟩
theorem Zst.go {X Y : World} {K : List (Nat × Obj)} {a' o' : Nat} (h : Zst W X b g c T a o K) (hY : PS Y b g c T a' o' ∧ Kpt b X Y) : Zst W Y b g c T a' o' K :=
  ⟨hY.1, h.kp.trans hY.2, h.lb, h.lg, fun p hp => ⟨hY.2.keep (Array.getElem?_eq_some_iff.1 (h.kn p hp).1).1 (by have := h.lb; have := (h.kn p hp).2; omega) (h.kn p hp).1, (h.kn p hp).2⟩⟩
theorem Zst.new {X : World} {K : List (Nat × Obj)} (h : Zst W X b g c T a o K) (ob : Obj) : Zst W (X.alloc ob) b g c T a o ((X.heap.size, ob) :: K) := by
  have := h.bel (bel_a X ob)
  refine ⟨this.ps, this.kp, h.lb, h.lg, fun p hp => ?_⟩
  rcases List.mem_cons.1 hp with rfl | hp
  · exact ⟨hnew _ rfl, h.kp.size⟩
  · exact this.kn p hp
theorem Zst.at {X : World} {K : List (Nat × Obj)} (h : Zst W X b g c T a o K) {k : Nat} {ob : Obj} (hk : (k, ob) ∈ K) : X.heap[k]? = some ob := (h.kn _ hk).1
/-- one place on. -/
theorem Zst.on {X : World} {K : List (Nat × Obj)} (h : Zst W X b g c T a o K) (hl : a < T.length) : Zst W (X.setCell ⟨b, 1, none⟩ (.int .i64 ((a : Nat) + 1 : Int))) b g c T (a + 1) o K :=
  h.go ⟨h.ps.on hl, (Kpt.refl b X).set 1 _⟩
/-- a cell of the walk's own is written: its block is told anew, the others stay. -/
theorem Zst.set {X : World} {K K' : List (Nat × Obj)} (h : Zst W X b g c T a o K) {k : Nat} (hk : W.heap.size ≤ k) {ob : Obj} {i : Nat} {v : Value} (hn : (X.setCell ⟨k, i, none⟩ v).heap[k]? = some ob) (hK : ∀ p ∈ K', p ∈ K ∧ p.1 ≠ k) : Zst W (X.setCell ⟨k, i, none⟩ v) b g c T a o ((k, ob) :: K') := by
  have lb := h.lb
  have lg := h.lg
  refine ⟨h.ps.other (by omega) (by omega) _ _, h.kp.new hk _ _, lb, lg, fun p hp => ?_⟩
  rcases List.mem_cons.1 hp with rfl | hp
  · exact ⟨hn, hk⟩
  · obtain ⟨q1, q2⟩ := hK p hp
    exact ⟨(Below.heap_setCell _ _ _ _ q2).trans (h.kn p q1).1, (h.kn p q1).2⟩
theorem Zst.set4 {X : World} {K K' : List (Nat × Obj)} (h : Zst W X b g c T a o K) {k : Nat} {p0 q0 r0 s0 : Value} (hk : (k, .cells #[p0, q0, r0, s0] 51 (0, 0)) ∈ K) (hK : ∀ p ∈ K', p ∈ K ∧ p.1 ≠ k) (p q r s : Value) : Zst W ((((X.setCell ⟨k, 0, none⟩ p).setCell ⟨k, 1, none⟩ q).setCell ⟨k, 2, none⟩ r).setCell ⟨k, 3, none⟩ s) b g c T a o ((k, .cells #[p, q, r, s] 51 (0, 0)) :: K') := by
  have lk := (h.kn _ hk).2
  have h0 := h.at hk
  have h1 := h.set (K' := K') (i := 0) (v := p) lk (ob := .cells #[p, q0, r0, s0] 51 (0, 0)) (by simp [World.setCell, Array.getElem?_modify, h0]) hK
  have h2 := h1.set (K' := K') (i := 1) (v := q) lk (ob := .cells #[p, q, r0, s0] 51 (0, 0)) (by have := h1.at (List.mem_cons_self ..); simp [World.setCell, Array.getElem?_modify] at this ⊢; simp [h0]) (fun x hx => ⟨List.mem_cons_of_mem _ hx, (hK x hx).2⟩)
  have h3 := h2.set (K' := K') (i := 2) (v := r) lk (ob := .cells #[p, q, r, s0] 51 (0, 0)) (by simp [World.setCell, Array.getElem?_modify, h0]) (fun x hx => ⟨List.mem_cons_of_mem _ hx, (hK x hx).2⟩)
  exact h3.set (K' := K') (i := 3) (v := s) lk (ob := .cells #[p, q, r, s] 51 (0, 0)) (by simp [World.setCell, Array.getElem?_modify, h0]) (fun x hx => ⟨List.mem_cons_of_mem _ hx, (hK x hx).2⟩)
/-- a tree in a list of its own. -/
theorem lat_one {X : World} {S : Nat → Prop} {k cap : Nat} {x : Nd} {kv : Value} {t : TypeId} (h : X.heap[k]? = some (.cells #[.int .i64 x.k, .string x.t, .int .i64 x.n, kv] t (0, 0))) (hS : S k) (hk : LAt X S kv x.ks) : LAt X S (.slice (some ⟨k, 0, none⟩) 1 cap) [x] := by
  obtain ⟨c, _⟩ := box4 h
  refine LAt.row k 0 cap [x] (fun _ => kv) hS (Array.getElem?_eq_some_iff.1 h).1 (fun i hi => ?_) (fun i hi => ?_)
  · obtain rfl : i = 0 := by simp at hi; exact hi
    simpa [Four] using c
  · obtain rfl : i = 0 := by simp at hi; exact hi
    simpa using hk
/-- what a rule answers: a tree in new memory, and the place behind. -/
def ItR (W : World) (b g c : Nat) (T : List Tq) (a o : Nat) (x : Nd) (e : Ending) (w' : World) : Prop := ∃ kv, e = .returned (x.v kv) ∧ LAt w' (fun k => W.heap.size ≤ k) kv x.ks ∧ PS w' b g c T a o ∧ Kpt b W w'
theorem LAt.kpt {X Y : World} {m : Nat} {v : Value} {ks : List Nd} (h : LAt X (fun k => m ≤ k) v ks) (k : Kpt b X Y) (hb : b < m) : LAt Y (fun k => m ≤ k) v ks :=
  h.keep k.size (fun j hj hl => k.block j hl (by have : m ≤ j := hj; omega))
theorem LAt.set {X : World} {m n i : Nat} {u v : Value} {ks : List Nd} (h : LAt X (fun k => m ≤ k) v ks) (hn : n < m) : LAt (X.setCell ⟨n, i, none⟩ u) (fun k => m ≤ k) v ks :=
  h.keep (by simp [World.setCell]) (fun j hj hl => Below.heap_setCell _ _ _ _ (by have : m ≤ j := hj; show j ≠ n; omega))
end
end Go.Proofs.YtpnljjcdlkjfhaaGreatDoor
