/- Own text. The document's parser: an export in brackets; items. The document's parser: a source whose items are known, as a module. The document's parser: a source whose items are known, as a module. -/
import Derived.Test.YtpnljjcdlkjfhaaGreatDoorRv29
set_option linter.unusedVariables false
set_option linter.unusedSimpArgs false
namespace Go.Proofs.YtpnljjcdlkjfhaaGreatDoor
open Go.RowKit
section
variable {W : World} {b g c : Nat} {T : List Tq} {a o : Nat}
/-- a tree of another call, handed on out of the cell of this one's answer. -/
theorem ItR.hand {X Y : World} {a' o' : Nat} {x : Nd} {kv : Value} {K : List (Nat × Obj)} (h : Zst W X b g c T a o ((W.heap.size, zNd) :: K)) (hl : LAt Y (fun k => X.heap.size ≤ k) kv x.ks) (hp : PS Y b g c T a' o') (k : Kpt b X Y) : Y.heap[W.heap.size]? = some zNd ∧ ∀ p q r s, LAt ((((Y.setCell ⟨W.heap.size, 0, none⟩ p).setCell ⟨W.heap.size, 1, none⟩ q).setCell ⟨W.heap.size, 2, none⟩ r).setCell ⟨W.heap.size, 3, none⟩ s) (fun k => W.heap.size ≤ k) kv x.ks ∧ PS ((((Y.setCell ⟨W.heap.size, 0, none⟩ p).setCell ⟨W.heap.size, 1, none⟩ q).setCell ⟨W.heap.size, 2, none⟩ r).setCell ⟨W.heap.size, 3, none⟩ s) b g c T a' o' ∧ Kpt b W ((((Y.setCell ⟨W.heap.size, 0, none⟩ p).setCell ⟨W.heap.size, 1, none⟩ q).setCell ⟨W.heap.size, 2, none⟩ r).setCell ⟨W.heap.size, 3, none⟩ s) := by
  have hr := (Array.getElem?_eq_some_iff.1 (h.at (List.mem_cons_self ..))).1
  have lb := h.lb
  have lg := h.lg
  refine ⟨k.keep hr (by omega) (h.at (List.mem_cons_self ..)), fun p q r s => ⟨((((hl.set hr).set hr).set hr).set hr).mono (fun j hj => by have : X.heap.size ≤ j := hj; show W.heap.size ≤ j; omega), hp.four (by omega) (by omega) _ _ _ _, (h.kp.trans k).four (Nat.le_refl _) _ _ _ _⟩⟩
set_option maxRecDepth 100000 in
set_option maxHeartbeats 8000000 in
theorem exports_one (h : PS W b g c T a o) {n0 p0 n1 p1 n2 p2 n3 p3 n4 p4 n5 p5 n6 p6 : Int} {x y : Bs} (t0 : tkAt T a = ((2, [101, 120, 112, 111, 114, 116], n0), p0)) (t1 : tkAt T (a + 1) = ((5, [123], n1), p1)) (t2 : tkAt T (a + 1 + 1) = ((1, x, n2), p2)) (t3 : tkAt T (a + 1 + 1 + 1) = ((1, [97, 115], n3), p3)) (t4 : tkAt T (a + 1 + 1 + 1 + 1) = ((1, y, n4), p4)) (t5' : tkAt T (a + 1 + 1 + 1 + 1 + 1) = ((5, [125], n5), p5)) (t6 : tkAt T (a + 1 + 1 + 1 + 1 + 1 + 1) = ((5, [59], n6), p6)) (hl : a + 7 ≤ T.length) (hne : (y == x) = false) : Calls Tryz.prog 198 #[.pointer (some ⟨b, 0, none⟩)] W (ItR W b g c T (a + 1 + 1 + 1 + 1 + 1 + 1 + 1) o (.mk 64 ⟨#[]⟩ 0 [.mk 65 ⟨x.toArray⟩ 0 [.mk 6 ⟨y.toArray⟩ 0 []]])) := by
  obtain ⟨wA, hwA⟩ : ∃ X, W.alloc zNd = X := ⟨_, rfl⟩
  have H0 : Hid (Zst W wA b g c T a o [(W.heap.size, zNd)]) := by rw [← hwA]; exact (Zst.begin h).new zNd
  clear h
  go_enter Tryz.func198, Tryz.ntmps198
  go_wp2_with fail
  go_at_call 220
  refine (want_yes H0.out.ps _ (by rw [t0]; rfl) (by omega)).mono ?_
  rintro e W1 ⟨rfl, h1⟩
  have H1 : Hid _ := H0.out.go h1
  go_wp2_with fail
  go_at_call 188
  refine (is_no H1.out.ps _ (by rw [t1]; rfl)).mono ?_
  rintro e W2 ⟨rfl, b2⟩
  have H2 : Hid _ := H1.out.bel b2
  go_wp2_with fail
  go_at_call 188
  refine (is_no H2.out.ps _ (by rw [t1]; rfl)).mono ?_
  rintro e W3 ⟨rfl, b3⟩
  have H3 : Hid _ := H2.out.bel b3
  go_wp2_with fail
  go_at_call 188
  refine (is_no H3.out.ps _ (by rw [t1]; rfl)).mono ?_
  rintro e W4 ⟨rfl, b4⟩
  have H4 : Hid _ := H3.out.bel b4
  go_wp2_with fail
  go_at_call 188
  refine (is_no H4.out.ps _ (by rw [t1]; rfl)).mono ?_
  rintro e W5 ⟨rfl, b5⟩
  have H5 : Hid _ := H4.out.bel b5
  go_wp2_with fail
  go_at_call 190
  refine (named_no H5.out.ps _ (by rw [t1]; rfl)).mono ?_
  rintro e W6 ⟨rfl, b6⟩
  have H6 : Hid _ := H5.out.bel b6
  go_wp2_with fail
  go_at_call 230
  refine (eat_no H6.out.ps _ (by rw [t1]; rfl)).mono ?_
  rintro e W7 ⟨rfl, b7⟩
  have H7 : Hid _ := H6.out.bel b7
  go_wp2_with fail
  go_at_call 230
  refine (eat_no H7.out.ps _ (by rw [t1]; rfl)).mono ?_
  rintro e W8 ⟨rfl, b8⟩
  have H8 : Hid _ := H7.out.bel b8
  have N8 : Hid _ := H8.out.new (zEx)
  clear H8
  have H8 : Hid _ := N8.out
  clear N8
  go_wp2_with fail
  go_at_call 190
  refine (named_no H8.out.ps _ (by rw [t1]; rfl)).mono ?_
  rintro e W9 ⟨rfl, b9⟩
  have H9 : Hid _ := H8.out.bel b9
  obtain ⟨⟨_, _, _, _⟩, _⟩ := box4 (H9.out.at (List.mem_cons_self ..))
  have HZ : Hid (Zst W W9 b g c T (a + 1) o [(W.heap.size, zNd)]) := ⟨H9.out.ps, H9.out.kp, H9.out.lb, H9.out.lg, fun p hp => H9.out.kn p (List.mem_cons_of_mem _ hp)⟩
  go_wp2_with fail
  go_at_call 233
  refine (exportNames_one H9.out.ps t1 t2 t3 t4 t5' t6 (by omega) hne).mono ?_
  rintro e Y ⟨kv, rfl, l1, h1, k1⟩
  obtain ⟨z1, z2⟩ := ItR.hand (x := .mk 64 ⟨#[]⟩ 0 [.mk 65 ⟨x.toArray⟩ 0 [.mk 6 ⟨y.toArray⟩ 0 []]]) HZ.out l1 h1 k1
  obtain ⟨va, vc, rfl⟩ := l1.sl
  obtain ⟨⟨_, _, _, _⟩, _, _, _, _⟩ := box4 z1
  have HM : Hid _ := z1
  have HE : Hid _ := z2
  clear z1 z2
  simp only [Nd.v, Nd.k, Nd.t, Nd.n]
  go_wp2
  refine bodyPost_ret (res_nd Tryz.results198 (box4_set _ _ _ _ HM.out) rfl) rfl ?_
  exact ⟨_, rfl, HE.out _ _ _ _⟩
theorem isAlias_no (h : PS W b g c T a o) (hs : kdB 1 (tkAt T a) ⟨#[116, 121, 112, 101]⟩ = false) : Calls Tryz.prog 195 #[.pointer (some ⟨b, 0, none⟩)] W fun e w' => e = .returned (.bool false) ∧ Below W.heap.size W w' := by
  have C := named_no h _ hs
  clear h
  go_enter Tryz.func195, Tryz.ntmps195
  go_wp2_with (go_at_call 190; refine C.mono ?_; rintro e W1 ⟨rfl, b1⟩)
  go_ret
  exact ⟨rfl, b1⟩
set_option maxRecDepth 100000 in
set_option maxHeartbeats 8000000 in
theorem item_import (h : PS W b g c T a o) {n0 p0 : Int} {a' : Nat} {x : Nd} (t0 : tkAt T a = ((2, [105, 109, 112, 111, 114, 116], n0), p0)) (C : ∀ X, PS X b g c T a o → Calls Tryz.prog 197 #[.pointer (some ⟨b, 0, none⟩)] X (ItR X b g c T a' o x)) : Calls Tryz.prog 147 #[.pointer (some ⟨b, 0, none⟩), .bool false] W (ItR W b g c T a' o x) := by
  obtain ⟨wA, hwA⟩ : ∃ X, W.alloc zNd = X := ⟨_, rfl⟩
  have H0 : Hid (Zst W wA b g c T a o [(W.heap.size, zNd)]) := by rw [← hwA]; exact (Zst.begin h).new zNd
  clear h
  go_enter Tryz.func147, Tryz.ntmps147
  go_wp2_with fail
  go_at_call 188
  refine (is_no H0.out.ps _ (by rw [t0]; rfl)).mono ?_
  rintro e W1 ⟨rfl, b1⟩
  have H1 : Hid _ := H0.out.bel b1
  go_wp2_with fail
  go_at_call 195
  refine (isAlias_no H1.out.ps (by rw [t0]; rfl)).mono ?_
  rintro e W2 ⟨rfl, b2⟩
  have H2 : Hid _ := H1.out.bel b2
  go_wp2_with fail
  go_at_call 188
  refine (is_yes H2.out.ps _ (by rw [t0]; rfl)).mono ?_
  rintro e W3 ⟨rfl, b3⟩
  have H3 : Hid _ := H2.out.bel b3
  go_wp2_with fail
  go_at_call 197
  refine (C _ H3.out.ps).mono ?_
  rintro e Y ⟨kv, rfl, l1, h1, k1⟩
  obtain ⟨z1, z2⟩ := ItR.hand H3.out l1 h1 k1
  obtain ⟨va, vc, rfl⟩ := l1.sl
  obtain ⟨⟨_, _, _, _⟩, _, _, _, _⟩ := box4 z1
  have HM : Hid _ := z1
  have HE : Hid _ := z2
  clear z1 z2 l1
  obtain ⟨xk, xt, xn, xs⟩ := x
  simp only [Nd.v, Nd.k, Nd.t, Nd.n, Nd.ks] at HE ⊢
  go_wp2
  refine bodyPost_ret (res_nd Tryz.results147 (box4_set _ _ _ _ HM.out) rfl) rfl ?_
  exact ⟨_, rfl, HE.out _ _ _ _⟩
set_option maxRecDepth 100000 in
set_option maxHeartbeats 8000000 in
theorem item_export (h : PS W b g c T a o) {n0 p0 : Int} {a' : Nat} {x : Nd} (t0 : tkAt T a = ((2, [101, 120, 112, 111, 114, 116], n0), p0)) (C : ∀ X, PS X b g c T a o → Calls Tryz.prog 198 #[.pointer (some ⟨b, 0, none⟩)] X (ItR X b g c T a' o x)) : Calls Tryz.prog 147 #[.pointer (some ⟨b, 0, none⟩), .bool false] W (ItR W b g c T a' o x) := by
  obtain ⟨wA, hwA⟩ : ∃ X, W.alloc zNd = X := ⟨_, rfl⟩
  have H0 : Hid (Zst W wA b g c T a o [(W.heap.size, zNd)]) := by rw [← hwA]; exact (Zst.begin h).new zNd
  clear h
  go_enter Tryz.func147, Tryz.ntmps147
  go_wp2_with fail
  go_at_call 188
  refine (is_no H0.out.ps _ (by rw [t0]; rfl)).mono ?_
  rintro e W1 ⟨rfl, b1⟩
  have H1 : Hid _ := H0.out.bel b1
  go_wp2_with fail
  go_at_call 195
  refine (isAlias_no H1.out.ps (by rw [t0]; rfl)).mono ?_
  rintro e W2 ⟨rfl, b2⟩
  have H2 : Hid _ := H1.out.bel b2
  go_wp2_with fail
  go_at_call 188
  refine (is_no H2.out.ps _ (by rw [t0]; rfl)).mono ?_
  rintro e W3 ⟨rfl, b3⟩
  have H3 : Hid _ := H2.out.bel b3
  go_wp2_with fail
  go_at_call 188
  refine (is_yes H3.out.ps _ (by rw [t0]; rfl)).mono ?_
  rintro e W4 ⟨rfl, b4⟩
  have H4 : Hid _ := H3.out.bel b4
  go_wp2_with fail
  go_at_call 198
  refine (C _ H4.out.ps).mono ?_
  rintro e Y ⟨kv, rfl, l1, h1, k1⟩
  obtain ⟨z1, z2⟩ := ItR.hand H4.out l1 h1 k1
  obtain ⟨va, vc, rfl⟩ := l1.sl
  obtain ⟨⟨_, _, _, _⟩, _, _, _, _⟩ := box4 z1
  have HM : Hid _ := z1
  have HE : Hid _ := z2
  clear z1 z2 l1
  obtain ⟨xk, xt, xn, xs⟩ := x
  simp only [Nd.v, Nd.k, Nd.t, Nd.n, Nd.ks] at HE ⊢
  go_wp2
  refine bodyPost_ret (res_nd Tryz.results147 (box4_set _ _ _ _ HM.out) rfl) rfl ?_
  exact ⟨_, rfl, HE.out _ _ _ _⟩
end
/-- a tree and two numbers that are answered. -/
theorem res_nd3 {fn : Func} {p q r : Nat} (h : fn.results = #[.cell p 51, .tmp q, .tmp r]) {W : World} {n : Nat} {a b c d u v : Value} {t : TypeId} {tmps : Array Value} (hb : W.heap[n]? = some (.cells #[a, b, c, d] t (0, 0))) (ht : tmps[p]?.getD undef = .pointer (some ⟨n, 0, none⟩)) (hq : tmps[q]?.getD undef = u) (hr : tmps[r]?.getD undef = v) :
    (results fn tmps).run Tryz.prog W = .ok (.tuple #[.agg #[a, b, c, d], u, v]) W := by
  obtain ⟨⟨c0, c1, c2, c3⟩, _⟩ := box4 hb
  simp [results, h, go_sem, ht, c0, c1, c2, c3, hq, hr]
section
variable {W : World} {b g c : Nat} {T : List Tq} {a o : Nat}
set_option maxRecDepth 100000 in
theorem begin_at (ht : Tks W g T) (ln : T.length ≤ 1048576) (la : a ≤ T.length) : Calls Tryz.prog 145 #[.slice (some ⟨g, 0, none⟩) T.length c, .int .i64 (a : Nat)] W fun e w' => e = .returned (.pointer (some ⟨W.heap.size, 0, none⟩)) ∧ PS w' W.heap.size g c T a 0 ∧ Below W.heap.size W w' := by
  have h1 : ¬ ((a : Nat) : Int) < 0 := by omega
  have h2 : ¬ ((T.length : Nat) : Int) < ((a : Nat) : Int) := by omega
  have hb := bel_a W (.cells #[.slice (some ⟨g, 0, none⟩) T.length c, .int .i64 (a : Nat), .int .i64 0, .int .i64 0, .int .i64 0] 241)
  have HP : Hid (PS (W.alloc (.cells #[.slice (some ⟨g, 0, none⟩) T.length c, .int .i64 (a : Nat), .int .i64 0, .int .i64 0, .int .i64 0] 241)) W.heap.size g c T a 0) := ⟨hnew _ rfl, ht.keep hb.size (hb.block _ ht.lt), by have := ht.lt; omega, ln, la⟩
  have HB : Hid _ := hb
  clear hb ht
  go_enter Tryz.func145, Tryz.ntmps145
  go_wp2
  go_ret
  exact ⟨rfl, HP.out, HB.out⟩
set_option maxRecDepth 100000 in
set_option maxHeartbeats 4000000 in
theorem end_at (h : PS W b g c T a o) (x0 : Int) (x1 : ByteArray) (x2 : Int) (va : Option Addr) (vn vc : Nat) : Calls Tryz.prog 146 #[.pointer (some ⟨b, 0, none⟩), .agg #[.int .i64 x0, .string x1, .int .i64 x2, .slice va vn vc]] W fun e w' => e = .returned (.tuple #[.agg #[.int .i64 x0, .string x1, .int .i64 x2, .slice va vn vc], .int .i64 (a : Nat), .int .i64 0]) ∧ Below W.heap.size W w' := by
  obtain ⟨wA, hwA⟩ : ∃ X, (W.alloc (.cells #[.int .i64 x0, .string x1, .int .i64 x2, .slice va vn vc] 51)).alloc zNd = X := ⟨_, rfl⟩
  have bA : Below W.heap.size W wA := by rw [← hwA]; exact (bel_a _ _).alloc (by simp) _
  have m0 : wA.heap[W.heap.size]? = some (.cells #[.int .i64 x0, .string x1, .int .i64 x2, .slice va vn vc] 51 (0, 0)) := by rw [← hwA]; exact hold _ (by simp) (hnew _ rfl)
  have m1 : wA.heap[W.heap.size + 1]? = some zNd := by rw [← hwA]; exact hnew _ (by simp)
  obtain ⟨⟨_, _, _, _, _⟩, _⟩ := t5 (h.bel bA).blk
  obtain ⟨⟨_, _, _, _⟩, _⟩ := box4 m0
  obtain ⟨⟨_, _, _, _⟩, _, _, _, _⟩ := box4 m1
  have hne : b ≠ W.heap.size + 1 := by have := h.lt; omega
  have hng : g ≠ W.heap.size + 1 := by have := h.tk.lt; omega
  obtain ⟨⟨_, _, _, _, _⟩, _⟩ := t5 ((h.bel bA).four hne hng (.int .i64 x0) (.string x1) (.int .i64 x2) (.slice va vn vc)).blk
  have HB : Hid _ := bA
  have HM : Hid _ := m1
  clear h m0 m1 bA
  go_enter Tryz.func146, Tryz.ntmps146
  go_wp2
  go_region
  go_wp2
  refine bodyPost_ret (res_nd3 Tryz.results146 (box4_set _ _ _ _ HM.out) rfl rfl rfl) rfl ?_
  exact ⟨rfl, (bel4 HB.out (by omega) _ _ _ _).drew⟩
end
/-- the items of tokens from a place on. -/
inductive Items (T : List Tq) : Nat → List Nd → Prop
  | nil : Items T T.length []
  | cons (a a' : Nat) (x : Nd) (xs : List Nd) (ha : a < T.length) (haa : a < a') (hC : ∀ (W : World) (b g c : Nat), PS W b g c T a 0 → Calls Tryz.prog 147 #[.pointer (some ⟨b, 0, none⟩), .bool false] W (ItR W b g c T a' 0 x)) (h : Items T a' xs) : Items T a (x :: xs)
theorem Items.le {T : List Tq} {a : Nat} {xs : List Nd} (h : Items T a xs) : a ≤ T.length := by
  cases h with
  | nil => exact Nat.le_refl _
  | cons _ _ _ _ ha _ _ _ => exact Nat.le_of_lt ha
theorem Items.done {T : List Tq} {a : Nat} {xs : List Nd} (h : Items T a xs) (hl : ¬ a < T.length) : xs = [] := by
  cases h with
  | nil => rfl
  | cons _ _ _ _ ha _ _ _ => exact absurd ha hl
theorem Items.next {T : List Tq} {a : Nat} {xs : List Nd} (h : Items T a xs) (hl : a < T.length) : ∃ a' x xs', xs = x :: xs' ∧ a < a' ∧ (∀ (W : World) (b g c : Nat), PS W b g c T a 0 → Calls Tryz.prog 147 #[.pointer (some ⟨b, 0, none⟩), .bool false] W (ItR W b g c T a' 0 x)) ∧ Items T a' xs' := by
  cases h with
  | nil => omega
  | cons _ a' x xs' ha haa hC h => exact ⟨a', x, xs', rfl, haa, hC, h⟩
theorem Items.count {T : List Tq} : ∀ {a : Nat} {xs : List Nd}, Items T a xs → a + xs.length ≤ T.length := by
  intro a xs h
  induction h with
  | nil => simp
  | cons a a' x xs ha haa hC h ih => simp; omega
theorem tks_of {w : World} {base : Nat} {v : Value} {ts : List Tq} (h : ToksAt w base v ts) (h0 : 0 < ts.length) : ∃ g c, v = .slice (some ⟨g, 0, none⟩) ts.length c ∧ Tks w g ts ∧ base ≤ g := by
  obtain ⟨g, c, rfl, hb⟩ : ∃ g c, v = .slice (some ⟨g, 0, none⟩) ts.length c ∧ base ≤ g := by
    rcases h.2 with ⟨rfl, h1⟩ | ⟨g, cap, cur, rfl, hb, _⟩
    · omega
    · exact ⟨g, cap, rfl, hb⟩
  refine ⟨g, c, rfl, ⟨fun i hi => ?_, (World.ownsRow.lt h g rfl).2⟩, hb⟩
  have key : ∀ j, j < 4 → (rowT ts)[i * 4 + j]? = (tokCells ts[i])[j]? := fun j hj => by
    have e : ts = ts.take i ++ ts[i] :: ts.drop (i + 1) := by simp
    have l : (ts.take i).length = i := by simp; omega
    have e2 : rowT ts = rowT (ts.take i) ++ (tokCells ts[i] ++ rowT (ts.drop (i + 1))) := (congrArg rowT e).trans (by simp only [rowT, List.flatMap_append, List.flatMap_cons])
    rw [e2, List.getElem?_append_right (by rw [rowT_length, l]; omega), rowT_length, l, show i * 4 + j - i * 4 = j by omega, List.getElem?_append_left (by show j < 4; exact hj)]
  have c := fun j (hj : j < 4) => (World.ownsRow.cellAt h (i * 4 + j) (by omega)).trans (key j hj)
  exact ⟨c 0 (by omega), c 1 (by omega), c 2 (by omega), c 3 (by omega)⟩
theorem rowN_form {w : World} {base : Nat} {e : TypeId} {size : Nat} {v : Value} {n : Nat} {xs : List Value} (h : w.ownsRow base e size v n xs) : ∃ A c, v = .slice A n c := by
  rcases h.2 with ⟨rfl, rfl⟩ | ⟨g, cap, cur, rfl, _⟩
  · exact ⟨_, _, rfl⟩
  · exact ⟨_, _, rfl⟩
abbrev modO (vl : Value) : Obj := .cells #[.int .i64 68, .string ⟨#[]⟩, .int .i64 0, vl] 51
/-- a module that is being read: k its cell, r the answer's. -/
structure Sst (W wr : World) (r k g c : Nat) (T : List Tq) (vl : Value) (L : List (Nd × Value)) : Prop where
  bel : Below W.heap.size W wr
  sz : k + 1 ≤ wr.heap.size
  mr : wr.heap[r]? = some zNd
  mo : wr.heap[k]? = some (modO vl)
  tk : Tks wr g T
  gr : Grow (k + 1) wr vl L L.length
theorem Sst.step {W wr W1 W3 : World} {r k g c : Nat} {T : List Tq} {vl v1 : Value} {L : List (Nd × Value)} {x : Nd} {o : Obj} {gg cap : Nat} (h : Sst W wr r k g c T vl L) (hW : W.heap.size ≤ r) (hr : r < k) (hg : g < k) (b : Below wr.heap.size wr W1) (l1 : LAt W1 (fun j => wr.heap.size ≤ j) v1 x.ks) (hgr : (W1.alloc o).grownBy W3 vl.ownBlock) (hat : vl.ownBlock = some gg ∨ gg = W1.heap.size + 1) (hown : W3.ownsRow (k + 1) 51 4 (.slice (some ⟨gg, 0, none⟩) (L.length + 1) cap) (L.length + 1) (rowN L ++ [.int .i64 x.k, .string x.t, .int .i64 x.n, v1])) :
    ((∃ u, W3.cell? ⟨k, 3, none⟩ = some u) ∧ W3.frozen? ⟨k, 3, none⟩ = false) ∧ Sst W (W3.setCell ⟨k, 3, none⟩ (.slice (some ⟨gg, 0, none⟩) (L.length + 1) cap)) r k g c T (.slice (some ⟨gg, 0, none⟩) (L.length + 1) cap) (L ++ [(x, v1)]) := by
  have olt := row_lt h.gr.own
  have hs := b.size
  have hsz := h.sz
  have hs3 : W1.heap.size + 1 ≤ W3.heap.size := by have := hgr.size; simpa using this
  have keep : ∀ j, j < k + 1 → W3.heap[j]? = wr.heap[j]? := fun j hj =>
    (hgr.block j (by simp; omega) (fun e => by have := (olt j e.symm).1; omega)).trans ((Below.heap_alloc _ _ _ (by omega)).trans (b.block j (by omega)))
  have mk3 := (keep k (by omega)).trans h.mo
  obtain ⟨⟨_, _, _, c3⟩, _, _, _, f3⟩ := box4 mk3
  refine ⟨⟨⟨_, c3⟩, f3⟩, ?_, by simpa [World.setCell] using (by omega : k + 1 ≤ W3.heap.size), ?_, box4_set3 _ mk3, ?_, ?_⟩
  · refine (h.bel.trans ⟨?_, ?_, ?_, by omega, fun j hj => keep j (by omega)⟩).setCell (by show W.heap.size ≤ k; omega) _
    · exact hgr.os.trans b.os
    · exact hgr.tape.trans b.tape
    · exact hgr.output.trans b.output
  · exact (Below.heap_setCell _ _ _ _ (by show r ≠ k; omega)).trans ((keep r (by omega)).trans h.mr)
  · exact h.tk.keep (by simp [World.setCell]; omega) ((Below.heap_setCell _ _ _ _ (by show g ≠ k; omega)).trans (keep g (by omega)))
  · rw [show (L ++ [(x, v1)]).length = L.length + 1 by simp]
    exact h.gr.push hsz b l1 hgr hat hown (by show k < k + 1; omega) _
set_option maxRecDepth 100000 in
set_option maxHeartbeats 8000000 in
theorem source_any (s : ByteArray) (W : World) (hs : s.size ≤ 1048576) {ts : List (Tk × Nat)} (hx : lexL 0 s.data.toList false = .ok ts) (h0 : 0 < ts.length) (hts : ts.length ≤ 1048576) {xs : List Nd} (hi : Items (ints ts) 0 xs) (hd : (Nd.mk 68 ⟨#[]⟩ 0 xs).depth ≤ 100) (hz : (Nd.mk 68 ⟨#[]⟩ 0 xs).size ≤ 4194304) :
    Calls Tryz.prog 109 #[.string s, .bool false] W fun e w' => ∃ kv, e = .returned (.tuple #[(Nd.mk 68 ⟨#[]⟩ 0 xs).v kv, .int .i64 0, .int .i64 0]) ∧ LAt w' (fun j => W.heap.size ≤ j) kv xs ∧ Below W.heap.size W w' := by
  obtain ⟨wA, hwA⟩ : ∃ X, W.alloc zNd = X := ⟨_, rfl⟩
  have bA : Below W.heap.size W wA := by rw [← hwA]; exact bel_a W zNd
  have m0 : wA.heap[W.heap.size]? = some zNd := by rw [← hwA]; exact hnew _ rfl
  have sA : wA.heap.size = W.heap.size + 1 := by rw [← hwA]; simp
  obtain ⟨i0, hi0, hz0, hz1, hz2⟩ := info_parts info_nd
  have CX := lex_ref s false wA (by omega)
  rw [hx] at CX
  simp only [lexRes] at CX
  have hTl : (ints ts).length = ts.length := ints_length ts
  have hT0 : 0 < (ints ts).length := by omega
  have hT1 : (ints ts).length ≤ 1048576 := by omega
  clear hx hTl h0 hts
  generalize ints ts = T at *
  have HB : Hid _ := bA
  have HM : Hid (wA.heap[W.heap.size]? = some zNd) := m0
  have HS : Hid (wA.heap.size = W.heap.size + 1) := sA
  clear bA m0 sA
  go_enter Tryz.func109, Tryz.ntmps109
  go_wp2_with fail
  go_at_call 144
  refine CX.mono ?_
  rintro e W1 ⟨hres, b1⟩
  obtain ⟨v, rfl, htk⟩ := hres
  obtain ⟨g, c, rfl, htk, hgb⟩ := tks_of htk hT0
  have s1 := b1.size
  have hA := HS.out
  have hgl := htk.lt
  have bO := bel_a W1 (modO (.slice none 0 0))
  have H0 : Hid (Sst W (W1.alloc (modO (.slice none 0 0))) W.heap.size W1.heap.size g c T (.slice none 0 0) []) := ⟨(HB.out.trans (b1.mono HB.out.size)).alloc (by omega) _, by simp, hold _ (by omega) ((b1.block _ (by omega)).trans HM.out), hnew _ rfl, htk.keep bO.size (bO.block _ hgl), Grow.nil _ _⟩
  have HI : Hid _ := hi
  have HD : Hid _ := hd
  have HZ : Hid _ := hz
  clear CX hi htk bO
  go_wp2
  generalize W1.alloc (modO (.slice none 0 0)) = X at *
  go_loopw [8] (fun v8 wr => ∃ (a : Nat) (ys : List Nd) (vl : Value) (L : List (Nd × Value)), v8 = .int .i64 (a : Nat) ∧ a ≤ T.length ∧ Sst W wr W.heap.size W1.heap.size g c T vl L ∧ Hid (Items T a ys ∧ L.map (·.1) ++ ys = xs)) (fun v8 _ => T.length - (intOf v8).toNat)
  case atStart => exact ⟨0, xs, _, [], rfl, by omega, H0.out, HI.out, by simp⟩
  case round =>
    obtain ⟨a, ys, vl, L, rfl, ha, hS, HY⟩ := hrel
    have HSt : Hid _ := hS
    by_cases hlt : a < T.length
    · obtain ⟨a', x, ys', hys, haa, hC, hnx⟩ := HY.out.1.next hlt
      have ha' := hnx.le
      have HN : Hid (Items T a' ys' ∧ L.map (·.1) ++ x :: ys' = xs) := ⟨hnx, by rw [← hys]; exact HY.out.2⟩
      have hlt' : ((a : Nat) : Int) < ((T.length : Nat) : Int) := by omega
      have hLl : L.length ≤ 1048576 := by
        have h1 := HI.out.count
        have h2 := congrArg List.length HN.out.2
        simp at h2
        omega
      clear hnx hys
      go_wp2_with fail
      go_at_call 145
      refine (begin_at hS.tk hT1 ha).mono ?_
      rintro e Y1 ⟨rfl, p1, b2⟩
      go_wp2_with fail
      go_at_call 147
      refine (hC _ _ _ _ p1).mono ?_
      rintro e Y2 ⟨kv, rfl, l2, p2, k2⟩
      have b3 : Below wr.heap.size wr Y2 := b2.trans (k2.below (Nat.le_refl _) b2.size)
      obtain ⟨va, vc, rfl⟩ := l2.sl
      obtain ⟨xk, xt, xn, xks⟩ := x
      simp only [Nd.v, Nd.k, Nd.t, Nd.n, Nd.ks] at l2 ⊢
      go_wp2_with fail
      go_at_call 146
      refine (end_at p2 _ _ _ _ _ _).mono ?_
      rintro e Y3 ⟨rfl, b4⟩
      have b5 := b3.trans (b4.mono b3.size)
      have l3 := l2.bel b4
      have b6 := b5.alloc b5.size (.cells #[.int .i64 xk, .string xt, .int .i64 xn, .slice va xks.length vc] 51)
      have l4 := (l3.bel (bel_a Y3 (.cells #[.int .i64 xk, .string xt, .int .i64 xn, .slice va xks.length vc] 51))).mono (T := fun j => wr.heap.size ≤ j) (fun j hj => by have := b2.size; have h : Y1.heap.size ≤ j := hj; show wr.heap.size ≤ j; omega)
      have m4 := hnew (w := Y3) (.cells #[.int .i64 xk, .string xt, .int .i64 xn, .slice va xks.length vc] 51) rfl
      have hsz := hS.sz
      have mk4 := (b6.block W1.heap.size (by omega)).trans hS.mo
      have own4 := (row_bel hS.gr.own b6)
      obtain ⟨av, cv, rfl⟩ := rowN_form hS.gr.own
      obtain ⟨Z, hZ⟩ : ∃ Z, Y3.alloc (.cells #[.int .i64 xk, .string xt, .int .i64 xn, .slice va xks.length vc] 51) = Z := ⟨_, rfl⟩
      rw [hZ] at b6 l4 own4 m4 mk4
      obtain ⟨⟨_, _, _, _⟩, _⟩ := box4 m4
      obtain ⟨⟨_, _, _, _⟩, _⟩ := box4 mk4
      have HB6 : Hid _ := b6
      have HL4 : Hid _ := l4
      have HO4 : Hid _ := own4
      clear l2 l3 l4 m4 mk4 own4 b2 b3 b4 b5 b6 k2 p1 p2
      go_wp2_with (at_builtin; refine wpList_append_lies _ (by rfl) _ _ _ (by rfl) (W1.heap.size + 1) 51 i0 _ 4 56 Tryz.underlying49 hi0 hz0 hz1 hz2 rfl (by omega) _ L.length (rowN L) (by rfl) (World.ownsRow.alloc HO4.out _) ⟨Z.heap.size, 0, none⟩ 1 1 [.int .i64 xk, .string xt, .int .i64 xn, .slice va xks.length vc] (by rfl) (by rfl) (World.news_of_block (cs := #[.int .i64 xk, .string xt, .int .i64 xn, .slice va xks.length vc]) (t := 51) (fr := (0, 0)) (hnew _ rfl)) (by simp [Value.oneCell']) (by omega) (by unfold maxLen; omega) (by omega) (by have := HB6.out.size; simp; omega) (Z.heap.size + 1) (by simp) ?_; intro gg cap W3 hown hgrow hat hlt3; obtain ⟨⟨⟨u3, _⟩, _⟩, hS3⟩ := HSt.out.step (x := .mk xk xt xn xks) (Nat.le_refl _) (by omega) (by omega) HB6.out HL4.out hgrow hat hown)
      go_roundw
      case rel =>
        refine ⟨a', ys', _, _, rfl, ha', hS3, HN.out.1, ?_⟩
        rw [← HN.out.2]
        simp
      case measure => simp [intOf]; omega
    · have hys := HY.out.1.done hlt
      have hlt' : ¬ ((a : Nat) : Int) < ((T.length : Nat) : Int) := by omega
      have hxs : L.map (·.1) = xs := by have := HY.out.2; rw [hys] at this; simpa using this
      have lat := hS.gr.lat hxs
      obtain ⟨av, cv, rfl⟩ := lat.sl
      obtain ⟨⟨_, _, _, _⟩, _⟩ := box4 hS.mo
      have CD := rdepth_any (.mk 68 ⟨#[]⟩ 0 xs) wr _ _ lat HZ.out
      have hd100 : ¬ (100 : Int) < (((Nd.mk 68 ⟨#[]⟩ 0 xs).depth : Nat) : Int) := by have := HD.out; omega
      simp only [Nd.v, Nd.k, Nd.t, Nd.n] at CD
      generalize (Nd.mk 68 ⟨#[]⟩ 0 xs).depth = dd at *
      go_wp2_with fail
      go_at_call 148
      refine CD.mono ?_
      rintro e Y ⟨rfl, bY⟩
      have hsz := hS.sz
      have mY := (bY.block W1.heap.size (by omega)).trans hS.mo
      have rY := (bY.block W.heap.size (by omega)).trans hS.mr
      have bW := hS.bel.trans (bY.mono hS.bel.size)
      obtain ⟨⟨_, _, _, _⟩, _⟩ := box4 mY
      obtain ⟨⟨_, _, _, _⟩, _, _, _, _⟩ := box4 rY
      have HE : Hid _ := bel4 bW (Nat.le_refl _) (.int .i64 68) (.string ⟨#[]⟩) (.int .i64 0) (.slice av xs.length cv)
      have HL : Hid _ := ((((lat.bel bY).set (n := W.heap.size) (i := 0) (u := .int .i64 68) (by omega)).set (n := W.heap.size) (i := 1) (u := .string ⟨#[]⟩) (by omega)).set (n := W.heap.size) (i := 2) (u := .int .i64 0) (by omega)).set (n := W.heap.size) (i := 3) (u := .slice av xs.length cv) (by omega)
      have HR : Hid _ := rY
      have HW : Hid (W.heap.size ≤ W1.heap.size) := by show _ ≤ _; omega
      clear lat mY rY bW bY CD
      go_wp2
      refine bodyPost_ret (res_nd3 Tryz.results109 (box4_set _ _ _ _ HR.out) rfl rfl rfl) rfl ?_
      exact ⟨_, rfl, HL.out.mono (fun j hj => by have : W1.heap.size + 1 ≤ j := hj; have := HW.out; show W.heap.size ≤ j; omega), HE.out⟩
end Go.Proofs.YtpnljjcdlkjfhaaGreatDoor
