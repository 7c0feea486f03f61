/- Own text. The document's parser: a default export of a number. The document's parser: one name in the brackets of an import. The document's parser: an import of one name. The document's parser: an export of one name, under another one. -/
import Derived.Test.YtpnljjcdlkjfhaaGreatDoorRv28
set_option linter.unusedVariables false
set_option linter.unusedSimpArgs false
namespace Go.Proofs.YtpnljjcdlkjfhaaGreatDoor
open Go.RowKit
section
variable {W : World} {b g c : Nat} {T : List Tq} {a o : Nat}
set_option maxRecDepth 100000 in
theorem rank_semi (w : World) : Calls Tryz.prog 268 #[.string ⟨#[59]⟩] w fun e w' => e = .returned (.int .i64 (-1)) ∧ w' = w := by
  go_enter Tryz.func268, Tryz.ntmps268
  go_wp2
  go_ret
  exact ⟨rfl, rfl⟩
theorem end_semi (n p : Int) : EndT ((5, [59], n), p) := ⟨rfl, rfl, rfl, rfl, rfl, rfl, fun w => rank_semi w⟩
set_option maxRecDepth 100000 in
set_option maxHeartbeats 8000000 in
theorem exports_default (h : PS W b g c T a o) {n0 p0 n1 p1 n n3 p3 : Int} (t0 : tkAt T a = ((2, [101, 120, 112, 111, 114, 116], n0), p0)) (t1 : tkAt T (a + 1) = ((2, [100, 101, 102, 97, 117, 108, 116], n1), p1)) (t2 : NumT (tkAt T (a + 1 + 1)) n) (t3 : tkAt T (a + 1 + 1 + 1) = ((5, [59], n3), p3)) (hl : a + 4 ≤ T.length) (ho : o < 400) : Calls Tryz.prog 198 #[.pointer (some ⟨b, 0, none⟩)] W (ItR W b g c T (a + 1 + 1 + 1 + 1) o (.mk 63 ⟨#[]⟩ 0 [.mk 1 ⟨#[]⟩ n []])) := by
  obtain ⟨wA, hwA⟩ : ∃ X, W.alloc zNd = X := ⟨_, rfl⟩
  have H0 : Hid (Zst W wA b g c T a o [(W.heap.size, zNd)]) := by rw [← hwA]; exact (Zst.begin h).new zNd
  have hE : EndT (tkAt T (a + 1 + 1 + 1)) := by rw [t3]; exact end_semi _ _
  clear h
  go_enter Tryz.func198, Tryz.ntmps198
  go_wp2_with fail
  go_at_call 220
  refine (want_yes H0.out.ps _ (by rw [t0]; rfl) (by omega)).mono ?_
  rintro e W1 ⟨rfl, h1⟩
  have H1 : Hid _ := H0.out.go h1
  go_wp2_with fail
  go_at_call 188
  refine (is_no H1.out.ps _ (by rw [t1]; rfl)).mono ?_
  rintro e W2 ⟨rfl, b2⟩
  have H2 : Hid _ := H1.out.bel b2
  go_wp2_with fail
  go_at_call 188
  refine (is_no H2.out.ps _ (by rw [t1]; rfl)).mono ?_
  rintro e W3 ⟨rfl, b3⟩
  have H3 : Hid _ := H2.out.bel b3
  go_wp2_with fail
  go_at_call 188
  refine (is_no H3.out.ps _ (by rw [t1]; rfl)).mono ?_
  rintro e W4 ⟨rfl, b4⟩
  have H4 : Hid _ := H3.out.bel b4
  go_wp2_with fail
  go_at_call 188
  refine (is_no H4.out.ps _ (by rw [t1]; rfl)).mono ?_
  rintro e W5 ⟨rfl, b5⟩
  have H5 : Hid _ := H4.out.bel b5
  go_wp2_with fail
  go_at_call 190
  refine (named_no H5.out.ps _ (by rw [t1]; rfl)).mono ?_
  rintro e W6 ⟨rfl, b6⟩
  have H6 : Hid _ := H5.out.bel b6
  go_wp2_with fail
  go_at_call 230
  refine (eat_yes H6.out.ps _ (by rw [t1]; rfl) (by omega)).mono ?_
  rintro e W7 ⟨rfl, h7⟩
  have H7 : Hid _ := H6.out.go h7
  go_wp2_with fail
  go_at_call 188
  refine (is_no H7.out.ps _ (t2.no _)).mono ?_
  rintro e W8 ⟨rfl, b8⟩
  have H8 : Hid _ := H7.out.bel b8
  go_wp2_with fail
  go_at_call 188
  refine (is_no H8.out.ps _ (t2.no _)).mono ?_
  rintro e W9 ⟨rfl, b9⟩
  have H9 : Hid _ := H8.out.bel b9
  go_wp2_with fail
  go_at_call 232
  refine (expr_num H9.out.ps t2 (by omega) ho hE).mono ?_
  rintro e W10 ⟨rfl, h10⟩
  have H10 : Hid _ := H9.out.go h10
  simp only [numV]
  have N10 : Hid _ := H10.out.new (.cells #[.int .i64 1, .string ⟨#[]⟩, .int .i64 n, .slice none 0 0] 51)
  clear H10
  have H10 : Hid _ := N10.out
  clear N10
  go_wp2_with fail
  go_at_call 220
  refine (want_yes H10.out.ps _ (by rw [t3]; rfl) (by omega)).mono ?_
  rintro e W11 ⟨rfl, h11⟩
  have H11 : Hid _ := H10.out.go h11
  have H12 : Hid _ := H11.out.new (.cells #[.int .i64 1, .string ⟨#[]⟩, .int .i64 n, .slice none 0 0] 51)
  have m1 := H12.out.at (List.mem_cons_of_mem _ (List.mem_cons_self ..))
  have m1' := H11.out.at (List.mem_cons_self ..)
  have m0 := H12.out.at (List.mem_cons_of_mem _ (List.mem_cons_of_mem _ (List.mem_cons_self ..)))
  obtain ⟨⟨_, _, _, _⟩, _⟩ := box4 m1'
  obtain ⟨⟨_, _, _, _⟩, _, _, _, _⟩ := box4 m0
  have HE : Hid _ := H12.out.set4 (List.mem_cons_of_mem _ (List.mem_cons_of_mem _ (List.mem_cons_self ..))) (K' := [(W11.heap.size, .cells #[.int .i64 1, .string ⟨#[]⟩, .int .i64 n, .slice none 0 0] 51)]) (fun p hp => by obtain rfl := List.mem_singleton.1 hp; exact ⟨List.mem_cons_self .., by show W11.heap.size ≠ W.heap.size; have := (Array.getElem?_eq_some_iff.1 (H11.out.at (List.mem_cons_of_mem _ (List.mem_cons_self ..)))).1; omega⟩) (.int .i64 63) (.string ⟨#[]⟩) (.int .i64 0) (.slice (some ⟨W11.heap.size, 0, none⟩) 1 1)
  have HM : Hid _ := m0
  have HW : Hid (W.heap.size ≤ W11.heap.size) := H11.out.kp.size
  clear m0 m1 m1'
  go_wp2
  refine bodyPost_ret (res_nd Tryz.results198 (box4_set _ _ _ _ HM.out) rfl) rfl ?_
  refine ⟨_, rfl, lat_one (x := .mk 1 ⟨#[]⟩ n []) (kv := .slice none 0 0) (HE.out.at (List.mem_cons_of_mem _ (List.mem_cons_self ..))) HW.out (.nil _ _), HE.out.ps, HE.out.kp⟩
end
section
variable {W : World} {b g c : Nat} {T : List Tq} {a o : Nat}
theorem grownP_bel {X Y : World} (h : X.grownBy Y none) : Below X.heap.size X Y := ⟨h.os, h.tape, h.output, h.size, fun k hk => h.block k hk (by simp)⟩
/-- one tree more in a list that was nil. -/
theorem lat_row1 {X : World} {base : Nat} {g' cap : Nat} {x : Nd} {kv : Value} {S : Nat → Prop} (h : X.ownsRow base 51 4 (.slice (some ⟨g', 0, none⟩) (0 + 1) cap) (0 + 1) ([] ++ [.int .i64 x.k, .string x.t, .int .i64 x.n, kv])) (hk : LAt X S kv x.ks) (hS : ∀ j, base ≤ j → S j) : LAt X S (.slice (some ⟨g', 0, none⟩) (0 + 1) cap) [x] := by
  have := lat_of_row (S := S) (L := [(x, kv)]) h (fun p hp => by obtain rfl := List.mem_singleton.1 hp; exact hk) (fun j hj => hS j (row_lt h j hj).1)
  simpa using this
set_option maxRecDepth 100000 in
set_option maxHeartbeats 8000000 in
theorem importNames_one (h : PS W b g c T a o) {n0 p0 n1 p1 n2 p2 n3 p3 n4 p4 : Int} {x y : Bs} (t0 : tkAt T a = ((5, [123], n0), p0)) (t1 : tkAt T (a + 1) = ((1, x, n1), p1)) (t2 : tkAt T (a + 1 + 1) = ((1, [97, 115], n2), p2)) (t3 : tkAt T (a + 1 + 1 + 1) = ((1, y, n3), p3)) (t4 : tkAt T (a + 1 + 1 + 1 + 1) = ((5, [125], n4), p4)) (hl : a + 5 ≤ T.length) : Calls Tryz.prog 231 #[.pointer (some ⟨b, 0, none⟩), .slice none 0 0, .bool false] W fun e w' => ∃ v, e = .returned v ∧ LAt w' (fun k => W.heap.size ≤ k) v [.mk 61 ⟨x.toArray⟩ 0 [.mk 6 ⟨y.toArray⟩ 0 []]] ∧ PS w' b g c T (a + 1 + 1 + 1 + 1 + 1) o ∧ Kpt b W w' := by
  have ln := h.ln
  have H0 : Hid (Zst W W b g c T a o []) := Zst.begin h
  obtain ⟨i0, hi0, hz0, hz1, hz2⟩ := info_parts info_nd
  have F0 := fun (w : World) => fldT (.int .i64 1) (.string ⟨x.toArray⟩) (.int .i64 n1) (.int .i64 p1) w 0 _ rfl
  clear h
  go_enter Tryz.func231, Tryz.ntmps231
  go_wp2_with fail
  go_at_call 220
  refine (want_yes H0.out.ps _ (by rw [t0]; rfl) (by omega)).mono ?_
  rintro e W1 ⟨rfl, h1⟩
  have H1 : Hid _ := H0.out.go h1
  obtain ⟨⟨_, _, _, _, _⟩, _⟩ := t5 H1.out.ps.blk
  go_wp2
  go_loopw [1] (fun v1 wr => v1 = .slice none 0 0 ∧ wr = W1) (fun _ _ => 0)
  case atStart => exact ⟨rfl, rfl⟩
  case round =>
    obtain ⟨rfl, rfl⟩ := hrel
    go_wp2_with fail
    go_at_call 188
    refine (is_no H1.out.ps _ (by rw [t1]; rfl)).mono ?_
    rintro e W2 ⟨rfl, b2⟩
    have H2 : Hid _ := H1.out.bel b2
    go_wp2_with fail
    go_at_call 191
    refine (tok_is H2.out.ps t1).mono ?_
    rintro e W3 ⟨rfl, b3⟩
    have H3 : Hid _ := H2.out.bel b3
    simp only
    go_wp2_with fail
    go_at_call 224
    refine (prop_1 H3.out.ps t1 (by omega)).mono ?_
    rintro e W4 ⟨rfl, h4⟩
    have H4 : Hid _ := H3.out.go h4
    go_wp2_with fail
    go_at_call 190
    refine (named_yes H4.out.ps _ (by rw [t2]; rfl)).mono ?_
    rintro e W5 ⟨rfl, b5⟩
    have H5 : Hid _ := H4.out.bel b5
    obtain ⟨⟨_, _, _, _, _⟩, _, _, _, _, _⟩ := t5 H5.out.ps.blk
    have H6 : Hid _ := H5.out.on (by omega)
    go_wp2_with fail
    go_at_call 221
    refine (id_yes H6.out.ps t3 (by omega)).mono ?_
    rintro e W7 ⟨rfl, h7⟩
    have H7 : Hid _ := H6.out.go h7
    go_wp2_with fail
    go_at_call 225
    refine (nameN_any _ _).mono ?_
    rintro e W8 ⟨rfl, b8⟩
    have H8 : Hid _ := H7.out.bel b8
    have hN : Hid _ := (H8.out.new (.cells #[.int .i64 6, .string ⟨y.toArray⟩, .int .i64 0, .slice none 0 0] 51)).new (.cells #[.int .i64 61, .string ⟨x.toArray⟩, .int .i64 0, .slice (some ⟨W8.heap.size, 0, none⟩) 1 1] 51)
    have hs : W.heap.size ≤ W8.heap.size := H8.out.kp.size
    go_wp2_with (at_builtin; refine wpList_append_lies _ (by rfl) _ _ _ (by rfl) (W8.heap.size + 2) 51 i0 _ 4 56 Tryz.underlying49 hi0 hz0 hz1 hz2 rfl (by omega) _ 0 [] (by rfl) (World.ownsRow_nil _ _ _ _) ⟨W8.heap.size + 1, 0, none⟩ 1 1 [.int .i64 61, .string ⟨x.toArray⟩, .int .i64 0, .slice (some ⟨W8.heap.size, 0, none⟩) 1 1] (by rfl) (by rfl) (World.news_of_block (cs := #[.int .i64 61, .string ⟨x.toArray⟩, .int .i64 0, .slice (some ⟨W8.heap.size, 0, none⟩) 1 1]) (t := 51) (fr := (0, 0)) (hnew _ (by simp))) (by simp [Value.oneCell']) (by omega) (by unfold maxLen; omega) (by omega) (by simp) (W8.heap.size + 2) (by simp) ?_; intro gg cap W3 hown hgrow hat hlt3)
    have hB := grownP_bel hgrow
    have H9 : Hid _ := hN.out.bel hB
    have hm := (H9.out.at (List.mem_cons_of_mem _ (List.mem_cons_self ..)))
    have HL : Hid (LAt W3 (fun k => W.heap.size ≤ k) (.slice (some ⟨gg, 0, none⟩) (0 + 1) cap) [.mk 61 ⟨x.toArray⟩ 0 [.mk 6 ⟨y.toArray⟩ 0 []]]) := lat_row1 (x := .mk 61 ⟨x.toArray⟩ 0 [.mk 6 ⟨y.toArray⟩ 0 []]) hown (lat_one (x := .mk 6 ⟨y.toArray⟩ 0 []) hm hs (.nil _ _)) (fun j hj => by omega)
    have lbb := H9.out.lb
    clear hm hB hgrow hown hlt3 hat
    go_wp2_with fail
    go_at_call 230
    refine (eat_no H9.out.ps _ (by rw [t4]; rfl)).mono ?_
    rintro e W10 ⟨rfl, b10⟩
    have H10 : Hid _ := H9.out.bel b10
    go_wp2_with fail
    go_at_call 220
    refine (want_yes H10.out.ps _ (by rw [t4]; rfl) (by omega)).mono ?_
    rintro e W11 ⟨rfl, h11⟩
    have H11 : Hid _ := H10.out.go h11
    have HL2 : Hid _ := (HL.out.bel b10).kpt h11.2 lbb
    go_wp2
    go_ret
    exact ⟨_, rfl, HL2.out, H11.out.ps, H11.out.kp⟩
end
section
variable {W : World} {b g c : Nat} {T : List Tq} {a o : Nat}
set_option maxRecDepth 100000 in
set_option maxHeartbeats 8000000 in
theorem imports_one (h : PS W b g c T a o) {n0 p0 n1 p1 n2 p2 n3 p3 n4 p4 n5 p5 n6 p6 n7 p7 n8 p8 : Int} {x y z : Bs} (t0 : tkAt T a = ((2, [105, 109, 112, 111, 114, 116], n0), p0)) (t1 : tkAt T (a + 1) = ((5, [123], n1), p1)) (t2 : tkAt T (a + 1 + 1) = ((1, x, n2), p2)) (t3 : tkAt T (a + 1 + 1 + 1) = ((1, [97, 115], n3), p3)) (t4 : tkAt T (a + 1 + 1 + 1 + 1) = ((1, y, n4), p4)) (t5' : tkAt T (a + 1 + 1 + 1 + 1 + 1) = ((5, [125], n5), p5)) (t6 : tkAt T (a + 1 + 1 + 1 + 1 + 1 + 1) = ((1, [102, 114, 111, 109], n6), p6)) (t7 : tkAt T (a + 1 + 1 + 1 + 1 + 1 + 1 + 1) = ((4, z, n7), p7)) (t8 : tkAt T (a + 1 + 1 + 1 + 1 + 1 + 1 + 1 + 1) = ((5, [59], n8), p8)) (hl : a + 9 ≤ T.length) : Calls Tryz.prog 197 #[.pointer (some ⟨b, 0, none⟩)] W (ItR W b g c T (a + 1 + 1 + 1 + 1 + 1 + 1 + 1 + 1 + 1) o (.mk 60 ⟨z.toArray⟩ 0 [.mk 61 ⟨x.toArray⟩ 0 [.mk 6 ⟨y.toArray⟩ 0 []]])) := by
  obtain ⟨wA, hwA⟩ : ∃ X, W.alloc zNd = X := ⟨_, rfl⟩
  have H0 : Hid (Zst W wA b g c T a o [(W.heap.size, zNd)]) := by rw [← hwA]; exact (Zst.begin h).new zNd
  have F0 := fun (w : World) => fldT (.int .i64 5) (.string ⟨#[123]⟩) (.int .i64 n1) (.int .i64 p1) w 0 _ rfl
  clear h
  go_enter Tryz.func197, Tryz.ntmps197
  go_wp2_with fail
  go_at_call 220
  refine (want_yes H0.out.ps _ (by rw [t0]; rfl) (by omega)).mono ?_
  rintro e W1 ⟨rfl, h1⟩
  have H1 : Hid _ := H0.out.go h1
  have hr : W.heap.size < W1.heap.size := (Array.getElem?_eq_some_iff.1 (H1.out.at (List.mem_cons_self ..))).1
  obtain ⟨k, hk⟩ : ∃ k, k = W1.heap.size := ⟨_, rfl⟩
  have N1 : Hid _ := H1.out.new (.cells #[.int .i64 60, .string ⟨#[]⟩, .int .i64 0, .slice none 0 0] 51)
  clear H1
  have H1 : Hid _ := N1.out
  clear N1
  go_wp2_with fail
  go_at_call 191
  refine (tok_is H1.out.ps t1).mono ?_
  rintro e W2 ⟨rfl, b2⟩
  have H2 : Hid _ := H1.out.bel b2
  simp only
  go_wp2_with fail
  go_at_call 190
  refine (named_no H2.out.ps _ (by rw [t1]; rfl)).mono ?_
  rintro e W3 ⟨rfl, b3⟩
  have H3 : Hid _ := H2.out.bel b3
  go_wp2_with fail
  go_at_call 191
  refine (tok_is H3.out.ps t1).mono ?_
  rintro e W4 ⟨rfl, b4⟩
  have H4 : Hid _ := H3.out.bel b4
  simp only
  obtain ⟨⟨_, _, _, _⟩, _, _, _, _⟩ := box4 (H4.out.at (List.mem_cons_self ..))
  go_wp2_with fail
  go_at_call 188
  refine (is_no H4.out.ps _ (by rw [t1]; rfl)).mono ?_
  rintro e W5 ⟨rfl, b5⟩
  have H5 : Hid _ := H4.out.bel b5
  obtain ⟨⟨_, _, _, _⟩, _, _, _, _⟩ := box4 (H5.out.at (List.mem_cons_self ..))
  go_wp2_with fail
  go_at_call 231
  refine (importNames_one H5.out.ps t1 t2 t3 t4 t5' (by omega)).mono ?_
  rintro e W6 ⟨v, rfl, l6, h6⟩
  have H6 : Hid _ := H5.out.go h6
  have hkc : W1.heap.size < W5.heap.size := (Array.getElem?_eq_some_iff.1 (H5.out.at (List.mem_cons_self ..))).1
  obtain ⟨va, vc, rfl⟩ := l6.sl
  obtain ⟨⟨_, _, _, _⟩, _, _, _, _⟩ := box4 (H6.out.at (List.mem_cons_self ..))
  have H7 : Hid _ := H6.out.set (K' := [(W.heap.size, zNd)]) (k := W1.heap.size) (i := 3) (v := .slice va [Nd.mk 61 ⟨x.toArray⟩ 0 [.mk 6 ⟨y.toArray⟩ 0 []]].length vc) (by omega) (ob := .cells #[.int .i64 60, .string ⟨#[]⟩, .int .i64 0, .slice va [Nd.mk 61 ⟨x.toArray⟩ 0 [.mk 6 ⟨y.toArray⟩ 0 []]].length vc] 51 (0, 0)) (box4_set3 _ (H6.out.at (List.mem_cons_self ..))) (fun p hp => by obtain rfl := List.mem_singleton.1 hp; exact ⟨List.mem_cons_of_mem _ (List.mem_cons_self ..), by show W.heap.size ≠ W1.heap.size; omega⟩)
  have L1 : Hid _ := l6.set (n := W1.heap.size) (i := 3) (u := .slice va [Nd.mk 61 ⟨x.toArray⟩ 0 [.mk 6 ⟨y.toArray⟩ 0 []]].length vc) hkc
  have lbc : b < W5.heap.size := by have := H0.out.lb; omega
  go_wp2_with fail
  go_at_call 223
  refine (wantName_yes H7.out.ps _ (by rw [t6]; rfl) (by omega)).mono ?_
  rintro e W8 ⟨rfl, h8⟩
  have H8 : Hid _ := H7.out.go h8
  have L2 : Hid _ := L1.out.kpt h8.2 lbc
  go_wp2_with fail
  go_at_call 229
  refine (text_any H8.out.ps t7 (by omega)).mono ?_
  rintro e W9 ⟨rfl, h9⟩
  have H9 : Hid _ := H8.out.go h9
  have L3 : Hid _ := L2.out.kpt h9.2 lbc
  obtain ⟨⟨_, _, _, _⟩, _, _, _, _⟩ := box4 (H9.out.at (List.mem_cons_self ..))
  have H10 : Hid _ := H9.out.set (K' := [(W.heap.size, zNd)]) (k := W1.heap.size) (i := 1) (v := .string ⟨z.toArray⟩) (by omega) (ob := .cells #[.int .i64 60, .string ⟨z.toArray⟩, .int .i64 0, .slice va [Nd.mk 61 ⟨x.toArray⟩ 0 [.mk 6 ⟨y.toArray⟩ 0 []]].length vc] 51 (0, 0)) (by have := H9.out.at (List.mem_cons_self ..); simp [World.setCell, Array.getElem?_modify, this]) (fun p hp => by obtain rfl := List.mem_singleton.1 hp; exact ⟨List.mem_cons_of_mem _ (List.mem_cons_self ..), by show W.heap.size ≠ W1.heap.size; omega⟩)
  have L4 : Hid _ := L3.out.set (n := W1.heap.size) (i := 1) (u := .string ⟨z.toArray⟩) hkc
  go_wp2_with fail
  go_at_call 220
  refine (want_yes H10.out.ps _ (by rw [t8]; rfl) (by omega)).mono ?_
  rintro e W11 ⟨rfl, h11⟩
  have H11 : Hid _ := H10.out.go h11
  have L5 : Hid _ := L4.out.kpt h11.2 lbc
  obtain ⟨⟨_, _, _, _⟩, _, _, _, _⟩ := box4 (H11.out.at (List.mem_cons_self ..))
  obtain ⟨⟨_, _, _, _⟩, _, _, _, _⟩ := box4 (H11.out.at (List.mem_cons_of_mem _ (List.mem_cons_self ..)))
  have HE : Hid _ := H11.out.set4 (List.mem_cons_of_mem _ (List.mem_cons_self ..)) (K' := []) (by simp) (.int .i64 60) (.string ⟨z.toArray⟩) (.int .i64 0) (.slice va [Nd.mk 61 ⟨x.toArray⟩ 0 [.mk 6 ⟨y.toArray⟩ 0 []]].length vc)
  have HM : Hid _ := H11.out.at (List.mem_cons_of_mem _ (List.mem_cons_self ..))
  have HL : Hid _ := (((L5.out.set (n := W.heap.size) (i := 0) (u := .int .i64 60) (by omega)).set (n := W.heap.size) (i := 1) (u := .string ⟨z.toArray⟩) (by omega)).set (n := W.heap.size) (i := 2) (u := .int .i64 0) (by omega)).set (n := W.heap.size) (i := 3) (u := .slice va [Nd.mk 61 ⟨x.toArray⟩ 0 [.mk 6 ⟨y.toArray⟩ 0 []]].length vc) (by omega)
  have HC : Hid (W.heap.size ≤ W5.heap.size) := by show _ ≤ _; omega
  go_wp2
  refine bodyPost_ret (res_nd Tryz.results197 (box4_set _ _ _ _ HM.out) rfl) rfl ?_
  exact ⟨_, rfl, HL.out.mono (fun j hj => Nat.le_trans HC.out hj), HE.out.ps, HE.out.kp⟩
end
section
variable {W : World} {b g c : Nat} {T : List Tq} {a o : Nat}
abbrev zEx : Obj := .cells #[.int .i64 64, .string ⟨#[]⟩, .int .i64 0, .slice none 0 0] 51
set_option maxRecDepth 100000 in
set_option maxHeartbeats 8000000 in
theorem exportNames_one (h : PS W b g c T a o) {n0 p0 n1 p1 n2 p2 n3 p3 n4 p4 n5 p5 : Int} {x y : Bs} (t0 : tkAt T a = ((5, [123], n0), p0)) (t1 : tkAt T (a + 1) = ((1, x, n1), p1)) (t2 : tkAt T (a + 1 + 1) = ((1, [97, 115], n2), p2)) (t3 : tkAt T (a + 1 + 1 + 1) = ((1, y, n3), p3)) (t4 : tkAt T (a + 1 + 1 + 1 + 1) = ((5, [125], n4), p4)) (t6 : tkAt T (a + 1 + 1 + 1 + 1 + 1) = ((5, [59], n5), p5)) (hl : a + 6 ≤ T.length) (hne : (y == x) = false) : Calls Tryz.prog 233 #[.pointer (some ⟨b, 0, none⟩), .agg #[.int .i64 64, .string ⟨#[]⟩, .int .i64 0, .slice none 0 0]] W (ItR W b g c T (a + 1 + 1 + 1 + 1 + 1 + 1) o (.mk 64 ⟨#[]⟩ 0 [.mk 65 ⟨x.toArray⟩ 0 [.mk 6 ⟨y.toArray⟩ 0 []]])) := by
  have ln := h.ln
  obtain ⟨wA, hwA⟩ : ∃ X, (W.alloc zEx).alloc zNd = X := ⟨_, rfl⟩
  have H0 : Hid (Zst W wA b g c T a o [(W.heap.size + 1, zNd), (W.heap.size, zEx)]) := by
    rw [← hwA]
    have := ((Zst.begin h).new zEx).new zNd
    rwa [show (W.alloc zEx).heap.size = W.heap.size + 1 by simp] at this
  obtain ⟨i0, hi0, hz0, hz1, hz2⟩ := info_parts info_nd
  have F0 := fun (w : World) => fldT (.int .i64 1) (.string ⟨x.toArray⟩) (.int .i64 n1) (.int .i64 p1) w 0 _ rfl
  clear h
  go_enter Tryz.func233, Tryz.ntmps233
  go_wp2_with fail
  go_at_call 220
  refine (want_yes H0.out.ps _ (by rw [t0]; rfl) (by omega)).mono ?_
  rintro e W1 ⟨rfl, h1⟩
  have H1 : Hid _ := H0.out.go h1
  obtain ⟨⟨_, _, _, _, _⟩, _⟩ := t5 H1.out.ps.blk
  have s1 : W.heap.size + 1 < W1.heap.size := (Array.getElem?_eq_some_iff.1 (H1.out.at (List.mem_cons_self ..))).1
  go_wp2
  go_loopw [5] (fun v5 wr => v5 = .bool false ∧ wr = W1) (fun _ _ => 0)
  case atStart => exact ⟨rfl, rfl⟩
  case round =>
    obtain ⟨rfl, hwr⟩ := hrel
    obtain rfl := hwr.symm
    go_wp2_with fail
    go_at_call 188
    refine (is_no H1.out.ps _ (by rw [t1]; rfl)).mono ?_
    rintro e W2 ⟨rfl, b2⟩
    have H2 : Hid _ := H1.out.bel b2
    go_wp2_with fail
    go_at_call 191
    refine (tok_is H2.out.ps t1).mono ?_
    rintro e W3 ⟨rfl, b3⟩
    have H3 : Hid _ := H2.out.bel b3
    simp only
    go_wp2_with fail
    go_at_call 224
    refine (prop_1 H3.out.ps t1 (by omega)).mono ?_
    rintro e W4 ⟨rfl, h4⟩
    have H4 : Hid _ := H3.out.go h4
    have N4 : Hid _ := H4.out.new (.cells #[.int .i64 14, .string ⟨#[]⟩, .int .i64 0, .slice none 0 0] 51)
    clear H4
    have H4 : Hid _ := N4.out
    clear N4
    have s2 : W1.heap.size ≤ W4.heap.size := by have := b2.size; have := b3.size; have := h4.2.size; omega
    go_wp2_with fail
    go_at_call 190
    refine (named_yes H4.out.ps _ (by rw [t2]; rfl)).mono ?_
    rintro e W5 ⟨rfl, b5⟩
    have H5 : Hid _ := H4.out.bel b5
    obtain ⟨⟨_, _, _, _, _⟩, _, _, _, _, _⟩ := t5 H5.out.ps.blk
    have H6 : Hid _ := H5.out.on (by omega)
    go_wp2_with fail
    go_at_call 224
    refine (prop_1 H6.out.ps t3 (by omega)).mono ?_
    rintro e W7 ⟨rfl, h7⟩
    have H7 : Hid _ := H6.out.go h7
    go_wp2_with fail
    go_at_call 225
    refine (nameN_any _ _).mono ?_
    rintro e W8 ⟨rfl, b8⟩
    have H8 : Hid _ := H7.out.bel b8
    obtain ⟨⟨_, _, _, _⟩, _, _, _, _⟩ := box4 (H8.out.at (List.mem_cons_self ..))
    have H9 : Hid _ := H8.out.set4 (List.mem_cons_self ..) (K' := [(W.heap.size + 1, zNd), (W.heap.size, zEx)]) (fun p hp => ⟨List.mem_cons_of_mem _ hp, by rcases List.mem_cons.1 hp with rfl | hp; (show W.heap.size + 1 ≠ W4.heap.size; omega); (obtain rfl := List.mem_singleton.1 hp; show W.heap.size ≠ W4.heap.size; omega)⟩) (.int .i64 6) (.string ⟨y.toArray⟩) (.int .i64 0) (.slice none 0 0)
    obtain ⟨V, hV⟩ : ∃ V, (((W8.setCell ⟨W4.heap.size, 0, none⟩ (.int .i64 6)).setCell ⟨W4.heap.size, 1, none⟩ (.string ⟨y.toArray⟩)).setCell ⟨W4.heap.size, 2, none⟩ (.int .i64 0)).setCell ⟨W4.heap.size, 3, none⟩ (.slice none 0 0) = V := ⟨_, rfl⟩
    rw [hV] at H9
    obtain ⟨⟨_, _, _, _⟩, _, _, _, _⟩ := box4 (H9.out.at (List.mem_cons_self ..))
    obtain ⟨⟨_, _, _, _⟩, _, _, _, _⟩ := box4 (H9.out.at (List.mem_cons_of_mem _ (List.mem_cons_of_mem _ (List.mem_cons_self ..))))
    have hN : Hid _ := (H9.out.new (.cells #[.int .i64 6, .string ⟨y.toArray⟩, .int .i64 0, .slice none 0 0] 51)).new (.cells #[.int .i64 65, .string ⟨x.toArray⟩, .int .i64 0, .slice (some ⟨V.heap.size, 0, none⟩) 1 1] 51)
    have hs : W.heap.size ≤ V.heap.size := H9.out.kp.size
    have hQ : W4.heap.size < V.heap.size := (Array.getElem?_eq_some_iff.1 (H9.out.at (List.mem_cons_self ..))).1
    have c3 := box4 (hN.out.at (List.mem_cons_of_mem _ (List.mem_cons_of_mem _ (List.mem_cons_of_mem _ (List.mem_cons_of_mem _ (List.mem_cons_self ..))))))
    go_wp2_with (at_builtin; refine wpList_append_lies _ (by rfl) _ _ _ (by rfl) (V.heap.size + 2) 51 i0 _ 4 56 Tryz.underlying49 hi0 hz0 hz1 hz2 rfl (by omega) _ 0 [] (by rfl) (World.ownsRow_nil _ _ _ _) ⟨V.heap.size + 1, 0, none⟩ 1 1 [.int .i64 65, .string ⟨x.toArray⟩, .int .i64 0, .slice (some ⟨V.heap.size, 0, none⟩) 1 1] (by rfl) (by rfl) (World.news_of_block (cs := #[.int .i64 65, .string ⟨x.toArray⟩, .int .i64 0, .slice (some ⟨V.heap.size, 0, none⟩) 1 1]) (t := 51) (fr := (0, 0)) (hnew _ (by simp))) (by simp [Value.oneCell']) (by omega) (by unfold maxLen; omega) (by omega) (by simp) (V.heap.size + 2) (by simp) ?_; intro gg cap W3 hown hgrow hat hlt3; have hB := grownP_bel hgrow; have HG : Hid _ := hN.out.bel hB; obtain ⟨⟨_, _, _, _⟩, _, _, _, _⟩ := box4 (HG.out.at (List.mem_cons_of_mem _ (List.mem_cons_of_mem _ (List.mem_cons_of_mem _ (List.mem_cons_of_mem _ (List.mem_cons_self ..)))))))
    have hm := HG.out.at (List.mem_cons_of_mem _ (List.mem_cons_self ..))
    have L0 : LAt W3 (fun k => V.heap.size ≤ k) (.slice (some ⟨gg, 0, none⟩) (0 + 1) cap) [.mk 65 ⟨x.toArray⟩ 0 [.mk 6 ⟨y.toArray⟩ 0 []]] := lat_row1 (x := .mk 65 ⟨x.toArray⟩ 0 [.mk 6 ⟨y.toArray⟩ 0 []]) hown (lat_one (x := .mk 6 ⟨y.toArray⟩ 0 []) hm (Nat.le_refl _) (.nil _ _)) (fun j hj => by show V.heap.size ≤ j; omega)
    have L1 : Hid _ := L0.set (n := W.heap.size) (i := 3) (u := .slice (some ⟨gg, 0, none⟩) (0 + 1) cap) (by omega)
    have H10 : Hid _ := HG.out.set (K' := [(W.heap.size + 1, zNd)]) (k := W.heap.size) (i := 3) (v := .slice (some ⟨gg, 0, none⟩) (0 + 1) cap) (Nat.le_refl _) (ob := .cells #[.int .i64 64, .string ⟨#[]⟩, .int .i64 0, .slice (some ⟨gg, 0, none⟩) (0 + 1) cap] 51 (0, 0)) (box4_set3 _ (HG.out.at (List.mem_cons_of_mem _ (List.mem_cons_of_mem _ (List.mem_cons_of_mem _ (List.mem_cons_of_mem _ (List.mem_cons_self ..))))))) (fun p hp => by obtain rfl := List.mem_singleton.1 hp; exact ⟨List.mem_cons_of_mem _ (List.mem_cons_of_mem _ (List.mem_cons_of_mem _ (List.mem_cons_self ..))), by show W.heap.size + 1 ≠ W.heap.size; omega⟩)
    have lbb : b < V.heap.size := by have := HG.out.lb; omega
    clear hm hB hgrow hown hlt3 hat L0 hV
    simp only [Nat.zero_add] at *
    go_wp2_with fail
    go_at_call 230
    refine (eat_no H10.out.ps _ (by rw [t4]; rfl)).mono ?_
    rintro e W11 ⟨rfl, b11⟩
    have H11 : Hid _ := H10.out.bel b11
    have L2 : Hid _ := L1.out.bel b11
    go_wp2_with fail
    go_at_call 220
    refine (want_yes H11.out.ps _ (by rw [t4]; rfl) (by omega)).mono ?_
    rintro e W12 ⟨rfl, h12⟩
    have H12 : Hid _ := H11.out.go h12
    have L3 : Hid _ := L2.out.kpt h12.2 lbb
    go_wp2_with fail
    go_at_call 190
    refine (named_no H12.out.ps _ (by rw [t6]; rfl)).mono ?_
    rintro e W13 ⟨rfl, b13⟩
    have H13 : Hid _ := H12.out.bel b13
    have L4 : Hid _ := L3.out.bel b13
    go_wp2_with fail
    go_at_call 220
    refine (want_yes H13.out.ps _ (by rw [t6]; rfl) (by omega)).mono ?_
    rintro e W14 ⟨rfl, h14⟩
    have H14 : Hid _ := H13.out.go h14
    have L5 : Hid _ := L4.out.kpt h14.2 lbb
    obtain ⟨⟨_, _, _, _⟩, _, _, _, _⟩ := box4 (H14.out.at (List.mem_cons_self ..))
    obtain ⟨⟨_, _, _, _⟩, _, _, _, _⟩ := box4 (H14.out.at (List.mem_cons_of_mem _ (List.mem_cons_self ..)))
    have HE : Hid _ := H14.out.set4 (List.mem_cons_of_mem _ (List.mem_cons_self ..)) (K' := []) (by simp) (.int .i64 64) (.string ⟨#[]⟩) (.int .i64 0) (.slice (some ⟨gg, 0, none⟩) 1 cap)
    have HM : Hid _ := H14.out.at (List.mem_cons_of_mem _ (List.mem_cons_self ..))
    have HL : Hid _ := (((L5.out.set (n := W.heap.size + 1) (i := 0) (u := .int .i64 64) (by omega)).set (n := W.heap.size + 1) (i := 1) (u := .string ⟨#[]⟩) (by omega)).set (n := W.heap.size + 1) (i := 2) (u := .int .i64 0) (by omega)).set (n := W.heap.size + 1) (i := 3) (u := .slice (some ⟨gg, 0, none⟩) 1 cap) (by omega)
    have HC : Hid (W.heap.size ≤ V.heap.size) := hs
    go_wp2
    refine bodyPost_ret (res_nd Tryz.results233 (box4_set _ _ _ _ HM.out) rfl) rfl ?_
    exact ⟨_, rfl, HL.out.mono (fun j hj => Nat.le_trans HC.out hj), HE.out.ps, HE.out.kp⟩
end
end Go.Proofs.YtpnljjcdlkjfhaaGreatDoor
