/- Own text. What must come whatever the input is: sure answers true. -/
import Derived.Test.YtmfgcaffdkakhaaU2
namespace Go.Proofs.Ytmfgcaffdkakhaa
open Go.RowKit
set_option linter.unusedVariables false
set_option linter.unusedSimpArgs false
set_option maxRecDepth 100000

theorem seen_ok {r : Rs Nd} {k : Int} {t : List UInt8} {n p : Nat} (h : seen r = (k, t, n, p, 0)) (hk : k ≠ 0) : ∃ x, r = .ok x p ∧ x.k = k ∧ x.t = ⟨t.toArray⟩ ∧ x.ks.length = n := by
  cases r with
  | ok x b =>
    simp only [seen, Prod.mk.injEq] at h
    obtain ⟨h1, h2, h3, h4, _⟩ := h
    subst h4
    refine ⟨x, rfl, h1, ?_, h3⟩
    rw [← h2]
  | bad q e =>
    simp only [seen, Prod.mk.injEq] at h
    exact absurd h.1.symm hk
theorem seen_bad {r : Rs Nd} {p : Nat} {e : Int} (h : seen r = (0, [], 0, p, e)) (he : e ≠ 0) : r = .bad p e := by
  cases r with
  | ok x b =>
    simp only [seen, Prod.mk.injEq] at h
    exact absurd h.2.2.2.2.symm he
  | bad q e' =>
    simp only [seen, Prod.mk.injEq] at h
    obtain ⟨_, _, _, rfl, rfl⟩ := h
    rfl
theorem read0 (L : List Tok) (F : Nat → Nat → Rs Nd) : readP L F 0 = faceR (F 0 0) := by
  unfold readP
  rw [if_neg (by decide), if_neg (by omega)]
  rfl
theorem ok_ne {x : Nd} {b : Nat} : ∀ p, (Rs.ok x b : Rs Nd) ≠ .bad p 0 := fun p h => by cases h
theorem ex1 (W : World) (v : Value) (h : TkV W v (srcT src1)) : Calls Try.prog 6 #[v, .int .i64 0] W fun e w' => (∃ (n : Int) (ad : Option Addr) (c : Nat), e = .returned (.tuple #[.agg #[.int .i64 16, .string ⟨#[43]⟩, .int .i64 n, .slice ad 2 c], .int .i64 5, .int .i64 0])) ∧ Below W.heap.size W w' := by
  obtain ⟨x, hx, h1, h2, h3⟩ := seen_ok eq1 (by decide)
  have hm := expr_more hx ok_ne (fuel_big (srcT src1))
  refine (faceExpr _ W v 0 h (by omega)).mono ?_
  rintro e w' ⟨ad, c, rfl, _, b⟩
  rw [read0, hm]
  exact ⟨⟨x.n, ad, c, by simp only [faceR, h1, h2, h3]; rfl⟩, b⟩
theorem ex2 (W : World) (v : Value) (h : TkV W v (srcT src2)) : Calls Try.prog 9 #[v, .int .i64 0] W fun e w' => (∃ (t : ByteArray) (n : Int) (ad : Option Addr) (c p : Nat), e = .returned (.tuple #[.agg #[.int .i64 32, .string t, .int .i64 n, .slice ad 2 c], .int .i64 (p : Int), .int .i64 0])) ∧ Below W.heap.size W w' := by
  obtain ⟨x, hx, h1, h2, h3⟩ := seen_ok (show seen (typeF (srcT src2) 200 0 0) = (32, (seen (typeF (srcT src2) 200 0 0)).2.1, 2, (seen (typeF (srcT src2) 200 0 0)).2.2.2.1, 0) from by rw [← eq2.1, ← eq2.2.1, ← eq2.2.2]) (by decide)
  have hm := type_more hx ok_ne (fuel_big (srcT src2))
  refine (faceType _ W v 0 h (by omega)).mono ?_
  rintro e w' ⟨ad, c, rfl, _, b⟩
  rw [read0, hm]
  exact ⟨⟨x.t, x.n, ad, c, _, by simp only [faceR, h1, h3]; rfl⟩, b⟩
theorem ex3 (W : World) (v : Value) (h : TkV W v (srcT src3)) : Calls Try.prog 11 #[v, .int .i64 0] W fun e w' => (∃ (t : ByteArray) (n : Int) (ad : Option Addr) (c : Nat), e = .returned (.tuple #[.agg #[.int .i64 48, .string t, .int .i64 n, .slice ad 3 c], .int .i64 15, .int .i64 0])) ∧ Below W.heap.size W w' := by
  obtain ⟨x, hx, h1, h2, h3⟩ := seen_ok (show seen (stmtF (srcT src3) 200 0 0) = (48, (seen (stmtF (srcT src3) 200 0 0)).2.1, 3, 15, 0) from by
    have e1 := eq3.1
    have e2 := eq3.2
    generalize seen (stmtF (srcT src3) 200 0 0) = y at *
    obtain ⟨y1, y2, y3⟩ := y
    simp only at e1 e2
    rw [e1, e2]) (by decide)
  have hm := stmt_more hx ok_ne (fuel_big (srcT src3))
  refine (faceStmt _ W v 0 h (by omega)).mono ?_
  rintro e w' ⟨ad, c, rfl, _, b⟩
  rw [read0, hm]
  exact ⟨⟨x.t, x.n, ad, c, by simp only [faceR, h1, h3]; rfl⟩, b⟩
theorem ex4 (W : World) (v : Value) (h : TkV W v (srcT src4)) : Calls Try.prog 6 #[v, .int .i64 0] W fun e w' => (∃ (ad : Option Addr) (c : Nat), e = .returned (.tuple #[.agg #[.int .i64 0, .string ⟨#[]⟩, .int .i64 0, .slice ad 0 c], .int .i64 2, .int .i64 60])) ∧ Below W.heap.size W w' := by
  have hx := seen_bad eq4 (by decide)
  have hm := expr_more hx (fun p h => by cases h) (fuel_big (srcT src4))
  refine (faceExpr _ W v 0 h (by omega)).mono ?_
  rintro e w' ⟨ad, c, rfl, _, b⟩
  rw [read0, hm]
  exact ⟨⟨ad, c, rfl⟩, b⟩
set_option maxHeartbeats 8000000 in
theorem sure_any (w : World) : Calls Try.prog 10 #[] w fun e w' => e = .returned (.bool true) ∧ Below w.heap.size w w' := by
  have T1 := fun W => tokens_any ⟨#[97, 32, 43, 32, 98, 32, 42, 32, 99, 59]⟩ W (by decide) okB1
  have T2 := fun W => tokens_any ⟨src2.toArray⟩ W (by decide) okB2
  have T3 := fun W => tokens_any ⟨src3.toArray⟩ W (by decide) okB3
  have T4 := fun W => tokens_any ⟨#[40, 97, 44, 32, 98, 41]⟩ W (by decide) okB4
  go_enter Try.func10, Try.ntmps10
  go_wp2_with fail
  go_at_call 7
  refine (T1 _).mono ?_
  rintro e W1 ⟨⟨v1, rfl, t1⟩, b1⟩
  go_wp2_with fail
  go_at_call 6
  refine (ex1 _ _ t1).mono ?_
  rintro e W2 ⟨⟨n2, ad2, c2, rfl⟩, b2⟩
  clear t1 T1
  go_wp2_with fail
  go_at_call 7
  refine (T2 _).mono ?_
  rintro e W3 ⟨⟨v3, rfl, t3⟩, b3⟩
  go_wp2_with fail
  go_at_call 9
  refine (ex2 _ _ t3).mono ?_
  rintro e W4 ⟨⟨x4, n4, ad4, c4, p4, rfl⟩, b4⟩
  clear t3 T2
  go_wp2_with fail
  go_at_call 7
  refine (T3 _).mono ?_
  rintro e W5 ⟨⟨v5, rfl, t5⟩, b5⟩
  go_wp2_with fail
  go_at_call 11
  refine (ex3 _ _ t5).mono ?_
  rintro e W6 ⟨⟨x6, n6, ad6, c6, rfl⟩, b6⟩
  clear t5 T3
  go_wp2_with fail
  go_at_call 7
  refine (T4 _).mono ?_
  rintro e W7 ⟨⟨v7, rfl, t7⟩, b7⟩
  go_wp2_with fail
  go_at_call 6
  refine (ex4 _ _ t7).mono ?_
  rintro e W8 ⟨⟨ad8, c8, rfl⟩, b8⟩
  clear t7 T4
  have s1 := b1.size
  have s2 := b2.size
  have s3 := b3.size
  have s4 := b4.size
  have s5 := b5.size
  have s6 := b6.size
  have s7 := b7.size
  have s8 := b8.size
  simp at s3 s5 s7
  have m2 : W8.heap[W2.heap.size]? = some (.cells #[Value.int IntKind.i64 16, Value.string ⟨#[43]⟩, Value.int IntKind.i64 n2, Value.slice ad2 2 c2] 24 (0, 0)) := (b8.block _ (by omega)).trans ((b7.block _ (by simp; omega)).trans ((Below.heap_alloc _ _ _ (by omega)).trans ((b6.block _ (by omega)).trans ((b5.block _ (by simp; omega)).trans ((Below.heap_alloc _ _ _ (by omega)).trans ((b4.block _ (by omega)).trans ((b3.block _ (by simp)).trans (heap_alloc_new W2 _))))))))
  have m4 : W8.heap[W4.heap.size]? = some (.cells #[Value.int IntKind.i64 32, Value.string x4, Value.int IntKind.i64 n4, Value.slice ad4 2 c4] 24 (0, 0)) := (b8.block _ (by omega)).trans ((b7.block _ (by simp; omega)).trans ((Below.heap_alloc _ _ _ (by omega)).trans ((b6.block _ (by omega)).trans ((b5.block _ (by simp)).trans (heap_alloc_new W4 _)))))
  have m6 : W8.heap[W6.heap.size]? = some (.cells #[Value.int IntKind.i64 48, Value.string x6, Value.int IntKind.i64 n6, Value.slice ad6 3 c6] 24 (0, 0)) := (b8.block _ (by omega)).trans ((b7.block _ (by simp)).trans (heap_alloc_new W6 _))
  have BW : Hid (Below w.heap.size w W8) := b1.trans ((b2.mono (by omega)).trans (((Below.refl W2.heap.size W2).alloc (Nat.le_refl _) _ |>.mono (by omega)).trans ((b3.mono (by simp; omega)).trans ((b4.mono (by omega)).trans (((Below.refl W4.heap.size W4).alloc (Nat.le_refl _) _ |>.mono (by omega)).trans ((b5.mono (by simp; omega)).trans ((b6.mono (by omega)).trans (((Below.refl W6.heap.size W6).alloc (Nat.le_refl _) _ |>.mono (by omega)).trans ((b7.mono (by simp; omega)).trans (b8.mono (by omega)))))))))))
  have l2 : W2.heap.size < W8.heap.size := (Array.getElem?_eq_some_iff.1 m2).1
  have l4 : W4.heap.size < W8.heap.size := (Array.getElem?_eq_some_iff.1 m4).1
  have l6 : W6.heap.size < W8.heap.size := (Array.getElem?_eq_some_iff.1 m6).1
  obtain ⟨⟨_, _, _, _⟩, _, _, _, _⟩ := t4 m2
  obtain ⟨⟨_, _, _, _⟩, _, _, _, _⟩ := t4 m4
  obtain ⟨⟨_, _, _, _⟩, _, _, _, _⟩ := t4 m6
  clear b1 b2 b3 b4 b5 b6 b7 b8
  go_wp2
  go_ret
  exact ⟨rfl, BW.out.alloc BW.out.size _⟩
end Go.Proofs.Ytmfgcaffdkakhaa
