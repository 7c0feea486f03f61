/- Own text. Tokens of a source, as the document's Lex gives them, for package parse. What must come whatever the input is: the statement's own four examples. What must come whatever the input is: sure answers true. -/
import Derived.Test.YtmfgcaffdkakhaaGreatQQ
import Derived.Test.YtmfgcaffdkakhaaGreatMM
import Derived.Test.YtmfgcaffdkakhaaGreatXX
namespace Go.Proofs.YtmfgcaffdkakhaaGreat
open Go.RowKit
set_option linter.unusedVariables false
set_option linter.unusedSimpArgs false

def tkT (x : Tk × Nat) : Tok := ⟨x.1.1, ⟨x.1.2.1.toArray⟩, x.1.2.2, (x.2 : Int)⟩
/-- the tokens of a source; none, if it cannot be read. -/
def srcT (s : List UInt8) : List Tok := match lexL 0 s true with
  | .ok ts => ts.map tkT
  | .error _ => []
theorem rowT_get : ∀ (ts : List (Tk × Int)) (i : Nat) (h : i < ts.length), (rowT ts)[i * 4]? = some (.int .i64 ts[i].1.1) ∧ (rowT ts)[i * 4 + 1]? = some (.string ⟨ts[i].1.2.1.toArray⟩) ∧ (rowT ts)[i * 4 + 2]? = some (.int .i64 ts[i].1.2.2) ∧ (rowT ts)[i * 4 + 3]? = some (.int .i64 ts[i].2)
  | x :: F, 0, _ => by simp [rowT, tokCells]
  | x :: F, i + 1, h => by
    have := rowT_get F i (by simpa using h)
    have e : rowT (x :: F) = .int .i64 x.1.1 :: .string ⟨x.1.2.1.toArray⟩ :: .int .i64 x.1.2.2 :: .int .i64 x.2 :: rowT F := rfl
    rw [e, show (i + 1) * 4 = i * 4 + 1 + 1 + 1 + 1 by omega]
    simpa using this
theorem tkv_of {w : World} {base : Nat} {v : Value} {ts : List (Tk × Nat)} (h : ToksAt w base v (ints ts)) (hl : ts.length ≤ 4194304) (ht : ∀ x ∈ ts, x.1.2.1.length ≤ 4194304) : TkV w v (ts.map tkT) := by
  refine ⟨?_, by simpa using hl, fun x hx => ?_⟩
  · rcases h.2 with ⟨rfl, h0⟩ | ⟨g, cap, cur, rfl, hb, hg, hn, hm, hcs, htk⟩
    · have : ts = [] := List.length_eq_zero_iff.1 (by simpa [ints] using h0)
      subst this
      exact ⟨none, 0, 0, 0, rfl, fun h => by simp at h, ⟨fun h => by simp at h, fun i h => by simp at h⟩, by simp⟩
    · rw [ints_length] at *
      refine ⟨some ⟨g, 0, none⟩, cap, g, 0, by simp, fun _ => rfl, ⟨fun _ => (Array.getElem?_eq_some_iff.1 hg).1, fun i hi => ?_⟩, by simpa using hn⟩
      have hi' : i < ts.length := by simpa using hi
      have hf := rowT_get (ints ts) i (by rw [ints_length]; exact hi')
      rw [← htk] at hf
      have g1 : ∀ j, j < ts.length * 4 → (cur.toList.take (ts.length * 4))[j]? = cur[j]? := fun j hj => by rw [List.getElem?_take_of_lt hj]; simp
      rw [g1 _ (by omega), g1 _ (by omega), g1 _ (by omega), g1 _ (by omega)] at hf
      have c : ∀ j, w.cell? ⟨g, j, none⟩ = cur[j]? := fun j => cell_of_row w g _ _ _ _ hg
      simp only [Nat.zero_add, List.getElem_map]
      have e : (ints ts)[i]'(by rw [ints_length]; exact hi') = (ts[i].1, (ts[i].2 : Int)) := by simp [ints]
      rw [e] at hf
      exact ⟨(c _).trans hf.1, (c _).trans hf.2.1, (c _).trans hf.2.2.1, (c _).trans hf.2.2.2⟩
  · obtain ⟨y, hy, rfl⟩ := List.mem_map.1 hx
    show (⟨y.1.2.1.toArray⟩ : ByteArray).size ≤ 4194304
    have := ht y hy
    show y.1.2.1.toArray.size ≤ 4194304
    simpa using this
set_option maxRecDepth 100000 in
set_option maxHeartbeats 4000000 in
theorem tokens_any (s : ByteArray) (w : World) (hs : s.size ≤ 4194304) (hB : ∀ ts, lexL 0 s.data.toList true = .ok ts → ts.length ≤ 4194304 ∧ ∀ x ∈ ts, x.1.2.1.length ≤ 4194304) :
    Calls Tryz.prog 4 #[.string s] w fun e w' => (∃ v, e = .returned v ∧ TkV w' v (srcT s.data.toList)) ∧ Below w.heap.size w w' := by
  have C := lex_ref s true w (by omega)
  unfold srcT
  cases hr : lexL 0 s.data.toList true with
  | error x =>
    rw [hr] at C
    unfold lexRes at C
    go_enter Tryz.func4, Tryz.ntmps4
    go_wp2_with (go_at_call 10; refine C.mono ?_; rintro e W1 ⟨rfl, b1⟩)
    go_ret
    exact ⟨⟨_, rfl, ⟨none, 0, 0, 0, rfl, fun h => by simp at h, ⟨fun h => by simp at h, fun i h => by simp at h⟩, by simp⟩, by simp, fun x hx => by cases hx⟩, b1⟩
  | ok ts =>
    rw [hr] at C
    unfold lexRes at C
    obtain ⟨h1, h2⟩ := hB ts hr
    go_enter Tryz.func4, Tryz.ntmps4
    go_wp2_with (go_at_call 10; refine C.mono ?_; rintro e W1 ⟨⟨v, rfl, t1⟩, b1⟩)
    go_ret
    exact ⟨⟨_, rfl, tkv_of t1 h1 h2⟩, b1⟩
end Go.Proofs.YtmfgcaffdkakhaaGreat
namespace Go.Proofs.YtmfgcaffdkakhaaGreat
open Go.RowKit
set_option linter.unusedVariables false
set_option linter.unusedSimpArgs false
set_option maxRecDepth 100000

def src1 : List UInt8 := [97, 32, 43, 32, 98, 32, 42, 32, 99, 59]
def src2 : List UInt8 := [40, 97, 32, 124, 32, 98, 41, 91, 93, 32, 124, 32, 40, 41, 32, 61, 62, 32, 99]
def src3 : List UInt8 := [105, 102, 32, 40, 97, 41, 32, 123, 32, 125, 32, 101, 108, 115, 101, 32, 105, 102, 32, 40, 98, 41, 32, 123, 32, 114, 101, 116, 117, 114, 110, 59, 32, 125]
def src4 : List UInt8 := [40, 97, 44, 32, 98, 41]
theorem okB {s : List UInt8} (n : Nat) (h : (match lexL 0 s true with | .ok ts => decide (ts.length ≤ 4194304) && ts.all (fun x => decide (x.1.2.1.length ≤ 4194304)) | .error _ => true) = true) : ∀ ts, lexL 0 s true = .ok ts → ts.length ≤ 4194304 ∧ ∀ x ∈ ts, x.1.2.1.length ≤ 4194304 := by
  intro ts e
  rw [e] at h
  simp only [Bool.and_eq_true, decide_eq_true_eq, List.all_eq_true] at h
  exact h
theorem okB1 : ∀ ts, lexL 0 src1 true = .ok ts → ts.length ≤ 4194304 ∧ ∀ x ∈ ts, x.1.2.1.length ≤ 4194304 := okB 0 (by kernel_rfl)
theorem okB2 : ∀ ts, lexL 0 src2 true = .ok ts → ts.length ≤ 4194304 ∧ ∀ x ∈ ts, x.1.2.1.length ≤ 4194304 := okB 0 (by kernel_rfl)
theorem okB3 : ∀ ts, lexL 0 src3 true = .ok ts → ts.length ≤ 4194304 ∧ ∀ x ∈ ts, x.1.2.1.length ≤ 4194304 := okB 0 (by kernel_rfl)
theorem okB4 : ∀ ts, lexL 0 src4 true = .ok ts → ts.length ≤ 4194304 ∧ ∀ x ∈ ts, x.1.2.1.length ≤ 4194304 := okB 0 (by kernel_rfl)
/-- what is looked at of an answer: the tree's kind, text and how many kids; the place; the error. -/
def seen (r : Rs Nd) : Int × List UInt8 × Nat × Nat × Int := match r with
  | .ok x b => (x.k, x.t.data.toList, x.ks.length, b, 0)
  | .bad p e => (0, [], 0, p, e)
theorem fuel_big (L : List Tok) : 200 ≤ fuelL L := by unfold fuelL; omega
theorem eq1 : seen (exprF (srcT src1) 200 0 0) = (16, [43], 2, 5, 0) := by kernel_rfl
theorem eq2 : (seen (typeF (srcT src2) 200 0 0)).1 = 32 ∧ (seen (typeF (srcT src2) 200 0 0)).2.2.1 = 2 ∧ (seen (typeF (srcT src2) 200 0 0)).2.2.2.2 = 0 := ⟨by kernel_rfl, by kernel_rfl, by kernel_rfl⟩
theorem eq3 : (seen (stmtF (srcT src3) 200 0 0)).1 = 48 ∧ (seen (stmtF (srcT src3) 200 0 0)).2.2 = (3, 15, 0) := ⟨by kernel_rfl, by kernel_rfl⟩
theorem eq4 : seen (exprF (srcT src4) 200 0 0) = (0, [], 0, 2, 60) := by kernel_rfl
end Go.Proofs.YtmfgcaffdkakhaaGreat
namespace Go.Proofs.YtmfgcaffdkakhaaGreat
open Go.RowKit
set_option linter.unusedVariables false
set_option linter.unusedSimpArgs false
set_option maxRecDepth 100000

theorem seen_ok {r : Rs Nd} {k : Int} {t : List UInt8} {n p : Nat} (h : seen r = (k, t, n, p, 0)) (hk : k ≠ 0) : ∃ x, r = .ok x p ∧ x.k = k ∧ x.t = ⟨t.toArray⟩ ∧ x.ks.length = n := by
  cases r with
  | ok x b =>
    simp only [seen, Prod.mk.injEq] at h
    obtain ⟨h1, h2, h3, h4, _⟩ := h
    subst h4
    refine ⟨x, rfl, h1, ?_, h3⟩
    rw [← h2]
  | bad q e =>
    simp only [seen, Prod.mk.injEq] at h
    exact absurd h.1.symm hk
theorem seen_bad {r : Rs Nd} {p : Nat} {e : Int} (h : seen r = (0, [], 0, p, e)) (he : e ≠ 0) : r = .bad p e := by
  cases r with
  | ok x b =>
    simp only [seen, Prod.mk.injEq] at h
    exact absurd h.2.2.2.2.symm he
  | bad q e' =>
    simp only [seen, Prod.mk.injEq] at h
    obtain ⟨_, _, _, rfl, rfl⟩ := h
    rfl
theorem read0 (L : List Tok) (F : Nat → Nat → Rs Nd) : readP L F 0 = faceR (F 0 0) := by
  unfold readP
  rw [if_neg (by decide), if_neg (by omega)]
  rfl
theorem ok_ne {x : Nd} {b : Nat} : ∀ p, (Rs.ok x b : Rs Nd) ≠ .bad p 0 := fun p h => by cases h
theorem ex1 (W : World) (v : Value) (h : TkV W v (srcT src1)) : Calls Tryz.prog 6 #[v, .int .i64 0] W fun e w' => (∃ (n : Int) (ad : Option Addr) (c : Nat), e = .returned (.tuple #[.agg #[.int .i64 16, .string ⟨#[43]⟩, .int .i64 n, .slice ad 2 c], .int .i64 5, .int .i64 0])) ∧ Below W.heap.size W w' := by
  obtain ⟨x, hx, h1, h2, h3⟩ := seen_ok eq1 (by decide)
  have hm := expr_more hx ok_ne (fuel_big (srcT src1))
  refine (faceExpr _ W v 0 h (by omega)).mono ?_
  rintro e w' ⟨ad, c, rfl, _, b⟩
  rw [read0, hm]
  exact ⟨⟨x.n, ad, c, by simp only [faceR, h1, h2, h3]; rfl⟩, b⟩
theorem ex2 (W : World) (v : Value) (h : TkV W v (srcT src2)) : Calls Tryz.prog 7 #[v, .int .i64 0] W fun e w' => (∃ (t : ByteArray) (n : Int) (ad : Option Addr) (c p : Nat), e = .returned (.tuple #[.agg #[.int .i64 32, .string t, .int .i64 n, .slice ad 2 c], .int .i64 (p : Int), .int .i64 0])) ∧ Below W.heap.size W w' := by
  obtain ⟨x, hx, h1, h2, h3⟩ := seen_ok (show seen (typeF (srcT src2) 200 0 0) = (32, (seen (typeF (srcT src2) 200 0 0)).2.1, 2, (seen (typeF (srcT src2) 200 0 0)).2.2.2.1, 0) from by rw [← eq2.1, ← eq2.2.1, ← eq2.2.2]) (by decide)
  have hm := type_more hx ok_ne (fuel_big (srcT src2))
  refine (faceType _ W v 0 h (by omega)).mono ?_
  rintro e w' ⟨ad, c, rfl, _, b⟩
  rw [read0, hm]
  exact ⟨⟨x.t, x.n, ad, c, _, by simp only [faceR, h1, h3]; rfl⟩, b⟩
theorem ex3 (W : World) (v : Value) (h : TkV W v (srcT src3)) : Calls Tryz.prog 8 #[v, .int .i64 0] W fun e w' => (∃ (t : ByteArray) (n : Int) (ad : Option Addr) (c : Nat), e = .returned (.tuple #[.agg #[.int .i64 48, .string t, .int .i64 n, .slice ad 3 c], .int .i64 15, .int .i64 0])) ∧ Below W.heap.size W w' := by
  obtain ⟨x, hx, h1, h2, h3⟩ := seen_ok (show seen (stmtF (srcT src3) 200 0 0) = (48, (seen (stmtF (srcT src3) 200 0 0)).2.1, 3, 15, 0) from by
    have e1 := eq3.1
    have e2 := eq3.2
    generalize seen (stmtF (srcT src3) 200 0 0) = y at *
    obtain ⟨y1, y2, y3⟩ := y
    simp only at e1 e2
    rw [e1, e2]) (by decide)
  have hm := stmt_more hx ok_ne (fuel_big (srcT src3))
  refine (faceStmt _ W v 0 h (by omega)).mono ?_
  rintro e w' ⟨ad, c, rfl, _, b⟩
  rw [read0, hm]
  exact ⟨⟨x.t, x.n, ad, c, by simp only [faceR, h1, h3]; rfl⟩, b⟩
theorem ex4 (W : World) (v : Value) (h : TkV W v (srcT src4)) : Calls Tryz.prog 6 #[v, .int .i64 0] W fun e w' => (∃ (ad : Option Addr) (c : Nat), e = .returned (.tuple #[.agg #[.int .i64 0, .string ⟨#[]⟩, .int .i64 0, .slice ad 0 c], .int .i64 2, .int .i64 60])) ∧ Below W.heap.size W w' := by
  have hx := seen_bad eq4 (by decide)
  have hm := expr_more hx (fun p h => by cases h) (fuel_big (srcT src4))
  refine (faceExpr _ W v 0 h (by omega)).mono ?_
  rintro e w' ⟨ad, c, rfl, _, b⟩
  rw [read0, hm]
  exact ⟨⟨ad, c, rfl⟩, b⟩
set_option maxHeartbeats 8000000 in
theorem sure_any (w : World) : Calls Tryz.prog 5 #[] w fun e w' => e = .returned (.bool true) ∧ Below w.heap.size w w' := by
  have T1 := fun W => tokens_any ⟨#[97, 32, 43, 32, 98, 32, 42, 32, 99, 59]⟩ W (by decide) okB1
  have T2 := fun W => tokens_any ⟨src2.toArray⟩ W (by decide) okB2
  have T3 := fun W => tokens_any ⟨src3.toArray⟩ W (by decide) okB3
  have T4 := fun W => tokens_any ⟨#[40, 97, 44, 32, 98, 41]⟩ W (by decide) okB4
  go_enter Tryz.func5, Tryz.ntmps5
  go_wp2_with fail
  go_at_call 4
  refine (T1 _).mono ?_
  rintro e W1 ⟨⟨v1, rfl, t1⟩, b1⟩
  go_wp2_with fail
  go_at_call 6
  refine (ex1 _ _ t1).mono ?_
  rintro e W2 ⟨⟨n2, ad2, c2, rfl⟩, b2⟩
  clear t1 T1
  go_wp2_with fail
  go_at_call 4
  refine (T2 _).mono ?_
  rintro e W3 ⟨⟨v3, rfl, t3⟩, b3⟩
  go_wp2_with fail
  go_at_call 7
  refine (ex2 _ _ t3).mono ?_
  rintro e W4 ⟨⟨x4, n4, ad4, c4, p4, rfl⟩, b4⟩
  clear t3 T2
  go_wp2_with fail
  go_at_call 4
  refine (T3 _).mono ?_
  rintro e W5 ⟨⟨v5, rfl, t5⟩, b5⟩
  go_wp2_with fail
  go_at_call 8
  refine (ex3 _ _ t5).mono ?_
  rintro e W6 ⟨⟨x6, n6, ad6, c6, rfl⟩, b6⟩
  clear t5 T3
  go_wp2_with fail
  go_at_call 4
  refine (T4 _).mono ?_
  rintro e W7 ⟨⟨v7, rfl, t7⟩, b7⟩
  go_wp2_with fail
  go_at_call 6
  refine (ex4 _ _ t7).mono ?_
  rintro e W8 ⟨⟨ad8, c8, rfl⟩, b8⟩
  clear t7 T4
  have s1 := b1.size
  have s2 := b2.size
  have s3 := b3.size
  have s4 := b4.size
  have s5 := b5.size
  have s6 := b6.size
  have s7 := b7.size
  have s8 := b8.size
  simp at s3 s5 s7
  have m2 : W8.heap[W2.heap.size]? = some (.cells #[Value.int IntKind.i64 16, Value.string ⟨#[43]⟩, Value.int IntKind.i64 n2, Value.slice ad2 2 c2] 27 (0, 0)) := (b8.block _ (by omega)).trans ((b7.block _ (by simp; omega)).trans ((Below.heap_alloc _ _ _ (by omega)).trans ((b6.block _ (by omega)).trans ((b5.block _ (by simp; omega)).trans ((Below.heap_alloc _ _ _ (by omega)).trans ((b4.block _ (by omega)).trans ((b3.block _ (by simp)).trans (heap_alloc_new W2 _))))))))
  have m4 : W8.heap[W4.heap.size]? = some (.cells #[Value.int IntKind.i64 32, Value.string x4, Value.int IntKind.i64 n4, Value.slice ad4 2 c4] 27 (0, 0)) := (b8.block _ (by omega)).trans ((b7.block _ (by simp; omega)).trans ((Below.heap_alloc _ _ _ (by omega)).trans ((b6.block _ (by omega)).trans ((b5.block _ (by simp)).trans (heap_alloc_new W4 _)))))
  have m6 : W8.heap[W6.heap.size]? = some (.cells #[Value.int IntKind.i64 48, Value.string x6, Value.int IntKind.i64 n6, Value.slice ad6 3 c6] 27 (0, 0)) := (b8.block _ (by omega)).trans ((b7.block _ (by simp)).trans (heap_alloc_new W6 _))
  have BW : Hid (Below w.heap.size w W8) := b1.trans ((b2.mono (by omega)).trans (((Below.refl W2.heap.size W2).alloc (Nat.le_refl _) _ |>.mono (by omega)).trans ((b3.mono (by simp; omega)).trans ((b4.mono (by omega)).trans (((Below.refl W4.heap.size W4).alloc (Nat.le_refl _) _ |>.mono (by omega)).trans ((b5.mono (by simp; omega)).trans ((b6.mono (by omega)).trans (((Below.refl W6.heap.size W6).alloc (Nat.le_refl _) _ |>.mono (by omega)).trans ((b7.mono (by simp; omega)).trans (b8.mono (by omega)))))))))))
  have l2 : W2.heap.size < W8.heap.size := (Array.getElem?_eq_some_iff.1 m2).1
  have l4 : W4.heap.size < W8.heap.size := (Array.getElem?_eq_some_iff.1 m4).1
  have l6 : W6.heap.size < W8.heap.size := (Array.getElem?_eq_some_iff.1 m6).1
  obtain ⟨⟨_, _, _, _⟩, _, _, _, _⟩ := t4 m2
  obtain ⟨⟨_, _, _, _⟩, _, _, _, _⟩ := t4 m4
  obtain ⟨⟨_, _, _, _⟩, _, _, _, _⟩ := t4 m6
  clear b1 b2 b3 b4 b5 b6 b7 b8
  go_wp2
  go_ret
  exact ⟨rfl, BW.out.alloc BW.out.size _⟩
end Go.Proofs.YtmfgcaffdkakhaaGreat
