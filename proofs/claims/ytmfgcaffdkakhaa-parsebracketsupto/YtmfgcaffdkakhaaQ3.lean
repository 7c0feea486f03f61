/- Own text. Package parse: its faces Expr, Type, Stmt. -/
import Derived.Test.YtmfgcaffdkakhaaQ2
namespace Go.Proofs.Ytmfgcaffdkakhaa
open Go.RowKit
set_option linter.unusedVariables false
set_option linter.unusedSimpArgs false

theorem res_Expr {W : World} {p : Nat} {a b c d vq vr : Value} {tmps : Array Value} (mp : W.heap[p]? = some (.cells #[a, b, c, d] 24 (0, 0))) (h4 : tmps[4]?.getD undef = .pointer (some ⟨p, 0, none⟩)) (h5 : tmps[5]?.getD undef = vq) (h6 : tmps[6]?.getD undef = vr) : (results Try.f6 tmps).run Try.prog W = .ok (.tuple #[.agg #[a, b, c, d], vq, vr]) W := by
  obtain ⟨⟨c0, c1, c2, c3⟩, _⟩ := t4 mp
  simp [results, Try.results6, go_sem, h4, h5, h6, c0, c1, c2, c3]
set_option maxRecDepth 100000 in
set_option maxHeartbeats 4000000 in
theorem faceExpr (L : List Tok) (w : World) (v : Value) (i : Int) (hv : TkV w v L) (hi : -9223372036854775808 ≤ i ∧ i ≤ 9223372036854775807) :
    Calls Try.prog 6 #[v, .int .i64 i] w (AnsF w (readP L (exprF L (fuelL L)) i)) := by
  have bel_n : ∀ o, Below w.heap.size w (w.alloc o) := fun o => (Below.refl _ _).alloc (Nat.le_refl _) o
  have hv' : ∀ o, TkV (w.alloc o) v L := fun o => by
    obtain ⟨⟨ta, tc, bl, of, e, h1, h2, h3⟩, h4, h5⟩ := hv
    exact ⟨⟨ta, tc, bl, of, e, h1, h2.bel (bel_n o), h3⟩, h4, h5⟩
  have C := fun o => read_any L _ _ eg_anExpr (allC L hv.texts (fuelL L)).hE _ v i (hv' o) hi
  generalize readP L (exprF L (fuelL L)) i = r at *
  have M0 : Hid (∀ W, Below (w.alloc zN).heap.size (w.alloc zN) W → W.heap[w.heap.size]? = some (.cells #[Value.int IntKind.i64 0, Value.string ⟨#[]⟩, Value.int IntKind.i64 0, Value.slice none 0 0] 24 (0, 0))) := fun W b => (b.block _ (by simp)).trans (heap_alloc_new w _)
  go_enter Try.func6, Try.ntmps6
  go_wp2_with (go_at_call 12; refine (C _).mono ?_; rintro e W1 ⟨ad, c, rfl, l1, b1⟩; have m1 := M0.out _ b1; obtain ⟨⟨_, _, _, _⟩, _, _, _, _⟩ := t4 m1)
  have b2 : Below w.heap.size w W1 := (bel_n _).trans (b1.mono (by simp))
  have s1 := b1.size
  simp at s1
  refine bodyPost_ret (res_Expr (t4_set _ _ _ _ m1) rfl rfl rfl) rfl ⟨ad, c, rfl, ?_, ?_⟩
  · exact (l1.mono (T := fun b => w.heap.size + 1 ≤ b) (fun b hb => by simp at hb; omega)).set4 (by omega) (by omega) _ _ _ _
  · exact (((b2.setCell (Nat.le_refl _) _).setCell (Nat.le_refl _) _).setCell (Nat.le_refl _) _).setCell (Nat.le_refl _) _
theorem eg_aType : ∀ args w, (callFunc 15 args).run Try.prog w = .ok (.enter 15 args) w := Go.Proofs.enters_of Try.func15 (by kernel_rfl) rfl
theorem res_Type {W : World} {p : Nat} {a b c d vq vr : Value} {tmps : Array Value} (mp : W.heap[p]? = some (.cells #[a, b, c, d] 24 (0, 0))) (h4 : tmps[4]?.getD undef = .pointer (some ⟨p, 0, none⟩)) (h5 : tmps[5]?.getD undef = vq) (h6 : tmps[6]?.getD undef = vr) : (results Try.f9 tmps).run Try.prog W = .ok (.tuple #[.agg #[a, b, c, d], vq, vr]) W := by
  obtain ⟨⟨c0, c1, c2, c3⟩, _⟩ := t4 mp
  simp [results, Try.results9, go_sem, h4, h5, h6, c0, c1, c2, c3]
set_option maxRecDepth 100000 in
set_option maxHeartbeats 4000000 in
theorem faceType (L : List Tok) (w : World) (v : Value) (i : Int) (hv : TkV w v L) (hi : -9223372036854775808 ≤ i ∧ i ≤ 9223372036854775807) :
    Calls Try.prog 9 #[v, .int .i64 i] w (AnsF w (readP L (typeF L (fuelL L)) i)) := by
  have bel_n : ∀ o, Below w.heap.size w (w.alloc o) := fun o => (Below.refl _ _).alloc (Nat.le_refl _) o
  have hv' : ∀ o, TkV (w.alloc o) v L := fun o => by
    obtain ⟨⟨ta, tc, bl, of, e, h1, h2, h3⟩, h4, h5⟩ := hv
    exact ⟨⟨ta, tc, bl, of, e, h1, h2.bel (bel_n o), h3⟩, h4, h5⟩
  have C := fun o => read_any L _ _ eg_aType (allC L hv.texts (fuelL L)).hT _ v i (hv' o) hi
  generalize readP L (typeF L (fuelL L)) i = r at *
  have M0 : Hid (∀ W, Below (w.alloc zN).heap.size (w.alloc zN) W → W.heap[w.heap.size]? = some (.cells #[Value.int IntKind.i64 0, Value.string ⟨#[]⟩, Value.int IntKind.i64 0, Value.slice none 0 0] 24 (0, 0))) := fun W b => (b.block _ (by simp)).trans (heap_alloc_new w _)
  go_enter Try.func9, Try.ntmps9
  go_wp2_with (go_at_call 12; refine (C _).mono ?_; rintro e W1 ⟨ad, c, rfl, l1, b1⟩; have m1 := M0.out _ b1; obtain ⟨⟨_, _, _, _⟩, _, _, _, _⟩ := t4 m1)
  have b2 : Below w.heap.size w W1 := (bel_n _).trans (b1.mono (by simp))
  have s1 := b1.size
  simp at s1
  refine bodyPost_ret (res_Type (t4_set _ _ _ _ m1) rfl rfl rfl) rfl ⟨ad, c, rfl, ?_, ?_⟩
  · exact (l1.mono (T := fun b => w.heap.size + 1 ≤ b) (fun b hb => by simp at hb; omega)).set4 (by omega) (by omega) _ _ _ _
  · exact (((b2.setCell (Nat.le_refl _) _).setCell (Nat.le_refl _) _).setCell (Nat.le_refl _) _).setCell (Nat.le_refl _) _
theorem res_Stmt {W : World} {p : Nat} {a b c d vq vr : Value} {tmps : Array Value} (mp : W.heap[p]? = some (.cells #[a, b, c, d] 24 (0, 0))) (h4 : tmps[4]?.getD undef = .pointer (some ⟨p, 0, none⟩)) (h5 : tmps[5]?.getD undef = vq) (h6 : tmps[6]?.getD undef = vr) : (results Try.f11 tmps).run Try.prog W = .ok (.tuple #[.agg #[a, b, c, d], vq, vr]) W := by
  obtain ⟨⟨c0, c1, c2, c3⟩, _⟩ := t4 mp
  simp [results, Try.results11, go_sem, h4, h5, h6, c0, c1, c2, c3]
set_option maxRecDepth 100000 in
set_option maxHeartbeats 4000000 in
theorem faceStmt (L : List Tok) (w : World) (v : Value) (i : Int) (hv : TkV w v L) (hi : -9223372036854775808 ≤ i ∧ i ≤ 9223372036854775807) :
    Calls Try.prog 11 #[v, .int .i64 i] w (AnsF w (readP L (stmtF L (fuelL L)) i)) := by
  have bel_n : ∀ o, Below w.heap.size w (w.alloc o) := fun o => (Below.refl _ _).alloc (Nat.le_refl _) o
  have hv' : ∀ o, TkV (w.alloc o) v L := fun o => by
    obtain ⟨⟨ta, tc, bl, of, e, h1, h2, h3⟩, h4, h5⟩ := hv
    exact ⟨⟨ta, tc, bl, of, e, h1, h2.bel (bel_n o), h3⟩, h4, h5⟩
  have C := fun o => read_any L _ _ eg_aStmt (allC L hv.texts (fuelL L)).hS _ v i (hv' o) hi
  generalize readP L (stmtF L (fuelL L)) i = r at *
  have M0 : Hid (∀ W, Below (w.alloc zN).heap.size (w.alloc zN) W → W.heap[w.heap.size]? = some (.cells #[Value.int IntKind.i64 0, Value.string ⟨#[]⟩, Value.int IntKind.i64 0, Value.slice none 0 0] 24 (0, 0))) := fun W b => (b.block _ (by simp)).trans (heap_alloc_new w _)
  go_enter Try.func11, Try.ntmps11
  go_wp2_with (go_at_call 12; refine (C _).mono ?_; rintro e W1 ⟨ad, c, rfl, l1, b1⟩; have m1 := M0.out _ b1; obtain ⟨⟨_, _, _, _⟩, _, _, _, _⟩ := t4 m1)
  have b2 : Below w.heap.size w W1 := (bel_n _).trans (b1.mono (by simp))
  have s1 := b1.size
  simp at s1
  refine bodyPost_ret (res_Stmt (t4_set _ _ _ _ m1) rfl rfl rfl) rfl ⟨ad, c, rfl, ?_, ?_⟩
  · exact (l1.mono (T := fun b => w.heap.size + 1 ≤ b) (fun b hb => by simp at hb; omega)).set4 (by omega) (by omega) _ _ _ _
  · exact (((b2.setCell (Nat.le_refl _) _).setCell (Nat.le_refl _) _).setCell (Nat.le_refl _) _).setCell (Nat.le_refl _) _
end Go.Proofs.Ytmfgcaffdkakhaa
