/- Own text. What All of package tree gives goes over all trees, each copied. -/
import Derived.Test.YtggahoefbcnaiaaDoorW3A
import Derived.Test.YtggahoefbcnaiaaDoorW1
namespace Go.Proofs.YtggahoefbcnaiaaDoor
open Go.RowKit
set_option linter.unusedVariables false
set_option linter.unusedSimpArgs false
attribute [local go_sem] Oper.semAt_some

/-- what is told at place k: the place, and the tree there in new memory. -/
def AllG (w : World) (T : Nat → Prop) (x : Nd) (k lo : Nat) (args : Array Value) (W : World) : Prop :=
  ∃ (y : Nd) (a : Option Addr) (c : Nat), args = #[.int .i64 (k : Nat), .agg #[.int .i64 y.k, .string y.t, .int .i64 y.n, .slice a y.ks.length c]] ∧ x.flat[k]? = some y ∧ Sep W (fun b => lo ≤ b ∧ b < W.heap.size) (.slice a y.ks.length c) y.ks ∧ (∀ c, T c → W.heap[c]? = w.heap[c]?)

set_option maxRecDepth 100000 in
set_option maxHeartbeats 4000000 in
theorem all_it {w : World} {T : Nat → Prop} {B : Nat} {x : Nd} (hN : NAt w T B 0 x) (hT : ∀ b, T b → b < w.heap.size) (zx : x.size ≤ 4194304) (tx : x.tx) :
    ∀ (l : Nat) (J Jx : Nat → World → Prop) (W1 : World), Below w.heap.size w W1 → (∀ k X Z, J k X → Below W1.heap.size X Z → J k Z) → (∀ k X Z, Jx k X → Below W1.heap.size X Z → Jx k Z) → RndG2 (AllG w T x) T l W1.heap.size J Jx → J 0 W1 →
      Calls Tryd.prog 40 (#[.func (.yield l) #[] #[]] ++ #[.pointer (some ⟨B, 0, none⟩)]) W1 fun e W' => (∃ v, e = .returned v) ∧ (J x.size W' ∨ ∃ k', Jx k' W') := by
  intro l J Jx W1 hB hJ hJx hR h0
  refine (callsIn_wide (n := 10)).1 ?_
  refine callsIn_of_wp_marks Tryd.func40 rfl trivial ?_ rfl
  simp only [Tryd.ntmps40, List.size_toArray, List.length_cons, List.length_nil, Nat.reduceAdd, Nat.reduceSub, Array.replicate_succ, Array.replicate_zero, List.push_toArray, List.append_toArray, List.nil_append, List.cons_append]
  gi_wp2_with (refine ⟨trivial, ?_⟩; gi_at_call 39; refine (callsIn_wide.2 (places_in _ B 0)).mono ?_; rintro e w' ⟨rfl, t, rfl⟩)
  obtain ⟨W0, hW0⟩ : ∃ W, ((W1.alloc (Obj.cells #[Value.func (Fn.yield l) #[] #[]] 52)).alloc (Obj.cells #[Value.pointer (some { block := B, off := 0 })] t)) = W := ⟨_, rfl⟩
  have hb0 : Below W1.heap.size W1 W0 := by rw [← hW0]; exact (bel_a _ _).alloc (by simp) _
  have hs0 : W0.heap.size = W1.heap.size + 2 := by rw [← hW0]; simp
  have m0 : ∃ t, W0.heap[W1.heap.size]? = some (.cells #[Value.func (Fn.yield l) #[] #[]] t (0, 0)) := by rw [← hW0]; exact ⟨_, hold _ (by simp) (hnew _ rfl)⟩
  have m1 : W0.cell? ⟨W1.heap.size + 1, 0, none⟩ = some (Value.pointer (some { block := B, off := 0 })) := by rw [← hW0]; exact (box1 ⟨_, hnew _ (by simp)⟩).1
  have hsB := hB.size
  have hbw : Below w.heap.size w W0 := hB.trans (hb0.mono hsB)
  have hN0 : NAt W0 T B 0 x := hN.keep hbw.size (fun c hc => hbw.block c (hT c hc))
  rw [hW0]
  clear hW0
  refine range_law (gf := 59) (lb := #[.pointer (some ⟨W1.heap.size + 1, 0, none⟩)]) rfl (enters_of Tryd.func59 (by kernel_rfl) rfl) (PG W0 T B 0 x) T x.size (by rintro k lo args W ⟨b, o, y, rfl, _⟩; rfl) (fun b hb => by have := hT b hb; omega)
    (places_it hN0 (fun b hb => by have := hT b hb; omega) m1 zx)
    (fun k W => J k W ∧ (∃ t, W.heap[W1.heap.size]? = some (.cells #[Value.func (Fn.yield l) #[] #[]] t (0, 0))))
    (fun c k W => c = .ret ∧ Jx k W)
    (fun k X Z h hB => ⟨hJ _ _ _ h.1 (hB.mono (by omega)), box1_of h.2 (hB.block _ (by omega))⟩)
    (fun c k X l r o h hl hr => ⟨h.1, hJx _ _ _ h.2 (below_put _ (by omega))⟩) ⟨hJ _ _ _ h0 hb0, m0⟩
    (fun k lo args a' W' => ∃ b o, args = #[.int .i64 (k : Nat), .pointer (some ⟨b, o, none⟩)] ∧ a' = { tmps := #[Value.func (Fn.yield l) #[] #[], Value.pointer (some { block := B, off := 0 }), Value.pointer (some { block := W1.heap.size, off := 0 }), .int .i64 (k : Nat), .pointer (some ⟨b, o, none⟩), Value.func (Fn.func 59) #[] #[Value.pointer (some { block := W1.heap.size + 1, off := 0 })], .int .i64 (k : Nat), .pointer (some ⟨b, o, none⟩), undef, undef, undef, undef, undef, undef, undef, undef], defers := [] }) ?assign ?body ?done ?stop
  case assign =>
    rintro l k lo args W K ⟨b, o, y, rfl, _⟩ _ _ hK
    gi_wp2
    exact hK _ _ (Below.refl _ _) ⟨b, o, rfl, rfl⟩
  case body =>
    rintro l' k lo args a' W Wa W2 hG ⟨hj, hy⟩ hlo hba ⟨b, o, hargs, rfl⟩ hl hllo ho hs hloop hb2
    obtain ⟨b', o', y, e, hP, hNy, hag, rfl⟩ := hG
    obtain ⟨rfl, rfl⟩ : b = b' ∧ o = o' := by rw [hargs] at e; simpa using e
    clear e hargs
    have hj2 := hJ _ _ _ hj (hb2.mono (by omega))
    have hy2 := box1_of hy (hb2.block _ (by omega))
    obtain ⟨vy, hTb, h4, hly⟩ := hNy.keep (w' := W2) (by have := hba.size; omega) (fun c hc => (hb2.block c (by have := hT c hc; omega)).trans (hag c hc))
    have hag2 : ∀ c, T c → W2.heap[c]? = w.heap[c]? := fun c hc => (hb2.block c (by have := hT c hc; omega)).trans ((hag c hc).trans (hbw.block c (hT c hc)))
    obtain ⟨u1, u2, u3, u4⟩ := h4
    obtain ⟨ak, ck, rfl⟩ := hly.sl
    have hyf := hP.flat
    have hmem : y ∈ x.flat := List.mem_of_getElem? hyf
    have zy : y.size ≤ 4194304 := Nat.le_trans (flat_sub x y hmem).1 zx
    have ty : y.tx := Nd.tx_sub tx hmem
    have s2 : W1.heap.size + 2 ≤ W2.heap.size := by have := hb2.size; have := hba.size; omega
    have hsa := hba.size
    have cp := copy_any y W2.drew _ _ (hly.bel (Below.refl _ _).drew) zy ty
    obtain ⟨y0, _⟩ := box1 hy2
    have hY : ∀ W3, Below W2.drew.heap.size W2.drew W3 → W3.cell? ⟨W1.heap.size, 0, none⟩ = some (Value.func (Fn.yield l) #[] #[]) := fun W3 b3 => (b3.cell (p := ⟨W1.heap.size, 0, none⟩) (by show W1.heap.size < W2.heap.size; omega)).trans y0
    obtain ⟨Pr, hPr⟩ : ∃ Pr : Bool → World → Prop, Pr = fun r W' => W2.heap.size ≤ W'.heap.size ∧ ((r = true ∧ J (k + 1) W' ∧ ∀ c, c < W2.heap.size → (T c ∨ W1.heap.size ≤ c) → W'.heap[c]? = W2.heap[c]?) ∨ (r = false ∧ Jx k W' ∧ ∀ c, c < W2.heap.size → W1.heap.size ≤ c → W'.heap[c]? = W2.heap[c]?)) := ⟨_, rfl⟩
    have rnd : ∀ W3 a3 c3, Below W2.drew.heap.size W2.drew W3 → Sep W3 (fun b => W2.drew.heap.size ≤ b ∧ b < W3.heap.size) (.slice a3 y.ks.length c3) y.ks → YieldAt Fence.wide 7 Tryd.prog l #[.int .i64 (k : Nat), .agg #[.int .i64 y.k, .string y.t, .int .i64 y.n, .slice a3 y.ks.length c3]] W3 fun e W' => ∃ r : Bool, e = .returned (.bool r) ∧ Pr r W' := fun W3 a3 c3 b3 sp3 => by
      have D3 : Below W2.heap.size W2 W3 := (Below.refl _ _).drew.trans b3
      have sz3 := D3.size
      rw [hPr]
      refine (yield_any 7 (hR k W2.heap.size _ W3 ⟨y, a3, c3, rfl, hyf, sp3, fun c hc => (D3.block c (by have := hT c hc; omega)).trans (hag2 c hc)⟩ (by omega) D3.size (hJ _ _ _ hj2 (D3.mono (by omega))))).mono ?_
      rintro e W' (⟨rfl, h1, h2, h3⟩ | ⟨rfl, h1, h2, h3⟩)
      · exact ⟨true, rfl, by omega, .inl ⟨rfl, h1, fun c hc h => (h3 c hc h).trans (D3.block c hc)⟩⟩
      · exact ⟨false, rfl, by omega, .inr ⟨rfl, h1, fun c hc h => (h3 c hc h).trans (D3.block c hc)⟩⟩
    have CC : Calls Tryd.prog 15 #[.agg #[.int .i64 y.k, .string y.t, .int .i64 y.n, .slice ak y.ks.length ck]] W2.drew fun e w' => ∃ a c, e = .returned (.agg #[.int .i64 y.k, .string y.t, .int .i64 y.n, .slice a y.ks.length c]) ∧ Sep w' (fun b => W2.drew.heap.size ≤ b ∧ b < w'.heap.size) (.slice a y.ks.length c) y.ks ∧ Below W2.drew.heap.size W2.drew w' := cp.mono (by rintro e w' ⟨v, rfl, l, bb⟩; obtain ⟨a, c, rfl⟩ := l.sl; exact ⟨a, c, rfl, l, bb⟩)
    have hfo : Four W2.drew b o y (.slice ak y.ks.length ck) := ⟨u1, u2, u3, u4⟩
    clear cp
    gi_wp2
    refine tellY y ak ck l l' k b o W1.heap.size _ _ _ _ _ W2 Pr _ _ _ _ _ _ _ _ hY hfo CC rnd ?_
    intro w8 w9 w10 w11 w12 w13 w14 r W4 hp
    rw [hPr] at hp
    dsimp only [frY]
    obtain ⟨sz4, (⟨rfl, h1, h2⟩ | ⟨rfl, h1, h2⟩)⟩ := hp
    · gi_wp2
      exact ⟨⟨h1, box1_of hy2 (h2 _ (by omega) (.inr (Nat.le_refl _)))⟩, sz4, fun c hc hcT => h2 c (by omega) (hcT.elim .inl (fun h => .inr (by omega)))⟩
    · gi_wp2
      exact ⟨⟨rfl, h1⟩, sz4, fun c hc hcT => h2 c (by omega) (by omega)⟩
  case done =>
    rintro D W hD ⟨hj, hy⟩ hK
    gi_wp2
    refine ⟨by simp, .inl ⟨_, _, rfl, run_takeDeferred hK, ?_⟩⟩
    exact ⟨_, results_none rfl _ _ _, ⟨_, rfl⟩, .inl (hJ _ _ _ hj (below_put _ (by omega)))⟩
  case stop =>
    rintro D c k W hD ⟨rfl, hx⟩ hK
    gi_wp2
    refine ⟨by simp, .inl ⟨_, _, rfl, run_takeDeferred hK, ?_⟩⟩
    exact ⟨_, results_none rfl _ _ _, ⟨_, rfl⟩, .inr ⟨k, hJx _ _ _ hx (below_put _ (by omega))⟩⟩
end Go.Proofs.YtggahoefbcnaiaaDoor
