/- Own text. Size and At of package tree. -/
import Derived.Test.YtggahoefbcnaiaaDoorT9
import Derived.Test.YtggahoefbcnaiaaDoorT5
namespace Go.Proofs.YtggahoefbcnaiaaDoor
open Go.RowKit
set_option linter.unusedVariables false
attribute [local go_sem] Oper.semAt_some

theorem flats_elim : ∀ {l : List Nd} {y : Nd}, y ∈ flats l → ∃ x ∈ l, y ∈ x.flat
  | [], y, h => by rw [flats_nil] at h; cases h
  | x :: l, y, h => by
    rw [flats_cons] at h
    rcases List.mem_append.1 h with h | h
    · exact ⟨x, by simp, h⟩
    · obtain ⟨z, hz, hy⟩ := flats_elim h
      exact ⟨z, by simp [hz], hy⟩
theorem flat_sub (x : Nd) : ∀ y ∈ x.flat, y.size ≤ x.size ∧ ∀ z ∈ y.flat, z ∈ x.flat := by
  induction x using Nd.ind with
  | h x ih =>
    intro y hy
    rw [x.flat_eq] at hy
    rcases List.mem_cons.1 hy with rfl | hy
    · exact ⟨Nat.le_refl _, fun z hz => hz⟩
    · obtain ⟨u, hu, hyu⟩ := flats_elim hy
      obtain ⟨h1, h2⟩ := ih u hu y hyu
      have h3 := sizes_mem hu
      refine ⟨by rw [x.size_eq]; omega, fun z hz => ?_⟩
      rw [x.flat_eq]
      exact List.mem_cons_of_mem _ (flats_mem hu (h2 z hz))
theorem Nd.tx_sub {x y : Nd} (h : x.tx) (hy : y ∈ x.flat) : y.tx := fun z hz => h z ((flat_sub x y hy).2 z hz)

/-- what the walk over the places of a tree tells. -/
def PG (w0 : World) (T : Nat → Prop) (b0 o0 : Nat) (x0 : Nd) (k lo : Nat) (args : Array Value) (W : World) : Prop :=
  ∃ b o y, args = #[.int .i64 (k : Nat), .pointer (some ⟨b, o, none⟩)] ∧ Pl w0 b0 o0 x0 k b o y ∧ NAt w0 T b o y ∧ (∀ c, T c → W.heap[c]? = w0.heap[c]?) ∧ lo = W.heap.size
theorem rnd_of {w0 : World} {T : Nat → Prop} {b0 o0 : Nat} {x0 : Nd} {l m : Nat} {J Jx : Nat → World → Prop} (h : RndG (PG w0 T b0 o0 x0) T l m J Jx) : Rnd w0 T b0 o0 x0 l m J Jx :=
  fun k b o y W hP hN hag hm hj => h k W.heap.size _ W ⟨b, o, y, rfl, hP, hN, hag, rfl⟩ hm (Nat.le_refl _) hj
theorem places_it {w : World} {T : Nat → Prop} {b0 o0 N : Nat} {x0 : Nd} (hN : NAt w T b0 o0 x0) (hT : ∀ b, T b → b < w.heap.size) (hb : w.cell? ⟨N, 0, none⟩ = some (.pointer (some ⟨b0, o0, none⟩))) (zx : x0.size ≤ 4194304) :
    ∀ (l : Nat) (J Jx : Nat → World → Prop) (W1 : World), Below w.heap.size w W1 → (∀ k X Z, J k X → Below W1.heap.size X Z → J k Z) → RndG (PG w T b0 o0 x0) T l W1.heap.size J Jx → J 0 W1 →
      Calls Tryd.prog 59 (#[.func (.yield l) #[] #[]] ++ #[.pointer (some ⟨N, 0, none⟩)]) W1 fun e W' => (∃ v, e = .returned v) ∧ (J x0.size W' ∨ ∃ k', Jx k' W') :=
  fun l J Jx W1 hB hJ hR h0 => places1_in w T b0 o0 x0 l N J Jx W1 (fun b hb' => Nat.lt_of_lt_of_le (hT b hb') hB.size) hJ (rnd_of hR) hN (fun c hc => hB.block c (hT c hc)) hB.size ((hB.cell (p := ⟨N, 0, none⟩) (World.block_lt_of_cell? w _ hb)).trans hb) h0 zx

set_option maxRecDepth 100000 in
set_option maxHeartbeats 4000000 in
theorem size_any (x : Nd) (w : World) (S : Nat → Prop) (v : Value) (hx : LAt w S v x.ks) (zx : x.size ≤ 4194304) :
    Calls Tryd.prog 16 #[x.v v] w fun e w' => e = .returned (.int .i64 (x.size : Nat)) ∧ Below w.heap.size w w' := by
  obtain ⟨ax, cx, rfl⟩ := hx.sl
  have hx' : LAt w (fun b => b ≤ w.heap.size) (.slice ax x.ks.length cx) x.ks := hx.mono' (fun b hb _ => Nat.le_of_lt hb)
  unfold Nd.v
  refine (callsIn_wide (n := 10)).1 ?_
  refine callsIn_of_wp_marks Tryd.func16 rfl trivial ?_ rfl
  simp only [Tryd.ntmps16, List.size_toArray, List.length_cons, List.length_nil, Nat.reduceAdd, Nat.reduceSub, Array.replicate_succ, Array.replicate_zero, List.push_toArray, List.append_toArray, List.nil_append, List.cons_append]
  gi_wp2_with (refine ⟨trivial, ?_⟩; gi_at_call 39; refine (callsIn_wide.2 (places_in _ w.heap.size 0)).mono ?_; rintro e w' ⟨rfl, t, rfl⟩)
  obtain ⟨W0, hW0⟩ : ∃ W, (((w.alloc (Obj.cells #[Value.int IntKind.i64 x.k, Value.string x.t, Value.int IntKind.i64 x.n, Value.slice ax x.ks.length cx] 24)).alloc (Obj.cells #[Value.int IntKind.i64 0] 3)).alloc (Obj.cells #[Value.pointer (some { block := w.heap.size, off := 0 })] t)) = W := ⟨_, rfl⟩
  have hb0 : Below w.heap.size w W0 := by rw [← hW0]; exact (((bel_a _ _).alloc (by simp) _).alloc (by simp; omega) _)
  have hs0 : W0.heap.size = w.heap.size + 3 := by rw [← hW0]; simp
  have m0 : W0.heap[w.heap.size]? = some (.cells #[Value.int IntKind.i64 x.k, Value.string x.t, Value.int IntKind.i64 x.n, Value.slice ax x.ks.length cx] 24 (0, 0)) := by rw [← hW0]; exact hold _ (by simp; omega) (hold _ (by simp) (hnew _ rfl))
  have m1 : ∃ t, W0.heap[w.heap.size + 1]? = some (.cells #[Value.int IntKind.i64 ((0 : Nat) : Int)] t (0, 0)) := by rw [← hW0]; exact ⟨_, hold _ (by simp) (hnew _ (by simp))⟩
  have m2 : W0.cell? ⟨w.heap.size + 1 + 1, 0, none⟩ = some (Value.pointer (some { block := w.heap.size, off := 0 })) := by rw [← hW0]; exact (box1 ⟨_, hnew _ (by simp)⟩).1
  have hN : NAt W0 (fun b => b ≤ w.heap.size) w.heap.size 0 x := by
    obtain ⟨⟨c0, c1, c2, c3⟩, _⟩ := box4 m0
    exact ⟨_, Nat.le_refl _, ⟨c0, c1, c2, c3⟩, hx'.bel hb0⟩
  rw [hW0]
  clear hW0
  refine range_law (gf := 59) (lb := #[.pointer (some ⟨w.heap.size + 1 + 1, 0, none⟩)]) rfl (enters_of Tryd.func59 (by kernel_rfl) rfl) (PG W0 (fun b => b ≤ w.heap.size) w.heap.size 0 x) (fun b => b ≤ w.heap.size) x.size (by rintro k lo args W ⟨b, o, y, rfl, _⟩; rfl) (fun b hb => by have : b ≤ w.heap.size := hb; omega)
    (places_it hN (fun b hb => by have : b ≤ w.heap.size := hb; omega) m2 zx)
    (fun k W => (∃ t, W.heap[w.heap.size + 1]? = some (.cells #[Value.int IntKind.i64 (k : Nat)] t (0, 0))) ∧ Below w.heap.size w W) (fun _ _ _ => False)
    (fun k X Z h hB => ⟨box1_of h.1 (hB.block _ (by omega)), h.2.trans (hB.mono (by omega))⟩) (fun _ _ _ _ _ _ h _ _ => h) ⟨m1, hb0⟩
    (fun k lo args a' W' => ∃ b o, a' = { tmps := #[Value.agg #[Value.int IntKind.i64 x.k, Value.string x.t, Value.int IntKind.i64 x.n, Value.slice ax x.ks.length cx], Value.pointer (some { block := w.heap.size, off := 0 }), Value.int IntKind.i64 0, Value.pointer (some { block := w.heap.size + 1, off := 0 }), .func (.func 59) #[] #[.pointer (some ⟨w.heap.size + 1 + 1, 0, none⟩)], .int .i64 (k : Nat), .pointer (some ⟨b, o, none⟩), undef, undef, undef], defers := [] }) ?assign ?body ?done ?stop
  case assign =>
    rintro l k lo args W K ⟨b, o, y, rfl, _⟩ _ _ hK
    gi_wp2
    exact hK _ _ (Below.refl _ _) ⟨b, o, rfl⟩
  case body =>
    rintro l k lo args a' W Wa W2 hG ⟨hc, hbw⟩ hlo hba ⟨b, o, rfl⟩ hl hllo ho hs _ hb2
    obtain ⟨_, _, y, _, hP, _⟩ := hG
    have hk : k < 4194304 := by
      have := (List.getElem?_eq_some_iff.1 hP.flat).1
      rw [x.flat_len] at this
      omega
    have hc2 := box1_of hc (hb2.block (w.heap.size + 1) (by omega))
    obtain ⟨d0, f0⟩ := box1 hc2
    have hc3 := box1_set (.int .i64 ((k + 1 : Nat) : Int)) hc2
    have e1 : ((k + 1 : Nat) : Int) = (k : Int) + 1 := by omega
    gi_wp2
    rw [← e1]
    exact ⟨⟨hc3, (hbw.trans (hb2.mono (by omega))).setCell (by simp) _⟩, by simp [World.setCell], fun c hc hcT => Below.heap_setCell _ _ _ _ (by rcases hcT with h | h <;> (simp at h ⊢; omega))⟩
  case done =>
    rintro D W hD ⟨hc, hbw⟩ hK
    obtain ⟨d0, _⟩ := box1 hc
    gi_wp2
    refine ⟨by simp, .inl ⟨_, _, rfl, run_takeDeferred hK, ?_⟩⟩
    exact ⟨_, results_tmp rfl _ _ _, rfl, hbw.trans (below_put _ (by omega))⟩
  case stop =>
    rintro D c k W _ h _
    exact h.elim

/-- a tree and a bool that are answered out of their cells. -/
theorem res_nd2 {fn : Func} {p q : Nat} (h : fn.results = #[.cell p 24, .cell q 4]) {W : World} {n n' : Nat} {a b c d u : Value} {t : TypeId} {tmps : Array Value} (hb : W.heap[n]? = some (.cells #[a, b, c, d] t (0, 0))) (hb' : ∃ t, W.heap[n']? = some (.cells #[u] t (0, 0))) (ht : tmps[p]?.getD undef = .pointer (some ⟨n, 0, none⟩)) (ht' : tmps[q]?.getD undef = .pointer (some ⟨n', 0, none⟩)) :
    (results fn tmps).run Tryd.prog W = .ok (.tuple #[.agg #[a, b, c, d], u]) W := by
  obtain ⟨⟨c0, c1, c2, c3⟩, _⟩ := box4 hb
  obtain ⟨d0, _⟩ := box1 hb'
  simp [results, h, go_sem, ht, ht', c0, c1, c2, c3, d0]
def zN : Nd := .mk 0 ByteArray.empty 0 []

set_option maxRecDepth 100000 in
set_option maxHeartbeats 4000000 in
theorem at_any (x : Nd) (w : World) (S : Nat → Prop) (v : Value) (i : Int) (hx : LAt w S v x.ks) (zx : x.size ≤ 4194304) (tx : x.tx) :
    Calls Tryd.prog 21 #[x.v v, .int .i64 i] w fun e w' => Below w.heap.size w w' ∧
      ((∃ (y : Nd) (v' : Value), 0 ≤ i ∧ x.flat[i.toNat]? = some y ∧ e = .returned (.tuple #[y.v v', .bool true]) ∧ Sep w' (fun b => w.heap.size ≤ b ∧ b < w'.heap.size) v' y.ks) ∨
       ((i < 0 ∨ (x.size : Int) ≤ i) ∧ e = .returned (.tuple #[zN.v (.slice none 0 0), .bool false]))) := by
  obtain ⟨ax, cx, rfl⟩ := hx.sl
  have hx' : LAt w (fun b => b ≤ w.heap.size) (.slice ax x.ks.length cx) x.ks := hx.mono' (fun b hb _ => Nat.le_of_lt hb)
  unfold Nd.v
  refine (callsIn_wide (n := 10)).1 ?_
  refine callsIn_of_wp_marks Tryd.func21 rfl trivial ?_ rfl
  simp only [Tryd.ntmps21, List.size_toArray, List.length_cons, List.length_nil, Nat.reduceAdd, Nat.reduceSub, Array.replicate_succ, Array.replicate_zero, List.push_toArray, List.append_toArray, List.nil_append, List.cons_append]
  gi_wp2_with (refine ⟨trivial, ?_⟩; gi_at_call 39; refine (callsIn_wide.2 (places_in _ w.heap.size 0)).mono ?_; rintro e w' ⟨rfl, t, rfl⟩)
  obtain ⟨W0, hW0⟩ : ∃ W, (((((w.alloc (Obj.cells #[Value.int IntKind.i64 x.k, Value.string x.t, Value.int IntKind.i64 x.n, Value.slice ax x.ks.length cx] 24)).alloc (Obj.cells #[Value.int IntKind.i64 i] 3)).alloc (Obj.cells #[Value.int IntKind.i64 0, Value.string { data := #[] }, Value.int IntKind.i64 0, Value.slice none 0 0] 24)).alloc (Obj.cells #[Value.bool false] 4)).alloc (Obj.cells #[Value.pointer (some { block := w.heap.size, off := 0 })] t)) = W := ⟨_, rfl⟩
  have hb0 : Below w.heap.size w W0 := by rw [← hW0]; exact ((((bel_a _ _).alloc (by simp) _).alloc (by simp <;> omega) _).alloc (by simp <;> omega) _).alloc (by simp <;> omega) _
  have hs0 : W0.heap.size = w.heap.size + 5 := by rw [← hW0]; simp
  have m0 : W0.heap[w.heap.size]? = some (.cells #[Value.int IntKind.i64 x.k, Value.string x.t, Value.int IntKind.i64 x.n, Value.slice ax x.ks.length cx] 24 (0, 0)) := by rw [← hW0]; exact hold _ (by simp <;> omega) (hold _ (by simp <;> omega) (hold _ (by simp <;> omega) (hold _ (by simp) (hnew _ rfl))))
  have m1 : ∃ t, W0.heap[w.heap.size + 1]? = some (.cells #[Value.int IntKind.i64 i] t (0, 0)) := by rw [← hW0]; exact ⟨_, hold _ (by simp <;> omega) (hold _ (by simp <;> omega) (hold _ (by simp) (hnew _ (by simp))))⟩
  have m2 : W0.heap[w.heap.size + 1 + 1]? = some (.cells #[Value.int IntKind.i64 0, Value.string { data := #[] }, Value.int IntKind.i64 0, Value.slice none 0 0] 24 (0, 0)) := by rw [← hW0]; exact hold _ (by simp <;> omega) (hold _ (by simp) (hnew _ (by simp)))
  have m3 : ∃ t, W0.heap[w.heap.size + 1 + 1 + 1]? = some (.cells #[Value.bool false] t (0, 0)) := by rw [← hW0]; exact ⟨_, hold _ (by simp) (hnew _ (by simp))⟩
  have m4 : W0.cell? ⟨w.heap.size + 1 + 1 + 1 + 1, 0, none⟩ = some (Value.pointer (some { block := w.heap.size, off := 0 })) := by rw [← hW0]; exact (box1 ⟨_, hnew _ (by simp)⟩).1
  have hN : NAt W0 (fun b => b ≤ w.heap.size) w.heap.size 0 x := by
    obtain ⟨⟨c0, c1, c2, c3⟩, _⟩ := box4 m0
    exact ⟨_, Nat.le_refl _, ⟨c0, c1, c2, c3⟩, hx'.bel hb0⟩
  rw [hW0]
  clear hW0
  refine range_law (gf := 59) (lb := #[.pointer (some ⟨w.heap.size + 1 + 1 + 1 + 1, 0, none⟩)]) rfl (enters_of Tryd.func59 (by kernel_rfl) rfl) (PG W0 (fun b => b ≤ w.heap.size) w.heap.size 0 x) (fun b => b ≤ w.heap.size) x.size (by rintro k lo args W ⟨b, o, y, rfl, _⟩; rfl) (fun b hb => by have : b ≤ w.heap.size := hb; omega)
    (places_it hN (fun b hb => by have : b ≤ w.heap.size := hb; omega) m4 zx)
    (fun k W => (i < 0 ∨ ((k : Nat) : Int) ≤ i) ∧ (∃ t, W.heap[w.heap.size + 1]? = some (.cells #[Value.int IntKind.i64 i] t (0, 0))) ∧ W.heap[w.heap.size + 1 + 1]? = some (.cells #[Value.int IntKind.i64 0, Value.string { data := #[] }, Value.int IntKind.i64 0, Value.slice none 0 0] 24 (0, 0)) ∧ (∃ t, W.heap[w.heap.size + 1 + 1 + 1]? = some (.cells #[Value.bool false] t (0, 0))) ∧ Below w.heap.size w W)
    (fun c k W => c = .ret ∧ ((k : Nat) : Int) = i ∧ ∃ (y : Nd) (v' : Value), x.flat[k]? = some y ∧ W.heap[w.heap.size + 1 + 1]? = some (.cells #[.int .i64 y.k, .string y.t, .int .i64 y.n, v'] 24 (0, 0)) ∧ (∃ t, W.heap[w.heap.size + 1 + 1 + 1]? = some (.cells #[Value.bool true] t (0, 0))) ∧ Sep W (fun b => w.heap.size + 5 ≤ b ∧ b < W.heap.size) v' y.ks ∧ Below w.heap.size w W)
    (fun k X Z h hB => ⟨h.1, box1_of h.2.1 (hB.block _ (by omega)), (hB.block _ (by omega)).trans h.2.2.1, box1_of h.2.2.2.1 (hB.block _ (by omega)), h.2.2.2.2.trans (hB.mono (by omega))⟩)
    ?jx ⟨by omega, m1, m2, m3, hb0⟩
    (fun k lo args a' W' => ∃ b o, args = #[.int .i64 (k : Nat), .pointer (some ⟨b, o, none⟩)] ∧ a' = { tmps := #[Value.agg #[Value.int IntKind.i64 x.k, Value.string x.t, Value.int IntKind.i64 x.n, Value.slice ax x.ks.length cx], Value.int IntKind.i64 i, Value.pointer (some { block := w.heap.size, off := 0 }), Value.pointer (some { block := w.heap.size + 1, off := 0 }), Value.pointer (some { block := w.heap.size + 1 + 1, off := 0 }), Value.pointer (some { block := w.heap.size + 1 + 1 + 1, off := 0 }), .int .i64 (k : Nat), .pointer (some ⟨b, o, none⟩), .func (.func 59) #[] #[.pointer (some ⟨w.heap.size + 1 + 1 + 1 + 1, 0, none⟩)], .int .i64 (k : Nat), .pointer (some ⟨b, o, none⟩), undef, undef, undef, undef, undef, undef, undef, undef], defers := [] }) ?assign ?body ?done ?stop
  case jx =>
    rintro c k X l r o ⟨rfl, hki, y, v', hy, c1, c2, sp, hb⟩ hl hr
    have ne : ∀ b, b < w.heap.size + 5 → b ≠ l := fun b hb e => by omega
    refine ⟨rfl, hki, y, v', hy, (World.putObj_heap_other (ne _ (by omega))).trans c1, box1_of c2 (World.putObj_heap_other (ne _ (by omega))), ?_, hb.trans (below_put _ (by omega))⟩
    rw [put_size]
    refine sp.keepC (fun b cur t hb hc => World.putObj_heap_other (fun e => ?_))
    subst e
    rw [hr] at hc
    cases hc
  case assign =>
    rintro l k lo args W K ⟨b, o, y, rfl, _⟩ _ _ hK
    gi_wp2
    exact hK _ _ (Below.refl _ _) ⟨b, o, rfl, rfl⟩
  case body =>
    rintro l k lo args a' W Wa W2 hG ⟨hlt, q1, q2, q3, hbw⟩ hlo hba ⟨b, o, hargs, rfl⟩ hl hllo ho hs _ hb2
    obtain ⟨b', o', y, e, hP, hNy, hag, rfl⟩ := hG
    obtain ⟨rfl, rfl⟩ : b = b' ∧ o = o' := by rw [hargs] at e; simpa using e
    clear e hargs
    have p1 := box1_of q1 (hb2.block _ (by omega))
    have p2 := (hb2.block (w.heap.size + 1 + 1) (by omega)).trans q2
    have p3 := box1_of q3 (hb2.block _ (by omega))
    have hbW2 : Below w.heap.size w W2 := hbw.trans (hb2.mono (by omega))
    have hszW : w.heap.size + 5 ≤ W2.heap.size := by have := hbw.size; have h5 := hb2.size; omega
    obtain ⟨d1, _⟩ := box1 p1
    by_cases hik : ((k : Nat) : Int) = i
    · obtain ⟨vy, hTb, h4, hly⟩ := hNy.keep (w' := W2) (by omega) (fun c hc => (hb2.block c (by have : c ≤ w.heap.size := hc; omega)).trans (hag c hc))
      obtain ⟨u1, u2, u3, u4⟩ := h4
      obtain ⟨ak, ck, rfl⟩ := hly.sl
      have hyf := hP.flat
      have hmem : y ∈ x.flat := List.mem_of_getElem? hyf
      have zy : y.size ≤ 4194304 := Nat.le_trans (flat_sub x y hmem).1 zx
      have ty : y.tx := Nd.tx_sub tx hmem
      have cp := copy_any y W2 _ _ hly zy ty
      have aft : ∀ W3 : World, Below W2.heap.size W2 W3 → W3.heap[w.heap.size + 1 + 1]? = some (.cells #[Value.int IntKind.i64 0, Value.string { data := #[] }, Value.int IntKind.i64 0, Value.slice none 0 0] 24 (0, 0)) ∧ (∃ t, W3.heap[w.heap.size + 1 + 1 + 1]? = some (.cells #[Value.bool false] t (0, 0))) := fun W3 b3 => ⟨(b3.block _ (by omega)).trans p2, box1_of p3 (b3.block _ (by omega))⟩
      subst hik
      gi_wp2_with (refine ⟨trivial, ?_⟩; gi_at_call 15; refine (CallsIn.inRound l (callsIn_wide.2 cp)).mono ?_; rintro e W3 ⟨v3, rfl, sp3, b3⟩; obtain ⟨a3, c3, rfl⟩ := sp3.sl; unfold Nd.v; obtain ⟨r2, r3⟩ := aft W3 b3; obtain ⟨⟨s0, s1, s2, s3⟩, ⟨f0, f1, f2, f3⟩⟩ := box4 r2; obtain ⟨s4, f4⟩ := box1 r3)
      have r2' := (Below.heap_setCell _ ⟨w.heap.size + 1 + 1 + 1, 0, none⟩ (Value.bool true) (w.heap.size + 1 + 1) (by simp)).trans (box4_set (.int .i64 y.k) (.string y.t) (.int .i64 y.n) (.slice a3 y.ks.length c3) r2)
      have r3' := box1_set (Value.bool true) (box1_of r3 (set4_other (bl := w.heap.size + 1 + 1) (o := 0) (b := w.heap.size + 1 + 1 + 1) (.int .i64 y.k) (.string y.t) (.int .i64 y.n) (.slice a3 y.ks.length c3) (by simp)))
      have kp : ∀ c, w.heap.size + 5 ≤ c → (((((W3.setCell ⟨w.heap.size + 1 + 1, 0, none⟩ (.int .i64 y.k)).setCell ⟨w.heap.size + 1 + 1, 0 + 1, none⟩ (.string y.t)).setCell ⟨w.heap.size + 1 + 1, 0 + 2, none⟩ (.int .i64 y.n)).setCell ⟨w.heap.size + 1 + 1, 0 + 3, none⟩ (.slice a3 y.ks.length c3)).setCell ⟨w.heap.size + 1 + 1 + 1, 0, none⟩ (Value.bool true)).heap[c]? = W3.heap[c]? := fun c hc =>
        (Below.heap_setCell _ _ _ _ (by simp <;> omega)).trans (set4_other _ _ _ _ (by omega))
      have hz := b3.size
      have hsa := hba.size
      refine ⟨⟨rfl, rfl, y, _, hyf, r2', r3', (sp3.keep (fun c hc _ => kp c (by have := hc.1; omega))).mono (fun c hc => ⟨by have := hc.1; omega, by have := hc.2; simpa [World.setCell] using this⟩), ?_⟩, by simpa [World.setCell] using hz, fun c hc hB => (kp c (by omega)).trans (b3.block c (by omega))⟩
      exact (((((hbW2.trans (b3.mono hbW2.size)).setCell (by simp <;> omega) _).setCell (by simp <;> omega) _).setCell (by simp <;> omega) _).setCell (by simp <;> omega) _).setCell (by simp <;> omega) _
    · gi_wp2
      exact ⟨⟨by omega, p1, p2, p3, hbW2⟩, Nat.le_refl _, fun _ _ _ => rfl⟩
  case done =>
    rintro D W hD ⟨hlt, q1, q2, q3, hbw⟩ hK
    obtain ⟨⟨s0, s1, s2, s3⟩, ⟨f0, f1, f2, f3⟩⟩ := box4 q2
    obtain ⟨s4, f4⟩ := box1 q3
    gi_wp2
    have ne : ∀ b, b < w.heap.size + 5 → b ≠ D := fun b hb e => by omega
    have q2' := (Below.heap_setCell _ ⟨w.heap.size + 1 + 1 + 1, 0, none⟩ (Value.bool false) (w.heap.size + 1 + 1) (by simp)).trans (box4_set (.int .i64 0) (.string { data := #[] }) (.int .i64 0) (.slice none 0 0) q2)
    have q3' := box1_set (Value.bool false) (box1_of q3 (set4_other (bl := w.heap.size + 1 + 1) (o := 0) (b := w.heap.size + 1 + 1 + 1) (.int .i64 0) (.string { data := #[] }) (.int .i64 0) (.slice none 0 0) (by simp)))
    have hK' := (Below.heap_setCell _ ⟨w.heap.size + 1 + 1 + 1, 0, none⟩ (Value.bool false) D (by simp <;> omega)).trans ((set4_other (bl := w.heap.size + 1 + 1) (o := 0) (b := D) (.int .i64 0) (.string { data := #[] }) (.int .i64 0) (.slice none 0 0) (fun e => ne _ (by omega) e.symm)).trans hK)
    refine ⟨by simp, .inl ⟨_, _, rfl, run_takeDeferred hK', ?_⟩⟩
    refine ⟨_, res_nd2 Tryd.results21 ((World.putObj_heap_other (ne _ (by omega))).trans q2') (box1_of q3' (World.putObj_heap_other (ne _ (by omega)))) rfl rfl, ?_, .inr ⟨hlt, rfl⟩⟩
    exact (((((hbw.setCell (by simp <;> omega) _).setCell (by simp <;> omega) _).setCell (by simp <;> omega) _).setCell (by simp <;> omega) _).setCell (by simp <;> omega) _).trans (below_put _ (by omega))
  case stop =>
    rintro D c k W hD ⟨rfl, hki, y, v', hy, c1, c2, sp, hb⟩ hK
    gi_wp2
    refine ⟨by simp, .inl ⟨_, _, rfl, run_takeDeferred hK, ?_⟩⟩
    have ne : ∀ b, b < w.heap.size + 5 → b ≠ D := fun b hb e => by omega
    refine ⟨_, res_nd2 Tryd.results21 ((World.putObj_heap_other (ne _ (by omega))).trans c1) (box1_of c2 (World.putObj_heap_other (ne _ (by omega)))) rfl rfl, hb.trans (below_put _ (by omega)), .inl ⟨y, v', by omega, by rw [← hki]; exact hy, rfl, ?_⟩⟩
    rw [put_size]
    refine (sp.keepC (fun b cur t hb hc => World.putObj_heap_other (fun e => ?_))).mono (fun b hb => ⟨by have := hb.1; omega, hb.2⟩)
    subst e
    rw [hK] at hc
    cases hc
end Go.Proofs.YtggahoefbcnaiaaDoor
