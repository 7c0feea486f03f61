/- Own text. Package value's heap: how often each text stands (mathematics); Push. -/
import Derived.Test.YtlijplbaefaeaaaDoorPvH
namespace Go.Proofs.YtlijplbaefaeaaaDoor
open Go.RowKit Go.Maps
set_option linter.unusedVariables false
set_option linter.unusedSimpArgs false

def wdsT (t : Th) : List Wd := (if t.ob then t.nm.map bl else []) ++ t.ls.map (fun x => bl x.tx)
def wds (H : Hp) : List Wd := H.flatMap wdsT
/-- the texts are just those of the things. -/
def TOk (H : Hp) (T : List Wd) : Prop := ∀ k, T.count k = if k = [] then 0 else (wds H).count k
theorem count_kp (s : ByteArray) (T : List Wd) (k : Wd) : (kpL s T).count k = T.count k + if k = [] then 0 else if bl s = k then 1 else 0 := by
  unfold kpL
  by_cases h : bl s = []
  · rw [if_pos h]
    by_cases q : k = []
    · simp [q]
    · rw [if_neg q, if_neg (fun e => q (by rw [← e, h]))]
      rfl
  · rw [if_neg h, List.count_cons]
    by_cases q : k = []
    · subst q
      simp [h]
    · simp [q]
theorem count_dr (s : ByteArray) (T : List Wd) (k : Wd) : (T.erase (bl s)).count k = T.count k - if bl s = k then 1 else 0 := by
  rw [List.count_erase]
  by_cases q : bl s = k
  · simp [q]
  · rw [if_neg q, if_neg (by simpa using q)]
theorem wds_set : ∀ (H : Hp) (m : Nat) (t : Th) (hm : m < H.length) (k : Wd), (wds (H.set m t)).count k + (wdsT H[m]).count k = (wds H).count k + (wdsT t).count k
  | u :: H, 0, t, hm, k => by
    simp [wds]
    omega
  | u :: H, m + 1, t, hm, k => by
    have := wds_set H m t (by simpa using hm) k
    simp [wds] at this ⊢
    omega
theorem wds_app (H : Hp) (t : Th) (k : Wd) : (wds (H ++ [t])).count k = (wds H).count k + (wdsT t).count k := by simp [wds]
theorem wds_len : ∀ (H : Hp) (B : Nat), (∀ t ∈ H, t.ls.length ≤ B ∧ t.nm.length ≤ B) → (wds H).length ≤ H.length * (2 * B)
  | [], B, _ => by simp [wds]
  | u :: H, B, h => by
    have := wds_len H B (fun t ht => h t (by simp [ht]))
    have hu := h u (by simp)
    have : (wdsT u).length ≤ 2 * B := by
      unfold wdsT
      split <;> simp <;> omega
    simp only [wds, List.flatMap_cons, List.length_append, List.length_cons] at *
    rw [Nat.add_mul]
    omega
theorem TOk.len {H : Hp} {T : List Wd} (h : TOk H T) : T.length ≤ (wds H).length := by
  have : T.Perm ((wds H).filter fun k => decide (k ≠ [])) := by
    rw [List.perm_iff_count]
    intro k
    rw [h k]
    by_cases q : k = []
    · subst q
      rw [if_pos rfl, eq_comm, List.count_eq_zero]
      simp
    · rw [if_neg q, List.count_filter (by simpa using q)]
  rw [this.length_eq]
  exact List.length_filter_le _ _
theorem TOk.small {H : Hp} {T : List Wd} (h : TOk H T) (s : smH H) : T.length ≤ 8796093022208 := by
  have := h.len
  have h2 := wds_len H 2097152 s.2
  have h3 := Nat.mul_le_mul_right (2 * 2097152) s.1
  omega
theorem TOk.set {H : Hp} {T T' : List Wd} (h : TOk H T) {m : Nat} (hm : m < H.length) (t : Th) (e : ∀ k, k ≠ [] → T'.count k + (wdsT H[m]).count k = T.count k + (wdsT t).count k) (e0 : T'.count [] = T.count []) : TOk (H.set m t) T' := by
  intro k
  by_cases q : k = []
  · subst q
    rw [if_pos rfl, e0, h, if_pos rfl]
  · rw [if_neg q]
    have a := e k q
    have b := wds_set H m t hm k
    have c := h k
    rw [if_neg q] at c
    omega
theorem TOk.psh {H : Hp} {T : List Wd} (h : TOk H T) {m : Nat} (hm : m < H.length) (y : Vl) : TOk (H.set m ⟨H[m].ob, H[m].nm, H[m].ls ++ [y]⟩) (kpL y.tx T) := by
  refine h.set hm _ (fun k q => ?_) ?_
  · rw [count_kp, if_neg q]
    have : (wdsT ⟨H[m].ob, H[m].nm, H[m].ls ++ [y]⟩).count k = (wdsT H[m]).count k + if bl y.tx = k then 1 else 0 := by
      unfold wdsT
      simp only [List.map_append, List.map_cons, List.map_nil, List.count_append, List.count_cons, List.count_nil]
      by_cases e : bl y.tx = k <;> simp [e] <;> omega
    omega
  · rw [count_kp, if_pos rfl]
    rfl
/-- the heap at hb holds H, in the blocks S. -/
def vAt (W : World) (hb : Nat) (H : Hp) (S : Nat → Prop) : Prop := ∃ T pv V, HvS hb H.length H T pv V S W ∧ TOk H T
theorem Stp.box2 {S S' : Nat → Prop} {W X W' : World} {q : Nat} {o : Obj} (b : Below W.heap.size W X) (hS : ∀ b, S b → b < W.heap.size) (h : Stp S X S' W') (m : X.heap[q]? = some o) (hq : W.heap.size ≤ q) : W'.heap[q]? = some o ∧ ¬ S' q := h.box m (fun w => by have := hS q w; omega)
set_option maxRecDepth 100000 in
set_option maxHeartbeats 4000000 in
theorem hpsh_any {hb : Nat} {H : Hp} {S : Nat → Prop} {W : World} (h : vAt W hb H S) (hs : smH H) (x y : Vl) (hy : y.tx.size ≤ 140737488355328) :
    Calls Tryd.prog 21 #[.pointer (some ⟨hb, 0, none⟩), x.v, y.v] W (Chg vAt hb S W (.bool (isH H x false)) (pshH H x y)) := by
  obtain ⟨T, pv, V, h, hT⟩ := h
  have sT := hT.small hs
  obtain ⟨W0, hW0⟩ : ∃ X, (W.alloc (.cells #[.int .i64 x.kd, .int .i64 x.n, .string x.tx] 23)).alloc (.cells #[.int .i64 y.kd, .int .i64 y.n, .string y.tx] 23) = X := ⟨_, rfl⟩
  have b0 : Below W.heap.size W W0 := by rw [← hW0]; exact belAA _ _ _
  have m0 : W0.heap[W.heap.size]? = some (.cells #[.int .i64 x.kd, .int .i64 x.n, .string x.tx] 23 (0, 0)) := by rw [← hW0]; exact hol _ (hnw _ rfl)
  have r0 : W0.heap[W.heap.size + 1]? = some (.cells #[.int .i64 y.kd, .int .i64 y.n, .string y.tx] 23 (0, 0)) := by rw [← hW0]; exact hnw _ (by simp)
  obtain ⟨⟨c0, c1, c2⟩, _⟩ := free3 m0
  have h0 := h.bel b0
  have HC := hlist_any h0 x (by have := hs.1; omega) rfl
  have B0 : Hid (Below W.heap.size W W0) := b0
  have H0 : Hid (HvS hb H.length H T pv V S W0) := h0
  have R0 : Hid (W0.heap[W.heap.size + 1]? = some (.cells #[.int .i64 y.kd, .int .i64 y.n, .string y.tx] 23 (0, 0))) := r0
  have HT : Hid (TOk H T) := hT
  clear b0 m0 h h0 r0 hT
  unfold Vl.v at HC ⊢
  go_enter Tryd.func21, Tryd.ntmps21
  go_wp2_with fail
  go_at_call 43
  refine HC.mono ?_
  rintro e W1 ⟨b1, q⟩
  have B1 : Hid (Below W.heap.size W W1) := B0.out.trans (b1.mono B0.out.size)
  have H1 : Hid (HvS hb H.length H T pv V S W1) := H0.out.bel b1
  have r1 := (b1.block _ (glt R0.out)).trans R0.out
  clear HC hW0 b1 c0 c1 c2
  obtain ⟨⟨d0, d1, d2⟩, _⟩ := free3 r1
  clear r1
  rcases q with ⟨hi, rfl⟩ | ⟨m, h1, h2, hm, ho, hi, rfl⟩
  · have HR : Hid (isH H x false = false ∧ pshH H x y = H) := ⟨hi, pshH_no hi⟩
    clear hi
    go_wp2
    go_ret
    exact ⟨by rw [HR.out.1]; rfl, S, by rw [HR.out.2]; exact ⟨T, pv, V, H1.out, HT.out⟩, Kv.of B1.out, fun b q => .inl q⟩
  · have HR : Hid (isH H x false = true ∧ pshH H x y = H.set m ⟨H[m].ob, H[m].nm, H[m].ls ++ [y]⟩) := ⟨hi, pshH_at hi hm h1⟩
    have HC2 := push_any H1.out h1 h2 ho y hy (by omega) (by have := (hs.2 _ (List.getElem_mem h1)).1; omega)
    unfold Vl.v at HC2
    clear hi hm ho
    simp only [Bool.false_eq_true, if_false]
    go_wp2_with fail
    go_at_call 40
    refine HC2.mono ?_
    rintro e W2 ⟨rfl, v', S2, h2', s2⟩
    have H2 : Hid (HvS hb H.length (H.set m ⟨H[m].ob, H[m].nm, H[m].ls ++ [y]⟩) (kpL y.tx T) pv (V.set m (V[m].1, v')) S2 W2) := h2'
    have ST : Hid (Stp S W S2 W2) := (Stp.bel B1.out).trans s2
    clear h2' s2 HC2 d0 d1 d2
    go_wp2
    go_ret
    exact ⟨by rw [HR.out.1]; rfl, S2, by rw [HR.out.2]; exact ⟨_, pv, _, by simpa using H2.out, HT.out.psh h1 y⟩, ST.out.k, ST.out.s⟩
end Go.Proofs.YtlijplbaefaeaaaDoor
