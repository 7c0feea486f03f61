/- Own text. Package value's heap: an object's names (memory, mathematics). -/
import Derived.Test.YtlijplbaefaeaaaDoorPvJ
namespace Go.Proofs.YtlijplbaefaeaaaDoor
open Go.RowKit Go.Maps
set_option linter.unusedVariables false
set_option linter.unusedSimpArgs false

theorem eqB_iff {a b : ByteArray} : eqB a b = true ↔ a = b := by
  unfold eqB
  rw [tl, tl, beq_iff_eq]
  exact ⟨bl_inj, fun e => by rw [e]⟩
theorem posN_mem {l : List ByteArray} {s : ByteArray} : posN l s < l.length ↔ s ∈ l := by
  unfold posN
  rw [List.findIdx_lt_length]
  constructor
  · rintro ⟨x, hx, e⟩
    rw [← eqB_iff.1 e]; exact hx
  · exact fun h => ⟨s, h, eqB_iff.2 rfl⟩
theorem posN_le (l : List ByteArray) (s : ByteArray) : posN l s ≤ l.length := List.findIdx_le_length
theorem posN_app (l : List ByteArray) (s u : ByteArray) : posN (l ++ [u]) s = if posN l s < l.length then posN l s else posN [u] s + l.length := by unfold posN; rw [List.findIdx_append]
theorem posN_one0 (u : ByteArray) : posN [u] u = 0 := by simp [posN, List.findIdx_cons, eqB_iff.2 rfl]
theorem posN_one1 {u s : ByteArray} (e : ¬ u = s) : posN [u] s = 1 := by
  have hb : eqB u s = false := by cases q : eqB u s; rfl; exact absurd (eqB_iff.1 q) e
  simp [posN, List.findIdx_cons, hb]
theorem setT_in {t : Th} {s : ByteArray} {y : Vl} (h : s ∈ t.nm) : setT t s y = ⟨t.ob, t.nm, t.ls.set (posN t.nm s) y⟩ := by unfold setT; rw [if_pos (posN_mem.2 h)]
theorem setT_out {t : Th} {s : ByteArray} {y : Vl} (h : s ∉ t.nm) : setT t s y = ⟨t.ob, t.nm ++ [s], t.ls ++ [y]⟩ := by unfold setT; rw [if_neg (fun q => h (posN_mem.1 q))]
theorem objF_set {t : Th} (ok : t.nm.length = t.ls.length) (s : ByteArray) (y : Vl) (k : Wd) : objF (setT t s y) k = updF (objF t) (bl s) (vD y) k := by
  have e := objF_at (setT t s y) (bt k)
  have e' := objF_at t (bt k)
  rw [bl_bt] at e e'
  rw [e]
  unfold updF
  rw [e']
  by_cases h : s ∈ t.nm
  · rw [setT_in h]
    have hp := posN_mem.2 h
    by_cases q : k = bl s
    · subst q
      rw [if_pos rfl, bt_bl]
      simp only
      rw [List.getElem?_set_self (by omega)]
      rfl
    · rw [if_neg q]
      simp only
      rw [List.getElem?_set_ne]
      intro w
      have h1 : posN t.nm (bt k) < t.nm.length := by omega
      have a : ∀ u, posN t.nm u < t.nm.length → t.nm[posN t.nm u]? = some u := fun u hu => by
        rw [List.getElem?_eq_getElem hu]
        have := List.findIdx_getElem (p := (eqB · u)) (w := hu)
        exact congrArg some (eqB_iff.1 this)
      have b1 := a _ h1
      rw [← w, a _ hp] at b1
      injection b1 with b1
      exact q (by rw [b1, bl_bt])
  · rw [setT_out h]
    simp only
    rw [posN_app]
    by_cases q : k = bl s
    · subst q
      rw [if_pos rfl, bt_bl, if_neg (fun z => h (posN_mem.1 z)), posN_one0, Nat.zero_add, ok, List.getElem?_append_right (Nat.le_refl _)]
      simp
    · have ne : ¬ s = bt k := fun w => q (by rw [w, bl_bt])
      rw [if_neg q, posN_one1 ne]
      by_cases h1 : bt k ∈ t.nm
      · rw [if_pos (posN_mem.2 h1), List.getElem?_append_left (by have := posN_mem.2 h1; omega)]
      · rw [if_neg (fun z => h1 (posN_mem.1 z)), List.getElem?_eq_none (by simp; omega), List.getElem?_eq_none (by have := posN_le t.nm (bt k); have : ¬ posN t.nm (bt k) < t.nm.length := fun z => h1 (posN_mem.1 z); omega)]
theorem objF_keys {t : Th} (ok : t.nm.length = t.ls.length) (k : Wd) (h : (objF t k).isSome = true) : k ∈ t.nm.map bl := by
  have e' := objF_at t (bt k)
  rw [bl_bt] at e'
  rw [e'] at h
  have : posN t.nm (bt k) < t.nm.length := by
    rcases Nat.lt_or_ge (posN t.nm (bt k)) t.nm.length with q | q
    · exact q
    · rw [List.getElem?_eq_none (by omega)] at h; cases h
  exact List.mem_map.2 ⟨_, posN_mem.1 this, bl_bt k⟩
theorem setT_ok {t : Th} (ok : t.nm.length = t.ls.length) (s : ByteArray) (y : Vl) : (setT t s y).nm.length = (setT t s y).ls.length := by
  by_cases h : s ∈ t.nm
  · rw [setT_in h]; simpa using ok
  · rw [setT_out h]; simpa using ok
theorem setT_sz {t : Th} (sz : ∀ x ∈ t.ls, x.tx.size ≤ 140737488355328) (s : ByteArray) {y : Vl} (hy : y.tx.size ≤ 140737488355328) : ∀ x ∈ (setT t s y).ls, x.tx.size ≤ 140737488355328 := by
  intro x hx
  by_cases h : s ∈ t.nm
  · rw [setT_in h] at hx
    rcases List.mem_or_eq_of_mem_set hx with hx | rfl
    · exact sz x hx
    · exact hy
  · rw [setT_out h] at hx
    rcases List.mem_append.1 hx with hx | hx
    · exact sz x hx
    · rw [List.mem_singleton.1 hx]; exact hy
theorem HvT.setM {hb n : Nat} {H : Hp} {T : List Wd} {pv : Value} {V : List Pb} {tv : Value} {S : Nat → Prop} {W W' : World} (h : HvT hb n H T pv V tv S W) {m : Nat} (h1 : m < H.length) (h2 : m < V.length) (ho : H[m].ob = true) (s : ByteArray) (y : Vl) (hy : y.tx.size ≤ 140737488355328)
    (t : W.mapTurned W' V[m].1) (r : MpF W' valR V[m].1 (updF (objF H[m]) (bl s) (vD y))) : HvT hb n (H.set m (setT H[m] s y)) T pv V tv S W' ∧ Stp S W S W' := by
  have n1 := h.n1 h2
  obtain ⟨C, h, hS⟩ := h
  have th := h.th m h1 h2
  unfold ThA at th
  rw [if_pos ho] at th
  have ok := h.ok _ (List.getElem_mem h1) ho
  have q := h.upd (W' := W') h1 h2 (setT H[m] s y) V[m] (setT_ob _ _ _) rfl (fun b q ne _ => turn_at t (h.lt b q) ne) (by
    unfold ThA
    rw [if_pos (by rw [setT_ob]; exact ho)]
    exact ⟨r.as fun k => (objF_set ok s y k).symm, th.2⟩) (fun b e => .inl e) (fun _ => setT_ok ok s y) (setT_sz (h.sz _ (List.getElem_mem h1)) s hy)
  rw [set_self] at q
  exact ⟨⟨C, q, hS⟩, kv_turn kv_refl (fun _ => n1) t, fun b q => .inl q⟩
theorem wds_ob {t : Th} (ho : t.ob = true) : wdsT t = t.nm.map bl ++ t.ls.map (fun x => bl x.tx) := by unfold wdsT; rw [if_pos ho]
theorem wds_mk {n : List ByteArray} {l : List Vl} : wdsT ⟨true, n, l⟩ = n.map bl ++ l.map (fun x => bl x.tx) := rfl
theorem TOk.setN {H : Hp} {T : List Wd} (h : TOk H T) {m : Nat} (hm : m < H.length) (ho : H[m].ob = true) {s : ByteArray} (hs : s ∉ H[m].nm) (y : Vl) : TOk (H.set m (setT H[m] s y)) (kpL y.tx (kpL s T)) := by
  refine h.set hm _ (fun k q => ?_) ?_
  · rw [count_kp, count_kp, if_neg q, if_neg q, setT_out hs, ho, wds_mk, wds_ob ho]
    simp only [List.map_append, List.map_cons, List.map_nil, List.count_append, List.count_cons, List.count_nil, beq_iff_eq]
    omega
  · rw [count_kp, count_kp]
    simp
theorem TOk.setO {H : Hp} {T : List Wd} (h : TOk H T) {m : Nat} (hm : m < H.length) (ho : H[m].ob = true) {s : ByteArray} (hs : s ∈ H[m].nm) (ok : H[m].nm.length = H[m].ls.length) (y : Vl) {z : Vl} (hz : H[m].ls[posN H[m].nm s]? = some z) : TOk (H.set m (setT H[m] s y)) (((kpL y.tx (kpL s T)).erase (bl s)).erase (bl z.tx)) := by
  have hj : posN H[m].nm s < H[m].ls.length := by have := posN_mem.2 hs; omega
  have hc : ∀ k, (wdsT (setT H[m] s y)).count k + (if bl z.tx = k then 1 else 0) = (wdsT H[m]).count k + if bl y.tx = k then 1 else 0 := fun k => by
    rw [setT_in hs, ho, wds_mk, wds_ob ho]
    rw [List.getElem?_eq_getElem hj] at hz
    injection hz with hz
    subst hz
    simp only [List.map_set, List.count_append]
    rw [List.count_set (by simpa using hj)]
    have hp : (bl H[m].ls[posN H[m].nm s].tx = k) → 0 < (H[m].ls.map fun x => bl x.tx).count k := fun e => List.count_pos_iff.2 (List.mem_map.2 ⟨_, List.getElem_mem hj, e⟩)
    simp only [List.getElem_map, beq_iff_eq]
    by_cases e1 : bl H[m].ls[posN H[m].nm s].tx = k
    · have := hp e1
      simp only [e1, if_true]
      omega
    · simp only [e1, if_false]
      omega
  have hin : ∀ k, k ≠ [] → bl z.tx = k → 0 < T.count k := fun k q e => by
    rw [h k, if_neg q]
    refine List.count_pos_iff.2 (List.mem_flatMap.2 ⟨_, List.getElem_mem hm, ?_⟩)
    rw [wds_ob ho]
    exact List.mem_append_right _ (List.mem_map.2 ⟨z, List.mem_of_getElem? hz, e⟩)
  refine h.set hm _ (fun k q => ?_) ?_
  · rw [count_dr, count_dr, count_kp, count_kp, if_neg q, if_neg q]
    have a := hc k
    have b := hin k q
    by_cases e1 : bl z.tx = k
    · have := b e1
      simp only [e1, if_true] at a ⊢
      omega
    · simp only [e1, if_false] at a ⊢
      omega
  · rw [count_dr, count_dr, count_kp, count_kp, if_pos rfl, if_pos rfl]
    have := h []
    rw [if_pos rfl] at this
    omega
theorem look_in {t : Th} (ok : t.nm.length = t.ls.length) {s : ByteArray} (h : s ∈ t.nm) : ∃ z, t.ls[posN t.nm s]? = some z := by
  have := posN_mem.2 h
  exact ⟨_, List.getElem?_eq_getElem (by omega)⟩
theorem look_out {t : Th} (ok : t.nm.length = t.ls.length) {s : ByteArray} (h : s ∉ t.nm) : t.ls[posN t.nm s]? = none := by
  have : ¬ posN t.nm s < t.nm.length := fun z => h (posN_mem.1 z)
  exact List.getElem?_eq_none (by omega)
end Go.Proofs.YtlijplbaefaeaaaDoor
