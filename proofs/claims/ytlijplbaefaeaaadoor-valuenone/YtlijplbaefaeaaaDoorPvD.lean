/- Own text. Package value's heap in memory. -/
import Derived.Test.YtlijplbaefaeaaaDoorPvC
import Derived.Test.YtlijplbaefaeaaaDoorVb4
namespace Go.Proofs.YtlijplbaefaeaaaDoor
open Go.RowKit Go.Maps
set_option linter.unusedVariables false
set_option linter.unusedSimpArgs false

abbrev Pb := Nat × Value
def faV (t : Th) (p : Pb) : Value := if t.ob then .iface 65 (.map (some p.1)) else .iface 59 (.pointer (some ⟨p.1, 0, none⟩))
def faL (H : Hp) (V : List Pb) : List Value := List.zipWith faV H V
def objF (t : Th) : Wd → Option DU := fun k => (getT t (bt k)).map vD
def ThA (W : World) (t : Th) (p : Pb) : Prop := if t.ob then MpF W valR p.1 (objF t) ∧ p.2 = .slice none 0 0 else W.heap[p.1]? = some (.cells #[p.2] 61 (0, 0)) ∧ W.ownsRow 0 23 3 p.2 t.ls.length (t.ls.flatMap Vl.cs)
def TxV (W : World) (tv : Value) (T : List Wd) (C : Wd → Nat) : Prop := (tv = .map none ∧ T = []) ∨ ∃ mb, tv = .map (some mb) ∧ TxA W mb T C
/-- the blocks of a heap. -/
def Hb (hb : Nat) (pv : Value) (V : List Pb) (tv : Value) (T : List Wd) (C : Wd → Nat) (b : Nat) : Prop := b = hb ∨ pv.ownBlock = some b ∨ (∃ p ∈ V, p.1 = b ∨ p.2.ownBlock = some b) ∨ ∃ mb, tv = .map (some mb) ∧ TxB mb T C b
structure HvB (hb n : Nat) (H : Hp) (T : List Wd) (pv : Value) (V : List Pb) (tv : Value) (C : Wd → Nat) (W : World) : Prop where
  h : W.heap[hb]? = some (.cells #[pv, tv] 55 (0, 0))
  len : V.length = H.length
  nl : n ≤ H.length
  p : W.ownsRow 0 20 1 pv n ((faL H V).take n)
  th : ∀ i (h1 : i < H.length) (h2 : i < V.length), ThA W H[i] V[i]
  ap : ∀ i j (hi : i < V.length) (hj : j < V.length), i ≠ j → V[i].1 ≠ V[j].1
  al : ∀ i j (hi : i < V.length) (hj : j < V.length), i ≠ j → ∀ b, V[i].2.ownBlock = some b → V[j].2.ownBlock ≠ some b
  tx : TxV W tv T C
  ax : ∀ mb, tv = .map (some mb) → ∀ i (hi : i < V.length), V[i].1 ≠ mb
  ok : ∀ t ∈ H, t.ob = true → t.nm.length = t.ls.length
  sz : ∀ t ∈ H, ∀ x ∈ t.ls, x.tx.size ≤ 140737488355328
/-- of which type a block is (a map: none). -/
def tgO : Obj → Option TypeId
  | .cells _ e _ => some e
  | _ => none
def Tg (W : World) (b : Nat) (o : Option TypeId) : Prop := ∃ x, W.heap[b]? = some x ∧ tgO x = o
theorem Tg.ne {W : World} {b b' : Nat} {o o' : Option TypeId} (h : Tg W b o) (h' : Tg W b' o') (ne : o ≠ o') : b ≠ b' := by
  rintro rfl
  obtain ⟨x, hx, e⟩ := h
  obtain ⟨y, hy, e'⟩ := h'
  rw [hx] at hy
  injection hy with hy
  subst hy
  exact ne (e.symm.trans e')
theorem Tg.lt {W : World} {b : Nat} {o : Option TypeId} (h : Tg W b o) : b < W.heap.size := let ⟨_, h, _⟩ := h; glt h
theorem MpF.tg {W : World} {R : RdE} {b : Nat} {f : Wd → Option DU} (h : MpF W R b f) : Tg W b none := by
  obtain ⟨es, c, q⟩ := h.map
  exact ⟨_, q, rfl⟩
theorem row_tg {W : World} {B : Nat} {e : TypeId} {s : Nat} {v : Value} {n : Nat} {xs : List Value} (h : W.ownsRow B e s v n xs) {b : Nat} (hb : v.ownBlock = some b) : Tg W b (some e) := by
  rcases h.2 with ⟨rfl, _⟩ | ⟨g, cap, cur, rfl, _, hg, _⟩
  · cases hb
  · cases hb
    exact ⟨_, hg, rfl⟩
theorem ThA.t1 {W : World} {t : Th} {p : Pb} (h : ThA W t p) : Tg W p.1 (if t.ob then none else some 61) := by
  unfold ThA at h
  split at h
  · rename_i q
    rw [if_pos q]
    exact h.1.tg
  · rename_i q
    rw [if_neg q]
    exact ⟨_, h.1, rfl⟩
theorem ThA.t2 {W : World} {t : Th} {p : Pb} (h : ThA W t p) {b : Nat} (hb : p.2.ownBlock = some b) : Tg W b (some 23) := by
  unfold ThA at h
  split at h
  · rw [h.2] at hb
    cases hb
  · exact row_tg h.2 hb
theorem ThA.keep {W W' : World} {t : Th} {p : Pb} (h : ThA W t p) (e1 : W'.heap[p.1]? = W.heap[p.1]?) (e2 : ∀ b, p.2.ownBlock = some b → W'.heap[b]? = W.heap[b]?) : ThA W' t p := by
  unfold ThA at h ⊢
  split
  · rename_i q
    rw [if_pos q] at h
    exact ⟨h.1.keep e1, h.2⟩
  · rename_i q
    rw [if_neg q] at h
    exact ⟨e1.trans h.1, row_same h.2 e2⟩
theorem t1_ne {W : World} {t : Th} {p : Pb} (h : ThA W t p) {b : Nat} {e : TypeId} (hb : Tg W b (some e)) (ne : e ≠ 61) : p.1 ≠ b := by
  refine Tg.ne h.t1 hb ?_
  split
  · simp
  · intro q
    injection q with q
    exact ne q.symm
theorem TxV.tg {W : World} {tv : Value} {T : List Wd} {C : Wd → Nat} (h : TxV W tv T C) {mb : Nat} (e : tv = .map (some mb)) {b : Nat} (hb : TxB mb T C b) : (b = mb ∧ Tg W b none) ∨ Tg W b (some 82) := by
  rcases h with ⟨rfl, _⟩ | ⟨mb', rfl, h⟩
  · cases e
  · cases e
    rcases hb with rfl | ⟨k, hk, rfl⟩
    · exact .inl ⟨rfl, h.m.tg⟩
    · exact .inr ⟨_, h.c k hk, rfl⟩
theorem TxV.keep {W W' : World} {tv : Value} {T : List Wd} {C : Wd → Nat} (h : TxV W tv T C) (e : ∀ mb, tv = .map (some mb) → ∀ b, TxB mb T C b → W'.heap[b]? = W.heap[b]?) : TxV W' tv T C := by
  rcases h with h | ⟨mb, rfl, h⟩
  · exact .inl h
  · exact .inr ⟨mb, rfl, h.keep (e mb rfl mb (.inl rfl)) fun k hk => e mb rfl _ (.inr ⟨k, hk, rfl⟩)⟩
section
variable {hb n : Nat} {H : Hp} {T : List Wd} {pv : Value} {V : List Pb} {tv : Value} {C : Wd → Nat} {W W' : World}
theorem Hb.hd : Hb hb pv V tv T C hb := .inl rfl
theorem Hb.pl {b : Nat} (h : pv.ownBlock = some b) : Hb hb pv V tv T C b := .inr (.inl h)
theorem Hb.v1 {i : Nat} (hi : i < V.length) : Hb hb pv V tv T C V[i].1 := .inr (.inr (.inl ⟨_, List.getElem_mem hi, .inl rfl⟩))
theorem Hb.v2 {i : Nat} (hi : i < V.length) {b : Nat} (e : V[i].2.ownBlock = some b) : Hb hb pv V tv T C b := .inr (.inr (.inl ⟨_, List.getElem_mem hi, .inr e⟩))
theorem Hb.tx {mb : Nat} (e : tv = .map (some mb)) {b : Nat} (hb' : TxB mb T C b) : Hb hb pv V tv T C b := .inr (.inr (.inr ⟨mb, e, hb'⟩))
theorem HvB.keep (h : HvB hb n H T pv V tv C W) (k : ∀ b, Hb hb pv V tv T C b → W'.heap[b]? = W.heap[b]?) : HvB hb n H T pv V tv C W' :=
  ⟨(k hb .hd).trans h.h, h.len, h.nl, row_same h.p (fun g e => k g (.pl e)), fun i h1 h2 => (h.th i h1 h2).keep (k _ (.v1 h2)) (fun b e => k b (.v2 h2 e)), h.ap, h.al, h.tx.keep (fun mb e b hb' => k b (.tx e hb')), h.ax, h.ok, h.sz⟩
theorem HvB.lt (h : HvB hb n H T pv V tv C W) : ∀ b, Hb hb pv V tv T C b → b < W.heap.size := by
  rintro b (rfl | e | ⟨p, hp, e⟩ | ⟨mb, e, hb'⟩)
  · exact glt h.h
  · exact (row_tg h.p e).lt
  · obtain ⟨i, hi, rfl⟩ := List.mem_iff_getElem.1 hp
    have ht := h.th i (by have := h.len; omega) hi
    rcases e with rfl | e
    · exact ht.t1.lt
    · exact (ht.t2 e).lt
  · rcases h.tx.tg e hb' with ⟨_, q⟩ | q
    · exact q.lt
    · exact q.lt
theorem HvB.hT (h : HvB hb n H T pv V tv C W) : Tg W hb (some 55) := ⟨_, h.h, rfl⟩
theorem HvB.vT (h : HvB hb n H T pv V tv C W) {i : Nat} (hi : i < V.length) : ∃ h1 : i < H.length, ThA W H[i] V[i] := ⟨by have := h.len; omega, h.th i _ hi⟩
/-- the texts changed. -/
theorem HvB.txs (h : HvB hb n H T pv V tv C W) {tv' : Value} {T' : List Wd} {C' : Wd → Nat} (c : W'.heap[hb]? = some (.cells #[pv, tv'] 55 (0, 0))) (t : TxV W' tv' T' C')
    (k : ∀ b, Hb hb pv V tv T C b → b ≠ hb → (∀ mb, tv = .map (some mb) → ¬ TxB mb T C b) → W'.heap[b]? = W.heap[b]?) (a : ∀ mb, tv' = .map (some mb) → tv = .map (some mb) ∨ W.heap.size ≤ mb) : HvB hb n H T' pv V tv' C' W' := by
  have kp : ∀ b, pv.ownBlock = some b → W'.heap[b]? = W.heap[b]? := fun b e => k b (.pl e) ((row_tg h.p e).ne h.hT (by decide)) fun mb e' q => by
    rcases h.tx.tg e' q with ⟨_, q⟩ | q
    · exact (row_tg h.p e).ne q (by simp) rfl
    · exact (row_tg h.p e).ne q (by decide) rfl
  have k1 : ∀ i (hi : i < V.length), W'.heap[V[i].1]? = W.heap[V[i].1]? := fun i hi => by
    obtain ⟨h1, ht⟩ := h.vT hi
    refine k _ (.v1 hi) (t1_ne ht h.hT (by decide)) fun mb e' q => ?_
    rcases h.tx.tg e' q with ⟨q, _⟩ | q
    · exact h.ax mb e' i hi q
    · exact t1_ne ht q (by decide) rfl
  have k2 : ∀ i (hi : i < V.length) b, V[i].2.ownBlock = some b → W'.heap[b]? = W.heap[b]? := fun i hi b e => by
    obtain ⟨h1, ht⟩ := h.vT hi
    refine k _ (.v2 hi e) ((ht.t2 e).ne h.hT (by decide)) fun mb e' q => ?_
    rcases h.tx.tg e' q with ⟨_, q⟩ | q
    · exact (ht.t2 e).ne q (by simp) rfl
    · exact (ht.t2 e).ne q (by decide) rfl
  exact ⟨c, h.len, h.nl, row_same h.p kp, fun i h1 h2 => (h.th i h1 h2).keep (k1 i h2) (k2 i h2), h.ap, h.al, t, fun mb e i hi q => by
    rcases a mb e with e | e
    · exact h.ax mb e i hi q
    · have := (h.vT hi).2.t1.lt
      omega, h.ok, h.sz⟩
theorem faL_set (m : Nat) (t : Th) (p : Pb) : ∀ (H : Hp) (V : List Pb) (m : Nat) (hm : m < H.length) (h2 : m < V.length), t.ob = H[m].ob → p.1 = V[m].1 → faL (H.set m t) (V.set m p) = faL H V
  | u :: H, q :: V, 0, _, _, e1, e2 => by
    simp only [List.getElem_cons_zero] at e1 e2
    simp [faL, faV, e1, e2]
  | u :: H, q :: V, m + 1, hm, h2, e1, e2 => by
    have := faL_set m t p H V m (by simpa using hm) (by simpa using h2) (by simpa using e1) (by simpa using e2)
    simp only [faL, List.set_cons_succ, List.zipWith_cons_cons] at this ⊢
    rw [this]
/-- one thing changed. -/
theorem HvB.upd (h : HvB hb n H T pv V tv C W) {m : Nat} (hm : m < H.length) (h2 : m < V.length) (t : Th) (p : Pb) (e0 : t.ob = H[m].ob) (e1 : p.1 = V[m].1)
    (k : ∀ b, Hb hb pv V tv T C b → b ≠ V[m].1 → V[m].2.ownBlock ≠ some b → W'.heap[b]? = W.heap[b]?) (ht : ThA W' t p) (f : ∀ b, p.2.ownBlock = some b → V[m].2.ownBlock = some b ∨ W.heap.size ≤ b) (ok : t.ob = true → t.nm.length = t.ls.length) (sz : ∀ x ∈ t.ls, x.tx.size ≤ 140737488355328) :
    HvB hb n (H.set m t) T pv (V.set m p) tv C W' := by
  obtain ⟨_, hm0⟩ := h.vT h2
  have hlen := h.len
  have n2 : ∀ b e, Tg W b (some e) → e ≠ 23 → V[m].2.ownBlock ≠ some b := fun b e q ne w => (hm0.t2 w).ne q (by simpa using fun z => ne z.symm) rfl
  have n3 : ∀ b, Tg W b none → V[m].2.ownBlock ≠ some b := fun b q w => (hm0.t2 w).ne q (by simp) rfl
  have kt : ∀ mb, tv = .map (some mb) → ∀ b, TxB mb T C b → W'.heap[b]? = W.heap[b]? := fun mb e b q => by
    rcases h.tx.tg e q with ⟨rfl, w⟩ | w
    · exact k _ (.tx e q) (fun z => h.ax _ e m h2 z.symm) (n3 _ w)
    · exact k _ (.tx e q) (t1_ne hm0 w (by decide)).symm (n2 _ _ w (by decide))
  refine ⟨(k hb .hd (t1_ne hm0 h.hT (by decide)).symm (n2 _ _ h.hT (by decide))).trans h.h, by simpa using hlen, by simpa using h.nl, ?_, fun i h1 h2' => ?_, fun i j hi hj ne => ?_, fun i j hi hj ne b => ?_, h.tx.keep kt, fun mb e i hi => ?_, fun u hu => ?_, fun u hu => ?_⟩
  · rw [faL_set m t p H V m hm h2 e0 e1]
    exact row_same h.p fun g e => k g (.pl e) (t1_ne hm0 (row_tg h.p e) (by decide)).symm (n2 _ _ (row_tg h.p e) (by decide))
  · by_cases e : m = i
    · subst e
      simpa using ht
    · simp only [List.getElem_set, if_neg e]
      simp only [List.length_set] at h1 h2'
      have hi := h.th i h1 h2'
      refine hi.keep ?_ fun b q => ?_
      · refine k _ (.v1 h2') (h.ap i m h2' h2 (fun w => e w.symm)) fun w => ?_
        exact t1_ne hi (hm0.t2 w) (by decide) rfl
      · exact k _ (.v2 h2' q) (t1_ne hm0 (hi.t2 q) (by decide)).symm (h.al i m h2' h2 (fun w => e w.symm) b q)
  · simp only [List.length_set] at hi hj
    simp only [List.getElem_set]
    by_cases e : m = i
    · subst e
      rw [if_pos rfl, if_neg ne, e1]
      exact h.ap _ _ hi hj ne
    · rw [if_neg e]
      by_cases e' : m = j
      · subst e'
        rw [if_pos rfl, e1]
        exact h.ap _ _ hi hj ne
      · rw [if_neg e']
        exact h.ap _ _ hi hj ne
  · simp only [List.length_set] at hi hj
    simp only [List.getElem_set]
    by_cases e : m = i
    · subst e
      rw [if_pos rfl, if_neg ne]
      intro q r
      rcases f b q with q | q
      · exact h.al m j hi hj ne b q r
      · have := ((h.vT hj).2.t2 r).lt
        omega
    · rw [if_neg e]
      by_cases e' : m = j
      · subst e'
        rw [if_pos rfl]
        intro q r
        rcases f b r with r | r
        · exact h.al i m hi hj ne b q r
        · have := ((h.vT hi).2.t2 q).lt
          omega
      · rw [if_neg e']
        exact h.al i j hi hj ne b
  · simp only [List.length_set] at hi
    simp only [List.getElem_set]
    split
    · rename_i e'
      subst e'
      rw [e1]
      exact h.ax mb e _ h2
    · exact h.ax mb e i hi
  · rcases List.mem_or_eq_of_mem_set hu with hu | rfl
    · exact h.ok u hu
    · exact ok
  · rcases List.mem_or_eq_of_mem_set hu with hu | rfl
    · exact h.sz u hu
    · exact sz
theorem Hb.upd {m : Nat} (h2 : m < V.length) {p : Pb} {N : Nat} (e1 : p.1 = V[m].1) (f : ∀ b, p.2.ownBlock = some b → V[m].2.ownBlock = some b ∨ N ≤ b) : ∀ b, Hb hb pv (V.set m p) tv T C b → Hb hb pv V tv T C b ∨ N ≤ b := by
  rintro b (e | e | ⟨q, hq, e⟩ | e)
  · exact .inl (.inl e)
  · exact .inl (.inr (.inl e))
  · rcases List.mem_or_eq_of_mem_set hq with hq | rfl
    · exact .inl (.inr (.inr (.inl ⟨q, hq, e⟩)))
    · rcases e with e | e
      · exact .inl (by rw [← e, e1]; exact .v1 h2)
      · exact (f b e).imp (fun e => .v2 h2 e) id
  · exact .inl (.inr (.inr (.inr e)))
theorem faL_app (t : Th) (p : Pb) : ∀ (H : Hp) (V : List Pb), V.length = H.length → faL (H ++ [t]) (V ++ [p]) = faL H V ++ [faV t p]
  | [], [], _ => rfl
  | [], q :: V, h => by simp at h
  | u :: H, [], h => by simp at h
  | u :: H, q :: V, h => by
    have := faL_app t p H V (by simpa using h)
    simp only [faL, List.cons_append, List.zipWith_cons_cons] at this ⊢
    rw [this]
theorem faL_len (h : V.length = H.length) : (faL H V).length = H.length := by simp [faL, h]
/-- a thing more, that has no place yet. -/
theorem HvB.new (h : HvB hb n H T pv V tv C W) (k : ∀ b, Hb hb pv V tv T C b → W'.heap[b]? = W.heap[b]?) (t : Th) {g : Nat} (hg : W.heap.size ≤ g) (ht : ThA W' t (g, .slice none 0 0)) (ok : t.ob = true → t.nm.length = t.ls.length) (sz : ∀ x ∈ t.ls, x.tx.size ≤ 140737488355328) :
    HvB hb n (H ++ [t]) T pv (V ++ [(g, .slice none 0 0)]) tv C W' := by
  have h' := h.keep k
  have hlen := h.len
  have hold : ∀ i (hi : i < V.length), V[i].1 ≠ g := fun i hi e => by have := (h.vT hi).2.t1.lt; omega
  refine ⟨h'.h, by simpa using hlen, by have := h.nl; simp; omega, ?_, fun i h1 h2 => ?_, fun i j hi hj ne => ?_, fun i j hi hj ne b => ?_, h'.tx, fun mb e i hi => ?_, fun u hu => ?_, fun u hu => ?_⟩
  · rw [faL_app t _ H V hlen, List.take_append_of_le_length (by rw [faL_len hlen]; exact h.nl)]
    exact h'.p
  · simp only [List.length_append, List.length_singleton] at h1 h2
    by_cases e : i < V.length
    · simp only [List.getElem_append_left e, List.getElem_append_left (show i < H.length by omega)]
      exact h'.th i _ e
    · have : i = V.length := by omega
      subst this
      simp only [List.getElem_append_right (Nat.le_refl _), List.getElem_append_right (show H.length ≤ V.length by omega)]
      simpa using ht
  · simp only [List.length_append, List.length_singleton] at hi hj
    by_cases e : i < V.length
    · rw [List.getElem_append_left e]
      by_cases e' : j < V.length
      · rw [List.getElem_append_left e']
        exact h.ap i j e e' ne
      · rw [List.getElem_append_right (by omega)]
        simpa using hold i e
    · rw [List.getElem_append_right (by omega)]
      by_cases e' : j < V.length
      · rw [List.getElem_append_left e']
        simpa using fun w : g = V[j].1 => hold j e' w.symm
      · omega
  · simp only [List.length_append, List.length_singleton] at hi hj
    by_cases e : i < V.length
    · rw [List.getElem_append_left e]
      by_cases e' : j < V.length
      · rw [List.getElem_append_left e']
        exact h.al i j e e' ne b
      · rw [List.getElem_append_right (by omega)]
        intro _
        simp [Value.ownBlock]
    · rw [List.getElem_append_right (by omega)]
      simp [Value.ownBlock]
  · simp only [List.length_append, List.length_singleton] at hi
    by_cases e' : i < V.length
    · rw [List.getElem_append_left e']
      exact h.ax mb e i e'
    · rw [List.getElem_append_right (by omega)]
      have := h.lt mb (.tx e (.inl rfl))
      simp
      omega
  · rcases List.mem_append.1 hu with hu | hu
    · exact h.ok u hu
    · rw [List.mem_singleton.1 hu]; exact ok
  · rcases List.mem_append.1 hu with hu | hu
    · exact h.sz u hu
    · rw [List.mem_singleton.1 hu]; exact sz
theorem Hb.new {g N : Nat} (hg : N ≤ g) : ∀ b, Hb hb pv (V ++ [(g, .slice none 0 0)]) tv T C b → Hb hb pv V tv T C b ∨ N ≤ b := by
  rintro b (e | e | ⟨q, hq, e⟩ | e)
  · exact .inl (.inl e)
  · exact .inl (.inr (.inl e))
  · rcases List.mem_append.1 hq with hq | hq
    · exact .inl (.inr (.inr (.inl ⟨q, hq, e⟩)))
    · rw [List.mem_singleton.1 hq] at e
      rcases e with e | e
      · have e : g = b := e
        exact .inr (e ▸ hg)
      · cases e
  · exact .inl (.inr (.inr (.inr e)))
/-- its place. -/
theorem HvB.plc (h : HvB hb n H T pv V tv C W) (hn : n < H.length) {pv' : Value} (c : W'.heap[hb]? = some (.cells #[pv', tv] 55 (0, 0))) (k : ∀ b, Hb hb pv V tv T C b → b ≠ hb → pv.ownBlock ≠ some b → W'.heap[b]? = W.heap[b]?)
    (r : W'.ownsRow 0 20 1 pv' (n + 1) ((faL H V).take n ++ [(faL H V)[n]'(by rw [faL_len h.len]; exact hn)])) : HvB hb (n + 1) H T pv' V tv C W' := by
  have k1 : ∀ i (hi : i < V.length), W'.heap[V[i].1]? = W.heap[V[i].1]? := fun i hi => by
    obtain ⟨h1, ht⟩ := h.vT hi
    exact k _ (.v1 hi) (t1_ne ht h.hT (by decide)) fun e => t1_ne ht (row_tg h.p e) (by decide) rfl
  have k2 : ∀ i (hi : i < V.length) b, V[i].2.ownBlock = some b → W'.heap[b]? = W.heap[b]? := fun i hi b e => by
    obtain ⟨h1, ht⟩ := h.vT hi
    exact k _ (.v2 hi e) ((ht.t2 e).ne h.hT (by decide)) fun e' => (ht.t2 e).ne (row_tg h.p e') (by decide) rfl
  refine ⟨c, h.len, hn, ?_, fun i h1 h2 => (h.th i h1 h2).keep (k1 i h2) (k2 i h2), h.ap, h.al, h.tx.keep fun mb e b q => ?_, h.ax, h.ok, h.sz⟩
  · rw [List.take_succ_eq_append_getElem (by rw [faL_len h.len]; exact hn)]
    exact r
  · rcases h.tx.tg e q with ⟨_, w⟩ | w
    · exact k _ (.tx e q) (w.ne h.hT (by simp)) fun e' => w.ne (row_tg h.p e') (by simp) rfl
    · exact k _ (.tx e q) (w.ne h.hT (by decide)) fun e' => w.ne (row_tg h.p e') (by decide) rfl
end
end Go.Proofs.YtlijplbaefaeaaaDoor
