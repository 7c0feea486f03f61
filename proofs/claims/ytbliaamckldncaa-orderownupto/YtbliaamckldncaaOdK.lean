/- Own text. Mathematics: a walk by states does what the walk that goes deep first does; two walks, the second along edges turned round, tell the parts. -/
import Derived.Test.YtbliaamckldncaaOd8
namespace Go.Proofs.Ytbliaamckldncaa
open Gph
set_option linter.unusedVariables false
set_option linter.unusedSimpArgs false

/-- more fuel changes nothing. -/
theorem fold_more {G : List (List Nat)} (hG : Ok G) {f : Nat} (ih : ∀ (x : Nat) (S : List Bool) (O : List Nat), S.length = G.length → x < G.length → ¬ on S x → off S ≤ f → dfs G (f + 1) x S O = dfs G f x S O) :
    ∀ (l : List Nat) (p : List Bool × List Nat), (∀ y ∈ l, y < G.length) → p.1.length = G.length → off p.1 ≤ f → l.foldl (stp G (f + 1)) p = l.foldl (stp G f) p := by
  intro l
  induction l with
  | nil => intro p _ _ _; rfl
  | cons y l ihl =>
    intro p hy hp ho
    rw [List.foldl_cons, List.foldl_cons]
    have hyn := hy y List.mem_cons_self
    by_cases hs : isOn p.1 y = true
    · have e : ∀ g, stp G g p y = p := fun g => by unfold stp; rw [if_pos hs]
      rw [e, e]
      exact ihl p (fun z hz => hy z (List.mem_cons_of_mem _ hz)) hp ho
    · have e : ∀ g, stp G g p y = dfs G g y p.1 p.2 := fun g => by unfold stp; rw [if_neg hs]
      have hny : ¬ on p.1 y := fun k => hs (isOn_iff.2 k)
      rw [e, e, ih y p.1 p.2 hp hyn hny ho]
      obtain ⟨T, e1, D⟩ := dfs_did hG f y p.1 p.2 hp hyn hny ho
      exact ihl _ (fun z hz => hy z (List.mem_cons_of_mem _ hz)) (D.len.trans hp) (Nat.le_trans (off_mono D.len D.up) ho)
theorem dfs_more {G : List (List Nat)} (hG : Ok G) : ∀ (f x : Nat) (S : List Bool) (O : List Nat), S.length = G.length → x < G.length → ¬ on S x → off S ≤ f → dfs G (f + 1) x S O = dfs G f x S O
  | 0, x, S, O, hl, hx, hn, hf => by have := off_set (by omega) hn; omega
  | f + 1, x, S, O, hl, hx, hn, hf => by
    have h0 := off_set (S := S) (x := x) (by omega) hn
    rw [dfs_succ, dfs_succ, fold_more hG (dfs_more hG f) (ed G x) (S.set x true, O) (fun y hy => hG _ _ hy) (by simpa using hl) (by show off (S.set x true) ≤ f; omega)]
/-- how many edges of a place were looked at. -/
def lk (L : List Nat) (x : Nat) : Nat := (L[x]?).getD 0
theorem lk_set {L : List Nat} {x y k : Nat} (hx : x < L.length) : lk (L.set x k) y = if y = x then k else lk L y := by
  unfold lk
  rw [List.getElem?_set]
  by_cases h : x = y
  · subst h; simp [hx]
  · rw [if_neg h, if_neg (fun e => h e.symm)]
/-- what is left to do, done. -/
def rest (G : List (List Nat)) (L : List Nat) : List Nat → List Bool × List Nat → List Bool × List Nat
  | [], p => p
  | x :: st, p => rest G L st ((((ed G x).drop (lk L x)).foldl (stp G G.length) p).1, (((ed G x).drop (lk L x)).foldl (stp G G.length) p).2 ++ [x])
theorem rest_set {G : List (List Nat)} {L : List Nat} {x k : Nat} (hx : x < L.length) : ∀ (st : List Nat) (p : List Bool × List Nat), x ∉ st → rest G (L.set x k) st p = rest G L st p
  | [], p, _ => rfl
  | y :: st, p, h => by
    have hy : y ≠ x := fun e => h (by rw [e]; exact List.mem_cons_self)
    unfold rest
    rw [lk_set hx, if_neg hy]
    exact rest_set hx st _ (fun q => h (List.mem_cons_of_mem _ q))
/-- a walk's state: flags, edges looked at, the way (the last first), what was told. -/
structure Wst (G : List (List Nat)) (S : List Bool) (L st O : List Nat) : Prop where
  sl : S.length = G.length
  ll : L.length = G.length
  way : ∀ x ∈ st, on S x ∧ x < G.length
  nd : st.Nodup
  lo : ∀ y, ¬ on S y → lk L y = 0
  cnt : O.length + st.length + off S = G.length
  kl : ∀ y, lk L y ≤ (ed G y).length
theorem Wst.enter {G : List (List Nat)} (hG : Ok G) {S : List Bool} {L st O : List Nat} {y : Nat} (h : Wst G S L st O) (hy : y < G.length) (hn : ¬ on S y) :
    Wst G (S.set y true) L (y :: st) O ∧ rest G L (y :: st) (S.set y true, O) = rest G L st (dfs G G.length y S O) := by
  have hyS : y < S.length := by rw [h.sl]; exact hy
  have h0 := off_set hyS hn
  have hc := h.cnt
  refine ⟨⟨by simpa using h.sl, h.ll, fun x hx => ?_, List.nodup_cons.2 ⟨fun q => hn (h.way y q).1, h.nd⟩, fun z hz => h.lo z (fun q => hz ((on_set hyS).2 (Or.inr q))), by simp only [List.length_cons]; omega, h.kl⟩, ?_⟩
  · rcases List.mem_cons.1 hx with rfl | hx
    · exact ⟨(on_set hyS).2 (Or.inl rfl), hy⟩
    · exact ⟨(on_set hyS).2 (Or.inr (h.way x hx).1), (h.way x hx).2⟩
  · rw [← dfs_more hG G.length y S O h.sl hy hn (by omega), dfs_succ, rest, h.lo y hn, List.drop_zero]
theorem Wst.skip {G : List (List Nat)} {S : List Bool} {L st O : List Nat} {x : Nat} (h : Wst G S L (x :: st) O) (hk : lk L x < (ed G x).length) (hq : on S (ed G x)[lk L x]) :
    Wst G S (L.set x (lk L x + 1)) (x :: st) O ∧ rest G (L.set x (lk L x + 1)) (x :: st) (S, O) = rest G L (x :: st) (S, O) := by
  have hx := h.way x List.mem_cons_self
  have hxL : x < L.length := by rw [h.ll]; exact hx.2
  refine ⟨⟨h.sl, by simpa using h.ll, h.way, h.nd, fun y hy => ?_, h.cnt, fun y => ?_⟩, ?_⟩
  · rw [lk_set hxL, if_neg (fun e : y = x => hy (by rw [e]; exact hx.1))]; exact h.lo y hy
  · rw [lk_set hxL]
    split
    · rename_i e; subst e; omega
    · exact h.kl y
  · unfold rest
    rw [lk_set hxL, if_pos rfl, rest_set hxL st _ (List.nodup_cons.1 h.nd).1, List.drop_eq_getElem_cons hk, List.foldl_cons]
    have e : stp G G.length (S, O) (ed G x)[lk L x] = (S, O) := by unfold stp; rw [if_pos (isOn_iff.2 hq)]
    rw [e]
theorem Wst.next {G : List (List Nat)} {S : List Bool} {L st O : List Nat} {x : Nat} (h : Wst G S L (x :: st) O) (hk : lk L x < (ed G x).length) (hq : ¬ on S (ed G x)[lk L x]) :
    Wst G S (L.set x (lk L x + 1)) (x :: st) O ∧ rest G (L.set x (lk L x + 1)) (x :: st) (dfs G G.length (ed G x)[lk L x] S O) = rest G L (x :: st) (S, O) := by
  have hx := h.way x List.mem_cons_self
  have hxL : x < L.length := by rw [h.ll]; exact hx.2
  refine ⟨⟨h.sl, by simpa using h.ll, h.way, h.nd, fun y hy => ?_, h.cnt, fun y => ?_⟩, ?_⟩
  · rw [lk_set hxL, if_neg (fun e : y = x => hy (by rw [e]; exact hx.1))]; exact h.lo y hy
  · rw [lk_set hxL]
    split
    · rename_i e; subst e; omega
    · exact h.kl y
  · unfold rest
    rw [lk_set hxL, if_pos rfl, rest_set hxL st _ (List.nodup_cons.1 h.nd).1]
    conv => rhs; rw [List.drop_eq_getElem_cons hk, List.foldl_cons]
    have e : stp G G.length (S, O) (ed G x)[lk L x] = dfs G G.length (ed G x)[lk L x] S O := by unfold stp; rw [if_neg (fun q => hq (isOn_iff.1 q))]
    rw [e]
theorem Wst.tell {G : List (List Nat)} {S : List Bool} {L st O : List Nat} {x : Nat} (h : Wst G S L (x :: st) O) (hk : (ed G x).length ≤ lk L x) :
    Wst G S L st (O ++ [x]) ∧ rest G L st (S, O ++ [x]) = rest G L (x :: st) (S, O) := by
  refine ⟨⟨h.sl, h.ll, fun y hy => h.way y (List.mem_cons_of_mem _ hy), (List.nodup_cons.1 h.nd).2, h.lo, by have := h.cnt; simp only [List.length_cons, List.length_append, List.length_nil] at *; omega, h.kl⟩, ?_⟩
  rw [rest, List.drop_eq_nil_of_le hk]
  rfl
theorem Wst.new (G : List (List Nat)) : Wst G (List.replicate G.length false) (List.replicate G.length 0) [] [] :=
  ⟨by simp, by simp, fun x hx => by simp at hx, List.nodup_nil, fun y _ => by unfold lk; rw [List.getElem?_replicate]; split <;> rfl, by simp [off_rep], fun y => by unfold lk; rw [List.getElem?_replicate]; split <;> simp⟩

/-- walks from all of some places. -/
theorem fold_all {G : List (List Nat)} (hG : Ok G) :
    ∀ (l : List Nat) (p : List Bool × List Nat), (∀ y ∈ l, y < G.length) → p.1.length = G.length → off p.1 ≤ G.length →
      ∃ T, (l.foldl (stp G G.length) p).2 = p.2 ++ T ∧ Did G (fun _ => True) p.1 (l.foldl (stp G G.length) p).1 T ∧ ∀ y ∈ l, on (l.foldl (stp G G.length) p).1 y := by
  intro l
  induction l with
  | nil => intro p _ _ _; exact ⟨[], by simp, Did.nil _ _ _, by simp⟩
  | cons y l ihl =>
    intro p hy hp ho
    rw [List.foldl_cons]
    by_cases hs : isOn p.1 y = true
    · have e : stp G G.length p y = p := by unfold stp; rw [if_pos hs]
      rw [e]
      obtain ⟨T, e1, e2, e3⟩ := ihl p (fun z hz => hy z (List.mem_cons_of_mem _ hz)) hp ho
      refine ⟨T, e1, e2, fun z hz => ?_⟩
      rcases List.mem_cons.1 hz with rfl | hz
      · exact e2.up _ (isOn_iff.1 hs)
      · exact e3 z hz
    · have e : stp G G.length p y = dfs G G.length y p.1 p.2 := by unfold stp; rw [if_neg hs]
      rw [e]
      have hny : ¬ on p.1 y := fun k => hs (isOn_iff.2 k)
      obtain ⟨T, e1, e2⟩ := dfs_did hG G.length y p.1 p.2 hp (hy y List.mem_cons_self) hny ho
      obtain ⟨T', f1, f2, f3⟩ := ihl (dfs G G.length y p.1 p.2) (fun z hz => hy z (List.mem_cons_of_mem _ hz)) (e2.len.trans hp) (Nat.le_trans (off_mono e2.len e2.up) ho)
      refine ⟨(T ++ [y]) ++ T', by rw [f1, e1, List.append_assoc], (e2.root (root' := fun _ => True) (fun r hr => ⟨r, trivial, Rch.refl r⟩)).append f2, fun z hz => ?_⟩
      rcases List.mem_cons.1 hz with rfl | hz
      · exact f2.up _ ((e2.mem z).2 (Or.inr (by simp)))
      · exact f3 z hz
/-- the order in which all places were told. -/
structure Kos (G : List (List Nat)) (O : List Nat) : Prop where
  all : ∀ y, y ∈ O ↔ y < G.length
  nd : O.Nodup
  order : ∀ A y B, O = A ++ y :: B → ∀ z ∈ ed G y, z ∈ A ∨ z = y ∨ Rch G z y
  mid : ∀ A y B z C, O = A ++ y :: (B ++ z :: C) → z ∈ ed G y → ∀ x ∈ B, Rch G z x
theorem on_lt {S : List Bool} {y : Nat} (h : on S y) : y < S.length := by
  unfold on at h
  exact (List.getElem?_eq_some_iff.1 h).1
theorem kos_of {G : List (List Nat)} (hG : Ok G) : Kos G ((List.range G.length).foldl (stp G G.length) (List.replicate G.length false, [])).2 := by
  obtain ⟨T, e, D, k⟩ := fold_all hG (List.range G.length) (List.replicate G.length false, []) (fun y hy => List.mem_range.1 hy) (by simp) (by rw [off_rep]; omega)
  rw [e]
  simp only [List.nil_append]
  refine ⟨fun y => ⟨fun h => ?_, fun h => ?_⟩, D.nodup, fun A y B e z hz => ?_, D.mid⟩
  · have := on_lt ((D.mem y).2 (Or.inr h))
    rw [D.len] at this
    simpa using this
  · rcases (D.mem y).1 (k y (List.mem_range.2 h)) with h | h
    · exact absurd h (not_on_rep _ _)
    · exact h
  · rcases D.order A y B e z hz with h | h | h | h
    · exact Or.inl h
    · exact Or.inr (Or.inl h)
    · exact absurd h (not_on_rep _ _)
    · exact Or.inr (Or.inr h.2)
/-- of a place that was told last of those left: whatever leads to its part, and is left, too, is of its part. -/
theorem kos_back {G : List (List Nat)} {O A B : List Nat} {r a b : Nat} (h : Kos G O) (hG : Ok G) (e : O = A ++ r :: B) (S : Nat → Prop) (hB : ∀ y ∈ B, S y) (hr : ¬ S r) (hS : ∀ x y, S x → Mut G x y → S y) (hb : ¬ S b) (hbn : b < G.length) (hab : a ∈ ed G b) (hm : Mut G r a) : Mut G r b := by
  refine ⟨?_, (Rch.one hab).trans hm.2⟩
  have hbO := (h.all b).2 hbn
  rw [e] at hbO
  rcases List.mem_append.1 hbO with hbA | hbA
  · obtain ⟨A1, A2, rfl⟩ := List.append_of_mem hbA
    have nd := h.nd
    rw [e] at nd
    have hrL : ¬ (r ∈ A1 ∨ r = b) := fun q => by
      have := (List.nodup_append.1 nd).2.2 r (by rcases q with q | q; exact List.mem_append_left _ q; rw [q]; simp) r List.mem_cons_self
      exact this rfl
    have key : ∀ u v, (u ∈ A1 ∨ u = b) → v ∈ ed G u → Mut G r v → (v ∈ A1 ∨ v = b) ∨ Rch G r b := by
      intro u v hu huv hv
      have hvS : ¬ S v := fun q => hr (hS v r q hv.symm)
      have hvO := (h.all v).2 (hG _ _ huv)
      rw [e] at hvO
      rw [List.append_assoc] at hvO
      rcases List.mem_append.1 hvO with q | q
      · exact Or.inl (Or.inl q)
      · rw [List.cons_append] at q
        rcases List.mem_cons.1 q with q | q
        · exact Or.inl (Or.inr q)
        · obtain ⟨C1, C2, hC⟩ := List.append_of_mem q
          have eO : O = A1 ++ b :: (C1 ++ v :: C2) := by rw [e, ← hC]; simp
          rcases hu with hu | rfl
          · obtain ⟨D1, D2, rfl⟩ := List.append_of_mem hu
            have := h.mid D1 u (D2 ++ b :: C1) v C2 (by rw [eO]; simp) huv b (by simp)
            exact Or.inr (hv.1.trans this)
          · rcases h.order A1 u (C1 ++ v :: C2) eO v huv with k | k | k
            · exact Or.inl (Or.inl k)
            · exact Or.inl (Or.inr k)
            · exact Or.inr (hv.1.trans k)
    have fin := hm.2 (fun z => Rch G r z ∧ (Rch G z r → (z ∈ A1 ∨ z = b) ∨ Rch G r b)) ⟨hm.1, fun _ => key b a (Or.inr rfl) hab hm⟩ (fun u v hu huv => ⟨hu.1.step huv, fun hv => by
      rcases hu.2 ((Rch.one huv).trans hv) with k | k
      · exact key u v k huv ⟨hu.1.step huv, hv⟩
      · exact Or.inr k⟩)
    rcases fin.2 (Rch.refl r) with k | k
    · exact absurd k hrL
    · exact k
  · rcases List.mem_cons.1 hbA with rfl | hbA
    · exact Rch.refl _
    · exact absurd (hB b hbA) hb
/-- edges turned round. -/
def Turn (G R : List (List Nat)) : Prop := R.length = G.length ∧ ∀ x y, x ∈ ed R y ↔ y ∈ ed G x
theorem ed_lt {G : List (List Nat)} {x y : Nat} (h : y ∈ ed G x) : x < G.length := by
  unfold ed at h
  cases q : G[x]? with
  | none => rw [q] at h; simp at h
  | some l => exact (List.getElem?_eq_some_iff.1 q).1
theorem Turn.ok {G R : List (List Nat)} (h : Turn G R) : Ok R := fun x y hy => by
  rw [h.1]; exact ed_lt ((h.2 y x).1 hy)
theorem Turn.rch {G R : List (List Nat)} (h : Turn G R) {x y : Nat} (k : Rch R x y) : Rch G y x := k (fun z => Rch G z x) (Rch.refl x) (fun a b ha hb => (Rch.one ((h.2 b a).1 hb)).trans ha)
theorem Turn.rch' {G R : List (List Nat)} (h : Turn G R) {x y : Nat} (k : Rch G x y) : Rch R y x := k (fun z => Rch R z x) (Rch.refl x) (fun a b ha hb => (Rch.one ((h.2 a b).2 hb)).trans ha)
/-- the second walk, when the places B were gone through. -/
structure Bk (G R : List (List Nat)) (B : List Nat) (S : List Bool) (H : List Nat) : Prop where
  on_iff : ∀ y, on S y ↔ ∃ r ∈ B, Mut G r y
  clo : ∀ s t, on S s → t ∈ ed R s → on S t
  same : ∀ x y, on S x → on S y → Mut G x y → lk H x = lk H y
  mu : ∀ x, on S x → Mut G (lk H x) x
theorem Bk.closed {G R : List (List Nat)} {B : List Nat} {S : List Bool} {H : List Nat} (h : Bk G R B S H) (x y : Nat) (hx : on S x) (m : Mut G x y) : on S y := by
  obtain ⟨r, hr, k⟩ := (h.on_iff x).1 hx
  exact (h.on_iff y).2 ⟨r, hr, k.trans m⟩
theorem Bk.old {G R : List (List Nat)} {B : List Nat} {S : List Bool} {H : List Nat} {r : Nat} (h : Bk G R B S H) (hr : on S r) : Bk G R (r :: B) S H :=
  ⟨fun y => ⟨fun q => by obtain ⟨s, hs, k⟩ := (h.on_iff y).1 q; exact ⟨s, List.mem_cons_of_mem _ hs, k⟩, fun ⟨s, hs, k⟩ => by
    rcases List.mem_cons.1 hs with rfl | hs
    · exact h.closed _ _ hr k
    · exact (h.on_iff y).2 ⟨s, hs, k⟩⟩, h.clo, h.same, h.mu⟩
theorem Bk.new {G R : List (List Nat)} (hG : Ok G) (hR : Turn G R) {O A B T : List Nat} {S S' : List Bool} {H H' : List Nat} {r : Nat} (hO : Kos G O) (e : O = A ++ r :: B) (h : Bk G R B S H) (hr : ¬ on S r) (hSl : S.length = G.length)
    (D : Did R (fun q => q = r) S S' T) (hrT : r ∈ T) (hH : ∀ y ∈ T, lk H' y = r) (hH' : ∀ y, y ∉ T → lk H' y = lk H y) : Bk G R (r :: B) S' H' := by
  have hin : ∀ y, y ∈ T ↔ Mut G r y := by
    intro y
    have hclo : ∀ s t, on S' s → t ∈ ed R s → on S' t := fun s t hs ht => by
      rcases (D.mem s).1 hs with k | k
      · exact D.up t (h.clo s t k ht)
      · exact D.edge s k t ht
    constructor
    · intro hy
      obtain ⟨q, rfl, hq⟩ := D.reach y hy
      have := hq (fun z => on S z ∨ Mut G q z) (Or.inr (Mut.refl q)) (fun a b ha hb => by
        rcases ha with ha | ha
        · exact Or.inl (h.clo a b ha hb)
        · by_cases hbS : on S b
          · exact Or.inl hbS
          · have hba := (hR.2 b a).1 hb
            exact Or.inr (kos_back hO hG e (fun z => on S z) (fun z hz => (h.on_iff z).2 ⟨z, hz, Mut.refl z⟩) hr h.closed hbS (ed_lt hba) hba ha))
      rcases this with k | k
      · exact absurd k (D.new y hy)
      · exact k
    · intro m
      have hy : on S' y := (hR.rch' m.2) (fun z => on S' z) ((D.mem r).2 (Or.inr hrT)) hclo
      rcases (D.mem y).1 hy with k | k
      · exact absurd (h.closed y r k m.symm) hr
      · exact k
  refine ⟨fun y => ?_, fun s t hs ht => ?_, fun x y hx hy m => ?_, fun x hx => ?_⟩
  · rw [D.mem, h.on_iff, hin]
    constructor
    · rintro (⟨s, hs, k⟩ | k)
      · exact ⟨s, List.mem_cons_of_mem _ hs, k⟩
      · exact ⟨r, List.mem_cons_self, k⟩
    · rintro ⟨s, hs, k⟩
      rcases List.mem_cons.1 hs with rfl | hs
      · exact Or.inr k
      · exact Or.inl ⟨s, hs, k⟩
  · rcases (D.mem s).1 hs with k | k
    · exact D.up t (h.clo s t k ht)
    · exact D.edge s k t ht
  · by_cases hxT : x ∈ T
    · have hyT : y ∈ T := (hin y).2 (((hin x).1 hxT).trans m)
      rw [hH x hxT, hH y hyT]
    · have hyT : y ∉ T := fun q => hxT ((hin x).2 (((hin y).1 q).trans m.symm))
      rw [hH' x hxT, hH' y hyT]
      exact h.same x y (((D.mem x).1 hx).resolve_right hxT) (((D.mem y).1 hy).resolve_right hyT) m
  · by_cases hxT : x ∈ T
    · rw [hH x hxT]; exact (hin x).1 hxT
    · rw [hH' x hxT]; exact h.mu x (((D.mem x).1 hx).resolve_right hxT)
theorem Bk.start (G R H : List (List Nat)) (H' : List Nat) (n : Nat) : Bk G R [] (List.replicate n false) H' :=
  ⟨fun y => ⟨fun q => absurd q (not_on_rep _ _), fun ⟨r, hr, _⟩ => by simp at hr⟩, fun s t hs => absurd hs (not_on_rep _ _), fun x y hx => absurd hx (not_on_rep _ _), fun x hx => absurd hx (not_on_rep _ _)⟩
/-- two places have one head. -/
def sameHd (H : List Nat) (x y : Nat) : Bool := decide (lk H x = lk H y)
theorem Bk.tells {G R : List (List Nat)} {O : List Nat} {S : List Bool} {H : List Nat} (hO : Kos G O) (h : Bk G R O S H) : Tells G (sameHd H) := fun x y hx hy => by
  have ox : on S x := (h.on_iff x).2 ⟨x, (hO.all x).2 hx, Mut.refl x⟩
  have oy : on S y := (h.on_iff y).2 ⟨y, (hO.all y).2 hy, Mut.refl y⟩
  unfold sameHd
  rw [decide_eq_true_iff]
  exact ⟨fun e => (h.mu x ox).symm.trans (e ▸ h.mu y oy), fun m => h.same x y ox oy m⟩
end Go.Proofs.Ytbliaamckldncaa
