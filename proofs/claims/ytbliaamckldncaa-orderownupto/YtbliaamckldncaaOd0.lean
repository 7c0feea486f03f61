/- Own text. Mathematics of graphs of numbers: what can be reached, a walk that goes deep first, and what it tells. -/
namespace Go.Proofs.Ytbliaamckldncaa.Gph
set_option linter.unusedVariables false
/-- the places to which a place leads. -/
def ed (G : List (List Nat)) (x : Nat) : List Nat := (G[x]?).getD []
/-- all edges are places. -/
def Ok (G : List (List Nat)) : Prop := ∀ x y, y ∈ ed G x → y < G.length
/-- it can be reached. -/
def Rch (G : List (List Nat)) (x y : Nat) : Prop := ∀ Q : Nat → Prop, Q x → (∀ a b, Q a → b ∈ ed G a → Q b) → Q y
theorem Rch.refl {G : List (List Nat)} (x : Nat) : Rch G x x := fun _ h _ => h
theorem Rch.step {G : List (List Nat)} {x y z : Nat} (h : Rch G x y) (e : z ∈ ed G y) : Rch G x z := fun Q q s => s _ _ (h Q q s) e
theorem Rch.trans {G : List (List Nat)} {x y z : Nat} (h : Rch G x y) (k : Rch G y z) : Rch G x z := k (fun y => Rch G x y) h (fun _ _ q e => q.step e)
theorem Rch.one {G : List (List Nat)} {x y : Nat} (e : y ∈ ed G x) : Rch G x y := (Rch.refl x).step e
theorem Rch.lt {G : List (List Nat)} (hG : Ok G) {x y : Nat} (h : Rch G x y) (hx : x < G.length) : y < G.length := h (fun y => y < G.length) hx (fun _ _ _ e => hG _ _ e)
/-- a set of places as flags. -/
def on (S : List Bool) (y : Nat) : Prop := S[y]? = some true
def isOn (S : List Bool) (y : Nat) : Bool := (S[y]?).getD false
theorem isOn_iff {S : List Bool} {y : Nat} : isOn S y = true ↔ on S y := by
  unfold isOn on
  cases S[y]? with
  | none => simp
  | some b => cases b <;> simp
theorem on_set {S : List Bool} {x y : Nat} (hx : x < S.length) : on (S.set x true) y ↔ y = x ∨ on S y := by
  unfold on
  rw [List.getElem?_set]
  by_cases h : x = y
  · subst h; simp [hx]
  · simp [h, Ne.symm h]
/-- how many flags are not set. -/
def off : List Bool → Nat
  | [] => 0
  | b :: l => (if b then 0 else 1) + off l
theorem off_set : ∀ {S : List Bool} {x : Nat}, x < S.length → ¬ on S x → off (S.set x true) + 1 = off S
  | [], x, h, _ => absurd h (Nat.not_lt_zero _)
  | b :: l, 0, _, hn => by
    cases b with
    | true => exact absurd rfl hn
    | false => simp [off]; omega
  | b :: l, x + 1, h, hn => by
    have h' : x < l.length := by simpa using h
    have ih := off_set (S := l) h' (fun k => hn k)
    simp only [List.set_cons_succ, off]; omega
theorem off_le : ∀ (S : List Bool), off S ≤ S.length
  | [] => Nat.le_refl _
  | b :: l => by have := off_le l; simp only [off, List.length_cons]; split <;> omega
/-- the walk: the flags and what was told. -/
def dfs (G : List (List Nat)) : Nat → Nat → List Bool → List Nat → List Bool × List Nat
  | 0, _, S, O => (S, O)
  | f + 1, x, S, O =>
    let r := (ed G x).foldl (fun (p : List Bool × List Nat) y => if isOn p.1 y then p else dfs G f y p.1 p.2) (S.set x true, O)
    (r.1, r.2 ++ [x])
/-- what a walk does: R is what can be reached from where it stands; T what it tells. -/
structure Did (G : List (List Nat)) (root : Nat → Prop) (S S' : List Bool) (T : List Nat) : Prop where
  len : S'.length = S.length
  mem : ∀ y, on S' y ↔ on S y ∨ y ∈ T
  new : ∀ y ∈ T, ¬ on S y
  nodup : T.Nodup
  reach : ∀ y ∈ T, ∃ r, root r ∧ Rch G r y
  edge : ∀ y ∈ T, ∀ z ∈ ed G y, on S' z
  order : ∀ A y B, T = A ++ y :: B → ∀ z ∈ ed G y, z ∈ A ∨ z = y ∨ on S z ∨ (z ∈ B ∧ Rch G z y)
  cnt : T.length + off S' = off S
  mid : ∀ A y B z C, T = A ++ y :: (B ++ z :: C) → z ∈ ed G y → ∀ x ∈ B, Rch G z x
theorem Did.nil (G : List (List Nat)) (root : Nat → Prop) (S : List Bool) : Did G root S S [] :=
  ⟨rfl, by simp, by simp, List.nodup_nil, by simp, by simp, fun A y B h => by simp at h, by simp, fun A y B z C h => by simp at h⟩
theorem Did.up {G : List (List Nat)} {root : Nat → Prop} {S S' : List Bool} {T : List Nat} (h : Did G root S S' T) : ∀ y, on S y → on S' y := fun y hy => (h.mem y).2 (Or.inl hy)
theorem off_mono : ∀ {S S' : List Bool}, S'.length = S.length → (∀ y, on S y → on S' y) → off S' ≤ off S
  | [], [], _, _ => Nat.le_refl _
  | b :: l, b' :: l', hl, h => by
    have ih := off_mono (S := l) (S' := l') (by simpa using hl) (fun y hy => h (y + 1) hy)
    have h0 := h 0
    simp only [off]
    cases b with
    | false => cases b' <;> simp <;> omega
    | true =>
      have : b' = true := by simpa [on] using h0 rfl
      subst this; simp; omega
  | [], b :: l, hl, _ => by simp at hl
  | b :: l, [], hl, _ => by simp at hl
/-- two walks, one behind the other. -/
theorem Did.append {G : List (List Nat)} {root : Nat → Prop} {S S1 S2 : List Bool} {T1 T2 : List Nat} (h1 : Did G root S S1 T1) (h2 : Did G root S1 S2 T2) : Did G root S S2 (T1 ++ T2) := by
  refine ⟨h2.len.trans h1.len, fun y => ?_, fun y hy => ?_, ?_, fun y hy => ?_, fun y hy z hz => ?_, fun A y B e z hz => ?_, by have := h1.cnt; have := h2.cnt; rw [List.length_append]; omega, fun A y B z C e hz => ?_⟩
  · rw [h2.mem, h1.mem, List.mem_append, or_assoc]
  · rcases List.mem_append.1 hy with hy | hy
    · exact h1.new y hy
    · exact fun k => h2.new y hy (h1.up y k)
  · exact List.nodup_append.2 ⟨h1.nodup, h2.nodup, fun a ha b hb e => h2.new b hb ((h1.mem b).2 (Or.inr (e ▸ ha)))⟩
  · rcases List.mem_append.1 hy with hy | hy
    · exact h1.reach y hy
    · exact h2.reach y hy
  · rcases List.mem_append.1 hy with hy | hy
    · exact h2.up z (h1.edge y hy z hz)
    · exact h2.edge y hy z hz
  · rcases List.append_eq_append_iff.1 e with ⟨A', e1, e2⟩ | ⟨C, e1, e2⟩
    · -- y stands in the second part
      rcases h2.order A' y B e2 z hz with h | h | h | h
      · exact Or.inl (e1 ▸ List.mem_append_right _ h)
      · exact Or.inr (Or.inl h)
      · rcases (h1.mem z).1 h with h | h
        · exact Or.inr (Or.inr (Or.inl h))
        · exact Or.inl (e1 ▸ List.mem_append_left _ h)
      · exact Or.inr (Or.inr (Or.inr h))
    · cases C with
      | nil =>
        simp only [List.nil_append, List.append_nil] at e1 e2
        rcases h2.order [] y B e2.symm z hz with h | h | h | h
        · exact absurd h (by simp)
        · exact Or.inr (Or.inl h)
        · rcases (h1.mem z).1 h with h | h
          · exact Or.inr (Or.inr (Or.inl h))
          · exact Or.inl (e1 ▸ h)
        · exact Or.inr (Or.inr (Or.inr h))
      | cons c C =>
        simp only [List.cons_append, List.cons.injEq] at e2
        obtain ⟨rfl, rfl⟩ := e2
        rcases h1.order A y C e1 z hz with h | h | h | h
        · exact Or.inl h
        · exact Or.inr (Or.inl h)
        · exact Or.inr (Or.inr (Or.inl h))
        · exact Or.inr (Or.inr (Or.inr ⟨List.mem_append_left _ h.1, h.2⟩))
  · have no : y ∈ T1 → z ∈ T2 → False := fun q1 q2 => h2.new z q2 (h1.edge y q1 z hz)
    rcases List.append_eq_append_iff.1 e with ⟨A', e1, e2⟩ | ⟨D, e1, e2⟩
    · exact h2.mid A' y B z C e2 hz
    · cases D with
      | nil => exact h2.mid [] y B z C (by simpa using e2.symm) hz
      | cons d D =>
        simp only [List.cons_append, List.cons.injEq] at e2
        obtain ⟨rfl, e2⟩ := e2
        have hy1 : y ∈ T1 := by rw [e1]; simp
        rcases List.append_eq_append_iff.1 e2 with ⟨B', q1, q2⟩ | ⟨B', q1, q2⟩
        · cases B' with
          | nil => exact absurd (show z ∈ T2 by simp only [List.nil_append] at q2; rw [← q2]; simp) (no hy1)
          | cons b B' =>
            simp only [List.cons_append, List.cons.injEq] at q2
            obtain ⟨rfl, q2⟩ := q2
            exact h1.mid A y B z B' (by rw [e1, q1]) hz
        · exact absurd (show z ∈ T2 by rw [q2]; simp) (no hy1)
theorem Did.root {G : List (List Nat)} {root root' : Nat → Prop} {S S' : List Bool} {T : List Nat} (h : Did G root S S' T) (k : ∀ r, root r → ∃ q, root' q ∧ Rch G q r) : Did G root' S S' T :=
  ⟨h.len, h.mem, h.new, h.nodup, fun y hy => by obtain ⟨r, hr, hy⟩ := h.reach y hy; obtain ⟨q, hq, hr⟩ := k r hr; exact ⟨q, hq, hr.trans hy⟩, h.edge, h.order, h.cnt, h.mid⟩
/-- one edge of a walk's loop. -/
def stp (G : List (List Nat)) (f : Nat) (p : List Bool × List Nat) (y : Nat) : List Bool × List Nat := if isOn p.1 y then p else dfs G f y p.1 p.2
theorem dfs_succ (G : List (List Nat)) (f x : Nat) (S : List Bool) (O : List Nat) : dfs G (f + 1) x S O = (((ed G x).foldl (stp G f) (S.set x true, O)).1, ((ed G x).foldl (stp G f) (S.set x true, O)).2 ++ [x]) := rfl
/-- what the walks from some of a place's edges do. -/
theorem fold_did {G : List (List Nat)} (hG : Ok G) {f x : Nat} (ih : ∀ (y : Nat) (S : List Bool) (O : List Nat), S.length = G.length → y < G.length → ¬ on S y → off S ≤ f → ∃ T, (dfs G f y S O).2 = O ++ (T ++ [y]) ∧ Did G (fun r => r = y) S (dfs G f y S O).1 (T ++ [y])) :
    ∀ (l : List Nat) (p : List Bool × List Nat), (∀ y ∈ l, y ∈ ed G x) → p.1.length = G.length → off p.1 ≤ f → on p.1 x →
      ∃ T, (l.foldl (stp G f) p).2 = p.2 ++ T ∧ Did G (fun r => r = x) p.1 (l.foldl (stp G f) p).1 T ∧ ∀ y ∈ l, on (l.foldl (stp G f) p).1 y := by
  intro l
  induction l with
  | nil => intro p _ _ _ _; exact ⟨[], by simp, Did.nil _ _ _, by simp⟩
  | cons y l ihl =>
    intro p hy hp ho hon
    rw [List.foldl_cons]
    by_cases hs : isOn p.1 y = true
    · have e : stp G f p y = p := by unfold stp; rw [if_pos hs]
      rw [e]
      obtain ⟨T, e1, e2, e3⟩ := ihl p (fun z hz => hy z (List.mem_cons_of_mem _ hz)) hp ho hon
      refine ⟨T, e1, e2, fun z hz => ?_⟩
      rcases List.mem_cons.1 hz with rfl | hz
      · exact e2.up _ (isOn_iff.1 hs)
      · exact e3 z hz
    · have e : stp G f p y = dfs G f y p.1 p.2 := by unfold stp; rw [if_neg hs]
      rw [e]
      have hyx := hy y List.mem_cons_self
      have hny : ¬ on p.1 y := fun k => hs (isOn_iff.2 k)
      obtain ⟨T, e1, e2⟩ := ih y p.1 p.2 hp (hG _ _ hyx) hny ho
      have hq : (dfs G f y p.1 p.2).1.length = G.length := e2.len.trans hp
      obtain ⟨T', f1, f2, f3⟩ := ihl (dfs G f y p.1 p.2) (fun z hz => hy z (List.mem_cons_of_mem _ hz)) hq (Nat.le_trans (off_mono e2.len e2.up) ho) (e2.up _ hon)
      refine ⟨(T ++ [y]) ++ T', by rw [f1, e1, List.append_assoc], (e2.root (root' := fun r => r = x) (fun r hr => ⟨x, rfl, hr ▸ Rch.one hyx⟩)).append f2, fun z hz => ?_⟩
      rcases List.mem_cons.1 hz with rfl | hz
      · exact f2.up _ ((e2.mem z).2 (Or.inr (by simp)))
      · exact f3 z hz
/-- the walk from a place. -/
theorem dfs_did {G : List (List Nat)} (hG : Ok G) : ∀ (f : Nat) (x : Nat) (S : List Bool) (O : List Nat), S.length = G.length → x < G.length → ¬ on S x → off S ≤ f →
    ∃ T, (dfs G f x S O).2 = O ++ (T ++ [x]) ∧ Did G (fun r => r = x) S (dfs G f x S O).1 (T ++ [x])
  | 0, x, S, O, hl, hx, hn, hf => by have := off_set (by omega) hn; omega
  | f + 1, x, S, O, hl, hx, hn, hf => by
    have hxS : x < S.length := by omega
    have h0 := off_set hxS hn
    obtain ⟨T, e1, e2, e3⟩ := fold_did hG (x := x) (dfs_did hG f) (ed G x) (S.set x true, O) (fun _ h => h) (by simpa using hl) (by show off (S.set x true) ≤ f; omega) ((on_set hxS).2 (Or.inl rfl))
    refine ⟨T, by rw [dfs_succ, e1, List.append_assoc], ?_⟩
    rw [dfs_succ]
    refine ⟨by rw [e2.len]; simp, fun y => ?_, fun y hy => ?_, ?_, fun y hy => ?_, fun y hy z hz => ?_, fun A y B e z hz => ?_, by have := e2.cnt; simp only [List.length_append, List.length_singleton] at *; omega, fun A y B z C e hz => ?_⟩
    · rw [e2.mem, on_set hxS, List.mem_append, List.mem_singleton]
      constructor
      · rintro ((h | h) | h)
        · exact Or.inr (Or.inr h)
        · exact Or.inl h
        · exact Or.inr (Or.inl h)
      · rintro (h | h | h)
        · exact Or.inl (Or.inr h)
        · exact Or.inr h
        · exact Or.inl (Or.inl h)
    · rcases List.mem_append.1 hy with hy | hy
      · exact fun k => e2.new y hy ((on_set hxS).2 (Or.inr k))
      · rw [List.mem_singleton.1 hy]; exact hn
    · exact List.nodup_append.2 ⟨e2.nodup, by simp, fun a ha b hb e => e2.new a ha ((on_set hxS).2 (Or.inl (e.trans (List.mem_singleton.1 hb))))⟩
    · rcases List.mem_append.1 hy with hy | hy
      · exact e2.reach y hy
      · exact ⟨x, rfl, List.mem_singleton.1 hy ▸ Rch.refl _⟩
    · rcases List.mem_append.1 hy with hy | hy
      · exact e2.edge y hy z hz
      · rw [List.mem_singleton.1 hy] at hz; exact e3 z hz
    · rcases List.append_eq_append_iff.1 e with ⟨A', q1, q2⟩ | ⟨C, q1, q2⟩
      · -- y is x itself
        have : A' = [] ∧ y = x ∧ B = [] := by
          cases A' with
          | nil => simpa [eq_comm, and_comm] using q2
          | cons a A' => simp at q2
        obtain ⟨rfl, rfl, rfl⟩ := this
        simp only [List.append_nil] at q1
        rcases (e2.mem z).1 (e3 z hz) with h | h
        · rcases (on_set hxS).1 h with h | h
          · exact Or.inr (Or.inl h)
          · exact Or.inr (Or.inr (Or.inl h))
        · exact Or.inl (q1 ▸ h)
      · cases C with
        | nil =>
          simp only [List.nil_append, List.append_nil, List.cons.injEq] at q1 q2
          obtain ⟨rfl, rfl⟩ := q2
          rcases (e2.mem z).1 (e3 z hz) with h | h
          · rcases (on_set hxS).1 h with h | h
            · exact Or.inr (Or.inl h)
            · exact Or.inr (Or.inr (Or.inl h))
          · exact Or.inl (q1 ▸ h)
        | cons c C =>
          simp only [List.cons_append, List.cons.injEq] at q2
          obtain ⟨rfl, rfl⟩ := q2
          rcases e2.order A y C q1 z hz with h | h | h | h
          · exact Or.inl h
          · exact Or.inr (Or.inl h)
          · rcases (on_set hxS).1 h with rfl | h
            · obtain ⟨r, rfl, hr⟩ := e2.reach y (by rw [q1]; simp)
              exact Or.inr (Or.inr (Or.inr ⟨by simp, hr⟩))
            · exact Or.inr (Or.inr (Or.inl h))
          · exact Or.inr (Or.inr (Or.inr ⟨List.mem_append_left _ h.1, h.2⟩))
    · rcases List.eq_nil_or_concat C with rfl | ⟨C', c, rfl⟩
      · have e' : T ++ [x] = (A ++ y :: B) ++ [z] := by rw [e]; simp
        obtain ⟨q1, q2⟩ := List.append_inj' e' rfl
        have q3 : x = z := by simpa using q2
        subst q3
        intro u hu
        obtain ⟨r, rfl, hr⟩ := e2.reach u (by rw [q1]; simp [hu])
        exact hr
      · have e' : T ++ [x] = (A ++ y :: (B ++ z :: C')) ++ [c] := by rw [e]; simp
        obtain ⟨q1, q2⟩ := List.append_inj' e' rfl
        exact e2.mid A y B z C' q1 hz
end Go.Proofs.Ytbliaamckldncaa.Gph
