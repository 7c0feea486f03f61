/- Own text. The names that stand in modules to which stars lead, as the document gathers them: mathematics: the same modules, the same names, in the same order as the program's. A name more in a rising list: the document's add. A name more in a rising list: the document's add, the walk. The names of modules to which stars lead: the document's names: what is kept from world to world. The names of modules to which stars lead: the document's names, the walk. -/
import Derived.Test.YtadkmlcnmkdfiaaGreatDoorGpG
namespace Go.Proofs.YtadkmlcnmkdfiaaGreatDoor
open Go.RowKit Xp
set_option linter.unusedVariables false
set_option linter.unusedSimpArgs false

/-- a star leads from one module to another. -/
def nxt (L : List Es) (a b : Nat) : Prop := ∃ e, L[a]? = some e ∧ ∃ z ∈ e.st, hasB L.length z.mod = true ∧ z.mod.toNat = b
inductive Rc (L : List Es) (r : Nat) : Nat → Prop
  | refl : Rc L r r
  | step {a b : Nat} : Rc L r a → nxt L a b → Rc L r b
theorem fold_has (n : Nat) : ∀ (st : List En) (l : List Nat) (z : En), z ∈ st → hasB n z.mod = true → z.mod.toNat ∈ st.foldl (stp n) l
  | [], _, _, h, _ => by simp at h
  | y :: st, l, z, h, hb => by
    rcases List.mem_cons.1 h with rfl | h
    · rw [List.foldl_cons]
      obtain ⟨r, hr⟩ := fold_pre n st (stp n l z)
      rw [hr]
      refine List.mem_append_left _ ?_
      unfold stp
      by_cases hm : z.mod.toNat ∈ l
      · rw [if_neg (by simp [hm])]; exact hm
      · rw [if_pos ⟨hb, hm⟩]; simp
    · exact fold_has n st _ z h hb
theorem fold_from (n : Nat) (R : Nat → Prop) : ∀ (st : List En) (l : List Nat), (∀ x ∈ l, R x) → (∀ z ∈ st, hasB n z.mod = true → R z.mod.toNat) → ∀ x ∈ st.foldl (stp n) l, R x
  | [], _, h, _ => h
  | y :: st, l, h, hs => by
    rw [List.foldl_cons]
    refine fold_from n R st _ ?_ (fun z hz => hs z (List.mem_cons_of_mem _ hz))
    unfold stp
    split
    · rename_i hc
      intro x hx
      rcases List.mem_append.1 hx with hx | hx
      · exact h x hx
      · obtain rfl := List.mem_singleton.1 hx
        exact hs y (by simp) hc.1
    · exact h
theorem bfs_from (L : List Es) (R : Nat → Prop) (hR : ∀ a b, R a → nxt L a b → R b) : ∀ (f i : Nat) (l : List Nat), (∀ x ∈ l, R x) → ∀ x ∈ bfs L f i l, R x
  | 0, _, _, h => h
  | f + 1, i, l, h => by
    unfold bfs
    split
    · exact h
    · rename_i m hm
      refine bfs_from L R hR f (i + 1) _ (fold_from _ R _ _ h ?_)
      intro z hz hb
      have hRm := h m (List.mem_of_getElem? hm)
      cases hL : L[m]? with
      | none => rw [hL] at hz; simp at hz
      | some e =>
        rw [hL] at hz
        exact hR m _ hRm ⟨e, hL, z, by simpa using hz, hb, rfl⟩
theorem bfs_mono (L : List Es) : ∀ (f i : Nat) (l : List Nat), ∀ x ∈ l, x ∈ bfs L f i l
  | 0, _, _, _, h => h
  | f + 1, i, l, x, h => by
    unfold bfs
    split
    · exact h
    · rename_i m hm
      refine bfs_mono L f (i + 1) _ x ?_
      obtain ⟨r, hr⟩ := fold_pre L.length (((L[m]?).map (·.st)).getD []) l
      rw [hr]
      exact List.mem_append_left _ h
theorem bfs_closed (L : List Es) : ∀ (f i : Nat) (l : List Nat), (l.Nodup ∧ ∀ x ∈ l, x < L.length) → L.length ≤ f + i → (∀ j a, j < i → l[j]? = some a → ∀ b, nxt L a b → b ∈ l) → ∀ a ∈ bfs L f i l, ∀ b, nxt L a b → b ∈ bfs L f i l
  | 0, i, l, hn, hi, hc => fun a ha b hb => by
    have := nd_len hn
    unfold bfs at ha ⊢
    obtain ⟨j, hj, e⟩ := List.getElem_of_mem ha
    exact hc j a (by omega) (by rw [List.getElem?_eq_getElem hj, e]) b hb
  | f + 1, i, l, hn, hi, hc => by
    unfold bfs
    split
    · rename_i hno
      intro a ha b hb
      have hno := List.getElem?_eq_none_iff.1 hno
      obtain ⟨j, hj, e⟩ := List.getElem_of_mem ha
      exact hc j a (by omega) (by rw [List.getElem?_eq_getElem hj, e]) b hb
    · rename_i m hm
      refine bfs_closed L f (i + 1) _ (fold_nd _ _ _ hn) (by omega) ?_
      intro j a hj ha b hb
      obtain ⟨r, hr⟩ := fold_pre L.length (((L[m]?).map (·.st)).getD []) l
      have hil := (List.getElem?_eq_some_iff.1 hm).1
      rw [hr, List.getElem?_append_left (by omega)] at ha
      by_cases e : j = i
      · subst e
        obtain rfl : m = a := Option.some.inj (hm.symm.trans ha)
        obtain ⟨e, he, z, hz, hb', rfl⟩ := hb
        exact fold_has _ _ _ z (by rw [he]; simpa using hz) hb'
      · rw [hr]
        exact List.mem_append_left _ (hc j a (by omega) ha b hb)
theorem mem_star {L : List Es} {mod : Int} {x : Nat} : x ∈ starL L mod ↔ hasB L.length mod = true ∧ Rc L mod.toNat x := by
  unfold starL
  by_cases h : hasB L.length mod = true
  · have hl := hasB_lt h
    rw [if_pos h]
    constructor
    · intro hx
      exact ⟨h, bfs_from L (Rc L mod.toNat) (fun a b => Rc.step) _ _ _ (by simp; exact Rc.refl) x hx⟩
    · rintro ⟨_, hr⟩
      induction hr with
      | refl => exact bfs_mono L _ _ _ _ (by simp)
      | step _ hn ih => exact bfs_closed L _ _ _ ⟨by simp, by simp; omega⟩ (by omega) (fun j a hj => by omega) _ ih _ hn
  · rw [if_neg h]
    simp [h]

/-- one text is ahead of another. -/
abbrev ltB (a b : ByteArray) : Prop := a.data.toList < b.data.toList
theorem ltB_irrefl (a : ByteArray) : ¬ ltB a a := List.lt_irrefl _
theorem ltB_trans {a b c : ByteArray} (h1 : ltB a b) (h2 : ltB b c) : ltB a c := List.lt_trans h1 h2
theorem ltB_total {a b : ByteArray} (h1 : ¬ ltB a b) (h2 : a ≠ b) : ltB b a := by
  have h : b.data.toList ≤ a.data.toList := List.not_lt.1 h1
  refine Classical.byContradiction fun h3 => ?_
  have h4 : a.data.toList ≤ b.data.toList := List.not_lt.1 h3
  exact h2 (ByteArray.ext (Array.toList_inj.1 (List.le_antisymm h4 h)))
def insB (x : ByteArray) : List ByteArray → List ByteArray
  | [] => [x]
  | y :: r => if ltB y x then y :: insB x r else if y = x then y :: r else x :: y :: r
theorem mem_insB {x z : ByteArray} : ∀ {l : List ByteArray}, z ∈ insB x l ↔ z = x ∨ z ∈ l
  | [] => by simp [insB]
  | y :: r => by
    unfold insB
    split
    · rw [List.mem_cons, mem_insB, List.mem_cons]
      constructor
      · rintro (h | h | h) <;> simp [h]
      · rintro (h | h | h) <;> simp [h]
    · split
      · rename_i h
        subst h
        simp
      · simp
abbrev RisB (l : List ByteArray) : Prop := l.Pairwise ltB
theorem ris_insB {x : ByteArray} : ∀ {l : List ByteArray}, RisB l → RisB (insB x l)
  | [], _ => by simp [insB, RisB]
  | y :: r, h => by
    obtain ⟨h1, h2⟩ := List.pairwise_cons.1 h
    unfold insB
    split
    · rename_i hy
      refine List.pairwise_cons.2 ⟨fun z hz => ?_, ris_insB h2⟩
      rcases mem_insB.1 hz with rfl | hz
      · exact hy
      · exact h1 z hz
    · split
      · exact h
      · rename_i hy he
        have hl := ltB_total hy he
        refine List.pairwise_cons.2 ⟨fun z hz => ?_, h⟩
        rcases List.mem_cons.1 hz with rfl | hz
        · exact hl
        · exact ltB_trans hl (h1 z hz)
theorem ris_ext {l m : List ByteArray} (hl : RisB l) (hm : RisB m) (h : ∀ x, x ∈ l ↔ x ∈ m) : l = m := by
  have nd : ∀ {K : List ByteArray}, RisB K → K.Nodup := fun hK => hK.imp fun {a b} hab e => by rw [e] at hab; exact ltB_irrefl _ hab
  refine List.Perm.eq_of_pairwise (le := ltB) (fun a b _ _ h1 h2 => ?_) hl hm ((List.perm_ext_iff_of_nodup (nd hl) (nd hm)).2 h)
  exact absurd (ltB_trans h1 h2) (ltB_irrefl _)
def addIf (fi : Bool) (o : List ByteArray) (x : ByteArray) : List ByteArray := if fi = true ∨ x ≠ dflt then insB x o else o
/-- what the document's names goes through: modules that were seen, names. -/
def nmF (L : List Es) : Nat → Int → Bool → List Nat → List ByteArray → List Nat × List ByteArray
  | 0, _, _, s, o => (s, o)
  | f + 1, m, fi, s, o => match L[m.toNat]? with
    | none => (s, o)
    | some e => if hasB L.length m = true ∧ m.toNat ∉ s then e.st.foldl (fun p z => nmF L f z.mod false p.1 p.2) (s ++ [m.toNat], (nmsE e).foldl (addIf fi) o) else (s, o)
theorem mem_adds {fi : Bool} {z : ByteArray} : ∀ {l o : List ByteArray}, z ∈ l.foldl (addIf fi) o ↔ z ∈ o ∨ z ∈ l ∧ (z ≠ dflt ∨ fi = true)
  | [], o => by simp
  | x :: l, o => by
    rw [List.foldl_cons, mem_adds]
    unfold addIf
    split
    · rename_i hc
      rw [mem_insB, List.mem_cons]
      constructor
      · rintro ((h | h) | h)
        · subst h; exact Or.inr ⟨Or.inl rfl, hc.symm⟩
        · exact Or.inl h
        · exact Or.inr ⟨Or.inr h.1, h.2⟩
      · rintro (h | ⟨h | h, h2⟩)
        · exact Or.inl (Or.inr h)
        · exact Or.inl (Or.inl h)
        · exact Or.inr ⟨h, h2⟩
    · rename_i hc
      have h1 : fi ≠ true := fun h => hc (Or.inl h)
      have h2 : x = dflt := Classical.byContradiction fun h => hc (Or.inr h)
      rw [List.mem_cons]
      constructor
      · rintro (h | h)
        · exact Or.inl h
        · exact Or.inr ⟨Or.inr h.1, h.2⟩
      · rintro (h | ⟨h | h, h3⟩)
        · exact Or.inl h
        · subst h
          rcases h3 with h3 | h3
          · exact absurd h2 h3
          · exact absurd h3 h1
        · exact Or.inr ⟨h, h3⟩
theorem ris_adds {fi : Bool} : ∀ {l o : List ByteArray}, RisB o → RisB (l.foldl (addIf fi) o)
  | [], _, h => h
  | x :: l, o, h => by
    rw [List.foldl_cons]
    refine ris_adds ?_
    unfold addIf
    split
    · exact ris_insB h
    · exact h
/-- modules that were seen before and behind. -/
structure Dn (L : List Es) (s : List Nat) (o : List ByteArray) (p : List Nat × List ByteArray) (q : Nat → ByteArray → Prop) : Prop where
  pre : ∃ r, p.1 = s ++ r
  nd : p.1.Nodup ∧ ∀ x ∈ p.1, x < L.length
  cl : ∀ a ∈ p.1, a ∉ s → ∀ b, nxt L a b → b ∈ p.1
  out : ∀ x, x ∈ p.2 ↔ x ∈ o ∨ ∃ a ∈ p.1, a ∉ s ∧ ∃ e, L[a]? = some e ∧ x ∈ nmsE e ∧ (x ≠ dflt ∨ q a x)
  ris : RisB o → RisB p.2
theorem Dn.mem {L : List Es} {s : List Nat} {o : List ByteArray} {p : List Nat × List ByteArray} {q : Nat → ByteArray → Prop} (h : Dn L s o p q) {a : Nat} (ha : a ∈ s) : a ∈ p.1 := by
  obtain ⟨r, e⟩ := h.pre
  rw [e]
  exact List.mem_append_left _ ha
theorem Dn.refl {L : List Es} {s : List Nat} (o : List ByteArray) (q : Nat → ByteArray → Prop) (h : s.Nodup ∧ ∀ x ∈ s, x < L.length) : Dn L s o (s, o) q :=
  ⟨⟨[], by simp⟩, h, fun a ha hn => absurd ha hn, fun x => ⟨Or.inl, fun h => h.elim id fun ⟨a, ha, hn, _⟩ => absurd ha hn⟩, id⟩
theorem Dn.trans {L : List Es} {s : List Nat} {o : List ByteArray} {p p' : List Nat × List ByteArray} (h : Dn L s o p fun _ _ => False) (h' : Dn L p.1 p.2 p' fun _ _ => False) : Dn L s o p' fun _ _ => False := by
  refine ⟨?_, h'.nd, fun a ha hn b hb => ?_, fun x => ?_, fun ho => h'.ris (h.ris ho)⟩
  · obtain ⟨r, e⟩ := h.pre
    obtain ⟨r', e'⟩ := h'.pre
    exact ⟨r ++ r', by rw [e', e, List.append_assoc]⟩
  · by_cases h1 : a ∈ p.1
    · exact h'.mem (h.cl a h1 hn b hb)
    · exact h'.cl a ha h1 b hb
  · rw [h'.out x, h.out x]
    constructor
    · rintro ((hx | ⟨a, ha, hn, k⟩) | ⟨a, ha, hn, k⟩)
      · exact Or.inl hx
      · exact Or.inr ⟨a, h'.mem ha, hn, k⟩
      · exact Or.inr ⟨a, ha, fun hs => hn (h.mem hs), k⟩
    · rintro (hx | ⟨a, ha, hn, k⟩)
      · exact Or.inl (Or.inl hx)
      · by_cases h1 : a ∈ p.1
        · exact Or.inl (Or.inr ⟨a, h1, hn, k⟩)
        · exact Or.inr ⟨a, ha, h1, k⟩
theorem nmF_done (L : List Es) (R : Nat → Prop) (hR : ∀ a b, R a → nxt L a b → R b) : ∀ (f : Nat) (m : Int) (fi : Bool) (s : List Nat) (o : List ByteArray), (s.Nodup ∧ ∀ x ∈ s, x < L.length) → L.length ≤ f + s.length → Dn L s o (nmF L f m fi s o) (fun a _ => fi = true ∧ a = m.toNat) ∧ (hasB L.length m = true → m.toNat ∈ (nmF L f m fi s o).1) ∧ ((hasB L.length m = true → R m.toNat) → ∀ a ∈ (nmF L f m fi s o).1, a ∉ s → R a)
  | 0, m, fi, s, o, hs, hf => by
    refine ⟨Dn.refl o _ hs, fun hb => ?_, fun _ a ha hn => absurd ha hn⟩
    have hl := hasB_lt hb
    refine Classical.byContradiction fun hn => ?_
    have : (m.toNat :: s).length ≤ L.length := nd_len ⟨List.nodup_cons.2 ⟨hn, hs.1⟩, fun x hx => (List.mem_cons.1 hx).elim (fun e => by omega) (hs.2 x)⟩
    simp at this
    omega
  | f + 1, m, fi, s, o, hs, hf => by
    unfold nmF
    cases hL : L[m.toNat]? with
    | none =>
      refine ⟨Dn.refl o _ hs, fun hb => ?_, fun _ a ha hn => absurd ha hn⟩
      have hl := hasB_lt hb
      have := List.getElem?_eq_none_iff.1 hL
      omega
    | some e =>
      dsimp only
      by_cases hc : hasB L.length m = true ∧ m.toNat ∉ s
      · rw [if_pos hc]
        obtain ⟨hb, hm⟩ := hc
        have hl := hasB_lt hb
        have hs1 : (s ++ [m.toNat]).Nodup ∧ ∀ x ∈ s ++ [m.toNat], x < L.length := ⟨List.nodup_append.2 ⟨hs.1, by simp, fun a ha b hb => by
          obtain rfl := List.mem_singleton.1 hb
          exact fun e => hm (e ▸ ha)⟩, fun x hx => (List.mem_append.1 hx).elim (hs.2 x) fun h => by have := List.mem_singleton.1 h; omega⟩
        have key : ∀ (st : List En) (s1 : List Nat) (o1 : List ByteArray), (s1.Nodup ∧ ∀ x ∈ s1, x < L.length) → L.length ≤ f + s1.length → Dn L s1 o1 (st.foldl (fun p z => nmF L f z.mod false p.1 p.2) (s1, o1)) (fun _ _ => False) ∧ (∀ z ∈ st, hasB L.length z.mod = true → z.mod.toNat ∈ (st.foldl (fun p z => nmF L f z.mod false p.1 p.2) (s1, o1)).1) ∧ ((∀ z ∈ st, hasB L.length z.mod = true → R z.mod.toNat) → ∀ a ∈ (st.foldl (fun p z => nmF L f z.mod false p.1 p.2) (s1, o1)).1, a ∉ s1 → R a) := by
          intro st
          induction st with
          | nil => exact fun s1 o1 h1 _ => ⟨Dn.refl o1 _ h1, by simp, fun _ a ha hn => absurd ha hn⟩
          | cons z st ih =>
            intro s1 o1 h1 hf1
            rw [List.foldl_cons]
            obtain ⟨d1, d2, d3⟩ := nmF_done L R hR f z.mod false s1 o1 h1 hf1
            have d1 : Dn L s1 o1 (nmF L f z.mod false s1 o1) (fun _ _ => False) := ⟨d1.pre, d1.nd, d1.cl, fun x => by rw [d1.out x]; simp, d1.ris⟩
            have hlen : s1.length ≤ (nmF L f z.mod false s1 o1).1.length := by obtain ⟨r, e⟩ := d1.pre; rw [e]; simp
            obtain ⟨e1, e2, e3⟩ := ih _ (nmF L f z.mod false s1 o1).2 d1.nd (by omega)
            refine ⟨d1.trans e1, fun y hy hb => ?_, fun hz a ha hn => ?_⟩
            · rcases List.mem_cons.1 hy with rfl | hy
              · exact e1.mem (d2 hb)
              · exact e2 y hy hb
            · by_cases h1 : a ∈ (nmF L f z.mod false s1 o1).1
              · exact d3 (hz z (by simp)) a h1 hn
              · exact e3 (fun y hy => hz y (List.mem_cons_of_mem _ hy)) a ha h1
        obtain ⟨k1, k2, k3⟩ := key e.st _ ((nmsE e).foldl (addIf fi) o) hs1 (by simp; omega)
        generalize e.st.foldl (fun p z => nmF L f z.mod false p.1 p.2) (s ++ [m.toNat], (nmsE e).foldl (addIf fi) o) = p at *
        have hmp : m.toNat ∈ p.1 := k1.mem (by simp)
        refine ⟨⟨?_, k1.nd, fun a ha hn b hb => ?_, fun x => ?_, fun ho => k1.ris (ris_adds ho)⟩, fun _ => hmp, fun hRm a ha hn => ?_⟩
        · obtain ⟨r, e⟩ := k1.pre
          exact ⟨[m.toNat] ++ r, by rw [e, List.append_assoc]⟩
        · by_cases e1 : a = m.toNat
          · subst e1
            obtain ⟨e', he, z, hz, hb', rfl⟩ := hb
            obtain rfl : e = e' := Option.some.inj (hL.symm.trans he)
            exact k2 z hz hb'
          · exact k1.cl a ha (by simp [hn, e1]) b hb
        · rw [k1.out x, mem_adds]
          constructor
          · rintro ((hx | ⟨hx, h2⟩) | ⟨a, ha, hn, e', he, hx, h2⟩)
            · exact Or.inl hx
            · exact Or.inr ⟨m.toNat, hmp, hm, e, hL, hx, h2.imp id fun h => ⟨h, rfl⟩⟩
            · exact Or.inr ⟨a, ha, fun hs => hn (List.mem_append_left _ hs), e', he, hx, Or.inl (h2.resolve_right id)⟩
          · rintro (hx | ⟨a, ha, hn, e', he, hx, h2⟩)
            · exact Or.inl (Or.inl hx)
            · by_cases e1 : a = m.toNat
              · subst e1
                obtain rfl : e = e' := Option.some.inj (hL.symm.trans he)
                exact Or.inl (Or.inr ⟨hx, h2.imp id (·.1)⟩)
              · refine Or.inr ⟨a, ha, by simp [hn, e1], e', he, hx, Or.inl ?_⟩
                rcases h2 with h2 | h2
                · exact h2
                · exact absurd h2.2 e1
        · by_cases e1 : a = m.toNat
          · rw [e1]; exact hRm hb
          · exact k3 (fun z hz hb' => hR _ _ (hRm hb) ⟨e, hL, z, hz, hb', rfl⟩) a ha (by simp [hn, e1])
      · rw [if_neg hc]
        refine ⟨Dn.refl o _ hs, fun hb => ?_, fun _ a ha hn => absurd ha hn⟩
        exact Classical.byContradiction fun hn => hc ⟨hb, hn⟩
/-- the document's list of all names. -/
def allL (L : List Es) (mod : Int) : List ByteArray := (nmF L L.length mod true [] []).2
theorem mem_all {L : List Es} {mod : Int} {x : ByteArray} : x ∈ allL L mod ↔ ∃ a ∈ starL L mod, ∃ e, L[a]? = some e ∧ x ∈ nmsE e ∧ (x ≠ dflt ∨ a = mod.toNat) := by
  obtain ⟨d, d2, d3⟩ := nmF_done L (fun a => hasB L.length mod = true ∧ Rc L mod.toNat a) (fun a b ha hn => ⟨ha.1, ha.2.step hn⟩) L.length mod true [] [] ⟨by simp, by simp⟩ (by omega)
  have hs : ∀ a, a ∈ (nmF L L.length mod true [] []).1 ↔ a ∈ starL L mod := fun a => by
    rw [mem_star]
    constructor
    · intro ha
      by_cases hb : hasB L.length mod = true
      · exact d3 (fun _ => ⟨hb, Rc.refl⟩) a ha (by simp)
      · exact d3 (fun h => absurd h hb) a ha (by simp)
    · rintro ⟨hb, hr⟩
      induction hr with
      | refl => exact d2 hb
      | step _ hn ih => exact d.cl _ ih (by simp) _ hn
  unfold allL
  rw [d.out x]
  constructor
  · rintro (h | ⟨a, ha, _, e, he, hx, h2⟩)
    · simp at h
    · exact ⟨a, (hs a).1 ha, e, he, hx, h2.imp id (·.2)⟩
  · rintro ⟨a, ha, e, he, hx, h2⟩
    exact Or.inr ⟨a, (hs a).2 ha, by simp, e, he, hx, h2.imp id fun h => ⟨rfl, h⟩⟩
theorem ris_all (L : List Es) (mod : Int) : RisB (allL L mod) :=
  (nmF_done L (fun _ => True) (fun _ _ _ _ => trivial) L.length mod true [] [] ⟨by simp, by simp⟩ (by omega)).1.ris List.Pairwise.nil
end Go.Proofs.YtadkmlcnmkdfiaaGreatDoor
namespace Go.Proofs.YtadkmlcnmkdfiaaGreatDoor
open Go.RowKit Xp
set_option linter.unusedVariables false
set_option linter.unusedSimpArgs false

theorem less_ltB (a b : ByteArray) : Op.bytesLess a.toList b.toList = decide (ltB a b) := by rw [bytesLess_eq, Lib.toList_data, Lib.toList_data]
theorem eql_ba (a b : ByteArray) : (a.toList == b.toList) = decide (a = b) := by
  rw [Lib.toList_data, Lib.toList_data, Bool.eq_iff_iff]
  simp only [beq_iff_eq, decide_eq_true_eq]
  exact ⟨fun h => ByteArray.ext (Array.toList_inj.1 h), fun h => by rw [h]⟩
theorem ins_hit {x : ByteArray} : ∀ {l : List ByteArray} {k : Nat} (hk : k < l.length), (∀ i (hi : i < l.length), i < k → ltB l[i] x) → l[k] = x → insB x l = l
  | [], _, hk, _, _ => by simp at hk
  | y :: r, 0, _, _, e => by
    have e : y = x := e
    subst e
    unfold insB
    rw [if_neg (ltB_irrefl _), if_pos rfl]
  | y :: r, k + 1, hk, hlo, e => by
    have h0 := hlo 0 (by simp) (by omega)
    simp only [List.getElem_cons_zero] at h0
    unfold insB
    rw [if_pos h0, ins_hit (k := k) (by simpa using hk) (fun i hi hik => by have := hlo (i + 1) (by simpa using hi) (by omega); simpa using this) (by simpa using e)]
theorem ins_gap {x : ByteArray} : ∀ {l : List ByteArray} {k : Nat}, k ≤ l.length → (∀ i (hi : i < l.length), i < k → ltB l[i] x) → (∀ h : k < l.length, ¬ ltB l[k] x ∧ l[k] ≠ x) → insB x l = l.take k ++ [x] ++ l.drop k
  | [], k, _, _, _ => by simp [insB]
  | y :: r, 0, _, _, h => by
    obtain ⟨h1, h2⟩ := h (by simp)
    simp only [List.getElem_cons_zero] at h1 h2
    unfold insB
    rw [if_neg h1, if_neg h2]
    rfl
  | y :: r, k + 1, hk, hlo, h => by
    have h0 := hlo 0 (by simp) (by omega)
    simp only [List.getElem_cons_zero] at h0
    unfold insB
    rw [if_pos h0, ins_gap (k := k) (by simpa using hk) (fun i hi hik => by have := hlo (i + 1) (by simpa using hi) (by omega); simpa using this) (fun hl => by have := h (by simpa using hl); simpa using this)]
    rfl
theorem addA (g o j : Nat) : (⟨g, o, none⟩ : Addr).add j = ⟨g, o + j, none⟩ := by unfold Addr.add; split <;> simp_all
/-- texts that may be laid behind others. -/
def SSrc (w : World) (y : Value) (F : List ByteArray) : Prop := (∃ g o c, y = .slice (some ⟨g, o, none⟩) F.length c ∧ (F ≠ [] → g < w.heap.size) ∧ ∀ j u, (F.map Value.string)[j]? = some u → w.cell? ⟨g, o + j, none⟩ = some u) ∨ (F = [] ∧ ∃ c, y = .slice none 0 c)
theorem SSrc.bel {w w' : World} {y : Value} {F : List ByteArray} (h : SSrc w y F) (b : Below w.heap.size w w') : SSrc w' y F := by
  rcases h with ⟨g, o, c, rfl, hl, hc⟩ | h
  · refine .inl ⟨g, o, c, rfl, fun hF => Nat.lt_of_lt_of_le (hl hF) b.size, fun j u hu => ?_⟩
    have hF : F ≠ [] := fun e => by subst e; simp at hu
    exact (World.cell?_of_block (a := ⟨g, o + j, none⟩) (b.block g (hl hF))).trans (hc j u hu)
  · exact .inr h
theorem run_appT (w : World) (ty : TypeId) (base : Nat) (v : Value) (G : List ByteArray) (hown : TS w base v G) (y : Value) (F : List ByteArray) (hy : SSrc w y F)
    (hb : (G.length + F.length) * 16 ≤ 140737488355328) (hbase : base ≤ w.heap.size) :
    ∃ v' w', (Builtin.append_ #[44, 44] ty #[v, y]).run Tryz.prog w = .ok v' w' ∧ TS w' base v' (G ++ F) ∧ w.grownBy w' v.ownBlock := by
  obtain ⟨i0, hi0, hz0, hz1, hz2⟩ := info_parts info_st
  rcases hy with ⟨g, o, c, rfl, _, hc⟩ | ⟨rfl, c, rfl⟩
  · obtain ⟨v', w', h1, h2, h3, _, h5⟩ := run_append_own_at (P := Tryz.prog) w base 44 ty 9 i0 _ 1 16 under_strs hi0 hz0 hz1 hz2 rfl (by omega) v G.length (G.map .string) hown ⟨g, o, none⟩ F.length c (F.map .string) (by simp) (fun j u hu => by rw [addA]; exact hc j u hu) (by simp [Value.oneCell']) (by unfold maxLen; omega) hb hbase
    refine ⟨v', w', h1, ?_, h3⟩
    unfold TS
    rw [List.length_append, List.map_append]
    exact h2
  · refine ⟨v, w, ?_, by rw [List.append_nil]; exact hown, ⟨rfl, rfl, rfl, Nat.le_refl _, fun _ _ _ => rfl⟩⟩
    rcases hown.2 with ⟨rfl, h0⟩ | ⟨g, cap, cur, rfl, hb, hg, hn, hm, hcs, htk⟩
    · simp [Builtin.append_, run_underlying under_strs, Builtin.lenOf]
      rw [run_firstCells_none w 1 0 0 c]
      rfl
    · have := run_append_room_src (P := Tryz.prog) w 44 44 ty 9 i0 under_strs hi0 g 0 G.length cap (.slice none 0 c) 0 [] (Src.ofNil w under_strs c) (by omega) (fun j hj => by simp at hj) (fun j hj => by simp at hj)
      simpa [World.setCells] using this
theorem wpList_appT (w : World) {ops : Array Oper} {rest : List Oper} {o : Oper} {a : Act} {Q : Exit → Act → World → Prop} (hgd : o.guard = none) (s x : Operand)
    (ho : o.op = .call { callee := .builtin .append, args := #[s, x], argTypes := #[44, 44] }) (base : Nat) (v : Value) (G : List ByteArray) (hs : a.eval s = v) (hown : TS w base v G) (y : Value) (F : List ByteArray) (hx : a.eval x = y) (hy : SSrc w y F)
    (hb : (G.length + F.length) * 16 ≤ 140737488355328) (hbase : base ≤ w.heap.size)
    (h : ∀ v' w', TS w' base v' (G ++ F) → w.grownBy w' v.ownBlock → wpList Tryz.prog ops Q rest (a.put o.dst v') w') :
    wpList Tryz.prog ops Q (o :: rest) a w := by
  refine wpList_plain hgd fun K hK => ?_
  obtain ⟨v', w', hr, h2, h3⟩ := run_appT w o.type base v G hown y F hy hb hbase
  unfold Oper.wp execOp
  simp only [ho, resolve, invoke, builtin, Sem.run_bind, Sem.run_pure, Result.andThen_ok, List.map_toArray, List.map_cons, List.map_nil, hs, hx, hr]
  exact hK _ _ (h v' w' h2 h3)
theorem row_cellsT {w : World} {base g cap : Nat} {l : List ByteArray} (h : TS w base (.slice (some ⟨g, 0, none⟩) l.length cap) l) : ∀ j u, (l.map Value.string)[j]? = some u → w.cell? ⟨g, j, none⟩ = some u := fun j u hu => by
  have hj : j < l.length := by have := (List.getElem?_eq_some_iff.1 hu).1; simpa using this
  have ci := World.ownsRow.cellAt h j (by omega)
  rw [hu] at ci
  exact ci
/-- the beginning of a row. -/
theorem head_T {w : World} {base : Nat} {v : Value} {l : List ByteArray} (h : TS w base v l) (i : Nat) (hi : i ≤ l.length) (hL : l.length < 4611686018427387904) :
    ∃ y, (∀ W, (Instr.slice 44 v none (some (.int .i64 (i : Int))) none).run Tryz.prog W = .ok y W) ∧ SSrc w y (l.take i) := by
  have htl : (l.take i).length = i := by simp; omega
  rcases h.2 with ⟨rfl, h0⟩ | ⟨g, cap, cur, rfl, hb, hg, hn, hm, hcs, htk⟩
  · have hi0 : i = 0 := by omega
    subst hi0
    refine ⟨.slice none 0 0, fun W => ?_, .inr ⟨by simp, 0, rfl⟩⟩
    go_simp
  · refine ⟨.slice (some ⟨g, 0, none⟩) i cap, fun W => ?_, .inl ⟨g, 0, cap, by rw [htl], fun _ => (Array.getElem?_eq_some_iff.1 hg).1, fun j u hu => ?_⟩⟩
    · have h1 : (0 : Int) ≤ (i : Int) := by omega
      have h2 : (i : Int) ≤ (cap : Int) := by omega
      have h3 : (i : Int) ≤ (l.length : Int) := by omega
      go_simp
    · rw [Nat.zero_add]
      refine row_cellsT h j u ?_
      rw [List.map_take] at hu
      have hj := (List.getElem?_eq_some_iff.1 hu).1
      have hj2 : j < i := by have := List.length_take_le i (l.map Value.string); omega
      rw [List.getElem?_take_of_lt hj2] at hu
      exact hu
/-- the rest of a row. -/
theorem tail_T {w : World} {base : Nat} {v : Value} {l : List ByteArray} (h : TS w base v l) (i : Nat) (hi : i ≤ l.length) (hL : l.length < 4611686018427387904) :
    ∃ y, (∀ W, (Instr.slice 44 v (some (.int .i64 (i : Int))) none none).run Tryz.prog W = .ok y W) ∧ SSrc w y (l.drop i) := by
  have htl : (l.drop i).length = l.length - i := by simp
  rcases h.2 with ⟨rfl, h0⟩ | ⟨g, cap, cur, rfl, hb, hg, hn, hm, hcs, htk⟩
  · have hi0 : i = 0 := by omega
    subst hi0
    refine ⟨.slice none 0 0, fun W => ?_, .inr ⟨by rw [List.drop_zero]; exact List.length_eq_zero_iff.1 h0, 0, rfl⟩⟩
    go_simp
  · have h1 : (0 : Int) ≤ (i : Int) := by omega
    have h2 : (i : Int) ≤ (cap : Int) := by omega
    have h3 : (i : Int) ≤ (l.length : Int) := by omega
    by_cases hci : cap = i
    · have hLi : l.length = i := by omega
      refine ⟨.slice (some ⟨g, 0, none⟩) (l.length - i) (cap - i), fun W => ?_, .inl ⟨g, 0, cap - i, by rw [htl], fun _ => (Array.getElem?_eq_some_iff.1 hg).1, fun j u hu => ?_⟩⟩
      · go_simp
      · rw [List.drop_of_length_le (by omega)] at hu
        simp at hu
    · refine ⟨.slice (some ⟨g, i, none⟩) (l.length - i) (cap - i), fun W => ?_, .inl ⟨g, i, cap - i, by rw [htl], fun _ => (Array.getElem?_eq_some_iff.1 hg).1, fun j u hu => ?_⟩⟩
      · go_simp
      · refine row_cellsT h _ u ?_
        rw [List.map_drop, List.getElem?_drop] at hu
        exact hu
theorem src_new (w : World) (x : ByteArray) : SSrc (w.alloc (.cells #[.string x] 9)) (.slice (some ⟨w.heap.size, 0, none⟩) 1 1) [x] := by
  refine .inl ⟨w.heap.size, 0, 1, rfl, fun _ => by simp, fun j u hu => ?_⟩
  have hj : j = 0 := by have := (List.getElem?_eq_some_iff.1 hu).1; simp at this; omega
  subst hj
  have e : Value.string x = u := by simpa using hu
  rw [← e]
  have := hnewX (w := w) (.cells #[.string x] 9) rfl
  unfold World.cell?
  rw [show (⟨w.heap.size, 0 + 0, none⟩ : Addr).block = w.heap.size from rfl, this]
  rfl
theorem TI.atN {w : World} {base : Nat} {v : Value} {l : List Nat} (h : TI w base v l) {i : Nat} (hi : i < l.length) : ∃ g c, v = .slice (some ⟨g, 0, none⟩) l.length c ∧ w.cell? ⟨g, i, none⟩ = some (.int .i64 (l[i] : Nat)) := by
  obtain ⟨g, c, rfl, hb, _⟩ := row_someI h (by omega)
  have ci := World.ownsRow.cellAt h i (by omega)
  rw [List.getElem?_map, List.getElem?_eq_getElem hi] at ci
  exact ⟨g, c, rfl, ci⟩
theorem TS.atN {w : World} {base : Nat} {v : Value} {l : List ByteArray} (h : TS w base v l) {i : Nat} (hi : i < l.length) : ∃ g c, v = .slice (some ⟨g, 0, none⟩) l.length c ∧ w.cell? ⟨g, i, none⟩ = some (.string l[i]) := by
  obtain ⟨g, c, rfl, hb, _⟩ := row_someI h (by omega)
  have ci := World.ownsRow.cellAt h i (by omega)
  rw [List.getElem?_map, List.getElem?_eq_getElem hi] at ci
  exact ⟨g, c, rfl, ci⟩
end Go.Proofs.YtadkmlcnmkdfiaaGreatDoor
namespace Go.Proofs.YtadkmlcnmkdfiaaGreatDoor
open Go.RowKit Xp
set_option linter.unusedVariables false
set_option linter.unusedSimpArgs false

set_option maxRecDepth 100000 in
set_option maxHeartbeats 8000000 in
theorem radd_any {W : World} {B : Nat} {v : Value} {l : List ByteArray} (x : ByteArray) (hT : TS W B v l) (hB : B ≤ W.heap.size) (hl : l.length ≤ 2199023255552) :
    Calls Tryz.prog 63 #[v, .string x] W fun e w' => ∃ v', e = .returned v' ∧ TS w' B v' (insB x l) ∧ Below W.heap.size W w' := by
  have HT : Hid (TS W B v l) := hT
  have HH : Hid (∀ k, k ≤ l.length → ∃ y, (∀ W, (Instr.slice 44 v none (some (.int .i64 (k : Int))) none).run Tryz.prog W = .ok y W) ∧ SSrc W y (l.take k)) := fun k hk => head_T hT k hk (by omega)
  have HL : Hid (∀ k, k ≤ l.length → ∃ y, (∀ W, (Instr.slice 44 v (some (.int .i64 (k : Int))) none none).run Tryz.prog W = .ok y W) ∧ SSrc W y (l.drop k)) := fun k hk => tail_T hT k hk (by omega)
  obtain ⟨va, vc, rfl⟩ := TS.form hT
  clear hT
  go_enter Tryz.func63, Tryz.ntmps63
  go_wp2
  go_loopw [5] (fun v5 wr => ∃ k : Nat, v5 = .int .i64 (k : Nat) ∧ k ≤ l.length ∧ wr = W ∧ Hid (∀ i (hi : i < l.length), i < k → ltB l[i] x)) (fun v5 _ => l.length - (intOf v5).toNat)
  case atStart => exact ⟨0, rfl, by omega, rfl, fun i hi h => by omega⟩
  case round =>
    obtain ⟨k, rfl, hk, hW, HK⟩ := hrel
    obtain rfl := hW.symm
    have htk : (l.take k).length = k := by simp; omega
    have hdr : (l.drop k).length = l.length - k := by simp
    by_cases hkl : k < l.length
    · obtain ⟨g, c, e', ck⟩ := TS.atN HT.out hkl
      simp only [Value.slice.injEq] at e'
      obtain ⟨rfl, _, rfl⟩ := e'
      have hd : (k : Int) < (l.length : Int) := by omega
      have HN : Hid (ltB l[k] x → ∀ i (hi : i < l.length), i < k + 1 → ltB l[i] x) := fun h i hi hik => by
        by_cases e : i = k
        · subst e; exact h
        · exact HK.out i hi (by omega)
      have HI : Hid (l[k] = x → insB x l = l) := fun e => ins_hit hkl HK.out e
      have HG : Hid (¬ ltB l[k] x → l[k] ≠ x → insB x l = l.take k ++ [x] ++ l.drop k) := fun h1 h2 => ins_gap hk HK.out fun _ => ⟨h1, h2⟩
      have hls := less_ltB l[k] x
      have heq := eql_ba l[k] x
      generalize l[k] = z at *
      by_cases h1 : ltB z x
      · rw [decide_eq_true h1] at hls
        have HR := HN.out h1
        clear h1 htk hdr heq
        go_wp2
        go_roundw
        case rel => exact ⟨k + 1, by simp, by omega, by trivial, HR⟩
        case measure => simp [intOf]; omega
      · rw [decide_eq_false h1] at hls
        by_cases h2 : z = x
        · rw [decide_eq_true h2] at heq
          have HIe : Hid (insB x l = l) := HI.out h2
          clear h1 h2 htk hdr
          go_wp2
          go_ret
          exact ⟨_, rfl, by rw [HIe.out]; exact HT.out, Below.refl _ _⟩
        · rw [decide_eq_false h2] at heq
          have HGe : Hid (insB x l = l.take k ++ [x] ++ l.drop k) := HG.out h1 h2
          obtain ⟨y1, hy1, s1⟩ := HH.out k hk
          obtain ⟨y2, hy2, s2⟩ := HL.out k hk
          have S2 : Hid (SSrc W y2 (l.drop k)) := s2
          generalize l.take k = G1 at *
          generalize l.drop k = G2 at *
          clear h1 h2 HN HI HG s2
          have tok1 : True := trivial
          have tok2 : True := trivial
          have h9 : TS W W.heap.size (.slice none 0 0) ([] : List ByteArray) := World.ownsRow_nil _ _ _ _
          have hg1 : G1.length ≤ 2199023255552 := by omega
          have hg2 : G2.length ≤ 2199023255552 := by omega
          clear htk hdr hW hk
          go_wp2_with (first
            | (at_builtin; have _t := tok1; clear tok1; refine wpList_appT W (by rfl) _ _ (by rfl) W.heap.size (.slice none 0 0) [] (by rfl) h9 y1 G1 (by rfl) s1 (by simp; omega) (Nat.le_refl _) ?_; intro o1 W2 ho1 hgr1; have ho1' : TS W2 W.heap.size o1 G1 := ho1; have hb2 : Below W.heap.size W W2 := grow_below hgr1 (Below.refl _ _) (fun j hj => by cases hj); have sz2 := hb2.size; clear ho1 hgr1; obtain ⟨a1, c1, rfl⟩ := TS.form ho1')
            | (at_builtin; have _t := tok2; clear tok2; refine wpList_appT _ (by rfl) _ _ (by rfl) W.heap.size _ G1 (by rfl) (World.ownsRow.alloc ho1' _) _ [x] (by rfl) (src_new W2 x) (by simp; omega) (by simp; omega) ?_; intro o2 W3 ho2 hgr2; have hb3 : Below W.heap.size W W3 := grow_below hgr2 (hb2.alloc hb2.size _) (fun j hj => (World.ownsRow.lt ho1' j hj).1); clear hgr2)
            | (at_builtin; refine wpList_appT _ (by rfl) _ _ (by rfl) W.heap.size _ (G1 ++ [x]) (by rfl) ho2 y2 G2 (by rfl) (S2.out.bel hb3) (by simp; omega) hb3.size ?_; intro o3 W4 ho3 hgr3; have hb4 : Below W.heap.size W W4 := grow_below hgr3 hb3 (fun j hj => (World.ownsRow.lt ho2 j hj).1)))
          go_ret
          exact ⟨_, rfl, by rw [HGe.out]; exact row_baseI ho3 hB, hb4⟩
    · obtain rfl : k = l.length := by omega
      have hd : ¬ ((l.length : Nat) : Int) < ((l.length : Nat) : Int) := by omega
      have HGe : Hid (insB x l = l.take l.length ++ [x] ++ l.drop l.length) := ins_gap hk HK.out fun h => absurd h hkl
      obtain ⟨y1, hy1, s1⟩ := HH.out l.length hk
      obtain ⟨y2, hy2, s2⟩ := HL.out l.length hk
      have S2 : Hid (SSrc W y2 (l.drop l.length)) := s2
      generalize l.take l.length = G1 at *
      generalize l.drop l.length = G2 at *
      clear s2 hkl
      have tok1 : True := trivial
      have tok2 : True := trivial
      have h9 : TS W W.heap.size (.slice none 0 0) ([] : List ByteArray) := World.ownsRow_nil _ _ _ _
      have hg1 : G1.length ≤ 2199023255552 := by omega
      have hg2 : G2.length ≤ 2199023255552 := by omega
      clear htk hdr hW hk
      go_wp2_with (first
        | (at_builtin; have _t := tok1; clear tok1; refine wpList_appT W (by rfl) _ _ (by rfl) W.heap.size (.slice none 0 0) [] (by rfl) h9 y1 G1 (by rfl) s1 (by simp; omega) (Nat.le_refl _) ?_; intro o1 W2 ho1 hgr1; have ho1' : TS W2 W.heap.size o1 G1 := ho1; have hb2 : Below W.heap.size W W2 := grow_below hgr1 (Below.refl _ _) (fun j hj => by cases hj); have sz2 := hb2.size; clear ho1 hgr1; obtain ⟨a1, c1, rfl⟩ := TS.form ho1')
        | (at_builtin; have _t := tok2; clear tok2; refine wpList_appT _ (by rfl) _ _ (by rfl) W.heap.size _ G1 (by rfl) (World.ownsRow.alloc ho1' _) _ [x] (by rfl) (src_new W2 x) (by simp; omega) (by simp; omega) ?_; intro o2 W3 ho2 hgr2; have hb3 : Below W.heap.size W W3 := grow_below hgr2 (hb2.alloc hb2.size _) (fun j hj => (World.ownsRow.lt ho1' j hj).1); clear hgr2)
        | (at_builtin; refine wpList_appT _ (by rfl) _ _ (by rfl) W.heap.size _ (G1 ++ [x]) (by rfl) ho2 y2 G2 (by rfl) (S2.out.bel hb3) (by simp; omega) hb3.size ?_; intro o3 W4 ho3 hgr3; have hb4 : Below W.heap.size W W4 := grow_below hgr3 hb3 (fun j hj => (World.ownsRow.lt ho2 j hj).1)))
      go_ret
      exact ⟨_, rfl, by rw [HGe.out]; exact row_baseI ho3 hB, hb4⟩
end Go.Proofs.YtadkmlcnmkdfiaaGreatDoor
namespace Go.Proofs.YtadkmlcnmkdfiaaGreatDoor
open Go.RowKit Xp
set_option linter.unusedVariables false
set_option linter.unusedSimpArgs false

/-- names that rise, each of a module. -/
structure OkO (L : List Es) (o : List ByteArray) : Prop where
  r : RisB o
  m : ∀ x ∈ o, ∃ e ∈ L, x ∈ nmsE e
theorem OkO.nil (L : List Es) : OkO L [] := ⟨List.Pairwise.nil, by simp⟩
theorem OkO.add {L : List Es} {o : List ByteArray} (h : OkO L o) {e : Es} (he : e ∈ L) {x : ByteArray} (hx : x ∈ nmsE e) (fi : Bool) : OkO L (addIf fi o x) := by
  unfold addIf
  split
  · refine ⟨ris_insB h.r, fun z hz => ?_⟩
    rcases mem_insB.1 hz with rfl | hz
    · exact ⟨e, he, hx⟩
    · exact h.m z hz
  · exact h
theorem OkO.adds {L : List Es} {e : Es} (he : e ∈ L) (fi : Bool) : ∀ {l o : List ByteArray}, (∀ x ∈ l, x ∈ nmsE e) → OkO L o → OkO L (l.foldl (addIf fi) o)
  | [], _, _, h => h
  | x :: l, o, hl, h => by
    rw [List.foldl_cons]
    exact OkO.adds he fi (fun z hz => hl z (by simp [hz])) (h.add he (hl x (by simp)) fi)
theorem OkO.nm {L : List Es} {o : List ByteArray} (h : OkO L o) {f : Nat} {m : Int} {fi : Bool} {s : List Nat} (hs : s.Nodup ∧ ∀ x ∈ s, x < L.length) (hf : L.length ≤ f + s.length) : OkO L (nmF L f m fi s o).2 := by
  obtain ⟨d, _, _⟩ := nmF_done L (fun _ => True) (fun _ _ _ _ => trivial) f m fi s o hs hf
  refine ⟨d.ris h.r, fun x hx => ?_⟩
  rcases (d.out x).1 hx with hx | ⟨a, _, _, e, he, hx, _⟩
  · exact h.m x hx
  · exact ⟨e, List.mem_of_getElem? he, hx⟩
theorem nm_nd {L : List Es} {o : List ByteArray} {f : Nat} {m : Int} {fi : Bool} {s : List Nat} (hs : s.Nodup ∧ ∀ x ∈ s, x < L.length) (hf : L.length ≤ f + s.length) : ((nmF L f m fi s o).1.Nodup ∧ ∀ x ∈ (nmF L f m fi s o).1, x < L.length) ∧ s.length ≤ (nmF L f m fi s o).1.length := by
  obtain ⟨d, _, _⟩ := nmF_done L (fun _ => True) (fun _ _ _ _ => trivial) f m fi s o hs hf
  refine ⟨d.nd, ?_⟩
  obtain ⟨r, e⟩ := d.pre
  rw [e]
  simp
/-- all blocks but one are as they were; where the one is now. -/
structure Mv (W w' : World) (v v' : Value) : Prop where
  g : W.grownBy w' v.ownBlock
  o : v'.ownBlock = v.ownBlock ∨ ∀ j, v'.ownBlock = some j → W.heap.size ≤ j
theorem Mv.refl (W : World) (v : Value) : Mv W W v v := ⟨⟨rfl, rfl, rfl, Nat.le_refl _, fun _ _ _ => rfl⟩, .inl rfl⟩
theorem Mv.trans {W X Y : World} {v u t : Value} (h : Mv W X v u) (k : Mv X Y u t) : Mv W Y v t := by
  refine ⟨⟨k.g.os.trans h.g.os, k.g.tape.trans h.g.tape, k.g.output.trans h.g.output, Nat.le_trans h.g.size k.g.size, fun j hj hn => ?_⟩, ?_⟩
  · have hs := h.g.size
    refine (k.g.block j (by omega) (fun e => ?_)).trans (h.g.block j hj hn)
    rcases h.o with ho | ho
    · exact hn (e.trans ho)
    · have := ho j e.symm; omega
  · rcases k.o with ko | ko
    · rw [ko]; exact h.o
    · exact .inr fun j hj => Nat.le_trans h.g.size (ko j hj)
theorem Mv.bel {W X Y : World} {v u : Value} (h : Mv W X v u) (b : Below X.heap.size X Y) : Mv W Y v u :=
  h.trans ⟨⟨b.os, b.tape, b.output, b.size, fun k hk _ => b.block k hk⟩, .inl rfl⟩
theorem Mv.below {W X : World} {v u : Value} {B : Nat} (h : Mv W X v u) (hB : B ≤ W.heap.size) (hv : ∀ j, v.ownBlock = some j → B ≤ j) : Below B W X :=
  ⟨h.g.os, h.g.tape, h.g.output, h.g.size, fun k hk => h.g.block k (by omega) (fun e => by have := hv k e.symm; omega)⟩
/-- a module's entries in a block of the call's own. -/
abbrev Eb (w : World) (eb : Nat) (v0 v1 v2 v3 : Value) : Prop := w.heap[eb]? = some (.cells #[v0, v1, v2, v3] 32 (0, 0))
theorem Eb.apart {w : World} {eb : Nat} {v0 v1 v2 v3 : Value} (h : Eb w eb v0 v1 v2 v3) {B : Nat} {v : Value} {s : List Nat} (ht : TI w B v s) : some eb ≠ v.ownBlock := fun e => by
  rcases ht.2 with ⟨rfl, _⟩ | ⟨g, cap, cur, rfl, _, hg, _⟩
  · cases e
  · obtain rfl : eb = g := Option.some.inj e
    rw [show w.heap[eb]? = _ from h] at hg
    injection hg with hg
    injection hg with _ hg _
    exact absurd hg (by decide)
theorem row_apart {w : World} {B B' : Nat} {u v : Value} {s : List Nat} {o : List ByteArray} (ht : TI w B v s) (ho : TS w B' u o) : ∀ j, u.ownBlock = some j → some j ≠ v.ownBlock := fun j hj e => by
  rcases ht.2 with ⟨rfl, _⟩ | ⟨g, cap, cur, rfl, _, hg, _⟩
  · cases e
  · obtain rfl : j = g := Option.some.inj e
    rcases ho.2 with ⟨rfl, _⟩ | ⟨g', cap', cur', rfl, _, hg', _⟩
    · cases hj
    · obtain rfl : g' = j := Option.some.inj hj
      rw [hg] at hg'
      injection hg' with hg'
      injection hg' with _ hg' _
      exact absurd hg' (by decide)
theorem Mv.app {W X : World} {o : Obj} {v : Value} {g n c : Nat} (hg : (W.alloc o).grownBy X v.ownBlock) (hat : v.ownBlock = some g ∨ g = W.heap.size + 1) : Mv W X v (.slice (some ⟨g, 0, none⟩) n c) := by
  have hs := hg.size
  simp at hs
  refine ⟨⟨hg.os, hg.tape, hg.output, by omega, fun k hk hn => (hg.block k (by simp; omega) hn).trans (Below.heap_alloc _ _ _ hk)⟩, ?_⟩
  rcases hat with h | h
  · exact .inl h.symm
  · exact .inr fun j hj => by have : g = j := Option.some.inj hj; omega
/-- what the document's names keeps. -/
structure Nsq (W wr : World) (B : Nat) (L : List Es) (vs v2 v3 : Value) (s : List Nat) (o : List ByteArray) (eb : Nat) (w0 w1 w2 w3 : Value) : Prop where
  mv : Mv W wr vs v2
  ts : TI wr B v2 s
  tos : TS wr B v3 o
  nd : s.Nodup ∧ ∀ x ∈ s, x < L.length
  ok : OkO L o
  eb : Eb wr eb w0 w1 w2 w3
  bb : Below B W wr
  BW : B ≤ W.heap.size
section
variable {W wr X : World} {B : Nat} {L : List Es} {vs v2 v3 v2' v3' : Value} {s s' : List Nat} {o o' : List ByteArray} {eb : Nat} {w0 w1 w2 w3 : Value}
theorem Nsq.sz (h : Nsq W wr B L vs v2 v3 s o eb w0 w1 w2 w3) : B ≤ wr.heap.size := Nat.le_trans h.BW h.mv.g.size
theorem Nsq.add (h : Nsq W wr B L vs v2 v3 s o eb w0 w1 w2 w3) (b : Below wr.heap.size wr X) (ho : TS X B v3' o') (hok : OkO L o') : Nsq W X B L vs v2 v3' s o' eb w0 w1 w2 w3 :=
  ⟨h.mv.bel b, row_bel' h.ts b, ho, h.nd, hok, (b.block _ (Array.getElem?_eq_some_iff.1 h.eb).1).trans h.eb, h.bb.trans (b.mono h.sz), h.BW⟩
theorem Nsq.go (h : Nsq W wr B L vs v2 v3 s o eb w0 w1 w2 w3) (m : Mv wr X v2 v2') (hs : TI X B v2' s') (ho : TS X B v3' o') (hn : s'.Nodup ∧ ∀ x ∈ s', x < L.length) (hok : OkO L o') : Nsq W X B L vs v2' v3' s' o' eb w0 w1 w2 w3 :=
  ⟨h.mv.trans m, hs, ho, hn, hok, (m.g.block _ (Array.getElem?_eq_some_iff.1 h.eb).1 (Eb.apart h.eb h.ts)).trans h.eb, h.bb.trans (m.below h.sz (fun j hj => (World.ownsRow.lt h.ts j hj).1)), h.BW⟩
end
/-- what the document's names answers. -/
def RN (W : World) (B : Nat) (vs : Value) (p : List Nat × List ByteArray) (e : Ending) (w' : World) : Prop := ∃ vs' vo', e = .returned (.tuple #[vs', vo']) ∧ TI w' B vs' p.1 ∧ TS w' B vo' p.2 ∧ Mv W w' vs vs'
theorem int_neq {a b : Int} (h : a ≠ b) : (a == b) = false := by simpa using h
set_option maxRecDepth 100000 in
set_option maxHeartbeats 8000000 in
theorem rn_out {W : World} {v : Value} {L : List Es} {B : Nat} (hv : MsAt W B v L) (m : Int) (hm : m < 0 ∨ (L.length : Int) ≤ m) (a c : Value) (fi : Bool) :
    Calls Tryz.prog 41 #[v, .int .i64 m, a, c, .bool fi] W fun e w' => e = .returned (.tuple #[a, c]) ∧ w' = W := by
  obtain ⟨va, vc, rfl⟩ := hv.op
  clear hv
  by_cases h0 : m < 0
  · clear hm
    go_enter Tryz.func41, Tryz.ntmps41
    go_wp2
    go_ret2
    exact ⟨rfl, rfl⟩
  · have h1 : m ≥ (L.length : Int) := by omega
    clear hm
    go_enter Tryz.func41, Tryz.ntmps41
    go_wp2
    go_ret2
    exact ⟨rfl, rfl⟩
set_option maxRecDepth 100000 in
set_option maxHeartbeats 8000000 in
theorem rn_seen {W : World} {v : Value} {L : List Es} {B : Nat} (hv : MsAt W B v L) (hL : L.length ≤ 1048576) {m : Nat} (hm : m < L.length) {a : Value} {s : List Nat} (hs : TI W B a s) (hsl : s.length ≤ 1048576) (hin : m ∈ s) (c : Value) (fi : Bool) :
    Calls Tryz.prog 41 #[v, .int .i64 (m : Nat), a, c, .bool fi] W fun e w' => e = .returned (.tuple #[a, c]) ∧ w' = W := by
  obtain ⟨va, vc, rfl⟩ := hv.op
  obtain ⟨sa, sc, rfl⟩ := TI.form hs
  have HS : Hid (TI W B (.slice sa s.length sc) s) := hs
  have HIN : Hid (m ∈ s) := hin
  have hmI : ¬ ((m : Nat) : Int) ≥ ((L.length : Nat) : Int) := by omega
  clear hv hs hin
  go_enter Tryz.func41, Tryz.ntmps41
  go_wp2
  go_loopw [12] (fun v12 wr => ∃ k : Nat, v12 = .int .i64 (k : Nat) ∧ k ≤ s.length ∧ wr = W ∧ Hid (∀ i (hi : i < s.length), i < k → s[i] ≠ m)) (fun v12 _ => s.length - (intOf v12).toNat)
  case atStart => exact ⟨0, rfl, by omega, rfl, fun i hi h => by omega⟩
  case round =>
    obtain ⟨k, rfl, hk, hW, HK⟩ := hrel
    obtain rfl := hW.symm
    have hkl : k < s.length := by
      refine Classical.byContradiction fun h => ?_
      obtain ⟨i, hi, e⟩ := List.getElem_of_mem HIN.out
      exact HK.out i hi (by omega) e
    have hklI : ((k : Nat) : Int) < ((s.length : Nat) : Int) := by omega
    obtain ⟨g, c', e', ck⟩ := TI.atN HS.out hkl
    simp only [Value.slice.injEq] at e'
    obtain ⟨rfl, _, rfl⟩ := e'
    have HN : Hid (s[k] ≠ m → ∀ i (hi : i < s.length), i < k + 1 → s[i] ≠ m) := fun h i hi hik => by
      by_cases e : i = k
      · subst e; exact h
      · exact HK.out i hi (by omega)
    generalize s[k] = z at *
    by_cases h1 : z = m
    · subst h1
      clear hW
      go_wp2
      go_ret2
      exact ⟨rfl, rfl⟩
    · have HR := HN.out h1
      have h2 : ((z : Int) == (m : Int)) = false := int_neq (by omega)
      clear h1 hW
      go_wp2
      go_roundw
      case rel => exact ⟨k + 1, by simp, by omega, by trivial, HR⟩
      case measure => simp [intOf]; omega
end Go.Proofs.YtadkmlcnmkdfiaaGreatDoor
namespace Go.Proofs.YtadkmlcnmkdfiaaGreatDoor
open Go.RowKit Xp
set_option linter.unusedVariables false
set_option linter.unusedSimpArgs false

theorem fold_snoc {α β : Type} (F : α → β → α) (a : α) {l : List β} {k : Nat} (hk : k < l.length) : (l.take (k + 1)).foldl F a = F ((l.take k).foldl F a) l[k] := by
  rw [List.take_succ_eq_append_getElem hk, List.foldl_append]
  rfl
theorem dflt_list : dflt.toList = [100, 101, 102, 97, 117, 108, 116] := by rw [Lib.toList_data]; rfl
theorem bel_n (w : World) (o : Obj) : Below w.heap.size w (w.alloc o) := (Below.refl _ w).alloc (Nat.le_refl _) o
set_option maxRecDepth 100000 in
set_option maxHeartbeats 16000000 in
theorem rn_in {B : Nat} {v : Value} {L : List Es} (hL : L.length ≤ 1048576) (hE : ∀ e ∈ L, e.own.length ≤ 1048576 ∧ e.oth.length ≤ 1048576 ∧ e.st.length ≤ 1048576) (hO : ∀ o, OkO L o → o.length ≤ 2199023255552) {f : Nat}
    (IH : ∀ (W : World) (m : Int) (fi : Bool) (s : List Nat) (o : List ByteArray) (vs vo : Value), MsAt W B v L → B ≤ W.heap.size → TI W B vs s → TS W B vo o → (s.Nodup ∧ ∀ x ∈ s, x < L.length) → OkO L o → L.length ≤ f + s.length → Calls Tryz.prog 41 #[v, .int .i64 m, vs, vo, .bool fi] W (RN W B vs (nmF L f m fi s o)))
    {W : World} {mn : Nat} (hm : mn < L.length) {fi : Bool} {s : List Nat} {o : List ByteArray} {vs vo : Value} (hv : MsAt W B v L) (hB : B ≤ W.heap.size) (hs : TI W B vs s) (ho : TS W B vo o) (hn : s.Nodup ∧ ∀ x ∈ s, x < L.length) (hok : OkO L o) (hf : L.length ≤ f + 1 + s.length) (hin : mn ∉ s) :
    Calls Tryz.prog 41 #[v, .int .i64 (mn : Nat), vs, vo, .bool fi] W (RN W B vs (nmF L (f + 1) (mn : Nat) fi s o)) := by
  obtain ⟨b, of, c, rfl, hbb, hcl⟩ := hv.cl (by omega)
  obtain ⟨w0, w1, w2, w3, hM⟩ := hcl mn hm
  have hsl := nd_len hn
  obtain ⟨i0, hi0, hz0, hz1, hz2⟩ := info_parts info_it
  have heL : L[mn] ∈ L := List.getElem_mem hm
  obtain ⟨e1, e2, e3⟩ := hE _ heL
  have hnb : hasB L.length (mn : Nat) = true := by unfold hasB; simp; omega
  have HR : Hid (nmF L (f + 1) (mn : Nat) fi s o = L[mn].st.foldl (fun p z => nmF L f z.mod false p.1 p.2) (s ++ [mn], L[mn].oth.foldl (fun q z => addIf fi q z.here) (L[mn].own.foldl (fun q z => addIf fi q z.there) o))) := by
    show _ = _
    rw [nmF]
    simp only [Int.toNat_natCast, List.getElem?_eq_getElem hm]
    rw [if_pos ⟨hnb, hin⟩]
    unfold nmsE
    rw [List.foldl_append, List.foldl_map, List.foldl_map]
  have HM : Hid (∀ X, Below B W X → MsAt X B (.slice (some ⟨b, of, none⟩) L.length c) L ∧ MdAt X B b (of + mn * 4) L[mn] w0 w1 w2 w3) := fun X bX => by
    have cA := fun j => (World.cell?_of_block (a := ⟨b, j, none⟩) (bX.block b hbb))
    exact ⟨hv.bel bX, (cA _).trans hM.c0, (cA _).trans hM.c1, (cA _).trans hM.c2, (cA _).trans hM.c3, hM.a0.bel bX, hM.a1.bel bX, hM.a2.bel bX, hM.a3.bel bX⟩
  have HA1 : Hid (∀ z ∈ L[mn].own, z.there ∈ nmsE L[mn]) := fun z hz => by unfold nmsE; exact List.mem_append_left _ (List.mem_map.2 ⟨z, hz, rfl⟩)
  have HA2 : Hid (∀ z ∈ L[mn].oth, z.here ∈ nmsE L[mn]) := fun z hz => by unfold nmsE; exact List.mem_append_right _ (List.mem_map.2 ⟨z, hz, rfl⟩)
  have HEM : Hid (L[mn] ∈ L) := heL
  generalize L[mn] = e at *
  generalize nmF L (f + 1) (mn : Nat) fi s o = RES at *
  obtain ⟨a0, c0, rfl⟩ := hM.a0.op
  obtain ⟨a1, c1, rfl⟩ := hM.a1.op
  obtain ⟨a2, c2, rfl⟩ := hM.a2.op
  obtain ⟨a3, c3, rfl⟩ := hM.a3.op
  obtain ⟨sa, sc, rfl⟩ := TI.form hs
  obtain ⟨oa, oc, rfl⟩ := TS.form ho
  have hlow : ∀ j, (Value.slice sa s.length sc).ownBlock = some j → B ≤ j := fun j hj => (World.ownsRow.lt hs j hj).1
  have HN0 : Hid (∀ (W3 : World) (gg cap : Nat), W3.ownsRow B 3 1 (.slice (some ⟨gg, 0, none⟩) (s.length + 1) cap) (s.length + 1) (s.map (fun (x : Nat) => Value.int .i64 (x : Nat)) ++ [.int .i64 (mn : Nat)]) → (W.alloc (.cells #[.int .i64 (mn : Nat)] 3)).grownBy W3 (Value.slice sa s.length sc).ownBlock → ((Value.slice sa s.length sc).ownBlock = some gg ∨ gg = W.heap.size + 1) →
      Below B W W3 ∧ Nsq W (W3.alloc (.cells #[.slice a0 e.imp.length c0, .slice a1 e.own.length c1, .slice a2 e.oth.length c2, .slice a3 e.st.length c3] 32)) B L (.slice sa s.length sc) (.slice (some ⟨gg, 0, none⟩) (s.length + 1) cap) (.slice oa o.length oc) (s ++ [mn]) o W3.heap.size (.slice a0 e.imp.length c0) (.slice a1 e.own.length c1) (.slice a2 e.oth.length c2) (.slice a3 e.st.length c3)) := fun W3 gg cap h1 h2 h3 => by
    have mv := Mv.app (n := s.length + 1) (c := cap) h2 h3
    have b3 := mv.below hB hlow
    refine ⟨b3, mv.bel (bel_n _ _), row_bel' (TI.add h1) (bel_n _ _), row_bel' (row_keepI ho fun j hj => mv.g.block j (World.ownsRow.lt ho j hj).2 (row_apart hs ho j hj)) (bel_n _ _), ⟨List.nodup_append.2 ⟨hn.1, by simp, fun a ha b hb => by
      obtain rfl := List.mem_singleton.1 hb
      exact fun e => hin (e ▸ ha)⟩, fun x hx => (List.mem_append.1 hx).elim (hn.2 x) fun h => by have := List.mem_singleton.1 h; omega⟩, hok, hnewX _ rfl, b3.alloc (Nat.le_trans hB mv.g.size) _, hB⟩
  have HS : Hid (TI W B (.slice sa s.length sc) s) := hs
  have HIN : Hid (mn ∉ s) := hin
  have T2 : Hid (TI (W.alloc (.cells #[.int .i64 (mn : Nat)] 3)) B (.slice sa s.length sc) s) := World.ownsRow.alloc hs _
  have hmI : ¬ ((mn : Nat) : Int) ≥ ((L.length : Nat) : Int) := by omega
  have hmI2 : ((mn : Nat) : Int) < ((L.length : Nat) : Int) := by omega
  have HIH : Hid _ := IH
  clear hv hs ho hcl hM hin hn hok heL hnb hlow IH hE
  go_enter Tryz.func41, Tryz.ntmps41
  go_wp2
  go_loopw [12] (fun v12 wr => ∃ k : Nat, v12 = .int .i64 (k : Nat) ∧ k ≤ s.length ∧ wr = W) (fun v12 _ => s.length - (intOf v12).toNat)
  case atStart => exact ⟨0, rfl, by omega, rfl⟩
  case round =>
    obtain ⟨k, rfl, hk, hW⟩ := hrel
    obtain rfl := hW.symm
    by_cases hkl : k < s.length
    · have hklI : ((k : Nat) : Int) < ((s.length : Nat) : Int) := by omega
      obtain ⟨g, c', e', ck⟩ := TI.atN HS.out hkl
      simp only [Value.slice.injEq] at e'
      obtain ⟨rfl, _, rfl⟩ := e'
      have h1 : s[k] ≠ mn := fun h => HIN.out (h ▸ List.getElem_mem hkl)
      generalize s[k] = z at *
      have h2 : ((z : Int) == (mn : Int)) = false := int_neq (by omega)
      clear h1 hW
      go_wp2
      go_roundw
      case rel => exact ⟨k + 1, by simp, by omega, by trivial⟩
      case measure => simp [intOf]; omega
    · obtain rfl : k = s.length := by omega
      clear hk hW hkl
      go_wp2_with (at_builtin; refine wpList_append_lies _ (by rfl) _ _ _ (by rfl) B 3 i0 _ 1 8 under_ints hi0 hz0 hz1 hz2 rfl (by omega) _ s.length (s.map fun (x : Nat) => .int .i64 (x : Nat)) (by rfl) T2.out ⟨W.heap.size, 0, none⟩ 1 1 [.int .i64 (mn : Nat)] (by rfl) (by rfl) (World.news_of_block (cs := #[.int .i64 (mn : Nat)]) (t := 3) (fr := (0, 0)) (hnewX _ rfl)) (by simp [Value.oneCell']) (by omega) (by unfold maxLen; omega) (by omega) (by simp; omega) (W.heap.size + 1) (by simp) ?_; intro gg cap W3 hown hgrow hat hlt3; obtain ⟨b3, HNS⟩ := HN0.out W3 gg cap hown hgrow hat; obtain ⟨x0, x1, x2, x3⟩ := (HM.out _ b3).2; obtain ⟨Z, hZ⟩ : ∃ Z, W3.alloc (.cells #[.slice a0 e.imp.length c0, .slice a1 e.own.length c1, .slice a2 e.oth.length c2, .slice a3 e.st.length c3] 32) = Z := ⟨_, rfl⟩; rw [hZ] at HNS; have HNZ : Hid _ := HNS; clear HNS hown hgrow hat hlt3 b3)
      generalize W3.heap.size = eb at *
      clear hZ x0 x1 x2 x3
      go_loopw [3, 14] (fun v3 v14 wr => ∃ (k : Nat) (o' : List ByteArray), v14 = .int .i64 (k : Nat) ∧ k ≤ e.own.length ∧ Nsq W wr B L (.slice sa s.length sc) (.slice (some ⟨gg, 0, none⟩) (s.length + 1) cap) v3 (s ++ [mn]) o' eb (.slice a0 e.imp.length c0) (.slice a1 e.own.length c1) (.slice a2 e.oth.length c2) (.slice a3 e.st.length c3) ∧ Hid ((e.own.take k).foldl (fun q z => addIf fi q z.there) o = o')) (fun _ v14 _ => e.own.length - (intOf v14).toNat)
      case atStart => exact ⟨0, o, rfl, by omega, HNZ.out, rfl⟩
      case round =>
        obtain ⟨k, o', rfl, hk, hS, HL⟩ := hrel
        obtain ⟨⟨q0, q1, q2, q3⟩, _⟩ := t4 hS.eb
        by_cases hkl : k < e.own.length
        · obtain ⟨bo, oo, cc, e', hbo, hce⟩ := (HM.out _ hS.bb).2.a1.cl (by omega)
          simp only [Value.slice.injEq] at e'
          obtain ⟨rfl, _, rfl⟩ := e'
          obtain ⟨d0, d1, d2, d3, d4⟩ := hce k hkl
          have hklI : ((k : Nat) : Int) < ((e.own.length : Nat) : Int) := by omega
          have HN : Hid ((e.own.take (k + 1)).foldl (fun q z => addIf fi q z.there) o = addIf fi o' e.own[k].there) := by show _ = _; rw [fold_snoc _ _ hkl, HL.out]
          have HOK : Hid (OkO L (addIf fi o' e.own[k].there)) := hS.ok.add HEM.out (HA1.out _ (List.getElem_mem hkl)) fi
          have CA := radd_any e.own[k].there hS.tos hS.sz (hO _ hS.ok)
          have HS2 : Hid _ := hS
          have hdf := ba_eq e.own[k].there dflt
          generalize e.own[k] = z at *
          obtain ⟨zh, zt, zmo, zty, zit⟩ := z
          simp only at d0 d1 d2 d3 d4 HN HOK CA hdf
          clear hS hce HL d0 d2 d3 d4
          cases fi with
          | true =>
            have HAD : Hid (addIf true o' zt = insB zt o') := by show _ = _; unfold addIf; rw [if_pos (Or.inl rfl)]
            clear hdf
            go_wp2_with fail
            go_at_call 63
            refine CA.mono ?_
            rintro ex X ⟨v', rfl, hT', bX⟩
            have hS3 := HS2.out.add bX (o' := addIf true o' zt) (by rw [HAD.out]; exact hT') HOK.out
            have HS3 : Hid _ := hS3
            clear hS3 hT' bX
            go_wp2
            go_roundw
            case rel => exact ⟨k + 1, _, by simp, by omega, HS3.out, HN.out⟩
            case measure => simp [intOf]; omega
          | false =>
            by_cases hd : zt = dflt
            · subst hd
              have HAD : Hid (addIf false o' dflt = o') := by show _ = _; unfold addIf; rw [if_neg (by simp)]
              have d1' := d1
              simp only [dflt] at d1'
              clear hdf d1 CA
              go_wp2
              go_roundw
              case rel => exact ⟨k + 1, o', by simp, by omega, HS2.out, by rw [HN.out, HAD.out]; rfl⟩
              case measure => simp [intOf]; omega
            · have HAD : Hid (addIf false o' zt = insB zt o') := by show _ = _; unfold addIf; rw [if_pos (Or.inr hd)]
              have hne : (zt.toList == [100, 101, 102, 97, 117, 108, 116]) = false := by
                have := eql_ba zt dflt
                rw [decide_eq_false hd] at this
                rw [← this, dflt_list]
              clear hdf hd
              go_wp2_with fail
              go_at_call 63
              refine CA.mono ?_
              rintro ex X ⟨v', rfl, hT', bX⟩
              have hS3 := HS2.out.add bX (o' := addIf false o' zt) (by rw [HAD.out]; exact hT') HOK.out
              have HS3 : Hid _ := hS3
              clear hS3 hT' bX
              go_wp2
              go_roundw
              case rel => exact ⟨k + 1, _, by simp, by omega, HS3.out, HN.out⟩
              case measure => simp [intOf]; omega
        · obtain rfl : k = e.own.length := by omega
          have hge : ¬ ((e.own.length : Nat) : Int) < ((e.own.length : Nat) : Int) := by omega
          have HO14 : Hid (e.own.foldl (fun q z => addIf fi q z.there) o = o') := by have := HL.out; rwa [List.take_length] at this
          have HS14 : Hid _ := hS
          obtain ⟨Wf, hWf⟩ : ∃ Z : World, Z = wr := ⟨_, rfl⟩
          subst hWf
          clear hS HL hk hkl
          generalize e.own.foldl (fun q z => addIf fi q z.there) o = oA at *
          obtain rfl : oA = o' := HO14.out
          go_wp2
          go_loopw [3, 15] (fun v3 v15 wr => ∃ (k : Nat) (o' : List ByteArray), v15 = .int .i64 (k : Nat) ∧ k ≤ e.oth.length ∧ Nsq W wr B L (.slice sa s.length sc) (.slice (some ⟨gg, 0, none⟩) (s.length + 1) cap) v3 (s ++ [mn]) o' eb (.slice a0 e.imp.length c0) (.slice a1 e.own.length c1) (.slice a2 e.oth.length c2) (.slice a3 e.st.length c3) ∧ Hid ((e.oth.take k).foldl (fun q z => addIf fi q z.here) oA = o')) (fun _ v15 _ => e.oth.length - (intOf v15).toNat)
          case atStart => exact ⟨0, oA, rfl, by omega, HS14.out, rfl⟩
          case round =>
            obtain ⟨k, o', rfl, hk, hS, HL⟩ := hrel
            obtain ⟨⟨q0, q1, q2, q3⟩, _⟩ := t4 hS.eb
            by_cases hkl : k < e.oth.length
            · obtain ⟨bo, oo, cc, e', hbo, hce⟩ := (HM.out _ hS.bb).2.a2.cl (by omega)
              simp only [Value.slice.injEq] at e'
              obtain ⟨rfl, _, rfl⟩ := e'
              obtain ⟨d0, d1, d2, d3, d4⟩ := hce k hkl
              have hklI : ((k : Nat) : Int) < ((e.oth.length : Nat) : Int) := by omega
              have HN : Hid ((e.oth.take (k + 1)).foldl (fun q z => addIf fi q z.here) oA = addIf fi o' e.oth[k].here) := by show _ = _; rw [fold_snoc _ _ hkl, HL.out]
              have HOK : Hid (OkO L (addIf fi o' e.oth[k].here)) := hS.ok.add HEM.out (HA2.out _ (List.getElem_mem hkl)) fi
              have CA := radd_any e.oth[k].here hS.tos hS.sz (hO _ hS.ok)
              have HS2 : Hid _ := hS
              have hdf := ba_eq e.oth[k].here dflt
              generalize e.oth[k] = z at *
              obtain ⟨zh, zt, zmo, zty, zit⟩ := z
              simp only at d0 d1 d2 d3 d4 HN HOK CA hdf
              clear hS hce HL d1 d2 d3 d4
              cases fi with
              | true =>
                have HAD : Hid (addIf true o' zh = insB zh o') := by show _ = _; unfold addIf; rw [if_pos (Or.inl rfl)]
                clear hdf
                go_wp2_with fail
                go_at_call 63
                refine CA.mono ?_
                rintro ex X ⟨v', rfl, hT', bX⟩
                have hS3 := HS2.out.add bX (o' := addIf true o' zh) (by rw [HAD.out]; exact hT') HOK.out
                have HS3 : Hid _ := hS3
                clear hS3 hT' bX
                go_wp2
                go_roundw
                case rel => exact ⟨k + 1, _, by simp, by omega, HS3.out, HN.out⟩
                case measure => simp [intOf]; omega
              | false =>
                by_cases hd : zh = dflt
                · subst hd
                  have HAD : Hid (addIf false o' dflt = o') := by show _ = _; unfold addIf; rw [if_neg (by simp)]
                  have d0' := d0
                  simp only [dflt] at d0'
                  clear hdf d0 CA
                  go_wp2
                  go_roundw
                  case rel => exact ⟨k + 1, o', by simp, by omega, HS2.out, by rw [HN.out, HAD.out]; rfl⟩
                  case measure => simp [intOf]; omega
                · have HAD : Hid (addIf false o' zh = insB zh o') := by show _ = _; unfold addIf; rw [if_pos (Or.inr hd)]
                  have hne : (zh.toList == [100, 101, 102, 97, 117, 108, 116]) = false := by
                    have := eql_ba zh dflt
                    rw [decide_eq_false hd] at this
                    rw [← this, dflt_list]
                  clear hdf hd
                  go_wp2_with fail
                  go_at_call 63
                  refine CA.mono ?_
                  rintro ex X ⟨v', rfl, hT', bX⟩
                  have hS3 := HS2.out.add bX (o' := addIf false o' zh) (by rw [HAD.out]; exact hT') HOK.out
                  have HS3 : Hid _ := hS3
                  clear hS3 hT' bX
                  go_wp2
                  go_roundw
                  case rel => exact ⟨k + 1, _, by simp, by omega, HS3.out, HN.out⟩
                  case measure => simp [intOf]; omega
            · obtain rfl : k = e.oth.length := by omega
              have hge : ¬ ((e.oth.length : Nat) : Int) < ((e.oth.length : Nat) : Int) := by omega
              have HO15 : Hid (e.oth.foldl (fun q z => addIf fi q z.here) oA = o') := by have := HL.out; rwa [List.take_length] at this
              have HS15 : Hid _ := hS
              obtain ⟨Wf, hWf⟩ : ∃ Z : World, Z = wr := ⟨_, rfl⟩
              subst hWf
              clear hS HL hk hkl
              generalize e.oth.foldl (fun q z => addIf fi q z.here) oA = oB at *
              obtain rfl : oB = o' := HO15.out
              have HR2 : Hid (RES = e.st.foldl (fun p z => nmF L f z.mod false p.1 p.2) (s ++ [mn], oB)) := HR.out
              clear HR
              go_wp2
              go_loopw [2, 3, 16] (fun v2 v3 v16 wr => ∃ (k : Nat) (s' : List Nat) (o2 : List ByteArray), v16 = .int .i64 (k : Nat) ∧ k ≤ e.st.length ∧ L.length ≤ f + s'.length ∧ Nsq W wr B L (.slice sa s.length sc) v2 v3 s' o2 eb (.slice a0 e.imp.length c0) (.slice a1 e.own.length c1) (.slice a2 e.oth.length c2) (.slice a3 e.st.length c3) ∧ Hid ((e.st.take k).foldl (fun p z => nmF L f z.mod false p.1 p.2) (s ++ [mn], oB) = (s', o2))) (fun _ _ v16 _ => e.st.length - (intOf v16).toNat)
              case atStart => exact ⟨0, s ++ [mn], oB, rfl, by omega, by simp; omega, HS15.out, rfl⟩
              case round =>
                obtain ⟨k, s', o2, rfl, hk, hfl, hS, HL⟩ := hrel
                obtain ⟨⟨q0, q1, q2, q3⟩, _⟩ := t4 hS.eb
                by_cases hkl : k < e.st.length
                · obtain ⟨bo, oo, cc, e', hbo, hce⟩ := (HM.out _ hS.bb).2.a3.cl (by omega)
                  simp only [Value.slice.injEq] at e'
                  obtain ⟨rfl, _, rfl⟩ := e'
                  obtain ⟨d0, d1, d2, d3, d4⟩ := hce k hkl
                  have hklI : ((k : Nat) : Int) < ((e.st.length : Nat) : Int) := by omega
                  have HN : Hid ((e.st.take (k + 1)).foldl (fun p z => nmF L f z.mod false p.1 p.2) (s ++ [mn], oB) = nmF L f e.st[k].mod false s' o2) := by show _ = _; rw [fold_snoc _ _ hkl, HL.out]
                  have CA := HIH.out wr e.st[k].mod false s' o2 _ _ (HM.out _ hS.bb).1 hS.sz hS.ts hS.tos hS.nd hS.ok hfl
                  have HND : Hid _ := nm_nd (o := o2) (m := e.st[k].mod) (fi := false) hS.nd hfl
                  have HOK : Hid _ := hS.ok.nm (m := e.st[k].mod) (fi := false) hS.nd hfl
                  have HS2 : Hid _ := hS
                  generalize e.st[k] = z at *
                  obtain ⟨zh, zt, zmo, zty, zit⟩ := z
                  simp only at d0 d1 d2 d3 d4 HN HOK HND CA
                  generalize nmF L f zmo false s' o2 = pp at *
                  obtain ⟨sN, oN⟩ := pp
                  clear hS hce HL d0 d1 d3 d4
                  go_wp2_with fail
                  go_at_call 41
                  refine CA.mono ?_
                  rintro ex X ⟨u2, u3, rfl, tsX, toX, mvX⟩
                  have HS3 : Hid _ := HS2.out.go mvX tsX toX HND.out.1 HOK.out
                  have HLX : Hid (s'.length ≤ sN.length) := HND.out.2
                  clear tsX toX mvX
                  go_wp2
                  go_roundw
                  case rel => exact ⟨k + 1, sN, oN, by simp, by omega, by have := HLX.out; omega, HS3.out, HN.out⟩
                  case measure => simp [intOf]; omega
                · obtain rfl : k = e.st.length := by omega
                  have hge : ¬ ((e.st.length : Nat) : Int) < ((e.st.length : Nat) : Int) := by omega
                  have HF : Hid (RES = (s', o2)) := by show _ = _; rw [HR2.out, ← HL.out, List.take_length]
                  have HSE : Hid _ := hS
                  clear hS HL hk hkl
                  go_wp2
                  go_ret2
                  exact ⟨_, _, rfl, by rw [HF.out]; exact HSE.out.ts, by rw [HF.out]; exact HSE.out.tos, HSE.out.mv⟩
/-- the document's names. -/
theorem rnames_any {B : Nat} {v : Value} {L : List Es} (hL : L.length ≤ 1048576) (hE : ∀ e ∈ L, e.own.length ≤ 1048576 ∧ e.oth.length ≤ 1048576 ∧ e.st.length ≤ 1048576) (hO : ∀ o, OkO L o → o.length ≤ 2199023255552) : ∀ (f : Nat) (W : World) (m : Int) (fi : Bool) (s : List Nat) (o : List ByteArray) (vs vo : Value), MsAt W B v L → B ≤ W.heap.size → TI W B vs s → TS W B vo o → (s.Nodup ∧ ∀ x ∈ s, x < L.length) → OkO L o → L.length ≤ f + s.length → Calls Tryz.prog 41 #[v, .int .i64 m, vs, vo, .bool fi] W (RN W B vs (nmF L f m fi s o)) := by
  intro f
  have key : ∀ (W : World) (m : Int) (fi : Bool) (s : List Nat) (o : List ByteArray) (vs vo : Value), MsAt W B v L → TI W B vs s → TS W B vo o → (s.Nodup ∧ ∀ x ∈ s, x < L.length) → ¬ (hasB L.length m = true ∧ m.toNat ∉ s) → Calls Tryz.prog 41 #[v, .int .i64 m, vs, vo, .bool fi] W (RN W B vs (s, o)) := by
    intro W m fi s o vs vo hv hs ho hn hc
    have fin : ∀ e w', e = .returned (.tuple #[vs, vo]) ∧ w' = W → RN W B vs (s, o) e w' := by
      rintro e w' ⟨rfl, rfl⟩
      exact ⟨vs, vo, rfl, hs, ho, Mv.refl _ _⟩
    by_cases hb : hasB L.length m = true
    · have hl := hasB_lt hb
      obtain ⟨mn, rfl⟩ : ∃ mn : Nat, m = (mn : Int) := ⟨m.toNat, by omega⟩
      have hin : mn ∈ s := Classical.byContradiction fun h => hc ⟨hb, h⟩
      exact (rn_seen hv hL (by omega) hs (by have := nd_len hn; omega) hin vo fi).mono fun e w' h => fin e w' h
    · have : m < 0 ∨ (L.length : Int) ≤ m := by
        unfold hasB at hb
        simp at hb
        omega
      exact (rn_out hv m this vs vo fi).mono fun e w' h => fin e w' h
  induction f with
  | zero =>
    intro W m fi s o vs vo hv hB hs ho hn hok hf
    refine key W m fi s o vs vo hv hs ho hn fun ⟨hb, hin⟩ => ?_
    have hl := hasB_lt hb
    have : (m.toNat :: s).length ≤ L.length := nd_len ⟨List.nodup_cons.2 ⟨hin, hn.1⟩, fun x hx => (List.mem_cons.1 hx).elim (fun e => by omega) (hn.2 x)⟩
    simp at this
    omega
  | succ f ih =>
    intro W m fi s o vs vo hv hB hs ho hn hok hf
    by_cases hc : hasB L.length m = true ∧ m.toNat ∉ s
    · have hl := hasB_lt hc.1
      obtain ⟨mn, rfl⟩ : ∃ mn : Nat, m = (mn : Int) := ⟨m.toNat, by omega⟩
      exact rn_in hL hE hO ih (by omega) hv hB hs ho hn hok hf hc.2
    · have e : nmF L (f + 1) m fi s o = (s, o) := by
        unfold nmF
        cases L[m.toNat]? with
        | none => rfl
        | some e => exact if_neg hc
      rw [e]
      exact key W m fi s o vs vo hv hs ho hn hc
end Go.Proofs.YtadkmlcnmkdfiaaGreatDoor
