/- Own text. A token is the same whatever stands behind it, if nothing there goes on with it. A token is the same whatever stands behind it, if nothing there goes on with it: texts, signs, all. What follows of all tokens: scripts, places. Blanks and notes where a token begins change nothing but places. Blanks and notes where a token begins change nothing but places: the theorem. What a text in quotes says is runes. Tokens that may be are read as they are shown; what is read may be. How many bytes the texts of a source's tokens have together, and what is shown of them. -/
import Derived.Test.YtfehmdfamndcaaaGreatDoorGm12
import Derived.Test.YtfehmdfamndcaaaGreatDoorGm11
import Derived.Test.YtfehmdfamndcaaaGreatDoorGm13
namespace Go.Proofs.YtfehmdfamndcaaaGreatDoor
set_option linter.unusedVariables false

theorem atL_app0 {p : Bs} (h : p ≠ []) (q : Bs) : atL (p ++ q) 0 = atL p 0 := atL_app p q 0 (List.length_pos_iff.2 h)
theorem atL_take0 {l : Bs} {n : Nat} (h : 0 < n) : atL (l.take n) 0 = atL l 0 := atL_take_lt l n 0 h
theorem take_ne {l : Bs} {n : Nat} (hl : l ≠ []) (hn : 0 < n) : l.take n ≠ [] := by
  cases l with
  | nil => exact absurd rfl hl
  | cons c r => cases n with
    | zero => omega
    | succ n => simp

/-- the first rune of a text, cut off behind it. -/
theorem dec_local {l : Bs} (hl : l ≠ []) (hs : strayL l = false) (q : Bs) : decL (l.take (decL l).2 ++ q) = decL l := by
  have hw := decL_width l
  have hle := decL_le l hl
  have ht := decL_take l hl
  have hlen : (l.take (decL l).2).length = (decL l).2 := by rw [List.length_take]; omega
  have hs2 : strayL (l.take (decL l).2) = false := by unfold strayL; rw [ht]; exact hs
  rw [decL_app _ q (take_ne hl (by omega)) (by rw [ht, hlen]) hs2, ht]
theorem stray_local {l : Bs} (hl : l ≠ []) (hs : strayL l = false) (q : Bs) : strayL (l.take (decL l).2 ++ q) = false := by
  unfold strayL
  rw [dec_local hl hs q]
  exact hs

/-- at a byte below 128 the first byte alone decides. -/
theorem dec_low1 {l : Bs} (h : atL l 0 < 128) : decL l = (atL l 0, 1) := by rw [decL, if_pos h]
theorem beg_low {l m : Bs} (hl : l ≠ []) (hm : m ≠ []) (h : atL l 0 < 128) (he : atL m 0 = atL l 0) (sc : Bool) : begL m sc = begL l sc := by
  have h2 : atL m 0 < 128 := by omega
  unfold begL
  rw [if_neg hl, if_neg hm]
  unfold strayL
  rw [dec_low1 h, dec_low1 h2, he]
theorem beg_local {l : Bs} {sc : Bool} (h : 0 < begL l sc) (q : Bs) : begL (l.take (begL l sc) ++ q) sc = begL l sc := by
  have hl : l ≠ [] := fun e => by subst e; simp [begL] at h
  obtain ⟨n, hn⟩ : ∃ n, n = begL l sc := ⟨_, rfl⟩
  have hnp : 0 < n := by omega
  have hne : l.take n ++ q ≠ [] := by simp [take_ne hl hnp]
  have hat : atL (l.take n ++ q) 0 = atL l 0 := by rw [atL_app0 (take_ne hl hnp), atL_take0 hnp]
  rw [← hn]
  by_cases h1 : atL l 0 = 95 ∨ (sc = true ∧ atL l 0 = 36)
  · have e1 : begL l sc = 1 := by unfold begL; rw [if_neg hl, if_pos h1]
    unfold begL
    rw [if_neg hne, hat, if_pos h1]
    omega
  · have e1 := hn
    unfold begL at e1
    rw [if_neg hl, if_neg h1] at e1
    split at e1
    · rename_i h2
      unfold begL
      rw [if_neg hne, hat, if_neg h1]
      rw [e1, dec_local hl h2.1 q, stray_local hl h2.1 q, if_pos ⟨rfl, h2.2⟩]
    · omega
theorem on_local {l : Bs} {sc : Bool} (h : 0 < onL l sc) (q : Bs) : onL (l.take (onL l sc) ++ q) sc = onL l sc := by
  by_cases hb : begL l sc ≠ 0
  · have e : onL l sc = begL l sc := by unfold onL; rw [if_pos hb]
    rw [e]
    have := beg_local (q := q) (show 0 < begL l sc by omega)
    unfold onL
    rw [this, if_pos hb]
  · have hb0 : begL l sc = 0 := by omega
    by_cases hd : l ≠ [] ∧ digC (atL l 0) = true
    · have e : onL l sc = 1 := by unfold onL; rw [if_neg hb, if_pos hd]
      have hlow : atL l 0 < 128 := by have := hd.2; unfold digC at this; simp at this; omega
      have hne : l.take 1 ++ q ≠ [] := by simp [take_ne hd.1]
      have hat : atL (l.take 1 ++ q) 0 = atL l 0 := by rw [atL_app0 (take_ne hd.1 (by omega)), atL_take0 (by omega)]
      rw [e]
      unfold onL
      rw [beg_low hd.1 hne hlow hat, if_neg hb, hat, if_pos ⟨hne, hd.2⟩]
    · have e : onL l sc = 0 := by unfold onL; rw [if_neg hb, if_neg hd]
      omega
theorem tail_local : ∀ (m : Nat) (l : Bs) (sc : Bool) (z : Bs), l.length ≤ m → onL z sc = 0 → tailL (l.take (tailL l sc) ++ z) sc = tailL l sc := by
  intro m
  induction m with
  | zero =>
    intro l sc z hm hz
    have hl : l = [] := List.eq_nil_of_length_eq_zero (by omega)
    subst hl
    have e : tailL [] sc = 0 := by rw [tailL_eq]; simp [onL, begL]
    rw [e, tailL_eq]
    simp [hz]
  | succ m ih =>
    intro l sc z hm hz
    by_cases h0 : onL l sc = 0
    · have e : tailL l sc = 0 := by rw [tailL_eq, if_pos h0]
      rw [e, tailL_eq]
      simp [hz]
    · have hle := onL_le l sc
      have e : tailL l sc = onL l sc + tailL (l.drop (onL l sc)) sc := by rw [tailL_eq, if_neg h0]
      have h1 := ih (l.drop (onL l sc)) sc z (by simp; omega) hz
      have hcut : l.take (tailL l sc) ++ z = l.take (onL l sc) ++ ((l.drop (onL l sc)).take (tailL (l.drop (onL l sc)) sc) ++ z) := by
        rw [e, List.take_add, List.append_assoc]
      rw [hcut, tailL_eq, on_local (by omega), if_neg h0]
      have hd : (l.take (onL l sc) ++ ((l.drop (onL l sc)).take (tailL (l.drop (onL l sc)) sc) ++ z)).drop (onL l sc) = (l.drop (onL l sc)).take (tailL (l.drop (onL l sc)) sc) ++ z := by
        have hlen : (l.take (onL l sc)).length = onL l sc := by rw [List.length_take]; omega
        conv => lhs; arg 1; rw [← hlen]
        exact List.drop_left
      rw [hd, h1, ← e]
theorem name_local {l : Bs} {sc : Bool} (h : 0 < nameL l sc) {z : Bs} (hz : onL z sc = 0) : nameL (l.take (nameL l sc) ++ z) sc = nameL l sc := by
  have hb : begL l sc ≠ 0 := fun e => by unfold nameL at h; rw [if_pos e] at h; omega
  have hle := begL_le l sc
  have e : nameL l sc = begL l sc + tailL (l.drop (begL l sc)) sc := by unfold nameL; rw [if_neg hb]
  have hcut : l.take (nameL l sc) ++ z = l.take (begL l sc) ++ ((l.drop (begL l sc)).take (tailL (l.drop (begL l sc)) sc) ++ z) := by
    rw [e, List.take_add, List.append_assoc]
  have hlen : (l.take (begL l sc)).length = begL l sc := by rw [List.length_take]; omega
  rw [hcut]
  unfold nameL
  rw [beg_local (by omega), if_neg hb]
  have hd : (l.take (begL l sc) ++ ((l.drop (begL l sc)).take (tailL (l.drop (begL l sc)) sc) ++ z)).drop (begL l sc) = (l.drop (begL l sc)).take (tailL (l.drop (begL l sc)) sc) ++ z := by
    conv => lhs; arg 1; rw [← hlen]
    exact List.drop_left
  rw [hd, tail_local _ _ sc z (Nat.le_refl _) hz, if_neg hb]

theorem on_zero {z : Bs} {sc : Bool} (h : onL z sc = 0) : begL z sc = 0 ∧ (z = [] ∨ digC (atL z 0) = false) := by
  unfold onL at h
  split at h
  · rename_i hb; exact absurd h hb
  · rename_i hb
    refine ⟨by omega, ?_⟩
    split at h
    · cases h
    · rename_i hd
      by_cases e : z = []
      · exact .inl e
      · exact .inr (by simpa using fun h2 => hd ⟨e, h2⟩)
theorem digs_local {l : Bs} {z : Bs} (hz : z = [] ∨ digC (atL z 0) = false) : digsL (l.take (digsL l).length ++ z) = digsL l := by
  have h1 : l.take (digsL l).length = digsL l := by
    unfold digsL
    exact (List.prefix_iff_eq_take.1 (List.takeWhile_prefix _)).symm
  rw [h1]
  have hall : ∀ c ∈ digsL l, digC c.toNat = true := fun c hc => by
    unfold digsL at hc
    exact List.all_eq_true.1 List.all_takeWhile c hc
  have : ∀ d : Bs, (∀ c ∈ d, digC c.toNat = true) → digsL (d ++ z) = d := by
    intro d
    induction d with
    | nil =>
      intro _
      cases z with
      | nil => rfl
      | cons c r =>
        have : digC c.toNat = false := by
          rcases hz with h | h
          · cases h
          · simpa [atL] using h
        simp [digsL, this]
    | cons c d ih =>
      intro h
      have hc := h c (by simp)
      have := ih (fun x hx => h x (by simp [hx]))
      unfold digsL at this ⊢
      simp only [List.cons_append, List.takeWhile_cons, hc, if_true, this]
  exact this _ hall

end Go.Proofs.YtfehmdfamndcaaaGreatDoor
namespace Go.Proofs.YtfehmdfamndcaaaGreatDoor
set_option linter.unusedVariables false

/-- the quote that a text began with is 34 or 39. -/
def Unq.qs (u : Unq) : Prop := u.st = 0 ∨ u.q = 34 ∨ u.q = 39
theorem stepU_qs {u u' : Unq} {r : Int} (h : stepU u r = some u') (hq : u.qs) : u'.qs := by
  unfold stepU at h
  split at h
  · unfold stepFirst at h
    split at h
    · rename_i h1
      cases h
      exact .inr h1
    · cases h
  · rename_i h0
    have hq2 : u.q = 34 ∨ u.q = 39 := hq.resolve_left h0
    have key : u'.q = u.q := by
      split at h
      · unfold stepInside at h
        repeat' split at h
        all_goals first | (cases h; done) | (cases h; rfl)
      · split at h
        · unfold stepEscaped at h
          repeat' split at h
          all_goals first | (cases h; done) | (cases h; rfl)
        · split at h
          · unfold stepNumbered at h
            repeat' split at h
            all_goals first | (cases h; done) | (cases h; rfl)
          · first
              | (unfold stepCounting at h
                 repeat' split at h
                 all_goals first | (cases h; done) | (cases h; rfl))
              | (split at h
                 · unfold stepCounting at h
                   repeat' split at h
                   all_goals first | (cases h; done) | (cases h; rfl)
                 · first | (cases h; done) | (cases h; rfl))
    exact .inr (by rw [key]; exact hq2)
theorem stepU_end {u u' : Unq} {r : Int} (h : stepU u r = some u') (h5 : u'.st = 5) (hu : u.st ≠ 5) (hq : u.qs) : r = 34 ∨ r = 39 := by
  unfold stepU at h
  split at h
  · unfold stepFirst at h
    split at h
    · cases h; simp at h5
    · cases h
  · rename_i h0
    have hq2 : u.q = 34 ∨ u.q = 39 := hq.resolve_left h0
    split at h
    · unfold stepInside at h
      split at h
      · cases h
      · split at h
        · rename_i hr; rw [hr]; exact hq2
        · split at h
          · cases h; simp [Unq.to] at h5
          · cases h; simp [Unq.say] at h5
    · exfalso
      split at h
      · unfold stepEscaped at h
        repeat' split at h
        all_goals first | (cases h; done) | (cases h; simp [Unq.say, Unq.to] at h5)
      · split at h
        · unfold stepNumbered at h
          repeat' split at h
          all_goals first | (cases h; done) | (cases h; simp at h5)
        · first
            | (unfold stepCounting at h
               repeat' split at h
               all_goals first | (cases h; done) | (cases h; simp [Unq.say] at h5; done) | (cases h; exact hu h5))
            | (split at h
               · unfold stepCounting at h
                 repeat' split at h
                 all_goals first | (cases h; done) | (cases h; simp [Unq.say] at h5; done) | (cases h; exact hu h5)
               · first | (cases h; done) | (cases h; exact hu h5))

theorem unqS_local : ∀ (m : Nat) (l : Bs) (u : Unq) (pos : Nat) (t : Bs) (n : Nat) (z : Bs), l.length ≤ m → u.st ≠ 5 → u.qs → unqS (scan l) u pos = some (t, n) → unqS (scan (l.take (n - pos) ++ z)) u pos = some (t, n)
  | m, [], u, pos, t, n, z, _, _, _, h => by rw [scan_nil] at h; cases h
  | 0, c :: r, u, pos, t, n, z, hm, _, _, h => by simp at hm
  | m + 1, c :: r, u, pos, t, n, z, hm, hu5, hq, h => by
    have hne : (c :: r) ≠ [] := by simp
    have hw := decL_width (c :: r)
    have hle := decL_le (c :: r) hne
    have hlen := unqS_len _ _ _ _ _ _ (Nat.le_refl _) h
    cases hs : strayL (c :: r)
    · cases hu : stepU u (decL (c :: r)).1 with
      | none => rw [unqS_none _ hne hs u pos hu] at h; cases h
      | some u' =>
        obtain ⟨l, hl⟩ : ∃ l, l = c :: r := ⟨_, rfl⟩
        rw [← hl] at hne hw hle hlen hs hu h hm ⊢
        by_cases h5 : u'.st = 5
        · rw [unqS_end _ hne hs u u' pos hu h5] at h
          have hr := stepU_end hu h5 hu5 hq
          have hlow : atL l 0 < 128 := by
            by_cases hb : atL l 0 < 128
            · exact hb
            · have := decL_high l hb
              omega
          have hd1 : (decL l).2 = 1 := by rw [dec_low1 hlow]
          cases h
          have e1 : pos + 1 - pos = (decL l).2 := by omega
          rw [e1]
          have hne2 : l.take (decL l).2 ++ z ≠ [] := fun e => take_ne hne (show 0 < (decL l).2 from hw.1) (List.append_eq_nil_iff.1 e).1
          exact unqS_end _ hne2 (stray_local hne hs z) u u' pos (by rw [dec_local hne hs z]; exact hu) h5
        · rw [unqS_more _ hne hs u u' pos hu h5] at h
          have hlen2 := unqS_len _ _ _ _ _ _ (Nat.le_refl _) h
          have ih := unqS_local m _ u' _ t n z (by simp only [List.length_drop]; omega) h5 (stepU_qs hu hq) h
          have hcut : l.take (n - pos) ++ z = l.take (decL l).2 ++ ((l.drop (decL l).2).take (n - (pos + (decL l).2)) ++ z) := by
            rw [show n - pos = (decL l).2 + (n - (pos + (decL l).2)) from by omega, List.take_add, List.append_assoc]
          rw [hcut]
          have hne2 : ∀ q, l.take (decL l).2 ++ q ≠ [] := fun q => by simp [take_ne hne (show 0 < (decL l).2 by omega)]
          rw [unqS_more _ (hne2 _) (stray_local hne hs _) u u' pos (by rw [dec_local hne hs _]; exact hu) h5, dec_local hne hs]
          have hlt : (l.take (decL l).2).length = (decL l).2 := by rw [List.length_take]; omega
          have hd : (l.take (decL l).2 ++ ((l.drop (decL l).2).take (n - (pos + (decL l).2)) ++ z)).drop (decL l).2 = (l.drop (decL l).2).take (n - (pos + (decL l).2)) ++ z := by
            conv => lhs; arg 1; rw [← hlt]
            exact List.drop_left
          rw [hd]
          exact ih
    · rw [unqS_stray _ hne hs u pos] at h; cases h
theorem unq_local {l t : Bs} {n : Nat} (h : unquoteL l = some (t, n)) (z : Bs) : unquoteL (l.take n ++ z) = some (t, n) := by
  have := unqS_local l.length l Unq.start 0 t n z (Nat.le_refl _) (by decide) (.inl rfl) h
  rw [Nat.sub_zero] at this
  exact this

theorem signs_low : ∀ g ∈ signsL, g ≠ [] ∧ atL g 0 < 128 ∧ (32 : UInt8) ∉ g := by decide

theorem find_sub {α : Type} {p q : α → Bool} {x : α} : ∀ {l : List α}, l.find? p = some x → (∀ y ∈ l, q y = true → p y = true) → q x = true → l.find? q = some x
  | y :: l, h, hs, hx => by
    rw [List.find?_cons] at h
    split at h
    · cases h; simp [hx]
    · rename_i hp
      have hq : q y = false := by
        cases hq : q y
        · rfl
        · have := hs y (by simp) hq; rw [hp] at this; cases this
      simp only [List.find?_cons, hq]
      exact find_sub h (fun z hz => hs z (by simp [hz])) hx

/-- what may stand behind. -/
structure Stop (l : Bs) (x : Tk × Nat) (z : Bs) (sc : Bool) : Prop where
  on : x.1.1 = 1 ∨ x.1.1 = 2 ∨ x.1.1 = 3 → onL z sc = 0
  sg : ∀ g ∈ signsL, g.isPrefixOf (l.take x.2 ++ z) = true → g.isPrefixOf l = true

theorem next_local {l : Bs} {sc : Bool} {x : Tk × Nat} {z : Bs} (hl : l ≠ []) (h : nextL l sc = .ok x) (hz : Stop l x z sc) : nextL (l.take x.2 ++ z) sc = .ok x := by
  have hlen := next_len hl h
  have hne : l.take x.2 ++ z ≠ [] := by simp [take_ne hl (show 0 < x.2 by omega)]
  have hat : atL (l.take x.2 ++ z) 0 = atL l 0 := by rw [atL_app0 (take_ne hl (by omega)), atL_take0 (by omega)]
  have h' := h
  unfold nextL at h
  split at h
  · rename_i h1
    have e2 : x.2 = nameL l sc := by cases h; rfl
    have hk : x.1.1 = 1 ∨ x.1.1 = 2 ∨ x.1.1 = 3 := by
      cases h
      simp only
      split
      · exact .inr (.inl rfl)
      · exact .inl rfl
    have hn := name_local h1 (hz.on hk)
    rw [← e2] at hn
    unfold nextL
    rw [hn, e2, if_pos h1]
    cases h
    have ht : (l.take (nameL l sc) ++ z).take (nameL l sc) = l.take (nameL l sc) := by
      have hlt : (l.take (nameL l sc)).length = nameL l sc := by rw [List.length_take]; have := nameL_le l sc; omega
      conv => lhs; arg 1; rw [← hlt]
      exact List.take_left
    rw [ht]
  · rename_i h1
    have hbl : begL l sc = 0 := by
      by_cases e : begL l sc = 0
      · exact e
      · exfalso
        apply h1
        unfold nameL
        rw [if_neg e]
        omega
    have nm : ∀ (hlow : atL l 0 < 128), nameL (l.take x.2 ++ z) sc = 0 := fun hlow => by
      unfold nameL
      rw [beg_low hl hne hlow hat, if_pos hbl]
    split at h
    · rename_i h2
      have hlow : atL l 0 < 128 := by unfold digC at h2; simp at h2; omega
      unfold nextL
      rw [nm hlow, if_neg (by omega), hat, if_pos h2]
      unfold numbL at h ⊢
      split at h
      · cases h
      · rename_i h3
        split at h
        · cases h
        · rename_i h4
          cases h
          obtain ⟨hb0, hd0⟩ := on_zero (hz.on (.inr (.inr rfl)))
          simp only at hat hne ⊢
          rw [digs_local hd0, hat]
          have hdr : (l.take (digsL l).length ++ z).drop (digsL l).length = z := by
            have hlt : (l.take (digsL l).length).length = (digsL l).length := by rw [List.length_take]; have := digsL_le l; omega
            conv => lhs; arg 1; rw [← hlt]
            exact List.drop_left
          rw [hdr, hb0, if_neg (fun hc => h3 (.inl (hc.resolve_right (by omega)))), if_neg h4]
    · rename_i h2
      split at h
      · rename_i h3
        have hlow : atL l 0 < 128 := by omega
        unfold nextL
        rw [nm hlow, if_neg (by omega), hat, if_neg h2, if_pos h3]
        unfold unqNx at h ⊢
        split at h
        · rename_i y hy
          cases h
          rw [unq_local (t := y.1) (n := y.2) hy z]
        · cases h
      · rename_i h3
        unfold signNx at h
        split at h
        · rename_i g hg
          cases h
          have hm := List.mem_of_find?_eq_some hg
          have hp := List.find?_some hg
          obtain ⟨g0, glow, _⟩ := signs_low g hm
          obtain ⟨r, hr⟩ := List.isPrefixOf_iff_prefix.1 hp
          have hlow : atL l 0 < 128 := by rw [← hr, atL_app0 g0]; exact glow
          unfold nextL
          rw [nm hlow, if_neg (by omega), hat, if_neg h2, if_neg h3]
          unfold signNx
          have htk : l.take g.length = g := by rw [← hr]; exact List.take_left
          rw [find_sub hg (fun y hy hq => hz.sg y hy hq) (by
            show List.isPrefixOf g (l.take g.length ++ z) = true
            rw [htk]
            exact List.isPrefixOf_iff_prefix.2 ⟨z, rfl⟩)]
        · cases h

end Go.Proofs.YtfehmdfamndcaaaGreatDoor
namespace Go.Proofs.YtfehmdfamndcaaaGreatDoor
set_option linter.unusedVariables false

/-- the reading, step by step. -/
theorem lex_step {a : Nat} {l : Bs} {sc : Bool} {ts : List (Tk × Nat)} (h : lexL a l sc = .ok ts) :
    (pastL l).2 = true ∧ ((l.drop (pastL l).1 = [] ∧ ts = []) ∨ ∃ x ts', l.drop (pastL l).1 ≠ [] ∧ nextL (l.drop (pastL l).1) sc = .ok x ∧ lexL (a + (pastL l).1 + x.2) (l.drop ((pastL l).1 + x.2)) sc = .ok ts' ∧ ts = (x.1, a + (pastL l).1) :: ts') := by
  rw [lexL_eq] at h
  split at h
  · cases h
  · rename_i h1
    refine ⟨by simpa using h1, ?_⟩
    split at h
    · rename_i h2
      cases h
      exact .inl ⟨h2, rfl⟩
    · rename_i h2
      cases hx : nextL (l.drop (pastL l).1) sc with
      | error e => rw [hx] at h; cases h
      | ok x =>
        rw [hx] at h
        simp only at h
        cases hy : lexL (a + (pastL l).1 + x.2) (l.drop ((pastL l).1 + x.2)) sc with
        | error e => rw [hy] at h; cases h
        | ok ts' =>
          rw [hy] at h
          cases h
          exact .inr ⟨x, ts', h2, rfl, hy, rfl⟩
theorem lex_made {a : Nat} {l : Bs} {sc : Bool} {x : Tk × Nat} {ts' : List (Tk × Nat)} (h1 : (pastL l).2 = true) (h2 : l.drop (pastL l).1 ≠ []) (h3 : nextL (l.drop (pastL l).1) sc = .ok x) (h4 : lexL (a + (pastL l).1 + x.2) (l.drop ((pastL l).1 + x.2)) sc = .ok ts') :
    lexL a l sc = .ok ((x.1, a + (pastL l).1) :: ts') := by
  rw [lexL_eq, if_neg (by rw [h1]; simp), if_neg h2, h3]
  simp only
  rw [h4]
  rfl
theorem lex_end {a : Nat} {l : Bs} {sc : Bool} (h1 : (pastL l).2 = true) (h2 : l.drop (pastL l).1 = []) : lexL a l sc = .ok [] := by
  rw [lexL_eq, if_neg (by rw [h1]; simp), if_pos h2]

/-- what begins a source that is read is no sign 36. -/
theorem dollar_bad {a : Nat} {r : Bs} {ts : List (Tk × Nat)} (h : lexL a (36 :: r) false = .ok ts) : False := by
  have hp : pastL (36 :: r) = (0, true) := by
    rw [pastL_cons, if_neg (by decide), if_neg (fun h => absurd h.1 (by decide)), if_neg (fun h => absurd h.1 (by decide))]
  have hx : nextL (36 :: r) false = .error 40 := by
    have ha : atL (36 :: r) 0 = 36 := rfl
    have hb : begL (36 :: r) false = 0 := by
      unfold begL
      have hd : decL (36 :: r) = (36, 1) := dec_low1 (by rw [ha]; omega)
      unfold strayL
      rw [if_neg (by simp), ha, hd]
      decide
    have hn : nameL (36 :: r) false = 0 := by unfold nameL; rw [if_pos hb]
    unfold nextL
    rw [hn, if_neg (by omega), ha, if_neg (by decide), if_neg (by omega)]
    unfold signNx
    have : signsL.find? (fun g => g.isPrefixOf (36 :: r)) = none := by
      rw [List.find?_eq_none]
      have hall : ∀ g ∈ signsL, g.head? ≠ some 36 ∧ g ≠ [] := by decide
      intro g hg hpre
      obtain ⟨h1, h2⟩ := hall g hg
      cases g with
      | nil => exact h2 rfl
      | cons c q =>
        simp [List.isPrefixOf] at hpre
        exact h1 (by simp [hpre.1])
    rw [this]
  obtain ⟨_, h2⟩ := lex_step h
  rw [hp] at h2
  rcases h2 with ⟨h2, _⟩ | ⟨x, ts', _, h3, _⟩
  · simp at h2
  · rw [List.drop_zero, hx] at h3; cases h3

theorem beg_sc {l : Bs} (h : l = [] ∨ atL l 0 ≠ 36) : begL l true = begL l false := by
  unfold begL
  rcases h with rfl | h
  · rfl
  · simp [h]
theorem beg_sc_pos {l : Bs} (h : begL l false ≠ 0) : begL l true = begL l false := by
  apply beg_sc
  by_cases hl : l = []
  · exact .inl hl
  · refine .inr fun e => h ?_
    unfold begL
    have hd : decL l = (36, 1) := by rw [dec_low1 (by omega), e]
    unfold strayL
    rw [if_neg hl, e, hd]
    decide
theorem on_sc_pos {l : Bs} (h : onL l false ≠ 0) : onL l true = onL l false := by
  by_cases hb : begL l false ≠ 0
  · unfold onL
    rw [beg_sc_pos hb]
  · have hb0 : begL l false = 0 := by omega
    by_cases hd : l ≠ [] ∧ digC (atL l 0) = true
    · have h36 : atL l 0 ≠ 36 := fun e => by rw [e] at hd; exact absurd hd.2 (by decide)
      unfold onL
      rw [beg_sc (.inr h36)]
    · exfalso
      apply h
      unfold onL
      rw [if_neg hb, if_neg hd]
theorem on_sc {l : Bs} (h : l = [] ∨ atL l 0 ≠ 36) : onL l true = onL l false := by unfold onL; rw [beg_sc h]
theorem tail_sc : ∀ (m : Nat) (l : Bs), l.length ≤ m → (l.drop (tailL l false) = [] ∨ atL (l.drop (tailL l false)) 0 ≠ 36) → tailL l true = tailL l false := by
  intro m
  induction m with
  | zero =>
    intro l hm _
    have hl : l = [] := List.eq_nil_of_length_eq_zero (by omega)
    subst hl
    rfl
  | succ m ih =>
    intro l hm h
    by_cases h0 : onL l false = 0
    · have e : tailL l false = 0 := by rw [tailL_eq, if_pos h0]
      rw [e, List.drop_zero] at h
      rw [e, tailL_eq, on_sc h, if_pos h0]
    · have hle := onL_le l false
      have e : tailL l false = onL l false + tailL (l.drop (onL l false)) false := by rw [tailL_eq, if_neg h0]
      rw [e, ← List.drop_drop] at h
      have := ih (l.drop (onL l false)) (by simp; omega) h
      rw [e, tailL_eq, on_sc_pos h0, if_neg h0, this]
theorem next_sc {l : Bs} {x : Tk × Nat} (h : nextL l false = .ok x) (hd : l.drop x.2 = [] ∨ atL (l.drop x.2) 0 ≠ 36) : nextL l true = .ok x := by
  have h' := h
  unfold nextL at h
  split at h
  · rename_i h1
    have hb : begL l false ≠ 0 := fun e => by unfold nameL at h1; rw [if_pos e] at h1; omega
    have e : nameL l false = begL l false + tailL (l.drop (begL l false)) false := by unfold nameL; rw [if_neg hb]
    have hx2 : x.2 = nameL l false := by cases h; rfl
    rw [hx2, e, ← List.drop_drop] at hd
    have hn : nameL l true = nameL l false := by
      unfold nameL
      rw [beg_sc_pos hb, tail_sc _ _ (Nat.le_refl _) hd]
    unfold nextL
    rw [hn, if_pos h1]
    exact h
  · rename_i h1
    have hbl : begL l false = 0 := by
      by_cases e : begL l false = 0
      · exact e
      · exfalso
        apply h1
        unfold nameL
        rw [if_neg e]
        omega
    by_cases h36 : l = [] ∨ atL l 0 ≠ 36
    · have hn : nameL l true = 0 := by unfold nameL; rw [beg_sc h36, if_pos hbl]
      unfold nextL
      rw [hn, if_neg (by omega)]
      split at h
      · rename_i h2
        rw [if_pos h2]
        unfold numbL at h ⊢
        have hx : x.2 = (digsL l).length := by
          split at h
          · cases h
          · split at h
            · cases h
            · cases h; rfl
        rw [hx] at hd
        rw [beg_sc hd]
        exact h
      · rename_i h2
        rw [if_neg h2]
        exact h
    · exfalso
      have h3 : l ≠ [] ∧ atL l 0 = 36 := by
        refine ⟨fun e => h36 (.inl e), ?_⟩
        by_cases e : atL l 0 = 36
        · exact e
        · exact absurd (.inr e) h36
      cases l with
      | nil => exact h3.1 rfl
      | cons c r =>
        have hc : c = 36 := UInt8.toNat_inj.1 (by simpa [atL] using h3.2)
        subst hc
        have hb : digC (atL (36 :: r) 0) = false := by rw [h3.2]; decide
        rw [if_neg (by rw [hb]; simp), if_neg (by rw [h3.2]; omega)] at h
        unfold signNx at h
        split at h
        · rename_i g hg
          have hm := List.mem_of_find?_eq_some hg
          have hp := List.find?_some hg
          have hall : ∀ g ∈ signsL, g.head? ≠ some 36 ∧ g ≠ [] := by decide
          obtain ⟨q1, q2⟩ := hall g hm
          cases g with
          | nil => exact q2 rfl
          | cons c q =>
            simp [List.isPrefixOf] at hp
            exact q1 (by simp [hp.1])
        · cases h
theorem scripts : ∀ (m a : Nat) (l : Bs) (ts : List (Tk × Nat)), l.length ≤ m → lexL a l false = .ok ts → lexL a l true = .ok ts := by
  intro m
  induction m with
  | zero =>
    intro a l ts hm h
    have hl : l = [] := List.eq_nil_of_length_eq_zero (by omega)
    subst hl
    obtain ⟨h1, h2⟩ := lex_step h
    rcases h2 with ⟨h2, rfl⟩ | ⟨x, ts', h2, _⟩
    · exact lex_end h1 h2
    · exact absurd (by simp) h2
  | succ m ih =>
    intro a l ts hm h
    obtain ⟨h1, h2⟩ := lex_step h
    rcases h2 with ⟨h2, rfl⟩ | ⟨x, ts', h2, h3, h4, rfl⟩
    · exact lex_end h1 h2
    · have hlen := next_len h2 h3
      simp only [List.length_drop] at hlen
      have h5 := ih _ _ ts' (by simp; omega) h4
      refine lex_made h1 h2 (next_sc h3 ?_) h5
      rw [List.drop_drop]
      by_cases he : l.drop ((pastL l).1 + x.2) = []
      · exact .inl he
      · refine .inr fun e => ?_
        cases hr : l.drop ((pastL l).1 + x.2) with
        | nil => exact he hr
        | cons c r =>
          rw [hr] at e h4
          have hc : c = 36 := UInt8.toNat_inj.1 (by simpa [atL] using e)
          subst hc
          exact dollar_bad h4

/-- a note that does not end begins ahead of the end. -/
theorem past_full : ∀ {m : Nat} {l : Bs}, l.length ≤ m → (pastL l).2 = false → (pastL l).1 = l.length → False
  | _, [], _, h, _ => by simp [pastL_nil] at h
  | 0, c :: r, hm, _, _ => by simp at hm
  | m + 1, c :: r, hm, h, he => by
    simp only [List.length_cons] at hm he
    rw [pastL_cons] at h he
    split at h
    · rename_i h1
      rw [if_pos h1] at he
      exact past_full (m := m) (by omega) h (by simpa using he)
    · rename_i h1
      rw [if_neg h1] at he
      split at h
      · rename_i h2
        rw [if_pos h2] at he
        have hl := lineL_le r
        refine past_full (m := m) (l := r.drop (lineL r)) (by simp; omega) h ?_
        simp only [List.length_drop]
        simp only at he
        omega
      · rename_i h2
        rw [if_neg h2] at he
        split at h
        · rename_i h3
          rw [if_pos h3] at he
          cases hn : noteL r.tail with
          | none => rw [hn] at he; simp at he
          | some k =>
            rw [hn] at h he
            have h4 := noteL_le _ _ hn
            simp only [List.length_tail] at h4
            refine past_full (m := m) (l := r.tail.drop k) (by simp; omega) h ?_
            simp only [List.length_drop, List.length_tail]
            simp only at he
            omega
        · cases h

/-- a token does not begin with a blank. -/
theorem letter_big {r : Int} (h : letterB r = true) : 65 ≤ r := by
  unfold letterB at h
  simp at h
  omega
theorem next_big {l : Bs} {sc : Bool} {x : Tk × Nat} (hl : l ≠ []) (h : nextL l sc = .ok x) : 32 < atL l 0 := by
  unfold nextL at h
  split at h
  · rename_i h1
    have hb : begL l sc ≠ 0 := fun e => by unfold nameL at h1; rw [if_pos e] at h1; omega
    by_cases hlow : atL l 0 < 128
    · unfold begL strayL at hb
      rw [if_neg hl, dec_low1 hlow] at hb
      split at hb
      · rename_i h2; omega
      · split at hb
        · rename_i h3
          have := letter_big h3.2
          omega
        · exact absurd rfl hb
    · omega
  · split at h
    · rename_i h2
      unfold digC at h2
      simp at h2
      omega
    · split at h
      · rename_i h3; omega
      · unfold signNx at h
        split at h
        · rename_i g hg
          have hm := List.mem_of_find?_eq_some hg
          have hp := List.find?_some hg
          have hall : ∀ g ∈ signsL, g ≠ [] ∧ 32 < atL g 0 := by decide
          obtain ⟨g0, g1⟩ := hall g hm
          obtain ⟨r, hr⟩ := List.isPrefixOf_iff_prefix.1 hp
          rw [← hr, atL_app0 g0]
          exact g1
        · cases h
/-- the text of a name, a word, a sign stands there. -/
theorem next_text_at {l : Bs} {sc : Bool} {x : Tk × Nat} (h : nextL l sc = .ok x) : (x.1.1 = 1 ∨ x.1.1 = 2 ∨ x.1.1 = 5 → x.1.2.1 = l.take x.2 ∧ x.1.2.1.length = x.2) ∧ (1 ≤ x.1.1 ∧ x.1.1 ≤ 5) := by
  unfold nextL at h
  split at h
  · cases h
    have hle := nameL_le l sc
    refine ⟨fun _ => ⟨rfl, by simp; omega⟩, ?_⟩
    split <;> simp
  · split at h
    · unfold numbL at h
      split at h
      · cases h
      · split at h
        · cases h
        · cases h
          exact ⟨fun h => by simp at h, by simp⟩
    · split at h
      · unfold unqNx at h
        split at h
        · cases h
          exact ⟨fun h => by simp at h, by simp⟩
        · cases h
      · unfold signNx at h
        split at h
        · rename_i g hg
          cases h
          have hp := List.find?_some hg
          obtain ⟨r, hr⟩ := List.isPrefixOf_iff_prefix.1 hp
          refine ⟨fun _ => ⟨?_, rfl⟩, by simp⟩
          show g = l.take g.length
          rw [← hr]
          exact List.take_left.symm
        · cases h

/-- what is told of the places: each begins behind 'last', within the source, at no blank; the text stands there. -/
def rising (s : Bs) : Int → List (Tk × Nat) → Prop
  | _, [] => True
  | last, x :: ts => last < (x.2 : Int) ∧ x.2 < s.length ∧ 32 < atL s x.2 ∧
      (x.1.1 = 1 ∨ x.1.1 = 2 ∨ x.1.1 = 5 → x.1.2.1.length ≤ s.length - x.2 ∧ (s.drop x.2).take x.1.2.1.length = x.1.2.1) ∧
      rising s (if x.1.1 = 1 ∨ x.1.1 = 2 ∨ x.1.1 = 5 then (x.2 : Int) + x.1.2.1.length - 1 else (x.2 : Int)) ts
theorem rises : ∀ (m a : Nat) (s : Bs) (sc : Bool) (ts : List (Tk × Nat)) (last : Int), (s.drop a).length ≤ m → a ≤ s.length → lexL a (s.drop a) sc = .ok ts → last < (a : Int) → rising s last ts := by
  intro m
  induction m with
  | zero =>
    intro a s sc ts last hm ha h hl
    obtain ⟨h1, h2⟩ := lex_step h
    rcases h2 with ⟨h2, rfl⟩ | ⟨x, ts', h2, _⟩
    · trivial
    · exact absurd (by rw [List.drop_drop]; exact List.drop_eq_nil_of_le (by simp at hm; omega)) h2
  | succ m ih =>
    intro a s sc ts last hm ha h hl
    obtain ⟨h1, h2⟩ := lex_step h
    rcases h2 with ⟨h2, rfl⟩ | ⟨x, ts', h2, h3, h4, rfl⟩
    · trivial
    · have hlen := next_len h2 h3
      have hbig := next_big h2 h3
      obtain ⟨htx, _⟩ := next_text_at h3
      rw [List.drop_drop] at h2 h3 h4 hlen hbig htx
      simp only [List.length_drop] at hlen hm
      rw [atL_drop] at hbig
      have hin := ih (a + (pastL (s.drop a)).1 + x.2) s sc ts' (if x.1.1 = 1 ∨ x.1.1 = 2 ∨ x.1.1 = 5 then ((a + (pastL (s.drop a)).1 : Nat) : Int) + x.1.2.1.length - 1 else ((a + (pastL (s.drop a)).1 : Nat) : Int)) (by simp; omega) (by omega) (by rw [Nat.add_assoc]; rw [Nat.add_assoc] at h4; exact h4) (by
        split
        · rename_i hk
          have := (htx hk).2
          omega
        · omega)
      refine ⟨by simp only; omega, by simp only; omega, by simpa using hbig, fun hk => ?_, hin⟩
      obtain ⟨t1, t2⟩ := htx hk
      refine ⟨by simp only; omega, ?_⟩
      show (s.drop (a + (pastL (s.drop a)).1)).take x.1.2.1.length = x.1.2.1
      rw [t2, ← t1]
theorem lex_bad_at : ∀ (m a : Nat) (l : Bs) (sc : Bool) (c : Nat × Nat), l.length ≤ m → lexL a l sc = .error c → a ≤ c.1 ∧ c.1 < a + l.length := by
  intro m
  induction m with
  | zero =>
    intro a l sc c hm h
    have hl : l = [] := List.eq_nil_of_length_eq_zero (by omega)
    subst hl
    rw [lexL_eq] at h
    simp [pastL_nil] at h
  | succ m ih =>
    intro a l sc c hm h
    have hp := pastL_le l
    have hpf : (pastL l).2 = false → (pastL l).1 < l.length := fun hf => by
      rcases Nat.lt_or_ge (pastL l).1 l.length with h | h
      · exact h
      · exfalso
        exact past_full (Nat.le_refl _) hf (by omega)
    rw [lexL_eq] at h
    split at h
    · rename_i h1
      cases h
      exact ⟨by simp, by have := hpf h1; simp; omega⟩
    · split at h
      · cases h
      · rename_i h2
        have hlt : (pastL l).1 < l.length := by
          rcases Nat.lt_or_ge (pastL l).1 l.length with h | h
          · exact h
          · exact absurd (List.drop_eq_nil_of_le h) h2
        cases hx : nextL (l.drop (pastL l).1) sc with
        | error e =>
          rw [hx] at h
          cases h
          exact ⟨by simp, by simp; omega⟩
        | ok x =>
          rw [hx] at h
          have hlen := next_len h2 hx
          simp only [List.length_drop] at hlen
          simp only at h
          cases hy : lexL (a + (pastL l).1 + x.2) (l.drop ((pastL l).1 + x.2)) sc with
          | error d =>
            rw [hy] at h
            cases h
            have := ih _ _ sc _ (by simp; omega) hy
            simp only [List.length_drop] at this
            omega
          | ok ts => rw [hy] at h; cases h

end Go.Proofs.YtfehmdfamndcaaaGreatDoor
namespace Go.Proofs.YtfehmdfamndcaaaGreatDoor
set_option linter.unusedVariables false

/-- places apart. -/
def kinds (ts : List (Tk × Nat)) : List Tk := ts.map Prod.fst
theorem shift : ∀ (m a b : Nat) (l : Bs) (sc : Bool) (ts : List (Tk × Nat)), l.length ≤ m → lexL a l sc = .ok ts → ∃ ts', lexL b l sc = .ok ts' ∧ kinds ts' = kinds ts := by
  intro m
  induction m with
  | zero =>
    intro a b l sc ts hm h
    obtain ⟨h1, h2⟩ := lex_step h
    rcases h2 with ⟨h2, rfl⟩ | ⟨x, ts', h2, _⟩
    · exact ⟨[], lex_end h1 h2, rfl⟩
    · exact absurd (List.drop_eq_nil_of_le (by omega)) h2
  | succ m ih =>
    intro a b l sc ts hm h
    obtain ⟨h1, h2⟩ := lex_step h
    rcases h2 with ⟨h2, rfl⟩ | ⟨x, ts', h2, h3, h4, rfl⟩
    · exact ⟨[], lex_end h1 h2, rfl⟩
    · have hlen := next_len h2 h3
      simp only [List.length_drop] at hlen
      obtain ⟨ts2, h5, h6⟩ := ih _ (b + (pastL l).1 + x.2) _ sc ts' (by simp; omega) h4
      exact ⟨_, lex_made h1 h2 h3 h5, by simp [kinds] at h6 ⊢; exact h6⟩

theorem past_none {c : UInt8} {r : Bs} (h : pastL (c :: r) = (0, true)) : isBl c = false ∧ ¬ (c = 47 ∧ r.head? = some 47) ∧ ¬ (c = 47 ∧ r.head? = some 42) := by
  rw [pastL_cons] at h
  split at h
  · simp at h
  · rename_i h1
    split at h
    · simp at h
    · rename_i h2
      split at h
      · split at h
        · simp at h
        · simp at h
      · rename_i h3
        exact ⟨by simpa using h1, h2, h3⟩
theorem past_here {c : UInt8} {r : Bs} (h1 : isBl c = false) (h2 : ¬ (c = 47 ∧ r.head? = some 47)) (h3 : ¬ (c = 47 ∧ r.head? = some 42)) : pastL (c :: r) = (0, true) := by
  rw [pastL_cons, if_neg (by rw [h1]; simp), if_neg h2, if_neg h3]

theorem lineL_app : ∀ (r q : Bs), lineL r < r.length → lineL (r ++ q) = lineL r
  | [], q, h => by simp at h
  | c :: r, q, h => by
    by_cases hc : c = 10
    · simp [lineL, hc]
    · simp only [lineL, hc, if_false, List.cons_append, List.length_cons] at h ⊢
      rw [lineL_app r q (by omega)]
theorem noteL_app : ∀ (r q : Bs) (k : Nat), noteL r = some k → noteL (r ++ q) = some k
  | c :: r, q, k, h => by
    unfold noteL at h
    split at h
    · rename_i hc
      have : (r ++ q).head? = some 47 := by
        cases r with
        | nil => simp at hc
        | cons d r => simpa using hc.2
      simp only [List.cons_append]
      unfold noteL
      rw [if_pos ⟨hc.1, this⟩]
      exact h
    · rename_i hc
      cases hn : noteL r with
      | none => rw [hn] at h; cases h
      | some j =>
        rw [hn] at h
        have ih := noteL_app r q j hn
        simp only [List.cons_append]
        unfold noteL
        rw [if_neg, ih]
        · exact h
        · rintro ⟨h1, h2⟩
          cases r with
          | nil => simp [noteL] at hn
          | cons d r => exact hc ⟨h1, by simpa using h2⟩

theorem line_end : ∀ {r : Bs} {d : UInt8} {t : Bs}, r.drop (lineL r) = d :: t → d = 10
  | [], d, t, h => by simp at h
  | c :: r, d, t, h => by
    by_cases hc : c = 10
    · simp [lineL, hc] at h; exact h.1.symm
    · simp only [lineL, hc, if_false, List.drop_succ_cons] at h
      exact line_end h
theorem line_take : ∀ {r : Bs} {n : Nat}, lineL r < r.length → lineL r < n → lineL (r.take n) = lineL r
  | [], n, h, _ => by simp at h
  | c :: r, n, h, hn => by
    cases n with
    | zero => omega
    | succ n =>
      by_cases hc : c = 10
      · simp [lineL, hc]
      · simp only [lineL, hc, if_false, List.length_cons, List.take_succ_cons] at h hn ⊢
        rw [line_take (by omega) (by omega)]
theorem note_take : ∀ {r : Bs} {j : Nat}, noteL r = some j → noteL (r.take j) = some j
  | c :: r, j, h => by
    unfold noteL at h
    split at h
    · rename_i hc
      cases h
      cases r with
      | nil => simp at hc
      | cons d t =>
        simp only [List.take_succ_cons, List.take_zero]
        unfold noteL
        rw [if_pos ⟨hc.1, by simpa using hc.2⟩]
    · rename_i hc
      cases hn : noteL r with
      | none => rw [hn] at h; cases h
      | some i =>
        rw [hn] at h
        cases h
        have ih := note_take hn
        have hi := noteL_le _ _ hn
        simp only [List.take_succ_cons]
        unfold noteL
        rw [if_neg, ih]
        · rfl
        · rintro ⟨h1, h2⟩
          apply hc
          refine ⟨h1, ?_⟩
          cases r with
          | nil => simp [noteL] at hn
          | cons d t =>
            cases i with
            | zero => omega
            | succ i => simpa using h2

/-- what is passed over ends where it ends, whatever stands behind. -/
theorem past_app : ∀ (m : Nat) (l q : Bs), l.length ≤ m → (pastL l).2 = true → (pastL l).1 < l.length → pastL (l.take (pastL l).1 ++ q) = ((pastL l).1 + (pastL q).1, (pastL q).2) ∧ pastL (l.drop (pastL l).1) = (0, true) := by
  intro m
  induction m with
  | zero => intro l q hm _ h; omega
  | succ m ih =>
    intro l q hm h1 h2
    cases l with
    | nil => simp at h2
    | cons c r =>
      simp only [List.length_cons] at hm h2
      have hpc := pastL_cons c r
      split at hpc
      · rename_i hb
        rw [hpc] at h1 h2 ⊢
        simp only at h1 h2
        obtain ⟨i1, i2⟩ := ih r q (by omega) h1 (by omega)
        constructor
        · simp only [List.take_succ_cons, List.cons_append]
          rw [pastL_cons, if_pos hb, i1]
          simp only [Prod.mk.injEq, and_true]
          omega
        · simpa using i2
      · rename_i hb
        split at hpc
        · rename_i hl
          rw [hpc] at h1 h2 ⊢
          simp only at h1 h2
          have hle := lineL_le r
          have hlt : lineL r < r.length := by omega
          obtain ⟨i1, i2⟩ := ih (r.drop (lineL r)) q (by simp; omega) h1 (by simp only [List.length_drop]; omega)
          have hne : r ≠ [] := fun e => by rw [e] at hl; simp at hl
          obtain ⟨k, hk⟩ : ∃ k, k = (pastL (r.drop (lineL r))).1 := ⟨_, rfl⟩
          rw [← hk] at i1 i2 h2 ⊢
          have hkp : 0 < k := by
            -- ahead of the line's end stands the line's end itself: it is passed over
            cases hd : r.drop (lineL r) with
            | nil => rw [List.drop_eq_nil_iff] at hd; omega
            | cons d t =>
              have hd10 : d = 10 := line_end hd
              rw [hd, pastL_cons, hd10, if_pos (by decide)] at hk
              omega
          have htk : (c :: r).take (k + (lineL r + 1)) = c :: (r.take (lineL r) ++ (r.drop (lineL r)).take k) := by
            rw [show k + (lineL r + 1) = (lineL r + k) + 1 from by omega, List.take_succ_cons, List.take_add]
          constructor
          · rw [htk]
            simp only [List.cons_append, List.append_assoc]
            rw [pastL_cons, if_neg hb]
            have hh : (r.take (lineL r) ++ ((r.drop (lineL r)).take k ++ q)).head? = some 47 := by
              have h47 := hl.2
              cases r with
              | nil => exact absurd rfl hne
              | cons d t =>
                have hd : d = 47 := by simpa using h47
                subst hd
                have : lineL (47 :: t) = lineL t + 1 := by simp [lineL]
                rw [this]
                simp
            have hl2 : lineL (r.take (lineL r) ++ ((r.drop (lineL r)).take k ++ q)) = lineL r := by
              have e : r.take (lineL r) ++ ((r.drop (lineL r)).take k ++ q) = r.take (lineL r + k) ++ q := by rw [List.take_add, List.append_assoc]
              rw [e]
              have hlt2 : lineL (r.take (lineL r + k)) = lineL r := line_take hlt (by omega)
              rw [lineL_app _ _ (by rw [hlt2, List.length_take]; omega), hlt2]
            rw [if_pos ⟨hl.1, hh⟩, hl2]
            have hdr : (r.take (lineL r) ++ ((r.drop (lineL r)).take k ++ q)).drop (lineL r) = (r.drop (lineL r)).take k ++ q := by
              have hlen : (r.take (lineL r)).length = lineL r := by rw [List.length_take]; omega
              conv => lhs; arg 1; rw [← hlen]
              exact List.drop_left
            rw [hdr, i1]
            simp only [Prod.mk.injEq, and_true]
            omega
          · rw [show k + (lineL r + 1) = (lineL r + k) + 1 from by omega, List.drop_succ_cons, ← List.drop_drop]
            exact i2
        · rename_i hl
          split at hpc
          · rename_i hn
            cases hnl : noteL r.tail with
            | none => rw [hnl] at hpc; rw [hpc] at h1; cases h1
            | some j =>
              rw [hnl] at hpc
              simp only at hpc
              rw [hpc] at h1 h2 ⊢
              simp only at h1 h2
              have hj := noteL_le _ _ hnl
              simp only [List.length_tail] at hj
              obtain ⟨i1, i2⟩ := ih (r.tail.drop j) q (by simp; omega) h1 (by simp only [List.length_drop, List.length_tail]; omega)
              cases r with
              | nil => simp at hn
              | cons d t =>
                simp only [List.tail_cons] at hnl i1 i2 h2 hj ⊢
                obtain ⟨k, hk⟩ : ∃ k, k = (pastL (t.drop j)).1 := ⟨_, rfl⟩
                rw [← hk] at i1 i2 h2 ⊢
                have hj2 : j ≤ t.length := by have := (noteL_le _ _ hnl).2; exact this
                have htk : (c :: d :: t).take (k + (j + 2)) = c :: d :: (t.take j ++ (t.drop j).take k) := by
                  rw [show k + (j + 2) = (j + k) + 1 + 1 from by omega, List.take_succ_cons, List.take_succ_cons, List.take_add]
                constructor
                · rw [htk]
                  simp only [List.cons_append, List.append_assoc]
                  rw [pastL_cons, if_neg hb, if_neg (by rintro ⟨a1, a2⟩; exact hl ⟨a1, by simpa using a2⟩), if_pos ⟨hn.1, by simpa using hn.2⟩]
                  simp only [List.tail_cons]
                  have hn2 : noteL (t.take j ++ ((t.drop j).take k ++ q)) = some j := by
                    have h0 := note_take hnl
                    exact noteL_app _ _ _ h0
                  rw [hn2]
                  have hdr : (t.take j ++ ((t.drop j).take k ++ q)).drop j = (t.drop j).take k ++ q := by
                    have hlen : (t.take j).length = j := by rw [List.length_take]; omega
                    conv => lhs; arg 1; rw [← hlen]
                    exact List.drop_left
                  simp only
                  rw [hdr, i1]
                  simp only [Prod.mk.injEq, and_true]
                  omega
                · rw [show k + (j + 2) = (j + k) + 1 + 1 from by omega, List.drop_succ_cons, List.drop_succ_cons, ← List.drop_drop]
                  exact i2
          · rename_i hn
            rw [hpc]
            simp only [List.take_zero, List.nil_append, List.drop_zero]
            exact ⟨by simp, hpc⟩

end Go.Proofs.YtfehmdfamndcaaaGreatDoor
namespace Go.Proofs.YtfehmdfamndcaaaGreatDoor
set_option linter.unusedVariables false

theorem pre_cut {g A B : Bs} (h : g.isPrefixOf (A ++ 32 :: B) = true) (h32 : 32 ∉ g) : g.isPrefixOf A = true := by
  obtain ⟨r, hr⟩ := List.isPrefixOf_iff_prefix.1 h
  apply List.isPrefixOf_iff_prefix.2
  rcases Nat.lt_or_ge A.length g.length with hl | hl
  · exfalso
    apply h32
    have e : g[A.length]? = some 32 := by
      have h1 : (g ++ r)[A.length]? = (A ++ 32 :: B)[A.length]? := by rw [hr]
      rw [List.getElem?_append_left hl, List.getElem?_append_right (Nat.le_refl _)] at h1
      simpa using h1
    exact List.mem_of_getElem? e
  · exact List.prefix_of_prefix_length_le ⟨r, hr⟩ ⟨32 :: B, rfl⟩ hl
theorem pre_more {g A : Bs} (B : Bs) (h : g.isPrefixOf A = true) : g.isPrefixOf (A ++ B) = true := by
  obtain ⟨r, hr⟩ := List.isPrefixOf_iff_prefix.1 h
  exact List.isPrefixOf_iff_prefix.2 ⟨r ++ B, by rw [← List.append_assoc, hr]⟩

theorem on_32 (r : Bs) (sc : Bool) : onL (32 :: r) sc = 0 := by
  have ha : atL (32 :: r) 0 = 32 := rfl
  have hb : begL (32 :: r) sc = 0 := by
    unfold begL strayL
    rw [if_neg (by simp), ha, dec_low1 (by rw [ha]; omega), ha]
    rw [if_neg (by omega), if_neg (by decide)]
  unfold onL
  rw [if_neg (by omega), ha, if_neg (fun h => absurd h.2 (by decide))]
theorem on_low {l m : Bs} (hl : l ≠ []) (hm : m ≠ []) (h : atL l 0 < 128) (he : atL m 0 = atL l 0) (sc : Bool) : onL m sc = onL l sc := by
  unfold onL
  rw [beg_low hl hm h he, he]
  simp [hl, hm]
theorem tail_stop : ∀ (m : Nat) (l : Bs) (sc : Bool), l.length ≤ m → onL (l.drop (tailL l sc)) sc = 0 := by
  intro m
  induction m with
  | zero =>
    intro l sc hm
    have hl : l = [] := List.eq_nil_of_length_eq_zero (by omega)
    subst hl
    simp [onL, begL]
  | succ m ih =>
    intro l sc hm
    by_cases h0 : onL l sc = 0
    · have e : tailL l sc = 0 := by rw [tailL_eq, if_pos h0]
      rw [e]
      exact h0
    · have hle := onL_le l sc
      have e : tailL l sc = onL l sc + tailL (l.drop (onL l sc)) sc := by rw [tailL_eq, if_neg h0]
      rw [e, ← List.drop_drop]
      exact ih _ sc (by simp; omega)
theorem digs_stop (l : Bs) : l.drop (digsL l).length = [] ∨ digC (atL (l.drop (digsL l).length) 0) = false := by
  induction l with
  | nil => exact .inl rfl
  | cons c r ih =>
    cases hc : digC c.toNat
    · right
      simp [digsL, hc, atL]
    · have e : digsL (c :: r) = c :: digsL r := by simp [digsL, hc]
      rw [e]
      simpa using ih
theorem next_stop {l : Bs} {sc : Bool} {x : Tk × Nat} (h : nextL l sc = .ok x) (hk : x.1.1 = 1 ∨ x.1.1 = 2 ∨ x.1.1 = 3) : onL (l.drop x.2) sc = 0 := by
  unfold nextL at h
  split at h
  · rename_i h1
    have hb : begL l sc ≠ 0 := fun e => by unfold nameL at h1; rw [if_pos e] at h1; omega
    have e : nameL l sc = begL l sc + tailL (l.drop (begL l sc)) sc := by unfold nameL; rw [if_neg hb]
    have hx2 : x.2 = nameL l sc := by cases h; rfl
    rw [hx2, e, ← List.drop_drop]
    exact tail_stop _ _ sc (Nat.le_refl _)
  · split at h
    · unfold numbL at h
      split at h
      · cases h
      · rename_i h3
        split at h
        · cases h
        · cases h
          have hb : begL (l.drop (digsL l).length) sc = 0 := by
            have : ¬ 0 < begL (l.drop (digsL l).length) sc := fun hc => h3 (.inr hc)
            omega
          have hd := digs_stop l
          unfold onL
          rw [if_neg (by simp only; omega), if_neg]
          rintro ⟨a1, a2⟩
          rcases hd with hd | hd
          · exact a1 hd
          · simp only at a2; rw [hd] at a2; cases a2
    · split at h
      · unfold unqNx at h
        split at h
        · cases h; simp at hk
        · cases h
      · unfold signNx at h
        split at h
        · cases h; simp at hk
        · cases h
theorem high_name {l : Bs} {sc : Bool} {x : Tk × Nat} (hl : l ≠ []) (h : nextL l sc = .ok x) (hh : ¬ atL l 0 < 128) : onL l sc ≠ 0 := by
  unfold nextL at h
  split at h
  · rename_i h1
    have hb : begL l sc ≠ 0 := fun e => by unfold nameL at h1; rw [if_pos e] at h1; omega
    unfold onL
    rw [if_pos hb]
    exact hb
  · split at h
    · rename_i h2
      unfold digC at h2
      simp at h2
      omega
    · split at h
      · omega
      · unfold signNx at h
        split at h
        · rename_i g hg
          obtain ⟨g0, glow, _⟩ := signs_low g (List.mem_of_find?_eq_some hg)
          have hp := List.find?_some hg
          obtain ⟨r, hr⟩ := List.isPrefixOf_iff_prefix.1 hp
          rw [← hr, atL_app0 g0] at hh
          exact absurd glow hh
        · cases h
theorem past_high {l : Bs} (hl : l ≠ []) (h : ¬ atL l 0 < 128) : (pastL l).1 = 0 := by
  cases l with
  | nil => exact absurd rfl hl
  | cons c r =>
    have hc : ¬ c.toNat < 128 := by simpa [atL] using h
    have h1 : isBl c = false := by
      cases hb : isBl c
      · rfl
      · exfalso
        unfold isBl at hb
        simp at hb
        rcases hb with ((hb | hb) | hb) | hb <;> (subst hb; exact hc (by decide))
    have h2 : c ≠ 47 := fun e => by subst e; exact hc (by decide)
    rw [past_here h1 (fun h => h2 h.1) (fun h => h2 h.1)]
theorem places : ∀ (m a : Nat) (l : Bs) (sc : Bool) (ts : List (Tk × Nat)), l.length ≤ m → lexL a l sc = .ok ts → ∀ x ∈ ts, a ≤ x.2 ∧ x.2 < a + l.length := by
  intro m
  induction m with
  | zero =>
    intro a l sc ts hm h x hx
    obtain ⟨h1, h2⟩ := lex_step h
    rcases h2 with ⟨h2, rfl⟩ | ⟨y, ts', h2, _⟩
    · cases hx
    · exact absurd (List.drop_eq_nil_of_le (by omega)) h2
  | succ m ih =>
    intro a l sc ts hm h x hx
    obtain ⟨h1, h2⟩ := lex_step h
    rcases h2 with ⟨h2, rfl⟩ | ⟨y, ts', h2, h3, h4, rfl⟩
    · cases hx
    · have hlen := next_len h2 h3
      simp only [List.length_drop] at hlen
      rcases List.mem_cons.1 hx with rfl | hx
      · simp only; omega
      · have := ih _ _ sc ts' (by simp; omega) h4 x hx
        simp only [List.length_drop] at this
        omega

theorem drop_cut {l : Bs} {k : Nat} (hk : k ≤ l.length) (q : Bs) : (l.take k ++ q).drop k = q := by
  have hlen : (l.take k).length = k := by rw [List.length_take]; omega
  conv => lhs; arg 1; rw [← hlen]
  exact List.drop_left

theorem blanks (M : Bs) (hM : ∀ r, pastL ((32 :: M) ++ r) = ((32 :: M).length + (pastL r).1, (pastL r).2)) :
    ∀ (m a b : Nat) (l : Bs) (sc : Bool) (ts : List (Tk × Nat)) (w : Nat) (hw : w < ts.length), l.length ≤ m → lexL a l sc = .ok ts →
      ∃ ts', lexL b (l.take (ts[w].2 - a) ++ ((32 :: M) ++ l.drop (ts[w].2 - a))) sc = .ok ts' ∧ kinds ts' = kinds ts := by
  intro m
  induction m with
  | zero =>
    intro a b l sc ts w hw hm h
    obtain ⟨h1, h2⟩ := lex_step h
    rcases h2 with ⟨h2, rfl⟩ | ⟨y, ts', h2, _⟩
    · simp at hw
    · exact absurd (List.drop_eq_nil_of_le (by omega)) h2
  | succ m ih =>
    intro a b l sc ts w hw hm h
    obtain ⟨h1, h2⟩ := lex_step h
    rcases h2 with ⟨h2, rfl⟩ | ⟨x, ts', h2, h3, h4, rfl⟩
    · simp at hw
    · have hlen := next_len h2 h3
      simp only [List.length_drop] at hlen
      obtain ⟨k, hk⟩ : ∃ k, k = (pastL l).1 := ⟨_, rfl⟩
      have hp1 := fun q => (past_app l.length l q (Nat.le_refl _) h1 (by omega)).1
      have hp2 := (past_app l.length l [] (Nat.le_refl _) h1 (by omega)).2
      rw [← hk] at h2 h3 h4 hlen hp1 hp2 ⊢
      cases w with
      | zero =>
        simp only [List.getElem_cons_zero, Nat.add_sub_cancel_left]
        obtain ⟨ts2, h5, h6⟩ := shift _ _ (b + (k + (32 :: M).length) + x.2) _ sc ts' (Nat.le_refl _) h4
        have hpn : pastL (l.take k ++ ((32 :: M) ++ l.drop k)) = (k + (32 :: M).length, true) := by
          rw [hp1, hM, hp2]
          rfl
        have hd1 : (l.take k ++ ((32 :: M) ++ l.drop k)).drop (k + (32 :: M).length) = l.drop k := by
          rw [← List.drop_drop, drop_cut (by omega)]
          exact List.drop_left
        have hd2 : (l.take k ++ ((32 :: M) ++ l.drop k)).drop (k + (32 :: M).length + x.2) = l.drop (k + x.2) := by
          rw [← List.drop_drop, hd1, List.drop_drop]
        refine ⟨_, lex_made (x := x) (by rw [hpn]) (by rw [hpn]; simp only; rw [hd1]; exact h2) (by rw [hpn]; simp only; rw [hd1]; exact h3) (ts' := ts2) (by rw [hpn]; simp only; rw [hd2]; exact h5), ?_⟩
        simp [kinds] at h6 ⊢
        exact h6
      | succ w =>
        simp only [List.getElem_cons_succ]
        have hw' : w < ts'.length := by simpa using hw
        have hpl := places _ _ _ sc ts' (Nat.le_refl _) h4 ts'[w] (List.getElem_mem hw')
        simp only [List.length_drop] at hpl
        obtain ⟨p', hp'⟩ : ∃ p', p' = ts'[w].2 - (a + k + x.2) := ⟨_, rfl⟩
        obtain ⟨ts2, h5, h6⟩ := ih (a + k + x.2) (b + k + x.2) (l.drop (k + x.2)) sc ts' w hw' (by simp; omega) h4
        rw [← hp'] at h5
        have e1 : ts'[w].2 - a = (k + x.2) + p' := by omega
        rw [e1]
        obtain ⟨l1, hl1⟩ : ∃ l1, l1 = l.drop (k + x.2) := ⟨_, rfl⟩
        rw [← hl1] at h4 h5
        obtain ⟨Z, hZ⟩ : ∃ Z, Z = l1.take p' ++ ((32 :: M) ++ l1.drop p') := ⟨_, rfl⟩
        have hcut : l.take (k + x.2 + p') ++ ((32 :: M) ++ l.drop (k + x.2 + p')) = l.take k ++ ((l.drop k).take x.2 ++ Z) := by
          rw [hZ, hl1, List.take_add, List.take_add, List.drop_drop, List.append_assoc, List.append_assoc]
        rw [hcut]
        have hl1n : p' < l1.length := by rw [hl1, List.length_drop]; omega
        have hl1ne : l1 ≠ [] := List.ne_nil_of_length_pos (by omega)
        have hsplit : l.drop k = (l.drop k).take x.2 ++ l1 := by
          rw [hl1, ← List.drop_drop, List.take_append_drop]
        obtain ⟨t1, t2⟩ := lex_step h4
        have hZh : p' = 0 ∨ (Z ≠ [] ∧ atL Z 0 = atL l1 0 ∧ Z.head? = l1.head?) := by
          by_cases hp0 : p' = 0
          · exact .inl hp0
          · right
            have hne : l1.take p' ≠ [] := take_ne hl1ne (by omega)
            refine ⟨fun e => hne (List.append_eq_nil_iff.1 (hZ ▸ e)).1, ?_, ?_⟩
            · rw [hZ, atL_app0 hne, atL_take0 (by omega)]
            · rw [hZ]
              cases l1 with
              | nil => exact absurd rfl hl1ne
              | cons c r =>
                cases p' with
                | zero => exact absurd rfl hp0
                | succ p' => simp
        have hZ0 : p' = 0 → Z = 32 :: (M ++ l1) := fun e => by rw [hZ, e]; simp
        have hstop : Stop (l.drop k) x Z sc := by
          constructor
          · intro hkind
            have hon := next_stop h3 hkind
            rw [List.drop_drop, ← hl1] at hon
            rcases hZh with hp0 | ⟨zn, za, _⟩
            · rw [hZ0 hp0]; exact on_32 _ sc
            · by_cases hlow : atL l1 0 < 128
              · rw [on_low hl1ne zn hlow za]; exact hon
              · exfalso
                rcases t2 with ⟨t2, _⟩ | ⟨y, ts3, q2, q3, _⟩
                · have hpz : (pastL l1).1 = 0 := past_high hl1ne hlow
                  rw [hpz, List.drop_zero] at t2
                  exact hl1ne t2
                · have hpz : (pastL l1).1 = 0 := past_high hl1ne hlow
                  rw [hpz, List.drop_zero] at q2 q3
                  exact high_name q2 q3 hlow hon
          · intro g hg hpre
            obtain ⟨_, _, h32⟩ := signs_low g hg
            rw [hZ, ← List.append_assoc] at hpre
            have h7 := pre_cut (A := (l.drop k).take x.2 ++ l1.take p') (B := M ++ l1.drop p') (by simpa using hpre) h32
            have h8 := pre_more (l1.drop p') h7
            rw [List.append_assoc, List.take_append_drop, ← hsplit] at h8
            exact h8
        have hnx := next_local h2 h3 hstop
        have hqne : (l.drop k).take x.2 ++ Z ≠ [] := fun e => take_ne h2 (show 0 < x.2 by omega) (List.append_eq_nil_iff.1 e).1
        have hpq : pastL ((l.drop k).take x.2 ++ Z) = (0, true) := by
          cases hc : l.drop k with
          | nil => exact absurd hc h2
          | cons c r =>
            rw [hc] at hp2 hsplit
            obtain ⟨g1, g2, g3⟩ := past_none hp2
            obtain ⟨n, hn⟩ : ∃ n, x.2 = n + 1 := ⟨x.2 - 1, by omega⟩
            rw [hn] at hsplit ⊢
            simp only [List.take_succ_cons, List.cons_append] at hsplit ⊢
            have hr : r = r.take n ++ l1 := by injection hsplit
            have hh : (r.take n ++ Z).head? = r.head? ∨ (r.take n ++ Z).head? = some 32 := by
              cases hrt : r.take n with
              | nil =>
                rw [hrt, List.nil_append] at hr
                rw [List.nil_append, hr]
                rcases hZh with hp0 | ⟨_, _, zh⟩
                · right; rw [hZ0 hp0]; rfl
                · left; exact zh
              | cons d t =>
                left
                rw [hrt] at hr
                rw [hr]
                rfl
            rcases hh with hh | hh
            · exact past_here g1 (by rw [hh]; exact g2) (by rw [hh]; exact g3)
            · exact past_here g1 (by rw [hh]; simp) (by rw [hh]; simp)
        have hpL : pastL (l.take k ++ ((l.drop k).take x.2 ++ Z)) = (k, true) := by rw [hp1, hpq]; rfl
        have hd1 := drop_cut (l := l) (k := k) (by omega) ((l.drop k).take x.2 ++ Z)
        have hd2 : (l.take k ++ ((l.drop k).take x.2 ++ Z)).drop (k + x.2) = Z := by
          rw [← List.drop_drop, hd1, drop_cut (by simp; omega)]
        refine ⟨_, lex_made (a := b) (x := x) (ts' := ts2) (by rw [hpL]) (by rw [hpL]; simp only; rw [hd1]; exact hqne) (by rw [hpL]; simp only; rw [hd1]; exact hnx) (by rw [hpL]; simp only; rw [hd2, hZ]; exact h5), ?_⟩
        simp [kinds] at h6 ⊢
        exact h6

/-- what is laid in: a blank, a tab, a line's end, a note. -/
def moreL (note : Bs) : Bs := 9 :: 10 :: 47 :: 42 :: (note ++ [42, 47])
theorem note_hit (q : Bs) : ∀ note : Bs, 42 ∉ note → noteL (note ++ 42 :: 47 :: q) = some (note.length + 2)
  | [], _ => by simp [noteL]
  | c :: r, h => by
    have h1 : c ≠ 42 := fun e => h (by simp [e])
    have h2 : (42 : UInt8) ∉ r := fun e => h (by simp [e])
    have ih := note_hit q r h2
    simp only [List.cons_append]
    unfold noteL
    rw [if_neg (fun hc => h1 hc.1), ih]
    simp
theorem more_past (note : Bs) (h : 42 ∉ note) (r : Bs) : pastL ((32 :: moreL note) ++ r) = ((32 :: moreL note).length + (pastL r).1, (pastL r).2) := by
  have e : (32 :: moreL note) ++ r = 32 :: 9 :: 10 :: 47 :: 42 :: (note ++ 42 :: 47 :: r) := by simp [moreL]
  rw [e, pastL_cons, if_pos (by decide), pastL_cons, if_pos (by decide), pastL_cons, if_pos (by decide), pastL_cons, if_neg (by decide), if_neg (by simp), if_pos (by simp)]
  simp only [List.tail_cons]
  rw [note_hit r note h]
  have hd : (note ++ 42 :: 47 :: r).drop (note.length + 2) = r := by
    rw [← List.drop_drop, List.drop_left]
    rfl
  simp only
  rw [hd]
  simp only [Prod.mk.injEq, and_true]
  simp [moreL]
  omega

end Go.Proofs.YtfehmdfamndcaaaGreatDoor
namespace Go.Proofs.YtfehmdfamndcaaaGreatDoor
set_option linter.unusedVariables false

theorem u8n (x : Int) (h0 : 0 ≤ x) (h1 : x < 256) : (x.toNat.toUInt8).toNat = x.toNat := by
  rw [Nat.toUInt8_eq, UInt8.toNat_ofNat']
  omega
theorem dec_enc (n : Nat) (h : Lib.validRune (n : Int) = true) : decL (Lib.encodeRune (n : Int)) = (n, (Lib.encodeRune (n : Int)).length) ∧ strayL (Lib.encodeRune (n : Int)) = false ∧ Lib.encodeRune (n : Int) ≠ [] := by
  unfold Lib.validRune at h
  simp only [decide_eq_true_eq] at h
  have key : decL (Lib.encodeRune (n : Int)) = (n, (Lib.encodeRune (n : Int)).length) ∧ (n = 65533 → (Lib.encodeRune (n : Int)).length = 3) ∧ Lib.encodeRune (n : Int) ≠ [] := by
    by_cases h1 : n < 128
    · have e : Lib.encodeRune (n : Int) = [(n : Int).toNat.toUInt8] := by rw [Lib.encodeRune, Lib.encodeRuneZ_one (by omega) (by omega)]; rfl
      have a0 : atL (Lib.encodeRune (n : Int)) 0 = n := by
        rw [e]
        show ((n : Int).toNat.toUInt8).toNat = n
        rw [u8n _ (by omega) (by omega)]
        omega
      refine ⟨?_, by omega, by rw [e]; simp⟩
      rw [decL, a0, if_pos h1, e]
      rfl
    · by_cases h2 : n < 2048
      · have e : Lib.encodeRune (n : Int) = [(192 + (n : Int) / 64).toNat.toUInt8, (128 + (n : Int) % 64).toNat.toUInt8] := by rw [Lib.encodeRune, Lib.encodeRuneZ_two (by omega) (by omega)]; rfl
        have a0 : atL (Lib.encodeRune (n : Int)) 0 = 192 + n / 64 := by
          rw [e]
          show ((192 + (n : Int) / 64).toNat.toUInt8).toNat = _
          rw [u8n _ (by omega) (by omega)]
          omega
        have a1 : atL (Lib.encodeRune (n : Int)) 1 = 128 + n % 64 := by
          rw [e]
          show ((128 + (n : Int) % 64).toNat.toUInt8).toNat = _
          rw [u8n _ (by omega) (by omega)]
          omega
        have hl : (Lib.encodeRune (n : Int)).length = 2 := by rw [e]; rfl
        refine ⟨?_, by omega, by rw [e]; simp⟩
        have b1 : contL (Lib.encodeRune (n : Int)) 1 = true := by unfold contL; rw [a1, hl]; simp; omega
        rw [decL, a0, a1, b1, hl, if_neg (by omega), if_pos (by simp; omega), if_pos (by omega)]
        simp only [Prod.mk.injEq, and_true]
        omega
      · by_cases h3 : n < 65536
        · have e : Lib.encodeRune (n : Int) = [(224 + (n : Int) / 4096).toNat.toUInt8, (128 + (n : Int) / 64 % 64).toNat.toUInt8, (128 + (n : Int) % 64).toNat.toUInt8] := by rw [Lib.encodeRune, Lib.encodeRuneZ_three (by omega)]; rfl
          have a0 : atL (Lib.encodeRune (n : Int)) 0 = 224 + n / 4096 := by
            rw [e]
            show ((224 + (n : Int) / 4096).toNat.toUInt8).toNat = _
            rw [u8n _ (by omega) (by omega)]
            omega
          have a1 : atL (Lib.encodeRune (n : Int)) 1 = 128 + n / 64 % 64 := by
            rw [e]
            show ((128 + (n : Int) / 64 % 64).toNat.toUInt8).toNat = _
            rw [u8n _ (by omega) (by omega)]
            omega
          have a2 : atL (Lib.encodeRune (n : Int)) 2 = 128 + n % 64 := by
            rw [e]
            show ((128 + (n : Int) % 64).toNat.toUInt8).toNat = _
            rw [u8n _ (by omega) (by omega)]
            omega
          have hl : (Lib.encodeRune (n : Int)).length = 3 := by rw [e]; rfl
          refine ⟨?_, fun _ => hl, by rw [e]; simp⟩
          have b1 : contL (Lib.encodeRune (n : Int)) 1 = true := by unfold contL; rw [a1, hl]; simp; omega
          have b2 : contL (Lib.encodeRune (n : Int)) 2 = true := by unfold contL; rw [a2, hl]; simp; omega
          have hv : (224 + n / 4096) % 16 * 4096 + (128 + n / 64 % 64) % 64 * 64 + (128 + n % 64) % 64 = n := by omega
          rw [decL, a0, a1, a2, b1, b2, hl, hv, if_neg (by omega), if_neg (by simp; omega), if_pos (by simp; omega), if_pos (by simp [Utf8.valid]; omega)]
        · have e : Lib.encodeRune (n : Int) = [(240 + (n : Int) / 262144).toNat.toUInt8, (128 + (n : Int) / 4096 % 64).toNat.toUInt8, (128 + (n : Int) / 64 % 64).toNat.toUInt8, (128 + (n : Int) % 64).toNat.toUInt8] := by rw [Lib.encodeRune, Lib.encodeRuneZ_four (by omega) (by omega)]; rfl
          have a0 : atL (Lib.encodeRune (n : Int)) 0 = 240 + n / 262144 := by
            rw [e]
            show ((240 + (n : Int) / 262144).toNat.toUInt8).toNat = _
            rw [u8n _ (by omega) (by omega)]
            omega
          have a1 : atL (Lib.encodeRune (n : Int)) 1 = 128 + n / 4096 % 64 := by
            rw [e]
            show ((128 + (n : Int) / 4096 % 64).toNat.toUInt8).toNat = _
            rw [u8n _ (by omega) (by omega)]
            omega
          have a2 : atL (Lib.encodeRune (n : Int)) 2 = 128 + n / 64 % 64 := by
            rw [e]
            show ((128 + (n : Int) / 64 % 64).toNat.toUInt8).toNat = _
            rw [u8n _ (by omega) (by omega)]
            omega
          have a3 : atL (Lib.encodeRune (n : Int)) 3 = 128 + n % 64 := by
            rw [e]
            show ((128 + (n : Int) % 64).toNat.toUInt8).toNat = _
            rw [u8n _ (by omega) (by omega)]
            omega
          have hl : (Lib.encodeRune (n : Int)).length = 4 := by rw [e]; rfl
          refine ⟨?_, by omega, by rw [e]; simp⟩
          have b1 : contL (Lib.encodeRune (n : Int)) 1 = true := by unfold contL; rw [a1, hl]; simp; omega
          have b2 : contL (Lib.encodeRune (n : Int)) 2 = true := by unfold contL; rw [a2, hl]; simp; omega
          have b3 : contL (Lib.encodeRune (n : Int)) 3 = true := by unfold contL; rw [a3, hl]; simp; omega
          have hv : (240 + n / 262144) % 8 * 262144 + (128 + n / 4096 % 64) % 64 * 4096 + (128 + n / 64 % 64) % 64 * 64 + (128 + n % 64) % 64 = n := by omega
          rw [decL, a0, a1, a2, a3, b1, b2, b3, hl, hv, if_neg (by omega), if_neg (by simp; omega), if_neg (by simp; omega), if_pos (by simp; omega), if_pos (by simp [Utf8.valid]; omega)]
  refine ⟨key.1, ?_, key.2.2⟩
  unfold strayL
  rw [key.1]
  by_cases e : n = 65533
  · have := key.2.1 e
    simp
    omega
  · simp [e]

theorem valid_app : ∀ (m : Nat) (a b : Bs), a.length ≤ m → validL a = true → validL (a ++ b) = validL b := by
  intro m
  induction m with
  | zero =>
    intro a b hm _
    have : a = [] := List.eq_nil_of_length_eq_zero (by omega)
    subst this
    rfl
  | succ m ih =>
    intro a b hm hv
    by_cases ha : a = []
    · subst ha; rfl
    · cases hs : strayL a
      · have hw := decL_width a
        have hle := decL_le a ha
        have hcut : a ++ b = a.take (decL a).2 ++ (a.drop (decL a).2 ++ b) := by rw [← List.append_assoc, List.take_append_drop]
        have hne : a ++ b ≠ [] := fun e => ha (List.append_eq_nil_iff.1 e).1
        have hd : decL (a ++ b) = decL a := by rw [hcut]; exact dec_local ha hs _
        have hs2 : strayL (a ++ b) = false := by unfold strayL; rw [hd]; exact hs
        rw [validL_rune a ha hs] at hv
        rw [validL_rune _ hne hs2, hd]
        conv => lhs; rw [hcut]
        rw [drop_cut hle]
        exact ih _ b (by simp; omega) hv
      · rw [validL_stray a ha hs] at hv; cases hv
theorem valid_enc {a : Bs} {n : Nat} (ha : validL a = true) (h : Lib.validRune (n : Int) = true) : validL (a ++ Lib.encodeRune (n : Int)) = true := by
  obtain ⟨h1, h2, h3⟩ := dec_enc n h
  rw [valid_app _ _ _ (Nat.le_refl _) ha, validL_rune _ h3 h2, h1]
  simp [validL_nil]
theorem dec_valid (l : Bs) : Lib.validRune ((decL l).1 : Int) = true := by
  have h0 := atL_lt l 0
  unfold Lib.validRune decL
  repeat' split
  all_goals simp_all [Utf8.valid]
  all_goals omega
theorem step_said {u u' : Unq} {r : Nat} (hr : Lib.validRune (r : Int) = true) (h : stepU u (r : Int) = some u') : u'.said = u.said ∨ ∃ n : Nat, Lib.validRune (n : Int) = true ∧ u'.said = u.said ++ Lib.encodeRune (n : Int) := by
  unfold stepU at h
  split at h
  · unfold stepFirst at h
    split at h
    · cases h; exact .inl rfl
    · cases h
  · split at h
    · unfold stepInside at h
      split at h
      · cases h
      · split at h
        · cases h; exact .inl rfl
        · split at h
          · cases h; exact .inl rfl
          · cases h; exact .inr ⟨r, hr, rfl⟩
    · split at h
      · unfold stepEscaped at h
        split at h
        · cases h; exact .inr ⟨10, by decide, rfl⟩
        · split at h
          · cases h; exact .inr ⟨9, by decide, rfl⟩
          · split at h
            · cases h; exact .inr ⟨r, hr, rfl⟩
            · split at h
              · cases h; exact .inl rfl
              · cases h
      · split at h
        · unfold stepNumbered at h
          split at h
          · cases h; exact .inl rfl
          · cases h
        · first
            | (unfold stepCounting at h
               split at h
               · split at h
                 · cases h
                 · rename_i hv
                   cases h
                   exact .inr ⟨u.num, by simpa using fun e => hv (.inr e), rfl⟩
               · split at h
                 · cases h
                 · cases h; exact .inl rfl)
            | (split at h
               · unfold stepCounting at h
                 split at h
                 · split at h
                   · cases h
                   · rename_i hv
                     cases h
                     exact .inr ⟨u.num, by simpa using fun e => hv (.inr e), rfl⟩
                 · split at h
                   · cases h
                   · cases h; exact .inl rfl
               · first | (cases h; done) | (cases h; exact .inl rfl))
theorem said_valid_from : ∀ (m : Nat) (l : Bs) (u : Unq) (pos : Nat) (t : Bs) (n : Nat), l.length ≤ m → validL u.said = true → unqS (scan l) u pos = some (t, n) → validL t = true
  | m, [], u, pos, t, n, _, _, h => by rw [scan_nil] at h; cases h
  | 0, c :: r, u, pos, t, n, hm, _, h => by simp at hm
  | m + 1, c :: r, u, pos, t, n, hm, hv, h => by
    have hne : (c :: r) ≠ [] := by simp
    have hw := decL_width (c :: r)
    cases hs : strayL (c :: r)
    · cases hu : stepU u (decL (c :: r)).1 with
      | none => rw [unqS_none _ hne hs u pos hu] at h; cases h
      | some u' =>
        have hv' : validL u'.said = true := by
          rcases step_said (dec_valid (c :: r)) hu with e | ⟨k, hk, e⟩
          · rw [e]; exact hv
          · rw [e]; exact valid_enc hv hk
        by_cases h5 : u'.st = 5
        · rw [unqS_end _ hne hs u u' pos hu h5] at h
          cases h
          exact hv'
        · rw [unqS_more _ hne hs u u' pos hu h5] at h
          exact said_valid_from m _ u' _ t n (by simp only [List.length_drop]; simp only [List.length_cons] at hm ⊢; omega) hv' h
    · rw [unqS_stray _ hne hs u pos] at h; cases h
theorem said_valid {l t : Bs} {n : Nat} (h : unquoteL l = some (t, n)) : validL t = true := said_valid_from l.length l _ 0 t n (Nat.le_refl _) validL_nil h

end Go.Proofs.YtfehmdfamndcaaaGreatDoor
namespace Go.Proofs.YtfehmdfamndcaaaGreatDoor
set_option linter.unusedVariables false

theorem digitsF_more7 : ∀ (f g n : Nat), n < f → n < g → digitsF f n = digitsF g n
  | f + 1, g + 1, n, hf, hg => by
    unfold digitsF
    split
    · rw [digitsF_more7 f g (n / 10) (by omega) (by omega)]
    · rfl
theorem digitsL_eq7 (n : Nat) : digitsL n = if 9 < n then digitsL (n / 10) ++ [UInt8.ofNat (48 + n % 10)] else [UInt8.ofNat (48 + n % 10)] := by
  unfold digitsL
  conv => lhs; unfold digitsF
  split
  · rw [digitsF_more7 n (n / 10 + 1) (n / 10) (by omega) (by omega)]
  · rfl
theorem dig_byte (n : Nat) : (UInt8.ofNat (48 + n % 10)).toNat = 48 + n % 10 := by rw [UInt8.toNat_ofNat']; omega
/-- a number's digits are digits, say the number, and begin with a 0 only alone. -/
theorem digitsL_facts (n : Nat) : (∀ c ∈ digitsL n, digC c.toNat = true) ∧ decN 0 (digitsL n) = n ∧ digitsL n ≠ [] ∧ (0 < n → atL (digitsL n) 0 ≠ 48) ∧ (n ≤ 9 → (digitsL n).length = 1) := by
  induction n using Nat.strongRecOn with
  | _ n ih =>
    have hd : digC (UInt8.ofNat (48 + n % 10)).toNat = true := by rw [dig_byte]; unfold digC; simp; omega
    by_cases h : 9 < n
    · obtain ⟨i1, i2, i3, i4, _⟩ := ih (n / 10) (by omega)
      rw [digitsL_eq7, if_pos h]
      refine ⟨?_, ?_, by simp, fun _ => ?_, fun h2 => by omega⟩
      · intro c hc
        rcases List.mem_append.1 hc with hc | hc
        · exact i1 c hc
        · rw [List.mem_singleton.1 hc]; exact hd
      · unfold decN at i2 ⊢
        rw [List.foldl_append, i2]
        simp only [List.foldl_cons, List.foldl_nil, dig_byte]
        omega
      · rw [atL_app0 i3]
        exact i4 (by omega)
    · rw [digitsL_eq7, if_neg h]
      refine ⟨by intro c hc; rw [List.mem_singleton.1 hc]; exact hd, ?_, by simp, fun h0 => ?_, fun _ => rfl⟩
      · unfold decN
        simp only [List.foldl_cons, List.foldl_nil, dig_byte]
        omega
      · show (UInt8.ofNat (48 + n % 10)).toNat ≠ 48
        rw [dig_byte]
        omega
theorem digs_all {l : Bs} (h : ∀ c ∈ l, digC c.toNat = true) : digsL l = l := by
  unfold digsL
  induction l with
  | nil => rfl
  | cons c r ih =>
    simp only [List.takeWhile_cons, h c (by simp), if_true]
    rw [ih (fun x hx => h x (by simp [hx]))]
theorem head_dig {l : Bs} (hl : l ≠ []) (h : ∀ c ∈ l, digC c.toNat = true) : digC (atL l 0) = true := by
  cases l with
  | nil => exact absurd rfl hl
  | cons c r => exact h c (by simp)
theorem past_from {l : Bs} (hl : l ≠ []) (h : 32 < atL l 0) (h47 : atL l 0 ≠ 47) : pastL l = (0, true) := by
  cases l with
  | nil => exact absurd rfl hl
  | cons c r =>
    have hc : 32 < c.toNat := h
    have hc47 : c.toNat ≠ 47 := h47
    have h1 : isBl c = false := by
      cases hb : isBl c
      · rfl
      · exfalso
        unfold isBl at hb
        simp at hb
        rcases hb with ((hb | hb) | hb) | hb <;> (subst hb; exact absurd hc (by decide))
    have h2 : c ≠ 47 := fun e => by subst e; exact hc47 rfl
    exact past_here h1 (fun h => h2 h.1) (fun h => h2 h.1)
theorem beg_dig {l : Bs} {sc : Bool} (hl : l ≠ []) (h : digC (atL l 0) = true) : begL l sc = 0 := by
  have hlow : atL l 0 < 128 := by unfold digC at h; simp at h; omega
  have hr : 48 ≤ atL l 0 ∧ atL l 0 ≤ 57 := by unfold digC at h; simpa using h
  unfold begL strayL
  rw [if_neg hl, dec_low1 hlow, if_neg (by omega), if_neg]
  rintro ⟨_, h2⟩
  have := letter_big h2
  simp only at this
  omega
theorem next_digits (v : Nat) (hv : v ≤ 9007199254740991) (sc : Bool) : nextL (digitsL v) sc = .ok ((3, [], (v : Int)), (digitsL v).length) := by
  obtain ⟨f1, f2, f3, f4, f5⟩ := digitsL_facts v
  have hd := head_dig f3 f1
  have hn : nameL (digitsL v) sc = 0 := by unfold nameL; rw [if_pos (beg_dig f3 hd)]
  unfold nextL
  rw [hn, if_neg (by omega), if_pos hd]
  unfold numbL
  rw [digs_all f1, f2, List.drop_eq_nil_of_le (Nat.le_refl _), if_neg, if_neg (by omega)]
  rintro (⟨h1, h2⟩ | h)
  · by_cases h0 : 0 < v
    · exact f4 h0 h2
    · have := f5 (by omega)
      omega
  · simp [begL] at h
theorem quoteL_head (x : Bs) : quoteL x ≠ [] ∧ atL (quoteL x) 0 = 34 := ⟨by simp [quoteL], rfl⟩
theorem next_quote {x : Bs} (hv : validL x = true) (sc : Bool) : nextL (quoteL x) sc = .ok ((4, x, 0), (quoteL x).length) := by
  obtain ⟨h1, h2⟩ := quoteL_head x
  have hb : begL (quoteL x) sc = 0 := by
    unfold begL strayL
    rw [if_neg h1, h2, dec_low1 (by rw [h2]; omega), h2, if_neg (by omega), if_neg (by decide)]
  have hn : nameL (quoteL x) sc = 0 := by unfold nameL; rw [if_pos hb]
  unfold nextL
  rw [hn, if_neg (by omega), h2, if_neg (by decide), if_pos (.inl rfl)]
  unfold unqNx
  have := unquote_quote x [] hv
  rw [List.append_nil] at this
  rw [this]

/-- a text that is just one token. -/
structure Alone (s : Bs) (t : Tk) : Prop where
  ne : s ≠ []
  past : pastL s = (0, true)
  next : nextL s true = .ok (t, s.length)
theorem Alone.is {s : Bs} {t : Tk} (h : Alone s t) : isTk s t = true := by
  unfold isTk
  have : lexL 0 s true = .ok [(t, 0)] := by
    have := lex_made (a := 0) (l := s) (sc := true) (x := (t, s.length)) (ts' := []) (by rw [h.past]) (by rw [h.past]; simpa using h.ne) (by rw [h.past]; simpa using h.next) (by
      rw [h.past]
      simp only [Nat.zero_add, List.drop_length]
      exact lex_end (by rw [pastL_nil]) (by simp))
    rw [h.past] at this
    exact this
  rw [this]
  simp
theorem alone_of {s : Bs} {t : Tk} (hr : rawL t = some s) (h : isTk s t = true) : Alone s t := by
  unfold isTk at h
  split at h
  · rename_i x hx
    obtain ⟨h1, h2⟩ := lex_step hx
    rcases h2 with ⟨_, h2⟩ | ⟨y, ts', h2, h3, h4, h5⟩
    · cases h2
    · have hxy : x = (y.1, 0 + (pastL s).1) ∧ ts' = [] := by
        injection h5 with e1 e2
        exact ⟨e1, e2.symm⟩
      have ht : y.1 = t := by rw [hxy.1] at h; simpa using h
      have hsne : s ≠ [] := fun e => h2 (by rw [e]; simp)
      have hlen := next_len h2 h3
      simp only [List.length_drop] at hlen
      obtain ⟨htx, hk1, hk5⟩ := next_text_at h3
      have fin : (pastL s).1 = 0 → y.2 = s.length → Alone s t := fun e1 e2 => by
        rw [e1, List.drop_zero] at h3
        refine ⟨hsne, ?_, ?_⟩
        · have : pastL s = ((pastL s).1, (pastL s).2) := rfl
          rw [this, e1, h1]
        · rw [h3, ← ht, ← e2]
      rw [ht] at htx hk1 hk5
      unfold rawL at hr
      split at hr
      · rename_i hk3
        split at hr
        · cases hr
        · cases hr
          obtain ⟨f1, f2, f3, f4, f5⟩ := digitsL_facts t.2.2.toNat
          have hd := head_dig f3 f1
          have hr48 : 48 ≤ atL (digitsL t.2.2.toNat) 0 ∧ atL (digitsL t.2.2.toNat) 0 ≤ 57 := by unfold digC at hd; simpa using hd
          have hp := past_from f3 (by omega) (by omega)
          have e1 : (pastL (digitsL t.2.2.toNat)).1 = 0 := by rw [hp]
          refine fin e1 ?_
          rw [e1, List.drop_zero] at h3
          have hn : nameL (digitsL t.2.2.toNat) true = 0 := by unfold nameL; rw [if_pos (beg_dig f3 hd)]
          unfold nextL at h3
          rw [hn, if_neg (by omega), if_pos hd] at h3
          unfold numbL at h3
          split at h3
          · cases h3
          · split at h3
            · cases h3
            · cases h3
              rw [digs_all f1]
      · rename_i hk3
        split at hr
        · rename_i hk4
          cases hr
          obtain ⟨q1, q2⟩ := quoteL_head t.2.1
          have hp := past_from q1 (by omega) (by omega)
          have e1 : (pastL (quoteL t.2.1)).1 = 0 := by rw [hp]
          refine fin e1 ?_
          rw [e1, List.drop_zero] at h3
          have hb : begL (quoteL t.2.1) true = 0 := by
            unfold begL strayL
            rw [if_neg q1, q2, dec_low1 (by rw [q2]; omega), q2, if_neg (by simp), if_neg (by decide)]
          have hn : nameL (quoteL t.2.1) true = 0 := by unfold nameL; rw [if_pos hb]
          unfold nextL at h3
          rw [hn, if_neg (by omega), q2, if_neg (by decide), if_pos (.inl rfl)] at h3
          unfold unqNx at h3
          split at h3
          · rename_i z hz
            cases h3
            have hv := said_valid (t := z.1) (n := z.2) hz
            have hz1 : z.1 = t.2.1 := by
              have := ht
              simp only at this
              rw [← this]
            rw [hz1] at hv
            have huq := unquote_quote t.2.1 [] hv
            rw [List.append_nil, hz] at huq
            have := Option.some.inj huq
            rw [this]
          · cases h3
        · rename_i hk4
          cases hr
          have hkk : t.1 = 1 ∨ t.1 = 2 ∨ t.1 = 5 := by omega
          obtain ⟨t1, t2⟩ := htx hkk
          exact fin (by omega) (by omega)
  · cases h

theorem stop_32 (l : Bs) (x : Tk × Nat) (q : Bs) (hx : x.2 ≤ l.length) (sc : Bool) : Stop l x (32 :: q) sc := by
  refine ⟨fun _ => on_32 q sc, fun g hg hpre => ?_⟩
  obtain ⟨_, _, h32⟩ := signs_low g hg
  have := pre_more (l.drop x.2) (pre_cut hpre h32)
  rwa [List.take_append_drop] at this
theorem stop_nil (l : Bs) (x : Tk × Nat) (sc : Bool) : Stop l x [] sc := by
  refine ⟨fun _ => by simp [onL, begL], fun g hg hpre => ?_⟩
  rw [List.append_nil] at hpre
  have := pre_more (l.drop x.2) hpre
  rwa [List.take_append_drop] at this
theorem lex_blank {a b : Nat} {l : Bs} {sc : Bool} {ts : List (Tk × Nat)} (h : lexL a l sc = .ok ts) : ∃ ts', lexL b (32 :: l) sc = .ok ts' ∧ kinds ts' = kinds ts := by
  have hp : pastL (32 :: l) = ((pastL l).1 + 1, (pastL l).2) := by rw [pastL_cons, if_pos (by decide)]
  obtain ⟨h1, h2⟩ := lex_step h
  rcases h2 with ⟨h2, rfl⟩ | ⟨x, ts', h2, h3, h4, rfl⟩
  · exact ⟨[], lex_end (by rw [hp]; exact h1) (by rw [hp]; simpa using h2), rfl⟩
  · obtain ⟨ts2, h5, h6⟩ := shift _ _ (b + ((pastL l).1 + 1) + x.2) _ sc ts' (Nat.le_refl _) h4
    refine ⟨_, lex_made (x := x) (ts' := ts2) (by rw [hp]; exact h1) (by rw [hp]; simpa using h2) (by rw [hp]; simpa using h3) ?_, ?_⟩
    · rw [hp]
      simp only
      rw [show (pastL l).1 + 1 + x.2 = ((pastL l).1 + x.2) + 1 from by omega, List.drop_succ_cons]
      exact h5
    · simp [kinds] at h6 ⊢
      exact h6
theorem past_alone {s : Bs} {t : Tk} (h : Alone s t) (q : Bs) : pastL (s ++ 32 :: q) = (0, true) := by
  cases s with
  | nil => exact absurd rfl h.ne
  | cons c r =>
    obtain ⟨g1, g2, g3⟩ := past_none h.past
    simp only [List.cons_append]
    have hh : (r ++ 32 :: q).head? = r.head? ∨ (r ++ 32 :: q).head? = some 32 := by
      cases r with
      | nil => right; rfl
      | cons d t => left; rfl
    rcases hh with hh | hh
    · exact past_here g1 (by rw [hh]; exact g2) (by rw [hh]; exact g3)
    · exact past_here g1 (by rw [hh]; simp) (by rw [hh]; simp)
/-- tokens that may be are read as they are shown. -/
theorem shown_read : ∀ (ts : List Tk) (ss : List Bs) (a : Nat), textsL ts = some ss → ∃ ts', lexL a (joinB ss) true = .ok ts' ∧ kinds ts' = ts
  | [], ss, a, h => by
    cases h
    exact ⟨[], lex_end (by rw [show joinB [] = [] from rfl, pastL_nil]) (by simp [joinB]), rfl⟩
  | t :: ts, ss, a, h => by
    unfold textsL at h
    cases ht : textL t with
    | none => rw [ht] at h; cases h
    | some s =>
      rw [ht] at h
      simp only at h
      cases hs : textsL ts with
      | none => rw [hs] at h; cases h
      | some ss' =>
        rw [hs] at h
        cases h
        have ha : Alone s t := by
          unfold textL at ht
          cases hr : rawL t with
          | none => rw [hr] at ht; cases ht
          | some s' =>
            rw [hr] at ht
            simp only at ht
            split at ht
            · rename_i hi
              cases ht
              exact alone_of hr hi
            · cases ht
        obtain ⟨ts2, h5, h6⟩ := shown_read ts ss' (a + 0 + s.length) hs
        cases ss' with
        | nil =>
          have hts : ts = [] := by
            cases ts with
            | nil => rfl
            | cons t2 ts =>
              unfold textsL at hs
              cases h7 : textL t2 with
              | none => rw [h7] at hs; cases hs
              | some s2 =>
                rw [h7] at hs
                simp only at hs
                cases h8 : textsL ts with
                | none => rw [h8] at hs; cases hs
                | some s3 => rw [h8] at hs; cases hs
          subst hts
          refine ⟨[(t, a + 0)], ?_, rfl⟩
          have := lex_made (a := a) (l := s) (sc := true) (x := (t, s.length)) (ts' := []) (by rw [ha.past]) (by rw [ha.past]; simpa using ha.ne) (by rw [ha.past]; simpa using ha.next) (by
            rw [ha.past]
            simp only [Nat.zero_add, List.drop_length]
            exact lex_end (by rw [pastL_nil]) (by simp))
          rw [ha.past] at this
          exact this
        | cons s2 ss2 =>
          have hj : joinB (s :: s2 :: ss2) = s ++ 32 :: joinB (s2 :: ss2) := rfl
          rw [hj]
          have hp := past_alone ha (joinB (s2 :: ss2))
          have hnx := next_local (z := 32 :: joinB (s2 :: ss2)) ha.ne ha.next (stop_32 s _ _ (Nat.le_refl _) true)
          rw [show s.take (t, s.length).2 = s from List.take_length] at hnx
          obtain ⟨ts3, h7, h8⟩ := lex_blank (b := a + 0 + s.length) h5
          refine ⟨(t, a + 0) :: ts3, ?_, by simp [kinds] at h8 h6 ⊢; rw [h8, h6]⟩
          have := lex_made (a := a) (l := s ++ 32 :: joinB (s2 :: ss2)) (sc := true) (x := (t, s.length)) (ts' := ts3) (by rw [hp]) (by rw [hp]; simp [ha.ne]) (by rw [hp]; simpa using hnx) (by
            rw [hp]
            simp only [Nat.zero_add]
            rw [List.drop_left]
            exact h7)
          rw [hp] at this
          exact this

/-- what is read may be. -/
theorem read_may {l : Bs} {x : Tk × Nat} (hl : l ≠ []) (hp : pastL l = (0, true)) (h : nextL l false = .ok x) : ∃ s, textL x.1 = some s := by
  have key : ∀ s, rawL x.1 = some s → Alone s x.1 → ∃ s, textL x.1 = some s := fun s hr ha => ⟨s, by unfold textL; rw [hr]; simp only; rw [if_pos ha.is]⟩
  obtain ⟨htx, hk1, hk5⟩ := next_text_at h
  have hlen := next_len hl h
  by_cases hk : x.1.1 = 1 ∨ x.1.1 = 2 ∨ x.1.1 = 5
  · obtain ⟨t1, t2⟩ := htx hk
    have hr : rawL x.1 = some (l.take x.2) := by
      unfold rawL
      rw [if_neg (by omega), if_neg (by omega), t1]
    refine key _ hr ⟨take_ne hl (by omega), ?_, ?_⟩
    · cases l with
      | nil => exact absurd rfl hl
      | cons c r =>
        obtain ⟨g1, g2, g3⟩ := past_none hp
        obtain ⟨n, hn⟩ : ∃ n, x.2 = n + 1 := ⟨x.2 - 1, by omega⟩
        rw [hn, List.take_succ_cons]
        have hh : (r.take n).head? = r.head? ∨ (r.take n).head? = none := by
          cases r with
          | nil => left; simp
          | cons d t => cases n with
            | zero => right; rfl
            | succ n => left; rfl
        rcases hh with hh | hh
        · exact past_here g1 (by rw [hh]; exact g2) (by rw [hh]; exact g3)
        · exact past_here g1 (by rw [hh]; simp) (by rw [hh]; simp)
    · have h6 := next_local (z := []) hl h (stop_nil l x false)
      rw [List.append_nil] at h6
      have hlt : (l.take x.2).length = x.2 := by rw [List.length_take]; omega
      have h7 := next_sc h6 (.inl (List.drop_eq_nil_of_le (by omega)))
      rw [h7, hlt]
  · by_cases hk3 : x.1.1 = 3
    · have h' := h
      unfold nextL at h
      split at h
      · cases h
        simp only at hk hk3
        split at hk3 <;> simp at hk3
      · split at h
        · unfold numbL at h
          split at h
          · cases h
          · split at h
            · cases h
            · rename_i hv
              cases h
              simp only at key ⊢
              have hr : rawL (3, [], (decN 0 (digsL l) : Int)) = some (digitsL (decN 0 (digsL l))) := by
                unfold rawL
                rw [if_pos rfl, if_neg (by simp only; omega)]
                rfl
              obtain ⟨f1, f2, f3, f4, f5⟩ := digitsL_facts (decN 0 (digsL l))
              have hd := head_dig f3 f1
              have hr48 : 48 ≤ atL (digitsL (decN 0 (digsL l))) 0 ∧ atL (digitsL (decN 0 (digsL l))) 0 ≤ 57 := by unfold digC at hd; simpa using hd
              exact key _ hr ⟨f3, past_from f3 (by omega) (by omega), next_digits _ (by omega) true⟩
        · split at h
          · unfold unqNx at h
            split at h
            · cases h; simp at hk3
            · cases h
          · unfold signNx at h
            split at h
            · cases h; simp at hk3
            · cases h
    · have hk4 : x.1.1 = 4 := by omega
      unfold nextL at h
      split at h
      · cases h
        simp only at hk4
        split at hk4 <;> simp at hk4
      · split at h
        · unfold numbL at h
          split at h
          · cases h
          · split at h
            · cases h
            · cases h; simp at hk4
        · split at h
          · unfold unqNx at h
            split at h
            · rename_i z hz
              cases h
              simp only at key ⊢
              have hv := said_valid (t := z.1) (n := z.2) hz
              have hr : rawL (4, z.1, 0) = some (quoteL z.1) := by
                unfold rawL
                rw [if_neg (by simp), if_pos rfl]
              obtain ⟨q1, q2⟩ := quoteL_head z.1
              exact key _ hr ⟨q1, past_from q1 (by omega) (by omega), next_quote hv true⟩
            · cases h
          · unfold signNx at h
            split at h
            · cases h; simp at hk4
            · cases h
theorem read_texts : ∀ (m a : Nat) (l : Bs) (ts : List (Tk × Nat)), l.length ≤ m → lexL a l false = .ok ts → ∃ ss, textsL (kinds ts) = some ss := by
  intro m
  induction m with
  | zero =>
    intro a l ts hm h
    obtain ⟨h1, h2⟩ := lex_step h
    rcases h2 with ⟨h2, rfl⟩ | ⟨y, ts', h2, _⟩
    · exact ⟨[], rfl⟩
    · exact absurd (List.drop_eq_nil_of_le (by omega)) h2
  | succ m ih =>
    intro a l ts hm h
    obtain ⟨h1, h2⟩ := lex_step h
    rcases h2 with ⟨h2, rfl⟩ | ⟨x, ts', h2, h3, h4, rfl⟩
    · exact ⟨[], rfl⟩
    · have hlen := next_len h2 h3
      simp only [List.length_drop] at hlen
      have hp2 := (past_app l.length l [] (Nat.le_refl _) h1 (by omega)).2
      obtain ⟨s, hs⟩ := read_may h2 hp2 h3
      obtain ⟨ss, hss⟩ := ih _ _ ts' (by simp; omega) h4
      refine ⟨s :: ss, ?_⟩
      show textsL (x.1 :: kinds ts') = _
      unfold textsL
      rw [hs]
      simp only
      rw [hss]

end Go.Proofs.YtfehmdfamndcaaaGreatDoor
namespace Go.Proofs.YtfehmdfamndcaaaGreatDoor
set_option linter.unusedVariables false

def sumT : List Tk → Nat
  | [] => 0
  | t :: ts => t.2.1.length + sumT ts

theorem unqS_said : ∀ (m : Nat) (l : Bs) (u : Unq) (pos : Nat) (t : Bs) (n : Nat), l.length ≤ m → u.ok → u.said.length + u.pend ≤ pos → unqS (scan l) u pos = some (t, n) → t.length ≤ n + 3
  | m, [], u, pos, t, n, _, _, _, h => by rw [scan_nil] at h; cases h
  | 0, c :: r, u, pos, t, n, hm, _, _, h => by simp at hm
  | m + 1, c :: r, u, pos, t, n, hm, hok, hp, h => by
    have hne : (c :: r) ≠ [] := by simp
    have hw := decL_width (c :: r)
    have hle := decL_le (c :: r) hne
    cases hs : strayL (c :: r)
    · cases hu : stepU u (decL (c :: r)).1 with
      | none => rw [unqS_none _ hne hs u pos hu] at h; cases h
      | some u' =>
        have henc := enc_dec _ hne hs
        have hok2 := stepU_ok u u' _ (decL (c :: r)).2 hu hok hw.1 (by rw [henc, List.length_take]; omega)
        by_cases h5 : u'.st = 5
        · rw [unqS_end _ hne hs u u' pos hu h5] at h
          cases h
          have := hok2.2
          omega
        · rw [unqS_more _ hne hs u u' pos hu h5] at h
          exact unqS_said m _ u' _ t n (by simp only [List.length_drop]; simp only [List.length_cons] at hm ⊢; omega) hok2.1 (by have := hok2.2; omega) h
    · rw [unqS_stray _ hne hs u pos] at h; cases h
theorem unquoteL_said {l t : Bs} {n : Nat} (h : unquoteL l = some (t, n)) : t.length ≤ n + 3 :=
  unqS_said l.length l Unq.start 0 t n (Nat.le_refl _) ⟨by simp [Unq.start], by simp [Unq.start], by simp [Unq.start], by simp [Unq.start]⟩ (by simp [Unq.start, Unq.pend]) h

theorem next_said {l : Bs} {sc : Bool} {x : Tk × Nat} (h : nextL l sc = .ok x) : x.1.2.1.length ≤ x.2 + 3 ∧ 0 ≤ x.1.2.2 ∧ x.1.2.2 ≤ 9223372036854775807 := by
  unfold nextL at h
  split at h
  · cases h
    exact ⟨by simp only [List.length_take]; omega, by simp, by simp⟩
  · split at h
    · unfold numbL at h
      split at h
      · cases h
      · split at h
        · cases h
        · cases h
          exact ⟨by simp, by simp only; omega, by simp only; omega⟩
    · split at h
      · unfold unqNx at h
        split at h
        · rename_i y hy
          cases h
          exact ⟨unquoteL_said (t := y.1) (n := y.2) hy, by simp, by simp⟩
        · cases h
      · unfold signNx at h
        split at h
        · cases h
          exact ⟨by simp, by simp, by simp⟩
        · cases h

theorem lex_said : ∀ (m a : Nat) (l : Bs) (sc : Bool) (ts : List (Tk × Nat)), l.length ≤ m → lexL a l sc = .ok ts → sumT (kinds ts) + 4 * ts.length ≤ 8 * l.length ∧ ∀ t ∈ kinds ts, t.2.1.length ≤ l.length + 3 ∧ 0 ≤ t.2.2 ∧ t.2.2 ≤ 9223372036854775807 := by
  intro m
  induction m with
  | zero =>
    intro a l sc ts hm h
    rw [lexL_eq] at h
    split at h
    · cases h
    · split at h
      · cases h; simp [kinds, sumT]
      · rename_i h2
        exact absurd (List.drop_eq_nil_of_le (by omega)) h2
  | succ m ih =>
    intro a l sc ts hm h
    rw [lexL_eq] at h
    split at h
    · cases h
    · split at h
      · cases h; simp [kinds, sumT]
      · rename_i h2
        cases hx : nextL (l.drop (pastL l).1) sc with
        | error e => rw [hx] at h; cases h
        | ok x =>
          rw [hx] at h
          have hlen := next_len h2 hx
          have hsd := next_said hx
          simp only [List.length_drop] at hlen
          simp only at h
          cases hy : lexL (a + (pastL l).1 + x.2) (l.drop ((pastL l).1 + x.2)) sc with
          | error d => rw [hy] at h; cases h
          | ok ts' =>
            rw [hy] at h
            cases h
            obtain ⟨i1, i2⟩ := ih _ _ sc ts' (by simp; omega) hy
            simp only [List.length_drop] at i1 i2
            refine ⟨?_, ?_⟩
            · simp only [kinds, List.map_cons, sumT, List.length_cons]
              simp only [kinds] at i1
              omega
            · intro t ht
              simp only [kinds, List.map_cons, List.mem_cons] at ht
              rcases ht with rfl | ht
              · exact ⟨by omega, hsd.2⟩
              · have := i2 t ht
                exact ⟨by omega, this.2⟩

theorem text_len {t : Tk} {s : Bs} (hn : t.2.2 ≤ 9223372036854775807) (h : textL t = some s) : s.length ≤ 7 * t.2.1.length + 21 := by
  unfold textL at h
  cases hr : rawL t with
  | none => rw [hr] at h; cases h
  | some r =>
    rw [hr] at h
    simp only at h
    split at h
    · cases h
      unfold rawL at hr
      split at hr
      · split at hr
        · cases hr
        · cases hr
          have := digitsL_small t.2.2.toNat (by omega)
          omega
      · split at hr
        · cases hr
          have := quoteL_len t.2.1
          omega
        · cases hr
          omega
    · cases h
theorem join_len : ∀ (ts : List Tk) (ss : List Bs), (∀ t ∈ ts, t.2.2 ≤ 9223372036854775807) → textsL ts = some ss → (joinB ss).length ≤ 7 * sumT ts + 22 * ts.length
  | [], ss, _, h => by cases h; simp [joinB]
  | t :: ts, ss, hn, h => by
    unfold textsL at h
    cases ht : textL t with
    | none => rw [ht] at h; cases h
    | some s =>
      rw [ht] at h
      simp only at h
      cases hs : textsL ts with
      | none => rw [hs] at h; cases h
      | some ss' =>
        rw [hs] at h
        cases h
        have h1 := text_len (hn t (by simp)) ht
        have h2 := join_len ts ss' (fun x hx => hn x (by simp [hx])) hs
        simp only [sumT, List.length_cons]
        cases ss' with
        | nil => simp only [joinB]; omega
        | cons b r => simp only [joinB, List.length_append, List.length_cons] at h2 ⊢; omega
theorem show_len (ts : List Tk) (hn : ∀ t ∈ ts, t.2.2 ≤ 9223372036854775807) : (showL ts).length ≤ 7 * sumT ts + 22 * ts.length := by
  unfold showL
  cases h : textsL ts with
  | none => simp
  | some ss => exact join_len ts ss hn h
end Go.Proofs.YtfehmdfamndcaaaGreatDoor
