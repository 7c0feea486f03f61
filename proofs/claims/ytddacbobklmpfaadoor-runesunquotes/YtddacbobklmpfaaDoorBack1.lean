/- What is said by a text in quotes: reading back what was quoted. -/
import Derived.Test.YtddacbobklmpfaaDoorUnq3
import Derived.Test.YtddacbobklmpfaaDoorPlain4
namespace Go.Proofs.YtddacbobklmpfaaDoor

theorem atL_app (p q : List UInt8) (k : Nat) (h : k < p.length) : atL (p ++ q) k = atL p k := by
  unfold atL
  rw [List.getD_eq_getElem?_getD, List.getD_eq_getElem?_getD, List.getElem?_append_left h]
theorem take_app (p q : List UInt8) : (p ++ q).take p.length = p := List.take_left
/-- A rune's bytes with something behind them are still that rune. -/
theorem decL_app (p q : List UInt8) (hne : p ≠ []) (hd : (decL p).2 = p.length) (hs : strayL p = false) : decL (p ++ q) = decL p := by
  have h0 : 0 < p.length := List.length_pos_iff.2 hne
  obtain ⟨d, hdd⟩ : ∃ d, decL p = d := ⟨_, rfl⟩
  have hs' : ¬ (d.1 = 65533 ∧ d.2 = 1) := by
    rw [strayL, hdd] at hs
    simp at hs
    intro h
    exact hs h.1 h.2
  rw [hdd] at hd ⊢
  unfold decL contL at hdd
  unfold decL contL
  rw [List.length_append]
  rw [atL_app p q 0 h0]
  split at hdd
  · rename_i h1
    rw [if_pos h1]; exact hdd
  rename_i h1
  rw [if_neg h1]
  split at hdd
  · rename_i h2
    split at hdd
    · rename_i h3
      subst hdd
      replace hd : 2 = p.length := hd
      rw [atL_app p q 1 (by omega)]
      simp at h2
      rw [if_pos (by simp; omega), if_pos h3]
    · subst hdd; exact absurd ⟨rfl, rfl⟩ hs'
  rename_i h2
  split at hdd
  · rename_i h3
    split at hdd
    · rename_i h4
      subst hdd
      replace hd : 3 = p.length := hd
      rw [atL_app p q 1 (by omega), atL_app p q 2 (by omega)]
      simp at h3
      rw [if_neg (by simp; omega), if_pos (by simp; omega), if_pos h4]
    · subst hdd; exact absurd ⟨rfl, rfl⟩ hs'
  rename_i h3
  split at hdd
  · rename_i h4
    split at hdd
    · rename_i h5
      subst hdd
      replace hd : 4 = p.length := hd
      rw [atL_app p q 1 (by omega), atL_app p q 2 (by omega), atL_app p q 3 (by omega)]
      simp at h4
      rw [if_neg (by simp; omega), if_neg (by simp; omega), if_pos (by simp; omega), if_pos h5]
    · subst hdd; exact absurd ⟨rfl, rfl⟩ hs'
  · subst hdd; exact absurd ⟨rfl, rfl⟩ hs'

/-- One rune is read. -/
theorem unqS_rune (p q : List UInt8) (r : Nat) (u : Unq) (pos : Nat) (hne : p ≠ []) (hd : decL p = (r, p.length)) (hs : strayL p = false) :
    unqS (scan (p ++ q)) u pos = match stepU u r with
      | none => none
      | some u' => if u'.st = 5 then some (u'.said, pos + 1) else unqS (scan q) u' (pos + p.length) := by
  have hd2 := decL_app p q hne (by rw [hd]) hs
  rw [hd] at hd2
  have hpq : p ++ q ≠ [] := by simp [hne]
  have hst : strayP (r, p) = false := by
    rw [strayL, hd] at hs
    exact hs
  rw [scan_cons _ hpq, hd2]
  simp only
  rw [take_app, List.drop_left, unqS, hst]
  rfl

theorem dec_ascii (c : UInt8) (h : c.toNat < 128) : decL [c] = (c.toNat, 1) := by
  have : atL [c] 0 = c.toNat := by simp [atL]
  rw [decL, this, if_pos h]
theorem unqS_ascii (c : UInt8) (q : List UInt8) (u : Unq) (pos : Nat) (h : c.toNat < 128) :
    unqS (scan (c :: q)) u pos = match stepU u c.toNat with
      | none => none
      | some u' => if u'.st = 5 then some (u'.said, pos + 1) else unqS (scan q) u' (pos + 1) := by
  have hd := dec_ascii c h
  exact unqS_rune [c] q c.toNat u pos (by simp) hd (by
    rw [strayL, hd]
    have : (c.toNat == 65533) = false := by simp; omega
    simp [this])
theorem unqS_go (c : UInt8) (q : List UInt8) (u u' : Unq) (pos : Nat) (h : c.toNat < 128) (hs : stepU u c.toNat = some u') (h5 : u'.st ≠ 5) : unqS (scan (c :: q)) u pos = unqS (scan q) u' (pos + 1) := by
  rw [unqS_ascii c q u pos h, hs]
  simp [h5]

theorem hexv_hexc : ∀ d : Fin 16, hexv ((hexc d.val).toNat : Int) = (d.val : Int) ∧ (hexc d.val).toNat < 128 ∧ (hexc d.val).toNat ≠ 125 ∧ 48 ≤ (hexc d.val).toNat := by decide +kernel
end Go.Proofs.YtddacbobklmpfaaDoor
