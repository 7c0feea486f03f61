/- Own text. Package parse: unions among the types that are read (of the model; no program is named here). -/
import Derived.Test.YtmfgcaffdkakhaaGreatM2
namespace Go.Proofs.YtmfgcaffdkakhaaGreat
open Go.RowKit
set_option linter.unusedVariables false
set_option linter.unusedSimpArgs false

/-- a union has parts, not more than tokens were used. -/
def Un (a : Nat) (r : Rs Nd) : Prop := ∀ x b, r = .ok x b → x.k = 32 → 2 ≤ x.ks.length ∧ x.ks.length + a ≤ b
theorem unionG_len {L : List Tok} {E : Nat → Rs Nd} (hE : ∀ a, Ge (a + 1) (E a)) (hU : ∀ a, Un a (E a)) : ∀ (n : Nat) (acc : List Nd) (a : Nat) (l : List Nd) (b : Nat), unionG L E n acc a = .ok l b → l.length + a ≤ acc.length + b ∧ acc.length + 1 ≤ l.length
  | 0, _, _, _, _, h => by rw [unionG] at h; cases h
  | n + 1, acc, a, l, b, h => by
    rw [unionG] at h
    cases hx : E a with
    | bad p e => rw [hx] at h; cases h
    | ok x a1 =>
      rw [hx, Rs.bind_ok] at h
      have h1 := hE a _ _ hx
      have h2 : 1 ≤ (if x.k = 32 then x.ks else [x]).length ∧ (if x.k = 32 then x.ks else [x]).length + a ≤ a1 := by
        split
        · rename_i hk; have := hU a _ _ hx hk; omega
        · simp; omega
      split at h
      · have := unionG_len hE hU n _ _ _ _ h
        simp only [List.length_append] at this
        omega
      · cases h
        simp only [List.length_append]
        omega
theorem Un.bad (a p : Nat) (e : Int) : Un a (.bad p e) := fun x b h => by cases h
theorem Un.other {a b : Nat} {x : Nd} (h : x.k ≠ 32) : Un a (.ok x b) := fun y c e hk => by cases e; exact absurd hk h
theorem arrayG_un {L : List Tok} {a0 : Nat} : ∀ (n : Nat) (nd : Nd) (a : Nat), (nd.k = 32 → 2 ≤ nd.ks.length ∧ nd.ks.length + a0 ≤ a) → Un a0 (arrayG L n nd a)
  | 0, _, _, _ => by rw [arrayG]; exact Un.bad _ _ _
  | n + 1, nd, a, h => by
    rw [arrayG]
    split
    · cases hw : wantR L sBc (a + 1) with
      | bad p e => exact Un.bad _ _ _
      | ok u a2 => exact arrayG_un n _ _ (fun hk => by cases hk)
    · intro x b e hk
      cases e
      exact h hk
theorem objt_k {L : List Tok} {f a o b : Nat} {x : Nd} (h : objtF L f a o = .ok x b) : x.k = 33 := by
  cases f with
  | zero => rw [objtF] at h; cases h
  | succ f =>
    rw [objtF] at h
    cases hl : fieldsG L (fun a' => typingF L f a' o) (L.length + 1 - a) [] [] a with
    | bad p e => rw [hl] at h; cases h
    | ok l a1 => rw [hl] at h; cases h; rfl
theorem ftype_k {L : List Tok} {f a o b : Nat} {x : Nd} (h : ftypeF L f a o = .ok x b) : x.k = 35 := by
  cases f with
  | zero => rw [ftypeF] at h; cases h
  | succ f =>
    rw [ftypeF] at h
    cases h1 : paramsG L (fun a' => typingF L f a' o) a with
    | bad p e => rw [h1] at h; cases h
    | ok p a1 =>
      rw [h1, Rs.bind_ok] at h
      cases h2 : wantR L sAr a1 with
      | bad p e => rw [h2] at h; cases h
      | ok u a2 =>
        rw [h2, Rs.bind_ok] at h
        cases h3 : typeF L f a2 o with
        | bad p e => rw [h3] at h; cases h
        | ok y a3 => rw [h3] at h; cases h; rfl
/-- where the union is one type alone, that is a post's: no union, or one with its parts. -/
theorem union_one {L : List Tok} {E : Nat → Rs Nd} (hE : ∀ a, Ge (a + 1) (E a)) (hU : ∀ a, Un a (E a)) {n a b : Nat} {x : Nd} (h : unionG L E n [] a = .ok [x] b) : x.k = 32 → 2 ≤ x.ks.length ∧ x.ks.length + a ≤ b := by
  intro hk
  cases n with
  | zero => rw [unionG] at h; cases h
  | succ n =>
    rw [unionG] at h
    cases hx : E a with
    | bad p e => rw [hx] at h; cases h
    | ok y a1 =>
      rw [hx, Rs.bind_ok] at h
      have h1 := hE a _ _ hx
      split at h
      · have h2 := unionG_len hE hU n _ _ _ _ h
        have h3 : 1 ≤ (if y.k = 32 then y.ks else [y]).length := by
          split
          · rename_i hy; have := hU a _ _ hx hy; omega
          · simp
        simp only [List.length_append, List.length_nil, List.length_singleton] at h2
        omega
      · simp only [Rs.ok.injEq, List.nil_append] at h
        obtain ⟨h4, rfl⟩ := h
        split at h4
        · rename_i hy
          have := hU a _ _ hx hy
          rw [h4] at this
          simp at this
        · cases h4
          exact hU a _ _ hx hk
structure UnA (L : List Tok) (f : Nat) : Prop where
  type' : ∀ a o, Un a (typeF L f a o)
  ptype' : ∀ a o, Un a (ptypeF L f a o)
  rtype' : ∀ a o, Un a (rtypeF L f a o)
theorem un_all (L : List Tok) : ∀ f, UnA L f := by
  intro f
  induction f with
  | zero => constructor <;> (intros; intro x b h; simp [typeF, ptypeF, rtypeF] at h)
  | succ f ih =>
    have MN := mono_all L f
    constructor
    · intro a o
      rw [typeF]
      cases hb : beginR L a o with
      | bad p e => exact Un.bad _ _ _
      | ok u a' =>
        rw [Rs.bind_ok]
        cases hl : unionG L (fun a' => ptypeF L f a' (o + 1)) (L.length + 1 - a) [] a with
        | bad p e => exact Un.bad _ _ _
        | ok l a1 =>
          rw [Rs.bind_ok]
          intro x b e hk
          cases e
          have h := unionG_len (fun a => MN.ptype' a (o + 1)) (fun a => ih.ptype' a (o + 1)) _ _ _ _ _ hl
          simp only [List.length_nil] at h
          unfold oneOr at hk ⊢
          split
          · rename_i y
            simp only [List.length_singleton] at h
            -- one type alone: it is one of the posts
            have := union_one (fun a => MN.ptype' a (o + 1)) (fun a => ih.ptype' a (o + 1)) hl
            exact this hk
          · rename_i hne
            show 2 ≤ l.length ∧ l.length + a ≤ a1
            have h2 : l.length ≠ 1 := fun e => by
              obtain ⟨y, rfl⟩ := List.length_eq_one_iff.1 e
              exact hne y rfl
            omega
    · intro a o
      rw [ptypeF]
      cases hr : rtypeF L f a o with
      | bad p e => exact Un.bad _ _ _
      | ok n a1 =>
        rw [Rs.bind_ok]
        exact arrayG_un _ _ _ (fun hk => ih.rtype' a o _ _ hr hk)
    · intro a o
      rw [rtypeF]
      split
      · exact Un.other (by show (30 : Int) ≠ 32; decide)
      · split
        · intro x b e hk
          have h33 : x.k = 33 := objt_k e
          omega
        · split
          · split
            · intro x b e hk
              have h35 : x.k = 35 := ftype_k e
              omega
            · cases hy : typeF L f (a + 1) o with
              | bad p e => exact Un.bad _ _ _
              | ok y a1 =>
                rw [Rs.bind_ok]
                cases hw : wantR L sPc a1 with
                | bad p e => exact Un.bad _ _ _
                | ok u a2 =>
                  rw [Rs.bind_ok]
                  intro x b e hk
                  cases e
                  have h1 := ih.type' (a + 1) o _ _ hy hk
                  have h2 := want_ge L sPc a1 _ _ hw
                  omega
          · exact Un.bad _ _ _
end Go.Proofs.YtmfgcaffdkakhaaGreat
