/- Own text. Package parse: brackets around an expression, around a type (of the model; no program is named here). -/
import Derived.Test.YtmfgcaffdkakhaaBB
import Derived.Test.YtmfgcaffdkakhaaD1
import Derived.Test.YtmfgcaffdkakhaaM3
namespace Go.Proofs.Ytmfgcaffdkakhaa
open Go.RowKit
set_option linter.unusedVariables false
set_option linter.unusedSimpArgs false
variable {L M : List Tok}

theorem br_end (hB : Br L M) : Stp (tokA M (L.length + 2)) := .inr (tok_end (by rw [hB.len]; exact Nat.le_refl _))
theorem br_arrow (hB : Br L M) (h0 : tokA M 0 = tPo) (hA : AtO L 0 0 L.length) : arrow M 0 = false := by
  have s1 : sumO M 1 = 1 := by
    show 0 + openI (tokA M 0) = 1
    rw [h0]
    decide +kernel
  have hf : openI (tokA M (L.length + 1)) = -1 := by
    unfold openI
    rw [if_pos hB.fin.1, hB.fin.2]
    decide
  have hl := sum_br hB L.length (Nat.le_refl _)
  have hs := hA.sum
  have h00 : sumO L 0 = 0 := rfl
  have e2 : sumO M (L.length + 1 + 1) = sumO M (L.length + 1) + openI (tokA M (L.length + 1)) := rfl
  have m0 : sumO M 0 = 0 := rfl
  unfold arrow
  have := arr_at (L := M) (j := L.length + 1) (by rw [hB.len]; omega) (L.length + 1) 0 0 (by omega) (fun c h1 h2 => by
    have e := sum_br hB c (by omega)
    have p := hA.pos c (Nat.zero_le _) (by omega)
    omega) (by omega)
  rw [this]
  unfold isS
  rw [tok_end (by rw [hB.len]; omega)]
  rfl
theorem fuel_br (hB : Br L M) : fuelL L + 8 ≤ fuelL M := by
  unfold fuelL
  rw [hB.len]
  omega
theorem bad_ne {p : Nat} : ∀ q, (Rs.bad p 2 : Rs Nd) ≠ .bad q 0 := fun q h => by injection h with h1 h2; omega
theorem okn_ne {x : Nd} {b : Nat} : ∀ p, (Rs.ok x b : Rs Nd) ≠ .bad p 0 := fun p h => by cases h
theorem br_expr (hB : Br L M) (h0 : tokA M 0 = tPo) {x : Nd} (hL : exprF L (fuelL L) 0 0 = .ok x L.length) : exprF M (fuelL M) 0 0 = .ok x (L.length + 2) ∨ ∃ p, exprF M (fuelL M) 0 0 = .bad p 2 := by
  have key := (sm_all hB (fuelL L)).expr' 0 0 (Nat.zero_le _) x L.length hL
  have ha := br_arrow hB h0 ((bl_all L (fuelL L)).expr' 0 0 x L.length hL)
  have hlen := hB.len
  have hf := fuel_br hB
  generalize fuelL L = f at *
  rcases key with ⟨_, e⟩ | ⟨p, e⟩
  · left
    have hp : primF M (f + 2) 0 1 = .ok x (L.length + 2) := by
      rw [prim_po h0 ha, e]
      simp only [Rs.bind]
      rw [wantR_yes (by unfold isS; rw [hB.fin.1, hB.fin.2]; decide +kernel)]
    have e1 := up_post hp (br_end hB) (by omega)
    have e2 : unaryF M (f + 4) 0 (0 + 1) = _ := (not_unary h0 (.inl rfl)).trans e1
    have e3 := up_expr (by omega) (by omega) e2 (br_end hB) (by omega)
    exact expr_more e3 okn_ne (by omega)
  · right
    refine ⟨p, ?_⟩
    have hp : primF M (f + 2) 0 1 = .bad p 2 := by
      rw [prim_po h0 ha, e]
      rfl
    have e1 : postF M (f + 3) 0 1 = .bad p 2 := by
      rw [postF, hp]
      rfl
    have e2 : unaryF M (f + 4) 0 (0 + 1) = _ := (not_unary h0 (.inl rfl)).trans e1
    have e3 := bad_expr (by omega) (by omega) e2
    exact expr_more e3 bad_ne (by omega)
/-- one type alone is no union. -/
theorem union_alone {E : Nat → Rs Nd} (hE : ∀ a, Ge (a + 1) (E a)) (hU : ∀ a, Un a (E a)) {n a b : Nat} {y : Nd} (h : unionG L E n [] a = .ok [y] b) : y.k ≠ 32 := by
  cases n with
  | zero => rw [unionG] at h; cases h
  | succ n =>
    rw [unionG] at h
    cases e : E a with
    | bad p er => rw [e] at h; cases h
    | ok x a1 =>
      rw [e, Rs.bind_ok] at h
      have hu := hU a x a1 e
      split at h
      · have := unionG_len hE hU _ _ _ _ _ h
        simp only [List.nil_append, List.length_singleton] at this
        split at this
        · rename_i hk; have := hu hk; omega
        · simp at this
      · injection h with h1 h2
        simp only [List.nil_append] at h1
        split at h1
        · rename_i hk
          have := (hu hk).1
          rw [h1] at this
          simp at this
        · rename_i hk
          injection h1 with h1
          rw [← h1]
          exact hk
theorem type_one {f a o b : Nat} {x : Nd} (h : typeF L f a o = .ok x b) : oneOr (if x.k = 32 then x.ks else [x]) = x := by
  cases f with
  | zero => rw [typeF] at h; cases h
  | succ f =>
    rw [typeF] at h
    cases hb : beginR L a o with
    | bad p e => rw [hb] at h; cases h
    | ok u a' =>
      rw [hb, Rs.bind_ok] at h
      cases hl : unionG L (fun a' => ptypeF L f a' (o + 1)) (L.length + 1 - a) [] a with
      | bad p e => rw [hl] at h; cases h
      | ok l a1 =>
        rw [hl, Rs.bind_ok] at h
        injection h with h1 h2
        subst h1
        by_cases h1 : ∃ y, l = [y]
        · obtain ⟨y, rfl⟩ := h1
          have := union_alone (fun a => (mono_all L f).ptype' a (o + 1)) (fun a => (un_all L f).ptype' a (o + 1)) hl
          have e : oneOr [y] = y := rfl
          rw [e, if_neg this]
          rfl
        · have e : oneOr l = mk0 32 mtT l := by
            unfold oneOr
            split
            · rename_i y; exact absurd ⟨y, rfl⟩ h1
            · rfl
          rw [e]
          have ek : (mk0 32 mtT l).k = 32 := rfl
          have eks : (mk0 32 mtT l).ks = l := rfl
          rw [if_pos ek, eks, e]
theorem rtype_po {f a o : Nat} (h : tokA M a = tPo) (ha : arrow M a = false) : rtypeF M (f + 1) a o = (typeF M f (a + 1) o).bind fun n a1 => (wantR M sPc a1).bind fun _ a2 => .ok n a2 := by
  rw [rtypeF]
  rw [if_neg, isS_tok h, if_neg (by decide +kernel), isS_tok h, if_pos (by decide +kernel), ha, if_neg (by decide)]
  unfold isN
  rw [isWd_tok h, isWd_tok h, h]
  decide +kernel
theorem br_type (hB : Br L M) (h0 : tokA M 0 = tPo) {x : Nd} (hL : typeF L (fuelL L) 0 0 = .ok x L.length) : typeF M (fuelL M) 0 0 = .ok x (L.length + 2) ∨ ∃ p, typeF M (fuelL M) 0 0 = .bad p 2 := by
  have key := (sm_all hB (fuelL L)).type' 0 0 (Nat.zero_le _) x L.length hL
  have ha := br_arrow hB h0 ((bl_all L (fuelL L)).type' 0 0 x L.length hL)
  have ho := type_one hL
  have hlen := hB.len
  have hf := fuel_br hB
  generalize fuelL L = f at *
  have hbeg : beginR M 0 0 = .ok () 0 := by
    unfold beginR
    rw [if_neg (by omega), if_neg (by omega)]
  rcases key with ⟨_, e⟩ | ⟨p, e⟩
  · left
    have hr : rtypeF M (f + 1) 0 1 = .ok x (L.length + 2) := by
      rw [rtype_po h0 ha, e]
      simp only [Rs.bind]
      rw [wantR_yes (by unfold isS; rw [hB.fin.1, hB.fin.2]; decide +kernel)]
    have no : ∀ s : ByteArray, isS M (L.length + 2) s = false := fun s => by
      unfold isS
      rw [tok_end (by omega)]
      rfl
    have hp : ptypeF M (f + 2) 0 1 = .ok x (L.length + 2) := by
      rw [ptypeF, hr]
      simp only [Rs.bind]
      rw [hlen, show L.length + 2 + 1 - (L.length + 2) = 0 + 1 by omega, arrayG, no, if_neg (by decide)]
    have ht : typeF M (f + 3) 0 0 = .ok x (L.length + 2) := by
      rw [typeF, hbeg, Rs.bind_ok, hlen, show L.length + 2 + 1 - 0 = (L.length + 2) + 1 by omega, unionG]
      rw [show (0 + 1 : Nat) = 1 from rfl, hp, Rs.bind_ok, no, if_neg (by decide), Rs.bind_ok, List.nil_append, ho]
    exact type_more ht okn_ne (by omega)
  · right
    refine ⟨p, ?_⟩
    have hr : rtypeF M (f + 1) 0 1 = .bad p 2 := by
      rw [rtype_po h0 ha, e]
      rfl
    have hp : ptypeF M (f + 2) 0 1 = .bad p 2 := by
      rw [ptypeF, hr]
      rfl
    have ht : typeF M (f + 3) 0 0 = .bad p 2 := by
      rw [typeF, hbeg, Rs.bind_ok, hlen, show L.length + 2 + 1 - 0 = (L.length + 2) + 1 by omega, unionG]
      rw [show (0 + 1 : Nat) = 1 from rfl, hp]
      rfl
    exact type_more ht bad_ne (by omega)
end Go.Proofs.Ytmfgcaffdkakhaa
