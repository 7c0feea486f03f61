/- Own text. The order in which files are written does not show: what is last written under a path, from either side. -/
import Derived.Test.YtoipggaepkedmaaV8
namespace Go.Proofs.Ytoipggaepkedmaa
open Go.RowKit Go.Maps
set_option linter.unusedVariables false

def look (q : ByteArray) (L : Fls) : Option ByteArray := (L.find? fun x => eqB x.1 q).map (·.2)
def lastOf (q : ByteArray) (F : Fls) : Option ByteArray := (F.reverse.find? fun x => eqB x.1 q).map (·.2)
def wideB (F : Fls) : Bool := F.any fun x => decide (65536 < x.2.size)

theorem look_ins {p b q : ByteArray} : ∀ {L : Fls}, Ris L → look q (ins p b L) = if eqB p q then some b else look q L
  | [], _ => by
    by_cases h : p = q
    · subst h; simp [look, ins, eqB_self]
    · simp [look, ins, eqB_ne h]
  | y :: r, hr => by
    obtain ⟨h1, h2⟩ := List.pairwise_cons.1 hr
    have ih := look_ins (p := p) (b := b) (q := q) (L := r) h2
    unfold ins
    split
    · rename_i hy
      by_cases e : y.1 = q
      · subst e
        have : eqB p y.1 = false := eqB_ne (Ne.symm (lessB_ne hy))
        simp [look, eqB_self, this]
      · simp only [look, List.find?_cons, eqB_ne e] at *
        exact ih
    · split
      · rename_i he
        have he := eqB_iff.1 he
        by_cases e : p = q
        · subst e; simp [look, eqB_self]
        · simp [look, eqB_ne e, he]
      · by_cases e : p = q
        · subst e; simp [look, eqB_self]
        · simp [look, eqB_ne e]

theorem hasP_look (q : ByteArray) (L : Fls) : hasP q L = (look q L).isSome := by
  unfold hasP look
  rw [Option.isSome_map]
  induction L with
  | nil => rfl
  | cons y r ih =>
    simp only [List.any_cons, List.find?_cons]
    cases eqB y.1 q
    · simpa using ih
    · simp

theorem mem_look {L : Fls} (h : Ris L) {x : ByteArray × ByteArray} : x ∈ L ↔ look x.1 L = some x.2 := by
  constructor
  · intro hx
    obtain ⟨i, hi, rfl⟩ := List.getElem_of_mem hx
    have key : L.find? (fun y => eqB y.1 L[i].1) = some L[i] := by
      rw [List.find?_eq_some_iff_getElem]
      refine ⟨eqB_self _, i, hi, rfl, fun j hj => ?_⟩
      have := List.pairwise_iff_getElem.1 h j i (by omega) hi hj
      simp [eqB_ne (lessB_ne this)]
    unfold look
    rw [key]
    rfl
  · intro hx
    unfold look at hx
    obtain ⟨y, hy, e⟩ := Option.map_eq_some_iff.1 hx
    have h0 := List.find?_some hy
    have h1 := eqB_iff.1 h0
    have : y = x := Prod.ext h1 e
    exact this ▸ List.mem_of_find?_eq_some hy

theorem look_ext {L M : Fls} (hL : Ris L) (hM : Ris M) (h : ∀ q, look q L = look q M) : L = M := by
  have nd : ∀ {K : Fls}, Ris K → K.Nodup := fun hK => hK.imp fun {a b} hab e => by rw [e, lessB_irrefl] at hab; cases hab
  have pm : L.Perm M := (List.perm_ext_iff_of_nodup (nd hL) (nd hM)).2 fun x => by rw [mem_look hL, mem_look hM, h]
  refine List.Perm.eq_of_pairwise (le := fun (a b : ByteArray × ByteArray) => lessB a.1 b.1 = true) (fun a b _ _ h1 h2 => ?_) hL hM pm
  have := lessB_trans h1 h2
  rw [lessB_irrefl] at this
  cases this

theorem last_snoc (q : ByteArray) (F : Fls) (x : ByteArray × ByteArray) : lastOf q (F ++ [x]) = if eqB x.1 q then some x.2 else lastOf q F := by
  unfold lastOf
  rw [List.reverse_append]
  simp only [List.reverse_cons, List.reverse_nil, List.nil_append, List.cons_append, List.find?_cons]
  cases eqB x.1 q <;> simp
theorem last_cons (q : ByteArray) (F : Fls) (x : ByteArray × ByteArray) : lastOf q (x :: F) = match lastOf q F with | some b => some b | none => if eqB x.1 q then some x.2 else none := by
  unfold lastOf
  rw [List.reverse_cons, List.find?_append]
  cases h : F.reverse.find? (fun x => eqB x.1 q) with
  | some y => simp
  | none =>
    simp only [List.find?_cons, List.find?_nil, Option.none_or, Option.map_none]
    cases eqB x.1 q <;> simp

/-- t's two writes. -/
theorem look_two {p o b q : ByteArray} {L : Fls} (h : Ris L) (hb : b.size ≤ 65536) : look q (wrL p b (ins p o L)) = if eqB p q then some b else look q L := by
  unfold wrL
  rw [if_pos hb, look_ins h.ins, look_ins h]
  cases eqB p q <;> simp
theorem len_two {p o b : ByteArray} {L : Fls} (h : Ris L) : (wrL p b (ins p o L)).length ≤ L.length + 1 := by
  unfold wrL
  split
  · rw [length_ins h.ins, hasP_ins, eqB_self]
    simp only [Bool.true_or, if_true]
    exact length_ins_le
  · exact length_ins_le
/-- u's step from behind. -/
theorem back_has {F : Fls} {U : Fls} {k : Nat} (hk : k < F.length) (hi : ∀ q, look q U = lastOf q (F.drop (k + 1))) (hh : hasP F[k].1 U = true) : ∀ q, look q U = lastOf q (F.drop k) := fun q => by
  rw [List.drop_eq_getElem_cons hk, last_cons, ← hi q]
  cases hq : look q U with
  | some b => rfl
  | none =>
    by_cases e : F[k].1 = q
    · rw [hasP_look, e, hq] at hh; cases hh
    · simp [eqB_ne e]
theorem back_new {F : Fls} {U : Fls} {k : Nat} {o : ByteArray} (hk : k < F.length) (hr : Ris U) (hi : ∀ q, look q U = lastOf q (F.drop (k + 1))) (hh : hasP F[k].1 U = false) (hb : F[k].2.size ≤ 65536) : ∀ q, look q (wrL F[k].1 F[k].2 (ins F[k].1 o U)) = lastOf q (F.drop k) := fun q => by
  rw [look_two hr hb, List.drop_eq_getElem_cons hk, last_cons, ← hi q]
  by_cases e : F[k].1 = q
  · subst e
    rw [hasP_look] at hh
    cases hq : look F[k].1 U with
    | some b => rw [hq] at hh; cases hh
    | none => simp [eqB_self]
  · rw [eqB_ne e]
    cases look q U <;> simp

theorem fitB_of {F : Fls} (h : Ris F) (hs : ∀ x ∈ F, x.2.size ≤ 65536) : fitB F = true := by
  apply fitB_true
  intro i hi
  cases i with
  | zero => rw [fitAt_zero hi rfl]; exact decide_eq_true (hs _ (List.getElem_mem hi))
  | succ i =>
    rw [fitAt_succ hi rfl rfl, decide_eq_true (hs _ (List.getElem_mem hi)), Bool.true_and]
    exact List.pairwise_iff_getElem.1 h i (i + 1) (by omega) hi (by omega)

theorem wide_no {F : Fls} (h : wideB F = false) (i : Nat) (hi : i < F.length) : F[i].2.size ≤ 65536 := by
  have := (List.any_eq_false.1 h) F[i] (List.getElem_mem hi)
  simpa using this
theorem wide_take {F : Fls} (k : Nat) (hk : k < F.length) : wideB (F.take (k + 1)) = (wideB (F.take k) || decide (65536 < F[k].2.size)) := by
  unfold wideB
  rw [List.take_succ_eq_append_getElem hk, List.any_append]
  simp

end Go.Proofs.Ytoipggaepkedmaa
