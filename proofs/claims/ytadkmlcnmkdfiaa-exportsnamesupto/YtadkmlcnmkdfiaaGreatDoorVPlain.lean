/- Own text. What a table of files is, as a rising list of paths and bytes: writing, removing, finding; how a map of such entries reads. No program is named here. -/
import Derived.Maps.Ext
import Derived.Sort.KeysCollected
import Derived.Lib.Strings
namespace Go.Proofs.YtadkmlcnmkdfiaaGreatDoor
open Go.WideShapes Go.Maps
open Go.Proofs (encStr)
set_option linter.unusedVariables false

/-- files: paths and bytes. -/
abbrev Fls := List (ByteArray × ByteArray)

def lessB (a b : ByteArray) : Bool := Op.bytesLess a.toList b.toList
def eqB (a b : ByteArray) : Bool := a.toList == b.toList

theorem toList_inj {a b : ByteArray} (h : a.toList = b.toList) : a = b := by
  rw [Lib.toList_data, Lib.toList_data] at h
  exact ByteArray.ext (Array.toList_inj.1 h)

theorem eqB_iff {a b : ByteArray} : eqB a b = true ↔ a = b := by
  unfold eqB
  constructor
  · intro h; exact toList_inj (by simpa using h)
  · rintro rfl; simp
theorem eqB_self (a : ByteArray) : eqB a a = true := eqB_iff.2 rfl
theorem eqB_ne {a b : ByteArray} (h : a ≠ b) : eqB a b = false := by
  cases e : eqB a b
  · rfl
  · exact absurd (eqB_iff.1 e) h
theorem eqB_comm (a b : ByteArray) : eqB a b = eqB b a := by
  by_cases h : a = b
  · subst h; rfl
  · rw [eqB_ne h, eqB_ne (Ne.symm h)]

theorem less_before : ∀ a b : List UInt8, Op.bytesLess a b = bytesBefore a b
  | [], [] => rfl
  | [], _ :: _ => rfl
  | _ :: _, [] => rfl
  | a :: x, b :: y => by rw [Op.bytesLess, bytesBefore, less_before x y]

theorem lessB_before (a b : ByteArray) : lessB a b = (Lit.string a.data.toList).before (.string b.data.toList) := by
  unfold lessB
  rw [less_before, Lib.toList_data, Lib.toList_data]; rfl

theorem lessB_irrefl (a : ByteArray) : lessB a a = false := by rw [lessB_before]; exact before_irrefl _
theorem lessB_trans {a b c : ByteArray} (h1 : lessB a b = true) (h2 : lessB b c = true) : lessB a c = true := by
  rw [lessB_before] at *; exact before_trans h1 h2
theorem lessB_asymm {a b : ByteArray} (h1 : lessB a b = true) : lessB b a = false := by
  cases e : lessB b a
  · rfl
  · have := lessB_trans h1 e; rw [lessB_irrefl] at this; cases this
theorem lessB_total {a b : ByteArray} (h : a ≠ b) : lessB a b = true ∨ lessB b a = true := by
  rw [lessB_before, lessB_before]
  have : a.data.toList ≠ b.data.toList := fun e => h (ByteArray.ext (Array.toList_inj.1 e))
  rcases WideAt.bytes_total _ _ this with h1 | h1
  · exact Or.inl h1
  · exact Or.inr h1
theorem lessB_ne {a b : ByteArray} (h : lessB a b = true) : a ≠ b := fun e => by
  subst e; rw [lessB_irrefl] at h; cases h
theorem lessB_of_not {a b : ByteArray} (h1 : lessB a b = false) (h2 : eqB a b = false) : lessB b a = true := by
  have : a ≠ b := fun e => by subst e; rw [eqB_self] at h2; cases h2
  rcases lessB_total this with h | h
  · rw [h1] at h; cases h
  · exact h

/-- the paths rise. -/
def Ris (L : Fls) : Prop := L.Pairwise fun x y => lessB x.1 y.1 = true

def ins (p b : ByteArray) : Fls → Fls
  | [] => [(p, b)]
  | x :: r => if lessB x.1 p then x :: ins p b r else if eqB x.1 p then (p, b) :: r else (p, b) :: x :: r
def del (p : ByteArray) (L : Fls) : Fls := L.filter fun x => !eqB x.1 p
def hasP (p : ByteArray) (L : Fls) : Bool := L.any fun x => eqB x.1 p
def getP (p : ByteArray) (L : Fls) : ByteArray := match L.find? (fun x => eqB x.1 p) with | some x => x.2 | none => ByteArray.empty

theorem mem_ins {p b : ByteArray} : ∀ {L : Fls} {x}, x ∈ ins p b L → x = (p, b) ∨ x ∈ L
  | [], x, h => by simp [ins] at h; exact Or.inl h
  | y :: r, x, h => by
    unfold ins at h
    split at h
    · rcases List.mem_cons.1 h with e | h
      · exact Or.inr (by simp [e])
      · rcases mem_ins h with e | h
        · exact Or.inl e
        · exact Or.inr (by simp [h])
    · split at h
      · rcases List.mem_cons.1 h with e | h
        · exact Or.inl e
        · exact Or.inr (by simp [h])
      · rcases List.mem_cons.1 h with e | h
        · exact Or.inl e
        · exact Or.inr h

theorem Ris.ins {p b : ByteArray} : ∀ {L : Fls}, Ris L → Ris (ins p b L)
  | [], _ => by simp [Ris, Go.Proofs.YtadkmlcnmkdfiaaGreatDoor.ins]
  | y :: r, h => by
    obtain ⟨h1, h2⟩ := List.pairwise_cons.1 h
    have h2' : Ris r := h2
    unfold Go.Proofs.YtadkmlcnmkdfiaaGreatDoor.ins
    split
    · rename_i hy
      refine List.pairwise_cons.2 ⟨fun z hz => ?_, h2'.ins⟩
      rcases mem_ins hz with e | hz
      · subst e; exact hy
      · exact h1 z hz
    · rename_i hy
      have hy : lessB y.1 p = false := by simpa using hy
      split
      · rename_i he
        have he := eqB_iff.1 he
        exact List.pairwise_cons.2 ⟨fun z hz => by rw [← he]; exact h1 z hz, h2⟩
      · rename_i he
        have he : eqB y.1 p = false := by simpa using he
        have hl := lessB_of_not hy he
        refine List.pairwise_cons.2 ⟨fun z hz => ?_, h⟩
        rcases List.mem_cons.1 hz with e | hz
        · subst e; exact hl
        · exact lessB_trans hl (h1 z hz)

theorem Ris.del {p : ByteArray} {L : Fls} (h : Ris L) : Ris (del p L) := List.Pairwise.filter _ h

theorem del_of_low {p : ByteArray} {L : Fls} (h : ∀ x ∈ L, x.1 ≠ p) : del p L = L := by
  unfold del
  exact List.filter_eq_self.2 fun x hx => by rw [eqB_ne (h x hx)]; rfl

theorem length_ins {p b : ByteArray} : ∀ {L : Fls}, Ris L → (ins p b L).length = if hasP p L then L.length else L.length + 1
  | [], _ => by simp [ins, hasP]
  | y :: r, h => by
    obtain ⟨h1, h2⟩ := List.pairwise_cons.1 h
    have h2' : Ris r := h2
    unfold ins
    split
    · rename_i hy
      have e1 : eqB y.1 p = false := eqB_ne (lessB_ne hy)
      have e2 : hasP p (y :: r) = hasP p r := by unfold hasP; rw [List.any_cons, e1, Bool.false_or]
      rw [e2, List.length_cons, length_ins h2', List.length_cons]
      by_cases hr : hasP p r = true
      · rw [if_pos hr, if_pos hr]
      · rw [if_neg hr, if_neg hr]
    · rename_i hy
      have hy : lessB y.1 p = false := by simpa using hy
      split
      · rename_i he; simp [hasP, he]
      · rename_i he
        have he : eqB y.1 p = false := by simpa using he
        have hl := lessB_of_not hy he
        have : r.any (fun x => eqB x.1 p) = false := by
          rw [List.any_eq_false]
          intro z hz
          have := lessB_trans hl (h1 z hz)
          simp [eqB_ne (Ne.symm (lessB_ne this))]
        simp [hasP, he, this]
theorem length_ins_le {p b : ByteArray} : ∀ {L : Fls}, (ins p b L).length ≤ L.length + 1
  | [] => by simp [ins]
  | y :: r => by
    have := length_ins_le (p := p) (b := b) (L := r)
    unfold ins
    split
    · simp; omega
    · split <;> simp

theorem hasP_ins {p b q : ByteArray} : ∀ {L : Fls}, hasP q (ins p b L) = (eqB p q || hasP q L)
  | [] => by simp [ins, hasP]
  | y :: r => by
    have ih := hasP_ins (p := p) (b := b) (q := q) (L := r)
    unfold ins
    split
    · simp only [hasP, List.any_cons] at *
      rw [ih]
      cases eqB y.1 q <;> cases eqB p q <;> simp
    · split
      · rename_i he
        have he := eqB_iff.1 he
        simp only [hasP, List.any_cons, he]
        cases eqB p q <;> simp
      · simp [hasP]
theorem hasP_del {p q : ByteArray} {L : Fls} : hasP q (del p L) = (hasP q L && !eqB p q) := by
  unfold hasP del
  rw [List.any_filter]
  induction L with
  | nil => rfl
  | cons y r ih =>
    simp only [List.any_cons, ih]
    by_cases e : y.1 = q
    · subst e
      rw [eqB_self, eqB_comm p y.1]
      cases eqB y.1 p <;> simp
    · simp [eqB_ne e]

theorem getP_ins_same {p b : ByteArray} : ∀ {L : Fls}, getP p (ins p b L) = b
  | [] => by simp [ins, getP, eqB_self]
  | y :: r => by
    have ih := getP_ins_same (p := p) (b := b) (L := r)
    unfold ins
    split
    · rename_i hy
      have : eqB y.1 p = false := eqB_ne (lessB_ne hy)
      simp only [getP, List.find?_cons, this] at *
      exact ih
    · split <;> simp [getP, eqB_self]
theorem getP_ins_other {p b q : ByteArray} (hne : p ≠ q) : ∀ {L : Fls}, getP q (ins p b L) = getP q L
  | [] => by simp [ins, getP, eqB_ne hne]
  | y :: r => by
    have ih := getP_ins_other (b := b) hne (L := r)
    unfold ins
    split
    · simp only [getP, List.find?_cons] at *
      cases eqB y.1 q
      · exact ih
      · rfl
    · split
      · rename_i he
        have he := eqB_iff.1 he
        simp [getP, eqB_ne hne, he]
      · simp [getP, eqB_ne hne]
theorem getP_del_other {p q : ByteArray} (hne : p ≠ q) : ∀ {L : Fls}, getP q (del p L) = getP q L
  | [] => rfl
  | y :: r => by
    have ih := getP_del_other hne (L := r)
    unfold del at *
    by_cases e : y.1 = p
    · subst e
      simp only [List.filter_cons, eqB_self, Bool.not_true, Bool.false_eq_true, if_false, ih]
      simp [getP, eqB_ne hne]
    · simp only [List.filter_cons, eqB_ne e, Bool.not_false, if_true]
      simp only [getP, List.find?_cons] at *
      cases eqB y.1 q
      · exact ih
      · rfl
theorem getP_of_not {p : ByteArray} {L : Fls} (h : hasP p L = false) : getP p L = ByteArray.empty := by
  unfold getP
  rw [List.find?_eq_none.2 (fun x hx => by simpa using (List.any_eq_false.1 h) x hx)]

/-- the map as read. -/
def mapD (L : Fls) : DataW Unit := .map (L.map fun x => (Lit.string x.1.data.toList, .lit (.string x.2.data.toList)))

theorem same_eqB (a b : ByteArray) : (Lit.string a.data.toList).sameKey (.string b.data.toList) = eqB a b := by
  unfold eqB
  rw [Lib.toList_data, Lib.toList_data]; rfl

theorem mapD_del (p : ByteArray) (L : Fls) : (mapD L).del (.string p.data.toList) = mapD (del p L) := by
  unfold mapD DataW.del del
  simp only
  congr 1
  rw [List.filter_map]
  congr 1
  apply List.filter_congr
  intro x _
  simp only [Function.comp_apply, same_eqB]

theorem insert_low (p b : ByteArray) : ∀ (L : Fls), Ris L → (∀ x ∈ L, lessB p x.1 = true) →
    DataW.insert (Lit.string p.data.toList, (.lit (.string b.data.toList) : DataW Unit)) (L.map fun x => (Lit.string x.1.data.toList, .lit (.string x.2.data.toList))) = ((p, b) :: L).map fun x => (Lit.string x.1.data.toList, .lit (.string x.2.data.toList))
  | [], _, _ => rfl
  | y :: r, _, h => by
    have := h y (by simp)
    rw [lessB_before] at this
    simp [DataW.insert, this]

theorem put_list (p b : ByteArray) : ∀ (L : Fls), Ris L →
    DataW.insert (Lit.string p.data.toList, (.lit (.string b.data.toList) : DataW Unit)) ((del p L).map fun x => (Lit.string x.1.data.toList, .lit (.string x.2.data.toList))) = (ins p b L).map fun x => (Lit.string x.1.data.toList, .lit (.string x.2.data.toList))
  | [], _ => rfl
  | y :: r, h => by
    obtain ⟨h1, h2⟩ := List.pairwise_cons.1 h
    have h2' : Ris r := h2
    have ih := put_list p b r h2'
    by_cases hy : lessB y.1 p = true
    · have e1 : del p (y :: r) = y :: del p r := by simp [del, eqB_ne (lessB_ne hy)]
      have e2 : ins p b (y :: r) = y :: ins p b r := by simp [ins, hy]
      have e3 : (Lit.string p.data.toList).before (.string y.1.data.toList) = false := by rw [← lessB_before]; exact lessB_asymm hy
      rw [e1, e2, List.map_cons, List.map_cons]
      simp [DataW.insert, e3]
      simpa using ih
    · have hy : lessB y.1 p = false := by simpa using hy
      by_cases he : y.1 = p
      · subst he
        have hr : ∀ x ∈ r, lessB y.1 x.1 = true := h1
        have e1 : del y.1 (y :: r) = r := by
          have : del y.1 r = r := del_of_low fun x hx => Ne.symm (lessB_ne (hr x hx))
          simp only [del, List.filter_cons, eqB_self, Bool.not_true, Bool.false_eq_true, if_false] at *
          exact this
        have e2 : ins y.1 b (y :: r) = (y.1, b) :: r := by simp [ins, lessB_irrefl, eqB_self]
        rw [e1, e2]
        exact insert_low _ _ r h2' hr
      · have he' := eqB_ne he
        have hl := lessB_of_not hy he'
        have hr : ∀ x ∈ y :: r, lessB p x.1 = true := fun x hx => by
          rcases List.mem_cons.1 hx with e | hx
          · subst e; exact hl
          · exact lessB_trans hl (h1 x hx)
        have e1 : del p (y :: r) = y :: r := del_of_low fun x hx => Ne.symm (lessB_ne (hr x hx))
        have e2 : ins p b (y :: r) = (p, b) :: y :: r := by simp [ins, hy, he']
        rw [e1, e2]
        exact insert_low _ _ _ h hr

theorem mapD_put (p b : ByteArray) {L : Fls} (h : Ris L) : (mapD L).put (.string p.data.toList) (.lit (.string b.data.toList)) = mapD (ins p b L) := by
  have e : (mapD L).put (.string p.data.toList) (.lit (.string b.data.toList)) = .map (DataW.insert (Lit.string p.data.toList, (.lit (.string b.data.toList) : DataW Unit)) ((del p L).map fun x => (Lit.string x.1.data.toList, .lit (.string x.2.data.toList)))) := by
    unfold mapD DataW.put del
    simp only
    congr 2
    rw [List.filter_map]
    congr 1
    apply List.filter_congr
    intro x _
    simp only [Function.comp_apply, same_eqB]
  rw [e, put_list p b L h]; rfl

theorem mapD_has (p : ByteArray) (L : Fls) : Maps.has (mapD L) (.string p.data.toList) = hasP p L := by
  unfold mapD hasP
  rw [Maps.has_eq, List.any_map]
  congr 1
  funext x
  simp only [Function.comp_apply, same_eqB]

theorem mapD_at (p : ByteArray) (L : Fls) : (mapD L).atKey (.string p.data.toList) (.lit (.string [])) = .lit (.string (getP p L).data.toList) := by
  unfold mapD DataW.atKey getP
  simp only
  rw [List.find?_map]
  have e : ((fun (q : Lit × DataW Unit) => q.1.sameKey (.string p.data.toList)) ∘ fun (x : ByteArray × ByteArray) => (Lit.string x.1.data.toList, (.lit (.string x.2.data.toList) : DataW Unit))) = fun x => eqB x.1 p := by
    funext x; simp only [Function.comp_apply, same_eqB]
  rw [e]
  cases L.find? (fun x => eqB x.1 p) <;> rfl

theorem mapD_size (L : Fls) : Maps.size (mapD L) = L.length := by simp [mapD, Maps.size]
theorem mapD_keys (L : Fls) : strKeys (mapD L) = L.map fun x => x.1.data.toList := by
  simp only [strKeys, mapD, List.map_map]; rfl

theorem mapD_inj : ∀ {L M : Fls}, mapD L = mapD M → L = M := by
  intro L M h
  replace h := (DataW.map.inj h)
  induction L generalizing M with
  | nil => cases M with
    | nil => rfl
    | cons y s => simp at h
  | cons x r ih => cases M with
    | nil => simp at h
    | cons y s =>
      simp only [List.map_cons, List.cons.injEq, Prod.mk.injEq, Lit.string.injEq, DataW.lit.injEq] at h
      obtain ⟨⟨h1, h2⟩, h3⟩ := h
      rw [ih h3, Prod.ext (ByteArray.ext (Array.toList_inj.1 h1)) (ByteArray.ext (Array.toList_inj.1 h2))]

theorem lessB_le {a b : ByteArray} (h : lessB a b = true) : a.data.toList ≤ b.data.toList := by
  have key : ∀ x y : List UInt8, bytesBefore x y = true → x < y := by
    intro x
    induction x with
    | nil => intro y h; cases y with
      | nil => cases h
      | cons _ _ => exact List.Lex.nil
    | cons a x ih => intro y h; cases y with
      | nil => cases h
      | cons b y =>
        simp only [bytesBefore, Bool.or_eq_true, decide_eq_true_eq, Bool.and_eq_true, beq_iff_eq] at h
        rcases h with h | ⟨rfl, h⟩
        · exact List.Lex.rel h
        · exact List.Lex.cons (ih y h)
  rw [lessB_before] at h
  exact List.le_of_lt (key _ _ h)

/-- the keys, sorted, are the paths as they stand. -/
theorem sorted_keys {L : Fls} (h : Ris L) {ss : List (List UInt8)} (hp : ss.Perm (strKeys (mapD L))) : ((ss.mergeSort (fun x y => decide (x ≤ y))).map encStr) = L.map fun x => Value.string x.1 := by
  rw [mergeSort_of_perm hp, mapD_keys]
  have : (L.map fun x => x.1.data.toList).mergeSort leB = L.map fun x => x.1.data.toList := by
    apply List.mergeSort_of_pairwise
    rw [List.pairwise_map]
    exact h.imp fun {a b} hab => by simpa [leB] using lessB_le hab
  rw [this, List.map_map]
  apply List.map_congr_left
  intro x _
  simp [encStr]

end Go.Proofs.YtadkmlcnmkdfiaaGreatDoor
