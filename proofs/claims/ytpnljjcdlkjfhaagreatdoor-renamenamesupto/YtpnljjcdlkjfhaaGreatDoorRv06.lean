/- Own text. What stands together: lists of trees asked by a function: package tree. What a table of files is, as a rising list of paths and bytes: writing, removing, finding; how a map of such entries reads. No program is named here. Whether no two trees of a list have the same text: package tree. -/
import Derived.Test.YtpnljjcdlkjfhaaGreatDoorRv05
import Derived.Maps.Ext
import Derived.Sort.KeysCollected
import Derived.Lib.Strings
import Derived.Maps.RangeWalk
set_option linter.unusedVariables false
namespace Go.Proofs.YtpnljjcdlkjfhaaGreatDoor
open Go.RowKit
/-- a function value that answers a bool of a tree of the list. -/
def Asks (w : World) (S : Nat → Prop) (fv : Value) (l : List Nd) (q : Nd → Bool) : Prop :=
  ∃ (f : FuncId) (cap : Array Value), fv = .func (.func f) #[] cap ∧ ∀ y ∈ l, ∀ (W : World) (v : Value), Below w.heap.size w W → LAt W S v y.ks → Calls Tryz.prog f (#[y.v v] ++ cap) W fun e W' => e = .returned (.bool (q y)) ∧ Below W.heap.size W W'

set_option maxRecDepth 100000 in
set_option maxHeartbeats 4000000 in
theorem indexFunc_any (w : World) (S : Nat → Prop) (l : List Nd) (v : Value) (f : FuncId) (cap : Array Value) (q : Nd → Bool) (hx : LAt w S v l) (hl : l.length ≤ 4194304) (ent : ∀ args w, (callFunc f args).run Tryz.prog w = .ok (.enter f args) w)
    (hq : ∀ y ∈ l, ∀ (W : World) (v : Value), Below w.heap.size w W → LAt W S v y.ks → Calls Tryz.prog f (#[y.v v] ++ cap) W fun e W' => e = .returned (.bool (q y)) ∧ Below W.heap.size W W') :
    Calls Tryz.prog 183 #[v, .func (.func f) #[] cap] w fun e w' => ∃ i : Int, e = .returned (.int .i64 i) ∧ Below w.heap.size w w' ∧ ((i = -1 ∧ ∀ y ∈ l, q y = false) ∨ ∃ (k : Nat) (hk : k < l.length), i = k ∧ q l[k] = true ∧ ∀ y ∈ l.take k, q y = false) := by
  obtain ⟨ax, cx, bx, ox, fx, rfl, px, qx, rx⟩ := hx.op
  go_enter Tryz.func183, Tryz.ntmps183
  go_wp2
  go_loopw [8] (fun i wr => ∃ k : Nat, i = .int .i64 (k : Nat) ∧ k ≤ l.length ∧ Below w.heap.size w wr ∧ Hid (∀ y ∈ l.take k, q y = false)) (fun i _ => l.length - (intOf i).toNat)
  case atStart => exact ⟨0, rfl, by omega, Below.refl _ _, by simp [Hid]⟩
  case round =>
    obtain ⟨k, rfl, hk, bel, HT⟩ := hrel
    by_cases hkl : k < l.length
    · obtain ⟨rfl, hSx, hbx⟩ := px (by omega)
      obtain ⟨⟨u1, u2, u3, u4⟩, gx⟩ := kid_at (qx k hkl) (rx k hkl) hbx bel
      have hcall := hq l[k] (List.getElem_mem hkl) wr (fx k) bel gx
      have HQ : Hid (q l[k] = true → ∃ (k' : Nat) (hk : k' < l.length), (k : Int) = k' ∧ q l[k'] = true ∧ ∀ y ∈ l.take k', q y = false) := fun h => ⟨k, hkl, rfl, h, HT.out⟩
      have HS : Hid (q l[k] = false → ∀ y ∈ l.take (k + 1), q y = false) := fun h y hy => by
        rw [List.take_succ_eq_append_getElem hkl] at hy
        rcases List.mem_append.1 hy with hy | hy
        · exact HT.out y hy
        · obtain rfl : y = l[k] := by simpa using hy
          exact h
      clear hq HT
      generalize l[k] = y at *
      generalize fx k = fy at *
      cases hqy : q y
      · rw [hqy] at hcall
        have HT' := HS.out hqy
        have HT2 : Hid (∀ y ∈ l.take (k + 1), q y = false) := HT'
        clear HT' HS HQ
        go_wp2_with fail
        refine hcall.mono ?_
        rintro e W1 ⟨rfl, b1⟩
        go_wp2
        go_roundw
        case rel => exact ⟨k + 1, by simp, by omega, bel.trans (b1.mono bel.size), HT2⟩
        case measure => simp [intOf]; omega
      · rw [hqy] at hcall
        have HQ2 : Hid (∃ (k' : Nat) (hk : k' < l.length), (k : Int) = k' ∧ q l[k'] = true ∧ ∀ y ∈ l.take k', q y = false) := HQ.out hqy
        clear HS HQ
        go_wp2_with fail
        refine hcall.mono ?_
        rintro e W1 ⟨rfl, b1⟩
        go_wp2
        go_ret
        exact ⟨_, rfl, bel.trans (b1.mono bel.size), .inr HQ2.out⟩
    · have e : l.take k = l := List.take_of_length_le (by omega)
      rw [e] at HT
      clear e hq
      go_wp2
      go_ret
      exact ⟨_, rfl, bel, .inl ⟨rfl, HT.out⟩⟩
end Go.Proofs.YtpnljjcdlkjfhaaGreatDoor
set_option linter.unusedVariables false
namespace Go.Proofs.YtpnljjcdlkjfhaaGreatDoor
open Go.WideShapes Go.Maps
open Go.Proofs (encStr)
/-- files: paths and bytes. -/
abbrev Fls := List (ByteArray × ByteArray)

def lessB (a b : ByteArray) : Bool := Op.bytesLess a.toList b.toList
def eqB (a b : ByteArray) : Bool := a.toList == b.toList

theorem toList_inj {a b : ByteArray} (h : a.toList = b.toList) : a = b := by
  rw [Lib.toList_data, Lib.toList_data] at h
  exact ByteArray.ext (Array.toList_inj.1 h)

theorem eqB_iff {a b : ByteArray} : eqB a b = true ↔ a = b := by
  unfold eqB
  constructor
  · intro h; exact toList_inj (by simpa using h)
  · rintro rfl; simp
theorem eqB_self (a : ByteArray) : eqB a a = true := eqB_iff.2 rfl
theorem eqB_ne {a b : ByteArray} (h : a ≠ b) : eqB a b = false := by
  cases e : eqB a b
  · rfl
  · exact absurd (eqB_iff.1 e) h
theorem eqB_comm (a b : ByteArray) : eqB a b = eqB b a := by
  by_cases h : a = b
  · subst h; rfl
  · rw [eqB_ne h, eqB_ne (Ne.symm h)]

theorem less_before : ∀ a b : List UInt8, Op.bytesLess a b = bytesBefore a b
  | [], [] => rfl
  | [], _ :: _ => rfl
  | _ :: _, [] => rfl
  | a :: x, b :: y => by rw [Op.bytesLess, bytesBefore, less_before x y]

theorem lessB_before (a b : ByteArray) : lessB a b = (Lit.string a.data.toList).before (.string b.data.toList) := by
  unfold lessB
  rw [less_before, Lib.toList_data, Lib.toList_data]; rfl

theorem lessB_irrefl (a : ByteArray) : lessB a a = false := by rw [lessB_before]; exact before_irrefl _
theorem lessB_trans {a b c : ByteArray} (h1 : lessB a b = true) (h2 : lessB b c = true) : lessB a c = true := by
  rw [lessB_before] at *; exact before_trans h1 h2
theorem lessB_asymm {a b : ByteArray} (h1 : lessB a b = true) : lessB b a = false := by
  cases e : lessB b a
  · rfl
  · have := lessB_trans h1 e; rw [lessB_irrefl] at this; cases this
theorem lessB_total {a b : ByteArray} (h : a ≠ b) : lessB a b = true ∨ lessB b a = true := by
  rw [lessB_before, lessB_before]
  have : a.data.toList ≠ b.data.toList := fun e => h (ByteArray.ext (Array.toList_inj.1 e))
  rcases WideAt.bytes_total _ _ this with h1 | h1
  · exact Or.inl h1
  · exact Or.inr h1
theorem lessB_ne {a b : ByteArray} (h : lessB a b = true) : a ≠ b := fun e => by
  subst e; rw [lessB_irrefl] at h; cases h
theorem lessB_of_not {a b : ByteArray} (h1 : lessB a b = false) (h2 : eqB a b = false) : lessB b a = true := by
  have : a ≠ b := fun e => by subst e; rw [eqB_self] at h2; cases h2
  rcases lessB_total this with h | h
  · rw [h1] at h; cases h
  · exact h

/-- the paths rise. -/
def Ris (L : Fls) : Prop := L.Pairwise fun x y => lessB x.1 y.1 = true

def ins (p b : ByteArray) : Fls → Fls
  | [] => [(p, b)]
  | x :: r => if lessB x.1 p then x :: ins p b r else if eqB x.1 p then (p, b) :: r else (p, b) :: x :: r
def del (p : ByteArray) (L : Fls) : Fls := L.filter fun x => !eqB x.1 p
def hasP (p : ByteArray) (L : Fls) : Bool := L.any fun x => eqB x.1 p
def getP (p : ByteArray) (L : Fls) : ByteArray := match L.find? (fun x => eqB x.1 p) with | some x => x.2 | none => ByteArray.empty

theorem mem_ins {p b : ByteArray} : ∀ {L : Fls} {x}, x ∈ ins p b L → x = (p, b) ∨ x ∈ L
  | [], x, h => by simp [ins] at h; exact Or.inl h
  | y :: r, x, h => by
    unfold ins at h
    split at h
    · rcases List.mem_cons.1 h with e | h
      · exact Or.inr (by simp [e])
      · rcases mem_ins h with e | h
        · exact Or.inl e
        · exact Or.inr (by simp [h])
    · split at h
      · rcases List.mem_cons.1 h with e | h
        · exact Or.inl e
        · exact Or.inr (by simp [h])
      · rcases List.mem_cons.1 h with e | h
        · exact Or.inl e
        · exact Or.inr h

theorem Ris.ins {p b : ByteArray} : ∀ {L : Fls}, Ris L → Ris (ins p b L)
  | [], _ => by simp [Ris, Go.Proofs.YtpnljjcdlkjfhaaGreatDoor.ins]
  | y :: r, h => by
    obtain ⟨h1, h2⟩ := List.pairwise_cons.1 h
    have h2' : Ris r := h2
    unfold Go.Proofs.YtpnljjcdlkjfhaaGreatDoor.ins
    split
    · rename_i hy
      refine List.pairwise_cons.2 ⟨fun z hz => ?_, h2'.ins⟩
      rcases mem_ins hz with e | hz
      · subst e; exact hy
      · exact h1 z hz
    · rename_i hy
      have hy : lessB y.1 p = false := by simpa using hy
      split
      · rename_i he
        have he := eqB_iff.1 he
        exact List.pairwise_cons.2 ⟨fun z hz => by rw [← he]; exact h1 z hz, h2⟩
      · rename_i he
        have he : eqB y.1 p = false := by simpa using he
        have hl := lessB_of_not hy he
        refine List.pairwise_cons.2 ⟨fun z hz => ?_, h⟩
        rcases List.mem_cons.1 hz with e | hz
        · subst e; exact hl
        · exact lessB_trans hl (h1 z hz)

theorem Ris.del {p : ByteArray} {L : Fls} (h : Ris L) : Ris (del p L) := List.Pairwise.filter _ h

theorem del_of_low {p : ByteArray} {L : Fls} (h : ∀ x ∈ L, x.1 ≠ p) : del p L = L := by
  unfold del
  exact List.filter_eq_self.2 fun x hx => by rw [eqB_ne (h x hx)]; rfl

theorem length_ins {p b : ByteArray} : ∀ {L : Fls}, Ris L → (ins p b L).length = if hasP p L then L.length else L.length + 1
  | [], _ => by simp [ins, hasP]
  | y :: r, h => by
    obtain ⟨h1, h2⟩ := List.pairwise_cons.1 h
    have h2' : Ris r := h2
    unfold ins
    split
    · rename_i hy
      have e1 : eqB y.1 p = false := eqB_ne (lessB_ne hy)
      have e2 : hasP p (y :: r) = hasP p r := by unfold hasP; rw [List.any_cons, e1, Bool.false_or]
      rw [e2, List.length_cons, length_ins h2', List.length_cons]
      by_cases hr : hasP p r = true
      · rw [if_pos hr, if_pos hr]
      · rw [if_neg hr, if_neg hr]
    · rename_i hy
      have hy : lessB y.1 p = false := by simpa using hy
      split
      · rename_i he; simp [hasP, he]
      · rename_i he
        have he : eqB y.1 p = false := by simpa using he
        have hl := lessB_of_not hy he
        have : r.any (fun x => eqB x.1 p) = false := by
          rw [List.any_eq_false]
          intro z hz
          have := lessB_trans hl (h1 z hz)
          simp [eqB_ne (Ne.symm (lessB_ne this))]
        simp [hasP, he, this]
theorem length_ins_le {p b : ByteArray} : ∀ {L : Fls}, (ins p b L).length ≤ L.length + 1
  | [] => by simp [ins]
  | y :: r => by
    have := length_ins_le (p := p) (b := b) (L := r)
    unfold ins
    split
    · simp; omega
    · split <;> simp

theorem hasP_ins {p b q : ByteArray} : ∀ {L : Fls}, hasP q (ins p b L) = (eqB p q || hasP q L)
  | [] => by simp [ins, hasP]
  | y :: r => by
    have ih := hasP_ins (p := p) (b := b) (q := q) (L := r)
    unfold ins
    split
    · simp only [hasP, List.any_cons] at *
      rw [ih]
      cases eqB y.1 q <;> cases eqB p q <;> simp
    · split
      · rename_i he
        have he := eqB_iff.1 he
        simp only [hasP, List.any_cons, he]
        cases eqB p q <;> simp
      · simp [hasP]
theorem hasP_del {p q : ByteArray} {L : Fls} : hasP q (del p L) = (hasP q L && !eqB p q) := by
  unfold hasP del
  rw [List.any_filter]
  induction L with
  | nil => rfl
  | cons y r ih =>
    simp only [List.any_cons, ih]
    by_cases e : y.1 = q
    · subst e
      rw [eqB_self, eqB_comm p y.1]
      cases eqB y.1 p <;> simp
    · simp [eqB_ne e]

theorem getP_ins_same {p b : ByteArray} : ∀ {L : Fls}, getP p (ins p b L) = b
  | [] => by simp [ins, getP, eqB_self]
  | y :: r => by
    have ih := getP_ins_same (p := p) (b := b) (L := r)
    unfold ins
    split
    · rename_i hy
      have : eqB y.1 p = false := eqB_ne (lessB_ne hy)
      simp only [getP, List.find?_cons, this] at *
      exact ih
    · split <;> simp [getP, eqB_self]
theorem getP_ins_other {p b q : ByteArray} (hne : p ≠ q) : ∀ {L : Fls}, getP q (ins p b L) = getP q L
  | [] => by simp [ins, getP, eqB_ne hne]
  | y :: r => by
    have ih := getP_ins_other (b := b) hne (L := r)
    unfold ins
    split
    · simp only [getP, List.find?_cons] at *
      cases eqB y.1 q
      · exact ih
      · rfl
    · split
      · rename_i he
        have he := eqB_iff.1 he
        simp [getP, eqB_ne hne, he]
      · simp [getP, eqB_ne hne]
theorem getP_del_other {p q : ByteArray} (hne : p ≠ q) : ∀ {L : Fls}, getP q (del p L) = getP q L
  | [] => rfl
  | y :: r => by
    have ih := getP_del_other hne (L := r)
    unfold del at *
    by_cases e : y.1 = p
    · subst e
      simp only [List.filter_cons, eqB_self, Bool.not_true, Bool.false_eq_true, if_false, ih]
      simp [getP, eqB_ne hne]
    · simp only [List.filter_cons, eqB_ne e, Bool.not_false, if_true]
      simp only [getP, List.find?_cons] at *
      cases eqB y.1 q
      · exact ih
      · rfl
theorem getP_of_not {p : ByteArray} {L : Fls} (h : hasP p L = false) : getP p L = ByteArray.empty := by
  unfold getP
  rw [List.find?_eq_none.2 (fun x hx => by simpa using (List.any_eq_false.1 h) x hx)]

/-- the map as read. -/
def mapD (L : Fls) : DataW Unit := .map (L.map fun x => (Lit.string x.1.data.toList, .lit (.string x.2.data.toList)))

theorem same_eqB (a b : ByteArray) : (Lit.string a.data.toList).sameKey (.string b.data.toList) = eqB a b := by
  unfold eqB
  rw [Lib.toList_data, Lib.toList_data]; rfl

theorem mapD_del (p : ByteArray) (L : Fls) : (mapD L).del (.string p.data.toList) = mapD (del p L) := by
  unfold mapD DataW.del del
  simp only
  congr 1
  rw [List.filter_map]
  congr 1
  apply List.filter_congr
  intro x _
  simp only [Function.comp_apply, same_eqB]

theorem insert_low (p b : ByteArray) : ∀ (L : Fls), Ris L → (∀ x ∈ L, lessB p x.1 = true) →
    DataW.insert (Lit.string p.data.toList, (.lit (.string b.data.toList) : DataW Unit)) (L.map fun x => (Lit.string x.1.data.toList, .lit (.string x.2.data.toList))) = ((p, b) :: L).map fun x => (Lit.string x.1.data.toList, .lit (.string x.2.data.toList))
  | [], _, _ => rfl
  | y :: r, _, h => by
    have := h y (by simp)
    rw [lessB_before] at this
    simp [DataW.insert, this]

theorem put_list (p b : ByteArray) : ∀ (L : Fls), Ris L →
    DataW.insert (Lit.string p.data.toList, (.lit (.string b.data.toList) : DataW Unit)) ((del p L).map fun x => (Lit.string x.1.data.toList, .lit (.string x.2.data.toList))) = (ins p b L).map fun x => (Lit.string x.1.data.toList, .lit (.string x.2.data.toList))
  | [], _ => rfl
  | y :: r, h => by
    obtain ⟨h1, h2⟩ := List.pairwise_cons.1 h
    have h2' : Ris r := h2
    have ih := put_list p b r h2'
    by_cases hy : lessB y.1 p = true
    · have e1 : del p (y :: r) = y :: del p r := by simp [del, eqB_ne (lessB_ne hy)]
      have e2 : ins p b (y :: r) = y :: ins p b r := by simp [ins, hy]
      have e3 : (Lit.string p.data.toList).before (.string y.1.data.toList) = false := by rw [← lessB_before]; exact lessB_asymm hy
      rw [e1, e2, List.map_cons, List.map_cons]
      simp [DataW.insert, e3]
      simpa using ih
    · have hy : lessB y.1 p = false := by simpa using hy
      by_cases he : y.1 = p
      · subst he
        have hr : ∀ x ∈ r, lessB y.1 x.1 = true := h1
        have e1 : del y.1 (y :: r) = r := by
          have : del y.1 r = r := del_of_low fun x hx => Ne.symm (lessB_ne (hr x hx))
          simp only [del, List.filter_cons, eqB_self, Bool.not_true, Bool.false_eq_true, if_false] at *
          exact this
        have e2 : ins y.1 b (y :: r) = (y.1, b) :: r := by simp [ins, lessB_irrefl, eqB_self]
        rw [e1, e2]
        exact insert_low _ _ r h2' hr
      · have he' := eqB_ne he
        have hl := lessB_of_not hy he'
        have hr : ∀ x ∈ y :: r, lessB p x.1 = true := fun x hx => by
          rcases List.mem_cons.1 hx with e | hx
          · subst e; exact hl
          · exact lessB_trans hl (h1 x hx)
        have e1 : del p (y :: r) = y :: r := del_of_low fun x hx => Ne.symm (lessB_ne (hr x hx))
        have e2 : ins p b (y :: r) = (p, b) :: y :: r := by simp [ins, hy, he']
        rw [e1, e2]
        exact insert_low _ _ _ h hr

theorem mapD_put (p b : ByteArray) {L : Fls} (h : Ris L) : (mapD L).put (.string p.data.toList) (.lit (.string b.data.toList)) = mapD (ins p b L) := by
  have e : (mapD L).put (.string p.data.toList) (.lit (.string b.data.toList)) = .map (DataW.insert (Lit.string p.data.toList, (.lit (.string b.data.toList) : DataW Unit)) ((del p L).map fun x => (Lit.string x.1.data.toList, .lit (.string x.2.data.toList)))) := by
    unfold mapD DataW.put del
    simp only
    congr 2
    rw [List.filter_map]
    congr 1
    apply List.filter_congr
    intro x _
    simp only [Function.comp_apply, same_eqB]
  rw [e, put_list p b L h]; rfl

theorem mapD_has (p : ByteArray) (L : Fls) : Maps.has (mapD L) (.string p.data.toList) = hasP p L := by
  unfold mapD hasP
  rw [Maps.has_eq, List.any_map]
  congr 1
  funext x
  simp only [Function.comp_apply, same_eqB]

theorem mapD_at (p : ByteArray) (L : Fls) : (mapD L).atKey (.string p.data.toList) (.lit (.string [])) = .lit (.string (getP p L).data.toList) := by
  unfold mapD DataW.atKey getP
  simp only
  rw [List.find?_map]
  have e : ((fun (q : Lit × DataW Unit) => q.1.sameKey (.string p.data.toList)) ∘ fun (x : ByteArray × ByteArray) => (Lit.string x.1.data.toList, (.lit (.string x.2.data.toList) : DataW Unit))) = fun x => eqB x.1 p := by
    funext x; simp only [Function.comp_apply, same_eqB]
  rw [e]
  cases L.find? (fun x => eqB x.1 p) <;> rfl

theorem mapD_size (L : Fls) : Maps.size (mapD L) = L.length := by simp [mapD, Maps.size]
theorem mapD_keys (L : Fls) : strKeys (mapD L) = L.map fun x => x.1.data.toList := by
  simp only [strKeys, mapD, List.map_map]; rfl

theorem mapD_inj : ∀ {L M : Fls}, mapD L = mapD M → L = M := by
  intro L M h
  replace h := (DataW.map.inj h)
  induction L generalizing M with
  | nil => cases M with
    | nil => rfl
    | cons y s => simp at h
  | cons x r ih => cases M with
    | nil => simp at h
    | cons y s =>
      simp only [List.map_cons, List.cons.injEq, Prod.mk.injEq, Lit.string.injEq, DataW.lit.injEq] at h
      obtain ⟨⟨h1, h2⟩, h3⟩ := h
      rw [ih h3, Prod.ext (ByteArray.ext (Array.toList_inj.1 h1)) (ByteArray.ext (Array.toList_inj.1 h2))]

theorem lessB_le {a b : ByteArray} (h : lessB a b = true) : a.data.toList ≤ b.data.toList := by
  have key : ∀ x y : List UInt8, bytesBefore x y = true → x < y := by
    intro x
    induction x with
    | nil => intro y h; cases y with
      | nil => cases h
      | cons _ _ => exact List.Lex.nil
    | cons a x ih => intro y h; cases y with
      | nil => cases h
      | cons b y =>
        simp only [bytesBefore, Bool.or_eq_true, decide_eq_true_eq, Bool.and_eq_true, beq_iff_eq] at h
        rcases h with h | ⟨rfl, h⟩
        · exact List.Lex.rel h
        · exact List.Lex.cons (ih y h)
  rw [lessB_before] at h
  exact List.le_of_lt (key _ _ h)

/-- the keys, sorted, are the paths as they stand. -/
theorem sorted_keys {L : Fls} (h : Ris L) {ss : List (List UInt8)} (hp : ss.Perm (strKeys (mapD L))) : ((ss.mergeSort (fun x y => decide (x ≤ y))).map encStr) = L.map fun x => Value.string x.1 := by
  rw [mergeSort_of_perm hp, mapD_keys]
  have : (L.map fun x => x.1.data.toList).mergeSort leB = L.map fun x => x.1.data.toList := by
    apply List.mergeSort_of_pairwise
    rw [List.pairwise_map]
    exact h.imp fun {a b} hab => by simpa [leB] using lessB_le hab
  rw [this, List.map_map]
  apply List.map_congr_left
  intro x _
  simp [encStr]

end Go.Proofs.YtpnljjcdlkjfhaaGreatDoor
set_option linter.unusedVariables false
namespace Go.Proofs.YtpnljjcdlkjfhaaGreatDoor
open Go.RowKit Go.Maps
theorem lawSF : Keyed Tryz.prog 9 := string_keyed Tryz.underlying9
theorem keyT {s : ByteArray} (hs : s.size ≤ 281474976710656) : keyOf Tryz.prog 9 (.string s) = some (.string s.data.toList) := by
  have : s.size ≤ maxLen := by unfold maxLen; omega
  simp [keyOf, Tryz.underlying9, mapKey, this]
/-- how an element of no fields reads. -/
def sElem : Value → Option (DataW Unit × List MemPlace)
  | .agg cs => if cs.size = 0 then some (.lit (.string []), []) else none
  | _ => none
theorem sElem_mk : sElem (.agg #[]) = some (.lit (.string []), []) := rfl
theorem own_tightS {w : World} {P : Program} {k : TypeId} {R : Value → Option (DataW Unit × List MemPlace)} {b n : Nat} {L : Fls} (h : w.ownsMap P k R b n (mapD L)) : w.ownsMap P k R b L.length (mapD L) := by
  obtain ⟨es, clock, hb, F, _, hD⟩ := h
  refine ⟨es, clock, hb, F, ?_, hD⟩
  have e := congrArg Maps.size hD
  rw [mapD_size] at e
  rw [e, Maps.size_eq, length_sorted]
  simp
theorem mapHint (W : World) (n : Int) : (Instr.makeMap 201 (some (.int .i64 n))).run Tryz.prog W = .ok (.map (some W.heap.size)) (W.alloc (.map #[] 0)) := by
  simp [Instr.makeMap, run_underlying Tryz.underlying201, asInt, asIntOf, newObj, Result.andThen, go_sem]
  rfl

/-- the texts of the first trees, as a rising list. -/
def txts (l : List Nd) : Fls := l.foldl (fun L x => ins x.t ByteArray.empty L) []
theorem txts_snoc (l : List Nd) (x : Nd) : txts (l ++ [x]) = ins x.t ByteArray.empty (txts l) := by simp [txts]
theorem txts_has (t : ByteArray) : ∀ l : List Nd, hasP t (l.foldl (fun L x => ins x.t ByteArray.empty L) []) = true ↔ ∃ x ∈ l, x.t = t := by
  suffices h : ∀ (l : List Nd) (L : Fls), hasP t (l.foldl (fun L x => ins x.t ByteArray.empty L) L) = true ↔ (∃ x ∈ l, x.t = t) ∨ hasP t L = true by
    intro l; rw [h]; simp [hasP]
  intro l
  induction l with
  | nil => intro L; simp
  | cons x l ih =>
    intro L
    rw [List.foldl_cons, ih, hasP_ins, Bool.or_eq_true, eqB_iff]
    constructor
    · rintro (⟨y, hy, e⟩ | e | e)
      · exact .inl ⟨y, by simp [hy], e⟩
      · exact .inl ⟨x, by simp, e⟩
      · exact .inr e
    · rintro (⟨y, hy, e⟩ | e)
      · rcases List.mem_cons.1 hy with rfl | hy
        · exact .inr (.inl e)
        · exact .inl ⟨y, hy, e⟩
      · exact .inr (.inr e)
theorem txts_ris (l : List Nd) : Ris (txts l) := by
  suffices h : ∀ (l : List Nd) (L : Fls), Ris L → Ris (l.foldl (fun L x => ins x.t ByteArray.empty L) L) from h l [] (by simp [Ris])
  intro l
  induction l with
  | nil => intro L h; exact h
  | cons x l ih => intro L h; exact ih _ h.ins
/-- no two trees have the same text. -/
def unlikeP (l : List Nd) : Prop := (l.map (·.t)).Nodup
theorem txts_len (l : List Nd) (k : Nat) (hk : k ≤ l.length) : (txts (l.take k)).length ≤ k ∧ ((txts (l.take k)).length = k ↔ unlikeP (l.take k)) := by
  induction k with
  | zero => simp [txts, unlikeP]
  | succ k ih =>
    obtain ⟨h1, h2⟩ := ih (by omega)
    have e := List.take_succ_eq_append_getElem (l := l) (i := k) (by omega)
    rw [e, txts_snoc, length_ins (txts_ris _)]
    have hh := txts_has l[k].t (l.take k)
    have hu : unlikeP (l.take k ++ [l[k]]) ↔ unlikeP (l.take k) ∧ ¬ ∃ x ∈ l.take k, x.t = l[k].t := by
      unfold unlikeP
      rw [List.map_append, List.nodup_append]
      constructor
      · rintro ⟨a, _, c⟩
        refine ⟨a, ?_⟩
        rintro ⟨x, hx, ex⟩
        exact c x.t (List.mem_map.2 ⟨x, hx, rfl⟩) l[k].t (by simp) ex
      · rintro ⟨a, c⟩
        refine ⟨a, by simp, ?_⟩
        intro u hu v hv huv
        obtain ⟨x, hx, rfl⟩ := List.mem_map.1 hu
        obtain rfl : v = l[k].t := by simpa using hv
        exact c ⟨x, hx, huv⟩
    rw [hu]
    unfold txts at h1 h2 ⊢
    by_cases hp : hasP l[k].t ((l.take k).foldl (fun L x => ins x.t ByteArray.empty L) []) = true
    · rw [if_pos hp]
      refine ⟨by omega, fun h => by omega, fun h => absurd (hh.1 hp) h.2⟩
    · rw [if_neg hp]
      refine ⟨by omega, fun h => ⟨h2.1 (by omega), fun hx => hp (hh.2 hx)⟩, fun h => by rw [h2.2 h.1]⟩

set_option maxRecDepth 100000 in
set_option maxHeartbeats 4000000 in
theorem unlike_any (w : World) (S : Nat → Prop) (l : List Nd) (v : Value) (hx : LAt w S v l) (hl : l.length ≤ 4194304) (ht : ∀ x ∈ l, x.t.size ≤ 4194304) :
    Calls Tryz.prog 104 #[v] w fun e w' => ∃ b : Bool, e = .returned (.bool b) ∧ (b = true ↔ unlikeP l) ∧ Below w.heap.size w w' := by
  obtain ⟨ax, cx, bx, ox, fx, rfl, px, qx, rx⟩ := hx.op
  have hmm := mapHint
  have tl := txts_len l
  have tr := fun k => txts_ris (l.take k)
  go_enter Tryz.func104, Tryz.ntmps104
  go_wp2
  go_loopw [11] (fun i wr => ∃ k : Nat, i = .int .i64 (k : Nat) ∧ k ≤ l.length ∧ Below w.heap.size w wr ∧ wr.ownsMap Tryz.prog 9 sElem w.heap.size (txts (l.take k)).length (mapD (txts (l.take k)))) (fun i _ => l.length - (intOf i).toNat)
  case atStart => exact ⟨0, rfl, by omega, bel_a _ _, World.ownsMap_made w Tryz.prog 9 sElem⟩
  case round =>
    clear hmm
    obtain ⟨k, rfl, hk, bel, own⟩ := hrel
    by_cases hkl : k < l.length
    · obtain ⟨rfl, hSx, hbx⟩ := px (by omega)
      obtain ⟨⟨u1, u2, u3, u4⟩, gx⟩ := kid_at (qx k hkl) (rx k hkl) hbx bel
      have hk1 := keyT (s := l[k].t) (by have := ht l[k] (List.getElem_mem hkl); omega)
      have HS : Hid (txts (l.take (k + 1)) = ins l[k].t ByteArray.empty (txts (l.take k))) := by
        show _ = _
        rw [List.take_succ_eq_append_getElem hkl, txts_snoc]
      have hle := (tl k (by omega)).1
      have trk := tr k
      obtain ⟨aa, cc, e⟩ := gx.sl
      have hltm := own.lt
      clear tl tr
      generalize l[k] = y at *
      generalize fx k = fy at *
      subst e
      generalize hL : txts (l.take k) = L at *
      go_wp2_with (at_mapUpdate; refine wpList_mapUpdate_own _ rfl _ _ _ 201 rfl 9 202 lawSF Tryz.underlying201 sElem w.heap.size L.length (mapD L) rfl ?own ?room _ _ _ rfl rfl hk1 _ [] sElem_mk ?_; rotate_left 1; (case own => exact own.kept (World.grownBy_alloc _ _ none) (by simp)); (case room => unfold maxLen; omega); intro W3 h3 g3)
      have own3 : W3.ownsMap Tryz.prog 9 sElem w.heap.size (txts (l.take (k + 1))).length (mapD (txts (l.take (k + 1)))) := by
        rw [HS.out]
        have e2 := mapD_put y.t ByteArray.empty trk
        exact own_tightS (by rw [← e2]; exact h3)
      have bel3 : Below w.heap.size w W3 := (bel.alloc bel.size _).grown g3 (by simp; have := bel.size; omega) (fun j hj => by cases hj; exact Nat.le_refl _)
      clear h3 g3 own HS
      go_wp2
      go_roundw
      case rel => exact ⟨k + 1, by simp, by omega, bel3, own3⟩
      case measure => simp [intOf]; omega
    · have e : k = l.length := by omega
      have tlk := (tl k hk).2
      have tlk1 := (tl k hk).1
      have el : l.take k = l := by rw [e]; exact List.take_length
      rw [el] at own tlk tlk1
      rw [e] at tlk
      have h1 : ∀ ty, (Builtin.len_ #[201] ty #[.map (some w.heap.size)]).run Tryz.prog wr = .ok (.int .i64 (txts l).length) wr := fun ty => by
        have := own.len Tryz.underlying201 ty
        rw [mapD_size] at this
        exact this
      have HT : Hid ((txts l).length = l.length ↔ unlikeP l) := tlk
      clear tl tr el tlk own e ht
      generalize (txts l).length = c at *
      go_wp2
      go_ret
      exact ⟨_, rfl, by rw [← HT.out]; simp <;> omega, bel⟩
end Go.Proofs.YtpnljjcdlkjfhaaGreatDoor
