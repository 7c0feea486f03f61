/- Own text. What the exports of modules lead to: mathematics: questions, answers, and a row of questions that are open. A map in memory as a function: keys and elements of whatever kind. Modules' entries in memory; what leads, what two answers come to; which entry gives a name. Keys of maps: numbers, texts, questions. Which entry gives a name: look, has. Which entry gives a name: look, has; a book in memory. What a book gives: writeFirst, write, find. What a book gives: write. Which entry gives a name, by a book: find. Which entry gives a name, by a book: find, at the second name. Which entry gives a name, by a book: find, of a module that is written. What two answers come to. -/
import Derived.WalkKit
import Derived.Maps.Own
import Derived.Laws.StructEq
import Derived.Test.YtadkmlcnmkdfiaaGreatDoorChecked
import Derived.WalkSmall
import Derived.WalkLawsBesides
import Derived.Laws.Rows
import Derived.Maps.AppendAt
import Derived.Deep.RegionHeld3
import Derived.Handy
import Derived.Deep.RegionLaw
import Derived.RegionTactic
import Derived.Deep.DeepCutAuto
namespace Go.Proofs.YtadkmlcnmkdfiaaGreatDoor
set_option linter.unusedVariables false
set_option linter.unusedSimpArgs false
namespace Xp

theorem ba_eq (x y : ByteArray) : (x == y) = decide (x = y) := by
  rw [Bool.eq_iff_iff]
  simp only [decide_eq_true_eq]
  obtain ⟨⟨x⟩⟩ := x
  obtain ⟨⟨y⟩⟩ := y
  show ((⟨x⟩ : Array UInt8) == ⟨y⟩) = true ↔ _
  simp
/-- an entry of a module. -/
structure En where
  here : ByteArray
  there : ByteArray
  mod : Int
  ty : Bool
  item : Int
/-- a module's entries. -/
structure Es where
  imp : List En
  own : List En
  oth : List En
  st : List En
/-- what an export leads to. -/
structure Fnd where
  k : Int
  mod : Int
  name : ByteArray
  ty : Bool
deriving DecidableEq
abbrev Qn := Int × ByteArray
abbrev mt : ByteArray := ByteArray.empty
def fd0 : Fnd := ⟨0, 0, mt, false⟩
def amb : Fnd := ⟨3, 0, mt, false⟩
def circ : Fnd := ⟨4, 0, mt, false⟩
def leads (f : Fnd) : Bool := f.k == 1 || f.k == 2
def joined (a b : Fnd) : Fnd :=
  if b.k = 0 ∨ (b.k = 4 ∧ leads a = true) then a
  else if leads a = false then b
  else if a.k = b.k ∧ a.mod = b.mod ∧ a.name = b.name then { a with ty := a.ty && b.ty } else amb
/-- how far a question is: 0 never asked, 1 open, 2 was asked. -/
abbrev St := Qn → Nat
def St.set (S : St) (q : Qn) (n : Nat) : St := fun p => if p = q then n else S p
theorem St.set_self (S : St) (q : Qn) (n : Nat) : S.set q n q = n := by simp [St.set]
theorem St.set_ne (S : St) {q p : Qn} (n : Nat) (h : p ≠ q) : S.set q n p = S p := by simp [St.set, h]
inductive What where
  | val (f : Fnd)
  | go (left : List En) (name : ByteArray) (ty : Bool)
def star : ByteArray := ⟨#[42]⟩
def dflt : ByteArray := ⟨#[100, 101, 102, 97, 117, 108, 116]⟩
def first (e : Es) (q : Qn) : What :=
  match e.own.find? (fun x => x.there == q.2) with
  | some x => .val ⟨1, q.1, x.here, x.ty⟩
  | none => match e.oth.find? (fun x => x.here == q.2) with
    | some x => if x.there = star then .val ⟨2, x.mod, mt, x.ty⟩ else .go [x] x.there x.ty
    | none => if q.2 = dflt then .val fd0 else .go e.st q.2 false
def clo (ty : Bool) (v : Fnd) : Fnd := { v with ty := v.ty || (ty && leads v) }
/-- of so many entries' modules, one after the other. -/
def frG (ask : St → Qn → Fnd × St) (name : ByteArray) : St → List En → Fnd → Fnd × St
  | S, [], v => (v, S)
  | S, e :: l, v =>
    let r := ask S (e.mod, name)
    let j := joined v r.1
    if j.k = 3 then (j, r.2) else frG ask name r.2 l j
def stepF (L : List Es) (ask : St → Qn → Fnd × St) (S : St) (q : Qn) : Fnd × St :=
  if 0 ≤ q.1 then
    match L[q.1.toNat]? with
    | none => (fd0, S)
    | some e =>
      if S q = 1 then (circ, S) else if S q ≠ 0 then (fd0, S) else
      match first e q with
      | .val v => (v, S.set q 2)
      | .go left name ty => let r := frG ask name (S.set q 1) left fd0; (clo ty r.1, r.2.set q 2)
  else (fd0, S)
def askF (L : List Es) : Nat → St → Qn → Fnd × St
  | 0, S, q => (fd0, S)
  | f + 1, S, q => stepF L (askF L f) S q

/-- the names that can come up. -/
def Nms (L : List Es) (n : ByteArray) : List ByteArray := n :: L.flatMap fun e => e.oth.map (·.there)
def Uni (L : List Es) (N : List ByteArray) : List Qn := (List.range L.length).flatMap fun (m : Nat) => N.map fun n => ((m : Int), n)
theorem mem_uni {L : List Es} {N : List ByteArray} {q : Qn} (h0 : 0 ≤ q.1) (h1 : q.1.toNat < L.length) (h2 : q.2 ∈ N) : q ∈ Uni L N := by
  unfold Uni
  refine List.mem_flatMap.2 ⟨q.1.toNat, List.mem_range.2 h1, List.mem_map.2 ⟨q.2, h2, Prod.ext (Int.toNat_of_nonneg h0) rfl⟩⟩
def un (U : List Qn) (S : St) : Nat := (U.filter fun q => S q = 0).length
theorem un_le (U : List Qn) (S : St) : un U S ≤ U.length := List.length_filter_le _ _
/-- S' has asked at least what S has. -/
def Le (S S' : St) : Prop := ∀ q, S q ≠ 0 → S' q ≠ 0
theorem Le.refl (S : St) : Le S S := fun _ h => h
theorem Le.trans {a b c : St} (h : Le a b) (k : Le b c) : Le a c := fun q e => k q (h q e)
theorem le_set (S : St) (q : Qn) {n : Nat} (h : n ≠ 0) : Le S (S.set q n) := fun p e => by
  unfold St.set
  split <;> assumption
theorem un_mono {S S' : St} (h : Le S S') : ∀ (U : List Qn), un U S' ≤ un U S
  | [] => Nat.le_refl _
  | q :: U => by
    have ih := un_mono h U
    unfold un at *
    simp only [List.filter_cons]
    by_cases e : S' q = 0
    · have : S q = 0 := Decidable.byContradiction fun k => h q k e
      simp [e, this]
      omega
    · by_cases e2 : S q = 0 <;> simp [e, e2] <;> omega
theorem un_lt {S S' : St} (h : Le S S') {q : Qn} (h0 : S q = 0) (h1 : S' q ≠ 0) : ∀ {U : List Qn}, q ∈ U → un U S' < un U S
  | p :: U, hm => by
    have ih := un_mono h U
    unfold un at *
    simp only [List.filter_cons]
    by_cases ep : p = q
    · subst ep
      simp [h0, h1]
      omega
    · have hm' : q ∈ U := by rcases List.mem_cons.1 hm with e | e; exact absurd e.symm ep; exact e
      have ih2 := un_lt h h0 h1 hm'
      unfold un at ih2
      by_cases e : S' p = 0
      · have : S p = 0 := Decidable.byContradiction fun k => h p k e
        simp [e, this]
        omega
      · by_cases e2 : S p = 0 <;> simp [e, e2] <;> omega

theorem frG_le {ask : St → Qn → Fnd × St} (h : ∀ S q, Le S (ask S q).2) (name : ByteArray) : ∀ (l : List En) (S : St) (v : Fnd), Le S (frG ask name S l v).2
  | [], S, v => Le.refl S
  | e :: l, S, v => by
    unfold frG
    simp only []
    split
    · exact h _ _
    · exact (h _ _).trans (frG_le h name l _ _)
theorem step_le {L : List Es} {ask : St → Qn → Fnd × St} (h : ∀ S q, Le S (ask S q).2) (S : St) (q : Qn) : Le S (stepF L ask S q).2 := by
  unfold stepF
  split
  · split
    · exact Le.refl S
    · split
      · exact Le.refl S
      · split
        · exact Le.refl S
        · split
          · exact le_set _ _ (by decide)
          · exact ((le_set S q (by decide)).trans (frG_le h _ _ _ _)).trans (le_set _ _ (by decide))
  · exact Le.refl S
theorem ask_le (L : List Es) : ∀ (f : Nat) (S : St) (q : Qn), Le S (askF L f S q).2
  | 0, S, q => Le.refl S
  | f + 1, S, q => step_le (ask_le L f) S q

theorem frG_congr {a b : St → Qn → Fnd × St} {U : List Qn} {name : ByteArray} {m : Nat} (ha : ∀ S q, Le S (a S q).2) (h : ∀ S k, un U S ≤ m → a S (k, name) = b S (k, name)) : ∀ (l : List En) (S : St) (v : Fnd), un U S ≤ m → frG a name S l v = frG b name S l v
  | [], S, v, _ => rfl
  | e :: l, S, v, hS => by
    unfold frG
    rw [← h S e.mod hS]
    simp only []
    split
    · rfl
    · exact frG_congr ha h l _ _ (Nat.le_trans (un_mono (ha _ _) U) hS)
theorem first_name {L : List Es} {n0 : ByteArray} {e : Es} (he : e ∈ L) {q : Qn} (hq : q.2 ∈ Nms L n0) {l : List En} {n : ByteArray} {t : Bool} (h : first e q = .go l n t) : n ∈ Nms L n0 := by
  unfold first at h
  split at h
  · cases h
  · split at h
    · rename_i x hx
      split at h
      · cases h
      · cases h
        exact List.mem_cons_of_mem _ (List.mem_flatMap.2 ⟨e, he, List.mem_map.2 ⟨x, List.mem_of_find?_eq_some hx, rfl⟩⟩)
    · split at h
      · cases h
      · cases h; exact hq
theorem ask_enough (L : List Es) (n0 : ByteArray) : ∀ (m f f' : Nat), m < f → m < f' → ∀ (S : St) (q : Qn), un (Uni L (Nms L n0)) S ≤ m → q.2 ∈ Nms L n0 → askF L f S q = askF L f' S q := by
  intro m
  induction m with
  | zero =>
    intro f f' hf hf' S q hS hq
    obtain ⟨f, rfl⟩ : ∃ k, f = k + 1 := ⟨f - 1, by omega⟩
    obtain ⟨f', rfl⟩ : ∃ k, f' = k + 1 := ⟨f' - 1, by omega⟩
    simp only [askF]
    unfold stepF
    split
    · rename_i h0
      split
      · rfl
      · rename_i e he
        split
        · rfl
        · split
          · rfl
          · rename_i h1 h2
            have := un_lt (le_set S q (n := 1) (by decide)) (Decidable.byContradiction h2) (by rw [St.set_self]; decide) (mem_uni h0 (List.getElem?_eq_some_iff.1 he).1 hq : q ∈ Uni L (Nms L n0))
            omega
    · rfl
  | succ m ih =>
    intro f f' hf hf' S q hS hq
    obtain ⟨f, rfl⟩ : ∃ k, f = k + 1 := ⟨f - 1, by omega⟩
    obtain ⟨f', rfl⟩ : ∃ k, f' = k + 1 := ⟨f' - 1, by omega⟩
    simp only [askF]
    unfold stepF
    split
    · rename_i h0
      split
      · rfl
      · rename_i e he
        split
        · rfl
        · split
          · rfl
          · rename_i h1 h2
            have hu := un_lt (le_set S q (n := 1) (by decide)) (Decidable.byContradiction h2) (by rw [St.set_self]; decide) (mem_uni h0 (List.getElem?_eq_some_iff.1 he).1 hq : q ∈ Uni L (Nms L n0))
            split
            · rfl
            · rename_i l n t hw
              have hn := first_name (List.mem_of_getElem? he) hq hw
              rw [frG_congr (U := Uni L (Nms L n0)) (m := m) (ask_le L f) (fun S' k hS' => ih f f' (by omega) (by omega) S' (k, n) hS' hn) l _ _ (by omega)]
    · rfl
/-- fuel for every question. -/
def fuel (L : List Es) (n0 : ByteArray) : Nat := (Uni L (Nms L n0)).length + 1
def ask (L : List Es) (n0 : ByteArray) (S : St) (q : Qn) : Fnd × St := askF L (fuel L n0) S q
theorem ask_eq (L : List Es) (n0 : ByteArray) (S : St) (q : Qn) (hq : q.2 ∈ Nms L n0) : ask L n0 S q = stepF L (ask L n0) S q := by
  unfold ask
  rw [ask_enough L n0 _ (fuel L n0) (fuel L n0 + 1) (Nat.lt_succ_of_le (un_le _ S)) (by unfold fuel; have := un_le (Uni L (Nms L n0)) S; omega) S q (Nat.le_refl _) hq]
  rfl
theorem askI_le (L : List Es) (n0 : ByteArray) (S : St) (q : Qn) : Le S (ask L n0 S q).2 := ask_le L _ S q

/-- what is ambiguous is so and no more. -/
def Can (v : Fnd) : Prop := v.k = 3 → v = amb
theorem joined_can {a b : Fnd} (ha : Can a) (hb : Can b) : Can (joined a b) := by
  unfold joined
  split
  · exact ha
  · split
    · exact hb
    · split
      · intro h
        rename_i h1 h2 h3
        have : a.k = 3 := h
        simp [leads, this] at h2
      · intro _; rfl
theorem frG_can {ask : St → Qn → Fnd × St} (h : ∀ S q, Can (ask S q).1) (name : ByteArray) : ∀ (l : List En) (S : St) (v : Fnd), Can v → Can (frG ask name S l v).1
  | [], S, v, hv => hv
  | e :: l, S, v, hv => by
    unfold frG
    simp only []
    split
    · exact joined_can hv (h _ _)
    · exact frG_can h name l _ _ (joined_can hv (h _ _))
theorem first_can {e : Es} {q : Qn} {v : Fnd} (h : first e q = .val v) : Can v := by
  unfold first at h
  split at h
  · cases h; intro h; cases h
  · split at h
    · split at h
      · cases h; intro h; cases h
      · cases h
    · split at h
      · cases h; intro h; cases h
      · cases h
theorem clo_can {t : Bool} {v : Fnd} (h : Can v) : Can (clo t v) := by
  intro h3
  have h3' : v.k = 3 := h3
  rw [h h3']
  cases t <;> rfl
theorem ask_can (L : List Es) : ∀ (f : Nat) (S : St) (q : Qn), Can (askF L f S q).1
  | 0, S, q => by intro h; cases h
  | f + 1, S, q => by
    show Can (stepF L (askF L f) S q).1
    unfold stepF
    split
    · split
      · intro h; cases h
      · split
        · intro h; cases h
        · split
          · intro h; cases h
          · split
            · rename_i hv; exact first_can hv
            · exact clo_can (frG_can (ask_can L f) _ _ _ _ (by intro h; cases h))
    · intro h; cases h
theorem askI_can (L : List Es) (n0 : ByteArray) (S : St) (q : Qn) : Can (ask L n0 S q).1 := ask_can L _ S q

/-- an open question. -/
structure Fr where
  q : Qn
  left : List En
  name : ByteArray
  ty : Bool
  fd : Fnd
def handV (ask : St → Qn → Fnd × St) : St → List Fr → Fnd → Fnd
  | S, [], v => v
  | S, fr :: st, v =>
    let j := joined fr.fd v
    if j.k = 3 then j else
    let r := frG ask fr.name S fr.left j
    if r.1.k = 3 then r.1 else handV ask (r.2.set fr.q 2) st (clo fr.ty r.1)
def contV (ask : St → Qn → Fnd × St) (S : St) (fr : Fr) (st : List Fr) : Fnd :=
  let r := frG ask fr.name S fr.left fr.fd
  if r.1.k = 3 then r.1 else handV ask (r.2.set fr.q 2) st (clo fr.ty r.1)
theorem handV_cons (ask : St → Qn → Fnd × St) (S : St) (fr : Fr) (st : List Fr) (v : Fnd) : handV ask S (fr :: st) v = if (joined fr.fd v).k = 3 then joined fr.fd v else contV ask S { fr with fd := joined fr.fd v } st := rfl
/-- what it comes to. -/
def VV (ask : St → Qn → Fnd × St) (S : St) (stk : List Fr) (ans : Fnd) : Fnd := match stk with
  | [] => ans
  | fr :: st => contV ask S fr st
theorem joined_amb (a : Fnd) : joined a amb = amb := by
  unfold joined
  by_cases h : leads a = true
  · have : ¬ (a.k = 3) := fun e => by simp [leads, e] at h
    simp [h, amb, this]
  · simp only [Bool.not_eq_true] at h
    simp [h, amb]
theorem hand_amb (ask : St → Qn → Fnd × St) (S : St) : ∀ (st : List Fr), handV ask S st amb = amb
  | [] => rfl
  | fr :: st => by rw [handV_cons, joined_amb]; rfl
/-- a question is opened. -/
theorem opens {L : List Es} {n0 : ByteArray} {S : St} {q : Qn} (hq : q.2 ∈ Nms L n0) (h0 : 0 ≤ q.1) {e : Es} (he : L[q.1.toNat]? = some e) (hS : S q = 0) {left : List En} {name : ByteArray} {ty : Bool} (hf : first e q = .go left name ty) (st : List Fr) :
    contV (ask L n0) (S.set q 1) ⟨q, left, name, ty, fd0⟩ st = handV (ask L n0) (ask L n0 S q).2 st (ask L n0 S q).1 := by
  rw [ask_eq L n0 S q hq]
  unfold stepF
  rw [if_pos h0, he]
  simp only [hS, hf]
  unfold contV
  simp only [Nat.zero_ne_one, if_false, ne_eq, not_true_eq_false]
  split
  · rename_i h3
    have hc := frG_can (askI_can L n0) name left (S.set q 1) fd0 (by intro h; cases h)
    rw [hc h3]
    have : clo ty amb = amb := by cases ty <;> rfl
    rw [this, hand_amb]
  · rfl
theorem opens_val {L : List Es} {n0 : ByteArray} {S : St} {q : Qn} (hq : q.2 ∈ Nms L n0) (h0 : 0 ≤ q.1) {e : Es} (he : L[q.1.toNat]? = some e) (hS : S q = 0) {v : Fnd} (hf : first e q = .val v) : ask L n0 S q = (v, S.set q 2) := by
  rw [ask_eq L n0 S q hq]
  unfold stepF
  rw [if_pos h0, he]
  simp [hS, hf]
theorem ask_out {L : List Es} {n0 : ByteArray} {S : St} {q : Qn} (hq : q.2 ∈ Nms L n0) (h : ¬ (0 ≤ q.1 ∧ q.1 < L.length)) : ask L n0 S q = (fd0, S) := by
  rw [ask_eq L n0 S q hq]
  unfold stepF
  split
  · rw [List.getElem?_eq_none (by omega)]
  · rfl
theorem ask_open {L : List Es} {n0 : ByteArray} {S : St} {q : Qn} (hq : q.2 ∈ Nms L n0) (h0 : 0 ≤ q.1) (h1 : q.1 < L.length) (hS : S q = 1) : ask L n0 S q = (circ, S) := by
  rw [ask_eq L n0 S q hq]
  unfold stepF
  rw [if_pos h0, List.getElem?_eq_getElem (by omega)]
  simp [hS]
theorem ask_was {L : List Es} {n0 : ByteArray} {S : St} {q : Qn} (hq : q.2 ∈ Nms L n0) (h0 : 0 ≤ q.1) (h1 : q.1 < L.length) (hS : S q = 2) : ask L n0 S q = (fd0, S) := by
  rw [ask_eq L n0 S q hq]
  unfold stepF
  rw [if_pos h0, List.getElem?_eq_getElem (by omega)]
  simp [hS]
/-- the next of what is left is asked. -/
theorem cont_next (ask : St → Qn → Fnd × St) (S : St) (q : Qn) (e : En) (l : List En) (name : ByteArray) (ty : Bool) (fd : Fnd) (st : List Fr) :
    contV ask S ⟨q, e :: l, name, ty, fd⟩ st = handV ask (ask S (e.mod, name)).2 (⟨q, l, name, ty, fd⟩ :: st) (ask S (e.mod, name)).1 := by
  rw [handV_cons]
  unfold contV
  simp only [frG]
  by_cases h : (joined fd (ask S (e.mod, name)).1).k = 3
  · simp [h]
  · simp [h]
theorem cont_end (ask : St → Qn → Fnd × St) (S : St) (q : Qn) (name : ByteArray) (ty : Bool) (fd : Fnd) (h : fd.k ≠ 3) (st : List Fr) :
    contV ask S ⟨q, [], name, ty, fd⟩ st = handV ask (S.set q 2) st (clo ty fd) := by
  unfold contV
  simp [frG, h]
/-- how much is left to do. -/
def lefts (stk : List Fr) : Nat := (stk.map fun fr => fr.left.length + 1).sum
def mu (U : List Qn) (M : Nat) (S : St) (stk : List Fr) : Nat := un U S * M + lefts stk
end Xp
end Go.Proofs.YtadkmlcnmkdfiaaGreatDoor
namespace Go.Proofs.YtadkmlcnmkdfiaaGreatDoor
open Go.RowKit Go.Maps Go.ChangeMaps
set_option linter.unusedVariables false
set_option linter.unusedSimpArgs false

/-- keys that are compared at once. -/
structure KeyOk {κ : Type} (P : Program) (t : TypeId) (ek : κ → Value) (G : κ → Prop) : Prop where
  inj : ∀ {a b : κ}, ek a = ek b → a = b
  check : ∀ (w : World) (em : Bool) {k : κ}, G k → (Instr.checkKey em 10000 t (ek k)).run P w = .ok () w
  find : ∀ (w : World) {x : κ}, G x → ∀ es : List MapEntry, (∀ e ∈ es, ∃ k, G k ∧ e.key = ek k) → ((Instr.findKey t (ek x) es).run P w = .ok none w ∧ ∀ e ∈ es, e.key ≠ ek x) ∨ ∃ j e, (Instr.findKey t (ek x) es).run P w = .ok (some (j, e.val)) w ∧ es[j]? = some e ∧ e.key = ek x
  stays : ∀ (w : World) {k : κ}, G k → (Instr.keyThatStays (ek k) (ek k)).run P w = .ok (ek k) w
theorem KeyOk.of {κ : Type} {P : Program} {t : TypeId} (K : Keyed P t) {ek : κ → Value} {G : κ → Prop} (hi : ∀ {a b : κ}, ek a = ek b → a = b) (h : ∀ k, G k → ∃ l, keyOf P t (ek k) = some l) : KeyOk P t ek G where
  inj := hi
  check w em k hk := by obtain ⟨l, hl⟩ := h k hk; exact K.check w em hl
  find w x hx es hes := by
    obtain ⟨l, hl⟩ := h x hx
    exact K.find w hl es fun e he => by obtain ⟨k, hk, e1⟩ := hes e he; rw [e1]; exact h k hk
  stays w k hk := by obtain ⟨l, hl⟩ := h k hk; exact K.stays w hl

/-- block b is a map of at most n entries, and under k stands f k. -/
def MF {κ υ : Type} (G : κ → Prop) (ek : κ → Value) (ev : υ → Value) (w : World) (b n : Nat) (f : κ → Option υ) : Prop :=
  ∃ es clock, w.heap[b]? = some (.map es clock) ∧ es.size ≤ n ∧ (∀ e ∈ es.toList, ∃ k v, G k ∧ e.key = ek k ∧ e.val = ev v ∧ f k = some v) ∧ (∀ k v, f k = some v → ∃ e ∈ es.toList, e.key = ek k ∧ e.val = ev v) ∧ es.toList.Pairwise (fun x y => x.key ≠ y.key)
section
variable {κ υ : Type} {G : κ → Prop} {ek : κ → Value} {ev : υ → Value} {w w' : World} {b n : Nat} {f : κ → Option υ} {P : Program} {t tk te : TypeId}
theorem MF.keep (h : MF G ek ev w b n f) (e : w'.heap[b]? = w.heap[b]?) : MF G ek ev w' b n f := by
  obtain ⟨es, clock, hb, r⟩ := h
  exact ⟨es, clock, e.trans hb, r⟩
theorem MF.lt (h : MF G ek ev w b n f) : b < w.heap.size := by
  obtain ⟨es, clock, hb, r⟩ := h
  exact (Array.getElem?_eq_some_iff.1 hb).1
theorem MF.nil (w : World) : MF G ek ev (w.alloc (.map #[] 0)) w.heap.size 0 (fun _ => none) :=
  ⟨#[], 0, heap_alloc_new w _, Nat.le_refl _, by simp, by simp, by simp⟩
theorem MF.mono (h : MF G ek ev w b n f) {m : Nat} (hm : n ≤ m) : MF G ek ev w b m f := by
  obtain ⟨es, clock, hb, hs, r⟩ := h
  exact ⟨es, clock, hb, Nat.le_trans hs hm, r⟩
theorem MF.look (h : MF G ek ev w b n f) (K : KeyOk P tk ek G) (ht : P.underlying t = some (.map tk te)) {z : Value} (hz : (zeroValue te).run P w = .ok z w) (k : κ) (hk : G k) (c : Bool) :
    (Instr.lookup t (.map (some b)) (ek k) c).run P w = .ok (if c then .tuple #[((f k).map ev).getD z, .bool (f k).isSome] else ((f k).map ev).getD z) w := by
  obtain ⟨es, clock, hb, hs, h1, h2, h3⟩ := h
  rcases K.find w hk es.toList (fun e he => by obtain ⟨k', v, a, b, _⟩ := h1 e he; exact ⟨k', a, b⟩) with ⟨r1, r2⟩ | ⟨j, e0, r1, r2, r3⟩
  · have hf : f k = none := by
      cases hfk : f k with
      | none => rfl
      | some v =>
        obtain ⟨e, he, ee, _⟩ := h2 k v hfk
        exact absurd ee (r2 e he)
    rw [hf]
    simp [Instr.lookup, run_underlying ht, MapKept.run_getObj_map hb, K.check w _ hk, r1, hz, Result.andThen]
  · have hm0 : e0 ∈ es.toList := List.mem_of_getElem? r2
    obtain ⟨k', v, _, e1, e2, e3⟩ := h1 e0 hm0
    have : k' = k := K.inj (e1.symm.trans r3)
    subst this
    rw [e3]
    simp [Instr.lookup, run_underlying ht, MapKept.run_getObj_map hb, K.check w _ hk, r1, Result.andThen, e2]
/-- an element more. -/
def upd [DecidableEq κ] (f : κ → Option υ) (k : κ) (v : υ) : κ → Option υ := fun x => if x = k then some v else f x
theorem pairwise_set {l : List MapEntry} (h : l.Pairwise (fun x y => x.key ≠ y.key)) {j : Nat} {e0 e1 : MapEntry} (h2 : l[j]? = some e0) (hk : e1.key = e0.key) : (l.set j e1).Pairwise (fun x y => x.key ≠ y.key) := by
  have hm : (l.set j e1).map (·.key) = l.map (·.key) := by
    apply List.ext_getElem?
    intro i
    rw [List.getElem?_map, List.getElem?_map, List.getElem?_set]
    split
    · subst_vars
      have hj := (List.getElem?_eq_some_iff.1 h2).1
      simp [h2, hk, hj]
      have := (List.getElem?_eq_some_iff.1 h2).2
      rw [this]
    · rfl
  have h' : (l.map (·.key)).Pairwise (· ≠ ·) := List.pairwise_map.2 h
  rw [← hm] at h'
  exact List.pairwise_map.1 h'
theorem MF.update [DecidableEq κ] (h : MF G ek ev w b n f) (K : KeyOk P tk ek G) (ht : P.underlying t = some (.map tk te)) (k : κ) (hk : G k) (v : υ) :
    ∃ w', (Instr.mapUpdate t (.map (some b)) (ek k) (ev v)).run P w = .ok () w' ∧ MF G ek ev w' b (n + 1) (upd f k v) ∧ w.grownBy w' (some b) := by
  obtain ⟨es, clock, hb, hs, h1, h2, h3⟩ := h
  have gr : ∀ o, w.grownBy (setBlock w b o) (some b) := fun o => ⟨rfl, rfl, rfl, by simp [setBlock], fun i _ hi => heap_setBlock_other hb _ (fun e => hi (by rw [e]))⟩
  rcases K.find w hk es.toList (fun e he => by obtain ⟨k', v, a, b, _⟩ := h1 e he; exact ⟨k', a, b⟩) with ⟨r1, r2⟩ | ⟨j, e0, r1, r2, r3⟩
  · refine ⟨setBlock w b (.map (es.push ⟨ek k, ev v, clock⟩) (clock + 1)), ?_, ⟨_, _, heap_setBlock_same hb _, by simp; omega, ?_, ?_, ?_⟩, gr _⟩
    · simp [Instr.mapUpdate, run_underlying ht, MapKept.run_getObj_map hb, K.check w false hk, r1, MapKept.run_setObj_map _ hb, Result.andThen, setBlock]
    · intro e he
      simp only [Array.toList_push, List.mem_append, List.mem_singleton] at he
      rcases he with he | rfl
      · obtain ⟨k', v', a, b, c, d⟩ := h1 e he
        refine ⟨k', v', a, b, c, ?_⟩
        unfold upd
        rw [if_neg (fun e' => r2 e he (by rw [b, e'])), d]
      · exact ⟨k, v, hk, rfl, rfl, by simp [upd]⟩
    · intro k' v' hf
      unfold upd at hf
      simp only [Array.toList_push, List.mem_append, List.mem_singleton]
      split at hf
      · rename_i e; subst e
        cases hf
        exact ⟨_, Or.inr rfl, rfl, rfl⟩
      · obtain ⟨e, he, r⟩ := h2 k' v' hf
        exact ⟨e, Or.inl he, r⟩
    · simp only [Array.toList_push]
      refine List.pairwise_append.2 ⟨h3, by simp, fun x hx y hy => ?_⟩
      simp only [List.mem_singleton] at hy
      subst hy
      exact r2 x hx
  · have hj : es[j]? = some e0 := by simpa using r2
    have hjl : j < es.toList.length := (List.getElem?_eq_some_iff.1 r2).1
    have hlist : (es.modify j (fun e' => { e' with key := ek k, val := ev v })).toList = es.toList.set j { e0 with key := ek k, val := ev v } := by rw [Array.toList_modify, modify_eq_set _ _ _ _ r2]
    refine ⟨setBlock w b (.map (es.modify j (fun e' => { e' with key := ek k, val := ev v })) clock), ?_, ⟨_, _, heap_setBlock_same hb _, by simp; omega, ?_, ?_, ?_⟩, gr _⟩
    · simp [Instr.mapUpdate, run_underlying ht, MapKept.run_getObj_map hb, K.check w false hk, r1, hj, r3, K.stays w hk, MapKept.run_setObj_map _ hb, Result.andThen, setBlock]
    · intro e he
      rw [hlist] at he
      obtain ⟨i, hi, ex⟩ := List.getElem_of_mem he
      rw [List.getElem_set] at ex
      split at ex
      · subst ex
        exact ⟨k, v, hk, rfl, rfl, by simp [upd]⟩
      · rename_i hne
        have hi' : i < es.toList.length := by simpa using hi
        have hm : e ∈ es.toList := ex ▸ List.getElem_mem hi'
        obtain ⟨k', v', a, b, c, d⟩ := h1 e hm
        refine ⟨k', v', a, b, c, ?_⟩
        unfold upd
        rw [if_neg (fun e' => ?_), d]
        have hp := List.pairwise_iff_getElem.1 h3
        have ej : es.toList[j] = e0 := (List.getElem?_eq_some_iff.1 r2).2
        have hk1 : e.key = e0.key := by rw [b, e', r3]
        rcases Nat.lt_or_gt_of_ne hne with hlt | hlt
        · exact hp j i hjl hi' hlt (by rw [ej, ex, hk1])
        · exact hp i j hi' hjl hlt (by rw [ej, ex, hk1])
    · intro k' v' hf
      rw [hlist]
      unfold upd at hf
      split at hf
      · rename_i e; subst e
        cases hf
        exact ⟨{ e0 with key := ek k', val := ev v }, List.mem_iff_getElem.2 ⟨j, by simpa using hjl, by simp⟩, rfl, rfl⟩
      · rename_i hne
        obtain ⟨e, he, r⟩ := h2 k' v' hf
        obtain ⟨i, hi, ex⟩ := List.getElem_of_mem he
        refine ⟨e, List.mem_iff_getElem.2 ⟨i, by simpa using hi, ?_⟩, r⟩
        rw [List.getElem_set]
        split
        · rename_i e; subst e
          have ej : es.toList[j] = e0 := (List.getElem?_eq_some_iff.1 r2).2
          exact absurd (K.inj (r.1.symm.trans ((by rw [← ex, ej] : e.key = e0.key).trans r3))) hne
        · exact ex
    · rw [hlist]
      exact pairwise_set h3 r2 (by simp [r3])
theorem wpList_mf [DecidableEq κ] (w : World) {ops : Array Oper} {rest : List Oper} {o : Oper} {a : Act} {Q : Exit → Act → World → Prop}
    (hg : o.guard = none) (m x v : Operand) (t : TypeId) (hop : o.op = Op.mapUpdate t m x v) {tk te : TypeId} (K : KeyOk P tk ek G) (ht : P.underlying t = some (.map tk te)) (b n : Nat) (f : κ → Option υ)
    (hm : a.eval m = .map (some b)) (hown : MF G ek ev w b n f) (k : κ) (hk : G k) (y : υ) (hx : a.eval x = ek k) (hv : a.eval v = ev y)
    (hK : ∀ w', MF G ek ev w' b (n + 1) (upd f k y) → w.grownBy w' (some b) → wpList P ops Q rest (a.put o.dst undef) w') :
    wpList P ops Q (o :: rest) a w := by
  refine wpList_plain hg fun K' hK' => ?_
  obtain ⟨w', hrun, r1, r2⟩ := hown.update K ht k hk y
  unfold Oper.wp
  simp [execOp, hop, hm, hx, hv, hrun, Result.andThen]
  exact hK' _ _ (hK w' r1 r2)
end
end Go.Proofs.YtadkmlcnmkdfiaaGreatDoor
namespace Go.Proofs.YtadkmlcnmkdfiaaGreatDoor
open Go.RowKit Xp
set_option linter.unusedVariables false
set_option linter.unusedSimpArgs false

/-- things of k cells in a row, below block B. -/
structure RowAt (w : World) (B : Nat) (v : Value) (k : Nat) (X : List (List Value)) : Prop where
  f : ∃ ad c, v = .slice ad X.length c
  c : 0 < X.length → ∃ b o c, v = .slice (some ⟨b, o, none⟩) X.length c ∧ b < B ∧ ∀ i (h : i < X.length) j u, X[i][j]? = some u → w.cell? ⟨b, o + i * k + j, none⟩ = some u
  cp : ∀ ad n c, v = .slice ad n c → n ≤ c
theorem RowAt.bel {w w' : World} {B : Nat} {v : Value} {k : Nat} {X : List (List Value)} (h : RowAt w B v k X) (b : Below B w w') : RowAt w' B v k X :=
  ⟨h.f, fun h0 => by
    obtain ⟨b', o, c, e, hb, hc⟩ := h.c h0
    exact ⟨b', o, c, e, hb, fun i hi j u hu => (World.cell?_of_block (a := ⟨b', o + i * k + j, none⟩) (b.block b' hb)).trans (hc i hi j u hu)⟩, h.cp⟩
theorem RowAt.mono {w : World} {B B' : Nat} {v : Value} {k : Nat} {X : List (List Value)} (h : RowAt w B v k X) (b : B ≤ B') : RowAt w B' v k X :=
  ⟨h.f, fun h0 => by
    obtain ⟨b', o, c, e, hb, hc⟩ := h.c h0
    exact ⟨b', o, c, e, Nat.lt_of_lt_of_le hb b, hc⟩, h.cp⟩
def Xp.En.cs (e : En) : List Value := [.string e.here, .string e.there, .int .i64 e.mod, .bool e.ty, .int .i64 e.item]
abbrev EnAt (w : World) (B : Nat) (v : Value) (l : List En) : Prop := RowAt w B v 5 (l.map En.cs)
theorem EnAt.op {w : World} {B : Nat} {v : Value} {l : List En} (h : EnAt w B v l) : ∃ ad c, v = .slice ad l.length c := by
  obtain ⟨ad, c, e⟩ := h.f
  exact ⟨ad, c, by rw [e, List.length_map]⟩
theorem EnAt.cl {w : World} {B : Nat} {v : Value} {l : List En} (h : EnAt w B v l) (h0 : 0 < l.length) : ∃ b o c, v = .slice (some ⟨b, o, none⟩) l.length c ∧ b < B ∧ ∀ i (hi : i < l.length), w.cell? ⟨b, o + i * 5, none⟩ = some (.string l[i].here) ∧ w.cell? ⟨b, o + i * 5 + 1, none⟩ = some (.string l[i].there) ∧ w.cell? ⟨b, o + i * 5 + 2, none⟩ = some (.int .i64 l[i].mod) ∧ w.cell? ⟨b, o + i * 5 + 3, none⟩ = some (.bool l[i].ty) ∧ w.cell? ⟨b, o + i * 5 + 4, none⟩ = some (.int .i64 l[i].item) := by
  obtain ⟨b, o, c, e, hb, hc⟩ := h.c (by rw [List.length_map]; exact h0)
  refine ⟨b, o, c, by rw [e, List.length_map], hb, fun i hi => ?_⟩
  have hi' : i < (l.map En.cs).length := by rw [List.length_map]; exact hi
  have e : (l.map En.cs)[i] = l[i].cs := by simp
  have k := hc i hi'
  rw [e] at k
  exact ⟨k 0 _ rfl, k 1 _ rfl, k 2 _ rfl, k 3 _ rfl, k 4 _ rfl⟩
theorem EnAt.one {w : World} {B b o c : Nat} {l : List En} (h : EnAt w B (.slice (some ⟨b, o, none⟩) l.length c) l) {i : Nat} (hi : i < l.length) : EnAt w B (.slice (some ⟨b, o + i * 5, none⟩) 1 (c - i)) [l[i]] := by
  have hc := h.cp _ _ _ rfl
  obtain ⟨b', o', c', e, hb, hf⟩ := h.c (by rw [List.length_map]; omega)
  simp only [Value.slice.injEq, Option.some.injEq, Addr.mk.injEq] at e
  obtain ⟨⟨rfl, rfl, _⟩, _, rfl⟩ := e
  refine ⟨⟨_, _, rfl⟩, fun _ => ⟨b, o + i * 5, c - i, rfl, hb, fun j hj k u hu => ?_⟩, fun ad n c2 e => by cases e; omega⟩
  have hj0 : j = 0 := by simp at hj; exact hj
  subst hj0
  have := hf i (by rw [List.length_map]; exact hi) k u (by simpa using hu)
  simpa using this
theorem EnAt.tail {w : World} {B b o c : Nat} {x : En} {l : List En} (h : EnAt w B (.slice (some ⟨b, o, none⟩) (l.length + 1) c) (x :: l)) : EnAt w B (.slice (if c = 1 then some ⟨b, o, none⟩ else some ⟨b, o + 5, none⟩) l.length (c - 1)) l := by
  have hc := h.cp _ _ _ rfl
  obtain ⟨b', o', c', e, hb, hf⟩ := h.c (by simp)
  simp only [Value.slice.injEq, Option.some.injEq, Addr.mk.injEq] at e
  obtain ⟨⟨rfl, rfl, _⟩, _, rfl⟩ := e
  refine ⟨⟨_, _, by rw [List.length_map]⟩, fun h0 => ?_, fun ad n c2 e => by cases e; omega⟩
  rw [List.length_map] at h0
  rw [if_neg (by omega)]
  refine ⟨b, o + 5, c - 1, by rw [List.length_map], hb, fun j hj k u hu => ?_⟩
  have hj' : j < l.length := by rwa [List.length_map] at hj
  have := hf (j + 1) (by simp; exact hj') k u (by simpa using hu)
  rw [show o + 5 + j * 5 + k = o + (j + 1) * 5 + k by omega]
  exact this
/-- modules' entries. -/
structure MsAt (w : World) (B : Nat) (v : Value) (L : List Es) : Prop where
  h : ∃ X : List (List Value), X.length = L.length ∧ RowAt w B v 4 X ∧ ∀ i (h : i < L.length) (h' : i < X.length), ∃ a b c d, X[i] = [a, b, c, d] ∧ EnAt w B a L[i].imp ∧ EnAt w B b L[i].own ∧ EnAt w B c L[i].oth ∧ EnAt w B d L[i].st
theorem MsAt.bel {w w' : World} {B : Nat} {v : Value} {L : List Es} (h : MsAt w B v L) (b : Below B w w') : MsAt w' B v L := by
  obtain ⟨X, h1, h2, h3⟩ := h.h
  refine ⟨X, h1, h2.bel b, fun i hi hi' => ?_⟩
  obtain ⟨a, b', c, d, e, k1, k2, k3, k4⟩ := h3 i hi hi'
  exact ⟨a, b', c, d, e, k1.bel b, k2.bel b, k3.bel b, k4.bel b⟩
theorem MsAt.mono {w : World} {B B' : Nat} {v : Value} {L : List Es} (h : MsAt w B v L) (b : B ≤ B') : MsAt w B' v L := by
  obtain ⟨X, h1, h2, h3⟩ := h.h
  refine ⟨X, h1, h2.mono b, fun i hi hi' => ?_⟩
  obtain ⟨a, b', c, d, e, k1, k2, k3, k4⟩ := h3 i hi hi'
  exact ⟨a, b', c, d, e, k1.mono b, k2.mono b, k3.mono b, k4.mono b⟩
theorem MsAt.op {w : World} {B : Nat} {v : Value} {L : List Es} (h : MsAt w B v L) : ∃ ad c, v = .slice ad L.length c := by
  obtain ⟨X, h1, h2, h3⟩ := h.h
  obtain ⟨ad, c, e⟩ := h2.f
  exact ⟨ad, c, by rw [e, h1]⟩
/-- where a module lies. -/
structure MdAt (w : World) (B : Nat) (b o : Nat) (e : Es) (v0 v1 v2 v3 : Value) : Prop where
  c0 : w.cell? ⟨b, o, none⟩ = some v0
  c1 : w.cell? ⟨b, o + 1, none⟩ = some v1
  c2 : w.cell? ⟨b, o + 2, none⟩ = some v2
  c3 : w.cell? ⟨b, o + 3, none⟩ = some v3
  a0 : EnAt w B v0 e.imp
  a1 : EnAt w B v1 e.own
  a2 : EnAt w B v2 e.oth
  a3 : EnAt w B v3 e.st
theorem MsAt.cl {w : World} {B : Nat} {v : Value} {L : List Es} (h : MsAt w B v L) (h0 : 0 < L.length) : ∃ b o c, v = .slice (some ⟨b, o, none⟩) L.length c ∧ b < B ∧ ∀ i (hi : i < L.length), ∃ v0 v1 v2 v3, MdAt w B b (o + i * 4) L[i] v0 v1 v2 v3 := by
  obtain ⟨X, h1, h2, h3⟩ := h.h
  obtain ⟨b, o, c, e, hb, hc⟩ := h2.c (by omega)
  refine ⟨b, o, c, by rw [e, h1], hb, fun i hi => ?_⟩
  obtain ⟨a, b', c', d, e, k1, k2, k3, k4⟩ := h3 i hi (by omega)
  have k := hc i (by omega)
  rw [e] at k
  exact ⟨a, b', c', d, k 0 _ rfl, k 1 _ rfl, k 2 _ rfl, k 3 _ rfl, k1, k2, k3, k4⟩

def Xp.Fnd.v (f : Fnd) : Value := .agg #[.int .i64 f.k, .int .i64 f.mod, .string f.name, .bool f.ty]
set_option maxRecDepth 100000 in
set_option maxHeartbeats 4000000 in
theorem leads_any (w : World) (f : Fnd) : Calls Tryz.prog 40 #[.agg #[.int .i64 f.k, .int .i64 f.mod, .string f.name, .bool f.ty]] w fun e w' => e = .returned (.bool (leads f)) ∧ Below w.heap.size w w' := by
  unfold leads
  by_cases h1 : f.k = 1
  · have h1' : (f.k == 1) = true := by simp [h1]
    clear h1
    go_enter Tryz.func40, Tryz.ntmps40
    go_wp2
    go_ret
    exact ⟨by simp_all, (Below.refl _ _).alloc (Nat.le_refl _) _⟩
  · have h1' : (f.k == 1) = false := by simp [h1]
    go_enter Tryz.func40, Tryz.ntmps40
    go_wp2
    go_ret
    exact ⟨by simp_all, (Below.refl _ _).alloc (Nat.le_refl _) _⟩
/-- which entry gives a name: of its own, or of others', and its number. -/
def plc (e : Es) (n : ByteArray) : Option (Bool × Nat) := match e.own.findIdx? (fun x => x.there == n) with
  | some i => some (true, i)
  | none => match e.oth.findIdx? (fun x => x.here == n) with
    | some i => some (false, i)
    | none => none
def pv (p : Bool × Nat) : Value := .agg #[.bool p.1, .int .i64 (p.2 : Nat)]
theorem t4 {w : World} {b : Nat} {p q r s : Value} {t : TypeId} (h : w.heap[b]? = some (.cells #[p, q, r, s] t (0, 0))) :
    (w.cell? ⟨b, 0, none⟩ = some p ∧ w.cell? ⟨b, 1, none⟩ = some q ∧ w.cell? ⟨b, 2, none⟩ = some r ∧ w.cell? ⟨b, 3, none⟩ = some s) ∧ (w.frozen? ⟨b, 0, none⟩ = false ∧ w.frozen? ⟨b, 1, none⟩ = false ∧ w.frozen? ⟨b, 2, none⟩ = false ∧ w.frozen? ⟨b, 3, none⟩ = false) := by
  simp [World.cell?, World.frozen?, h]
theorem t4_set {w : World} {b : Nat} {p q r s : Value} {t : TypeId} {fr : Nat × Nat} (p' q' r' s' : Value) (h : w.heap[b]? = some (.cells #[p, q, r, s] t fr)) :
    ((((w.setCell ⟨b, 0, none⟩ p').setCell ⟨b, 1, none⟩ q').setCell ⟨b, 2, none⟩ r').setCell ⟨b, 3, none⟩ s').heap[b]? = some (.cells #[p', q', r', s'] t fr) := by
  simp [World.setCell, Array.getElem?_modify, h]
theorem t4_set3 {w : World} {b : Nat} {p q r s : Value} {t : TypeId} {fr : Nat × Nat} (s' : Value) (h : w.heap[b]? = some (.cells #[p, q, r, s] t fr)) :
    (w.setCell ⟨b, 3, none⟩ s').heap[b]? = some (.cells #[p, q, r, s'] t fr) := by
  simp [World.setCell, Array.getElem?_modify, h]
theorem hnewX {w : World} (o : Obj) {k : Nat} (h : k = w.heap.size) : (w.alloc o).heap[k]? = some o := by subst h; exact heap_alloc_new w o
theorem res_f4 {fn : Func} {p : Nat} (h : fn.results = #[.cell p 41]) {W : World} {n : Nat} {a b c d : Value} {t : TypeId} {tmps : Array Value} (hb : W.heap[n]? = some (.cells #[a, b, c, d] t (0, 0))) (ht : tmps[p]?.getD undef = .pointer (some ⟨n, 0, none⟩)) :
    (results fn tmps).run Tryz.prog W = .ok (.agg #[a, b, c, d]) W := by
  obtain ⟨⟨c0, c1, c2, c3⟩, _⟩ := t4 hb
  simp [results, h, go_sem, ht, c0, c1, c2, c3]
theorem fd_struct : Tryz.prog.underlying 41 = some (.struct (Tryz.prog.fieldsOf 41)) := by kernel_rfl
theorem fd_fields : (Tryz.prog.fieldsOf 41).toList = [{ name := "Kind", type := 3, offset := 0, embedded := false, tag := "", pkgPath := "", byteOffset := 0 }, { name := "Mod", type := 3, offset := 1, embedded := false, tag := "", pkgPath := "", byteOffset := 8 }, { name := "Name", type := 9, offset := 2, embedded := false, tag := "", pkgPath := "", byteOffset := 16 }, { name := "Type", type := 4, offset := 3, embedded := false, tag := "", pkgPath := "", byteOffset := 32 }] := by kernel_rfl
theorem fd_held : Tryz.prog.stoodInHeld 41 = false := by kernel_rfl
theorem fd_guard : Tryz.prog.eqGuardType Tryz.prog.depth 41 = false := by kernel_rfl
theorem fd_neq (W : World) (a b : Fnd) : (binOp .neq 41 (.agg #[.int .i64 a.k, .int .i64 a.mod, .string a.name, .bool a.ty]) (.agg #[.int .i64 b.k, .int .i64 b.mod, .string b.name, .bool b.ty])).run Tryz.prog W = .ok (.bool (!(a.k == b.k && a.mod == b.mod && a.name == b.name && a.ty == b.ty))) W := by
  have a3 := Tryz.isAgg3
  have a9 := Tryz.isAgg9
  have a4 := Tryz.isAgg4
  rw [run_neq_struct, run_equalIn_struct W 9999 _ _ _ fd_struct fd_held, fd_fields]
  have u3 := Tryz.underlying3
  have u9 := Tryz.underlying9
  have u4 := Tryz.underlying4
  rw [beq_toListBytes]
  cases e1 : (a.k == b.k) <;> cases e2 : (a.mod == b.mod) <;> cases e3 : (a.name.toList == b.name.toList) <;> cases e4 : (a.ty == b.ty) <;> simp [Op.eqFields, go_sem, a3, a9, a4, u3, u9, u4, e1, e2, e3, e4]
end Go.Proofs.YtadkmlcnmkdfiaaGreatDoor
namespace Go.Proofs.YtadkmlcnmkdfiaaGreatDoor
open Go.RowKit Xp Go.MapKept
set_option linter.unusedVariables false
set_option linter.unusedSimpArgs false

theorem keyOk_plain {κ : Type} {P : Program} {t : TypeId} {d : TypeDesc} (hd : P.underlying t = some d) {ek : κ → Value} (hi : ∀ {a b : κ}, ek a = ek b → a = b) (h : ∀ k, IsKey d (ek k)) : KeyOk P t ek (fun _ => True) where
  inj := hi
  check w em k _ := run_checkKey hd (h k) em 9999
  find w x _ es hes := by
    have hks : ∀ y ∈ es, IsKey d y.key := fun y hy => by
      obtain ⟨k, _, e⟩ := hes y hy
      rw [e]; exact h k
    rcases findNow_spec (h x) es 0 hks with ⟨h1, h2⟩ | ⟨j, e0, h1, h2, h3⟩
    · exact Or.inl ⟨run_findKey hd h1, h2⟩
    · exact Or.inr ⟨j, e0, by simpa using run_findKey hd h1, h2, h3⟩
  stays w k _ := run_keyThatStays (h k)
theorem keyI : KeyOk Tryz.prog 3 (fun k : Int => .int .i64 k) (fun _ => True) := keyOk_plain Tryz.underlying3 (fun h => by injection h) (fun k => rfl)
theorem keyTX : KeyOk Tryz.prog 9 (fun k : ByteArray => .string k) (fun _ => True) := keyOk_plain Tryz.underlying9 (fun h => by injection h) (fun k => trivial)
def qv (q : Qn) : Value := .agg #[.int .i64 q.1, .string q.2]
theorem q_struct : Tryz.prog.underlying 69 = some (.struct (Tryz.prog.fieldsOf 69)) := by kernel_rfl
theorem q_fields : (Tryz.prog.fieldsOf 69).toList = [{ name := "mod", type := 3, offset := 0, embedded := false, tag := "", pkgPath := "gusset/exports", byteOffset := 0 }, { name := "name", type := 9, offset := 1, embedded := false, tag := "", pkgPath := "gusset/exports", byteOffset := 8 }] := by kernel_rfl
theorem q_under : Tryz.prog.underlying 69 = some (.struct #[{ name := "mod", type := 3, offset := 0, embedded := false, tag := "", pkgPath := "gusset/exports", byteOffset := 0 }, { name := "name", type := 9, offset := 1, embedded := false, tag := "", pkgPath := "gusset/exports", byteOffset := 8 }]) := by kernel_rfl
theorem q_held : Tryz.prog.stoodInHeld 69 = false := by kernel_rfl
theorem q_eq (W : World) (p q : Qn) : (Op.equal 69 (qv p) (qv q)).run Tryz.prog W = .ok (decide (p = q)) W := by
  have a3 := Tryz.isAgg3
  have a9 := Tryz.isAgg9
  have u3 := Tryz.underlying3
  have u9 := Tryz.underlying9
  unfold qv Op.equal
  rw [show Op.maxDepth = 9999 + 1 from rfl, run_equalIn_struct W 9999 _ _ _ q_struct q_held, q_fields]
  have e : decide (p = q) = (p.1 == q.1 && p.2.toList == q.2.toList) := by
    rw [← beq_toListBytes, ba_eq, Bool.eq_iff_iff]
    obtain ⟨a, b⟩ := p
    obtain ⟨c, d⟩ := q
    simp
  rw [e]
  cases e1 : (p.1 == q.1) <;> cases e2 : (p.2.toList == q.2.toList) <;> simp [Op.eqFields, go_sem, a3, a9, u3, u9, e1, e2]
theorem findAsk (W : World) (x : Qn) : ∀ (es : List MapEntry) (i : Nat), (∀ e ∈ es, ∃ k, e.key = qv k) → ((Instr.findAsking 69 (qv x) es i).run Tryz.prog W = .ok none W ∧ ∀ e ∈ es, e.key ≠ qv x) ∨ ∃ j e, (Instr.findAsking 69 (qv x) es i).run Tryz.prog W = .ok (some (i + j, e.val)) W ∧ es[j]? = some e ∧ e.key = qv x
  | [], i, _ => Or.inl ⟨by simp [Instr.findAsking], by simp⟩
  | e :: es, i, h => by
    obtain ⟨k, hk⟩ := h e (by simp)
    by_cases q : x = k
    · subst q
      exact Or.inr ⟨0, e, by simp [Instr.findAsking, hk, q_eq, Result.andThen], rfl, hk⟩
    · have r : (Instr.findAsking 69 (qv x) (e :: es) i).run Tryz.prog W = (Instr.findAsking 69 (qv x) es (i + 1)).run Tryz.prog W := by
        simp [Instr.findAsking, hk, q_eq, Result.andThen, q]
      rw [r]
      rcases findAsk W x es (i + 1) (fun e' he => h e' (by simp [he])) with ⟨h1, h2⟩ | ⟨j, e0, h1, h2, h3⟩
      · refine Or.inl ⟨h1, fun e' he => ?_⟩
        rcases List.mem_cons.1 he with rfl | he
        · rw [hk]
          intro e2
          unfold qv at e2
          simp only [Value.agg.injEq, Array.mk.injEq, List.cons.injEq, Value.int.injEq, Value.string.injEq, true_and, and_true] at e2
          exact q (Prod.ext e2.1.symm e2.2.symm)
        · exact h2 e' he
      · exact Or.inr ⟨j + 1, e0, by rw [h1, show i + 1 + j = i + (j + 1) by omega], by simpa using h2, h3⟩
theorem keyQ : KeyOk Tryz.prog 69 qv (fun _ => True) where
  inj := fun {a b} e2 => by
    unfold qv at e2
    simp only [Value.agg.injEq, Array.mk.injEq, List.cons.injEq, Value.int.injEq, Value.string.injEq, true_and, and_true] at e2
    exact Prod.ext e2.1 e2.2
  check w em k _ := by
    have a3 := Tryz.isAgg3
    have a9 := Tryz.isAgg9
    have u3 := Tryz.underlying3
    have u9 := Tryz.underlying9
    have k1 : ∀ (W : World) (z : Int), (Instr.checkKey em 9999 3 (.int .i64 z)).run Tryz.prog W = .ok () W := fun W z => run_checkKey u3 (k := .int .i64 z) rfl em 9998
    have k2 : ∀ (W : World) (z : ByteArray), (Instr.checkKey em 9999 9 (.string z)).run Tryz.prog W = .ok () W := fun W z => run_checkKey u9 (k := .string z) trivial em 9998
    unfold qv
    rw [show (10000 : Nat) = 9999 + 1 from rfl]
    unfold Instr.checkKey
    simp only [Sem.run_bind, run_underlying q_under, Result.andThen]
    generalize (9999 : Nat) = N at *
    simp [go_sem, a3, a9, k1, k2]
  find w x _ es hes := by
    cases es with
    | nil => exact Or.inl ⟨by simp [Instr.findKey, run_underlying q_under, Result.andThen, Instr.findNow], by simp⟩
    | cons e es =>
      have r : (Instr.findKey 69 (qv x) (e :: es)).run Tryz.prog w = (Instr.findAsking 69 (qv x) (e :: es) 0).run Tryz.prog w := by
        obtain ⟨k, _, hk⟩ := hes e (by simp)
        simp [Instr.findKey, run_underlying q_under, Result.andThen, Instr.findNow, hk, qv, Instr.sameNow]
      rw [r]
      rcases findAsk w x (e :: es) 0 (fun e' he => by obtain ⟨k, _, hk⟩ := hes e' he; exact ⟨k, hk⟩) with h | ⟨j, e0, h1, h2, h3⟩
      · exact Or.inl h
      · exact Or.inr ⟨j, e0, by simpa using h1, h2, h3⟩
  stays w k _ := by
    have : Instr.sameBits 10000 (qv k) (qv k) = true := by simp [qv, Instr.sameBits, ba_eq]
    simp [Instr.keyThatStays, this]

theorem fx_some {α : Type} {p : α → Bool} {l : List α} {k : Nat} (hk : k < l.length) (h : ∀ i (hi : i < l.length), i < k → p l[i] = false) (hp : p l[k] = true) : l.findIdx? p = some k :=
  List.findIdx?_eq_some_iff_getElem.2 ⟨hk, hp, fun j hj => by rw [h j (by omega) hj]; decide⟩
theorem fx_none {α : Type} {p : α → Bool} {l : List α} (h : ∀ i (hi : i < l.length), p l[i] = false) : l.findIdx? p = none :=
  List.findIdx?_eq_none_iff.2 fun x hx => by obtain ⟨i, hi, rfl⟩ := List.getElem_of_mem hx; exact h i hi
theorem res_pl {fn : Func} {p q : Nat} (h : fn.results = #[.cell p 185, .tmp q]) {W : World} {n : Nat} {a b : Value} {t : TypeId} {tmps : Array Value} (hb : W.heap[n]? = some (.cells #[a, b] t (0, 0))) (ht : tmps[p]?.getD undef = .pointer (some ⟨n, 0, none⟩)) :
    (results fn tmps).run Tryz.prog W = .ok (.tuple #[.agg #[a, b], tmps[q]?.getD undef]) W := by
  have c0 : W.cell? ⟨n, 0, none⟩ = some a := by simp [World.cell?, hb]
  have c1 : W.cell? ⟨n, 1, none⟩ = some b := by simp [World.cell?, hb]
  simp [results, h, go_sem, ht, c0, c1]
theorem t2 {w : World} {b : Nat} {p q : Value} {t : TypeId} (h : w.heap[b]? = some (.cells #[p, q] t (0, 0))) :
    (w.cell? ⟨b, 0, none⟩ = some p ∧ w.cell? ⟨b, 1, none⟩ = some q) ∧ (w.frozen? ⟨b, 0, none⟩ = false ∧ w.frozen? ⟨b, 1, none⟩ = false) := by
  simp [World.cell?, World.frozen?, h]
theorem t2_set {w : World} {b : Nat} {p q : Value} {t : TypeId} {fr : Nat × Nat} (p' q' : Value) (h : w.heap[b]? = some (.cells #[p, q] t fr)) :
    ((w.setCell ⟨b, 0, none⟩ p').setCell ⟨b, 1, none⟩ q').heap[b]? = some (.cells #[p', q'] t fr) := by
  simp [World.setCell, Array.getElem?_modify, h]
end Go.Proofs.YtadkmlcnmkdfiaaGreatDoor
namespace Go.Proofs.YtadkmlcnmkdfiaaGreatDoor
open Go.RowKit Xp
set_option linter.unusedVariables false
set_option linter.unusedSimpArgs false

theorem pl_found {e : Es} {n : ByteArray} {k : Nat} (hk : k < e.own.length) (h : ∀ i (hi : i < e.own.length), i < k → (e.own[i].there == n) = false) (hp : (e.own[k].there == n) = true) : plc e n = some (true, k) := by
  unfold plc
  rw [fx_some (p := fun x : En => x.there == n) hk h hp]
theorem pl_other {e : Es} {n : ByteArray} {k : Nat} (ho : ∀ i (hi : i < e.own.length), (e.own[i].there == n) = false) (hk : k < e.oth.length) (h : ∀ i (hi : i < e.oth.length), i < k → (e.oth[i].here == n) = false) (hp : (e.oth[k].here == n) = true) : plc e n = some (false, k) := by
  unfold plc
  rw [fx_none (p := fun x : En => x.there == n) ho, fx_some (p := fun x : En => x.here == n) hk h hp]
theorem pl_none {e : Es} {n : ByteArray} (ho : ∀ i (hi : i < e.own.length), (e.own[i].there == n) = false) (h : ∀ i (hi : i < e.oth.length), (e.oth[i].here == n) = false) : plc e n = none := by
  unfold plc
  rw [fx_none (p := fun x : En => x.there == n) ho, fx_none (p := fun x : En => x.here == n) h]
set_option maxRecDepth 100000 in
set_option maxHeartbeats 4000000 in
theorem look_any {w : World} {B : Nat} (hB : B ≤ w.heap.size) {e : Es} {v0 v1 v2 v3 : Value} (h1 : EnAt w B v1 e.own) (h2 : EnAt w B v2 e.oth) (l1 : e.own.length ≤ 1048576) (l2 : e.oth.length ≤ 1048576) (n : ByteArray) :
    Calls Tryz.prog 166 #[.agg #[v0, v1, v2, v3], .string n] w fun x w' => x = .returned (.tuple #[pv ((plc e n).getD (false, 0)), .bool (plc e n).isSome]) ∧ Below w.heap.size w w' := by
  obtain ⟨ad, c, rfl⟩ := h1.op
  obtain ⟨bd, d, rfl⟩ := h2.op
  obtain ⟨r, hr⟩ : ∃ r, plc e n = r := ⟨_, rfl⟩
  have HR : Hid (plc e n = r) := hr
  rw [hr]
  clear hr
  have mA : ((w.alloc (.cells #[v0, .slice ad e.own.length c, .slice bd e.oth.length d, v3] 32)).alloc (.cells #[.bool false, .int .i64 0] 185)).heap[w.heap.size + 1]? = some (.cells #[.bool false, .int .i64 0] 185 (0, 0)) := hnewX _ (by simp)
  have bA : Below w.heap.size w ((w.alloc (.cells #[v0, .slice ad e.own.length c, .slice bd e.oth.length d, v3] 32)).alloc (.cells #[.bool false, .int .i64 0] 185)) := ((Below.refl _ _).alloc (Nat.le_refl _) _).alloc (by simp) _
  have mB : ((w.alloc (.cells #[v0, .slice ad e.own.length c, .slice bd e.oth.length d, v3] 32)).alloc (.cells #[.bool false, .int .i64 0] 185)).heap[w.heap.size]? = some (.cells #[v0, .slice ad e.own.length c, .slice bd e.oth.length d, v3] 32 (0, 0)) := by
    rw [Below.heap_alloc _ _ _ (by simp)]; exact heap_alloc_new w _
  obtain ⟨wA, hwA⟩ : ∃ W, ((w.alloc (.cells #[v0, .slice ad e.own.length c, .slice bd e.oth.length d, v3] 32)).alloc (.cells #[.bool false, .int .i64 0] 185)) = W := ⟨_, rfl⟩
  have sA : wA.heap.size = w.heap.size + 1 + 1 := by rw [← hwA]; simp
  rw [hwA] at mA bA mB
  have HA : Hid (∀ W, Below wA.heap.size wA W → Below w.heap.size w W ∧ W.heap[w.heap.size]? = some (.cells #[v0, .slice ad e.own.length c, .slice bd e.oth.length d, v3] 32 (0, 0)) ∧ W.heap[w.heap.size + 1]? = some (.cells #[.bool false, .int .i64 0] 185 (0, 0))) := fun W b =>
    ⟨bA.trans (b.mono (by omega)), (b.block _ (by omega)).trans mB, (b.block _ (by omega)).trans mA⟩
  have HF : Hid (∀ W, Below wA.heap.size wA W → ∀ p q, Below w.heap.size w ((W.setCell ⟨w.heap.size + 1, 0, none⟩ p).setCell ⟨w.heap.size + 1, 1, none⟩ q)) := fun W b p q => ((bA.trans (b.mono (by omega))).setCell (by simp) _).setCell (by simp) _
  clear sA
  obtain ⟨⟨_, _, _, _⟩, _, _, _, _⟩ := t4 mB
  obtain ⟨⟨_, _⟩, _, _⟩ := t2 mA
  go_enter Tryz.func166, Tryz.ntmps166
  go_wp2
  go_loopw [6, 7, 13] (fun u v i wr => ∃ k : Nat, i = .int .i64 (k : Nat) ∧ k ≤ e.own.length ∧ Below wA.heap.size wA wr ∧ Hid (∀ i (hi : i < e.own.length), i < k → (e.own[i].there == n) = false)) (fun _ _ i _ => e.own.length - (intOf i).toNat)
  case atStart => exact ⟨0, rfl, by omega, Below.refl _ _, fun i _ h => absurd h (by omega)⟩
  case round =>
    obtain ⟨k, rfl, hkl, bel, hH⟩ := hrel
    obtain ⟨bw, q0, q1⟩ := HA.out _ bel
    by_cases hlt : k < e.own.length
    · obtain ⟨b, o, c', ee, hb, hf⟩ := EnAt.cl (h1.bel (bw.mono hB)) (by omega)
      obtain ⟨rfl, rfl⟩ : ad = some ⟨b, o, none⟩ ∧ c = c' := by cases ee; exact ⟨rfl, rfl⟩
      obtain ⟨f1, f2, f3, f4, f5⟩ := hf k hlt
      obtain ⟨⟨_, _⟩, _, _⟩ := t2 q1
      have HP : Hid (plc e n = r) := HR
      cases qe : (e.own[k].there == n) with
      | true =>
        obtain rfl : some (true, k) = r := by rw [← HR.out, pl_found hlt hH.out qe]
        clear hf
        rw [beq_toListBytes] at qe
        generalize e.own[k] = x at *
        obtain ⟨_, _, qx⟩ := HA.out _ (bel.alloc bel.size (.cells #[.string x.here, .string x.there, .int .i64 x.mod, .bool x.ty, .int .i64 x.item] 49))
        obtain ⟨⟨_, _⟩, _, _⟩ := t2 qx
        go_wp2
        refine bodyPost_ret (res_pl Tryz.results166 (t2_set _ _ qx) rfl) rfl ?_
        exact ⟨rfl, HF.out _ (bel.alloc bel.size _) _ _⟩
      | false =>
        have HS : Hid (∀ i (hi : i < e.own.length), i < k + 1 → (e.own[i].there == n) = false) := fun i hi h => by
          by_cases e' : i = k
          · subst e'; exact qe
          · exact hH.out i hi (by omega)
        clear hf
        rw [beq_toListBytes] at qe
        generalize e.own[k] = x at *
        go_wp2
        go_roundw
        case rel => exact ⟨k + 1, by simp, by omega, bel.alloc bel.size _, HS⟩
        case measure => simp [intOf]; omega
    · have HO : Hid (∀ i (hi : i < e.own.length), (e.own[i].there == n) = false) := fun i hi => hH.out i hi (by omega)
      obtain ⟨⟨_, _, _, _⟩, _, _, _, _⟩ := t4 q0
      go_wp2
      go_loopw [8, 9, 28] (fun u v i wq => ∃ k : Nat, i = .int .i64 (k : Nat) ∧ k ≤ e.oth.length ∧ Below wA.heap.size wA wq ∧ Hid (∀ i (hi : i < e.oth.length), i < k → (e.oth[i].here == n) = false)) (fun _ _ i _ => e.oth.length - (intOf i).toNat)
      case atStart => exact ⟨0, rfl, by omega, bel, fun i _ h => absurd h (by omega)⟩
      case round =>
        obtain ⟨k', rfl, hkl', bel', hH'⟩ := hrel
        obtain ⟨bw', q0', q1'⟩ := HA.out _ bel'
        obtain ⟨⟨_, _⟩, _, _⟩ := t2 q1'
        by_cases hlt' : k' < e.oth.length
        · obtain ⟨b, o, c', ee, hb, hf⟩ := EnAt.cl (h2.bel (bw'.mono hB)) (by omega)
          obtain ⟨rfl, rfl⟩ : bd = some ⟨b, o, none⟩ ∧ d = c' := by cases ee; exact ⟨rfl, rfl⟩
          obtain ⟨f1, f2, f3, f4, f5⟩ := hf k' hlt'
          cases qe : (e.oth[k'].here == n) with
          | true =>
            obtain rfl : some (false, k') = r := by rw [← HR.out, pl_other HO.out hlt' hH'.out qe]
            clear hf
            rw [beq_toListBytes] at qe
            generalize e.oth[k'] = x at *
            obtain ⟨_, _, qx⟩ := HA.out _ (bel'.alloc bel'.size (.cells #[.string x.here, .string x.there, .int .i64 x.mod, .bool x.ty, .int .i64 x.item] 49))
            obtain ⟨⟨_, _⟩, _, _⟩ := t2 qx
            go_wp2
            refine bodyPost_ret (res_pl Tryz.results166 (t2_set _ _ qx) rfl) rfl ?_
            exact ⟨rfl, HF.out _ (bel'.alloc bel'.size _) _ _⟩
          | false =>
            have HS : Hid (∀ i (hi : i < e.oth.length), i < k' + 1 → (e.oth[i].here == n) = false) := fun i hi h => by
              by_cases e' : i = k'
              · subst e'; exact qe
              · exact hH'.out i hi (by omega)
            clear hf
            rw [beq_toListBytes] at qe
            generalize e.oth[k'] = x at *
            go_wp2
            go_roundw
            case rel => exact ⟨k' + 1, by simp, by omega, bel'.alloc bel'.size _, HS⟩
            case measure => simp [intOf]; omega
        · obtain rfl : none = r := by rw [← HR.out, pl_none HO.out (fun i hi => hH'.out i hi (by omega))]
          go_wp2
          refine bodyPost_ret (res_pl Tryz.results166 (t2_set _ _ q1') rfl) rfl ?_
          exact ⟨rfl, HF.out _ bel' _ _⟩
/-- what a book holds: which modules were asked, how often; what their entries give. -/
structure Bk (W : World) (bk mA mG : Nat) (v : Value) (L : List Es) (A : Int → Option Int) : Prop where
  blk : W.heap[bk]? = some (.cells #[v, .map (some mA), .map (some mG)] 106 (0, 0))
  asked : ∃ n, MF (fun _ => True) (fun k : Int => .int .i64 k) (fun x : Int => .int .i64 x) W mA n A
  given : ∃ n g, MF (fun _ => True) qv pv W mG n g ∧ ∀ q, g q = if A q.1 = some 2 then (L[q.1.toNat]?).bind (fun e => plc e q.2) else none
  one : ∀ m x, A m = some x → x = 1 ∨ x = 2
  ne : mA ≠ mG
theorem Bk.keep {W W' : World} {bk mA mG : Nat} {v : Value} {L : List Es} {A : Int → Option Int} (h : Bk W bk mA mG v L A) (k0 : W'.heap[bk]? = W.heap[bk]?) (k1 : W'.heap[mA]? = W.heap[mA]?) (k2 : W'.heap[mG]? = W.heap[mG]?) : Bk W' bk mA mG v L A := by
  obtain ⟨n, h1⟩ := h.asked
  obtain ⟨m, g, h2, h3⟩ := h.given
  exact ⟨k0.trans h.blk, ⟨n, h1.keep k1⟩, ⟨m, g, h2.keep k2, h3⟩, h.one, h.ne⟩
theorem Bk.lt {W : World} {bk mA mG : Nat} {v : Value} {L : List Es} {A : Int → Option Int} (h : Bk W bk mA mG v L A) : bk < W.heap.size ∧ mA < W.heap.size ∧ mG < W.heap.size := by
  obtain ⟨n, h1⟩ := h.asked
  obtain ⟨m, g, h2, h3⟩ := h.given
  exact ⟨(Array.getElem?_eq_some_iff.1 h.blk).1, h1.lt, h2.lt⟩
theorem Bk.bel {W W' : World} {bk mA mG : Nat} {v : Value} {L : List Es} {A : Int → Option Int} (h : Bk W bk mA mG v L A) (b : Below W.heap.size W W') : Bk W' bk mA mG v L A :=
  h.keep (b.block _ h.lt.1) (b.block _ h.lt.2.1) (b.block _ h.lt.2.2)
theorem t3 {w : World} {b : Nat} {p q r : Value} {t : TypeId} (h : w.heap[b]? = some (.cells #[p, q, r] t (0, 0))) :
    (w.cell? ⟨b, 0, none⟩ = some p ∧ w.cell? ⟨b, 1, none⟩ = some q ∧ w.cell? ⟨b, 2, none⟩ = some r) ∧ (w.frozen? ⟨b, 0, none⟩ = false ∧ w.frozen? ⟨b, 1, none⟩ = false ∧ w.frozen? ⟨b, 2, none⟩ = false) := by
  simp [World.cell?, World.frozen?, h]
def hasB (n : Nat) (m : Int) : Bool := decide (0 ≤ m) && decide (m < n)
set_option maxRecDepth 100000 in
theorem has_any {w : World} {bk : Nat} {ad : Option Addr} {n c : Nat} {x y : Value} (h : w.heap[bk]? = some (.cells #[.slice ad n c, x, y] 106 (0, 0))) (hn : n ≤ 1048576) (m : Int) : Calls Tryz.prog 60 #[.pointer (some ⟨bk, 0, none⟩), .int .i64 m] w fun e w' => e = .returned (.bool (hasB n m)) ∧ w' = w := by
  obtain ⟨⟨_, _, _⟩, _, _, _⟩ := t3 h
  obtain ⟨r, hr⟩ : ∃ r, hasB n m = r := ⟨_, rfl⟩
  have HR : Hid (hasB n m = r) := hr
  rw [hr]
  clear hr h
  by_cases h0 : 0 ≤ m
  · by_cases h1 : m < n
    · obtain rfl : true = r := by rw [← HR.out, hasB]; simp [h0, h1]
      go_enter Tryz.func60, Tryz.ntmps60
      go_wp2
      go_ret
      exact ⟨rfl, rfl⟩
    · obtain rfl : false = r := by rw [← HR.out, hasB]; simp [h1]
      go_enter Tryz.func60, Tryz.ntmps60
      go_wp2
      go_ret
      exact ⟨rfl, rfl⟩
  · obtain rfl : false = r := by rw [← HR.out, hasB]; simp [h0]
    go_enter Tryz.func60, Tryz.ntmps60
    go_wp2
    go_ret
    exact ⟨rfl, rfl⟩
end Go.Proofs.YtadkmlcnmkdfiaaGreatDoor
namespace Go.Proofs.YtadkmlcnmkdfiaaGreatDoor
open Go.RowKit Xp
set_option linter.unusedVariables false
set_option linter.unusedSimpArgs false

theorem under_G : Tryz.prog.underlying 104 = some (.map 69 185) := by kernel_rfl
theorem under_Am : Tryz.prog.underlying 57 = some (.map 3 3) := by kernel_rfl
theorem zeroP (w : World) : (zeroValue 185).run Tryz.prog w = .ok (.agg #[.bool false, .int .i64 0]) w := by kernel_rfl
theorem zeroI (w : World) : (zeroValue 3).run Tryz.prog w = .ok (.int .i64 0) w := by kernel_rfl
abbrev GvM (W : World) (mG n : Nat) (g : Qn → Option (Bool × Nat)) : Prop := MF (fun _ => True) qv pv W mG n g
theorem gv_look {W : World} {mG n : Nat} {g : Qn → Option (Bool × Nat)} (h : GvM W mG n g) (q : Qn) : (Instr.lookup 104 (.map (some mG)) (.agg #[.int .i64 q.1, .string q.2]) true).run Tryz.prog W = .ok (.tuple #[.agg #[.bool ((g q).getD (false, 0)).1, .int .i64 (((g q).getD (false, 0)).2 : Nat)], .bool (g q).isSome]) W := by
  have := h.look keyQ under_G (zeroP W) q trivial true
  rw [show qv q = .agg #[.int .i64 q.1, .string q.2] from rfl] at this
  rw [this]
  cases g q <;> rfl
def wrF (g : Qn → Option (Bool × Nat)) (q : Qn) (p : Bool × Nat) : Qn → Option (Bool × Nat) := if (g q).isSome then g else upd g q p
set_option maxRecDepth 100000 in
set_option maxHeartbeats 4000000 in
theorem writeFirst_any {W : World} {bk mG n : Nat} {v x : Value} {g : Qn → Option (Bool × Nat)} (hb : W.heap[bk]? = some (.cells #[v, x, .map (some mG)] 106 (0, 0))) (h : GvM W mG n g) (q : Qn) (p : Bool × Nat) :
    Calls Tryz.prog 180 #[.pointer (some ⟨bk, 0, none⟩), .agg #[.int .i64 q.1, .string q.2], .agg #[.bool p.1, .int .i64 (p.2 : Nat)]] W fun e w' => e = .returned (.tuple #[]) ∧ (∃ n', GvM w' mG n' (wrF g q p)) ∧ W.grownBy w' (some mG) := by
  have hbl := (Array.getElem?_eq_some_iff.1 hb).1
  have hml := h.lt
  obtain ⟨wA, hwA⟩ : ∃ X, (W.alloc (.cells #[.int .i64 q.1, .string q.2] 69)).alloc (.cells #[.bool p.1, .int .i64 (p.2 : Nat)] 185) = X := ⟨_, rfl⟩
  have gA : W.grownBy wA none := by rw [← hwA]; exact (World.grownBy_alloc W _ none).trans (World.grownBy_alloc _ _ none)
  have sA : wA.heap.size = W.heap.size + 1 + 1 := by rw [← hwA]; simp
  have m0 : wA.heap[W.heap.size]? = some (.cells #[.int .i64 q.1, .string q.2] 69 (0, 0)) := by rw [← hwA, Below.heap_alloc _ _ _ (by simp)]; exact heap_alloc_new W _
  have m1 : wA.heap[W.heap.size + 1]? = some (.cells #[.bool p.1, .int .i64 (p.2 : Nat)] 185 (0, 0)) := by rw [← hwA]; exact hnewX _ (by simp)
  have hbA := (gA.block bk hbl (by simp)).trans hb
  have hA : GvM wA mG n g := h.keep (gA.block mG hml (by simp))
  obtain ⟨⟨_, _, _⟩, _, _, _⟩ := t3 hbA
  obtain ⟨⟨_, _⟩, _, _⟩ := t2 m0
  obtain ⟨⟨_, _⟩, _, _⟩ := t2 m1
  have zB := fun o : Obj => Below.heap_alloc wA o
  obtain ⟨⟨_, _, _⟩, _, _, _⟩ := t3 ((zB (.cells #[.bool false, .int .i64 0] 185) bk (by omega)).trans hbA)
  obtain ⟨⟨_, _⟩, _, _⟩ := t2 ((zB (.cells #[.bool false, .int .i64 0] 185) _ (by omega)).trans m0)
  obtain ⟨⟨_, _⟩, _, _⟩ := t2 ((zB (.cells #[.bool false, .int .i64 0] 185) _ (by omega)).trans m1)
  obtain ⟨gq, hgq⟩ : ∃ r, g q = r := ⟨_, rfl⟩
  have HG : Hid (g q = gq) := hgq
  have L1 := gv_look (hA.keep (w' := wA.drew) rfl) q
  have L2 := gv_look (hA.keep (w' := (wA.alloc (.cells #[.bool false, .int .i64 0] 185)).drew) (Below.heap_alloc wA _ mG hA.lt)) q
  rw [hgq] at L1 L2
  clear hgq
  have HS : Hid (wA.heap.size = W.heap.size + 1 + 1) := sA
  clear sA
  cases gq with
  | some p0 =>
    go_enter Tryz.func180, Tryz.ntmps180
    go_wp2_with fail
    go_region
    all_goals
      go_wp2
      go_end0
      refine ⟨rfl, ⟨n, ?_⟩, ?_⟩
      · have e : wrF g q p = g := by unfold wrF; rw [HG.out]; rfl
        rw [e]
        exact hA.keep (Below.heap_alloc wA _ mG hA.lt)
      · have := gA.trans (World.grownBy_alloc wA (.cells #[.bool p0.1, .int .i64 (p0.2 : Nat)] 185) none)
        exact ⟨this.os, this.tape, this.output, this.size, fun k hk _ => this.block k hk (by simp)⟩
  | none =>
    have hX : GvM ((wA.alloc (.cells #[.bool false, .int .i64 0] 185)).drew).drew mG n g := hA.keep (Below.heap_alloc wA _ mG hA.lt)
    obtain ⟨W3, hrun, hmf, hgr⟩ := hX.update keyQ under_G q trivial p
    unfold qv pv at hrun
    go_enter Tryz.func180, Tryz.ntmps180
    go_wp2_with fail
    go_region
    all_goals
      go_wp2_with fail
      go_region
      go_end0
      refine ⟨rfl, ⟨n + 1, ?_⟩, ?_⟩
      · have e : wrF g q p = upd g q p := by unfold wrF; rw [HG.out]; rfl
        rw [e]
        exact hmf
      · have h1 := gA.trans (World.grownBy_alloc wA (.cells #[.bool false, .int .i64 0] 185) none)
        exact ⟨hgr.os.trans h1.os, hgr.tape.trans h1.tape, hgr.output.trans h1.output, Nat.le_trans h1.size hgr.size, fun k hk hne => (hgr.block k (Nat.lt_of_lt_of_le hk h1.size) hne).trans (h1.block k hk (by simp))⟩
end Go.Proofs.YtadkmlcnmkdfiaaGreatDoor
namespace Go.Proofs.YtadkmlcnmkdfiaaGreatDoor
open Go.RowKit Xp
set_option linter.unusedVariables false
set_option linter.unusedSimpArgs false

def pk (l1 l2 : List En) (n : ByteArray) : Option (Bool × Nat) := plc ⟨[], l1, l2, []⟩ n
theorem plc_pk (e : Es) (n : ByteArray) : plc e n = pk e.own e.oth n := rfl
def gW (g : Qn → Option (Bool × Nat)) (m : Int) (l1 l2 : List En) : Qn → Option (Bool × Nat) := fun q => if q.1 = m then pk l1 l2 q.2 else g q
theorem pk_own (l : List En) (x : En) (n : ByteArray) : pk (l ++ [x]) [] n = match pk l [] n with | some p => some p | none => if x.there = n then some (true, l.length) else none := by
  unfold pk plc
  simp only [List.findIdx?_append, List.findIdx?_nil]
  cases h : l.findIdx? (fun x => x.there == n) with
  | some i => simp
  | none =>
    by_cases hx : x.there = n
    · simp [List.findIdx?_cons, ba_eq, hx]
    · simp [List.findIdx?_cons, ba_eq, hx]
theorem pk_oth (o l : List En) (x : En) (n : ByteArray) : pk o (l ++ [x]) n = match pk o l n with | some p => some p | none => if x.here = n then some (false, l.length) else none := by
  unfold pk plc
  simp only [List.findIdx?_append, List.findIdx?_nil]
  cases h0 : o.findIdx? (fun x => x.there == n) with
  | some i => simp
  | none =>
    cases h : l.findIdx? (fun x => x.here == n) with
    | some i => simp
    | none =>
      by_cases hx : x.here = n
      · simp [List.findIdx?_cons, ba_eq, hx]
      · simp [List.findIdx?_cons, ba_eq, hx]
theorem gW_own {g : Qn → Option (Bool × Nat)} {m : Int} {l : List En} {x : En} {k : Nat} (hk : k = l.length) : wrF (gW g m l []) (m, x.there) (true, k) = gW g m (l ++ [x]) [] := by
  subst hk
  funext q
  obtain ⟨a, n⟩ := q
  by_cases ha : a = m
  · subst ha
    have e1 : gW g a (l ++ [x]) [] (a, n) = pk (l ++ [x]) [] n := by simp [gW]
    have e2 : gW g a l [] (a, n) = pk l [] n := by simp [gW]
    have e3 : gW g a l [] (a, x.there) = pk l [] x.there := by simp [gW]
    rw [e1, pk_own]
    unfold wrF
    rw [e3]
    by_cases hx : x.there = n
    · subst hx
      cases hp : pk l [] x.there with
      | some p => simp [e2, hp]
      | none => simp [upd]
    · have hne : ¬ ((a, n) : Qn) = (a, x.there) := fun e => hx (by injection e with _ e; exact e.symm)
      cases hp : pk l [] x.there <;> cases hq : pk l [] n <;> simp [upd, hne, hx, e2, hq]
  · have hne : ∀ s, ¬ ((a, n) : Qn) = (m, s) := fun s e => ha (by injection e)
    unfold wrF
    split <;> simp [upd, gW, ha, hne]
theorem gW_oth {g : Qn → Option (Bool × Nat)} {m : Int} {o l : List En} {x : En} {k : Nat} (hk : k = l.length) : wrF (gW g m o l) (m, x.here) (false, k) = gW g m o (l ++ [x]) := by
  subst hk
  funext q
  obtain ⟨a, n⟩ := q
  by_cases ha : a = m
  · subst ha
    have e1 : gW g a o (l ++ [x]) (a, n) = pk o (l ++ [x]) n := by simp [gW]
    have e2 : gW g a o l (a, n) = pk o l n := by simp [gW]
    have e3 : gW g a o l (a, x.here) = pk o l x.here := by simp [gW]
    rw [e1, pk_oth]
    unfold wrF
    rw [e3]
    by_cases hx : x.here = n
    · subst hx
      cases hp : pk o l x.here with
      | some p => simp [e2, hp]
      | none => simp [upd]
    · have hne : ¬ ((a, n) : Qn) = (a, x.here) := fun e => hx (by injection e with _ e; exact e.symm)
      cases hp : pk o l x.here <;> cases hq : pk o l n <;> simp [upd, hne, hx, e2, hq]
  · have hne : ∀ s, ¬ ((a, n) : Qn) = (m, s) := fun s e => ha (by injection e)
    unfold wrF
    split <;> simp [upd, gW, ha, hne]
theorem gW_nil {g : Qn → Option (Bool × Nat)} {m : Int} (h : ∀ q : Qn, q.1 = m → g q = none) : gW g m [] [] = g := by
  funext q
  unfold gW
  split
  · rename_i e; rw [h q e]; rfl
  · rfl
theorem grown_bel {B b : Nat} {w w' : World} (h : w.grownBy w' (some b)) (hb : B ≤ b) (hB : B ≤ w.heap.size) : Below B w w' := ⟨h.os, h.tape, h.output, h.size, fun k hk => h.block k (by omega) (fun e => by injection e with e; omega)⟩
theorem grown_alloc {b : Nat} {w w' : World} (h : w.grownBy w' (some b)) (o : Obj) : w.grownBy (w'.alloc o) (some b) := h.trans ⟨rfl, rfl, rfl, by simp, fun k hk _ => Below.heap_alloc w' o k hk⟩
set_option maxRecDepth 100000 in
set_option maxHeartbeats 4000000 in
theorem write_any {W : World} {B bk mG n : Nat} {v x : Value} {L : List Es} {g : Qn → Option (Bool × Nat)} (hb : W.heap[bk]? = some (.cells #[v, x, .map (some mG)] 106 (0, 0))) (hv : MsAt W B v L) (hBm : B ≤ mG) (h : GvM W mG n g) (hbm : bk ≠ mG)
    (hL : L.length ≤ 1048576) {m : Nat} (hm : m < L.length) (l1 : L[m].own.length ≤ 1048576) (l2 : L[m].oth.length ≤ 1048576) (hg : ∀ q : Qn, q.1 = (m : Int) → g q = none) :
    Calls Tryz.prog 167 #[.pointer (some ⟨bk, 0, none⟩), .int .i64 (m : Nat)] W fun e w' => e = .returned (.tuple #[]) ∧ (∃ n', GvM w' mG n' (gW g m L[m].own L[m].oth)) ∧ W.grownBy w' (some mG) := by
  have hml := h.lt
  have hbl := (Array.getElem?_eq_some_iff.1 hb).1
  obtain ⟨b, o, c, rfl, hbB, hf⟩ := hv.cl (by omega)
  obtain ⟨v0, v1, v2, v3, hd⟩ := hf m hm
  have HD : Hid (∀ w', W.grownBy w' (some mG) → MdAt w' B b (o + m * 4) L[m] v0 v1 v2 v3 ∧ w'.heap[bk]? = some (.cells #[.slice (some ⟨b, o, none⟩) L.length c, x, .map (some mG)] 106 (0, 0))) := fun w' gr => by
    have bl := grown_bel gr hBm (by omega)
    exact ⟨⟨(World.cell?_of_block (a := ⟨b, _, none⟩) (bl.block b hbB)).trans hd.c0, (World.cell?_of_block (a := ⟨b, _, none⟩) (bl.block b hbB)).trans hd.c1, (World.cell?_of_block (a := ⟨b, _, none⟩) (bl.block b hbB)).trans hd.c2, (World.cell?_of_block (a := ⟨b, _, none⟩) (bl.block b hbB)).trans hd.c3, hd.a0.bel bl, hd.a1.bel bl, hd.a2.bel bl, hd.a3.bel bl⟩, (gr.block bk hbl (fun e => hbm (by injection e))).trans hb⟩
  have hc1 := hd.c1
  have hc2 := hd.c2
  obtain ⟨ad, c1, e1⟩ := EnAt.op hd.a1
  obtain ⟨bd, c2, e2⟩ := EnAt.op hd.a2
  subst e1 e2
  obtain ⟨⟨_, _, _⟩, _, _, _⟩ := t3 hb
  clear hf hd
  generalize L[m] = e at *
  have hst : W.grownBy W (some mG) := ⟨rfl, rfl, rfl, Nat.le_refl _, fun _ _ _ => rfl⟩
  have h0 : GvM W mG n (gW g m [] []) := by rw [gW_nil hg]; exact h
  clear h hg
  go_enter Tryz.func167, Tryz.ntmps167
  go_wp2
  go_loopw [4, 5, 17] (fun u u' i wr => ∃ k : Nat, i = .int .i64 (k : Nat) ∧ k ≤ e.own.length ∧ W.grownBy wr (some mG) ∧ ∃ n', GvM wr mG n' (gW g m (e.own.take k) [])) (fun _ _ i _ => e.own.length - (intOf i).toNat)
  case atStart => exact ⟨0, rfl, by omega, hst, n, h0⟩
  case round =>
    obtain ⟨k, rfl, hkl, gr, n', hG⟩ := hrel
    obtain ⟨md, hbk⟩ := HD.out _ gr
    by_cases hlt : k < e.own.length
    · obtain ⟨b1, o1, c', ee, hb1, hf⟩ := EnAt.cl md.a1 (by omega)
      obtain ⟨rfl, rfl⟩ : ad = some ⟨b1, o1, none⟩ ∧ c1 = c' := by cases ee; exact ⟨rfl, rfl⟩
      obtain ⟨f1, f2, f3, f4, f5⟩ := hf k hlt
      have HT : Hid (e.own.take (k + 1) = e.own.take k ++ [e.own[k]]) := List.take_succ_eq_append_getElem hlt
      have HK : Hid (k = (e.own.take k).length) := by simp [Hid]; omega
      clear hf
      generalize e.own[k] = y at *
      have hGa := hG.keep (w' := wr.alloc (.cells #[.string y.here, .string y.there, .int .i64 y.mod, .bool y.ty, .int .i64 y.item] 49)) (Below.heap_alloc wr _ mG hG.lt)
      have hba := (Below.heap_alloc wr (.cells #[.string y.here, .string y.there, .int .i64 y.mod, .bool y.ty, .int .i64 y.item] 49) bk (Array.getElem?_eq_some_iff.1 hbk).1).trans hbk
      have C := writeFirst_any hba hGa ((m : Nat), y.there) (true, k)
      have gra := grown_alloc gr (.cells #[.string y.here, .string y.there, .int .i64 y.mod, .bool y.ty, .int .i64 y.item] 49)
      go_wp2_with (go_at_call 180; refine C.mono ?_; rintro ex W1 ⟨rfl, ⟨n2, hG2⟩, gr2⟩)
      go_roundw
      case rel => exact ⟨k + 1, by simp, by omega, gra.trans gr2, n2, by rw [HT.out, ← gW_own HK.out]; exact hG2⟩
      case measure => simp [intOf]; omega
    · have et : e.own.take k = e.own := List.take_of_length_le (by omega)
      rw [et] at hG
      have hc1 := md.c1
      have hc2 := md.c2
      obtain ⟨⟨_, _, _⟩, _, _, _⟩ := t3 hbk
      have h00 : GvM wr mG n' (gW g m e.own (e.oth.take 0)) := hG
      go_wp2
      go_loopw [6, 7, 40] (fun u u' i wq => ∃ k : Nat, i = .int .i64 (k : Nat) ∧ k ≤ e.oth.length ∧ W.grownBy wq (some mG) ∧ ∃ n', GvM wq mG n' (gW g m e.own (e.oth.take k))) (fun _ _ i _ => e.oth.length - (intOf i).toNat)
      case atStart => exact ⟨0, rfl, by omega, gr, n', h00⟩
      case round =>
        obtain ⟨k', rfl, hkl', gr', n'', hG'⟩ := hrel
        obtain ⟨md', hbk'⟩ := HD.out _ gr'
        by_cases hlt' : k' < e.oth.length
        · obtain ⟨b1, o1, c', ee, hb1, hf⟩ := EnAt.cl md'.a2 (by omega)
          obtain ⟨rfl, rfl⟩ : bd = some ⟨b1, o1, none⟩ ∧ c2 = c' := by cases ee; exact ⟨rfl, rfl⟩
          obtain ⟨f1, f2, f3, f4, f5⟩ := hf k' hlt'
          have HT : Hid (e.oth.take (k' + 1) = e.oth.take k' ++ [e.oth[k']]) := List.take_succ_eq_append_getElem hlt'
          have HK : Hid (k' = (e.oth.take k').length) := by simp [Hid]; omega
          clear hf
          generalize e.oth[k'] = y at *
          have hGa := hG'.keep (w' := wr.alloc (.cells #[.string y.here, .string y.there, .int .i64 y.mod, .bool y.ty, .int .i64 y.item] 49)) (Below.heap_alloc wr _ mG hG'.lt)
          have hba := (Below.heap_alloc wr (.cells #[.string y.here, .string y.there, .int .i64 y.mod, .bool y.ty, .int .i64 y.item] 49) bk (Array.getElem?_eq_some_iff.1 hbk').1).trans hbk'
          have C := writeFirst_any hba hGa ((m : Nat), y.here) (false, k')
          have gra := grown_alloc gr' (.cells #[.string y.here, .string y.there, .int .i64 y.mod, .bool y.ty, .int .i64 y.item] 49)
          go_wp2_with (go_at_call 180; refine C.mono ?_; rintro ex W1 ⟨rfl, ⟨n2, hG2⟩, gr2⟩)
          go_roundw
          case rel => exact ⟨k' + 1, by simp, by omega, gra.trans gr2, n2, by rw [HT.out, ← gW_oth HK.out]; exact hG2⟩
          case measure => simp [intOf]; omega
        · have et : e.oth.take k' = e.oth := List.take_of_length_le (by omega)
          rw [et] at hG'
          go_wp2
          go_end0
          exact ⟨rfl, ⟨n'', hG'⟩, gr'⟩
end Go.Proofs.YtadkmlcnmkdfiaaGreatDoor
namespace Go.Proofs.YtadkmlcnmkdfiaaGreatDoor
open Go.RowKit Xp
set_option linter.unusedVariables false
set_option linter.unusedSimpArgs false

/-- w' is w but for two blocks, and for new ones. -/
structure Ofx (a b : Nat) (w w' : World) : Prop where
  os : w'.os = w.os
  tape : w'.tape = w.tape
  output : w'.output = w.output
  size : w.heap.size ≤ w'.heap.size
  block : ∀ k, k < w.heap.size → k ≠ a → k ≠ b → w'.heap[k]? = w.heap[k]?
theorem Ofx.refl (a b : Nat) (w : World) : Ofx a b w w := ⟨rfl, rfl, rfl, Nat.le_refl _, fun _ _ _ _ => rfl⟩
theorem Ofx.trans {a b : Nat} {u v w : World} (h : Ofx a b u v) (k : Ofx a b v w) : Ofx a b u w :=
  ⟨k.os.trans h.os, k.tape.trans h.tape, k.output.trans h.output, Nat.le_trans h.size k.size, fun i hi h1 h2 => (k.block i (Nat.lt_of_lt_of_le hi h.size) h1 h2).trans (h.block i hi h1 h2)⟩
theorem Ofx.bel {a b : Nat} {u v : World} (h : Below u.heap.size u v) : Ofx a b u v := ⟨h.os, h.tape, h.output, h.size, fun k hk _ _ => h.block k hk⟩
theorem Ofx.g1 {a b : Nat} {u v : World} (h : u.grownBy v (some a)) : Ofx a b u v := ⟨h.os, h.tape, h.output, h.size, fun k hk h1 _ => h.block k hk (fun e => h1 (by injection e))⟩
theorem Ofx.g2 {a b : Nat} {u v : World} (h : u.grownBy v (some b)) : Ofx a b u v := ⟨h.os, h.tape, h.output, h.size, fun k hk _ h1 => h.block k hk (fun e => h1 (by injection e))⟩
theorem Ofx.below {a b B : Nat} {u v : World} (h : Ofx a b u v) (ha : B ≤ a) (hb : B ≤ b) (hB : B ≤ u.heap.size) : Below B u v := ⟨h.os, h.tape, h.output, h.size, fun k hk => h.block k (by omega) (by omega) (by omega)⟩
theorem Ofx.drew {a b : Nat} {u v : World} (h : Ofx a b u v) : Ofx a b u v.drew := ⟨h.os, h.tape, h.output, h.size, h.block⟩
theorem MdAt.bel {w w' : World} {B b o : Nat} {e : Es} {v0 v1 v2 v3 : Value} (h : MdAt w B b o e v0 v1 v2 v3) (bl : Below B w w') (hb : b < B) : MdAt w' B b o e v0 v1 v2 v3 :=
  ⟨(World.cell?_of_block (a := ⟨b, _, none⟩) (bl.block b hb)).trans h.c0, (World.cell?_of_block (a := ⟨b, _, none⟩) (bl.block b hb)).trans h.c1, (World.cell?_of_block (a := ⟨b, _, none⟩) (bl.block b hb)).trans h.c2, (World.cell?_of_block (a := ⟨b, _, none⟩) (bl.block b hb)).trans h.c3, h.a0.bel bl, h.a1.bel bl, h.a2.bel bl, h.a3.bel bl⟩
abbrev AsM (W : World) (mA n : Nat) (A : Int → Option Int) : Prop := MF (fun _ => True) (fun k : Int => .int .i64 k) (fun x : Int => .int .i64 x) W mA n A
theorem as_look {W : World} {mA n : Nat} {A : Int → Option Int} (h : AsM W mA n A) (m : Int) : (Instr.lookup 57 (.map (some mA)) (.int .i64 m) false).run Tryz.prog W = .ok (.int .i64 ((A m).getD 0)) W := by
  have := h.look keyI under_Am (zeroI W) m trivial false
  rw [this]
  cases A m <;> rfl
set_option maxRecDepth 100000 in
set_option maxHeartbeats 4000000 in
theorem find_noneX {W : World} {B bk mA mG : Nat} {v : Value} {L : List Es} {A : Int → Option Int} (h : Bk W bk mA mG v L A) (hv : MsAt W B v L) (hBA : B ≤ mA) (hBG : B ≤ mG)
    (hL : L.length ≤ 1048576) {m : Nat} (hm : m < L.length) (l1 : L[m].own.length ≤ 1048576) (l2 : L[m].oth.length ≤ 1048576) (nm : ByteArray) (ham : A (m : Nat) = none) :
    Calls Tryz.prog 131 #[.pointer (some ⟨bk, 0, none⟩), .agg #[.int .i64 (m : Nat), .string nm]] W fun e w' => e = .returned (.tuple #[.agg #[.bool ((plc L[m] nm).getD (false, 0)).1, .int .i64 (((plc L[m] nm).getD (false, 0)).2 : Nat)], .bool (plc L[m] nm).isSome]) ∧ (∃ A', Bk w' bk mA mG v L A') ∧ Ofx mA mG W w' := by
  obtain ⟨hlB, hlA, hlG⟩ := h.lt
  have hne := h.ne
  have hbA : bk ≠ mA := fun e => by obtain ⟨n, es, c, hb, _⟩ := h.asked; rw [← e, h.blk] at hb; cases hb
  have hbG : bk ≠ mG := fun e => by obtain ⟨n, g, ⟨es, c, hb, _⟩, _⟩ := h.given; rw [← e, h.blk] at hb; cases hb
  obtain ⟨wA, hwA⟩ : ∃ X, (W.alloc (.cells #[.int .i64 (m : Nat), .string nm] 69)).alloc (.cells #[.bool false, .int .i64 0] 185) = X := ⟨_, rfl⟩
  have bA : Below W.heap.size W wA := by rw [← hwA]; exact ((Below.refl _ _).alloc (Nat.le_refl _) _).alloc (by simp) _
  have sA : wA.heap.size = W.heap.size + 1 + 1 := by rw [← hwA]; simp
  have m0 : wA.heap[W.heap.size]? = some (.cells #[.int .i64 (m : Nat), .string nm] 69 (0, 0)) := by rw [← hwA, Below.heap_alloc _ _ _ (by simp)]; exact heap_alloc_new W _
  have m1 : wA.heap[W.heap.size + 1]? = some (.cells #[.bool false, .int .i64 0] 185 (0, 0)) := by rw [← hwA]; exact hnewX _ (by simp)
  have hA := h.bel bA
  have hvA := hv.bel (bA.mono (by omega))
  have hsA : B ≤ wA.heap.size := by omega
  have q0 : W.heap.size ≠ mA ∧ W.heap.size ≠ mG ∧ W.heap.size + 1 ≠ mA ∧ W.heap.size + 1 ≠ mG := by omega
  -- whatever came since
  have HK : Hid (∀ X, Ofx mA mG wA X → X.heap[W.heap.size]? = some (.cells #[.int .i64 (m : Nat), .string nm] 69 (0, 0)) ∧ X.heap[W.heap.size + 1]? = some (.cells #[.bool false, .int .i64 0] 185 (0, 0)) ∧ X.heap[bk]? = some (.cells #[v, .map (some mA), .map (some mG)] 106 (0, 0)) ∧ MsAt X B v L ∧ B ≤ X.heap.size) := fun X k =>
    ⟨(k.block _ (by omega) q0.1 q0.2.1).trans m0, (k.block _ (by omega) q0.2.2.1 q0.2.2.2).trans m1, (k.block _ (by omega) hbA hbG).trans hA.blk, hvA.bel (k.below hBA hBG hsA), Nat.le_trans hsA k.size⟩
  have HO : Hid (Ofx mA mG W wA) := Ofx.bel bA
  have HS : Hid (wA.heap.size = W.heap.size + 1 + 1) := sA
  have HQ : Hid (∀ X, Ofx mA mG wA X → ∀ p q, Ofx mA mG W ((X.setCell ⟨W.heap.size + 1, 0, none⟩ p).setCell ⟨W.heap.size + 1, 1, none⟩ q)) := fun X k p q => by
    have := (Ofx.bel bA).trans k
    refine ⟨this.os, this.tape, this.output, by simpa [World.setCell] using this.size, fun i hi h1 h2 => ?_⟩
    rw [Below.heap_setCell _ _ _ _ (by simp; omega), Below.heap_setCell _ _ _ _ (by simp; omega)]
    exact this.block i hi h1 h2
  have HB : Hid (∀ (X : World) (A' : Int → Option Int), Bk X bk mA mG v L A' → ∀ p q, Bk ((X.setCell ⟨W.heap.size + 1, 0, none⟩ p).setCell ⟨W.heap.size + 1, 1, none⟩ q) bk mA mG v L A') := fun X A' k p q => k.keep
    (by rw [Below.heap_setCell _ _ _ _ (by simp; omega), Below.heap_setCell _ _ _ _ (by simp; omega)])
    (by rw [Below.heap_setCell _ _ _ _ (by simp; omega), Below.heap_setCell _ _ _ _ (by simp; omega)])
    (by rw [Below.heap_setCell _ _ _ _ (by simp; omega), Below.heap_setCell _ _ _ _ (by simp; omega)])
  obtain ⟨nA, hAs⟩ := hA.asked
  obtain ⟨nG, g, hGv, hgg⟩ := hA.given
  have HG : Hid (∀ q : Qn, g q = if A q.1 = some 2 then (L[q.1.toNat]?).bind (fun e => plc e q.2) else none) := hgg
  have L1 := as_look (hAs.keep (w' := wA.drew) rfl) (m : Nat)
  obtain ⟨⟨_, _, _⟩, _, _, _⟩ := t3 hA.blk
  obtain ⟨⟨_, _⟩, _, _⟩ := t2 m0
  have HA : Hid (Bk wA bk mA mG v L A) := hA
  have HR : Hid (∀ X, Ofx mA mG wA X → MsAt X B v L ∧ B ≤ X.heap.size) := fun X k => ⟨(HK.out X k).2.2.2.1, (HK.out X k).2.2.2.2⟩
  have HM : Hid (A (m : Nat) = none) := ham
  rw [ham] at L1
  clear ham hgg sA hsA hA hvA bA
  obtain ⟨W2, hrun, hmf, hgr⟩ := MF.update (w := wA.drew.drew) (hAs.keep rfl) keyI under_Am (m : Nat) trivial (1 : Int)
  have k2 : Ofx mA mG wA W2 := ⟨hgr.os, hgr.tape, hgr.output, hgr.size, fun k hk h1 _ => hgr.block k hk (fun e => h1 (by injection e))⟩
  obtain ⟨n0, n1, n2, n3, n4⟩ := HK.out _ k2
  have HB2 : Hid (Bk W2 bk mA mG v L (upd A (m : Nat) 1)) := by
    refine ⟨n2, ⟨_, hmf⟩, ⟨nG, g, hGv.keep (hgr.block mG hGv.lt (fun e => hne (by injection e with e; exact e.symm))), fun q => ?_⟩, fun a x hx => ?_, hne⟩
    · rw [HG.out q]
      unfold upd
      by_cases ea : q.1 = (m : Nat)
      · rw [ea, HM.out]; simp
      · simp [ea]
    · unfold upd at hx
      split at hx
      · cases hx; exact Or.inl rfl
      · exact HA.out.one a x hx
  obtain ⟨b, o, c, rfl, hbB, hf⟩ := n3.cl (by omega)
  obtain ⟨v0, v1, v2, v3, hd⟩ := hf m hm
  have d0 := hd.c0
  have d1 := hd.c1
  have d2 := hd.c2
  have d3 := hd.c3
  have C := look_any (w := W2.drew) (v0 := v0) (v3 := v3) n4 (hd.a1.bel ((Below.refl B W2).drew)) (hd.a2.bel ((Below.refl B W2).drew)) l1 l2 nm
  unfold pv at C
  clear hf hd
  obtain ⟨⟨_, _, _⟩, _, _, _⟩ := t3 n2
  obtain ⟨⟨_, _⟩, _, _⟩ := t2 n0
  obtain ⟨⟨_, _⟩, _, _⟩ := t2 n1
  generalize plc L[m] nm = r at *
  go_enter Tryz.func131, Tryz.ntmps131
  go_wp2_with fail
  go_region
  go_wp2_with fail
  go_region
  go_wp2_with fail
  go_region_with (go_at_call 166; refine C.mono ?_; rintro ex W3 ⟨rfl, b3⟩; have k3 : Ofx mA mG wA W3 := k2.drew.trans (Ofx.bel (a := mA) (b := mG) b3); obtain ⟨_, n1', _⟩ := HK.out _ k3; obtain ⟨⟨_, _⟩, _, _⟩ := t2 n1')
  all_goals
    go_wp2
    refine bodyPost_ret (res_pl Tryz.results131 (t2_set _ _ n1') rfl) rfl ?_
    exact ⟨rfl, ⟨_, HB.out _ _ ((HB2.out.keep (W' := W2.drew) rfl rfl rfl).bel b3) _ _⟩, HQ.out _ k3 _ _⟩
end Go.Proofs.YtadkmlcnmkdfiaaGreatDoor
namespace Go.Proofs.YtadkmlcnmkdfiaaGreatDoor
open Go.RowKit Xp
set_option linter.unusedVariables false
set_option linter.unusedSimpArgs false

set_option maxRecDepth 100000 in
set_option maxHeartbeats 16000000 in
theorem find_one {W : World} {B bk mA mG : Nat} {v : Value} {L : List Es} {A : Int → Option Int} (h : Bk W bk mA mG v L A) (hv : MsAt W B v L) (hBA : B ≤ mA) (hBG : B ≤ mG)
    (hL : L.length ≤ 1048576) {m : Nat} (hm : m < L.length) (l1 : L[m].own.length ≤ 1048576) (l2 : L[m].oth.length ≤ 1048576) (nm : ByteArray) (ham : A (m : Nat) = some 1) :
    Calls Tryz.prog 131 #[.pointer (some ⟨bk, 0, none⟩), .agg #[.int .i64 (m : Nat), .string nm]] W fun e w' => e = .returned (.tuple #[.agg #[.bool ((plc L[m] nm).getD (false, 0)).1, .int .i64 (((plc L[m] nm).getD (false, 0)).2 : Nat)], .bool (plc L[m] nm).isSome]) ∧ (∃ A', Bk w' bk mA mG v L A') ∧ Ofx mA mG W w' := by
  obtain ⟨hlB, hlA, hlG⟩ := h.lt
  have hne := h.ne
  have hbA : bk ≠ mA := fun e => by obtain ⟨n, es, c, hb, _⟩ := h.asked; rw [← e, h.blk] at hb; cases hb
  have hbG : bk ≠ mG := fun e => by obtain ⟨n, g, ⟨es, c, hb, _⟩, _⟩ := h.given; rw [← e, h.blk] at hb; cases hb
  obtain ⟨wA, hwA⟩ : ∃ X, (W.alloc (.cells #[.int .i64 (m : Nat), .string nm] 69)).alloc (.cells #[.bool false, .int .i64 0] 185) = X := ⟨_, rfl⟩
  have bA : Below W.heap.size W wA := by rw [← hwA]; exact ((Below.refl _ _).alloc (Nat.le_refl _) _).alloc (by simp) _
  have sA : wA.heap.size = W.heap.size + 1 + 1 := by rw [← hwA]; simp
  have m0 : wA.heap[W.heap.size]? = some (.cells #[.int .i64 (m : Nat), .string nm] 69 (0, 0)) := by rw [← hwA, Below.heap_alloc _ _ _ (by simp)]; exact heap_alloc_new W _
  have m1 : wA.heap[W.heap.size + 1]? = some (.cells #[.bool false, .int .i64 0] 185 (0, 0)) := by rw [← hwA]; exact hnewX _ (by simp)
  have hA := h.bel bA
  have hvA := hv.bel (bA.mono (by omega))
  have hsA : B ≤ wA.heap.size := by omega
  have q0 : W.heap.size ≠ mA ∧ W.heap.size ≠ mG ∧ W.heap.size + 1 ≠ mA ∧ W.heap.size + 1 ≠ mG := by omega
  -- whatever came since
  have HK : Hid (∀ X, Ofx mA mG wA X → X.heap[W.heap.size]? = some (.cells #[.int .i64 (m : Nat), .string nm] 69 (0, 0)) ∧ X.heap[W.heap.size + 1]? = some (.cells #[.bool false, .int .i64 0] 185 (0, 0)) ∧ X.heap[bk]? = some (.cells #[v, .map (some mA), .map (some mG)] 106 (0, 0)) ∧ MsAt X B v L ∧ B ≤ X.heap.size) := fun X k =>
    ⟨(k.block _ (by omega) q0.1 q0.2.1).trans m0, (k.block _ (by omega) q0.2.2.1 q0.2.2.2).trans m1, (k.block _ (by omega) hbA hbG).trans hA.blk, hvA.bel (k.below hBA hBG hsA), Nat.le_trans hsA k.size⟩
  have HO : Hid (Ofx mA mG W wA) := Ofx.bel bA
  have HS : Hid (wA.heap.size = W.heap.size + 1 + 1) := sA
  have HQ : Hid (∀ X, Ofx mA mG wA X → ∀ p q, Ofx mA mG W ((X.setCell ⟨W.heap.size + 1, 0, none⟩ p).setCell ⟨W.heap.size + 1, 1, none⟩ q)) := fun X k p q => by
    have := (Ofx.bel bA).trans k
    refine ⟨this.os, this.tape, this.output, by simpa [World.setCell] using this.size, fun i hi h1 h2 => ?_⟩
    rw [Below.heap_setCell _ _ _ _ (by simp; omega), Below.heap_setCell _ _ _ _ (by simp; omega)]
    exact this.block i hi h1 h2
  have HB : Hid (∀ (X : World) (A' : Int → Option Int), Bk X bk mA mG v L A' → ∀ p q, Bk ((X.setCell ⟨W.heap.size + 1, 0, none⟩ p).setCell ⟨W.heap.size + 1, 1, none⟩ q) bk mA mG v L A') := fun X A' k p q => k.keep
    (by rw [Below.heap_setCell _ _ _ _ (by simp; omega), Below.heap_setCell _ _ _ _ (by simp; omega)])
    (by rw [Below.heap_setCell _ _ _ _ (by simp; omega), Below.heap_setCell _ _ _ _ (by simp; omega)])
    (by rw [Below.heap_setCell _ _ _ _ (by simp; omega), Below.heap_setCell _ _ _ _ (by simp; omega)])
  obtain ⟨nA, hAs⟩ := hA.asked
  obtain ⟨nG, g, hGv, hgg⟩ := hA.given
  have HG : Hid (∀ q : Qn, g q = if A q.1 = some 2 then (L[q.1.toNat]?).bind (fun e => plc e q.2) else none) := hgg
  have L1 := as_look (hAs.keep (w' := wA.drew) rfl) (m : Nat)
  obtain ⟨⟨_, _, _⟩, _, _, _⟩ := t3 hA.blk
  obtain ⟨⟨_, _⟩, _, _⟩ := t2 m0
  have HA : Hid (Bk wA bk mA mG v L A) := hA
  have HR : Hid (∀ X, Ofx mA mG wA X → MsAt X B v L ∧ B ≤ X.heap.size) := fun X k => ⟨(HK.out X k).2.2.2.1, (HK.out X k).2.2.2.2⟩
  have HM : Hid (A (m : Nat) = some 1) := ham
  rw [ham] at L1
  clear ham hgg sA hsA hA hvA bA
  have fin : ∀ (X : World) (A' : Int → Option Int), Ofx mA mG wA X → Bk X bk mA mG v L A' → A' (m : Nat) = some 2 → (Instr.lookup 104 (.map (some mG)) (.agg #[.int .i64 (m : Nat), .string nm]) true).run Tryz.prog X = .ok (.tuple #[.agg #[.bool ((plc L[m] nm).getD (false, 0)).1, .int .i64 (((plc L[m] nm).getD (false, 0)).2 : Nat)], .bool (plc L[m] nm).isSome]) X := fun X A' k kb e2 => by
    obtain ⟨n', g', h1, h2⟩ := kb.given
    have := gv_look h1 ((m : Nat), nm)
    rw [this]
    have e3 : g' ((m : Nat), nm) = plc L[m] nm := by
      rw [h2]
      simp only [e2, if_true]
      rw [show ((m : Nat) : Int).toNat = m from rfl, List.getElem?_eq_getElem hm]
      rfl
    rw [e3]
  have HL : Hid _ := fin
  clear fin
  obtain ⟨W2, hrun, hmf, hgr⟩ := MF.update (w := wA.drew.drew.drew) (hAs.keep rfl) keyI under_Am (m : Nat) trivial (2 : Int)
  have k2 : Ofx mA mG wA W2 := ⟨hgr.os, hgr.tape, hgr.output, hgr.size, fun k hk h1 _ => hgr.block k hk (fun e => h1 (by injection e))⟩
  obtain ⟨n0, n1, n2, n3, n4⟩ := HK.out _ k2
  have hG2 := hGv.keep (w' := W2) (hgr.block mG hGv.lt (fun e => hne (by injection e with e; exact e.symm)))
  have C := write_any n2 n3 hBG hG2 hbG hL hm l1 l2 (fun q e => by rw [HG.out q, e, HM.out]; rfl)
  have HF : Hid (∀ (X : World) (nx : Nat), W2.grownBy X (some mG) → GvM X mG nx (gW g (m : Nat) L[m].own L[m].oth) → Bk X bk mA mG v L (upd A (m : Nat) 2)) := fun X nx gr hx => by
    refine ⟨(gr.block bk (by have := hgr.size; have : wA.heap.size ≤ W2.heap.size := this; have := HS.out; omega) (fun e => hbG (by injection e))).trans n2, ⟨_, hmf.keep (gr.block mA hmf.lt (fun e => hne (by injection e)))⟩, ⟨nx, _, hx, fun q => ?_⟩, fun a y hy => ?_, hne⟩
    · unfold gW upd
      by_cases ea : q.1 = (m : Nat)
      · rw [if_pos ea]
        simp only [ea, if_true]
        rw [show ((m : Nat) : Int).toNat = m from rfl, List.getElem?_eq_getElem hm]
        rfl
      · rw [if_neg ea, if_neg ea, HG.out q]
    · unfold upd at hy
      split at hy
      · cases hy; exact Or.inr rfl
      · exact HA.out.one a y hy
  have L1' := as_look (hAs.keep (w' := wA.drew.drew) rfl) (m : Nat)
  rw [HM.out] at L1'
  obtain ⟨⟨_, _, _⟩, _, _, _⟩ := t3 n2
  obtain ⟨⟨_, _⟩, _, _⟩ := t2 n0
  go_enter Tryz.func131, Tryz.ntmps131
  go_wp2_with fail
  go_region
  go_wp2_with fail
  go_region
  go_wp2_with fail
  go_region
  go_wp2_with fail
  go_at_call 167
  refine C.mono ?_
  rintro ex W3 ⟨rfl, ⟨n3', hG3⟩, gr3⟩
  have kb := HF.out _ _ gr3 hG3
  have k3 : Ofx mA mG wA W3 := k2.trans (Ofx.g2 gr3)
  have e2 : upd A (m : Nat) 2 (m : Nat) = some 2 := by simp [upd]
  obtain ⟨n0', n1', n2', _, _⟩ := HK.out _ k3
  have k4 : Ofx mA mG wA (W3.alloc (.cells #[.bool false, .int .i64 0] 185)) := k3.trans (Ofx.bel ((Below.refl _ _).alloc (Nat.le_refl _) _))
  obtain ⟨p0', p1', p2', _, _⟩ := HK.out _ k4
  have T1 := HL.out (W3.drew) _ k3.drew (kb.keep rfl rfl rfl) e2
  have T2 := HL.out (W3.alloc (.cells #[.bool false, .int .i64 0] 185)).drew _ k4.drew ((kb.bel ((Below.refl _ _).alloc (Nat.le_refl _) _)).keep rfl rfl rfl) e2
  have HZ : Hid (∀ p q y z, ((((W3.alloc (.cells #[y, z] 185)).setCell ⟨W.heap.size + 1, 0, none⟩ p).setCell ⟨W.heap.size + 1, 1, none⟩ q).drew).heap[W.heap.size + 1]? = some (.cells #[p, q] 185 (0, 0)) ∧ Bk ((((W3.alloc (.cells #[y, z] 185)).setCell ⟨W.heap.size + 1, 0, none⟩ p).setCell ⟨W.heap.size + 1, 1, none⟩ q).drew) bk mA mG v L (upd A (m : Nat) 2) ∧ Ofx mA mG W ((((W3.alloc (.cells #[y, z] 185)).setCell ⟨W.heap.size + 1, 0, none⟩ p).setCell ⟨W.heap.size + 1, 1, none⟩ q).drew)) := fun p q y z => by
    have hl3 : W.heap.size + 1 < W3.heap.size := (Array.getElem?_eq_some_iff.1 n1').1
    have k5 : Ofx mA mG wA (W3.alloc (.cells #[y, z] 185)) := k3.trans (Ofx.bel ((Below.refl _ _).alloc (Nat.le_refl _) _))
    refine ⟨t2_set _ _ ((Below.heap_alloc _ _ _ hl3).trans n1'), ?_, ?_⟩
    · exact (HB.out _ _ (kb.bel ((Below.refl _ _).alloc (Nat.le_refl _) _)) p q).keep rfl rfl rfl
    · have k6 := HQ.out _ k5 p q
      exact ⟨k6.os, k6.tape, k6.output, k6.size, k6.block⟩
  obtain ⟨⟨_, _, _⟩, _, _, _⟩ := t3 n2'
  obtain ⟨⟨_, _⟩, _, _⟩ := t2 n0'
  obtain ⟨⟨_, _⟩, _, _⟩ := t2 n1'
  obtain ⟨⟨_, _, _⟩, _, _, _⟩ := t3 p2'
  obtain ⟨⟨_, _⟩, _, _⟩ := t2 p0'
  clear HK HQ HB HL k4 e2
  obtain ⟨r, hr⟩ : ∃ r, plc L[m] nm = r := ⟨_, rfl⟩
  rw [hr] at T1 T2
  have HR : Hid (plc L[m] nm = r) := hr
  clear hr
  go_wp2_with fail
  go_region
  all_goals
    obtain ⟨⟨_, _⟩, _, _⟩ := t2 (b := W.heap.size + 1) (w := (W3.alloc (.cells #[.bool (r.getD (false, 0)).1, .int .i64 ((r.getD (false, 0)).2 : Nat)] 185))) ((Below.heap_alloc _ _ _ (Array.getElem?_eq_some_iff.1 n1').1).trans n1')
    go_wp2
    refine bodyPost_ret (res_pl Tryz.results131 (HZ.out _ _ _ _).1 rfl) rfl ?_
    exact ⟨by rw [HR.out]; rfl, ⟨_, (HZ.out _ _ _ _).2.1⟩, (HZ.out _ _ _ _).2.2⟩
end Go.Proofs.YtadkmlcnmkdfiaaGreatDoor
namespace Go.Proofs.YtadkmlcnmkdfiaaGreatDoor
open Go.RowKit Xp
set_option linter.unusedVariables false
set_option linter.unusedSimpArgs false

set_option maxRecDepth 100000 in
set_option maxHeartbeats 16000000 in
theorem find_two {W : World} {B bk mA mG : Nat} {v : Value} {L : List Es} {A : Int → Option Int} (h : Bk W bk mA mG v L A) (hv : MsAt W B v L) (hBA : B ≤ mA) (hBG : B ≤ mG)
    (hL : L.length ≤ 1048576) {m : Nat} (hm : m < L.length) (l1 : L[m].own.length ≤ 1048576) (l2 : L[m].oth.length ≤ 1048576) (nm : ByteArray) (ham : A (m : Nat) = some 2) :
    Calls Tryz.prog 131 #[.pointer (some ⟨bk, 0, none⟩), .agg #[.int .i64 (m : Nat), .string nm]] W fun e w' => e = .returned (.tuple #[.agg #[.bool ((plc L[m] nm).getD (false, 0)).1, .int .i64 (((plc L[m] nm).getD (false, 0)).2 : Nat)], .bool (plc L[m] nm).isSome]) ∧ (∃ A', Bk w' bk mA mG v L A') ∧ Ofx mA mG W w' := by
  obtain ⟨hlB, hlA, hlG⟩ := h.lt
  have hne := h.ne
  have hbA : bk ≠ mA := fun e => by obtain ⟨n, es, c, hb, _⟩ := h.asked; rw [← e, h.blk] at hb; cases hb
  have hbG : bk ≠ mG := fun e => by obtain ⟨n, g, ⟨es, c, hb, _⟩, _⟩ := h.given; rw [← e, h.blk] at hb; cases hb
  obtain ⟨wA, hwA⟩ : ∃ X, (W.alloc (.cells #[.int .i64 (m : Nat), .string nm] 69)).alloc (.cells #[.bool false, .int .i64 0] 185) = X := ⟨_, rfl⟩
  have bA : Below W.heap.size W wA := by rw [← hwA]; exact ((Below.refl _ _).alloc (Nat.le_refl _) _).alloc (by simp) _
  have sA : wA.heap.size = W.heap.size + 1 + 1 := by rw [← hwA]; simp
  have m0 : wA.heap[W.heap.size]? = some (.cells #[.int .i64 (m : Nat), .string nm] 69 (0, 0)) := by rw [← hwA, Below.heap_alloc _ _ _ (by simp)]; exact heap_alloc_new W _
  have m1 : wA.heap[W.heap.size + 1]? = some (.cells #[.bool false, .int .i64 0] 185 (0, 0)) := by rw [← hwA]; exact hnewX _ (by simp)
  have hA := h.bel bA
  have hvA := hv.bel (bA.mono (by omega))
  have hsA : B ≤ wA.heap.size := by omega
  have q0 : W.heap.size ≠ mA ∧ W.heap.size ≠ mG ∧ W.heap.size + 1 ≠ mA ∧ W.heap.size + 1 ≠ mG := by omega
  -- whatever came since
  have HK : Hid (∀ X, Ofx mA mG wA X → X.heap[W.heap.size]? = some (.cells #[.int .i64 (m : Nat), .string nm] 69 (0, 0)) ∧ X.heap[W.heap.size + 1]? = some (.cells #[.bool false, .int .i64 0] 185 (0, 0)) ∧ X.heap[bk]? = some (.cells #[v, .map (some mA), .map (some mG)] 106 (0, 0)) ∧ MsAt X B v L ∧ B ≤ X.heap.size) := fun X k =>
    ⟨(k.block _ (by omega) q0.1 q0.2.1).trans m0, (k.block _ (by omega) q0.2.2.1 q0.2.2.2).trans m1, (k.block _ (by omega) hbA hbG).trans hA.blk, hvA.bel (k.below hBA hBG hsA), Nat.le_trans hsA k.size⟩
  have HO : Hid (Ofx mA mG W wA) := Ofx.bel bA
  have HS : Hid (wA.heap.size = W.heap.size + 1 + 1) := sA
  have HQ : Hid (∀ X, Ofx mA mG wA X → ∀ p q, Ofx mA mG W ((X.setCell ⟨W.heap.size + 1, 0, none⟩ p).setCell ⟨W.heap.size + 1, 1, none⟩ q)) := fun X k p q => by
    have := (Ofx.bel bA).trans k
    refine ⟨this.os, this.tape, this.output, by simpa [World.setCell] using this.size, fun i hi h1 h2 => ?_⟩
    rw [Below.heap_setCell _ _ _ _ (by simp; omega), Below.heap_setCell _ _ _ _ (by simp; omega)]
    exact this.block i hi h1 h2
  have HB : Hid (∀ (X : World) (A' : Int → Option Int), Bk X bk mA mG v L A' → ∀ p q, Bk ((X.setCell ⟨W.heap.size + 1, 0, none⟩ p).setCell ⟨W.heap.size + 1, 1, none⟩ q) bk mA mG v L A') := fun X A' k p q => k.keep
    (by rw [Below.heap_setCell _ _ _ _ (by simp; omega), Below.heap_setCell _ _ _ _ (by simp; omega)])
    (by rw [Below.heap_setCell _ _ _ _ (by simp; omega), Below.heap_setCell _ _ _ _ (by simp; omega)])
    (by rw [Below.heap_setCell _ _ _ _ (by simp; omega), Below.heap_setCell _ _ _ _ (by simp; omega)])
  obtain ⟨nA, hAs⟩ := hA.asked
  obtain ⟨nG, g, hGv, hgg⟩ := hA.given
  have HG : Hid (∀ q : Qn, g q = if A q.1 = some 2 then (L[q.1.toNat]?).bind (fun e => plc e q.2) else none) := hgg
  have L1 := as_look (hAs.keep (w' := wA.drew) rfl) (m : Nat)
  obtain ⟨⟨_, _, _⟩, _, _, _⟩ := t3 hA.blk
  obtain ⟨⟨_, _⟩, _, _⟩ := t2 m0
  have HA : Hid (Bk wA bk mA mG v L A) := hA
  have HR : Hid (∀ X, Ofx mA mG wA X → MsAt X B v L ∧ B ≤ X.heap.size) := fun X k => ⟨(HK.out X k).2.2.2.1, (HK.out X k).2.2.2.2⟩
  have HM : Hid (A (m : Nat) = some 2) := ham
  rw [ham] at L1
  clear ham hgg sA hsA hA hvA bA
  have fin : ∀ (X : World) (A' : Int → Option Int), Ofx mA mG wA X → Bk X bk mA mG v L A' → A' (m : Nat) = some 2 → (Instr.lookup 104 (.map (some mG)) (.agg #[.int .i64 (m : Nat), .string nm]) true).run Tryz.prog X = .ok (.tuple #[.agg #[.bool ((plc L[m] nm).getD (false, 0)).1, .int .i64 (((plc L[m] nm).getD (false, 0)).2 : Nat)], .bool (plc L[m] nm).isSome]) X := fun X A' k kb e2 => by
    obtain ⟨n', g', h1, h2⟩ := kb.given
    have := gv_look h1 ((m : Nat), nm)
    rw [this]
    have e3 : g' ((m : Nat), nm) = plc L[m] nm := by
      rw [h2]
      simp only [e2, if_true]
      rw [show ((m : Nat) : Int).toNat = m from rfl, List.getElem?_eq_getElem hm]
      rfl
    rw [e3]
  have HL : Hid _ := fin
  clear fin
  have L1' := as_look (hAs.keep (w' := wA.drew.drew) rfl) (m : Nat)
  rw [HM.out] at L1'
  go_enter Tryz.func131, Tryz.ntmps131
  go_wp2_with fail
  go_region
  go_wp2_with fail
  go_region
  have k3 : Ofx mA mG wA wA := Ofx.refl _ _ _
  have kb := HA.out
  have e2 : A (m : Nat) = some 2 := HM.out
  obtain ⟨n0', n1', n2', _, _⟩ := HK.out _ k3
  have k4 : Ofx mA mG wA (wA.alloc (.cells #[.bool false, .int .i64 0] 185)) := k3.trans (Ofx.bel ((Below.refl _ _).alloc (Nat.le_refl _) _))
  obtain ⟨p0', p1', p2', _, _⟩ := HK.out _ k4
  have T1 := HL.out (wA.drew.drew.drew) _ k3.drew.drew.drew (kb.keep rfl rfl rfl) e2
  have T2 := HL.out (wA.alloc (.cells #[.bool false, .int .i64 0] 185)).drew.drew.drew _ k4.drew.drew.drew ((kb.bel ((Below.refl _ _).alloc (Nat.le_refl _) _)).keep rfl rfl rfl) e2
  have HZ : Hid (∀ p q y z, ((((wA.alloc (.cells #[y, z] 185)).setCell ⟨W.heap.size + 1, 0, none⟩ p).setCell ⟨W.heap.size + 1, 1, none⟩ q).drew.drew.drew).heap[W.heap.size + 1]? = some (.cells #[p, q] 185 (0, 0)) ∧ Bk ((((wA.alloc (.cells #[y, z] 185)).setCell ⟨W.heap.size + 1, 0, none⟩ p).setCell ⟨W.heap.size + 1, 1, none⟩ q).drew.drew.drew) bk mA mG v L A ∧ Ofx mA mG W ((((wA.alloc (.cells #[y, z] 185)).setCell ⟨W.heap.size + 1, 0, none⟩ p).setCell ⟨W.heap.size + 1, 1, none⟩ q).drew.drew.drew)) := fun p q y z => by
    have hl3 : W.heap.size + 1 < wA.heap.size := (Array.getElem?_eq_some_iff.1 n1').1
    have k5 : Ofx mA mG wA (wA.alloc (.cells #[y, z] 185)) := k3.trans (Ofx.bel ((Below.refl _ _).alloc (Nat.le_refl _) _))
    refine ⟨t2_set _ _ ((Below.heap_alloc _ _ _ hl3).trans n1'), ?_, ?_⟩
    · exact (HB.out _ _ (kb.bel ((Below.refl _ _).alloc (Nat.le_refl _) _)) p q).keep rfl rfl rfl
    · have k6 := HQ.out _ k5 p q
      exact ⟨k6.os, k6.tape, k6.output, k6.size, k6.block⟩
  obtain ⟨⟨_, _, _⟩, _, _, _⟩ := t3 n2'
  obtain ⟨⟨_, _⟩, _, _⟩ := t2 n0'
  obtain ⟨⟨_, _⟩, _, _⟩ := t2 n1'
  obtain ⟨⟨_, _, _⟩, _, _, _⟩ := t3 p2'
  obtain ⟨⟨_, _⟩, _, _⟩ := t2 p0'
  clear HK HQ HB HL k4 e2
  obtain ⟨r, hr⟩ : ∃ r, plc L[m] nm = r := ⟨_, rfl⟩
  rw [hr] at T1 T2
  have HR : Hid (plc L[m] nm = r) := hr
  clear hr
  go_wp2_with fail
  go_region
  all_goals
    obtain ⟨⟨_, _⟩, _, _⟩ := t2 (b := W.heap.size + 1) (w := (wA.alloc (.cells #[.bool (r.getD (false, 0)).1, .int .i64 ((r.getD (false, 0)).2 : Nat)] 185))) ((Below.heap_alloc _ _ _ (Array.getElem?_eq_some_iff.1 n1').1).trans n1')
    go_wp2
    refine bodyPost_ret (res_pl Tryz.results131 (HZ.out _ _ _ _).1 rfl) rfl ?_
    exact ⟨by rw [HR.out]; rfl, ⟨_, (HZ.out _ _ _ _).2.1⟩, (HZ.out _ _ _ _).2.2⟩
theorem find_any {W : World} {B bk mA mG : Nat} {v : Value} {L : List Es} {A : Int → Option Int} (h : Bk W bk mA mG v L A) (hv : MsAt W B v L) (hBA : B ≤ mA) (hBG : B ≤ mG)
    (hL : L.length ≤ 1048576) {m : Nat} (hm : m < L.length) (l1 : L[m].own.length ≤ 1048576) (l2 : L[m].oth.length ≤ 1048576) (nm : ByteArray) :
    Calls Tryz.prog 131 #[.pointer (some ⟨bk, 0, none⟩), .agg #[.int .i64 (m : Nat), .string nm]] W fun e w' => e = .returned (.tuple #[.agg #[.bool ((plc L[m] nm).getD (false, 0)).1, .int .i64 (((plc L[m] nm).getD (false, 0)).2 : Nat)], .bool (plc L[m] nm).isSome]) ∧ (∃ A', Bk w' bk mA mG v L A') ∧ Ofx mA mG W w' := by
  cases ham : A (m : Nat) with
  | none => exact find_noneX h hv hBA hBG hL hm l1 l2 nm ham
  | some x =>
    rcases h.one _ _ ham with rfl | rfl
    · exact find_one h hv hBA hBG hL hm l1 l2 nm ham
    · exact find_two h hv hBA hBG hL hm l1 l2 nm ham
end Go.Proofs.YtadkmlcnmkdfiaaGreatDoor
namespace Go.Proofs.YtadkmlcnmkdfiaaGreatDoor
open Go.RowKit Xp
set_option linter.unusedVariables false
set_option linter.unusedSimpArgs false

set_option maxRecDepth 100000 in
set_option maxHeartbeats 4000000 in
theorem joined_any (w : World) (a b : Fnd) : Calls Tryz.prog 130 #[.agg #[.int .i64 a.k, .int .i64 a.mod, .string a.name, .bool a.ty], .agg #[.int .i64 b.k, .int .i64 b.mod, .string b.name, .bool b.ty]] w fun e w' => e = .returned (.agg #[.int .i64 (joined a b).k, .int .i64 (joined a b).mod, .string (joined a b).name, .bool (joined a b).ty]) ∧ Below w.heap.size w w' := by
  obtain ⟨r, hr⟩ : ∃ r, joined a b = r := ⟨_, rfl⟩
  have HR : Hid (joined a b = r) := hr
  rw [hr]
  clear hr
  obtain ⟨wA, hwA⟩ : ∃ W, ((w.alloc (.cells #[.int .i64 a.k, .int .i64 a.mod, .string a.name, .bool a.ty] 41)).alloc (.cells #[.int .i64 b.k, .int .i64 b.mod, .string b.name, .bool b.ty] 41)).alloc (.cells #[.int .i64 0, .int .i64 0, .string ⟨#[]⟩, .bool false] 41) = W := ⟨_, rfl⟩
  have bA : Below w.heap.size w wA := by rw [← hwA]; exact (((Below.refl _ _).alloc (Nat.le_refl _) _).alloc (by simp) _).alloc (by simp; omega) _
  have sA : wA.heap.size = w.heap.size + 1 + 1 + 1 := by rw [← hwA]; simp
  have HS : Hid (wA.heap.size = w.heap.size + 1 + 1 + 1) := sA
  have HA : Hid (∀ W, Below wA.heap.size wA W → W.heap[w.heap.size]? = some (.cells #[.int .i64 a.k, .int .i64 a.mod, .string a.name, .bool a.ty] 41 (0, 0)) ∧ W.heap[w.heap.size + 1]? = some (.cells #[.int .i64 b.k, .int .i64 b.mod, .string b.name, .bool b.ty] 41 (0, 0)) ∧ W.heap[w.heap.size + 1 + 1]? = some (.cells #[.int .i64 0, .int .i64 0, .string ⟨#[]⟩, .bool false] 41 (0, 0))) := fun W bW => by
    refine ⟨(bW.block _ (by omega)).trans ?_, (bW.block _ (by omega)).trans ?_, (bW.block _ (by omega)).trans ?_⟩
    · rw [← hwA, Below.heap_alloc _ _ _ (by simp; omega), Below.heap_alloc _ _ _ (by simp)]; exact heap_alloc_new w _
    · rw [← hwA, Below.heap_alloc _ _ _ (by simp)]; exact hnewX _ (by simp)
    · rw [← hwA]; exact hnewX _ (by simp)
  obtain ⟨k0, k1, k2⟩ := HA.out _ (Below.refl _ wA)
  obtain ⟨⟨_, _, _, _⟩, _, _, _, _⟩ := t4 k0
  obtain ⟨⟨_, _, _, _⟩, _, _, _, _⟩ := t4 k1
  obtain ⟨⟨_, _, _, _⟩, _, _, _, _⟩ := t4 k2
  have CL := fun W => leads_any W a
  generalize hla : leads a = la at *
  have HLA : Hid (leads a = la) := hla
  clear hla sA
  have HL : Hid (∀ W, Calls Tryz.prog 40 #[.agg #[.int .i64 a.k, .int .i64 a.mod, .string a.name, .bool a.ty]] W fun e w' => e = .returned (.bool la) ∧ Below W.heap.size W w') := CL
  clear CL
  have fin : ∀ W (p q x y : Value), Below wA.heap.size wA W → Below w.heap.size w ((((W.setCell ⟨w.heap.size + 1 + 1, 0, none⟩ p).setCell ⟨w.heap.size + 1 + 1, 1, none⟩ q).setCell ⟨w.heap.size + 1 + 1, 2, none⟩ x).setCell ⟨w.heap.size + 1 + 1, 3, none⟩ y) := fun W p q x y b3 => by
    have z := HS.out
    exact ((((bA.trans (b3.mono (by omega))).setCell (by simp; omega) _).setCell (by simp; omega) _).setCell (by simp; omega) _).setCell (by simp; omega) _
  have HF : Hid _ := fin
  clear fin
  by_cases h0 : b.k = 0
  · obtain rfl : a = r := by rw [← HR.out, joined, if_pos (Or.inl h0)]
    have h0' : (b.k == 0) = true := by simp [h0]
    clear h0
    go_enter Tryz.func130, Tryz.ntmps130
    go_wp2
    refine bodyPost_ret (res_f4 Tryz.results130 (t4_set _ _ _ _ k2) rfl) rfl ?_
    exact ⟨rfl, HF.out _ _ _ _ _ (Below.refl _ _)⟩
  · have h0' : (b.k == 0) = false := by simp [h0]
    cases la with
    | false =>
      obtain rfl : b = r := by rw [← HR.out, joined, if_neg (fun e => by rcases e with e | e; exact h0 e; rw [HLA.out] at e; cases e.2), if_pos HLA.out]
      clear h0 HLA HR
      by_cases h4 : b.k = 4
      · have h4' : (b.k == 4) = true := by simp [h4]
        clear h4
        go_enter Tryz.func130, Tryz.ntmps130
        go_wp2_with fail
        go_at_call 40
        refine (HL.out _).mono ?_
        rintro e W1 ⟨rfl, b1⟩
        obtain ⟨m0, m1, m2⟩ := HA.out _ b1
        obtain ⟨⟨_, _, _, _⟩, _, _, _, _⟩ := t4 m0
        go_wp2_with fail
        go_at_call 40
        refine (HL.out _).mono ?_
        rintro e W2 ⟨rfl, b2⟩
        have b3 := b1.trans (b2.mono b1.size)
        obtain ⟨m0, m1, m2⟩ := HA.out _ b3
        obtain ⟨⟨_, _, _, _⟩, _, _, _, _⟩ := t4 m1
        obtain ⟨⟨_, _, _, _⟩, _, _, _, _⟩ := t4 m2
        go_wp2
        refine bodyPost_ret (res_f4 Tryz.results130 (t4_set _ _ _ _ m2) rfl) rfl ?_
        exact ⟨rfl, HF.out _ _ _ _ _ b3⟩
      · have h4' : (b.k == 4) = false := by simp [h4]
        clear h4
        go_enter Tryz.func130, Tryz.ntmps130
        go_wp2_with fail
        go_at_call 40
        refine (HL.out _).mono ?_
        rintro e W2 ⟨rfl, b3⟩
        obtain ⟨m0, m1, m2⟩ := HA.out _ b3
        obtain ⟨⟨_, _, _, _⟩, _, _, _, _⟩ := t4 m1
        obtain ⟨⟨_, _, _, _⟩, _, _, _, _⟩ := t4 m2
        go_wp2
        refine bodyPost_ret (res_f4 Tryz.results130 (t4_set _ _ _ _ m2) rfl) rfl ?_
        exact ⟨rfl, HF.out _ _ _ _ _ b3⟩
    | true => 
      by_cases h4 : b.k = 4
      · obtain rfl : a = r := by rw [← HR.out, joined, if_pos (Or.inr ⟨h4, HLA.out⟩)]
        have h4' : (b.k == 4) = true := by simp [h4]
        clear h0 h4 HLA HR
        go_enter Tryz.func130, Tryz.ntmps130
        go_wp2_with fail
        go_at_call 40
        refine (HL.out _).mono ?_
        rintro e W2 ⟨rfl, b3⟩
        obtain ⟨m0, m1, m2⟩ := HA.out _ b3
        obtain ⟨⟨_, _, _, _⟩, _, _, _, _⟩ := t4 m0
        obtain ⟨⟨_, _, _, _⟩, _, _, _, _⟩ := t4 m2
        go_wp2
        refine bodyPost_ret (res_f4 Tryz.results130 (t4_set _ _ _ _ m2) rfl) rfl ?_
        exact ⟨rfl, HF.out _ _ _ _ _ b3⟩
      · have h4' : (b.k == 4) = false := by simp [h4]
        have hj : joined a b = if a.k = b.k ∧ a.mod = b.mod ∧ a.name = b.name then { a with ty := a.ty && b.ty } else amb := by
          rw [joined, if_neg (fun e => by rcases e with e | e; exact h0 e; exact h4 e.1), if_neg (by rw [HLA.out]; decide)]
        rw [hj] at HR
        clear h0 h4 HLA hj
        obtain ⟨t, ht⟩ : ∃ t, (a.ty && b.ty) = t := ⟨_, rfl⟩
        rw [ht] at HR
        have hq := fun W => fd_neq W ⟨a.k, a.mod, a.name, t⟩ ⟨b.k, b.mod, b.name, t⟩
        have hg := fd_guard
        simp only [beq_self_eq_true, Bool.and_true] at hq
        have HQ : Hid (((a.k == b.k && a.mod == b.mod && a.name == b.name) = true) ↔ (a.k = b.k ∧ a.mod = b.mod ∧ a.name = b.name)) := by
          show _ ↔ _
          simp [and_assoc, ba_eq]
        have HT : Hid ((a.ty = false → t = false) ∧ (a.ty = true → b.ty = t)) := ⟨fun e => by rw [e] at ht; simpa using ht.symm, fun e => by rw [e] at ht; simpa using ht⟩
        clear ht
        have HN : Hid (∀ W, _) := hq
        clear hq
        have HG : Hid _ := hg
        clear hg
        go_enter Tryz.func130, Tryz.ntmps130
        go_wp2_with fail
        go_at_call 40
        refine (HL.out _).mono ?_
        rintro e W2 ⟨rfl, b3⟩
        obtain ⟨m0, m1, m2⟩ := HA.out _ b3
        have e0 := t4 m0
        have e1 := t4 m1
        have bl := fun p q => HF.out (W2.setCell p q)
        obtain ⟨⟨_, _, _, x3⟩, _, _, _, _⟩ := e0
        obtain ⟨⟨_, _, _, y3⟩, _, _, _, _⟩ := e1
        have W2x : ∃ W3, (W2.setCell ⟨w.heap.size, 3, none⟩ (.bool t)).setCell ⟨w.heap.size + 1, 3, none⟩ (.bool t) = W3 := ⟨_, rfl⟩
        obtain ⟨W3, hW3⟩ := W2x
        have n0 : W3.heap[w.heap.size]? = some (.cells #[.int .i64 a.k, .int .i64 a.mod, .string a.name, .bool t] 41 (0, 0)) := by
          rw [← hW3, Below.heap_setCell _ _ _ _ (by simp)]; exact t4_set3 _ m0
        have n1 : W3.heap[w.heap.size + 1]? = some (.cells #[.int .i64 b.k, .int .i64 b.mod, .string b.name, .bool t] 41 (0, 0)) := by
          rw [← hW3]; exact t4_set3 _ ((Below.heap_setCell _ _ _ _ (by simp)).trans m1)
        have n2 : W3.heap[w.heap.size + 1 + 1]? = some (.cells #[.int .i64 0, .int .i64 0, .string ⟨#[]⟩, .bool false] 41 (0, 0)) := by
          rw [← hW3, Below.heap_setCell _ _ _ _ (by simp), Below.heap_setCell _ _ _ _ (by simp; omega)]; exact m2
        have b4 : Below w.heap.size w W3 := by
          have z := HS.out
          rw [← hW3]
          exact ((bA.trans (b3.mono (by omega))).setCell (by simp) _).setCell (by simp) _
        clear HF bl HL HA
        have HM : Hid (W3.heap[w.heap.size]? = some (.cells #[.int .i64 a.k, .int .i64 a.mod, .string a.name, .bool t] 41 (0, 0)) ∧ W3.heap[w.heap.size + 1]? = some (.cells #[.int .i64 b.k, .int .i64 b.mod, .string b.name, .bool t] 41 (0, 0)) ∧ W3.heap[w.heap.size + 1 + 1]? = some (.cells #[.int .i64 0, .int .i64 0, .string ⟨#[]⟩, .bool false] 41 (0, 0))) := ⟨n0, n1, n2⟩
        clear n0 n1 n2
        have HW : Hid (∀ (p q x y : Value), Below w.heap.size w ((((W3.setCell ⟨w.heap.size + 1 + 1, 0, none⟩ p).setCell ⟨w.heap.size + 1 + 1, 1, none⟩ q).setCell ⟨w.heap.size + 1 + 1, 2, none⟩ x).setCell ⟨w.heap.size + 1 + 1, 3, none⟩ y)) := fun p q x y =>
          (((b4.setCell (by simp; omega) _).setCell (by simp; omega) _).setCell (by simp; omega) _).setCell (by simp; omega) _
        have HB : Hid (Below w.heap.size w W3) := b4
        clear b4
        cases hy : a.ty
        · have : t = false := HT.out.1 hy
          subst this
          rw [hy] at x3
          clear hy
          go_upto_region 8 with fail
          obtain ⟨m0, m1, m2⟩ := HM.out
          obtain ⟨⟨_, _, _, _⟩, _, _, _, _⟩ := t4 m0
          obtain ⟨⟨_, _, _, _⟩, _, _, _, _⟩ := t4 m1
          obtain ⟨⟨_, _, _, _⟩, _, _, _, _⟩ := t4 m2
          have hq := HN.out
          have hg := HG.out
          cases hc : (a.k == b.k && a.mod == b.mod && a.name == b.name)
          · rw [hc] at hq HQ
            clear hc
            obtain rfl : amb = r := by rw [← HR.out, if_neg (fun e => by have := HQ.out.2 e; cases this)]
            go_wp2
            refine bodyPost_ret (res_f4 Tryz.results130 (t4_set _ _ _ _ m2) rfl) rfl ?_
            exact ⟨rfl, HW.out _ _ _ _⟩
          · rw [hc] at hq HQ
            clear hc
            have hr := HR.out
            rw [if_pos (HQ.out.1 rfl)] at hr
            subst hr
            go_wp2
            refine bodyPost_ret (res_f4 Tryz.results130 (t4_set _ _ _ _ m2) rfl) rfl ?_
            exact ⟨rfl, HW.out _ _ _ _⟩
        · have : b.ty = t := HT.out.2 hy
          subst this
          rw [hy] at x3
          clear hy
          go_upto_region 8 with fail
          obtain ⟨m0, m1, m2⟩ := HM.out
          obtain ⟨⟨_, _, _, _⟩, _, _, _, _⟩ := t4 m0
          obtain ⟨⟨_, _, _, _⟩, _, _, _, _⟩ := t4 m1
          obtain ⟨⟨_, _, _, _⟩, _, _, _, _⟩ := t4 m2
          have hq := HN.out
          have hg := HG.out
          cases hc : (a.k == b.k && a.mod == b.mod && a.name == b.name)
          · rw [hc] at hq HQ
            clear hc
            obtain rfl : amb = r := by rw [← HR.out, if_neg (fun e => by have := HQ.out.2 e; cases this)]
            go_wp2
            refine bodyPost_ret (res_f4 Tryz.results130 (t4_set _ _ _ _ m2) rfl) rfl ?_
            exact ⟨rfl, HW.out _ _ _ _⟩
          · rw [hc] at hq HQ
            clear hc
            have hr := HR.out
            rw [if_pos (HQ.out.1 rfl)] at hr
            subst hr
            go_wp2
            refine bodyPost_ret (res_f4 Tryz.results130 (t4_set _ _ _ _ m2) rfl) rfl ?_
            exact ⟨rfl, HW.out _ _ _ _⟩
end Go.Proofs.YtadkmlcnmkdfiaaGreatDoor
