/- Own text. Package parse: the tokens of what is read have their brackets closed (of the model; no program is named here). Package parse: the same tokens between a bracket and its end, one rule more being open (of the model; no program is named here). -/
import Derived.Test.YtmfgcaffdkakhaaM5
namespace Go.Proofs.Ytmfgcaffdkakhaa
open Go.RowKit
set_option linter.unusedVariables false
set_option linter.unusedSimpArgs false

/-- how many brackets are open ahead of a token. -/
def sumO (L : List Tok) : Nat → Int
  | 0 => 0
  | c + 1 => sumO L c + openI (tokA L c)
/-- from a0 to c so many brackets more were opened than closed, and never fewer than none. -/
structure AtO (L : List Tok) (a0 d c : Nat) : Prop where
  le : a0 ≤ c
  sum : sumO L c = sumO L a0 + (d : Int)
  pos : ∀ i, a0 ≤ i → i ≤ c → sumO L a0 ≤ sumO L i
variable {L : List Tok}
theorem AtO.refl (a : Nat) : AtO L a 0 a := by
  refine ⟨Nat.le_refl _, by simp, fun i h1 h2 => ?_⟩
  obtain rfl : i = a := by omega
  exact Int.le_refl _
theorem AtO.go {a0 d c c' : Nat} (h : AtO L a0 d c) (h2 : AtO L c 0 c') : AtO L a0 d c' := by
  refine ⟨Nat.le_trans h.le h2.le, by have := h.sum; have := h2.sum; omega, fun i h3 h4 => ?_⟩
  by_cases hi : i ≤ c
  · exact h.pos i h3 hi
  · have := h2.pos i (by omega) h4
    have := h.sum
    omega
theorem AtO.step {a0 d c : Nat} (h : AtO L a0 d c) (d' : Nat) (e : (d : Int) + openI (tokA L c) = d') : AtO L a0 d' (c + 1) := by
  have hs : sumO L (c + 1) = sumO L c + openI (tokA L c) := rfl
  have h1 := h.sum
  refine ⟨Nat.le_succ_of_le h.le, by omega, fun i h3 h4 => ?_⟩
  by_cases hi : i ≤ c
  · exact h.pos i h3 hi
  · obtain rfl : i = c + 1 := by omega
    omega
theorem AtO.plain {a0 d c : Nat} (h : AtO L a0 d c) (e : openI (tokA L c) = 0) : AtO L a0 d (c + 1) := h.step d (by omega)
/-- what a sign does to the open brackets. -/
def opS (s : ByteArray) : Int := if s.toList = [40] ∨ s.toList = [91] ∨ s.toList = [123] then 1 else if s.toList = [41] ∨ s.toList = [93] ∨ s.toList = [125] then -1 else 0
theorem open_isS {a : Nat} {s : ByteArray} (h : isS L a s = true) : openI (tokA L a) = opS s := by
  unfold isS at h
  simp only [Bool.and_eq_true, beq_iff_eq] at h
  unfold openI opS
  rw [if_pos h.1, h.2]
theorem open_kind {a : Nat} (h : (tokA L a).k ≠ 5) : openI (tokA L a) = 0 := by unfold openI; rw [if_neg h]
theorem open_isWd {a : Nat} {s : ByteArray} (h : isWd L a s = true) : openI (tokA L a) = 0 := by
  unfold isWd at h
  simp only [Bool.and_eq_true, beq_iff_eq] at h
  exact open_kind (by omega)
theorem open_isN {a : Nat} (h : isN L a = true) : openI (tokA L a) = 0 := by
  unfold isN at h
  simp only [beq_iff_eq] at h
  exact open_kind (by omega)
theorem open_line {a : Nat} (h : lineI (tokA L a) ≠ 0) : openI (tokA L a) = 0 := by
  unfold lineI at h
  unfold openI
  split
  · rename_i h5
    rw [if_pos h5] at h
    rw [if_neg, if_neg]
    · intro hh
      apply h
      rcases hh with e | e | e <;> rw [e] <;> decide
    · intro hh
      apply h
      rcases hh with e | e | e <;> rw [e] <;> decide
  · rfl
def Bl {α : Type} (L : List Tok) (a0 d : Nat) (r : Rs α) : Prop := ∀ x b, r = .ok x b → AtO L a0 d b
theorem Bl.bad {α : Type} {a0 d p : Nat} {e : Int} : Bl L a0 d (.bad p e : Rs α) := fun x b h => by cases h
theorem Bl.ok {α : Type} {a0 d b : Nat} {v : α} (h : AtO L a0 d b) : Bl L a0 d (.ok v b) := fun x c e => by cases e; exact h
theorem Bl.bind {α β : Type} {a0 d d' : Nat} {r : Rs α} {f : α → Nat → Rs β} (hr : Bl L a0 d' r) (hf : ∀ u a1, AtO L a0 d' a1 → Bl L a0 d (f u a1)) : Bl L a0 d (r.bind f) := by
  cases r with
  | ok u a1 => exact hf u a1 (hr u a1 rfl)
  | bad p e => exact Bl.bad
theorem Bl.lift {α : Type} {a0 d a : Nat} {r : Rs α} (hA : AtO L a0 d a) (h : Bl L a 0 r) : Bl L a0 d r := fun x b e => hA.go (h x b e)
theorem Bl.iteS1 {α : Type} {a0 d d' a : Nat} {s : ByteArray} {x y : Rs α} (hs : opS s = 1) (hA : AtO L a0 d a) (hx : AtO L a0 (d + 1) (a + 1) → Bl L a0 d' x) (hy : Bl L a0 d' y) : Bl L a0 d' (if isS L a s = true then x else y) := by
  split
  · rename_i h; exact hx (hA.step _ (by rw [open_isS h, hs]; simp))
  · exact hy
theorem Bl.iteS0 {α : Type} {a0 d d' a : Nat} {s : ByteArray} {x y : Rs α} (hs : opS s = 0) (hA : AtO L a0 d a) (hx : AtO L a0 d (a + 1) → openI (tokA L a) = 0 → Bl L a0 d' x) (hy : Bl L a0 d' y) : Bl L a0 d' (if isS L a s = true then x else y) := by
  split
  · rename_i h; exact hx (hA.plain (by rw [open_isS h, hs])) (by rw [open_isS h, hs])
  · exact hy
theorem Bl.iteSc {α : Type} {a0 d d' a : Nat} {s : ByteArray} {x y : Rs α} (hs : opS s = -1) (hA : AtO L a0 (d + 1) a) (hx : AtO L a0 d (a + 1) → Bl L a0 d' x) (hy : Bl L a0 d' y) : Bl L a0 d' (if isS L a s = true then x else y) := by
  split
  · rename_i h; exact hx (hA.step _ (by rw [open_isS h, hs]; omega))
  · exact hy
theorem Bl.iteW {α : Type} {a0 d d' a : Nat} {s : ByteArray} {x y : Rs α} (hA : AtO L a0 d a) (hx : AtO L a0 d (a + 1) → Bl L a0 d' x) (hy : Bl L a0 d' y) : Bl L a0 d' (if isWd L a s = true then x else y) := by
  split
  · rename_i h; exact hx (hA.plain (open_isWd h))
  · exact hy
theorem Bl.iteN {α : Type} {a0 d d' a : Nat} {x y : Rs α} (hx : Bl L a0 d' x) (hy : Bl L a0 d' y) : Bl L a0 d' (if isN L a = true then x else y) := by
  split
  · exact hx
  · exact hy
theorem Bl.iteK {α : Type} {a0 d d' a : Nat} {k : Int} (hk : k ≠ 5) {x y : Rs α} (hA : AtO L a0 d a) (hx : AtO L a0 d (a + 1) → Bl L a0 d' x) (hy : Bl L a0 d' y) : Bl L a0 d' (if (tokA L a).k = k then x else y) := by
  split
  · rename_i h; exact hx (hA.plain (open_kind (by omega)))
  · exact hy
theorem Bl.ite3 {α : Type} {a0 d d' a : Nat} {s1 s2 : ByteArray} {w : ByteArray} {x y : Rs α} (h1 : opS s1 = 0) (h2 : opS s2 = 0) (hA : AtO L a0 d a) (hx : AtO L a0 d (a + 1) → Bl L a0 d' x) (hy : Bl L a0 d' y) : Bl L a0 d' (if isS L a s1 = true ∨ isS L a s2 = true ∨ isWd L a w = true then x else y) := by
  split
  · rename_i h; exact hx (hA.plain (h.elim (fun h => by rw [open_isS h, h1]) (fun h => h.elim (fun h => by rw [open_isS h, h2]) open_isWd)))
  · exact hy
theorem Bl.iteT {α : Type} {a0 d d' a : Nat} {s2 : ByteArray} {w : ByteArray} {x y : Rs α} (hA : AtO L a0 d a) (hx : AtO L a0 d (a + 1) → Bl L a0 d' x) (hy : Bl L a0 d' y) : Bl L a0 d' (if isN L a = true ∨ isWd L a s2 = true ∨ isWd L a w = true then x else y) := by
  split
  · rename_i h; exact hx (hA.plain (h.elim open_isN (fun h => h.elim open_isWd open_isWd)))
  · exact hy
theorem Bl.ite {α : Type} {a0 d : Nat} {p : Prop} [Decidable p] {x y : Rs α} (hx : Bl L a0 d x) (hy : Bl L a0 d y) : Bl L a0 d (if p then x else y) := by
  split
  · exact hx
  · exact hy
theorem want_bl1 {a0 d a : Nat} {s : ByteArray} (hs : opS s = 1) (hA : AtO L a0 d a) : Bl L a0 (d + 1) (wantR L s a) := Bl.iteS1 hs hA (fun h => Bl.ok h) Bl.bad
theorem want_bl0 {a0 d a : Nat} {s : ByteArray} (hs : opS s = 0) (hA : AtO L a0 d a) : Bl L a0 d (wantR L s a) := Bl.iteS0 hs hA (fun h _ => Bl.ok h) Bl.bad
theorem want_blc {a0 d a : Nat} {s : ByteArray} (hs : opS s = -1) (hA : AtO L a0 (d + 1) a) : Bl L a0 d (wantR L s a) := Bl.iteSc hs hA (fun h => Bl.ok h) Bl.bad
theorem id_bl {a0 d a : Nat} (hA : AtO L a0 d a) : Bl L a0 d (idR L a) := by
  unfold idR
  split
  · rename_i h; exact Bl.ok (hA.plain (open_isN h))
  · exact Bl.bad
theorem prop_bl {a0 d a : Nat} (hA : AtO L a0 d a) : Bl L a0 d (propR' L a) := by
  unfold propR'
  split
  · rename_i h; exact Bl.ok (hA.plain (h.elim open_isN (fun h => open_kind (by omega))))
  · exact Bl.bad
theorem add_bl {a0 d a : Nat} {ns : List (List UInt8)} (hA : AtO L a0 d a) : Bl L a0 d (addR L ns a) := Bl.ite Bl.bad (Bl.ok hA)
theorem begin_bl {a0 d a o : Nat} (hA : AtO L a0 d a) : Bl L a0 d (beginR L a o) := Bl.ite Bl.bad (Bl.ite Bl.bad (Bl.ok hA))
theorem listG_bl {σ : Type} {s : ByteArray} (hs : opS s = -1) {F : σ → Nat → Rs (Nd × σ)} (hF : ∀ st a, Bl L a 0 (F st a)) : ∀ (n : Nat) (acc : List Nd) (st : σ) (a a0 d : Nat), AtO L a0 (d + 1) a → Bl L a0 d (listG L s F n acc st a)
  | 0, _, _, _, _, _, _ => Bl.bad
  | n + 1, acc, st, a, a0, d, h => by
    rw [listG]
    refine Bl.iteSc hs h (fun h => Bl.ok h) ?_
    have hf := hF st a
    split
    · exact Bl.bad
    · rename_i x a1 e
      have h1 : AtO L a0 (d + 1) a1 := h.go (hf _ _ e)
      split
      · exact listG_bl hs hF n _ _ _ _ _ h1
      · exact Bl.iteS0 (by decide +kernel) h1 (fun h2 _ => listG_bl hs hF n _ _ _ _ _ h2) Bl.bad
theorem listE_bl {s : ByteArray} (hs : opS s = -1) {E : Nat → Rs Nd} (hE : ∀ a, Bl L a 0 (E a)) {a a0 d : Nat} (h : AtO L a0 (d + 1) a) : Bl L a0 d (listE L E s a) := listG_bl hs (fun _ a => (hE a).bind (fun _ _ h => Bl.ok h)) _ _ _ _ _ _ h
theorem stmtsG_bl {F : Nat → Rs Nd} (hF : ∀ a, Bl L a 0 (F a)) : ∀ (n : Nat) (acc : List Nd) (a a0 d : Nat), AtO L a0 (d + 1) a → Bl L a0 d (stmtsG L F n acc a)
  | 0, _, _, _, _, _ => Bl.bad
  | n + 1, acc, a, a0, d, h => by
    rw [stmtsG]
    refine Bl.iteSc (by decide +kernel) h (fun h => Bl.ok h) ?_
    have hf := hF a
    split
    · exact Bl.bad
    · rename_i x a1 e
      exact stmtsG_bl hF n _ _ _ _ (h.go (hf _ _ e))
theorem blockG_bl {F : Nat → Rs Nd} (hF : ∀ a, Bl L a 0 (F a)) {a a0 d : Nat} (h : AtO L a0 d a) : Bl L a0 d (blockG L F a) := (want_bl1 (by decide +kernel) h).bind fun _ _ h1 => (stmtsG_bl hF _ _ _ _ _ h1).bind fun _ _ h2 => Bl.ok h2
theorem paramsG_bl {G : Nat → Rs Nd} (hG : ∀ a, Bl L a 0 (G a)) {a a0 d : Nat} (h : AtO L a0 d a) : Bl L a0 d (paramsG L G a) :=
  (want_bl1 (by decide +kernel) h).bind fun _ _ h1 => (listG_bl (by decide +kernel) (fun ns b => (add_bl (AtO.refl b)).bind fun _ _ _ => (id_bl (AtO.refl b)).bind fun _ _ h2 => (Bl.lift h2 (hG _)).bind fun _ _ h3 => Bl.ok h3) _ _ _ _ _ _ h1).bind fun _ _ h2 => Bl.ok h2
theorem binG_bl {B : Nat → Nat → Rs Nd} (hB : ∀ m a, 1 ≤ m → Bl L a 0 (B m a)) (m : Nat) (hm : 1 ≤ m) : ∀ (n : Nat) (nd : Nd) (a a0 d : Nat), AtO L a0 d a → Bl L a0 d (binG L B m n nd a)
  | 0, _, _, _, _, _ => Bl.bad
  | n + 1, nd, a, a0, d, h => by
    rw [binG]
    split
    · exact Bl.ok h
    · exact (Bl.lift (h.plain (open_line (by omega))) (hB _ _ (by omega))).bind fun _ _ h2 => binG_bl hB m hm n _ _ _ _ h2
theorem postG_bl {E : Nat → Rs Nd} (hE : ∀ a, Bl L a 0 (E a)) : ∀ (n : Nat) (nd : Nd) (a a0 d : Nat), AtO L a0 d a → Bl L a0 d (postG L E n nd a)
  | 0, _, _, _, _, _ => Bl.bad
  | n + 1, nd, a, a0, d, h => by
    rw [postG]
    exact Bl.iteS0 (by decide +kernel) h (fun q _ => (prop_bl q).bind fun _ _ h2 => postG_bl hE n _ _ _ _ h2) (Bl.iteS1 (by decide +kernel) h (fun q => (Bl.lift q (hE _)).bind fun _ _ h2 => (want_blc (by decide +kernel) h2).bind fun _ _ h3 => postG_bl hE n _ _ _ _ h3) (Bl.iteS1 (by decide +kernel) h (fun q => (listE_bl (by decide +kernel) hE q).bind fun _ _ h2 => postG_bl hE n _ _ _ _ h2) (Bl.ok h)))
theorem unionG_bl {E : Nat → Rs Nd} (hE : ∀ a, Bl L a 0 (E a)) : ∀ (n : Nat) (acc : List Nd) (a a0 d : Nat), AtO L a0 d a → Bl L a0 d (unionG L E n acc a)
  | 0, _, _, _, _, _ => Bl.bad
  | n + 1, acc, a, a0, d, h => by
    rw [unionG]
    exact (Bl.lift h (hE a)).bind fun _ _ h1 => Bl.iteS0 (by decide +kernel) h1 (fun q _ => unionG_bl hE n _ _ _ _ q) (Bl.ok h1)
theorem arrayG_bl : ∀ (n : Nat) (nd : Nd) (a a0 d : Nat), AtO L a0 d a → Bl L a0 d (arrayG L n nd a)
  | 0, _, _, _, _, _ => Bl.bad
  | n + 1, nd, a, a0, d, h => by
    rw [arrayG]
    exact Bl.iteS1 (by decide +kernel) h (fun q => (want_blc (by decide +kernel) q).bind fun _ _ h2 => arrayG_bl n _ _ _ _ h2) (Bl.ok h)
theorem fieldsG_bl {T : Nat → Rs Nd} (hT : ∀ a, Bl L a 0 (T a)) : ∀ (n : Nat) (acc : List Nd) (ns : List (List UInt8)) (a a0 d : Nat), AtO L a0 (d + 1) a → Bl L a0 d (fieldsG L T n acc ns a)
  | 0, _, _, _, _, _, _ => Bl.bad
  | n + 1, acc, ns, a, a0, d, h => by
    rw [fieldsG]
    exact Bl.iteSc (by decide +kernel) h (fun q => Bl.ok q) ((add_bl h).bind fun _ _ _ => (prop_bl h).bind fun _ _ h1 => (Bl.lift h1 (hT _)).bind fun _ _ h2 => (want_bl0 (by decide +kernel) h2).bind fun _ _ h3 => fieldsG_bl hT n _ _ _ _ _ h3)
structure BlA (L : List Tok) (f : Nat) : Prop where
  expr' : ∀ (a : Nat) (o : Nat), Bl L a 0 (exprF L f a o)
  assign' : ∀ (nd : Nd) (a : Nat) (o : Nat), openI (tokA L a) = 0 → Bl L a 0 (assignF L f nd a o)
  cond' : ∀ (a : Nat) (o : Nat), Bl L a 0 (condF L f a o)
  bin' : ∀ (m : Nat) (a : Nat) (o : Nat), 1 ≤ m → Bl L a 0 (binF L f m a o)
  unary' : ∀ (a : Nat) (o : Nat), Bl L a 0 (unaryF L f a o)
  post' : ∀ (a : Nat) (o : Nat), Bl L a 0 (postF L f a o)
  prim' : ∀ (a : Nat) (o : Nat), Bl L a 0 (primF L f a o)
  wprim' : ∀ (a : Nat) (o : Nat), Bl L a 0 (wprimF L f a o)
  sprim' : ∀ (a : Nat) (o : Nat), Bl L a 0 (sprimF L f a o)
  prop' : ∀ (a : Nat) (o : Nat), Bl L a 0 (propF L f a o)
  arrow' : ∀ (a : Nat) (o : Nat), Bl L a 0 (arrowF L f a o)
  abody' : ∀ (a : Nat) (o : Nat), Bl L a 0 (abodyF L f a o)
  typeOr' : ∀ (a : Nat) (o : Nat), Bl L a 0 (typeOrF L f a o)
  typing' : ∀ (a : Nat) (o : Nat), Bl L a 0 (typingF L f a o)
  type' : ∀ (a : Nat) (o : Nat), Bl L a 0 (typeF L f a o)
  ptype' : ∀ (a : Nat) (o : Nat), Bl L a 0 (ptypeF L f a o)
  rtype' : ∀ (a : Nat) (o : Nat), Bl L a 0 (rtypeF L f a o)
  objt' : ∀ (a : Nat) (o : Nat), ∀ (a0 d : Nat), AtO L a0 (d + 1) a → Bl L a0 d (objtF L f a o)
  ftype' : ∀ (a : Nat) (o : Nat), Bl L a 0 (ftypeF L f a o)
  blk' : ∀ (a : Nat) (o : Nat), Bl L a 0 (blkF L f a o)
  stmt' : ∀ (a : Nat) (o : Nat), Bl L a 0 (stmtF L f a o)
  let' : ∀ (q : Int) (a : Nat) (o : Nat), Bl L a 0 (letF L f q a o)
  condi' : ∀ (a : Nat) (o : Nat), Bl L a 0 (condiF L f a o)
  els' : ∀ (a : Nat) (o : Nat), Bl L a 0 (elseF L f a o)
  exprOr' : ∀ (a : Nat) (o : Nat), Bl L a 0 (exprOrF L f a o)
  any' : ∀ (a : Nat) (o : Nat), Bl L a 0 (anyF L f a o)
set_option maxHeartbeats 8000000 in
theorem bl_all (L : List Tok) : ∀ f, BlA L f := by
  intro f
  induction f with
  | zero => constructor <;> (intros; simp [exprF, assignF, condF, binF, unaryF, postF, primF, wprimF, sprimF, propF, arrowF, abodyF, typeOrF, typingF, typeF, ptypeF, rtypeF, objtF, ftypeF, blkF, stmtF, letF, condiF, elseF, exprOrF, anyF]; exact Bl.bad)
  | succ f ih =>
    constructor
    · intro a o
      have hA : AtO L a 0 a := AtO.refl a
      rw [exprF]
      repeat (first
        | exact Bl.bad
        | exact Bl.ok (by assumption)
        | exact blockG_bl (fun _ => ih.stmt' _ _) (by assumption)
        | exact binG_bl (fun _ _ h1 => ih.bin' _ _ _ h1) _ (by omega) _ _ _ _ _ (by assumption)
        | exact postG_bl (fun _ => ih.expr' _ _) _ _ _ _ _ (by assumption)
        | exact arrayG_bl _ _ _ _ _ (by assumption)
        | (refine Bl.iteS1 (by decide +kernel) (by assumption) (fun _ => ?_) ?_)
        | (refine Bl.iteS0 (by decide +kernel) (by assumption) (fun _ _ => ?_) ?_)
        | (refine Bl.iteW (by assumption) (fun _ => ?_) ?_)
        | (refine Bl.iteN (d := 0) ?_ ?_)
        | (refine Bl.iteK (by decide) (by assumption) (fun _ => ?_) ?_)
        | (refine Bl.ite3 (by decide +kernel) (by decide +kernel) (by assumption) (fun _ => ?_) ?_)
        | (refine Bl.iteT (by assumption) (fun _ => ?_) ?_)
        | (refine Bl.ite ?_ ?_)
        | (refine Bl.bind (begin_bl (by assumption)) ?_; intro _ _ _)
        | (refine Bl.bind (want_bl1 (by decide +kernel) (by assumption)) ?_; intro _ _ _)
        | (refine Bl.bind (want_bl0 (by decide +kernel) (by assumption)) ?_; intro _ _ _)
        | (refine Bl.bind (want_blc (by decide +kernel) (by assumption)) ?_; intro _ _ _)
        | (refine Bl.bind (id_bl (by assumption)) ?_; intro _ _ _)
        | (refine Bl.bind (prop_bl (by assumption)) ?_; intro _ _ _)
        | (refine Bl.bind (listE_bl (by decide +kernel) (fun _ => by first | exact ih.expr' _ _ | exact ih.prop' _ _) (by assumption)) ?_; intro _ _ _)
        | (refine Bl.bind (paramsG_bl (fun _ => by first | exact ih.typeOr' _ _ | exact ih.typing' _ _) (by assumption)) ?_; intro _ _ _)
        | (refine Bl.bind (unionG_bl (fun _ => ih.ptype' _ _) _ _ _ _ _ (by assumption)) ?_; intro _ _ _)
        | (refine Bl.bind (fieldsG_bl (fun _ => ih.typing' _ _) _ _ _ _ _ _ (by assumption)) ?_; intro _ _ _)
        | (refine Bl.bind (by first | exact Bl.lift (by assumption) (ih.assign' _ _ _ (by assumption)) | exact Bl.lift (by assumption) (ih.cond' _ _)) ?_; intro _ _ _)
        | (first | exact Bl.lift (by assumption) (ih.assign' _ _ _ (by assumption)) | exact Bl.lift (by assumption) (ih.cond' _ _)))
    · intro nd a o hz
      have hA : AtO L a 0 a := AtO.refl a
      have hA2 : AtO L a 0 (a + 1) := hA.plain hz
      rw [assignF]
      repeat (first
        | exact Bl.bad
        | exact Bl.ok (by assumption)
        | exact blockG_bl (fun _ => ih.stmt' _ _) (by assumption)
        | exact binG_bl (fun _ _ h1 => ih.bin' _ _ _ h1) _ (by omega) _ _ _ _ _ (by assumption)
        | exact postG_bl (fun _ => ih.expr' _ _) _ _ _ _ _ (by assumption)
        | exact arrayG_bl _ _ _ _ _ (by assumption)
        | (refine Bl.iteS1 (by decide +kernel) (by assumption) (fun _ => ?_) ?_)
        | (refine Bl.iteS0 (by decide +kernel) (by assumption) (fun _ _ => ?_) ?_)
        | (refine Bl.iteW (by assumption) (fun _ => ?_) ?_)
        | (refine Bl.iteN (d := 0) ?_ ?_)
        | (refine Bl.iteK (by decide) (by assumption) (fun _ => ?_) ?_)
        | (refine Bl.ite3 (by decide +kernel) (by decide +kernel) (by assumption) (fun _ => ?_) ?_)
        | (refine Bl.iteT (by assumption) (fun _ => ?_) ?_)
        | (refine Bl.ite ?_ ?_)
        | (refine Bl.bind (begin_bl (by assumption)) ?_; intro _ _ _)
        | (refine Bl.bind (want_bl1 (by decide +kernel) (by assumption)) ?_; intro _ _ _)
        | (refine Bl.bind (want_bl0 (by decide +kernel) (by assumption)) ?_; intro _ _ _)
        | (refine Bl.bind (want_blc (by decide +kernel) (by assumption)) ?_; intro _ _ _)
        | (refine Bl.bind (id_bl (by assumption)) ?_; intro _ _ _)
        | (refine Bl.bind (prop_bl (by assumption)) ?_; intro _ _ _)
        | (refine Bl.bind (listE_bl (by decide +kernel) (fun _ => by first | exact ih.expr' _ _ | exact ih.prop' _ _) (by assumption)) ?_; intro _ _ _)
        | (refine Bl.bind (paramsG_bl (fun _ => by first | exact ih.typeOr' _ _ | exact ih.typing' _ _) (by assumption)) ?_; intro _ _ _)
        | (refine Bl.bind (unionG_bl (fun _ => ih.ptype' _ _) _ _ _ _ _ (by assumption)) ?_; intro _ _ _)
        | (refine Bl.bind (fieldsG_bl (fun _ => ih.typing' _ _) _ _ _ _ _ _ (by assumption)) ?_; intro _ _ _)
        | (refine Bl.bind (by first | exact Bl.lift (by assumption) (ih.expr' _ _)) ?_; intro _ _ _)
        | (first | exact Bl.lift (by assumption) (ih.expr' _ _)))
    · intro a o
      have hA : AtO L a 0 a := AtO.refl a
      rw [condF]
      repeat (first
        | exact Bl.bad
        | exact Bl.ok (by assumption)
        | exact blockG_bl (fun _ => ih.stmt' _ _) (by assumption)
        | exact binG_bl (fun _ _ h1 => ih.bin' _ _ _ h1) _ (by omega) _ _ _ _ _ (by assumption)
        | exact postG_bl (fun _ => ih.expr' _ _) _ _ _ _ _ (by assumption)
        | exact arrayG_bl _ _ _ _ _ (by assumption)
        | (refine Bl.iteS1 (by decide +kernel) (by assumption) (fun _ => ?_) ?_)
        | (refine Bl.iteS0 (by decide +kernel) (by assumption) (fun _ _ => ?_) ?_)
        | (refine Bl.iteW (by assumption) (fun _ => ?_) ?_)
        | (refine Bl.iteN (d := 0) ?_ ?_)
        | (refine Bl.iteK (by decide) (by assumption) (fun _ => ?_) ?_)
        | (refine Bl.ite3 (by decide +kernel) (by decide +kernel) (by assumption) (fun _ => ?_) ?_)
        | (refine Bl.iteT (by assumption) (fun _ => ?_) ?_)
        | (refine Bl.ite ?_ ?_)
        | (refine Bl.bind (begin_bl (by assumption)) ?_; intro _ _ _)
        | (refine Bl.bind (want_bl1 (by decide +kernel) (by assumption)) ?_; intro _ _ _)
        | (refine Bl.bind (want_bl0 (by decide +kernel) (by assumption)) ?_; intro _ _ _)
        | (refine Bl.bind (want_blc (by decide +kernel) (by assumption)) ?_; intro _ _ _)
        | (refine Bl.bind (id_bl (by assumption)) ?_; intro _ _ _)
        | (refine Bl.bind (prop_bl (by assumption)) ?_; intro _ _ _)
        | (refine Bl.bind (listE_bl (by decide +kernel) (fun _ => by first | exact ih.expr' _ _ | exact ih.prop' _ _) (by assumption)) ?_; intro _ _ _)
        | (refine Bl.bind (paramsG_bl (fun _ => by first | exact ih.typeOr' _ _ | exact ih.typing' _ _) (by assumption)) ?_; intro _ _ _)
        | (refine Bl.bind (unionG_bl (fun _ => ih.ptype' _ _) _ _ _ _ _ (by assumption)) ?_; intro _ _ _)
        | (refine Bl.bind (fieldsG_bl (fun _ => ih.typing' _ _) _ _ _ _ _ _ (by assumption)) ?_; intro _ _ _)
        | (refine Bl.bind (by first | exact Bl.lift (by assumption) (ih.expr' _ _) | exact Bl.lift (by assumption) (ih.bin' _ _ _ (by omega))) ?_; intro _ _ _)
        | (first | exact Bl.lift (by assumption) (ih.expr' _ _) | exact Bl.lift (by assumption) (ih.bin' _ _ _ (by omega))))
    · intro m a o hm
      have hA : AtO L a 0 a := AtO.refl a
      rw [binF]
      repeat (first
        | exact Bl.bad
        | exact Bl.ok (by assumption)
        | exact blockG_bl (fun _ => ih.stmt' _ _) (by assumption)
        | exact binG_bl (fun _ _ h1 => ih.bin' _ _ _ h1) _ (by omega) _ _ _ _ _ (by assumption)
        | exact postG_bl (fun _ => ih.expr' _ _) _ _ _ _ _ (by assumption)
        | exact arrayG_bl _ _ _ _ _ (by assumption)
        | (refine Bl.iteS1 (by decide +kernel) (by assumption) (fun _ => ?_) ?_)
        | (refine Bl.iteS0 (by decide +kernel) (by assumption) (fun _ _ => ?_) ?_)
        | (refine Bl.iteW (by assumption) (fun _ => ?_) ?_)
        | (refine Bl.iteN (d := 0) ?_ ?_)
        | (refine Bl.iteK (by decide) (by assumption) (fun _ => ?_) ?_)
        | (refine Bl.ite3 (by decide +kernel) (by decide +kernel) (by assumption) (fun _ => ?_) ?_)
        | (refine Bl.iteT (by assumption) (fun _ => ?_) ?_)
        | (refine Bl.ite ?_ ?_)
        | (refine Bl.bind (begin_bl (by assumption)) ?_; intro _ _ _)
        | (refine Bl.bind (want_bl1 (by decide +kernel) (by assumption)) ?_; intro _ _ _)
        | (refine Bl.bind (want_bl0 (by decide +kernel) (by assumption)) ?_; intro _ _ _)
        | (refine Bl.bind (want_blc (by decide +kernel) (by assumption)) ?_; intro _ _ _)
        | (refine Bl.bind (id_bl (by assumption)) ?_; intro _ _ _)
        | (refine Bl.bind (prop_bl (by assumption)) ?_; intro _ _ _)
        | (refine Bl.bind (listE_bl (by decide +kernel) (fun _ => by first | exact ih.expr' _ _ | exact ih.prop' _ _) (by assumption)) ?_; intro _ _ _)
        | (refine Bl.bind (paramsG_bl (fun _ => by first | exact ih.typeOr' _ _ | exact ih.typing' _ _) (by assumption)) ?_; intro _ _ _)
        | (refine Bl.bind (unionG_bl (fun _ => ih.ptype' _ _) _ _ _ _ _ (by assumption)) ?_; intro _ _ _)
        | (refine Bl.bind (fieldsG_bl (fun _ => ih.typing' _ _) _ _ _ _ _ _ (by assumption)) ?_; intro _ _ _)
        | (refine Bl.bind (by first | exact Bl.lift (by assumption) (ih.unary' _ _)) ?_; intro _ _ _)
        | (first | exact Bl.lift (by assumption) (ih.unary' _ _)))
    · intro a o
      have hA : AtO L a 0 a := AtO.refl a
      rw [unaryF]
      repeat (first
        | exact Bl.bad
        | exact Bl.ok (by assumption)
        | exact blockG_bl (fun _ => ih.stmt' _ _) (by assumption)
        | exact binG_bl (fun _ _ h1 => ih.bin' _ _ _ h1) _ (by omega) _ _ _ _ _ (by assumption)
        | exact postG_bl (fun _ => ih.expr' _ _) _ _ _ _ _ (by assumption)
        | exact arrayG_bl _ _ _ _ _ (by assumption)
        | (refine Bl.iteS1 (by decide +kernel) (by assumption) (fun _ => ?_) ?_)
        | (refine Bl.iteS0 (by decide +kernel) (by assumption) (fun _ _ => ?_) ?_)
        | (refine Bl.iteW (by assumption) (fun _ => ?_) ?_)
        | (refine Bl.iteN (d := 0) ?_ ?_)
        | (refine Bl.iteK (by decide) (by assumption) (fun _ => ?_) ?_)
        | (refine Bl.ite3 (by decide +kernel) (by decide +kernel) (by assumption) (fun _ => ?_) ?_)
        | (refine Bl.iteT (by assumption) (fun _ => ?_) ?_)
        | (refine Bl.ite ?_ ?_)
        | (refine Bl.bind (begin_bl (by assumption)) ?_; intro _ _ _)
        | (refine Bl.bind (want_bl1 (by decide +kernel) (by assumption)) ?_; intro _ _ _)
        | (refine Bl.bind (want_bl0 (by decide +kernel) (by assumption)) ?_; intro _ _ _)
        | (refine Bl.bind (want_blc (by decide +kernel) (by assumption)) ?_; intro _ _ _)
        | (refine Bl.bind (id_bl (by assumption)) ?_; intro _ _ _)
        | (refine Bl.bind (prop_bl (by assumption)) ?_; intro _ _ _)
        | (refine Bl.bind (listE_bl (by decide +kernel) (fun _ => by first | exact ih.expr' _ _ | exact ih.prop' _ _) (by assumption)) ?_; intro _ _ _)
        | (refine Bl.bind (paramsG_bl (fun _ => by first | exact ih.typeOr' _ _ | exact ih.typing' _ _) (by assumption)) ?_; intro _ _ _)
        | (refine Bl.bind (unionG_bl (fun _ => ih.ptype' _ _) _ _ _ _ _ (by assumption)) ?_; intro _ _ _)
        | (refine Bl.bind (fieldsG_bl (fun _ => ih.typing' _ _) _ _ _ _ _ _ (by assumption)) ?_; intro _ _ _)
        | (refine Bl.bind (by first | exact Bl.lift (by assumption) (ih.unary' _ _) | exact Bl.lift (by assumption) (ih.post' _ _)) ?_; intro _ _ _)
        | (first | exact Bl.lift (by assumption) (ih.unary' _ _) | exact Bl.lift (by assumption) (ih.post' _ _)))
    · intro a o
      have hA : AtO L a 0 a := AtO.refl a
      rw [postF]
      repeat (first
        | exact Bl.bad
        | exact Bl.ok (by assumption)
        | exact blockG_bl (fun _ => ih.stmt' _ _) (by assumption)
        | exact binG_bl (fun _ _ h1 => ih.bin' _ _ _ h1) _ (by omega) _ _ _ _ _ (by assumption)
        | exact postG_bl (fun _ => ih.expr' _ _) _ _ _ _ _ (by assumption)
        | exact arrayG_bl _ _ _ _ _ (by assumption)
        | (refine Bl.iteS1 (by decide +kernel) (by assumption) (fun _ => ?_) ?_)
        | (refine Bl.iteS0 (by decide +kernel) (by assumption) (fun _ _ => ?_) ?_)
        | (refine Bl.iteW (by assumption) (fun _ => ?_) ?_)
        | (refine Bl.iteN (d := 0) ?_ ?_)
        | (refine Bl.iteK (by decide) (by assumption) (fun _ => ?_) ?_)
        | (refine Bl.ite3 (by decide +kernel) (by decide +kernel) (by assumption) (fun _ => ?_) ?_)
        | (refine Bl.iteT (by assumption) (fun _ => ?_) ?_)
        | (refine Bl.ite ?_ ?_)
        | (refine Bl.bind (begin_bl (by assumption)) ?_; intro _ _ _)
        | (refine Bl.bind (want_bl1 (by decide +kernel) (by assumption)) ?_; intro _ _ _)
        | (refine Bl.bind (want_bl0 (by decide +kernel) (by assumption)) ?_; intro _ _ _)
        | (refine Bl.bind (want_blc (by decide +kernel) (by assumption)) ?_; intro _ _ _)
        | (refine Bl.bind (id_bl (by assumption)) ?_; intro _ _ _)
        | (refine Bl.bind (prop_bl (by assumption)) ?_; intro _ _ _)
        | (refine Bl.bind (listE_bl (by decide +kernel) (fun _ => by first | exact ih.expr' _ _ | exact ih.prop' _ _) (by assumption)) ?_; intro _ _ _)
        | (refine Bl.bind (paramsG_bl (fun _ => by first | exact ih.typeOr' _ _ | exact ih.typing' _ _) (by assumption)) ?_; intro _ _ _)
        | (refine Bl.bind (unionG_bl (fun _ => ih.ptype' _ _) _ _ _ _ _ (by assumption)) ?_; intro _ _ _)
        | (refine Bl.bind (fieldsG_bl (fun _ => ih.typing' _ _) _ _ _ _ _ _ (by assumption)) ?_; intro _ _ _)
        | (refine Bl.bind (by first | exact Bl.lift (by assumption) (ih.prim' _ _)) ?_; intro _ _ _)
        | (first | exact Bl.lift (by assumption) (ih.prim' _ _)))
    · intro a o
      have hA : AtO L a 0 a := AtO.refl a
      rw [primF]
      repeat (first
        | exact Bl.bad
        | exact Bl.ok (by assumption)
        | exact blockG_bl (fun _ => ih.stmt' _ _) (by assumption)
        | exact binG_bl (fun _ _ h1 => ih.bin' _ _ _ h1) _ (by omega) _ _ _ _ _ (by assumption)
        | exact postG_bl (fun _ => ih.expr' _ _) _ _ _ _ _ (by assumption)
        | exact arrayG_bl _ _ _ _ _ (by assumption)
        | (refine Bl.iteS1 (by decide +kernel) (by assumption) (fun _ => ?_) ?_)
        | (refine Bl.iteS0 (by decide +kernel) (by assumption) (fun _ _ => ?_) ?_)
        | (refine Bl.iteW (by assumption) (fun _ => ?_) ?_)
        | (refine Bl.iteN (d := 0) ?_ ?_)
        | (refine Bl.iteK (by decide) (by assumption) (fun _ => ?_) ?_)
        | (refine Bl.ite3 (by decide +kernel) (by decide +kernel) (by assumption) (fun _ => ?_) ?_)
        | (refine Bl.iteT (by assumption) (fun _ => ?_) ?_)
        | (refine Bl.ite ?_ ?_)
        | (refine Bl.bind (begin_bl (by assumption)) ?_; intro _ _ _)
        | (refine Bl.bind (want_bl1 (by decide +kernel) (by assumption)) ?_; intro _ _ _)
        | (refine Bl.bind (want_bl0 (by decide +kernel) (by assumption)) ?_; intro _ _ _)
        | (refine Bl.bind (want_blc (by decide +kernel) (by assumption)) ?_; intro _ _ _)
        | (refine Bl.bind (id_bl (by assumption)) ?_; intro _ _ _)
        | (refine Bl.bind (prop_bl (by assumption)) ?_; intro _ _ _)
        | (refine Bl.bind (listE_bl (by decide +kernel) (fun _ => by first | exact ih.expr' _ _ | exact ih.prop' _ _) (by assumption)) ?_; intro _ _ _)
        | (refine Bl.bind (paramsG_bl (fun _ => by first | exact ih.typeOr' _ _ | exact ih.typing' _ _) (by assumption)) ?_; intro _ _ _)
        | (refine Bl.bind (unionG_bl (fun _ => ih.ptype' _ _) _ _ _ _ _ (by assumption)) ?_; intro _ _ _)
        | (refine Bl.bind (fieldsG_bl (fun _ => ih.typing' _ _) _ _ _ _ _ _ (by assumption)) ?_; intro _ _ _)
        | (refine Bl.bind (by first | exact Bl.lift (by assumption) (ih.wprim' _ _) | exact Bl.lift (by assumption) (ih.sprim' _ _)) ?_; intro _ _ _)
        | (first | exact Bl.lift (by assumption) (ih.wprim' _ _) | exact Bl.lift (by assumption) (ih.sprim' _ _)))
    · intro a o
      have hA : AtO L a 0 a := AtO.refl a
      rw [wprimF]
      repeat (first
        | exact Bl.bad
        | exact Bl.ok (by assumption)
        | exact blockG_bl (fun _ => ih.stmt' _ _) (by assumption)
        | exact binG_bl (fun _ _ h1 => ih.bin' _ _ _ h1) _ (by omega) _ _ _ _ _ (by assumption)
        | exact postG_bl (fun _ => ih.expr' _ _) _ _ _ _ _ (by assumption)
        | exact arrayG_bl _ _ _ _ _ (by assumption)
        | (refine Bl.iteS1 (by decide +kernel) (by assumption) (fun _ => ?_) ?_)
        | (refine Bl.iteS0 (by decide +kernel) (by assumption) (fun _ _ => ?_) ?_)
        | (refine Bl.iteW (by assumption) (fun _ => ?_) ?_)
        | (refine Bl.iteN (d := 0) ?_ ?_)
        | (refine Bl.iteK (by decide) (by assumption) (fun _ => ?_) ?_)
        | (refine Bl.ite3 (by decide +kernel) (by decide +kernel) (by assumption) (fun _ => ?_) ?_)
        | (refine Bl.iteT (by assumption) (fun _ => ?_) ?_)
        | (refine Bl.ite ?_ ?_)
        | (refine Bl.bind (begin_bl (by assumption)) ?_; intro _ _ _)
        | (refine Bl.bind (want_bl1 (by decide +kernel) (by assumption)) ?_; intro _ _ _)
        | (refine Bl.bind (want_bl0 (by decide +kernel) (by assumption)) ?_; intro _ _ _)
        | (refine Bl.bind (want_blc (by decide +kernel) (by assumption)) ?_; intro _ _ _)
        | (refine Bl.bind (id_bl (by assumption)) ?_; intro _ _ _)
        | (refine Bl.bind (prop_bl (by assumption)) ?_; intro _ _ _)
        | (refine Bl.bind (listE_bl (by decide +kernel) (fun _ => by first | exact ih.expr' _ _ | exact ih.prop' _ _) (by assumption)) ?_; intro _ _ _)
        | (refine Bl.bind (paramsG_bl (fun _ => by first | exact ih.typeOr' _ _ | exact ih.typing' _ _) (by assumption)) ?_; intro _ _ _)
        | (refine Bl.bind (unionG_bl (fun _ => ih.ptype' _ _) _ _ _ _ _ (by assumption)) ?_; intro _ _ _)
        | (refine Bl.bind (fieldsG_bl (fun _ => ih.typing' _ _) _ _ _ _ _ _ (by assumption)) ?_; intro _ _ _)
        | (refine Bl.bind (by first | exact Bl.lift (by assumption) (ih.typeOr' _ _) | exact Bl.lift (by assumption) (ih.blk' _ _)) ?_; intro _ _ _)
        | (first | exact Bl.lift (by assumption) (ih.typeOr' _ _) | exact Bl.lift (by assumption) (ih.blk' _ _)))
    · intro a o
      have hA : AtO L a 0 a := AtO.refl a
      rw [sprimF]
      repeat (first
        | exact Bl.bad
        | exact Bl.ok (by assumption)
        | exact blockG_bl (fun _ => ih.stmt' _ _) (by assumption)
        | exact binG_bl (fun _ _ h1 => ih.bin' _ _ _ h1) _ (by omega) _ _ _ _ _ (by assumption)
        | exact postG_bl (fun _ => ih.expr' _ _) _ _ _ _ _ (by assumption)
        | exact arrayG_bl _ _ _ _ _ (by assumption)
        | (refine Bl.iteS1 (by decide +kernel) (by assumption) (fun _ => ?_) ?_)
        | (refine Bl.iteS0 (by decide +kernel) (by assumption) (fun _ _ => ?_) ?_)
        | (refine Bl.iteW (by assumption) (fun _ => ?_) ?_)
        | (refine Bl.iteN (d := 0) ?_ ?_)
        | (refine Bl.iteK (by decide) (by assumption) (fun _ => ?_) ?_)
        | (refine Bl.ite3 (by decide +kernel) (by decide +kernel) (by assumption) (fun _ => ?_) ?_)
        | (refine Bl.iteT (by assumption) (fun _ => ?_) ?_)
        | (refine Bl.ite ?_ ?_)
        | (refine Bl.bind (begin_bl (by assumption)) ?_; intro _ _ _)
        | (refine Bl.bind (want_bl1 (by decide +kernel) (by assumption)) ?_; intro _ _ _)
        | (refine Bl.bind (want_bl0 (by decide +kernel) (by assumption)) ?_; intro _ _ _)
        | (refine Bl.bind (want_blc (by decide +kernel) (by assumption)) ?_; intro _ _ _)
        | (refine Bl.bind (id_bl (by assumption)) ?_; intro _ _ _)
        | (refine Bl.bind (prop_bl (by assumption)) ?_; intro _ _ _)
        | (refine Bl.bind (listE_bl (by decide +kernel) (fun _ => by first | exact ih.expr' _ _ | exact ih.prop' _ _) (by assumption)) ?_; intro _ _ _)
        | (refine Bl.bind (paramsG_bl (fun _ => by first | exact ih.typeOr' _ _ | exact ih.typing' _ _) (by assumption)) ?_; intro _ _ _)
        | (refine Bl.bind (unionG_bl (fun _ => ih.ptype' _ _) _ _ _ _ _ (by assumption)) ?_; intro _ _ _)
        | (refine Bl.bind (fieldsG_bl (fun _ => ih.typing' _ _) _ _ _ _ _ _ (by assumption)) ?_; intro _ _ _)
        | (refine Bl.bind (by first | exact Bl.lift (by assumption) (ih.expr' _ _) | exact Bl.lift (by assumption) (ih.arrow' _ _)) ?_; intro _ _ _)
        | (first | exact Bl.lift (by assumption) (ih.expr' _ _) | exact Bl.lift (by assumption) (ih.arrow' _ _)))
    · intro a o
      have hA : AtO L a 0 a := AtO.refl a
      rw [propF]
      repeat (first
        | exact Bl.bad
        | exact Bl.ok (by assumption)
        | exact blockG_bl (fun _ => ih.stmt' _ _) (by assumption)
        | exact binG_bl (fun _ _ h1 => ih.bin' _ _ _ h1) _ (by omega) _ _ _ _ _ (by assumption)
        | exact postG_bl (fun _ => ih.expr' _ _) _ _ _ _ _ (by assumption)
        | exact arrayG_bl _ _ _ _ _ (by assumption)
        | (refine Bl.iteS1 (by decide +kernel) (by assumption) (fun _ => ?_) ?_)
        | (refine Bl.iteS0 (by decide +kernel) (by assumption) (fun _ _ => ?_) ?_)
        | (refine Bl.iteW (by assumption) (fun _ => ?_) ?_)
        | (refine Bl.iteN (d := 0) ?_ ?_)
        | (refine Bl.iteK (by decide) (by assumption) (fun _ => ?_) ?_)
        | (refine Bl.ite3 (by decide +kernel) (by decide +kernel) (by assumption) (fun _ => ?_) ?_)
        | (refine Bl.iteT (by assumption) (fun _ => ?_) ?_)
        | (refine Bl.ite ?_ ?_)
        | (refine Bl.bind (begin_bl (by assumption)) ?_; intro _ _ _)
        | (refine Bl.bind (want_bl1 (by decide +kernel) (by assumption)) ?_; intro _ _ _)
        | (refine Bl.bind (want_bl0 (by decide +kernel) (by assumption)) ?_; intro _ _ _)
        | (refine Bl.bind (want_blc (by decide +kernel) (by assumption)) ?_; intro _ _ _)
        | (refine Bl.bind (id_bl (by assumption)) ?_; intro _ _ _)
        | (refine Bl.bind (prop_bl (by assumption)) ?_; intro _ _ _)
        | (refine Bl.bind (listE_bl (by decide +kernel) (fun _ => by first | exact ih.expr' _ _ | exact ih.prop' _ _) (by assumption)) ?_; intro _ _ _)
        | (refine Bl.bind (paramsG_bl (fun _ => by first | exact ih.typeOr' _ _ | exact ih.typing' _ _) (by assumption)) ?_; intro _ _ _)
        | (refine Bl.bind (unionG_bl (fun _ => ih.ptype' _ _) _ _ _ _ _ (by assumption)) ?_; intro _ _ _)
        | (refine Bl.bind (fieldsG_bl (fun _ => ih.typing' _ _) _ _ _ _ _ _ (by assumption)) ?_; intro _ _ _)
        | (refine Bl.bind (by first | exact Bl.lift (by assumption) (ih.expr' _ _)) ?_; intro _ _ _)
        | (first | exact Bl.lift (by assumption) (ih.expr' _ _)))
    · intro a o
      have hA : AtO L a 0 a := AtO.refl a
      rw [arrowF]
      repeat (first
        | exact Bl.bad
        | exact Bl.ok (by assumption)
        | exact blockG_bl (fun _ => ih.stmt' _ _) (by assumption)
        | exact binG_bl (fun _ _ h1 => ih.bin' _ _ _ h1) _ (by omega) _ _ _ _ _ (by assumption)
        | exact postG_bl (fun _ => ih.expr' _ _) _ _ _ _ _ (by assumption)
        | exact arrayG_bl _ _ _ _ _ (by assumption)
        | (refine Bl.iteS1 (by decide +kernel) (by assumption) (fun _ => ?_) ?_)
        | (refine Bl.iteS0 (by decide +kernel) (by assumption) (fun _ _ => ?_) ?_)
        | (refine Bl.iteW (by assumption) (fun _ => ?_) ?_)
        | (refine Bl.iteN (d := 0) ?_ ?_)
        | (refine Bl.iteK (by decide) (by assumption) (fun _ => ?_) ?_)
        | (refine Bl.ite3 (by decide +kernel) (by decide +kernel) (by assumption) (fun _ => ?_) ?_)
        | (refine Bl.iteT (by assumption) (fun _ => ?_) ?_)
        | (refine Bl.ite ?_ ?_)
        | (refine Bl.bind (begin_bl (by assumption)) ?_; intro _ _ _)
        | (refine Bl.bind (want_bl1 (by decide +kernel) (by assumption)) ?_; intro _ _ _)
        | (refine Bl.bind (want_bl0 (by decide +kernel) (by assumption)) ?_; intro _ _ _)
        | (refine Bl.bind (want_blc (by decide +kernel) (by assumption)) ?_; intro _ _ _)
        | (refine Bl.bind (id_bl (by assumption)) ?_; intro _ _ _)
        | (refine Bl.bind (prop_bl (by assumption)) ?_; intro _ _ _)
        | (refine Bl.bind (listE_bl (by decide +kernel) (fun _ => by first | exact ih.expr' _ _ | exact ih.prop' _ _) (by assumption)) ?_; intro _ _ _)
        | (refine Bl.bind (paramsG_bl (fun _ => by first | exact ih.typeOr' _ _ | exact ih.typing' _ _) (by assumption)) ?_; intro _ _ _)
        | (refine Bl.bind (unionG_bl (fun _ => ih.ptype' _ _) _ _ _ _ _ (by assumption)) ?_; intro _ _ _)
        | (refine Bl.bind (fieldsG_bl (fun _ => ih.typing' _ _) _ _ _ _ _ _ (by assumption)) ?_; intro _ _ _)
        | (refine Bl.bind (by first | exact Bl.lift (by assumption) (ih.abody' _ _)) ?_; intro _ _ _)
        | (first | exact Bl.lift (by assumption) (ih.abody' _ _)))
    · intro a o
      have hA : AtO L a 0 a := AtO.refl a
      rw [abodyF]
      repeat (first
        | exact Bl.bad
        | exact Bl.ok (by assumption)
        | exact blockG_bl (fun _ => ih.stmt' _ _) (by assumption)
        | exact binG_bl (fun _ _ h1 => ih.bin' _ _ _ h1) _ (by omega) _ _ _ _ _ (by assumption)
        | exact postG_bl (fun _ => ih.expr' _ _) _ _ _ _ _ (by assumption)
        | exact arrayG_bl _ _ _ _ _ (by assumption)
        | (refine Bl.iteS1 (by decide +kernel) (by assumption) (fun _ => ?_) ?_)
        | (refine Bl.iteS0 (by decide +kernel) (by assumption) (fun _ _ => ?_) ?_)
        | (refine Bl.iteW (by assumption) (fun _ => ?_) ?_)
        | (refine Bl.iteN (d := 0) ?_ ?_)
        | (refine Bl.iteK (by decide) (by assumption) (fun _ => ?_) ?_)
        | (refine Bl.ite3 (by decide +kernel) (by decide +kernel) (by assumption) (fun _ => ?_) ?_)
        | (refine Bl.iteT (by assumption) (fun _ => ?_) ?_)
        | (refine Bl.ite ?_ ?_)
        | (refine Bl.bind (begin_bl (by assumption)) ?_; intro _ _ _)
        | (refine Bl.bind (want_bl1 (by decide +kernel) (by assumption)) ?_; intro _ _ _)
        | (refine Bl.bind (want_bl0 (by decide +kernel) (by assumption)) ?_; intro _ _ _)
        | (refine Bl.bind (want_blc (by decide +kernel) (by assumption)) ?_; intro _ _ _)
        | (refine Bl.bind (id_bl (by assumption)) ?_; intro _ _ _)
        | (refine Bl.bind (prop_bl (by assumption)) ?_; intro _ _ _)
        | (refine Bl.bind (listE_bl (by decide +kernel) (fun _ => by first | exact ih.expr' _ _ | exact ih.prop' _ _) (by assumption)) ?_; intro _ _ _)
        | (refine Bl.bind (paramsG_bl (fun _ => by first | exact ih.typeOr' _ _ | exact ih.typing' _ _) (by assumption)) ?_; intro _ _ _)
        | (refine Bl.bind (unionG_bl (fun _ => ih.ptype' _ _) _ _ _ _ _ (by assumption)) ?_; intro _ _ _)
        | (refine Bl.bind (fieldsG_bl (fun _ => ih.typing' _ _) _ _ _ _ _ _ (by assumption)) ?_; intro _ _ _)
        | (refine Bl.bind (by first | exact Bl.lift (by assumption) (ih.expr' _ _) | exact Bl.lift (by assumption) (ih.blk' _ _)) ?_; intro _ _ _)
        | (first | exact Bl.lift (by assumption) (ih.expr' _ _) | exact Bl.lift (by assumption) (ih.blk' _ _)))
    · intro a o
      have hA : AtO L a 0 a := AtO.refl a
      rw [typeOrF]
      repeat (first
        | exact Bl.bad
        | exact Bl.ok (by assumption)
        | exact blockG_bl (fun _ => ih.stmt' _ _) (by assumption)
        | exact binG_bl (fun _ _ h1 => ih.bin' _ _ _ h1) _ (by omega) _ _ _ _ _ (by assumption)
        | exact postG_bl (fun _ => ih.expr' _ _) _ _ _ _ _ (by assumption)
        | exact arrayG_bl _ _ _ _ _ (by assumption)
        | (refine Bl.iteS1 (by decide +kernel) (by assumption) (fun _ => ?_) ?_)
        | (refine Bl.iteS0 (by decide +kernel) (by assumption) (fun _ _ => ?_) ?_)
        | (refine Bl.iteW (by assumption) (fun _ => ?_) ?_)
        | (refine Bl.iteN (d := 0) ?_ ?_)
        | (refine Bl.iteK (by decide) (by assumption) (fun _ => ?_) ?_)
        | (refine Bl.ite3 (by decide +kernel) (by decide +kernel) (by assumption) (fun _ => ?_) ?_)
        | (refine Bl.iteT (by assumption) (fun _ => ?_) ?_)
        | (refine Bl.ite ?_ ?_)
        | (refine Bl.bind (begin_bl (by assumption)) ?_; intro _ _ _)
        | (refine Bl.bind (want_bl1 (by decide +kernel) (by assumption)) ?_; intro _ _ _)
        | (refine Bl.bind (want_bl0 (by decide +kernel) (by assumption)) ?_; intro _ _ _)
        | (refine Bl.bind (want_blc (by decide +kernel) (by assumption)) ?_; intro _ _ _)
        | (refine Bl.bind (id_bl (by assumption)) ?_; intro _ _ _)
        | (refine Bl.bind (prop_bl (by assumption)) ?_; intro _ _ _)
        | (refine Bl.bind (listE_bl (by decide +kernel) (fun _ => by first | exact ih.expr' _ _ | exact ih.prop' _ _) (by assumption)) ?_; intro _ _ _)
        | (refine Bl.bind (paramsG_bl (fun _ => by first | exact ih.typeOr' _ _ | exact ih.typing' _ _) (by assumption)) ?_; intro _ _ _)
        | (refine Bl.bind (unionG_bl (fun _ => ih.ptype' _ _) _ _ _ _ _ (by assumption)) ?_; intro _ _ _)
        | (refine Bl.bind (fieldsG_bl (fun _ => ih.typing' _ _) _ _ _ _ _ _ (by assumption)) ?_; intro _ _ _)
        | (refine Bl.bind (by first | exact Bl.lift (by assumption) (ih.typing' _ _)) ?_; intro _ _ _)
        | (first | exact Bl.lift (by assumption) (ih.typing' _ _)))
    · intro a o
      have hA : AtO L a 0 a := AtO.refl a
      rw [typingF]
      repeat (first
        | exact Bl.bad
        | exact Bl.ok (by assumption)
        | exact blockG_bl (fun _ => ih.stmt' _ _) (by assumption)
        | exact binG_bl (fun _ _ h1 => ih.bin' _ _ _ h1) _ (by omega) _ _ _ _ _ (by assumption)
        | exact postG_bl (fun _ => ih.expr' _ _) _ _ _ _ _ (by assumption)
        | exact arrayG_bl _ _ _ _ _ (by assumption)
        | (refine Bl.iteS1 (by decide +kernel) (by assumption) (fun _ => ?_) ?_)
        | (refine Bl.iteS0 (by decide +kernel) (by assumption) (fun _ _ => ?_) ?_)
        | (refine Bl.iteW (by assumption) (fun _ => ?_) ?_)
        | (refine Bl.iteN (d := 0) ?_ ?_)
        | (refine Bl.iteK (by decide) (by assumption) (fun _ => ?_) ?_)
        | (refine Bl.ite3 (by decide +kernel) (by decide +kernel) (by assumption) (fun _ => ?_) ?_)
        | (refine Bl.iteT (by assumption) (fun _ => ?_) ?_)
        | (refine Bl.ite ?_ ?_)
        | (refine Bl.bind (begin_bl (by assumption)) ?_; intro _ _ _)
        | (refine Bl.bind (want_bl1 (by decide +kernel) (by assumption)) ?_; intro _ _ _)
        | (refine Bl.bind (want_bl0 (by decide +kernel) (by assumption)) ?_; intro _ _ _)
        | (refine Bl.bind (want_blc (by decide +kernel) (by assumption)) ?_; intro _ _ _)
        | (refine Bl.bind (id_bl (by assumption)) ?_; intro _ _ _)
        | (refine Bl.bind (prop_bl (by assumption)) ?_; intro _ _ _)
        | (refine Bl.bind (listE_bl (by decide +kernel) (fun _ => by first | exact ih.expr' _ _ | exact ih.prop' _ _) (by assumption)) ?_; intro _ _ _)
        | (refine Bl.bind (paramsG_bl (fun _ => by first | exact ih.typeOr' _ _ | exact ih.typing' _ _) (by assumption)) ?_; intro _ _ _)
        | (refine Bl.bind (unionG_bl (fun _ => ih.ptype' _ _) _ _ _ _ _ (by assumption)) ?_; intro _ _ _)
        | (refine Bl.bind (fieldsG_bl (fun _ => ih.typing' _ _) _ _ _ _ _ _ (by assumption)) ?_; intro _ _ _)
        | (refine Bl.bind (by first | exact Bl.lift (by assumption) (ih.type' _ _)) ?_; intro _ _ _)
        | (first | exact Bl.lift (by assumption) (ih.type' _ _)))
    · intro a o
      have hA : AtO L a 0 a := AtO.refl a
      rw [typeF]
      repeat (first
        | exact Bl.bad
        | exact Bl.ok (by assumption)
        | exact blockG_bl (fun _ => ih.stmt' _ _) (by assumption)
        | exact binG_bl (fun _ _ h1 => ih.bin' _ _ _ h1) _ (by omega) _ _ _ _ _ (by assumption)
        | exact postG_bl (fun _ => ih.expr' _ _) _ _ _ _ _ (by assumption)
        | exact arrayG_bl _ _ _ _ _ (by assumption)
        | (refine Bl.iteS1 (by decide +kernel) (by assumption) (fun _ => ?_) ?_)
        | (refine Bl.iteS0 (by decide +kernel) (by assumption) (fun _ _ => ?_) ?_)
        | (refine Bl.iteW (by assumption) (fun _ => ?_) ?_)
        | (refine Bl.iteN (d := 0) ?_ ?_)
        | (refine Bl.iteK (by decide) (by assumption) (fun _ => ?_) ?_)
        | (refine Bl.ite3 (by decide +kernel) (by decide +kernel) (by assumption) (fun _ => ?_) ?_)
        | (refine Bl.iteT (by assumption) (fun _ => ?_) ?_)
        | (refine Bl.ite ?_ ?_)
        | (refine Bl.bind (begin_bl (by assumption)) ?_; intro _ _ _)
        | (refine Bl.bind (want_bl1 (by decide +kernel) (by assumption)) ?_; intro _ _ _)
        | (refine Bl.bind (want_bl0 (by decide +kernel) (by assumption)) ?_; intro _ _ _)
        | (refine Bl.bind (want_blc (by decide +kernel) (by assumption)) ?_; intro _ _ _)
        | (refine Bl.bind (id_bl (by assumption)) ?_; intro _ _ _)
        | (refine Bl.bind (prop_bl (by assumption)) ?_; intro _ _ _)
        | (refine Bl.bind (listE_bl (by decide +kernel) (fun _ => by first | exact ih.expr' _ _ | exact ih.prop' _ _) (by assumption)) ?_; intro _ _ _)
        | (refine Bl.bind (paramsG_bl (fun _ => by first | exact ih.typeOr' _ _ | exact ih.typing' _ _) (by assumption)) ?_; intro _ _ _)
        | (refine Bl.bind (unionG_bl (fun _ => ih.ptype' _ _) _ _ _ _ _ (by assumption)) ?_; intro _ _ _)
        | (refine Bl.bind (fieldsG_bl (fun _ => ih.typing' _ _) _ _ _ _ _ _ (by assumption)) ?_; intro _ _ _)
        | (refine Bl.bind (by first | fail) ?_; intro _ _ _)
        | (first | fail))
    · intro a o
      have hA : AtO L a 0 a := AtO.refl a
      rw [ptypeF]
      repeat (first
        | exact Bl.bad
        | exact Bl.ok (by assumption)
        | exact blockG_bl (fun _ => ih.stmt' _ _) (by assumption)
        | exact binG_bl (fun _ _ h1 => ih.bin' _ _ _ h1) _ (by omega) _ _ _ _ _ (by assumption)
        | exact postG_bl (fun _ => ih.expr' _ _) _ _ _ _ _ (by assumption)
        | exact arrayG_bl _ _ _ _ _ (by assumption)
        | (refine Bl.iteS1 (by decide +kernel) (by assumption) (fun _ => ?_) ?_)
        | (refine Bl.iteS0 (by decide +kernel) (by assumption) (fun _ _ => ?_) ?_)
        | (refine Bl.iteW (by assumption) (fun _ => ?_) ?_)
        | (refine Bl.iteN (d := 0) ?_ ?_)
        | (refine Bl.iteK (by decide) (by assumption) (fun _ => ?_) ?_)
        | (refine Bl.ite3 (by decide +kernel) (by decide +kernel) (by assumption) (fun _ => ?_) ?_)
        | (refine Bl.iteT (by assumption) (fun _ => ?_) ?_)
        | (refine Bl.ite ?_ ?_)
        | (refine Bl.bind (begin_bl (by assumption)) ?_; intro _ _ _)
        | (refine Bl.bind (want_bl1 (by decide +kernel) (by assumption)) ?_; intro _ _ _)
        | (refine Bl.bind (want_bl0 (by decide +kernel) (by assumption)) ?_; intro _ _ _)
        | (refine Bl.bind (want_blc (by decide +kernel) (by assumption)) ?_; intro _ _ _)
        | (refine Bl.bind (id_bl (by assumption)) ?_; intro _ _ _)
        | (refine Bl.bind (prop_bl (by assumption)) ?_; intro _ _ _)
        | (refine Bl.bind (listE_bl (by decide +kernel) (fun _ => by first | exact ih.expr' _ _ | exact ih.prop' _ _) (by assumption)) ?_; intro _ _ _)
        | (refine Bl.bind (paramsG_bl (fun _ => by first | exact ih.typeOr' _ _ | exact ih.typing' _ _) (by assumption)) ?_; intro _ _ _)
        | (refine Bl.bind (unionG_bl (fun _ => ih.ptype' _ _) _ _ _ _ _ (by assumption)) ?_; intro _ _ _)
        | (refine Bl.bind (fieldsG_bl (fun _ => ih.typing' _ _) _ _ _ _ _ _ (by assumption)) ?_; intro _ _ _)
        | (refine Bl.bind (by first | exact Bl.lift (by assumption) (ih.rtype' _ _)) ?_; intro _ _ _)
        | (first | exact Bl.lift (by assumption) (ih.rtype' _ _)))
    · intro a o
      have hA : AtO L a 0 a := AtO.refl a
      rw [rtypeF]
      repeat (first
        | exact Bl.bad
        | exact Bl.ok (by assumption)
        | exact blockG_bl (fun _ => ih.stmt' _ _) (by assumption)
        | exact binG_bl (fun _ _ h1 => ih.bin' _ _ _ h1) _ (by omega) _ _ _ _ _ (by assumption)
        | exact postG_bl (fun _ => ih.expr' _ _) _ _ _ _ _ (by assumption)
        | exact arrayG_bl _ _ _ _ _ (by assumption)
        | (refine Bl.iteS1 (by decide +kernel) (by assumption) (fun _ => ?_) ?_)
        | (refine Bl.iteS0 (by decide +kernel) (by assumption) (fun _ _ => ?_) ?_)
        | (refine Bl.iteW (by assumption) (fun _ => ?_) ?_)
        | (refine Bl.iteN (d := 0) ?_ ?_)
        | (refine Bl.iteK (by decide) (by assumption) (fun _ => ?_) ?_)
        | (refine Bl.ite3 (by decide +kernel) (by decide +kernel) (by assumption) (fun _ => ?_) ?_)
        | (refine Bl.iteT (by assumption) (fun _ => ?_) ?_)
        | (refine Bl.ite ?_ ?_)
        | (refine Bl.bind (begin_bl (by assumption)) ?_; intro _ _ _)
        | (refine Bl.bind (want_bl1 (by decide +kernel) (by assumption)) ?_; intro _ _ _)
        | (refine Bl.bind (want_bl0 (by decide +kernel) (by assumption)) ?_; intro _ _ _)
        | (refine Bl.bind (want_blc (by decide +kernel) (by assumption)) ?_; intro _ _ _)
        | (refine Bl.bind (id_bl (by assumption)) ?_; intro _ _ _)
        | (refine Bl.bind (prop_bl (by assumption)) ?_; intro _ _ _)
        | (refine Bl.bind (listE_bl (by decide +kernel) (fun _ => by first | exact ih.expr' _ _ | exact ih.prop' _ _) (by assumption)) ?_; intro _ _ _)
        | (refine Bl.bind (paramsG_bl (fun _ => by first | exact ih.typeOr' _ _ | exact ih.typing' _ _) (by assumption)) ?_; intro _ _ _)
        | (refine Bl.bind (unionG_bl (fun _ => ih.ptype' _ _) _ _ _ _ _ (by assumption)) ?_; intro _ _ _)
        | (refine Bl.bind (fieldsG_bl (fun _ => ih.typing' _ _) _ _ _ _ _ _ (by assumption)) ?_; intro _ _ _)
        | (refine Bl.bind (by first | exact Bl.lift (by assumption) (ih.type' _ _) | exact ih.objt' _ _ _ _ (by assumption) | exact Bl.lift (by assumption) (ih.ftype' _ _)) ?_; intro _ _ _)
        | (first | exact Bl.lift (by assumption) (ih.type' _ _) | exact ih.objt' _ _ _ _ (by assumption) | exact Bl.lift (by assumption) (ih.ftype' _ _)))
    · intro a o a0 d hA
      rw [objtF]
      repeat (first
        | exact Bl.bad
        | exact Bl.ok (by assumption)
        | exact blockG_bl (fun _ => ih.stmt' _ _) (by assumption)
        | exact binG_bl (fun _ _ h1 => ih.bin' _ _ _ h1) _ (by omega) _ _ _ _ _ (by assumption)
        | exact postG_bl (fun _ => ih.expr' _ _) _ _ _ _ _ (by assumption)
        | exact arrayG_bl _ _ _ _ _ (by assumption)
        | (refine Bl.iteS1 (by decide +kernel) (by assumption) (fun _ => ?_) ?_)
        | (refine Bl.iteS0 (by decide +kernel) (by assumption) (fun _ _ => ?_) ?_)
        | (refine Bl.iteW (by assumption) (fun _ => ?_) ?_)
        | (refine Bl.iteN (d := 0) ?_ ?_)
        | (refine Bl.iteK (by decide) (by assumption) (fun _ => ?_) ?_)
        | (refine Bl.ite3 (by decide +kernel) (by decide +kernel) (by assumption) (fun _ => ?_) ?_)
        | (refine Bl.iteT (by assumption) (fun _ => ?_) ?_)
        | (refine Bl.ite ?_ ?_)
        | (refine Bl.bind (begin_bl (by assumption)) ?_; intro _ _ _)
        | (refine Bl.bind (want_bl1 (by decide +kernel) (by assumption)) ?_; intro _ _ _)
        | (refine Bl.bind (want_bl0 (by decide +kernel) (by assumption)) ?_; intro _ _ _)
        | (refine Bl.bind (want_blc (by decide +kernel) (by assumption)) ?_; intro _ _ _)
        | (refine Bl.bind (id_bl (by assumption)) ?_; intro _ _ _)
        | (refine Bl.bind (prop_bl (by assumption)) ?_; intro _ _ _)
        | (refine Bl.bind (listE_bl (by decide +kernel) (fun _ => by first | exact ih.expr' _ _ | exact ih.prop' _ _) (by assumption)) ?_; intro _ _ _)
        | (refine Bl.bind (paramsG_bl (fun _ => by first | exact ih.typeOr' _ _ | exact ih.typing' _ _) (by assumption)) ?_; intro _ _ _)
        | (refine Bl.bind (unionG_bl (fun _ => ih.ptype' _ _) _ _ _ _ _ (by assumption)) ?_; intro _ _ _)
        | (refine Bl.bind (fieldsG_bl (fun _ => ih.typing' _ _) _ _ _ _ _ _ (by assumption)) ?_; intro _ _ _)
        | (refine Bl.bind (by first | fail) ?_; intro _ _ _)
        | (first | fail))
    · intro a o
      have hA : AtO L a 0 a := AtO.refl a
      rw [ftypeF]
      repeat (first
        | exact Bl.bad
        | exact Bl.ok (by assumption)
        | exact blockG_bl (fun _ => ih.stmt' _ _) (by assumption)
        | exact binG_bl (fun _ _ h1 => ih.bin' _ _ _ h1) _ (by omega) _ _ _ _ _ (by assumption)
        | exact postG_bl (fun _ => ih.expr' _ _) _ _ _ _ _ (by assumption)
        | exact arrayG_bl _ _ _ _ _ (by assumption)
        | (refine Bl.iteS1 (by decide +kernel) (by assumption) (fun _ => ?_) ?_)
        | (refine Bl.iteS0 (by decide +kernel) (by assumption) (fun _ _ => ?_) ?_)
        | (refine Bl.iteW (by assumption) (fun _ => ?_) ?_)
        | (refine Bl.iteN (d := 0) ?_ ?_)
        | (refine Bl.iteK (by decide) (by assumption) (fun _ => ?_) ?_)
        | (refine Bl.ite3 (by decide +kernel) (by decide +kernel) (by assumption) (fun _ => ?_) ?_)
        | (refine Bl.iteT (by assumption) (fun _ => ?_) ?_)
        | (refine Bl.ite ?_ ?_)
        | (refine Bl.bind (begin_bl (by assumption)) ?_; intro _ _ _)
        | (refine Bl.bind (want_bl1 (by decide +kernel) (by assumption)) ?_; intro _ _ _)
        | (refine Bl.bind (want_bl0 (by decide +kernel) (by assumption)) ?_; intro _ _ _)
        | (refine Bl.bind (want_blc (by decide +kernel) (by assumption)) ?_; intro _ _ _)
        | (refine Bl.bind (id_bl (by assumption)) ?_; intro _ _ _)
        | (refine Bl.bind (prop_bl (by assumption)) ?_; intro _ _ _)
        | (refine Bl.bind (listE_bl (by decide +kernel) (fun _ => by first | exact ih.expr' _ _ | exact ih.prop' _ _) (by assumption)) ?_; intro _ _ _)
        | (refine Bl.bind (paramsG_bl (fun _ => by first | exact ih.typeOr' _ _ | exact ih.typing' _ _) (by assumption)) ?_; intro _ _ _)
        | (refine Bl.bind (unionG_bl (fun _ => ih.ptype' _ _) _ _ _ _ _ (by assumption)) ?_; intro _ _ _)
        | (refine Bl.bind (fieldsG_bl (fun _ => ih.typing' _ _) _ _ _ _ _ _ (by assumption)) ?_; intro _ _ _)
        | (refine Bl.bind (by first | exact Bl.lift (by assumption) (ih.type' _ _)) ?_; intro _ _ _)
        | (first | exact Bl.lift (by assumption) (ih.type' _ _)))
    · intro a o
      have hA : AtO L a 0 a := AtO.refl a
      rw [blkF]
      repeat (first
        | exact Bl.bad
        | exact Bl.ok (by assumption)
        | exact blockG_bl (fun _ => ih.stmt' _ _) (by assumption)
        | exact binG_bl (fun _ _ h1 => ih.bin' _ _ _ h1) _ (by omega) _ _ _ _ _ (by assumption)
        | exact postG_bl (fun _ => ih.expr' _ _) _ _ _ _ _ (by assumption)
        | exact arrayG_bl _ _ _ _ _ (by assumption)
        | (refine Bl.iteS1 (by decide +kernel) (by assumption) (fun _ => ?_) ?_)
        | (refine Bl.iteS0 (by decide +kernel) (by assumption) (fun _ _ => ?_) ?_)
        | (refine Bl.iteW (by assumption) (fun _ => ?_) ?_)
        | (refine Bl.iteN (d := 0) ?_ ?_)
        | (refine Bl.iteK (by decide) (by assumption) (fun _ => ?_) ?_)
        | (refine Bl.ite3 (by decide +kernel) (by decide +kernel) (by assumption) (fun _ => ?_) ?_)
        | (refine Bl.iteT (by assumption) (fun _ => ?_) ?_)
        | (refine Bl.ite ?_ ?_)
        | (refine Bl.bind (begin_bl (by assumption)) ?_; intro _ _ _)
        | (refine Bl.bind (want_bl1 (by decide +kernel) (by assumption)) ?_; intro _ _ _)
        | (refine Bl.bind (want_bl0 (by decide +kernel) (by assumption)) ?_; intro _ _ _)
        | (refine Bl.bind (want_blc (by decide +kernel) (by assumption)) ?_; intro _ _ _)
        | (refine Bl.bind (id_bl (by assumption)) ?_; intro _ _ _)
        | (refine Bl.bind (prop_bl (by assumption)) ?_; intro _ _ _)
        | (refine Bl.bind (listE_bl (by decide +kernel) (fun _ => by first | exact ih.expr' _ _ | exact ih.prop' _ _) (by assumption)) ?_; intro _ _ _)
        | (refine Bl.bind (paramsG_bl (fun _ => by first | exact ih.typeOr' _ _ | exact ih.typing' _ _) (by assumption)) ?_; intro _ _ _)
        | (refine Bl.bind (unionG_bl (fun _ => ih.ptype' _ _) _ _ _ _ _ (by assumption)) ?_; intro _ _ _)
        | (refine Bl.bind (fieldsG_bl (fun _ => ih.typing' _ _) _ _ _ _ _ _ (by assumption)) ?_; intro _ _ _)
        | (refine Bl.bind (by first | fail) ?_; intro _ _ _)
        | (first | fail))
    · intro a o
      have hA : AtO L a 0 a := AtO.refl a
      rw [stmtF]
      repeat (first
        | exact Bl.bad
        | exact Bl.ok (by assumption)
        | exact blockG_bl (fun _ => ih.stmt' _ _) (by assumption)
        | exact binG_bl (fun _ _ h1 => ih.bin' _ _ _ h1) _ (by omega) _ _ _ _ _ (by assumption)
        | exact postG_bl (fun _ => ih.expr' _ _) _ _ _ _ _ (by assumption)
        | exact arrayG_bl _ _ _ _ _ (by assumption)
        | (refine Bl.iteS1 (by decide +kernel) (by assumption) (fun _ => ?_) ?_)
        | (refine Bl.iteS0 (by decide +kernel) (by assumption) (fun _ _ => ?_) ?_)
        | (refine Bl.iteW (by assumption) (fun _ => ?_) ?_)
        | (refine Bl.iteN (d := 0) ?_ ?_)
        | (refine Bl.iteK (by decide) (by assumption) (fun _ => ?_) ?_)
        | (refine Bl.ite3 (by decide +kernel) (by decide +kernel) (by assumption) (fun _ => ?_) ?_)
        | (refine Bl.iteT (by assumption) (fun _ => ?_) ?_)
        | (refine Bl.ite ?_ ?_)
        | (refine Bl.bind (begin_bl (by assumption)) ?_; intro _ _ _)
        | (refine Bl.bind (want_bl1 (by decide +kernel) (by assumption)) ?_; intro _ _ _)
        | (refine Bl.bind (want_bl0 (by decide +kernel) (by assumption)) ?_; intro _ _ _)
        | (refine Bl.bind (want_blc (by decide +kernel) (by assumption)) ?_; intro _ _ _)
        | (refine Bl.bind (id_bl (by assumption)) ?_; intro _ _ _)
        | (refine Bl.bind (prop_bl (by assumption)) ?_; intro _ _ _)
        | (refine Bl.bind (listE_bl (by decide +kernel) (fun _ => by first | exact ih.expr' _ _ | exact ih.prop' _ _) (by assumption)) ?_; intro _ _ _)
        | (refine Bl.bind (paramsG_bl (fun _ => by first | exact ih.typeOr' _ _ | exact ih.typing' _ _) (by assumption)) ?_; intro _ _ _)
        | (refine Bl.bind (unionG_bl (fun _ => ih.ptype' _ _) _ _ _ _ _ (by assumption)) ?_; intro _ _ _)
        | (refine Bl.bind (fieldsG_bl (fun _ => ih.typing' _ _) _ _ _ _ _ _ (by assumption)) ?_; intro _ _ _)
        | (refine Bl.bind (by first | exact Bl.lift (by assumption) (ih.any' _ _)) ?_; intro _ _ _)
        | (first | exact Bl.lift (by assumption) (ih.any' _ _)))
    · intro q a o
      have hA : AtO L a 0 a := AtO.refl a
      rw [letF]
      repeat (first
        | exact Bl.bad
        | exact Bl.ok (by assumption)
        | exact blockG_bl (fun _ => ih.stmt' _ _) (by assumption)
        | exact binG_bl (fun _ _ h1 => ih.bin' _ _ _ h1) _ (by omega) _ _ _ _ _ (by assumption)
        | exact postG_bl (fun _ => ih.expr' _ _) _ _ _ _ _ (by assumption)
        | exact arrayG_bl _ _ _ _ _ (by assumption)
        | (refine Bl.iteS1 (by decide +kernel) (by assumption) (fun _ => ?_) ?_)
        | (refine Bl.iteS0 (by decide +kernel) (by assumption) (fun _ _ => ?_) ?_)
        | (refine Bl.iteW (by assumption) (fun _ => ?_) ?_)
        | (refine Bl.iteN (d := 0) ?_ ?_)
        | (refine Bl.iteK (by decide) (by assumption) (fun _ => ?_) ?_)
        | (refine Bl.ite3 (by decide +kernel) (by decide +kernel) (by assumption) (fun _ => ?_) ?_)
        | (refine Bl.iteT (by assumption) (fun _ => ?_) ?_)
        | (refine Bl.ite ?_ ?_)
        | (refine Bl.bind (begin_bl (by assumption)) ?_; intro _ _ _)
        | (refine Bl.bind (want_bl1 (by decide +kernel) (by assumption)) ?_; intro _ _ _)
        | (refine Bl.bind (want_bl0 (by decide +kernel) (by assumption)) ?_; intro _ _ _)
        | (refine Bl.bind (want_blc (by decide +kernel) (by assumption)) ?_; intro _ _ _)
        | (refine Bl.bind (id_bl (by assumption)) ?_; intro _ _ _)
        | (refine Bl.bind (prop_bl (by assumption)) ?_; intro _ _ _)
        | (refine Bl.bind (listE_bl (by decide +kernel) (fun _ => by first | exact ih.expr' _ _ | exact ih.prop' _ _) (by assumption)) ?_; intro _ _ _)
        | (refine Bl.bind (paramsG_bl (fun _ => by first | exact ih.typeOr' _ _ | exact ih.typing' _ _) (by assumption)) ?_; intro _ _ _)
        | (refine Bl.bind (unionG_bl (fun _ => ih.ptype' _ _) _ _ _ _ _ (by assumption)) ?_; intro _ _ _)
        | (refine Bl.bind (fieldsG_bl (fun _ => ih.typing' _ _) _ _ _ _ _ _ (by assumption)) ?_; intro _ _ _)
        | (refine Bl.bind (by first | exact Bl.lift (by assumption) (ih.expr' _ _) | exact Bl.lift (by assumption) (ih.typeOr' _ _)) ?_; intro _ _ _)
        | (first | exact Bl.lift (by assumption) (ih.expr' _ _) | exact Bl.lift (by assumption) (ih.typeOr' _ _)))
    · intro a o
      have hA : AtO L a 0 a := AtO.refl a
      rw [condiF]
      repeat (first
        | exact Bl.bad
        | exact Bl.ok (by assumption)
        | exact blockG_bl (fun _ => ih.stmt' _ _) (by assumption)
        | exact binG_bl (fun _ _ h1 => ih.bin' _ _ _ h1) _ (by omega) _ _ _ _ _ (by assumption)
        | exact postG_bl (fun _ => ih.expr' _ _) _ _ _ _ _ (by assumption)
        | exact arrayG_bl _ _ _ _ _ (by assumption)
        | (refine Bl.iteS1 (by decide +kernel) (by assumption) (fun _ => ?_) ?_)
        | (refine Bl.iteS0 (by decide +kernel) (by assumption) (fun _ _ => ?_) ?_)
        | (refine Bl.iteW (by assumption) (fun _ => ?_) ?_)
        | (refine Bl.iteN (d := 0) ?_ ?_)
        | (refine Bl.iteK (by decide) (by assumption) (fun _ => ?_) ?_)
        | (refine Bl.ite3 (by decide +kernel) (by decide +kernel) (by assumption) (fun _ => ?_) ?_)
        | (refine Bl.iteT (by assumption) (fun _ => ?_) ?_)
        | (refine Bl.ite ?_ ?_)
        | (refine Bl.bind (begin_bl (by assumption)) ?_; intro _ _ _)
        | (refine Bl.bind (want_bl1 (by decide +kernel) (by assumption)) ?_; intro _ _ _)
        | (refine Bl.bind (want_bl0 (by decide +kernel) (by assumption)) ?_; intro _ _ _)
        | (refine Bl.bind (want_blc (by decide +kernel) (by assumption)) ?_; intro _ _ _)
        | (refine Bl.bind (id_bl (by assumption)) ?_; intro _ _ _)
        | (refine Bl.bind (prop_bl (by assumption)) ?_; intro _ _ _)
        | (refine Bl.bind (listE_bl (by decide +kernel) (fun _ => by first | exact ih.expr' _ _ | exact ih.prop' _ _) (by assumption)) ?_; intro _ _ _)
        | (refine Bl.bind (paramsG_bl (fun _ => by first | exact ih.typeOr' _ _ | exact ih.typing' _ _) (by assumption)) ?_; intro _ _ _)
        | (refine Bl.bind (unionG_bl (fun _ => ih.ptype' _ _) _ _ _ _ _ (by assumption)) ?_; intro _ _ _)
        | (refine Bl.bind (fieldsG_bl (fun _ => ih.typing' _ _) _ _ _ _ _ _ (by assumption)) ?_; intro _ _ _)
        | (refine Bl.bind (by first | exact Bl.lift (by assumption) (ih.expr' _ _)) ?_; intro _ _ _)
        | (first | exact Bl.lift (by assumption) (ih.expr' _ _)))
    · intro a o
      have hA : AtO L a 0 a := AtO.refl a
      rw [elseF]
      repeat (first
        | exact Bl.bad
        | exact Bl.ok (by assumption)
        | exact blockG_bl (fun _ => ih.stmt' _ _) (by assumption)
        | exact binG_bl (fun _ _ h1 => ih.bin' _ _ _ h1) _ (by omega) _ _ _ _ _ (by assumption)
        | exact postG_bl (fun _ => ih.expr' _ _) _ _ _ _ _ (by assumption)
        | exact arrayG_bl _ _ _ _ _ (by assumption)
        | (refine Bl.iteS1 (by decide +kernel) (by assumption) (fun _ => ?_) ?_)
        | (refine Bl.iteS0 (by decide +kernel) (by assumption) (fun _ _ => ?_) ?_)
        | (refine Bl.iteW (by assumption) (fun _ => ?_) ?_)
        | (refine Bl.iteN (d := 0) ?_ ?_)
        | (refine Bl.iteK (by decide) (by assumption) (fun _ => ?_) ?_)
        | (refine Bl.ite3 (by decide +kernel) (by decide +kernel) (by assumption) (fun _ => ?_) ?_)
        | (refine Bl.iteT (by assumption) (fun _ => ?_) ?_)
        | (refine Bl.ite ?_ ?_)
        | (refine Bl.bind (begin_bl (by assumption)) ?_; intro _ _ _)
        | (refine Bl.bind (want_bl1 (by decide +kernel) (by assumption)) ?_; intro _ _ _)
        | (refine Bl.bind (want_bl0 (by decide +kernel) (by assumption)) ?_; intro _ _ _)
        | (refine Bl.bind (want_blc (by decide +kernel) (by assumption)) ?_; intro _ _ _)
        | (refine Bl.bind (id_bl (by assumption)) ?_; intro _ _ _)
        | (refine Bl.bind (prop_bl (by assumption)) ?_; intro _ _ _)
        | (refine Bl.bind (listE_bl (by decide +kernel) (fun _ => by first | exact ih.expr' _ _ | exact ih.prop' _ _) (by assumption)) ?_; intro _ _ _)
        | (refine Bl.bind (paramsG_bl (fun _ => by first | exact ih.typeOr' _ _ | exact ih.typing' _ _) (by assumption)) ?_; intro _ _ _)
        | (refine Bl.bind (unionG_bl (fun _ => ih.ptype' _ _) _ _ _ _ _ (by assumption)) ?_; intro _ _ _)
        | (refine Bl.bind (fieldsG_bl (fun _ => ih.typing' _ _) _ _ _ _ _ _ (by assumption)) ?_; intro _ _ _)
        | (refine Bl.bind (by first | exact Bl.lift (by assumption) (ih.blk' _ _) | exact Bl.lift (by assumption) (ih.stmt' _ _)) ?_; intro _ _ _)
        | (first | exact Bl.lift (by assumption) (ih.blk' _ _) | exact Bl.lift (by assumption) (ih.stmt' _ _)))
    · intro a o
      have hA : AtO L a 0 a := AtO.refl a
      rw [exprOrF]
      repeat (first
        | exact Bl.bad
        | exact Bl.ok (by assumption)
        | exact blockG_bl (fun _ => ih.stmt' _ _) (by assumption)
        | exact binG_bl (fun _ _ h1 => ih.bin' _ _ _ h1) _ (by omega) _ _ _ _ _ (by assumption)
        | exact postG_bl (fun _ => ih.expr' _ _) _ _ _ _ _ (by assumption)
        | exact arrayG_bl _ _ _ _ _ (by assumption)
        | (refine Bl.iteS1 (by decide +kernel) (by assumption) (fun _ => ?_) ?_)
        | (refine Bl.iteS0 (by decide +kernel) (by assumption) (fun _ _ => ?_) ?_)
        | (refine Bl.iteW (by assumption) (fun _ => ?_) ?_)
        | (refine Bl.iteN (d := 0) ?_ ?_)
        | (refine Bl.iteK (by decide) (by assumption) (fun _ => ?_) ?_)
        | (refine Bl.ite3 (by decide +kernel) (by decide +kernel) (by assumption) (fun _ => ?_) ?_)
        | (refine Bl.iteT (by assumption) (fun _ => ?_) ?_)
        | (refine Bl.ite ?_ ?_)
        | (refine Bl.bind (begin_bl (by assumption)) ?_; intro _ _ _)
        | (refine Bl.bind (want_bl1 (by decide +kernel) (by assumption)) ?_; intro _ _ _)
        | (refine Bl.bind (want_bl0 (by decide +kernel) (by assumption)) ?_; intro _ _ _)
        | (refine Bl.bind (want_blc (by decide +kernel) (by assumption)) ?_; intro _ _ _)
        | (refine Bl.bind (id_bl (by assumption)) ?_; intro _ _ _)
        | (refine Bl.bind (prop_bl (by assumption)) ?_; intro _ _ _)
        | (refine Bl.bind (listE_bl (by decide +kernel) (fun _ => by first | exact ih.expr' _ _ | exact ih.prop' _ _) (by assumption)) ?_; intro _ _ _)
        | (refine Bl.bind (paramsG_bl (fun _ => by first | exact ih.typeOr' _ _ | exact ih.typing' _ _) (by assumption)) ?_; intro _ _ _)
        | (refine Bl.bind (unionG_bl (fun _ => ih.ptype' _ _) _ _ _ _ _ (by assumption)) ?_; intro _ _ _)
        | (refine Bl.bind (fieldsG_bl (fun _ => ih.typing' _ _) _ _ _ _ _ _ (by assumption)) ?_; intro _ _ _)
        | (refine Bl.bind (by first | exact Bl.lift (by assumption) (ih.expr' _ _)) ?_; intro _ _ _)
        | (first | exact Bl.lift (by assumption) (ih.expr' _ _)))
    · intro a o
      have hA : AtO L a 0 a := AtO.refl a
      rw [anyF]
      repeat (first
        | exact Bl.bad
        | exact Bl.ok (by assumption)
        | exact blockG_bl (fun _ => ih.stmt' _ _) (by assumption)
        | exact binG_bl (fun _ _ h1 => ih.bin' _ _ _ h1) _ (by omega) _ _ _ _ _ (by assumption)
        | exact postG_bl (fun _ => ih.expr' _ _) _ _ _ _ _ (by assumption)
        | exact arrayG_bl _ _ _ _ _ (by assumption)
        | (refine Bl.iteS1 (by decide +kernel) (by assumption) (fun _ => ?_) ?_)
        | (refine Bl.iteS0 (by decide +kernel) (by assumption) (fun _ _ => ?_) ?_)
        | (refine Bl.iteW (by assumption) (fun _ => ?_) ?_)
        | (refine Bl.iteN (d := 0) ?_ ?_)
        | (refine Bl.iteK (by decide) (by assumption) (fun _ => ?_) ?_)
        | (refine Bl.ite3 (by decide +kernel) (by decide +kernel) (by assumption) (fun _ => ?_) ?_)
        | (refine Bl.iteT (by assumption) (fun _ => ?_) ?_)
        | (refine Bl.ite ?_ ?_)
        | (refine Bl.bind (begin_bl (by assumption)) ?_; intro _ _ _)
        | (refine Bl.bind (want_bl1 (by decide +kernel) (by assumption)) ?_; intro _ _ _)
        | (refine Bl.bind (want_bl0 (by decide +kernel) (by assumption)) ?_; intro _ _ _)
        | (refine Bl.bind (want_blc (by decide +kernel) (by assumption)) ?_; intro _ _ _)
        | (refine Bl.bind (id_bl (by assumption)) ?_; intro _ _ _)
        | (refine Bl.bind (prop_bl (by assumption)) ?_; intro _ _ _)
        | (refine Bl.bind (listE_bl (by decide +kernel) (fun _ => by first | exact ih.expr' _ _ | exact ih.prop' _ _) (by assumption)) ?_; intro _ _ _)
        | (refine Bl.bind (paramsG_bl (fun _ => by first | exact ih.typeOr' _ _ | exact ih.typing' _ _) (by assumption)) ?_; intro _ _ _)
        | (refine Bl.bind (unionG_bl (fun _ => ih.ptype' _ _) _ _ _ _ _ (by assumption)) ?_; intro _ _ _)
        | (refine Bl.bind (fieldsG_bl (fun _ => ih.typing' _ _) _ _ _ _ _ _ (by assumption)) ?_; intro _ _ _)
        | (refine Bl.bind (by first | exact Bl.lift (by assumption) (ih.expr' _ _) | exact Bl.lift (by assumption) (ih.typeOr' _ _) | exact Bl.lift (by assumption) (ih.blk' _ _) | exact Bl.lift (by assumption) (ih.let' _ _ _) | exact Bl.lift (by assumption) (ih.condi' _ _) | exact Bl.lift (by assumption) (ih.els' _ _) | exact Bl.lift (by assumption) (ih.exprOr' _ _)) ?_; intro _ _ _)
        | (first | exact Bl.lift (by assumption) (ih.expr' _ _) | exact Bl.lift (by assumption) (ih.typeOr' _ _) | exact Bl.lift (by assumption) (ih.blk' _ _) | exact Bl.lift (by assumption) (ih.let' _ _ _) | exact Bl.lift (by assumption) (ih.condi' _ _) | exact Bl.lift (by assumption) (ih.els' _ _) | exact Bl.lift (by assumption) (ih.exprOr' _ _)))
end Go.Proofs.Ytmfgcaffdkakhaa
namespace Go.Proofs.Ytmfgcaffdkakhaa
open Go.RowKit
set_option linter.unusedVariables false
set_option linter.unusedSimpArgs false

/-- the second list is the first, but for places, one token behind the first, and a closing bracket behind it. -/
structure Br (L M : List Tok) : Prop where
  len : M.length = L.length + 2
  same : ∀ a, a < L.length → (tokA M (a + 1)).k = (tokA L a).k ∧ (tokA M (a + 1)).t = (tokA L a).t ∧ (tokA M (a + 1)).n = (tokA L a).n
  fin : (tokA M (L.length + 1)).k = 5 ∧ (tokA M (L.length + 1)).t.toList = [41]
variable {L M : List Tok}
theorem tok_end {a : Nat} (h : L.length ≤ a) : tokA L a = endT := by
  unfold tokA
  rw [List.getElem?_eq_none h]
  rfl
theorem Br.isSl (h : Br L M) {a : Nat} (ha : a < L.length) (s : ByteArray) : isS M (a + 1) s = isS L a s := by
  obtain ⟨h1, h2, _⟩ := h.same a ha
  unfold isS
  rw [h1, h2]
theorem Br.isS (h : Br L M) {a : Nat} (ha : a ≤ L.length) {s : ByteArray} (hs : s.toList ≠ [41]) : isS M (a + 1) s = isS L a s := by
  by_cases hl : a < L.length
  · exact h.isSl hl s
  · obtain rfl : a = L.length := by omega
    have e : ([41] == s.toList) = false := beq_eq_false_iff_ne.2 (fun e => hs e.symm)
    unfold Go.Proofs.Ytmfgcaffdkakhaa.isS
    rw [tok_end (Nat.le_refl _), h.fin.1, h.fin.2, e]
    rfl
theorem Br.isS1 (h : Br L M) {a : Nat} {s : ByteArray} (hs : Go.Proofs.Ytmfgcaffdkakhaa.isS L a s = true) : Go.Proofs.Ytmfgcaffdkakhaa.isS M (a + 1) s = true := by rw [h.isSl (isS_lt hs)]; exact hs
theorem Br.kind (h : Br L M) {a : Nat} (ha : a ≤ L.length) {k : Int} (h0 : k ≠ 0) (h5 : k ≠ 5) : ((tokA M (a + 1)).k = k) = ((tokA L a).k = k) := by
  by_cases hl : a < L.length
  · rw [(h.same a hl).1]
  · obtain rfl : a = L.length := by omega
    rw [tok_end (Nat.le_refl _), h.fin.1]
    simp only [eq_iff_iff]
    constructor
    · intro e; exact absurd e.symm h5
    · intro e; exact absurd e.symm h0
theorem Br.kindB (h : Br L M) {a : Nat} (ha : a ≤ L.length) {k : Int} (h0 : k ≠ 0) (h5 : k ≠ 5) : ((tokA M (a + 1)).k == k) = ((tokA L a).k == k) := by
  have := h.kind ha h0 h5
  rw [Bool.eq_iff_iff, beq_iff_eq, beq_iff_eq, this]
theorem Br.isWd (h : Br L M) {a : Nat} (ha : a ≤ L.length) (s : ByteArray) : isWd M (a + 1) s = isWd L a s := by
  by_cases hl : a < L.length
  · obtain ⟨h1, h2, _⟩ := h.same a hl
    unfold Go.Proofs.Ytmfgcaffdkakhaa.isWd
    rw [h1, h2]
  · unfold Go.Proofs.Ytmfgcaffdkakhaa.isWd
    rw [h.kindB ha (by decide) (by decide)]
    obtain rfl : a = L.length := by omega
    rw [tok_end (Nat.le_refl _)]
    rfl
theorem Br.isN (h : Br L M) {a : Nat} (ha : a ≤ L.length) : isN M (a + 1) = isN L a := by
  unfold Go.Proofs.Ytmfgcaffdkakhaa.isN
  exact h.kindB ha (by decide) (by decide)
theorem line_eq {x y : Tok} (hk : x.k = y.k) (ht : x.t = y.t) : lineI x = lineI y := by unfold lineI; rw [hk, ht]
theorem open_eq {x y : Tok} (hk : x.k = y.k) (ht : x.t = y.t) : openI x = openI y := by unfold openI; rw [hk, ht]
theorem Br.line (h : Br L M) {a : Nat} (ha : a ≤ L.length) : lineI (tokA M (a + 1)) = lineI (tokA L a) := by
  by_cases hl : a < L.length
  · exact line_eq (h.same a hl).1 (h.same a hl).2.1
  · obtain rfl : a = L.length := by omega
    rw [tok_end (Nat.le_refl _)]
    unfold lineI
    rw [h.fin.1, h.fin.2]
    decide
theorem sum_br (h : Br L M) : ∀ c, c ≤ L.length → sumO M (c + 1) = sumO M 1 + sumO L c
  | 0, _ => by simp [sumO]
  | c + 1, hc => by
    have ih := sum_br h c (by omega)
    have e := open_eq (h.same c (by omega)).1 (h.same c (by omega)).2.1
    have e1 : sumO M (c + 1 + 1) = sumO M (c + 1) + openI (tokA M (c + 1)) := rfl
    have e2 : sumO L (c + 1) = sumO L c + openI (tokA L c) := rfl
    omega
theorem arr_at {j : Nat} (hj : j < L.length) : ∀ (m i : Nat) (d : Int), i + m = j → (∀ c, i ≤ c → c < j → d + (sumO L (c + 1) - sumO L i) ≠ 0) → d + (sumO L (j + 1) - sumO L i) = 0 → arrL L (L.drop i) i d = isS L (j + 1) sAr
  | 0, i, d, h, _, hz => by
    obtain rfl : i = j := by omega
    have e : tokA L i = L[i] := by simp [tokA, hj]
    have e1 : sumO L (i + 1) = sumO L i + openI (tokA L i) := rfl
    rw [List.drop_eq_getElem_cons hj, arrL, if_pos (by rw [← e]; omega)]
  | m + 1, i, d, h, hn, hz => by
    have hi : i < L.length := by omega
    have e : tokA L i = L[i] := by simp [tokA, hi]
    have e1 : sumO L (i + 1) = sumO L i + openI (tokA L i) := rfl
    have h1 := hn i (by omega) (by omega)
    rw [List.drop_eq_getElem_cons hi, arrL, if_neg (by rw [← e]; omega)]
    refine arr_at hj m (i + 1) _ (by omega) (fun c hc1 hc2 => ?_) ?_
    · have := hn c (by omega) hc2
      rw [← e]
      omega
    · rw [← e]
      omega
theorem least {P : Nat → Prop} (m : Nat) (h : P m) : ∃ j, j ≤ m ∧ P j ∧ ∀ c, c < j → ¬ P c := by
  induction m using Nat.strongRecOn with
  | _ m ih =>
    by_cases hc : ∃ c, c < m ∧ P c
    · obtain ⟨c, h1, h2⟩ := hc
      obtain ⟨j, h3, h4, h5⟩ := ih c h1 h2
      exact ⟨j, by omega, h4, h5⟩
    · exact ⟨m, Nat.le_refl _, h, fun c h1 h2 => hc ⟨c, h1, h2⟩⟩
theorem first_zero {a b : Nat} (h : AtO L a 0 b) (hab : a < b) : ∃ j, a ≤ j ∧ j < b ∧ sumO L (j + 1) = sumO L a ∧ ∀ c, a ≤ c → c < j → sumO L (c + 1) ≠ sumO L a := by
  obtain ⟨j, h1, h2, h3⟩ := least (P := fun c => a ≤ c ∧ sumO L (c + 1) = sumO L a) (b - 1) ⟨by omega, by rw [show b - 1 + 1 = b by omega, h.sum]; simp⟩
  exact ⟨j, h2.1, by omega, h2.2, fun c h4 h5 h6 => h3 c h5 ⟨h4, h6⟩⟩
theorem arrow_br (hB : Br L M) {a b : Nat} (h : AtO L a 0 b) (hab : a < b) (hb : b ≤ L.length) : arrow M (a + 1) = arrow L a := by
  obtain ⟨j, h1, h2, h3, h4⟩ := first_zero h hab
  unfold arrow
  rw [arr_at (L := L) (j := j) (by omega) (j - a) a 0 (by omega) (fun c hc1 hc2 => by have := h4 c hc1 hc2; omega) (by omega)]
  rw [arr_at (L := M) (j := j + 1) (by rw [hB.len]; omega) (j - a) (a + 1) 0 (by omega) ?_ ?_]
  · exact hB.isS (by omega) (by decide +kernel)
  · intro c hc1 hc2
    obtain ⟨k, rfl⟩ : ∃ k, c = k + 1 := ⟨c - 1, by omega⟩
    have e1 := sum_br hB (k + 1) (by omega)
    have e2 := sum_br hB a (by omega)
    have := h4 k (by omega) (by omega)
    omega
  · have e1 := sum_br hB (j + 1) (by omega)
    have e2 := sum_br hB a (by omega)
    omega
/-- where the first one is read, the second one is read alike, or too many rules are open. -/
def Sm {α : Type} (L : List Tok) (r r' : Rs α) : Prop := ∀ x b, r = .ok x b → (b ≤ L.length ∧ r' = .ok x (b + 1)) ∨ ∃ p, r' = .bad p 2
theorem Sm.bad {α : Type} {p : Nat} {e : Int} {r' : Rs α} : Sm L (.bad p e) r' := fun x b h => by cases h
theorem Sm.ok {α : Type} {b : Nat} {v : α} (h : b ≤ L.length) : Sm L (.ok v b) (.ok v (b + 1)) := fun x c e => by cases e; exact .inl ⟨h, rfl⟩
theorem Sm.ok' {α : Type} {b : Nat} {v v' : α} (e : v' = v) (h : b ≤ L.length) : Sm L (.ok v b) (.ok v' (b + 1)) := by rw [e]; exact Sm.ok h
theorem Sm.bind {α β : Type} {r r' : Rs α} {f g : α → Nat → Rs β} (hr : Sm L r r') (hf : ∀ u a1, a1 ≤ L.length → Sm L (f u a1) (g u (a1 + 1))) : Sm L (r.bind f) (r'.bind g) := by
  cases r with
  | bad p e => exact Sm.bad
  | ok u a1 =>
    rcases hr u a1 rfl with ⟨h, rfl⟩ | ⟨p, rfl⟩
    · exact hf u a1 h
    · intro x b _
      exact .inr ⟨p, rfl⟩
theorem Sm.iteS {α : Type} {a : Nat} {s : ByteArray} {x y x' y' : Rs α} (hB : Br L M) (hs : s.toList ≠ [41]) (ha : a ≤ L.length) (hx : a < L.length → isS L a s = true → Sm L x x') (hy : Sm L y y') : Sm L (if isS L a s = true then x else y) (if isS M (a + 1) s = true then x' else y') := by
  rw [hB.isS ha hs]
  split
  · rename_i h; exact hx (isS_lt h) h
  · exact hy
theorem Sm.iteW {α : Type} {a : Nat} {s : ByteArray} {x y x' y' : Rs α} (hB : Br L M) (ha : a ≤ L.length) (hx : a < L.length → Sm L x x') (hy : Sm L y y') : Sm L (if isWd L a s = true then x else y) (if isWd M (a + 1) s = true then x' else y') := by
  rw [hB.isWd ha]
  split
  · rename_i h; exact hx (isWd_lt h)
  · exact hy
theorem Sm.iteN {α : Type} {a : Nat} {x y x' y' : Rs α} (hB : Br L M) (ha : a ≤ L.length) (hx : a < L.length → Sm L x x') (hy : Sm L y y') : Sm L (if isN L a = true then x else y) (if isN M (a + 1) = true then x' else y') := by
  rw [hB.isN ha]
  split
  · rename_i h; exact hx (isN_lt h)
  · exact hy
theorem Sm.iteK {α : Type} {a : Nat} {k : Int} {x y x' y' : Rs α} (hB : Br L M) (h0 : k ≠ 0) (h5 : k ≠ 5) (ha : a ≤ L.length) (hx : a < L.length → (tokA M (a + 1)).t = (tokA L a).t → (tokA M (a + 1)).n = (tokA L a).n → Sm L x x') (hy : Sm L y y') : Sm L (if (tokA L a).k = k then x else y) (if (tokA M (a + 1)).k = k then x' else y') := by
  simp only [hB.kind ha h0 h5]
  split
  · rename_i h
    have hl : a < L.length := kind_lt (by rw [h]; exact h0)
    exact hx hl (hB.same a hl).2.1 (hB.same a hl).2.2
  · exact hy
theorem Sm.ite3 {α : Type} {a : Nat} {s1 s2 w : ByteArray} {x y x' y' : Rs α} (hB : Br L M) (h1 : s1.toList ≠ [41]) (h2 : s2.toList ≠ [41]) (ha : a ≤ L.length) (hx : a < L.length → (tokA M (a + 1)).t = (tokA L a).t → Sm L x x') (hy : Sm L y y') : Sm L (if isS L a s1 = true ∨ isS L a s2 = true ∨ isWd L a w = true then x else y) (if isS M (a + 1) s1 = true ∨ isS M (a + 1) s2 = true ∨ isWd M (a + 1) w = true then x' else y') := by
  rw [hB.isS ha h1, hB.isS ha h2, hB.isWd ha]
  split
  · rename_i h
    have hl : a < L.length := h.elim isS_lt (fun h => h.elim isS_lt isWd_lt)
    exact hx hl (hB.same a hl).2.1
  · exact hy
theorem Sm.iteT {α : Type} {a : Nat} {s2 w : ByteArray} {x y x' y' : Rs α} (hB : Br L M) (ha : a ≤ L.length) (hx : a < L.length → (tokA M (a + 1)).t = (tokA L a).t → Sm L x x') (hy : Sm L y y') : Sm L (if isN L a = true ∨ isWd L a s2 = true ∨ isWd L a w = true then x else y) (if isN M (a + 1) = true ∨ isWd M (a + 1) s2 = true ∨ isWd M (a + 1) w = true then x' else y') := by
  rw [hB.isN ha, hB.isWd ha, hB.isWd ha]
  split
  · rename_i h
    have hl : a < L.length := h.elim isN_lt (fun h => h.elim isWd_lt isWd_lt)
    exact hx hl (hB.same a hl).2.1
  · exact hy
theorem Sm.ite {α : Type} {p : Prop} [Decidable p] {x y x' y' : Rs α} (hx : Sm L x x') (hy : Sm L y y') : Sm L (if p then x else y) (if p then x' else y') := by
  split
  · exact hx
  · exact hy
theorem want_sm (hB : Br L M) {a : Nat} {s : ByteArray} : Sm L (wantR L s a) (wantR M s (a + 1)) := by
  unfold wantR
  by_cases h : isS L a s = true
  · rw [if_pos h, if_pos (hB.isS1 h)]
    exact Sm.ok (isS_lt h)
  · rw [if_neg h]
    exact Sm.bad
theorem id_sm (hB : Br L M) {a : Nat} : Sm L (idR L a) (idR M (a + 1)) := by
  unfold idR
  by_cases h : isN L a = true
  · have hl := isN_lt h
    rw [if_pos h, if_pos (by rw [hB.isN (by omega)]; exact h), (hB.same a hl).2.1]
    exact Sm.ok hl
  · rw [if_neg h]
    exact Sm.bad
theorem prop_sm (hB : Br L M) {a : Nat} : Sm L (propR' L a) (propR' M (a + 1)) := by
  unfold propR'
  by_cases h : isN L a = true ∨ (tokA L a).k = 2
  · have hl : a < L.length := h.elim isN_lt (fun q => kind_lt (by rw [q]; decide))
    rw [if_pos h, if_pos (by rw [hB.isN (by omega), (hB.same a hl).1]; exact h), (hB.same a hl).2.1]
    exact Sm.ok hl
  · rw [if_neg h]
    exact Sm.bad
theorem add_sm (hB : Br L M) {a : Nat} {ns : List (List UInt8)} (hl : a < L.length) : Sm L (addR L ns a) (addR M ns (a + 1)) := by
  unfold addR
  rw [(hB.same a hl).2.1]
  split
  · exact Sm.bad
  · exact Sm.ok (by omega)
theorem begin_sm (hB : Br L M) {a o : Nat} : Sm L (beginR L a o) (beginR M (a + 1) (o + 1)) := by
  unfold beginR
  by_cases h : L.length ≤ a
  · rw [if_pos h]; exact Sm.bad
  · rw [if_neg h, if_neg (show ¬ M.length ≤ a + 1 by rw [hB.len]; omega)]
    by_cases h2 : 400 ≤ o
    · rw [if_pos h2]; exact Sm.bad
    · rw [if_neg h2]
      by_cases h3 : 400 ≤ o + 1
      · rw [if_pos h3]
        intro x b _
        exact .inr ⟨_, rfl⟩
      · rw [if_neg h3]
        exact Sm.ok (by omega)
theorem listG_sm {σ : Type} (hB : Br L M) {s : ByteArray} {F F' : σ → Nat → Rs (Nd × σ)} (hF : ∀ st a, a ≤ L.length → Sm L (F st a) (F' st (a + 1))) (hend : ∀ st x b, F st L.length ≠ .ok x b) : ∀ (n n' : Nat) (acc : List Nd) (st : σ) (a : Nat), n ≤ n' → a ≤ L.length → Sm L (listG L s F n acc st a) (listG M s F' n' acc st (a + 1))
  | 0, _, _, _, _, _, _ => Sm.bad
  | n + 1, 0, _, _, _, h, _ => by omega
  | n + 1, n' + 1, acc, st, a, hn, ha => by
    rw [listG, listG]
    by_cases h1 : isS L a s = true
    · rw [if_pos h1, if_pos (hB.isS1 h1)]
      exact Sm.ok (isS_lt h1)
    · rw [if_neg h1]
      by_cases hl : a < L.length
      · rw [if_neg (by rw [hB.isSl hl]; exact h1)]
        have hf := hF st a ha
        cases e : F st a with
        | bad p er => exact Sm.bad
        | ok x a1 =>
          rcases hf _ _ e with ⟨h2, h3⟩ | ⟨p, h3⟩
          · rw [h3]
            dsimp only
            by_cases h4 : isS L a1 s = true
            · rw [if_pos h4, if_pos (hB.isS1 h4)]
              exact listG_sm hB hF hend n n' _ _ _ (by omega) h2
            · rw [if_neg h4]
              by_cases h5 : isS L a1 sCm = true
              · have hl1 := isS_lt h5
                rw [if_pos h5, if_neg (by rw [hB.isSl hl1]; exact h4), if_pos (hB.isS1 h5)]
                exact listG_sm hB hF hend n n' _ _ _ (by omega) hl1
              · rw [if_neg h5]; exact Sm.bad
          · rw [h3]
            intro _ _ _
            exact .inr ⟨p, rfl⟩
      · obtain rfl : a = L.length := by omega
        cases e : F st L.length with
        | bad p er => exact Sm.bad
        | ok x a1 => exact absurd e (hend _ _ _)
theorem listE_sm (hB : Br L M) {s : ByteArray} {E E' : Nat → Rs Nd} (hE : ∀ a, a ≤ L.length → Sm L (E a) (E' (a + 1))) (hend : ∀ x b, E L.length ≠ .ok x b) {a : Nat} (h : a ≤ L.length) : Sm L (listE L E s a) (listE M E' s (a + 1)) := by
  unfold listE
  refine listG_sm hB (fun _ a h => (hE a h).bind (fun x c h => Sm.ok (v := (x, ())) h)) (fun st x b e => ?_) _ _ _ _ _ (by rw [hB.len]; omega) h
  cases e1 : E L.length with
  | ok y c => exact hend _ _ e1
  | bad p er => rw [e1] at e; cases e
theorem stmtsG_sm (hB : Br L M) {F F' : Nat → Rs Nd} (hF : ∀ a, a ≤ L.length → Sm L (F a) (F' (a + 1))) : ∀ (n n' : Nat) (acc : List Nd) (a : Nat), n ≤ n' → a ≤ L.length → Sm L (stmtsG L F n acc a) (stmtsG M F' n' acc (a + 1))
  | 0, _, _, _, _, _ => Sm.bad
  | n + 1, 0, _, _, h, _ => by omega
  | n + 1, n' + 1, acc, a, hn, h => by
    rw [stmtsG, stmtsG]
    refine Sm.iteS hB (by decide +kernel) h (fun q _ => Sm.ok q) ?_
    have hf := hF a h
    cases e : F a with
    | bad p er => exact Sm.bad
    | ok x a1 =>
      rcases hf _ _ e with ⟨h2, h3⟩ | ⟨p, h3⟩
      · rw [h3]
        exact stmtsG_sm hB hF n n' _ _ (by omega) h2
      · rw [h3]
        intro _ _ _
        exact .inr ⟨p, rfl⟩
theorem blockG_sm (hB : Br L M) {F F' : Nat → Rs Nd} (hF : ∀ a, a ≤ L.length → Sm L (F a) (F' (a + 1))) {a : Nat} (h : a ≤ L.length) : Sm L (blockG L F a) (blockG M F' (a + 1)) := (want_sm hB).bind fun _ _ h1 => (stmtsG_sm hB hF _ _ _ _ (by rw [hB.len]; omega) h1).bind fun _ _ h2 => Sm.ok h2
theorem parG_sm (hB : Br L M) {G G' : Nat → Rs Nd} (hG : ∀ a, a ≤ L.length → Sm L (G a) (G' (a + 1))) (ns : List (List UInt8)) {a : Nat} (h : a ≤ L.length) : Sm L (parG L G ns a) (parG M G' ns (a + 1)) := by
  unfold parG
  by_cases hl : a < L.length
  · exact (add_sm hB hl).bind fun _ _ _ => (id_sm hB).bind fun _ _ h2 => (hG _ h2).bind fun _ _ h3 => Sm.ok h3
  · intro x b e
    exfalso
    cases e1 : addR L ns a with
    | bad p er => rw [e1] at e; cases e
    | ok u c =>
      rw [e1, Rs.bind_ok] at e
      unfold idR at e
      rw [if_neg (fun q => hl (isN_lt q))] at e
      cases e
theorem par_end {G : Nat → Rs Nd} (ns : List (List UInt8)) (x : Nd × List (List UInt8)) (b : Nat) : parG L G ns L.length ≠ .ok x b := by
  intro e
  unfold parG at e
  cases e1 : addR L ns L.length with
  | bad p er => rw [e1] at e; cases e
  | ok u c =>
    rw [e1, Rs.bind_ok] at e
    unfold idR at e
    rw [if_neg (fun q => absurd (isN_lt q) (by omega))] at e
    cases e
theorem paramsG_sm (hB : Br L M) {G G' : Nat → Rs Nd} (hG : ∀ a, a ≤ L.length → Sm L (G a) (G' (a + 1))) {a : Nat} (h : a ≤ L.length) : Sm L (paramsG L G a) (paramsG M G' (a + 1)) :=
  (want_sm hB).bind fun _ _ h1 => (listG_sm hB (fun ns b hb => parG_sm hB hG ns hb) (fun ns x b => par_end ns x b) _ _ _ _ _ (by rw [hB.len]; omega) h1).bind fun _ _ h2 => Sm.ok h2
theorem binG_sm (hB : Br L M) {B B' : Nat → Nat → Rs Nd} (hb : ∀ m a, 1 ≤ m → a ≤ L.length → Sm L (B m a) (B' m (a + 1))) (m : Nat) (hm : 1 ≤ m) : ∀ (n n' : Nat) (nd : Nd) (a : Nat), n ≤ n' → a ≤ L.length → Sm L (binG L B m n nd a) (binG M B' m n' nd (a + 1))
  | 0, _, _, _, _, _ => Sm.bad
  | n + 1, 0, _, _, h, _ => by omega
  | n + 1, n' + 1, nd, a, hn, h => by
    rw [binG, binG, hB.line h]
    split
    · exact Sm.ok h
    · have hl := line_lt (L := L) (a := a) (by omega)
      rw [(hB.same a hl).2.1]
      exact (hb _ _ (by omega) hl).bind fun _ _ h2 => binG_sm hB hb m hm n n' _ _ (by omega) h2
theorem postG_sm (hB : Br L M) {E E' : Nat → Rs Nd} (hE : ∀ a, a ≤ L.length → Sm L (E a) (E' (a + 1))) (hend : ∀ x b, E L.length ≠ .ok x b) : ∀ (n n' : Nat) (nd : Nd) (a : Nat), n ≤ n' → a ≤ L.length → Sm L (postG L E n nd a) (postG M E' n' nd (a + 1))
  | 0, _, _, _, _, _ => Sm.bad
  | n + 1, 0, _, _, h, _ => by omega
  | n + 1, n' + 1, nd, a, hn, h => by
    rw [postG, postG]
    exact Sm.iteS hB (by decide +kernel) h (fun q _ => (prop_sm hB).bind fun _ _ h2 => postG_sm hB hE hend n n' _ _ (by omega) h2) (Sm.iteS hB (by decide +kernel) h (fun q _ => (hE _ q).bind fun _ _ h2 => (want_sm hB).bind fun _ _ h3 => postG_sm hB hE hend n n' _ _ (by omega) h3) (Sm.iteS hB (by decide +kernel) h (fun q _ => (listE_sm hB hE hend q).bind fun _ _ h2 => postG_sm hB hE hend n n' _ _ (by omega) h2) (Sm.ok h)))
theorem unionG_sm (hB : Br L M) {E E' : Nat → Rs Nd} (hE : ∀ a, a ≤ L.length → Sm L (E a) (E' (a + 1))) : ∀ (n n' : Nat) (acc : List Nd) (a : Nat), n ≤ n' → a ≤ L.length → Sm L (unionG L E n acc a) (unionG M E' n' acc (a + 1))
  | 0, _, _, _, _, _ => Sm.bad
  | n + 1, 0, _, _, h, _ => by omega
  | n + 1, n' + 1, acc, a, hn, h => by
    rw [unionG, unionG]
    exact (hE a h).bind fun _ _ h1 => Sm.iteS hB (by decide +kernel) h1 (fun q _ => unionG_sm hB hE n n' _ _ (by omega) q) (Sm.ok h1)
theorem arrayG_sm (hB : Br L M) : ∀ (n n' : Nat) (nd : Nd) (a : Nat), n ≤ n' → a ≤ L.length → Sm L (arrayG L n nd a) (arrayG M n' nd (a + 1))
  | 0, _, _, _, _, _ => Sm.bad
  | n + 1, 0, _, _, h, _ => by omega
  | n + 1, n' + 1, nd, a, hn, h => by
    rw [arrayG, arrayG]
    exact Sm.iteS hB (by decide +kernel) h (fun q _ => (want_sm hB).bind fun _ _ h2 => arrayG_sm hB n n' _ _ (by omega) h2) (Sm.ok h)
theorem fieldsG_sm (hB : Br L M) {T T' : Nat → Rs Nd} (hT : ∀ a, a ≤ L.length → Sm L (T a) (T' (a + 1))) : ∀ (n n' : Nat) (acc : List Nd) (ns : List (List UInt8)) (a : Nat), n ≤ n' → a ≤ L.length → Sm L (fieldsG L T n acc ns a) (fieldsG M T' n' acc ns (a + 1))
  | 0, _, _, _, _, _, _ => Sm.bad
  | n + 1, 0, _, _, _, h, _ => by omega
  | n + 1, n' + 1, acc, ns, a, hn, h => by
    rw [fieldsG, fieldsG]
    refine Sm.iteS hB (by decide +kernel) h (fun q _ => Sm.ok q) ?_
    by_cases hl : a < L.length
    · exact (add_sm hB hl).bind fun _ _ _ => (prop_sm hB).bind fun _ _ h1 => (hT _ h1).bind fun _ _ h2 => (want_sm hB).bind fun _ _ h3 => fieldsG_sm hB hT n n' _ _ _ (by omega) h3
    · intro x b e
      exfalso
      cases e1 : addR L ns a with
      | bad p er => rw [e1] at e; cases e
      | ok u c =>
        rw [e1, Rs.bind_ok] at e
        unfold propR' at e
        rw [if_neg (fun q => hl (q.elim isN_lt (fun q => kind_lt (by rw [q]; decide))))] at e
        cases e
theorem expr_end (f o : Nat) (x : Nd) (b : Nat) : exprF L f L.length o ≠ .ok x b := by
  intro e
  cases f with
  | zero => rw [exprF] at e; cases e
  | succ f =>
    rw [exprF, beginR, if_pos (Nat.le_refl _)] at e
    cases e
theorem prop_end (f o : Nat) (x : Nd) (b : Nat) : propF L f L.length o ≠ .ok x b := by
  intro e
  cases f with
  | zero => rw [propF] at e; cases e
  | succ f =>
    rw [propF, propR', if_neg (fun q => absurd (q.elim isN_lt (fun q => kind_lt (by rw [q]; decide))) (Nat.lt_irrefl _))] at e
    cases e
structure SmA (L M : List Tok) (f : Nat) : Prop where
  expr' : ∀ (a : Nat) (o : Nat), a ≤ L.length → Sm L (exprF L f a o) (exprF M f (a + 1) (o + 1))
  assign' : ∀ (nd : Nd) (a : Nat) (o : Nat), a ≤ L.length → a < L.length → Sm L (assignF L f nd a o) (assignF M f nd (a + 1) (o + 1))
  cond' : ∀ (a : Nat) (o : Nat), a ≤ L.length → Sm L (condF L f a o) (condF M f (a + 1) (o + 1))
  bin' : ∀ (m : Nat) (a : Nat) (o : Nat), a ≤ L.length → 1 ≤ m → Sm L (binF L f m a o) (binF M f m (a + 1) (o + 1))
  unary' : ∀ (a : Nat) (o : Nat), a ≤ L.length → Sm L (unaryF L f a o) (unaryF M f (a + 1) (o + 1))
  post' : ∀ (a : Nat) (o : Nat), a ≤ L.length → Sm L (postF L f a o) (postF M f (a + 1) (o + 1))
  prim' : ∀ (a : Nat) (o : Nat), a ≤ L.length → Sm L (primF L f a o) (primF M f (a + 1) (o + 1))
  wprim' : ∀ (a : Nat) (o : Nat), a ≤ L.length → Sm L (wprimF L f a o) (wprimF M f (a + 1) (o + 1))
  sprim' : ∀ (a : Nat) (o : Nat), a ≤ L.length → Sm L (sprimF L f a o) (sprimF M f (a + 1) (o + 1))
  prop' : ∀ (a : Nat) (o : Nat), a ≤ L.length → Sm L (propF L f a o) (propF M f (a + 1) (o + 1))
  arrow' : ∀ (a : Nat) (o : Nat), a ≤ L.length → Sm L (arrowF L f a o) (arrowF M f (a + 1) (o + 1))
  abody' : ∀ (a : Nat) (o : Nat), a ≤ L.length → Sm L (abodyF L f a o) (abodyF M f (a + 1) (o + 1))
  typeOr' : ∀ (a : Nat) (o : Nat), a ≤ L.length → Sm L (typeOrF L f a o) (typeOrF M f (a + 1) (o + 1))
  typing' : ∀ (a : Nat) (o : Nat), a ≤ L.length → Sm L (typingF L f a o) (typingF M f (a + 1) (o + 1))
  type' : ∀ (a : Nat) (o : Nat), a ≤ L.length → Sm L (typeF L f a o) (typeF M f (a + 1) (o + 1))
  ptype' : ∀ (a : Nat) (o : Nat), a ≤ L.length → Sm L (ptypeF L f a o) (ptypeF M f (a + 1) (o + 1))
  rtype' : ∀ (a : Nat) (o : Nat), a ≤ L.length → Sm L (rtypeF L f a o) (rtypeF M f (a + 1) (o + 1))
  objt' : ∀ (a : Nat) (o : Nat), a ≤ L.length → Sm L (objtF L f a o) (objtF M f (a + 1) (o + 1))
  ftype' : ∀ (a : Nat) (o : Nat), a ≤ L.length → Sm L (ftypeF L f a o) (ftypeF M f (a + 1) (o + 1))
  blk' : ∀ (a : Nat) (o : Nat), a ≤ L.length → Sm L (blkF L f a o) (blkF M f (a + 1) (o + 1))
  stmt' : ∀ (a : Nat) (o : Nat), a ≤ L.length → Sm L (stmtF L f a o) (stmtF M f (a + 1) (o + 1))
  let' : ∀ (q : Int) (a : Nat) (o : Nat), a ≤ L.length → Sm L (letF L f q a o) (letF M f q (a + 1) (o + 1))
  condi' : ∀ (a : Nat) (o : Nat), a ≤ L.length → Sm L (condiF L f a o) (condiF M f (a + 1) (o + 1))
  els' : ∀ (a : Nat) (o : Nat), a ≤ L.length → Sm L (elseF L f a o) (elseF M f (a + 1) (o + 1))
  exprOr' : ∀ (a : Nat) (o : Nat), a ≤ L.length → Sm L (exprOrF L f a o) (exprOrF M f (a + 1) (o + 1))
  any' : ∀ (a : Nat) (o : Nat), a ≤ L.length → Sm L (anyF L f a o) (anyF M f (a + 1) (o + 1))
set_option maxHeartbeats 8000000 in
theorem sm_all (hB : Br L M) : ∀ f, SmA L M f := by
  intro f
  induction f with
  | zero => constructor <;> (intros; simp [exprF, assignF, condF, binF, unaryF, postF, primF, wprimF, sprimF, propF, arrowF, abodyF, typeOrF, typingF, typeF, ptypeF, rtypeF, objtF, ftypeF, blkF, stmtF, letF, condiF, elseF, exprOrF, anyF]; exact Sm.bad)
  | succ f ih =>
    constructor
    · intro a o h
      rw [exprF, exprF]
      repeat (first
        | exact Sm.bad
        | exact Sm.ok (by omega)
        | exact Sm.ok' (by simp only [*]) (by omega)
        | (refine blockG_sm hB ?_ ?_; (focus (intro _ h; exact ih.stmt' _ _ h)); (focus omega))
        | (refine binG_sm hB ?_ _ ?_ _ _ _ _ ?_ ?_; (focus (intro _ _ h1 h; exact ih.bin' _ _ _ h h1)); (focus omega); (focus (rw [hB.len]; omega)); (focus omega))
        | (refine postG_sm hB ?_ ?_ _ _ _ _ ?_ ?_; (focus (intro _ h; exact ih.expr' _ _ h)); (focus (exact expr_end _ _)); (focus (rw [hB.len]; omega)); (focus omega))
        | (refine arrayG_sm hB _ _ _ _ ?_ ?_; (focus (rw [hB.len]; omega)); (focus omega))
        | (refine Sm.iteS hB (by decide +kernel) (by omega) (fun _ _ => ?_) ?_)
        | (refine Sm.iteW hB (by omega) (fun _ => ?_) ?_)
        | (refine Sm.iteN hB (by omega) (fun _ => ?_) ?_)
        | (refine Sm.iteK hB (by decide) (by decide) (by omega) (fun _ _ _ => ?_) ?_)
        | (refine Sm.ite3 hB (by decide +kernel) (by decide +kernel) (by omega) (fun _ _ => ?_) ?_)
        | (refine Sm.iteT hB (by omega) (fun _ _ => ?_) ?_)
        | (refine Sm.ite ?_ ?_)
        | (refine Sm.bind (begin_sm hB) ?_; intro _ _ _)
        | (refine Sm.bind (want_sm hB) ?_; intro _ _ _)
        | (refine Sm.bind (id_sm hB) ?_; intro _ _ _)
        | (refine Sm.bind (prop_sm hB) ?_; intro _ _ _)
        | (refine Sm.bind (listE_sm hB ?_ ?_ ?_) ?_; (focus (intro _ h; exact ih.expr' _ _ h)); (focus (exact expr_end _ _)); (focus omega); intro _ _ _)
        | (refine Sm.bind (listE_sm hB ?_ ?_ ?_) ?_; (focus (intro _ h; exact ih.prop' _ _ h)); (focus (exact prop_end _ _)); (focus omega); intro _ _ _)
        | (refine Sm.bind (paramsG_sm hB ?_ ?_) ?_; (focus (intro _ h; first | exact ih.typeOr' _ _ h | exact ih.typing' _ _ h)); (focus omega); intro _ _ _)
        | (refine Sm.bind (unionG_sm hB ?_ _ _ _ _ ?_ ?_) ?_; (focus (intro _ h; exact ih.ptype' _ _ h)); (focus (rw [hB.len]; omega)); (focus omega); intro _ _ _)
        | (refine Sm.bind (fieldsG_sm hB ?_ _ _ _ _ _ ?_ ?_) ?_; (focus (intro _ h; exact ih.typing' _ _ h)); (focus (rw [hB.len]; omega)); (focus omega); intro _ _ _)
        | (refine Sm.bind (by first | exact ih.assign' _ _ _ (by omega) (by omega) | exact ih.cond' _ _ (by omega)) ?_; intro _ _ _)
        | (first | exact ih.assign' _ _ _ (by omega) (by omega) | exact ih.cond' _ _ (by omega)))
    · intro nd a o h hlt
      rw [assignF, assignF]
      repeat (first
        | exact Sm.bad
        | exact Sm.ok (by omega)
        | exact Sm.ok' (by simp only [*]) (by omega)
        | (refine blockG_sm hB ?_ ?_; (focus (intro _ h; exact ih.stmt' _ _ h)); (focus omega))
        | (refine binG_sm hB ?_ _ ?_ _ _ _ _ ?_ ?_; (focus (intro _ _ h1 h; exact ih.bin' _ _ _ h h1)); (focus omega); (focus (rw [hB.len]; omega)); (focus omega))
        | (refine postG_sm hB ?_ ?_ _ _ _ _ ?_ ?_; (focus (intro _ h; exact ih.expr' _ _ h)); (focus (exact expr_end _ _)); (focus (rw [hB.len]; omega)); (focus omega))
        | (refine arrayG_sm hB _ _ _ _ ?_ ?_; (focus (rw [hB.len]; omega)); (focus omega))
        | (refine Sm.iteS hB (by decide +kernel) (by omega) (fun _ _ => ?_) ?_)
        | (refine Sm.iteW hB (by omega) (fun _ => ?_) ?_)
        | (refine Sm.iteN hB (by omega) (fun _ => ?_) ?_)
        | (refine Sm.iteK hB (by decide) (by decide) (by omega) (fun _ _ _ => ?_) ?_)
        | (refine Sm.ite3 hB (by decide +kernel) (by decide +kernel) (by omega) (fun _ _ => ?_) ?_)
        | (refine Sm.iteT hB (by omega) (fun _ _ => ?_) ?_)
        | (refine Sm.ite ?_ ?_)
        | (refine Sm.bind (begin_sm hB) ?_; intro _ _ _)
        | (refine Sm.bind (want_sm hB) ?_; intro _ _ _)
        | (refine Sm.bind (id_sm hB) ?_; intro _ _ _)
        | (refine Sm.bind (prop_sm hB) ?_; intro _ _ _)
        | (refine Sm.bind (listE_sm hB ?_ ?_ ?_) ?_; (focus (intro _ h; exact ih.expr' _ _ h)); (focus (exact expr_end _ _)); (focus omega); intro _ _ _)
        | (refine Sm.bind (listE_sm hB ?_ ?_ ?_) ?_; (focus (intro _ h; exact ih.prop' _ _ h)); (focus (exact prop_end _ _)); (focus omega); intro _ _ _)
        | (refine Sm.bind (paramsG_sm hB ?_ ?_) ?_; (focus (intro _ h; first | exact ih.typeOr' _ _ h | exact ih.typing' _ _ h)); (focus omega); intro _ _ _)
        | (refine Sm.bind (unionG_sm hB ?_ _ _ _ _ ?_ ?_) ?_; (focus (intro _ h; exact ih.ptype' _ _ h)); (focus (rw [hB.len]; omega)); (focus omega); intro _ _ _)
        | (refine Sm.bind (fieldsG_sm hB ?_ _ _ _ _ _ ?_ ?_) ?_; (focus (intro _ h; exact ih.typing' _ _ h)); (focus (rw [hB.len]; omega)); (focus omega); intro _ _ _)
        | (refine Sm.bind (by first | exact ih.expr' _ _ (by omega)) ?_; intro _ _ _)
        | (first | exact ih.expr' _ _ (by omega)))
    · intro a o h
      rw [condF, condF]
      repeat (first
        | exact Sm.bad
        | exact Sm.ok (by omega)
        | exact Sm.ok' (by simp only [*]) (by omega)
        | (refine blockG_sm hB ?_ ?_; (focus (intro _ h; exact ih.stmt' _ _ h)); (focus omega))
        | (refine binG_sm hB ?_ _ ?_ _ _ _ _ ?_ ?_; (focus (intro _ _ h1 h; exact ih.bin' _ _ _ h h1)); (focus omega); (focus (rw [hB.len]; omega)); (focus omega))
        | (refine postG_sm hB ?_ ?_ _ _ _ _ ?_ ?_; (focus (intro _ h; exact ih.expr' _ _ h)); (focus (exact expr_end _ _)); (focus (rw [hB.len]; omega)); (focus omega))
        | (refine arrayG_sm hB _ _ _ _ ?_ ?_; (focus (rw [hB.len]; omega)); (focus omega))
        | (refine Sm.iteS hB (by decide +kernel) (by omega) (fun _ _ => ?_) ?_)
        | (refine Sm.iteW hB (by omega) (fun _ => ?_) ?_)
        | (refine Sm.iteN hB (by omega) (fun _ => ?_) ?_)
        | (refine Sm.iteK hB (by decide) (by decide) (by omega) (fun _ _ _ => ?_) ?_)
        | (refine Sm.ite3 hB (by decide +kernel) (by decide +kernel) (by omega) (fun _ _ => ?_) ?_)
        | (refine Sm.iteT hB (by omega) (fun _ _ => ?_) ?_)
        | (refine Sm.ite ?_ ?_)
        | (refine Sm.bind (begin_sm hB) ?_; intro _ _ _)
        | (refine Sm.bind (want_sm hB) ?_; intro _ _ _)
        | (refine Sm.bind (id_sm hB) ?_; intro _ _ _)
        | (refine Sm.bind (prop_sm hB) ?_; intro _ _ _)
        | (refine Sm.bind (listE_sm hB ?_ ?_ ?_) ?_; (focus (intro _ h; exact ih.expr' _ _ h)); (focus (exact expr_end _ _)); (focus omega); intro _ _ _)
        | (refine Sm.bind (listE_sm hB ?_ ?_ ?_) ?_; (focus (intro _ h; exact ih.prop' _ _ h)); (focus (exact prop_end _ _)); (focus omega); intro _ _ _)
        | (refine Sm.bind (paramsG_sm hB ?_ ?_) ?_; (focus (intro _ h; first | exact ih.typeOr' _ _ h | exact ih.typing' _ _ h)); (focus omega); intro _ _ _)
        | (refine Sm.bind (unionG_sm hB ?_ _ _ _ _ ?_ ?_) ?_; (focus (intro _ h; exact ih.ptype' _ _ h)); (focus (rw [hB.len]; omega)); (focus omega); intro _ _ _)
        | (refine Sm.bind (fieldsG_sm hB ?_ _ _ _ _ _ ?_ ?_) ?_; (focus (intro _ h; exact ih.typing' _ _ h)); (focus (rw [hB.len]; omega)); (focus omega); intro _ _ _)
        | (refine Sm.bind (by first | exact ih.expr' _ _ (by omega) | exact ih.bin' _ _ _ (by omega) (by omega)) ?_; intro _ _ _)
        | (first | exact ih.expr' _ _ (by omega) | exact ih.bin' _ _ _ (by omega) (by omega)))
    · intro m a o h hm
      rw [binF, binF]
      repeat (first
        | exact Sm.bad
        | exact Sm.ok (by omega)
        | exact Sm.ok' (by simp only [*]) (by omega)
        | (refine blockG_sm hB ?_ ?_; (focus (intro _ h; exact ih.stmt' _ _ h)); (focus omega))
        | (refine binG_sm hB ?_ _ ?_ _ _ _ _ ?_ ?_; (focus (intro _ _ h1 h; exact ih.bin' _ _ _ h h1)); (focus omega); (focus (rw [hB.len]; omega)); (focus omega))
        | (refine postG_sm hB ?_ ?_ _ _ _ _ ?_ ?_; (focus (intro _ h; exact ih.expr' _ _ h)); (focus (exact expr_end _ _)); (focus (rw [hB.len]; omega)); (focus omega))
        | (refine arrayG_sm hB _ _ _ _ ?_ ?_; (focus (rw [hB.len]; omega)); (focus omega))
        | (refine Sm.iteS hB (by decide +kernel) (by omega) (fun _ _ => ?_) ?_)
        | (refine Sm.iteW hB (by omega) (fun _ => ?_) ?_)
        | (refine Sm.iteN hB (by omega) (fun _ => ?_) ?_)
        | (refine Sm.iteK hB (by decide) (by decide) (by omega) (fun _ _ _ => ?_) ?_)
        | (refine Sm.ite3 hB (by decide +kernel) (by decide +kernel) (by omega) (fun _ _ => ?_) ?_)
        | (refine Sm.iteT hB (by omega) (fun _ _ => ?_) ?_)
        | (refine Sm.ite ?_ ?_)
        | (refine Sm.bind (begin_sm hB) ?_; intro _ _ _)
        | (refine Sm.bind (want_sm hB) ?_; intro _ _ _)
        | (refine Sm.bind (id_sm hB) ?_; intro _ _ _)
        | (refine Sm.bind (prop_sm hB) ?_; intro _ _ _)
        | (refine Sm.bind (listE_sm hB ?_ ?_ ?_) ?_; (focus (intro _ h; exact ih.expr' _ _ h)); (focus (exact expr_end _ _)); (focus omega); intro _ _ _)
        | (refine Sm.bind (listE_sm hB ?_ ?_ ?_) ?_; (focus (intro _ h; exact ih.prop' _ _ h)); (focus (exact prop_end _ _)); (focus omega); intro _ _ _)
        | (refine Sm.bind (paramsG_sm hB ?_ ?_) ?_; (focus (intro _ h; first | exact ih.typeOr' _ _ h | exact ih.typing' _ _ h)); (focus omega); intro _ _ _)
        | (refine Sm.bind (unionG_sm hB ?_ _ _ _ _ ?_ ?_) ?_; (focus (intro _ h; exact ih.ptype' _ _ h)); (focus (rw [hB.len]; omega)); (focus omega); intro _ _ _)
        | (refine Sm.bind (fieldsG_sm hB ?_ _ _ _ _ _ ?_ ?_) ?_; (focus (intro _ h; exact ih.typing' _ _ h)); (focus (rw [hB.len]; omega)); (focus omega); intro _ _ _)
        | (refine Sm.bind (by first | exact ih.unary' _ _ (by omega)) ?_; intro _ _ _)
        | (first | exact ih.unary' _ _ (by omega)))
    · intro a o h
      rw [unaryF, unaryF]
      repeat (first
        | exact Sm.bad
        | exact Sm.ok (by omega)
        | exact Sm.ok' (by simp only [*]) (by omega)
        | (refine blockG_sm hB ?_ ?_; (focus (intro _ h; exact ih.stmt' _ _ h)); (focus omega))
        | (refine binG_sm hB ?_ _ ?_ _ _ _ _ ?_ ?_; (focus (intro _ _ h1 h; exact ih.bin' _ _ _ h h1)); (focus omega); (focus (rw [hB.len]; omega)); (focus omega))
        | (refine postG_sm hB ?_ ?_ _ _ _ _ ?_ ?_; (focus (intro _ h; exact ih.expr' _ _ h)); (focus (exact expr_end _ _)); (focus (rw [hB.len]; omega)); (focus omega))
        | (refine arrayG_sm hB _ _ _ _ ?_ ?_; (focus (rw [hB.len]; omega)); (focus omega))
        | (refine Sm.iteS hB (by decide +kernel) (by omega) (fun _ _ => ?_) ?_)
        | (refine Sm.iteW hB (by omega) (fun _ => ?_) ?_)
        | (refine Sm.iteN hB (by omega) (fun _ => ?_) ?_)
        | (refine Sm.iteK hB (by decide) (by decide) (by omega) (fun _ _ _ => ?_) ?_)
        | (refine Sm.ite3 hB (by decide +kernel) (by decide +kernel) (by omega) (fun _ _ => ?_) ?_)
        | (refine Sm.iteT hB (by omega) (fun _ _ => ?_) ?_)
        | (refine Sm.ite ?_ ?_)
        | (refine Sm.bind (begin_sm hB) ?_; intro _ _ _)
        | (refine Sm.bind (want_sm hB) ?_; intro _ _ _)
        | (refine Sm.bind (id_sm hB) ?_; intro _ _ _)
        | (refine Sm.bind (prop_sm hB) ?_; intro _ _ _)
        | (refine Sm.bind (listE_sm hB ?_ ?_ ?_) ?_; (focus (intro _ h; exact ih.expr' _ _ h)); (focus (exact expr_end _ _)); (focus omega); intro _ _ _)
        | (refine Sm.bind (listE_sm hB ?_ ?_ ?_) ?_; (focus (intro _ h; exact ih.prop' _ _ h)); (focus (exact prop_end _ _)); (focus omega); intro _ _ _)
        | (refine Sm.bind (paramsG_sm hB ?_ ?_) ?_; (focus (intro _ h; first | exact ih.typeOr' _ _ h | exact ih.typing' _ _ h)); (focus omega); intro _ _ _)
        | (refine Sm.bind (unionG_sm hB ?_ _ _ _ _ ?_ ?_) ?_; (focus (intro _ h; exact ih.ptype' _ _ h)); (focus (rw [hB.len]; omega)); (focus omega); intro _ _ _)
        | (refine Sm.bind (fieldsG_sm hB ?_ _ _ _ _ _ ?_ ?_) ?_; (focus (intro _ h; exact ih.typing' _ _ h)); (focus (rw [hB.len]; omega)); (focus omega); intro _ _ _)
        | (refine Sm.bind (by first | exact ih.unary' _ _ (by omega) | exact ih.post' _ _ (by omega)) ?_; intro _ _ _)
        | (first | exact ih.unary' _ _ (by omega) | exact ih.post' _ _ (by omega)))
    · intro a o h
      rw [postF, postF]
      repeat (first
        | exact Sm.bad
        | exact Sm.ok (by omega)
        | exact Sm.ok' (by simp only [*]) (by omega)
        | (refine blockG_sm hB ?_ ?_; (focus (intro _ h; exact ih.stmt' _ _ h)); (focus omega))
        | (refine binG_sm hB ?_ _ ?_ _ _ _ _ ?_ ?_; (focus (intro _ _ h1 h; exact ih.bin' _ _ _ h h1)); (focus omega); (focus (rw [hB.len]; omega)); (focus omega))
        | (refine postG_sm hB ?_ ?_ _ _ _ _ ?_ ?_; (focus (intro _ h; exact ih.expr' _ _ h)); (focus (exact expr_end _ _)); (focus (rw [hB.len]; omega)); (focus omega))
        | (refine arrayG_sm hB _ _ _ _ ?_ ?_; (focus (rw [hB.len]; omega)); (focus omega))
        | (refine Sm.iteS hB (by decide +kernel) (by omega) (fun _ _ => ?_) ?_)
        | (refine Sm.iteW hB (by omega) (fun _ => ?_) ?_)
        | (refine Sm.iteN hB (by omega) (fun _ => ?_) ?_)
        | (refine Sm.iteK hB (by decide) (by decide) (by omega) (fun _ _ _ => ?_) ?_)
        | (refine Sm.ite3 hB (by decide +kernel) (by decide +kernel) (by omega) (fun _ _ => ?_) ?_)
        | (refine Sm.iteT hB (by omega) (fun _ _ => ?_) ?_)
        | (refine Sm.ite ?_ ?_)
        | (refine Sm.bind (begin_sm hB) ?_; intro _ _ _)
        | (refine Sm.bind (want_sm hB) ?_; intro _ _ _)
        | (refine Sm.bind (id_sm hB) ?_; intro _ _ _)
        | (refine Sm.bind (prop_sm hB) ?_; intro _ _ _)
        | (refine Sm.bind (listE_sm hB ?_ ?_ ?_) ?_; (focus (intro _ h; exact ih.expr' _ _ h)); (focus (exact expr_end _ _)); (focus omega); intro _ _ _)
        | (refine Sm.bind (listE_sm hB ?_ ?_ ?_) ?_; (focus (intro _ h; exact ih.prop' _ _ h)); (focus (exact prop_end _ _)); (focus omega); intro _ _ _)
        | (refine Sm.bind (paramsG_sm hB ?_ ?_) ?_; (focus (intro _ h; first | exact ih.typeOr' _ _ h | exact ih.typing' _ _ h)); (focus omega); intro _ _ _)
        | (refine Sm.bind (unionG_sm hB ?_ _ _ _ _ ?_ ?_) ?_; (focus (intro _ h; exact ih.ptype' _ _ h)); (focus (rw [hB.len]; omega)); (focus omega); intro _ _ _)
        | (refine Sm.bind (fieldsG_sm hB ?_ _ _ _ _ _ ?_ ?_) ?_; (focus (intro _ h; exact ih.typing' _ _ h)); (focus (rw [hB.len]; omega)); (focus omega); intro _ _ _)
        | (refine Sm.bind (by first | exact ih.prim' _ _ (by omega)) ?_; intro _ _ _)
        | (first | exact ih.prim' _ _ (by omega)))
    · intro a o h
      rw [primF, primF]
      repeat (first
        | exact Sm.bad
        | exact Sm.ok (by omega)
        | exact Sm.ok' (by simp only [*]) (by omega)
        | (refine blockG_sm hB ?_ ?_; (focus (intro _ h; exact ih.stmt' _ _ h)); (focus omega))
        | (refine binG_sm hB ?_ _ ?_ _ _ _ _ ?_ ?_; (focus (intro _ _ h1 h; exact ih.bin' _ _ _ h h1)); (focus omega); (focus (rw [hB.len]; omega)); (focus omega))
        | (refine postG_sm hB ?_ ?_ _ _ _ _ ?_ ?_; (focus (intro _ h; exact ih.expr' _ _ h)); (focus (exact expr_end _ _)); (focus (rw [hB.len]; omega)); (focus omega))
        | (refine arrayG_sm hB _ _ _ _ ?_ ?_; (focus (rw [hB.len]; omega)); (focus omega))
        | (refine Sm.iteS hB (by decide +kernel) (by omega) (fun _ _ => ?_) ?_)
        | (refine Sm.iteW hB (by omega) (fun _ => ?_) ?_)
        | (refine Sm.iteN hB (by omega) (fun _ => ?_) ?_)
        | (refine Sm.iteK hB (by decide) (by decide) (by omega) (fun _ _ _ => ?_) ?_)
        | (refine Sm.ite3 hB (by decide +kernel) (by decide +kernel) (by omega) (fun _ _ => ?_) ?_)
        | (refine Sm.iteT hB (by omega) (fun _ _ => ?_) ?_)
        | (refine Sm.ite ?_ ?_)
        | (refine Sm.bind (begin_sm hB) ?_; intro _ _ _)
        | (refine Sm.bind (want_sm hB) ?_; intro _ _ _)
        | (refine Sm.bind (id_sm hB) ?_; intro _ _ _)
        | (refine Sm.bind (prop_sm hB) ?_; intro _ _ _)
        | (refine Sm.bind (listE_sm hB ?_ ?_ ?_) ?_; (focus (intro _ h; exact ih.expr' _ _ h)); (focus (exact expr_end _ _)); (focus omega); intro _ _ _)
        | (refine Sm.bind (listE_sm hB ?_ ?_ ?_) ?_; (focus (intro _ h; exact ih.prop' _ _ h)); (focus (exact prop_end _ _)); (focus omega); intro _ _ _)
        | (refine Sm.bind (paramsG_sm hB ?_ ?_) ?_; (focus (intro _ h; first | exact ih.typeOr' _ _ h | exact ih.typing' _ _ h)); (focus omega); intro _ _ _)
        | (refine Sm.bind (unionG_sm hB ?_ _ _ _ _ ?_ ?_) ?_; (focus (intro _ h; exact ih.ptype' _ _ h)); (focus (rw [hB.len]; omega)); (focus omega); intro _ _ _)
        | (refine Sm.bind (fieldsG_sm hB ?_ _ _ _ _ _ ?_ ?_) ?_; (focus (intro _ h; exact ih.typing' _ _ h)); (focus (rw [hB.len]; omega)); (focus omega); intro _ _ _)
        | (refine Sm.bind (by first | exact ih.wprim' _ _ (by omega) | exact ih.sprim' _ _ (by omega)) ?_; intro _ _ _)
        | (first | exact ih.wprim' _ _ (by omega) | exact ih.sprim' _ _ (by omega)))
    · intro a o h
      rw [wprimF, wprimF]
      repeat (first
        | exact Sm.bad
        | exact Sm.ok (by omega)
        | exact Sm.ok' (by simp only [*]) (by omega)
        | (refine blockG_sm hB ?_ ?_; (focus (intro _ h; exact ih.stmt' _ _ h)); (focus omega))
        | (refine binG_sm hB ?_ _ ?_ _ _ _ _ ?_ ?_; (focus (intro _ _ h1 h; exact ih.bin' _ _ _ h h1)); (focus omega); (focus (rw [hB.len]; omega)); (focus omega))
        | (refine postG_sm hB ?_ ?_ _ _ _ _ ?_ ?_; (focus (intro _ h; exact ih.expr' _ _ h)); (focus (exact expr_end _ _)); (focus (rw [hB.len]; omega)); (focus omega))
        | (refine arrayG_sm hB _ _ _ _ ?_ ?_; (focus (rw [hB.len]; omega)); (focus omega))
        | (refine Sm.iteS hB (by decide +kernel) (by omega) (fun _ _ => ?_) ?_)
        | (refine Sm.iteW hB (by omega) (fun _ => ?_) ?_)
        | (refine Sm.iteN hB (by omega) (fun _ => ?_) ?_)
        | (refine Sm.iteK hB (by decide) (by decide) (by omega) (fun _ _ _ => ?_) ?_)
        | (refine Sm.ite3 hB (by decide +kernel) (by decide +kernel) (by omega) (fun _ _ => ?_) ?_)
        | (refine Sm.iteT hB (by omega) (fun _ _ => ?_) ?_)
        | (refine Sm.ite ?_ ?_)
        | (refine Sm.bind (begin_sm hB) ?_; intro _ _ _)
        | (refine Sm.bind (want_sm hB) ?_; intro _ _ _)
        | (refine Sm.bind (id_sm hB) ?_; intro _ _ _)
        | (refine Sm.bind (prop_sm hB) ?_; intro _ _ _)
        | (refine Sm.bind (listE_sm hB ?_ ?_ ?_) ?_; (focus (intro _ h; exact ih.expr' _ _ h)); (focus (exact expr_end _ _)); (focus omega); intro _ _ _)
        | (refine Sm.bind (listE_sm hB ?_ ?_ ?_) ?_; (focus (intro _ h; exact ih.prop' _ _ h)); (focus (exact prop_end _ _)); (focus omega); intro _ _ _)
        | (refine Sm.bind (paramsG_sm hB ?_ ?_) ?_; (focus (intro _ h; first | exact ih.typeOr' _ _ h | exact ih.typing' _ _ h)); (focus omega); intro _ _ _)
        | (refine Sm.bind (unionG_sm hB ?_ _ _ _ _ ?_ ?_) ?_; (focus (intro _ h; exact ih.ptype' _ _ h)); (focus (rw [hB.len]; omega)); (focus omega); intro _ _ _)
        | (refine Sm.bind (fieldsG_sm hB ?_ _ _ _ _ _ ?_ ?_) ?_; (focus (intro _ h; exact ih.typing' _ _ h)); (focus (rw [hB.len]; omega)); (focus omega); intro _ _ _)
        | (refine Sm.bind (by first | exact ih.typeOr' _ _ (by omega) | exact ih.blk' _ _ (by omega)) ?_; intro _ _ _)
        | (first | exact ih.typeOr' _ _ (by omega) | exact ih.blk' _ _ (by omega)))
    · intro a o h
      by_cases hp : isS L a sPo = true
      · intro x b e
        have hA := (bl_all L (f + 1)).sprim' a o x b e
        have hlt : a + 1 ≤ b := (mono_all L (f + 1)).sprim' a o x b e
        have hbd := (bd_all L (f + 1)).sprim' a o h
        rw [e] at hbd
        have ea := arrow_br hB hA (by omega) hbd
        clear hA hlt hbd
        have key : Sm L (sprimF L (f + 1) a o) (sprimF M (f + 1) (a + 1) (o + 1)) := by
          clear hp
          rw [sprimF, sprimF, ea]
          repeat (first
            | exact Sm.bad
            | exact Sm.ok (by omega)
            | exact Sm.ok' (by simp only [*]) (by omega)
              | (refine blockG_sm hB ?_ ?_; (focus (intro _ h; exact ih.stmt' _ _ h)); (focus omega))
            | (refine binG_sm hB ?_ _ ?_ _ _ _ _ ?_ ?_; (focus (intro _ _ h1 h; exact ih.bin' _ _ _ h h1)); (focus omega); (focus (rw [hB.len]; omega)); (focus omega))
            | (refine postG_sm hB ?_ ?_ _ _ _ _ ?_ ?_; (focus (intro _ h; exact ih.expr' _ _ h)); (focus (exact expr_end _ _)); (focus (rw [hB.len]; omega)); (focus omega))
            | (refine arrayG_sm hB _ _ _ _ ?_ ?_; (focus (rw [hB.len]; omega)); (focus omega))
            | (refine Sm.iteS hB (by decide +kernel) (by omega) (fun _ _ => ?_) ?_)
            | (refine Sm.iteW hB (by omega) (fun _ => ?_) ?_)
            | (refine Sm.iteN hB (by omega) (fun _ => ?_) ?_)
            | (refine Sm.iteK hB (by decide) (by decide) (by omega) (fun _ _ _ => ?_) ?_)
            | (refine Sm.ite3 hB (by decide +kernel) (by decide +kernel) (by omega) (fun _ _ => ?_) ?_)
            | (refine Sm.iteT hB (by omega) (fun _ _ => ?_) ?_)
            | (refine Sm.ite ?_ ?_)
            | (refine Sm.bind (begin_sm hB) ?_; intro _ _ _)
            | (refine Sm.bind (want_sm hB) ?_; intro _ _ _)
            | (refine Sm.bind (id_sm hB) ?_; intro _ _ _)
            | (refine Sm.bind (prop_sm hB) ?_; intro _ _ _)
            | (refine Sm.bind (listE_sm hB ?_ ?_ ?_) ?_; (focus (intro _ h; exact ih.expr' _ _ h)); (focus (exact expr_end _ _)); (focus omega); intro _ _ _)
            | (refine Sm.bind (listE_sm hB ?_ ?_ ?_) ?_; (focus (intro _ h; exact ih.prop' _ _ h)); (focus (exact prop_end _ _)); (focus omega); intro _ _ _)
            | (refine Sm.bind (paramsG_sm hB ?_ ?_) ?_; (focus (intro _ h; first | exact ih.typeOr' _ _ h | exact ih.typing' _ _ h)); (focus omega); intro _ _ _)
            | (refine Sm.bind (unionG_sm hB ?_ _ _ _ _ ?_ ?_) ?_; (focus (intro _ h; exact ih.ptype' _ _ h)); (focus (rw [hB.len]; omega)); (focus omega); intro _ _ _)
            | (refine Sm.bind (fieldsG_sm hB ?_ _ _ _ _ _ ?_ ?_) ?_; (focus (intro _ h; exact ih.typing' _ _ h)); (focus (rw [hB.len]; omega)); (focus omega); intro _ _ _)
            | (refine Sm.bind (by first | exact ih.expr' _ _ (by omega) | exact ih.arrow' _ _ (by omega)) ?_; intro _ _ _)
            | (first | exact ih.expr' _ _ (by omega) | exact ih.arrow' _ _ (by omega)))

        exact key x b e
      · rw [sprimF, sprimF]
        repeat (first
          | exact Sm.bad
          | exact Sm.ok (by omega)
          | exact Sm.ok' (by simp only [*]) (by omega)
          | exact absurd ‹isS L _ _ = true› hp
          | (refine blockG_sm hB ?_ ?_; (focus (intro _ h; exact ih.stmt' _ _ h)); (focus omega))
          | (refine binG_sm hB ?_ _ ?_ _ _ _ _ ?_ ?_; (focus (intro _ _ h1 h; exact ih.bin' _ _ _ h h1)); (focus omega); (focus (rw [hB.len]; omega)); (focus omega))
          | (refine postG_sm hB ?_ ?_ _ _ _ _ ?_ ?_; (focus (intro _ h; exact ih.expr' _ _ h)); (focus (exact expr_end _ _)); (focus (rw [hB.len]; omega)); (focus omega))
          | (refine arrayG_sm hB _ _ _ _ ?_ ?_; (focus (rw [hB.len]; omega)); (focus omega))
          | (refine Sm.iteS hB (by decide +kernel) (by omega) (fun _ _ => ?_) ?_)
          | (refine Sm.iteW hB (by omega) (fun _ => ?_) ?_)
          | (refine Sm.iteN hB (by omega) (fun _ => ?_) ?_)
          | (refine Sm.iteK hB (by decide) (by decide) (by omega) (fun _ _ _ => ?_) ?_)
          | (refine Sm.ite3 hB (by decide +kernel) (by decide +kernel) (by omega) (fun _ _ => ?_) ?_)
          | (refine Sm.iteT hB (by omega) (fun _ _ => ?_) ?_)
          | (refine Sm.ite ?_ ?_)
          | (refine Sm.bind (begin_sm hB) ?_; intro _ _ _)
          | (refine Sm.bind (want_sm hB) ?_; intro _ _ _)
          | (refine Sm.bind (id_sm hB) ?_; intro _ _ _)
          | (refine Sm.bind (prop_sm hB) ?_; intro _ _ _)
          | (refine Sm.bind (listE_sm hB ?_ ?_ ?_) ?_; (focus (intro _ h; exact ih.expr' _ _ h)); (focus (exact expr_end _ _)); (focus omega); intro _ _ _)
          | (refine Sm.bind (listE_sm hB ?_ ?_ ?_) ?_; (focus (intro _ h; exact ih.prop' _ _ h)); (focus (exact prop_end _ _)); (focus omega); intro _ _ _)
          | (refine Sm.bind (paramsG_sm hB ?_ ?_) ?_; (focus (intro _ h; first | exact ih.typeOr' _ _ h | exact ih.typing' _ _ h)); (focus omega); intro _ _ _)
          | (refine Sm.bind (unionG_sm hB ?_ _ _ _ _ ?_ ?_) ?_; (focus (intro _ h; exact ih.ptype' _ _ h)); (focus (rw [hB.len]; omega)); (focus omega); intro _ _ _)
          | (refine Sm.bind (fieldsG_sm hB ?_ _ _ _ _ _ ?_ ?_) ?_; (focus (intro _ h; exact ih.typing' _ _ h)); (focus (rw [hB.len]; omega)); (focus omega); intro _ _ _)
          | (refine Sm.bind (by first | exact ih.expr' _ _ (by omega) | exact ih.arrow' _ _ (by omega)) ?_; intro _ _ _)
          | (first | exact ih.expr' _ _ (by omega) | exact ih.arrow' _ _ (by omega)))
    · intro a o h
      rw [propF, propF]
      repeat (first
        | exact Sm.bad
        | exact Sm.ok (by omega)
        | exact Sm.ok' (by simp only [*]) (by omega)
        | (refine blockG_sm hB ?_ ?_; (focus (intro _ h; exact ih.stmt' _ _ h)); (focus omega))
        | (refine binG_sm hB ?_ _ ?_ _ _ _ _ ?_ ?_; (focus (intro _ _ h1 h; exact ih.bin' _ _ _ h h1)); (focus omega); (focus (rw [hB.len]; omega)); (focus omega))
        | (refine postG_sm hB ?_ ?_ _ _ _ _ ?_ ?_; (focus (intro _ h; exact ih.expr' _ _ h)); (focus (exact expr_end _ _)); (focus (rw [hB.len]; omega)); (focus omega))
        | (refine arrayG_sm hB _ _ _ _ ?_ ?_; (focus (rw [hB.len]; omega)); (focus omega))
        | (refine Sm.iteS hB (by decide +kernel) (by omega) (fun _ _ => ?_) ?_)
        | (refine Sm.iteW hB (by omega) (fun _ => ?_) ?_)
        | (refine Sm.iteN hB (by omega) (fun _ => ?_) ?_)
        | (refine Sm.iteK hB (by decide) (by decide) (by omega) (fun _ _ _ => ?_) ?_)
        | (refine Sm.ite3 hB (by decide +kernel) (by decide +kernel) (by omega) (fun _ _ => ?_) ?_)
        | (refine Sm.iteT hB (by omega) (fun _ _ => ?_) ?_)
        | (refine Sm.ite ?_ ?_)
        | (refine Sm.bind (begin_sm hB) ?_; intro _ _ _)
        | (refine Sm.bind (want_sm hB) ?_; intro _ _ _)
        | (refine Sm.bind (id_sm hB) ?_; intro _ _ _)
        | (refine Sm.bind (prop_sm hB) ?_; intro _ _ _)
        | (refine Sm.bind (listE_sm hB ?_ ?_ ?_) ?_; (focus (intro _ h; exact ih.expr' _ _ h)); (focus (exact expr_end _ _)); (focus omega); intro _ _ _)
        | (refine Sm.bind (listE_sm hB ?_ ?_ ?_) ?_; (focus (intro _ h; exact ih.prop' _ _ h)); (focus (exact prop_end _ _)); (focus omega); intro _ _ _)
        | (refine Sm.bind (paramsG_sm hB ?_ ?_) ?_; (focus (intro _ h; first | exact ih.typeOr' _ _ h | exact ih.typing' _ _ h)); (focus omega); intro _ _ _)
        | (refine Sm.bind (unionG_sm hB ?_ _ _ _ _ ?_ ?_) ?_; (focus (intro _ h; exact ih.ptype' _ _ h)); (focus (rw [hB.len]; omega)); (focus omega); intro _ _ _)
        | (refine Sm.bind (fieldsG_sm hB ?_ _ _ _ _ _ ?_ ?_) ?_; (focus (intro _ h; exact ih.typing' _ _ h)); (focus (rw [hB.len]; omega)); (focus omega); intro _ _ _)
        | (refine Sm.bind (by first | exact ih.expr' _ _ (by omega)) ?_; intro _ _ _)
        | (first | exact ih.expr' _ _ (by omega)))
    · intro a o h
      rw [arrowF, arrowF]
      repeat (first
        | exact Sm.bad
        | exact Sm.ok (by omega)
        | exact Sm.ok' (by simp only [*]) (by omega)
        | (refine blockG_sm hB ?_ ?_; (focus (intro _ h; exact ih.stmt' _ _ h)); (focus omega))
        | (refine binG_sm hB ?_ _ ?_ _ _ _ _ ?_ ?_; (focus (intro _ _ h1 h; exact ih.bin' _ _ _ h h1)); (focus omega); (focus (rw [hB.len]; omega)); (focus omega))
        | (refine postG_sm hB ?_ ?_ _ _ _ _ ?_ ?_; (focus (intro _ h; exact ih.expr' _ _ h)); (focus (exact expr_end _ _)); (focus (rw [hB.len]; omega)); (focus omega))
        | (refine arrayG_sm hB _ _ _ _ ?_ ?_; (focus (rw [hB.len]; omega)); (focus omega))
        | (refine Sm.iteS hB (by decide +kernel) (by omega) (fun _ _ => ?_) ?_)
        | (refine Sm.iteW hB (by omega) (fun _ => ?_) ?_)
        | (refine Sm.iteN hB (by omega) (fun _ => ?_) ?_)
        | (refine Sm.iteK hB (by decide) (by decide) (by omega) (fun _ _ _ => ?_) ?_)
        | (refine Sm.ite3 hB (by decide +kernel) (by decide +kernel) (by omega) (fun _ _ => ?_) ?_)
        | (refine Sm.iteT hB (by omega) (fun _ _ => ?_) ?_)
        | (refine Sm.ite ?_ ?_)
        | (refine Sm.bind (begin_sm hB) ?_; intro _ _ _)
        | (refine Sm.bind (want_sm hB) ?_; intro _ _ _)
        | (refine Sm.bind (id_sm hB) ?_; intro _ _ _)
        | (refine Sm.bind (prop_sm hB) ?_; intro _ _ _)
        | (refine Sm.bind (listE_sm hB ?_ ?_ ?_) ?_; (focus (intro _ h; exact ih.expr' _ _ h)); (focus (exact expr_end _ _)); (focus omega); intro _ _ _)
        | (refine Sm.bind (listE_sm hB ?_ ?_ ?_) ?_; (focus (intro _ h; exact ih.prop' _ _ h)); (focus (exact prop_end _ _)); (focus omega); intro _ _ _)
        | (refine Sm.bind (paramsG_sm hB ?_ ?_) ?_; (focus (intro _ h; first | exact ih.typeOr' _ _ h | exact ih.typing' _ _ h)); (focus omega); intro _ _ _)
        | (refine Sm.bind (unionG_sm hB ?_ _ _ _ _ ?_ ?_) ?_; (focus (intro _ h; exact ih.ptype' _ _ h)); (focus (rw [hB.len]; omega)); (focus omega); intro _ _ _)
        | (refine Sm.bind (fieldsG_sm hB ?_ _ _ _ _ _ ?_ ?_) ?_; (focus (intro _ h; exact ih.typing' _ _ h)); (focus (rw [hB.len]; omega)); (focus omega); intro _ _ _)
        | (refine Sm.bind (by first | exact ih.abody' _ _ (by omega)) ?_; intro _ _ _)
        | (first | exact ih.abody' _ _ (by omega)))
    · intro a o h
      rw [abodyF, abodyF]
      repeat (first
        | exact Sm.bad
        | exact Sm.ok (by omega)
        | exact Sm.ok' (by simp only [*]) (by omega)
        | (refine blockG_sm hB ?_ ?_; (focus (intro _ h; exact ih.stmt' _ _ h)); (focus omega))
        | (refine binG_sm hB ?_ _ ?_ _ _ _ _ ?_ ?_; (focus (intro _ _ h1 h; exact ih.bin' _ _ _ h h1)); (focus omega); (focus (rw [hB.len]; omega)); (focus omega))
        | (refine postG_sm hB ?_ ?_ _ _ _ _ ?_ ?_; (focus (intro _ h; exact ih.expr' _ _ h)); (focus (exact expr_end _ _)); (focus (rw [hB.len]; omega)); (focus omega))
        | (refine arrayG_sm hB _ _ _ _ ?_ ?_; (focus (rw [hB.len]; omega)); (focus omega))
        | (refine Sm.iteS hB (by decide +kernel) (by omega) (fun _ _ => ?_) ?_)
        | (refine Sm.iteW hB (by omega) (fun _ => ?_) ?_)
        | (refine Sm.iteN hB (by omega) (fun _ => ?_) ?_)
        | (refine Sm.iteK hB (by decide) (by decide) (by omega) (fun _ _ _ => ?_) ?_)
        | (refine Sm.ite3 hB (by decide +kernel) (by decide +kernel) (by omega) (fun _ _ => ?_) ?_)
        | (refine Sm.iteT hB (by omega) (fun _ _ => ?_) ?_)
        | (refine Sm.ite ?_ ?_)
        | (refine Sm.bind (begin_sm hB) ?_; intro _ _ _)
        | (refine Sm.bind (want_sm hB) ?_; intro _ _ _)
        | (refine Sm.bind (id_sm hB) ?_; intro _ _ _)
        | (refine Sm.bind (prop_sm hB) ?_; intro _ _ _)
        | (refine Sm.bind (listE_sm hB ?_ ?_ ?_) ?_; (focus (intro _ h; exact ih.expr' _ _ h)); (focus (exact expr_end _ _)); (focus omega); intro _ _ _)
        | (refine Sm.bind (listE_sm hB ?_ ?_ ?_) ?_; (focus (intro _ h; exact ih.prop' _ _ h)); (focus (exact prop_end _ _)); (focus omega); intro _ _ _)
        | (refine Sm.bind (paramsG_sm hB ?_ ?_) ?_; (focus (intro _ h; first | exact ih.typeOr' _ _ h | exact ih.typing' _ _ h)); (focus omega); intro _ _ _)
        | (refine Sm.bind (unionG_sm hB ?_ _ _ _ _ ?_ ?_) ?_; (focus (intro _ h; exact ih.ptype' _ _ h)); (focus (rw [hB.len]; omega)); (focus omega); intro _ _ _)
        | (refine Sm.bind (fieldsG_sm hB ?_ _ _ _ _ _ ?_ ?_) ?_; (focus (intro _ h; exact ih.typing' _ _ h)); (focus (rw [hB.len]; omega)); (focus omega); intro _ _ _)
        | (refine Sm.bind (by first | exact ih.expr' _ _ (by omega) | exact ih.blk' _ _ (by omega)) ?_; intro _ _ _)
        | (first | exact ih.expr' _ _ (by omega) | exact ih.blk' _ _ (by omega)))
    · intro a o h
      rw [typeOrF, typeOrF]
      repeat (first
        | exact Sm.bad
        | exact Sm.ok (by omega)
        | exact Sm.ok' (by simp only [*]) (by omega)
        | (refine blockG_sm hB ?_ ?_; (focus (intro _ h; exact ih.stmt' _ _ h)); (focus omega))
        | (refine binG_sm hB ?_ _ ?_ _ _ _ _ ?_ ?_; (focus (intro _ _ h1 h; exact ih.bin' _ _ _ h h1)); (focus omega); (focus (rw [hB.len]; omega)); (focus omega))
        | (refine postG_sm hB ?_ ?_ _ _ _ _ ?_ ?_; (focus (intro _ h; exact ih.expr' _ _ h)); (focus (exact expr_end _ _)); (focus (rw [hB.len]; omega)); (focus omega))
        | (refine arrayG_sm hB _ _ _ _ ?_ ?_; (focus (rw [hB.len]; omega)); (focus omega))
        | (refine Sm.iteS hB (by decide +kernel) (by omega) (fun _ _ => ?_) ?_)
        | (refine Sm.iteW hB (by omega) (fun _ => ?_) ?_)
        | (refine Sm.iteN hB (by omega) (fun _ => ?_) ?_)
        | (refine Sm.iteK hB (by decide) (by decide) (by omega) (fun _ _ _ => ?_) ?_)
        | (refine Sm.ite3 hB (by decide +kernel) (by decide +kernel) (by omega) (fun _ _ => ?_) ?_)
        | (refine Sm.iteT hB (by omega) (fun _ _ => ?_) ?_)
        | (refine Sm.ite ?_ ?_)
        | (refine Sm.bind (begin_sm hB) ?_; intro _ _ _)
        | (refine Sm.bind (want_sm hB) ?_; intro _ _ _)
        | (refine Sm.bind (id_sm hB) ?_; intro _ _ _)
        | (refine Sm.bind (prop_sm hB) ?_; intro _ _ _)
        | (refine Sm.bind (listE_sm hB ?_ ?_ ?_) ?_; (focus (intro _ h; exact ih.expr' _ _ h)); (focus (exact expr_end _ _)); (focus omega); intro _ _ _)
        | (refine Sm.bind (listE_sm hB ?_ ?_ ?_) ?_; (focus (intro _ h; exact ih.prop' _ _ h)); (focus (exact prop_end _ _)); (focus omega); intro _ _ _)
        | (refine Sm.bind (paramsG_sm hB ?_ ?_) ?_; (focus (intro _ h; first | exact ih.typeOr' _ _ h | exact ih.typing' _ _ h)); (focus omega); intro _ _ _)
        | (refine Sm.bind (unionG_sm hB ?_ _ _ _ _ ?_ ?_) ?_; (focus (intro _ h; exact ih.ptype' _ _ h)); (focus (rw [hB.len]; omega)); (focus omega); intro _ _ _)
        | (refine Sm.bind (fieldsG_sm hB ?_ _ _ _ _ _ ?_ ?_) ?_; (focus (intro _ h; exact ih.typing' _ _ h)); (focus (rw [hB.len]; omega)); (focus omega); intro _ _ _)
        | (refine Sm.bind (by first | exact ih.typing' _ _ (by omega)) ?_; intro _ _ _)
        | (first | exact ih.typing' _ _ (by omega)))
    · intro a o h
      rw [typingF, typingF]
      repeat (first
        | exact Sm.bad
        | exact Sm.ok (by omega)
        | exact Sm.ok' (by simp only [*]) (by omega)
        | (refine blockG_sm hB ?_ ?_; (focus (intro _ h; exact ih.stmt' _ _ h)); (focus omega))
        | (refine binG_sm hB ?_ _ ?_ _ _ _ _ ?_ ?_; (focus (intro _ _ h1 h; exact ih.bin' _ _ _ h h1)); (focus omega); (focus (rw [hB.len]; omega)); (focus omega))
        | (refine postG_sm hB ?_ ?_ _ _ _ _ ?_ ?_; (focus (intro _ h; exact ih.expr' _ _ h)); (focus (exact expr_end _ _)); (focus (rw [hB.len]; omega)); (focus omega))
        | (refine arrayG_sm hB _ _ _ _ ?_ ?_; (focus (rw [hB.len]; omega)); (focus omega))
        | (refine Sm.iteS hB (by decide +kernel) (by omega) (fun _ _ => ?_) ?_)
        | (refine Sm.iteW hB (by omega) (fun _ => ?_) ?_)
        | (refine Sm.iteN hB (by omega) (fun _ => ?_) ?_)
        | (refine Sm.iteK hB (by decide) (by decide) (by omega) (fun _ _ _ => ?_) ?_)
        | (refine Sm.ite3 hB (by decide +kernel) (by decide +kernel) (by omega) (fun _ _ => ?_) ?_)
        | (refine Sm.iteT hB (by omega) (fun _ _ => ?_) ?_)
        | (refine Sm.ite ?_ ?_)
        | (refine Sm.bind (begin_sm hB) ?_; intro _ _ _)
        | (refine Sm.bind (want_sm hB) ?_; intro _ _ _)
        | (refine Sm.bind (id_sm hB) ?_; intro _ _ _)
        | (refine Sm.bind (prop_sm hB) ?_; intro _ _ _)
        | (refine Sm.bind (listE_sm hB ?_ ?_ ?_) ?_; (focus (intro _ h; exact ih.expr' _ _ h)); (focus (exact expr_end _ _)); (focus omega); intro _ _ _)
        | (refine Sm.bind (listE_sm hB ?_ ?_ ?_) ?_; (focus (intro _ h; exact ih.prop' _ _ h)); (focus (exact prop_end _ _)); (focus omega); intro _ _ _)
        | (refine Sm.bind (paramsG_sm hB ?_ ?_) ?_; (focus (intro _ h; first | exact ih.typeOr' _ _ h | exact ih.typing' _ _ h)); (focus omega); intro _ _ _)
        | (refine Sm.bind (unionG_sm hB ?_ _ _ _ _ ?_ ?_) ?_; (focus (intro _ h; exact ih.ptype' _ _ h)); (focus (rw [hB.len]; omega)); (focus omega); intro _ _ _)
        | (refine Sm.bind (fieldsG_sm hB ?_ _ _ _ _ _ ?_ ?_) ?_; (focus (intro _ h; exact ih.typing' _ _ h)); (focus (rw [hB.len]; omega)); (focus omega); intro _ _ _)
        | (refine Sm.bind (by first | exact ih.type' _ _ (by omega)) ?_; intro _ _ _)
        | (first | exact ih.type' _ _ (by omega)))
    · intro a o h
      rw [typeF, typeF]
      repeat (first
        | exact Sm.bad
        | exact Sm.ok (by omega)
        | exact Sm.ok' (by simp only [*]) (by omega)
        | (refine blockG_sm hB ?_ ?_; (focus (intro _ h; exact ih.stmt' _ _ h)); (focus omega))
        | (refine binG_sm hB ?_ _ ?_ _ _ _ _ ?_ ?_; (focus (intro _ _ h1 h; exact ih.bin' _ _ _ h h1)); (focus omega); (focus (rw [hB.len]; omega)); (focus omega))
        | (refine postG_sm hB ?_ ?_ _ _ _ _ ?_ ?_; (focus (intro _ h; exact ih.expr' _ _ h)); (focus (exact expr_end _ _)); (focus (rw [hB.len]; omega)); (focus omega))
        | (refine arrayG_sm hB _ _ _ _ ?_ ?_; (focus (rw [hB.len]; omega)); (focus omega))
        | (refine Sm.iteS hB (by decide +kernel) (by omega) (fun _ _ => ?_) ?_)
        | (refine Sm.iteW hB (by omega) (fun _ => ?_) ?_)
        | (refine Sm.iteN hB (by omega) (fun _ => ?_) ?_)
        | (refine Sm.iteK hB (by decide) (by decide) (by omega) (fun _ _ _ => ?_) ?_)
        | (refine Sm.ite3 hB (by decide +kernel) (by decide +kernel) (by omega) (fun _ _ => ?_) ?_)
        | (refine Sm.iteT hB (by omega) (fun _ _ => ?_) ?_)
        | (refine Sm.ite ?_ ?_)
        | (refine Sm.bind (begin_sm hB) ?_; intro _ _ _)
        | (refine Sm.bind (want_sm hB) ?_; intro _ _ _)
        | (refine Sm.bind (id_sm hB) ?_; intro _ _ _)
        | (refine Sm.bind (prop_sm hB) ?_; intro _ _ _)
        | (refine Sm.bind (listE_sm hB ?_ ?_ ?_) ?_; (focus (intro _ h; exact ih.expr' _ _ h)); (focus (exact expr_end _ _)); (focus omega); intro _ _ _)
        | (refine Sm.bind (listE_sm hB ?_ ?_ ?_) ?_; (focus (intro _ h; exact ih.prop' _ _ h)); (focus (exact prop_end _ _)); (focus omega); intro _ _ _)
        | (refine Sm.bind (paramsG_sm hB ?_ ?_) ?_; (focus (intro _ h; first | exact ih.typeOr' _ _ h | exact ih.typing' _ _ h)); (focus omega); intro _ _ _)
        | (refine Sm.bind (unionG_sm hB ?_ _ _ _ _ ?_ ?_) ?_; (focus (intro _ h; exact ih.ptype' _ _ h)); (focus (rw [hB.len]; omega)); (focus omega); intro _ _ _)
        | (refine Sm.bind (fieldsG_sm hB ?_ _ _ _ _ _ ?_ ?_) ?_; (focus (intro _ h; exact ih.typing' _ _ h)); (focus (rw [hB.len]; omega)); (focus omega); intro _ _ _)
        | (refine Sm.bind (by first | fail) ?_; intro _ _ _)
        | (first | fail))
    · intro a o h
      rw [ptypeF, ptypeF]
      repeat (first
        | exact Sm.bad
        | exact Sm.ok (by omega)
        | exact Sm.ok' (by simp only [*]) (by omega)
        | (refine blockG_sm hB ?_ ?_; (focus (intro _ h; exact ih.stmt' _ _ h)); (focus omega))
        | (refine binG_sm hB ?_ _ ?_ _ _ _ _ ?_ ?_; (focus (intro _ _ h1 h; exact ih.bin' _ _ _ h h1)); (focus omega); (focus (rw [hB.len]; omega)); (focus omega))
        | (refine postG_sm hB ?_ ?_ _ _ _ _ ?_ ?_; (focus (intro _ h; exact ih.expr' _ _ h)); (focus (exact expr_end _ _)); (focus (rw [hB.len]; omega)); (focus omega))
        | (refine arrayG_sm hB _ _ _ _ ?_ ?_; (focus (rw [hB.len]; omega)); (focus omega))
        | (refine Sm.iteS hB (by decide +kernel) (by omega) (fun _ _ => ?_) ?_)
        | (refine Sm.iteW hB (by omega) (fun _ => ?_) ?_)
        | (refine Sm.iteN hB (by omega) (fun _ => ?_) ?_)
        | (refine Sm.iteK hB (by decide) (by decide) (by omega) (fun _ _ _ => ?_) ?_)
        | (refine Sm.ite3 hB (by decide +kernel) (by decide +kernel) (by omega) (fun _ _ => ?_) ?_)
        | (refine Sm.iteT hB (by omega) (fun _ _ => ?_) ?_)
        | (refine Sm.ite ?_ ?_)
        | (refine Sm.bind (begin_sm hB) ?_; intro _ _ _)
        | (refine Sm.bind (want_sm hB) ?_; intro _ _ _)
        | (refine Sm.bind (id_sm hB) ?_; intro _ _ _)
        | (refine Sm.bind (prop_sm hB) ?_; intro _ _ _)
        | (refine Sm.bind (listE_sm hB ?_ ?_ ?_) ?_; (focus (intro _ h; exact ih.expr' _ _ h)); (focus (exact expr_end _ _)); (focus omega); intro _ _ _)
        | (refine Sm.bind (listE_sm hB ?_ ?_ ?_) ?_; (focus (intro _ h; exact ih.prop' _ _ h)); (focus (exact prop_end _ _)); (focus omega); intro _ _ _)
        | (refine Sm.bind (paramsG_sm hB ?_ ?_) ?_; (focus (intro _ h; first | exact ih.typeOr' _ _ h | exact ih.typing' _ _ h)); (focus omega); intro _ _ _)
        | (refine Sm.bind (unionG_sm hB ?_ _ _ _ _ ?_ ?_) ?_; (focus (intro _ h; exact ih.ptype' _ _ h)); (focus (rw [hB.len]; omega)); (focus omega); intro _ _ _)
        | (refine Sm.bind (fieldsG_sm hB ?_ _ _ _ _ _ ?_ ?_) ?_; (focus (intro _ h; exact ih.typing' _ _ h)); (focus (rw [hB.len]; omega)); (focus omega); intro _ _ _)
        | (refine Sm.bind (by first | exact ih.rtype' _ _ (by omega)) ?_; intro _ _ _)
        | (first | exact ih.rtype' _ _ (by omega)))
    · intro a o h
      by_cases hp : isS L a sPo = true
      · intro x b e
        have hA := (bl_all L (f + 1)).rtype' a o x b e
        have hlt : a + 1 ≤ b := (mono_all L (f + 1)).rtype' a o x b e
        have hbd := (bd_all L (f + 1)).rtype' a o h
        rw [e] at hbd
        have ea := arrow_br hB hA (by omega) hbd
        clear hA hlt hbd
        have key : Sm L (rtypeF L (f + 1) a o) (rtypeF M (f + 1) (a + 1) (o + 1)) := by
          clear hp
          rw [rtypeF, rtypeF, ea]
          repeat (first
            | exact Sm.bad
            | exact Sm.ok (by omega)
            | exact Sm.ok' (by simp only [*]) (by omega)
              | (refine blockG_sm hB ?_ ?_; (focus (intro _ h; exact ih.stmt' _ _ h)); (focus omega))
            | (refine binG_sm hB ?_ _ ?_ _ _ _ _ ?_ ?_; (focus (intro _ _ h1 h; exact ih.bin' _ _ _ h h1)); (focus omega); (focus (rw [hB.len]; omega)); (focus omega))
            | (refine postG_sm hB ?_ ?_ _ _ _ _ ?_ ?_; (focus (intro _ h; exact ih.expr' _ _ h)); (focus (exact expr_end _ _)); (focus (rw [hB.len]; omega)); (focus omega))
            | (refine arrayG_sm hB _ _ _ _ ?_ ?_; (focus (rw [hB.len]; omega)); (focus omega))
            | (refine Sm.iteS hB (by decide +kernel) (by omega) (fun _ _ => ?_) ?_)
            | (refine Sm.iteW hB (by omega) (fun _ => ?_) ?_)
            | (refine Sm.iteN hB (by omega) (fun _ => ?_) ?_)
            | (refine Sm.iteK hB (by decide) (by decide) (by omega) (fun _ _ _ => ?_) ?_)
            | (refine Sm.ite3 hB (by decide +kernel) (by decide +kernel) (by omega) (fun _ _ => ?_) ?_)
            | (refine Sm.iteT hB (by omega) (fun _ _ => ?_) ?_)
            | (refine Sm.ite ?_ ?_)
            | (refine Sm.bind (begin_sm hB) ?_; intro _ _ _)
            | (refine Sm.bind (want_sm hB) ?_; intro _ _ _)
            | (refine Sm.bind (id_sm hB) ?_; intro _ _ _)
            | (refine Sm.bind (prop_sm hB) ?_; intro _ _ _)
            | (refine Sm.bind (listE_sm hB ?_ ?_ ?_) ?_; (focus (intro _ h; exact ih.expr' _ _ h)); (focus (exact expr_end _ _)); (focus omega); intro _ _ _)
            | (refine Sm.bind (listE_sm hB ?_ ?_ ?_) ?_; (focus (intro _ h; exact ih.prop' _ _ h)); (focus (exact prop_end _ _)); (focus omega); intro _ _ _)
            | (refine Sm.bind (paramsG_sm hB ?_ ?_) ?_; (focus (intro _ h; first | exact ih.typeOr' _ _ h | exact ih.typing' _ _ h)); (focus omega); intro _ _ _)
            | (refine Sm.bind (unionG_sm hB ?_ _ _ _ _ ?_ ?_) ?_; (focus (intro _ h; exact ih.ptype' _ _ h)); (focus (rw [hB.len]; omega)); (focus omega); intro _ _ _)
            | (refine Sm.bind (fieldsG_sm hB ?_ _ _ _ _ _ ?_ ?_) ?_; (focus (intro _ h; exact ih.typing' _ _ h)); (focus (rw [hB.len]; omega)); (focus omega); intro _ _ _)
            | (refine Sm.bind (by first | exact ih.type' _ _ (by omega) | exact ih.objt' _ _ (by omega) | exact ih.ftype' _ _ (by omega)) ?_; intro _ _ _)
            | (first | exact ih.type' _ _ (by omega) | exact ih.objt' _ _ (by omega) | exact ih.ftype' _ _ (by omega)))

        exact key x b e
      · rw [rtypeF, rtypeF]
        repeat (first
          | exact Sm.bad
          | exact Sm.ok (by omega)
          | exact Sm.ok' (by simp only [*]) (by omega)
          | exact absurd ‹isS L _ _ = true› hp
          | (refine blockG_sm hB ?_ ?_; (focus (intro _ h; exact ih.stmt' _ _ h)); (focus omega))
          | (refine binG_sm hB ?_ _ ?_ _ _ _ _ ?_ ?_; (focus (intro _ _ h1 h; exact ih.bin' _ _ _ h h1)); (focus omega); (focus (rw [hB.len]; omega)); (focus omega))
          | (refine postG_sm hB ?_ ?_ _ _ _ _ ?_ ?_; (focus (intro _ h; exact ih.expr' _ _ h)); (focus (exact expr_end _ _)); (focus (rw [hB.len]; omega)); (focus omega))
          | (refine arrayG_sm hB _ _ _ _ ?_ ?_; (focus (rw [hB.len]; omega)); (focus omega))
          | (refine Sm.iteS hB (by decide +kernel) (by omega) (fun _ _ => ?_) ?_)
          | (refine Sm.iteW hB (by omega) (fun _ => ?_) ?_)
          | (refine Sm.iteN hB (by omega) (fun _ => ?_) ?_)
          | (refine Sm.iteK hB (by decide) (by decide) (by omega) (fun _ _ _ => ?_) ?_)
          | (refine Sm.ite3 hB (by decide +kernel) (by decide +kernel) (by omega) (fun _ _ => ?_) ?_)
          | (refine Sm.iteT hB (by omega) (fun _ _ => ?_) ?_)
          | (refine Sm.ite ?_ ?_)
          | (refine Sm.bind (begin_sm hB) ?_; intro _ _ _)
          | (refine Sm.bind (want_sm hB) ?_; intro _ _ _)
          | (refine Sm.bind (id_sm hB) ?_; intro _ _ _)
          | (refine Sm.bind (prop_sm hB) ?_; intro _ _ _)
          | (refine Sm.bind (listE_sm hB ?_ ?_ ?_) ?_; (focus (intro _ h; exact ih.expr' _ _ h)); (focus (exact expr_end _ _)); (focus omega); intro _ _ _)
          | (refine Sm.bind (listE_sm hB ?_ ?_ ?_) ?_; (focus (intro _ h; exact ih.prop' _ _ h)); (focus (exact prop_end _ _)); (focus omega); intro _ _ _)
          | (refine Sm.bind (paramsG_sm hB ?_ ?_) ?_; (focus (intro _ h; first | exact ih.typeOr' _ _ h | exact ih.typing' _ _ h)); (focus omega); intro _ _ _)
          | (refine Sm.bind (unionG_sm hB ?_ _ _ _ _ ?_ ?_) ?_; (focus (intro _ h; exact ih.ptype' _ _ h)); (focus (rw [hB.len]; omega)); (focus omega); intro _ _ _)
          | (refine Sm.bind (fieldsG_sm hB ?_ _ _ _ _ _ ?_ ?_) ?_; (focus (intro _ h; exact ih.typing' _ _ h)); (focus (rw [hB.len]; omega)); (focus omega); intro _ _ _)
          | (refine Sm.bind (by first | exact ih.type' _ _ (by omega) | exact ih.objt' _ _ (by omega) | exact ih.ftype' _ _ (by omega)) ?_; intro _ _ _)
          | (first | exact ih.type' _ _ (by omega) | exact ih.objt' _ _ (by omega) | exact ih.ftype' _ _ (by omega)))
    · intro a o h
      rw [objtF, objtF]
      repeat (first
        | exact Sm.bad
        | exact Sm.ok (by omega)
        | exact Sm.ok' (by simp only [*]) (by omega)
        | (refine blockG_sm hB ?_ ?_; (focus (intro _ h; exact ih.stmt' _ _ h)); (focus omega))
        | (refine binG_sm hB ?_ _ ?_ _ _ _ _ ?_ ?_; (focus (intro _ _ h1 h; exact ih.bin' _ _ _ h h1)); (focus omega); (focus (rw [hB.len]; omega)); (focus omega))
        | (refine postG_sm hB ?_ ?_ _ _ _ _ ?_ ?_; (focus (intro _ h; exact ih.expr' _ _ h)); (focus (exact expr_end _ _)); (focus (rw [hB.len]; omega)); (focus omega))
        | (refine arrayG_sm hB _ _ _ _ ?_ ?_; (focus (rw [hB.len]; omega)); (focus omega))
        | (refine Sm.iteS hB (by decide +kernel) (by omega) (fun _ _ => ?_) ?_)
        | (refine Sm.iteW hB (by omega) (fun _ => ?_) ?_)
        | (refine Sm.iteN hB (by omega) (fun _ => ?_) ?_)
        | (refine Sm.iteK hB (by decide) (by decide) (by omega) (fun _ _ _ => ?_) ?_)
        | (refine Sm.ite3 hB (by decide +kernel) (by decide +kernel) (by omega) (fun _ _ => ?_) ?_)
        | (refine Sm.iteT hB (by omega) (fun _ _ => ?_) ?_)
        | (refine Sm.ite ?_ ?_)
        | (refine Sm.bind (begin_sm hB) ?_; intro _ _ _)
        | (refine Sm.bind (want_sm hB) ?_; intro _ _ _)
        | (refine Sm.bind (id_sm hB) ?_; intro _ _ _)
        | (refine Sm.bind (prop_sm hB) ?_; intro _ _ _)
        | (refine Sm.bind (listE_sm hB ?_ ?_ ?_) ?_; (focus (intro _ h; exact ih.expr' _ _ h)); (focus (exact expr_end _ _)); (focus omega); intro _ _ _)
        | (refine Sm.bind (listE_sm hB ?_ ?_ ?_) ?_; (focus (intro _ h; exact ih.prop' _ _ h)); (focus (exact prop_end _ _)); (focus omega); intro _ _ _)
        | (refine Sm.bind (paramsG_sm hB ?_ ?_) ?_; (focus (intro _ h; first | exact ih.typeOr' _ _ h | exact ih.typing' _ _ h)); (focus omega); intro _ _ _)
        | (refine Sm.bind (unionG_sm hB ?_ _ _ _ _ ?_ ?_) ?_; (focus (intro _ h; exact ih.ptype' _ _ h)); (focus (rw [hB.len]; omega)); (focus omega); intro _ _ _)
        | (refine Sm.bind (fieldsG_sm hB ?_ _ _ _ _ _ ?_ ?_) ?_; (focus (intro _ h; exact ih.typing' _ _ h)); (focus (rw [hB.len]; omega)); (focus omega); intro _ _ _)
        | (refine Sm.bind (by first | fail) ?_; intro _ _ _)
        | (first | fail))
    · intro a o h
      rw [ftypeF, ftypeF]
      repeat (first
        | exact Sm.bad
        | exact Sm.ok (by omega)
        | exact Sm.ok' (by simp only [*]) (by omega)
        | (refine blockG_sm hB ?_ ?_; (focus (intro _ h; exact ih.stmt' _ _ h)); (focus omega))
        | (refine binG_sm hB ?_ _ ?_ _ _ _ _ ?_ ?_; (focus (intro _ _ h1 h; exact ih.bin' _ _ _ h h1)); (focus omega); (focus (rw [hB.len]; omega)); (focus omega))
        | (refine postG_sm hB ?_ ?_ _ _ _ _ ?_ ?_; (focus (intro _ h; exact ih.expr' _ _ h)); (focus (exact expr_end _ _)); (focus (rw [hB.len]; omega)); (focus omega))
        | (refine arrayG_sm hB _ _ _ _ ?_ ?_; (focus (rw [hB.len]; omega)); (focus omega))
        | (refine Sm.iteS hB (by decide +kernel) (by omega) (fun _ _ => ?_) ?_)
        | (refine Sm.iteW hB (by omega) (fun _ => ?_) ?_)
        | (refine Sm.iteN hB (by omega) (fun _ => ?_) ?_)
        | (refine Sm.iteK hB (by decide) (by decide) (by omega) (fun _ _ _ => ?_) ?_)
        | (refine Sm.ite3 hB (by decide +kernel) (by decide +kernel) (by omega) (fun _ _ => ?_) ?_)
        | (refine Sm.iteT hB (by omega) (fun _ _ => ?_) ?_)
        | (refine Sm.ite ?_ ?_)
        | (refine Sm.bind (begin_sm hB) ?_; intro _ _ _)
        | (refine Sm.bind (want_sm hB) ?_; intro _ _ _)
        | (refine Sm.bind (id_sm hB) ?_; intro _ _ _)
        | (refine Sm.bind (prop_sm hB) ?_; intro _ _ _)
        | (refine Sm.bind (listE_sm hB ?_ ?_ ?_) ?_; (focus (intro _ h; exact ih.expr' _ _ h)); (focus (exact expr_end _ _)); (focus omega); intro _ _ _)
        | (refine Sm.bind (listE_sm hB ?_ ?_ ?_) ?_; (focus (intro _ h; exact ih.prop' _ _ h)); (focus (exact prop_end _ _)); (focus omega); intro _ _ _)
        | (refine Sm.bind (paramsG_sm hB ?_ ?_) ?_; (focus (intro _ h; first | exact ih.typeOr' _ _ h | exact ih.typing' _ _ h)); (focus omega); intro _ _ _)
        | (refine Sm.bind (unionG_sm hB ?_ _ _ _ _ ?_ ?_) ?_; (focus (intro _ h; exact ih.ptype' _ _ h)); (focus (rw [hB.len]; omega)); (focus omega); intro _ _ _)
        | (refine Sm.bind (fieldsG_sm hB ?_ _ _ _ _ _ ?_ ?_) ?_; (focus (intro _ h; exact ih.typing' _ _ h)); (focus (rw [hB.len]; omega)); (focus omega); intro _ _ _)
        | (refine Sm.bind (by first | exact ih.type' _ _ (by omega)) ?_; intro _ _ _)
        | (first | exact ih.type' _ _ (by omega)))
    · intro a o h
      rw [blkF, blkF]
      repeat (first
        | exact Sm.bad
        | exact Sm.ok (by omega)
        | exact Sm.ok' (by simp only [*]) (by omega)
        | (refine blockG_sm hB ?_ ?_; (focus (intro _ h; exact ih.stmt' _ _ h)); (focus omega))
        | (refine binG_sm hB ?_ _ ?_ _ _ _ _ ?_ ?_; (focus (intro _ _ h1 h; exact ih.bin' _ _ _ h h1)); (focus omega); (focus (rw [hB.len]; omega)); (focus omega))
        | (refine postG_sm hB ?_ ?_ _ _ _ _ ?_ ?_; (focus (intro _ h; exact ih.expr' _ _ h)); (focus (exact expr_end _ _)); (focus (rw [hB.len]; omega)); (focus omega))
        | (refine arrayG_sm hB _ _ _ _ ?_ ?_; (focus (rw [hB.len]; omega)); (focus omega))
        | (refine Sm.iteS hB (by decide +kernel) (by omega) (fun _ _ => ?_) ?_)
        | (refine Sm.iteW hB (by omega) (fun _ => ?_) ?_)
        | (refine Sm.iteN hB (by omega) (fun _ => ?_) ?_)
        | (refine Sm.iteK hB (by decide) (by decide) (by omega) (fun _ _ _ => ?_) ?_)
        | (refine Sm.ite3 hB (by decide +kernel) (by decide +kernel) (by omega) (fun _ _ => ?_) ?_)
        | (refine Sm.iteT hB (by omega) (fun _ _ => ?_) ?_)
        | (refine Sm.ite ?_ ?_)
        | (refine Sm.bind (begin_sm hB) ?_; intro _ _ _)
        | (refine Sm.bind (want_sm hB) ?_; intro _ _ _)
        | (refine Sm.bind (id_sm hB) ?_; intro _ _ _)
        | (refine Sm.bind (prop_sm hB) ?_; intro _ _ _)
        | (refine Sm.bind (listE_sm hB ?_ ?_ ?_) ?_; (focus (intro _ h; exact ih.expr' _ _ h)); (focus (exact expr_end _ _)); (focus omega); intro _ _ _)
        | (refine Sm.bind (listE_sm hB ?_ ?_ ?_) ?_; (focus (intro _ h; exact ih.prop' _ _ h)); (focus (exact prop_end _ _)); (focus omega); intro _ _ _)
        | (refine Sm.bind (paramsG_sm hB ?_ ?_) ?_; (focus (intro _ h; first | exact ih.typeOr' _ _ h | exact ih.typing' _ _ h)); (focus omega); intro _ _ _)
        | (refine Sm.bind (unionG_sm hB ?_ _ _ _ _ ?_ ?_) ?_; (focus (intro _ h; exact ih.ptype' _ _ h)); (focus (rw [hB.len]; omega)); (focus omega); intro _ _ _)
        | (refine Sm.bind (fieldsG_sm hB ?_ _ _ _ _ _ ?_ ?_) ?_; (focus (intro _ h; exact ih.typing' _ _ h)); (focus (rw [hB.len]; omega)); (focus omega); intro _ _ _)
        | (refine Sm.bind (by first | fail) ?_; intro _ _ _)
        | (first | fail))
    · intro a o h
      rw [stmtF, stmtF]
      repeat (first
        | exact Sm.bad
        | exact Sm.ok (by omega)
        | exact Sm.ok' (by simp only [*]) (by omega)
        | (refine blockG_sm hB ?_ ?_; (focus (intro _ h; exact ih.stmt' _ _ h)); (focus omega))
        | (refine binG_sm hB ?_ _ ?_ _ _ _ _ ?_ ?_; (focus (intro _ _ h1 h; exact ih.bin' _ _ _ h h1)); (focus omega); (focus (rw [hB.len]; omega)); (focus omega))
        | (refine postG_sm hB ?_ ?_ _ _ _ _ ?_ ?_; (focus (intro _ h; exact ih.expr' _ _ h)); (focus (exact expr_end _ _)); (focus (rw [hB.len]; omega)); (focus omega))
        | (refine arrayG_sm hB _ _ _ _ ?_ ?_; (focus (rw [hB.len]; omega)); (focus omega))
        | (refine Sm.iteS hB (by decide +kernel) (by omega) (fun _ _ => ?_) ?_)
        | (refine Sm.iteW hB (by omega) (fun _ => ?_) ?_)
        | (refine Sm.iteN hB (by omega) (fun _ => ?_) ?_)
        | (refine Sm.iteK hB (by decide) (by decide) (by omega) (fun _ _ _ => ?_) ?_)
        | (refine Sm.ite3 hB (by decide +kernel) (by decide +kernel) (by omega) (fun _ _ => ?_) ?_)
        | (refine Sm.iteT hB (by omega) (fun _ _ => ?_) ?_)
        | (refine Sm.ite ?_ ?_)
        | (refine Sm.bind (begin_sm hB) ?_; intro _ _ _)
        | (refine Sm.bind (want_sm hB) ?_; intro _ _ _)
        | (refine Sm.bind (id_sm hB) ?_; intro _ _ _)
        | (refine Sm.bind (prop_sm hB) ?_; intro _ _ _)
        | (refine Sm.bind (listE_sm hB ?_ ?_ ?_) ?_; (focus (intro _ h; exact ih.expr' _ _ h)); (focus (exact expr_end _ _)); (focus omega); intro _ _ _)
        | (refine Sm.bind (listE_sm hB ?_ ?_ ?_) ?_; (focus (intro _ h; exact ih.prop' _ _ h)); (focus (exact prop_end _ _)); (focus omega); intro _ _ _)
        | (refine Sm.bind (paramsG_sm hB ?_ ?_) ?_; (focus (intro _ h; first | exact ih.typeOr' _ _ h | exact ih.typing' _ _ h)); (focus omega); intro _ _ _)
        | (refine Sm.bind (unionG_sm hB ?_ _ _ _ _ ?_ ?_) ?_; (focus (intro _ h; exact ih.ptype' _ _ h)); (focus (rw [hB.len]; omega)); (focus omega); intro _ _ _)
        | (refine Sm.bind (fieldsG_sm hB ?_ _ _ _ _ _ ?_ ?_) ?_; (focus (intro _ h; exact ih.typing' _ _ h)); (focus (rw [hB.len]; omega)); (focus omega); intro _ _ _)
        | (refine Sm.bind (by first | exact ih.any' _ _ (by omega)) ?_; intro _ _ _)
        | (first | exact ih.any' _ _ (by omega)))
    · intro q a o h
      rw [letF, letF]
      repeat (first
        | exact Sm.bad
        | exact Sm.ok (by omega)
        | exact Sm.ok' (by simp only [*]) (by omega)
        | (refine blockG_sm hB ?_ ?_; (focus (intro _ h; exact ih.stmt' _ _ h)); (focus omega))
        | (refine binG_sm hB ?_ _ ?_ _ _ _ _ ?_ ?_; (focus (intro _ _ h1 h; exact ih.bin' _ _ _ h h1)); (focus omega); (focus (rw [hB.len]; omega)); (focus omega))
        | (refine postG_sm hB ?_ ?_ _ _ _ _ ?_ ?_; (focus (intro _ h; exact ih.expr' _ _ h)); (focus (exact expr_end _ _)); (focus (rw [hB.len]; omega)); (focus omega))
        | (refine arrayG_sm hB _ _ _ _ ?_ ?_; (focus (rw [hB.len]; omega)); (focus omega))
        | (refine Sm.iteS hB (by decide +kernel) (by omega) (fun _ _ => ?_) ?_)
        | (refine Sm.iteW hB (by omega) (fun _ => ?_) ?_)
        | (refine Sm.iteN hB (by omega) (fun _ => ?_) ?_)
        | (refine Sm.iteK hB (by decide) (by decide) (by omega) (fun _ _ _ => ?_) ?_)
        | (refine Sm.ite3 hB (by decide +kernel) (by decide +kernel) (by omega) (fun _ _ => ?_) ?_)
        | (refine Sm.iteT hB (by omega) (fun _ _ => ?_) ?_)
        | (refine Sm.ite ?_ ?_)
        | (refine Sm.bind (begin_sm hB) ?_; intro _ _ _)
        | (refine Sm.bind (want_sm hB) ?_; intro _ _ _)
        | (refine Sm.bind (id_sm hB) ?_; intro _ _ _)
        | (refine Sm.bind (prop_sm hB) ?_; intro _ _ _)
        | (refine Sm.bind (listE_sm hB ?_ ?_ ?_) ?_; (focus (intro _ h; exact ih.expr' _ _ h)); (focus (exact expr_end _ _)); (focus omega); intro _ _ _)
        | (refine Sm.bind (listE_sm hB ?_ ?_ ?_) ?_; (focus (intro _ h; exact ih.prop' _ _ h)); (focus (exact prop_end _ _)); (focus omega); intro _ _ _)
        | (refine Sm.bind (paramsG_sm hB ?_ ?_) ?_; (focus (intro _ h; first | exact ih.typeOr' _ _ h | exact ih.typing' _ _ h)); (focus omega); intro _ _ _)
        | (refine Sm.bind (unionG_sm hB ?_ _ _ _ _ ?_ ?_) ?_; (focus (intro _ h; exact ih.ptype' _ _ h)); (focus (rw [hB.len]; omega)); (focus omega); intro _ _ _)
        | (refine Sm.bind (fieldsG_sm hB ?_ _ _ _ _ _ ?_ ?_) ?_; (focus (intro _ h; exact ih.typing' _ _ h)); (focus (rw [hB.len]; omega)); (focus omega); intro _ _ _)
        | (refine Sm.bind (by first | exact ih.expr' _ _ (by omega) | exact ih.typeOr' _ _ (by omega)) ?_; intro _ _ _)
        | (first | exact ih.expr' _ _ (by omega) | exact ih.typeOr' _ _ (by omega)))
    · intro a o h
      rw [condiF, condiF]
      repeat (first
        | exact Sm.bad
        | exact Sm.ok (by omega)
        | exact Sm.ok' (by simp only [*]) (by omega)
        | (refine blockG_sm hB ?_ ?_; (focus (intro _ h; exact ih.stmt' _ _ h)); (focus omega))
        | (refine binG_sm hB ?_ _ ?_ _ _ _ _ ?_ ?_; (focus (intro _ _ h1 h; exact ih.bin' _ _ _ h h1)); (focus omega); (focus (rw [hB.len]; omega)); (focus omega))
        | (refine postG_sm hB ?_ ?_ _ _ _ _ ?_ ?_; (focus (intro _ h; exact ih.expr' _ _ h)); (focus (exact expr_end _ _)); (focus (rw [hB.len]; omega)); (focus omega))
        | (refine arrayG_sm hB _ _ _ _ ?_ ?_; (focus (rw [hB.len]; omega)); (focus omega))
        | (refine Sm.iteS hB (by decide +kernel) (by omega) (fun _ _ => ?_) ?_)
        | (refine Sm.iteW hB (by omega) (fun _ => ?_) ?_)
        | (refine Sm.iteN hB (by omega) (fun _ => ?_) ?_)
        | (refine Sm.iteK hB (by decide) (by decide) (by omega) (fun _ _ _ => ?_) ?_)
        | (refine Sm.ite3 hB (by decide +kernel) (by decide +kernel) (by omega) (fun _ _ => ?_) ?_)
        | (refine Sm.iteT hB (by omega) (fun _ _ => ?_) ?_)
        | (refine Sm.ite ?_ ?_)
        | (refine Sm.bind (begin_sm hB) ?_; intro _ _ _)
        | (refine Sm.bind (want_sm hB) ?_; intro _ _ _)
        | (refine Sm.bind (id_sm hB) ?_; intro _ _ _)
        | (refine Sm.bind (prop_sm hB) ?_; intro _ _ _)
        | (refine Sm.bind (listE_sm hB ?_ ?_ ?_) ?_; (focus (intro _ h; exact ih.expr' _ _ h)); (focus (exact expr_end _ _)); (focus omega); intro _ _ _)
        | (refine Sm.bind (listE_sm hB ?_ ?_ ?_) ?_; (focus (intro _ h; exact ih.prop' _ _ h)); (focus (exact prop_end _ _)); (focus omega); intro _ _ _)
        | (refine Sm.bind (paramsG_sm hB ?_ ?_) ?_; (focus (intro _ h; first | exact ih.typeOr' _ _ h | exact ih.typing' _ _ h)); (focus omega); intro _ _ _)
        | (refine Sm.bind (unionG_sm hB ?_ _ _ _ _ ?_ ?_) ?_; (focus (intro _ h; exact ih.ptype' _ _ h)); (focus (rw [hB.len]; omega)); (focus omega); intro _ _ _)
        | (refine Sm.bind (fieldsG_sm hB ?_ _ _ _ _ _ ?_ ?_) ?_; (focus (intro _ h; exact ih.typing' _ _ h)); (focus (rw [hB.len]; omega)); (focus omega); intro _ _ _)
        | (refine Sm.bind (by first | exact ih.expr' _ _ (by omega)) ?_; intro _ _ _)
        | (first | exact ih.expr' _ _ (by omega)))
    · intro a o h
      rw [elseF, elseF]
      repeat (first
        | exact Sm.bad
        | exact Sm.ok (by omega)
        | exact Sm.ok' (by simp only [*]) (by omega)
        | (refine blockG_sm hB ?_ ?_; (focus (intro _ h; exact ih.stmt' _ _ h)); (focus omega))
        | (refine binG_sm hB ?_ _ ?_ _ _ _ _ ?_ ?_; (focus (intro _ _ h1 h; exact ih.bin' _ _ _ h h1)); (focus omega); (focus (rw [hB.len]; omega)); (focus omega))
        | (refine postG_sm hB ?_ ?_ _ _ _ _ ?_ ?_; (focus (intro _ h; exact ih.expr' _ _ h)); (focus (exact expr_end _ _)); (focus (rw [hB.len]; omega)); (focus omega))
        | (refine arrayG_sm hB _ _ _ _ ?_ ?_; (focus (rw [hB.len]; omega)); (focus omega))
        | (refine Sm.iteS hB (by decide +kernel) (by omega) (fun _ _ => ?_) ?_)
        | (refine Sm.iteW hB (by omega) (fun _ => ?_) ?_)
        | (refine Sm.iteN hB (by omega) (fun _ => ?_) ?_)
        | (refine Sm.iteK hB (by decide) (by decide) (by omega) (fun _ _ _ => ?_) ?_)
        | (refine Sm.ite3 hB (by decide +kernel) (by decide +kernel) (by omega) (fun _ _ => ?_) ?_)
        | (refine Sm.iteT hB (by omega) (fun _ _ => ?_) ?_)
        | (refine Sm.ite ?_ ?_)
        | (refine Sm.bind (begin_sm hB) ?_; intro _ _ _)
        | (refine Sm.bind (want_sm hB) ?_; intro _ _ _)
        | (refine Sm.bind (id_sm hB) ?_; intro _ _ _)
        | (refine Sm.bind (prop_sm hB) ?_; intro _ _ _)
        | (refine Sm.bind (listE_sm hB ?_ ?_ ?_) ?_; (focus (intro _ h; exact ih.expr' _ _ h)); (focus (exact expr_end _ _)); (focus omega); intro _ _ _)
        | (refine Sm.bind (listE_sm hB ?_ ?_ ?_) ?_; (focus (intro _ h; exact ih.prop' _ _ h)); (focus (exact prop_end _ _)); (focus omega); intro _ _ _)
        | (refine Sm.bind (paramsG_sm hB ?_ ?_) ?_; (focus (intro _ h; first | exact ih.typeOr' _ _ h | exact ih.typing' _ _ h)); (focus omega); intro _ _ _)
        | (refine Sm.bind (unionG_sm hB ?_ _ _ _ _ ?_ ?_) ?_; (focus (intro _ h; exact ih.ptype' _ _ h)); (focus (rw [hB.len]; omega)); (focus omega); intro _ _ _)
        | (refine Sm.bind (fieldsG_sm hB ?_ _ _ _ _ _ ?_ ?_) ?_; (focus (intro _ h; exact ih.typing' _ _ h)); (focus (rw [hB.len]; omega)); (focus omega); intro _ _ _)
        | (refine Sm.bind (by first | exact ih.blk' _ _ (by omega) | exact ih.stmt' _ _ (by omega)) ?_; intro _ _ _)
        | (first | exact ih.blk' _ _ (by omega) | exact ih.stmt' _ _ (by omega)))
    · intro a o h
      rw [exprOrF, exprOrF]
      repeat (first
        | exact Sm.bad
        | exact Sm.ok (by omega)
        | exact Sm.ok' (by simp only [*]) (by omega)
        | (refine blockG_sm hB ?_ ?_; (focus (intro _ h; exact ih.stmt' _ _ h)); (focus omega))
        | (refine binG_sm hB ?_ _ ?_ _ _ _ _ ?_ ?_; (focus (intro _ _ h1 h; exact ih.bin' _ _ _ h h1)); (focus omega); (focus (rw [hB.len]; omega)); (focus omega))
        | (refine postG_sm hB ?_ ?_ _ _ _ _ ?_ ?_; (focus (intro _ h; exact ih.expr' _ _ h)); (focus (exact expr_end _ _)); (focus (rw [hB.len]; omega)); (focus omega))
        | (refine arrayG_sm hB _ _ _ _ ?_ ?_; (focus (rw [hB.len]; omega)); (focus omega))
        | (refine Sm.iteS hB (by decide +kernel) (by omega) (fun _ _ => ?_) ?_)
        | (refine Sm.iteW hB (by omega) (fun _ => ?_) ?_)
        | (refine Sm.iteN hB (by omega) (fun _ => ?_) ?_)
        | (refine Sm.iteK hB (by decide) (by decide) (by omega) (fun _ _ _ => ?_) ?_)
        | (refine Sm.ite3 hB (by decide +kernel) (by decide +kernel) (by omega) (fun _ _ => ?_) ?_)
        | (refine Sm.iteT hB (by omega) (fun _ _ => ?_) ?_)
        | (refine Sm.ite ?_ ?_)
        | (refine Sm.bind (begin_sm hB) ?_; intro _ _ _)
        | (refine Sm.bind (want_sm hB) ?_; intro _ _ _)
        | (refine Sm.bind (id_sm hB) ?_; intro _ _ _)
        | (refine Sm.bind (prop_sm hB) ?_; intro _ _ _)
        | (refine Sm.bind (listE_sm hB ?_ ?_ ?_) ?_; (focus (intro _ h; exact ih.expr' _ _ h)); (focus (exact expr_end _ _)); (focus omega); intro _ _ _)
        | (refine Sm.bind (listE_sm hB ?_ ?_ ?_) ?_; (focus (intro _ h; exact ih.prop' _ _ h)); (focus (exact prop_end _ _)); (focus omega); intro _ _ _)
        | (refine Sm.bind (paramsG_sm hB ?_ ?_) ?_; (focus (intro _ h; first | exact ih.typeOr' _ _ h | exact ih.typing' _ _ h)); (focus omega); intro _ _ _)
        | (refine Sm.bind (unionG_sm hB ?_ _ _ _ _ ?_ ?_) ?_; (focus (intro _ h; exact ih.ptype' _ _ h)); (focus (rw [hB.len]; omega)); (focus omega); intro _ _ _)
        | (refine Sm.bind (fieldsG_sm hB ?_ _ _ _ _ _ ?_ ?_) ?_; (focus (intro _ h; exact ih.typing' _ _ h)); (focus (rw [hB.len]; omega)); (focus omega); intro _ _ _)
        | (refine Sm.bind (by first | exact ih.expr' _ _ (by omega)) ?_; intro _ _ _)
        | (first | exact ih.expr' _ _ (by omega)))
    · intro a o h
      rw [anyF, anyF]
      repeat (first
        | exact Sm.bad
        | exact Sm.ok (by omega)
        | exact Sm.ok' (by simp only [*]) (by omega)
        | (refine blockG_sm hB ?_ ?_; (focus (intro _ h; exact ih.stmt' _ _ h)); (focus omega))
        | (refine binG_sm hB ?_ _ ?_ _ _ _ _ ?_ ?_; (focus (intro _ _ h1 h; exact ih.bin' _ _ _ h h1)); (focus omega); (focus (rw [hB.len]; omega)); (focus omega))
        | (refine postG_sm hB ?_ ?_ _ _ _ _ ?_ ?_; (focus (intro _ h; exact ih.expr' _ _ h)); (focus (exact expr_end _ _)); (focus (rw [hB.len]; omega)); (focus omega))
        | (refine arrayG_sm hB _ _ _ _ ?_ ?_; (focus (rw [hB.len]; omega)); (focus omega))
        | (refine Sm.iteS hB (by decide +kernel) (by omega) (fun _ _ => ?_) ?_)
        | (refine Sm.iteW hB (by omega) (fun _ => ?_) ?_)
        | (refine Sm.iteN hB (by omega) (fun _ => ?_) ?_)
        | (refine Sm.iteK hB (by decide) (by decide) (by omega) (fun _ _ _ => ?_) ?_)
        | (refine Sm.ite3 hB (by decide +kernel) (by decide +kernel) (by omega) (fun _ _ => ?_) ?_)
        | (refine Sm.iteT hB (by omega) (fun _ _ => ?_) ?_)
        | (refine Sm.ite ?_ ?_)
        | (refine Sm.bind (begin_sm hB) ?_; intro _ _ _)
        | (refine Sm.bind (want_sm hB) ?_; intro _ _ _)
        | (refine Sm.bind (id_sm hB) ?_; intro _ _ _)
        | (refine Sm.bind (prop_sm hB) ?_; intro _ _ _)
        | (refine Sm.bind (listE_sm hB ?_ ?_ ?_) ?_; (focus (intro _ h; exact ih.expr' _ _ h)); (focus (exact expr_end _ _)); (focus omega); intro _ _ _)
        | (refine Sm.bind (listE_sm hB ?_ ?_ ?_) ?_; (focus (intro _ h; exact ih.prop' _ _ h)); (focus (exact prop_end _ _)); (focus omega); intro _ _ _)
        | (refine Sm.bind (paramsG_sm hB ?_ ?_) ?_; (focus (intro _ h; first | exact ih.typeOr' _ _ h | exact ih.typing' _ _ h)); (focus omega); intro _ _ _)
        | (refine Sm.bind (unionG_sm hB ?_ _ _ _ _ ?_ ?_) ?_; (focus (intro _ h; exact ih.ptype' _ _ h)); (focus (rw [hB.len]; omega)); (focus omega); intro _ _ _)
        | (refine Sm.bind (fieldsG_sm hB ?_ _ _ _ _ _ ?_ ?_) ?_; (focus (intro _ h; exact ih.typing' _ _ h)); (focus (rw [hB.len]; omega)); (focus omega); intro _ _ _)
        | (refine Sm.bind (by first | exact ih.expr' _ _ (by omega) | exact ih.typeOr' _ _ (by omega) | exact ih.blk' _ _ (by omega) | exact ih.let' _ _ _ (by omega) | exact ih.condi' _ _ (by omega) | exact ih.els' _ _ (by omega) | exact ih.exprOr' _ _ (by omega)) ?_; intro _ _ _)
        | (first | exact ih.expr' _ _ (by omega) | exact ih.typeOr' _ _ (by omega) | exact ih.blk' _ _ (by omega) | exact ih.let' _ _ _ (by omega) | exact ih.condi' _ _ (by omega) | exact ih.els' _ _ (by omega) | exact ih.exprOr' _ _ (by omega)))
end Go.Proofs.Ytmfgcaffdkakhaa
