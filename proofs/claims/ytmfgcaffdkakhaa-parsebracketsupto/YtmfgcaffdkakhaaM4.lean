/- Own text. Package parse: more fuel changes nothing (of the model; no program is named here). -/
import Derived.Test.YtmfgcaffdkakhaaM2
namespace Go.Proofs.Ytmfgcaffdkakhaa
open Go.RowKit
set_option linter.unusedVariables false
set_option linter.unusedSimpArgs false

/-- the second answer is the first, where the fuel was enough for that. -/
def Le {α : Type} (r s : Rs α) : Prop := (∃ p, r = .bad p 0) ∨ r = s
theorem Le.refl {α : Type} (r : Rs α) : Le r r := .inr rfl
theorem Le.bind {α β : Type} {r s : Rs α} {f g : α → Nat → Rs β} (h : Le r s) (hf : ∀ u a, Le (f u a) (g u a)) : Le (r.bind f) (s.bind g) := by
  rcases h with ⟨p, rfl⟩ | rfl
  · exact .inl ⟨p, rfl⟩
  · cases r with
    | ok u a => exact hf u a
    | bad p e => exact .inr rfl
theorem Le.ite {α : Type} {p : Prop} [Decidable p] {x y x' y' : Rs α} (hx : Le x x') (hy : Le y y') : Le (if p then x else y) (if p then x' else y') := by
  split
  · exact hx
  · exact hy
theorem le_listG {σ : Type} {L : List Tok} {s : ByteArray} {F F' : σ → Nat → Rs (Nd × σ)} (hF : ∀ st a, Le (F st a) (F' st a)) : ∀ (n : Nat) (acc : List Nd) (st : σ) (a : Nat), Le (listG L s F n acc st a) (listG L s F' n acc st a)
  | 0, _, _, _ => .refl _
  | n + 1, acc, st, a => by
    rw [listG, listG]
    split
    · exact .refl _
    · rcases hF st a with ⟨p, h⟩ | h
      · rw [h]; exact .inl ⟨p, rfl⟩
      · rw [h]
        split
        · exact .refl _
        · exact Le.ite (le_listG hF n _ _ _) (Le.ite (le_listG hF n _ _ _) (.refl _))
theorem le_listE {L : List Tok} {s : ByteArray} {E E' : Nat → Rs Nd} (hE : ∀ a, Le (E a) (E' a)) (a : Nat) : Le (listE L E s a) (listE L E' s a) :=
  le_listG (fun _ a => (hE a).bind (fun _ _ => .refl _)) _ _ _ _
theorem le_stmtsG {L : List Tok} {F F' : Nat → Rs Nd} (hF : ∀ a, Le (F a) (F' a)) : ∀ (n : Nat) (acc : List Nd) (a : Nat), Le (stmtsG L F n acc a) (stmtsG L F' n acc a)
  | 0, _, _ => .refl _
  | n + 1, acc, a => by
    rw [stmtsG, stmtsG]
    split
    · exact .refl _
    · rcases hF a with ⟨p, h⟩ | h
      · rw [h]; exact .inl ⟨p, rfl⟩
      · rw [h]
        split
        · exact .refl _
        · exact le_stmtsG hF n _ _
theorem le_blockG {L : List Tok} {F F' : Nat → Rs Nd} (hF : ∀ a, Le (F a) (F' a)) (a : Nat) : Le (blockG L F a) (blockG L F' a) :=
  Le.bind (.refl _) (fun _ _ => Le.bind (le_stmtsG hF _ _ _) (fun _ _ => .refl _))
theorem le_paramsG {L : List Tok} {G G' : Nat → Rs Nd} (hG : ∀ a, Le (G a) (G' a)) (a : Nat) : Le (paramsG L G a) (paramsG L G' a) :=
  Le.bind (.refl _) (fun _ _ => Le.bind (le_listG (fun ns b => Le.bind (.refl _) (fun _ _ => Le.bind (.refl _) (fun _ _ => Le.bind (hG _) (fun _ _ => .refl _)))) _ _ _ _) (fun _ _ => .refl _))
theorem le_binG {L : List Tok} {B B' : Nat → Nat → Rs Nd} (hB : ∀ m a, Le (B m a) (B' m a)) (m : Nat) : ∀ (n : Nat) (nd : Nd) (a : Nat), Le (binG L B m n nd a) (binG L B' m n nd a)
  | 0, _, _ => .refl _
  | n + 1, nd, a => by
    rw [binG, binG]
    exact Le.ite (.refl _) (Le.bind (hB _ _) (fun _ _ => le_binG hB m n _ _))
theorem le_postG {L : List Tok} {E E' : Nat → Rs Nd} (hE : ∀ a, Le (E a) (E' a)) : ∀ (n : Nat) (nd : Nd) (a : Nat), Le (postG L E n nd a) (postG L E' n nd a)
  | 0, _, _ => .refl _
  | n + 1, nd, a => by
    rw [postG, postG]
    exact Le.ite (Le.bind (.refl _) (fun _ _ => le_postG hE n _ _)) (Le.ite (Le.bind (hE _) (fun _ _ => Le.bind (.refl _) (fun _ _ => le_postG hE n _ _))) (Le.ite (Le.bind (le_listE hE _) (fun _ _ => le_postG hE n _ _)) (.refl _)))
theorem le_unionG {L : List Tok} {E E' : Nat → Rs Nd} (hE : ∀ a, Le (E a) (E' a)) : ∀ (n : Nat) (acc : List Nd) (a : Nat), Le (unionG L E n acc a) (unionG L E' n acc a)
  | 0, _, _ => .refl _
  | n + 1, acc, a => by
    rw [unionG, unionG]
    exact Le.bind (hE a) (fun _ _ => Le.ite (le_unionG hE n _ _) (.refl _))
theorem le_fieldsG {L : List Tok} {T T' : Nat → Rs Nd} (hT : ∀ a, Le (T a) (T' a)) : ∀ (n : Nat) (acc : List Nd) (ns : List (List UInt8)) (a : Nat), Le (fieldsG L T n acc ns a) (fieldsG L T' n acc ns a)
  | 0, _, _, _ => .refl _
  | n + 1, acc, ns, a => by
    rw [fieldsG, fieldsG]
    exact Le.ite (.refl _) (Le.bind (.refl _) (fun _ _ => Le.bind (.refl _) (fun _ _ => Le.bind (hT _) (fun _ _ => Le.bind (.refl _) (fun _ _ => le_fieldsG hT n _ _ _)))))
structure More (L : List Tok) (f : Nat) : Prop where
  expr' : ∀ (a : Nat) (o : Nat), Le (exprF L f a o) (exprF L (f + 1) a o)
  assign' : ∀ (nd : Nd) (a : Nat) (o : Nat), Le (assignF L f nd a o) (assignF L (f + 1) nd a o)
  cond' : ∀ (a : Nat) (o : Nat), Le (condF L f a o) (condF L (f + 1) a o)
  bin' : ∀ (m : Nat) (a : Nat) (o : Nat), Le (binF L f m a o) (binF L (f + 1) m a o)
  unary' : ∀ (a : Nat) (o : Nat), Le (unaryF L f a o) (unaryF L (f + 1) a o)
  post' : ∀ (a : Nat) (o : Nat), Le (postF L f a o) (postF L (f + 1) a o)
  prim' : ∀ (a : Nat) (o : Nat), Le (primF L f a o) (primF L (f + 1) a o)
  wprim' : ∀ (a : Nat) (o : Nat), Le (wprimF L f a o) (wprimF L (f + 1) a o)
  sprim' : ∀ (a : Nat) (o : Nat), Le (sprimF L f a o) (sprimF L (f + 1) a o)
  prop' : ∀ (a : Nat) (o : Nat), Le (propF L f a o) (propF L (f + 1) a o)
  arrow' : ∀ (a : Nat) (o : Nat), Le (arrowF L f a o) (arrowF L (f + 1) a o)
  abody' : ∀ (a : Nat) (o : Nat), Le (abodyF L f a o) (abodyF L (f + 1) a o)
  typeOr' : ∀ (a : Nat) (o : Nat), Le (typeOrF L f a o) (typeOrF L (f + 1) a o)
  typing' : ∀ (a : Nat) (o : Nat), Le (typingF L f a o) (typingF L (f + 1) a o)
  type' : ∀ (a : Nat) (o : Nat), Le (typeF L f a o) (typeF L (f + 1) a o)
  ptype' : ∀ (a : Nat) (o : Nat), Le (ptypeF L f a o) (ptypeF L (f + 1) a o)
  rtype' : ∀ (a : Nat) (o : Nat), Le (rtypeF L f a o) (rtypeF L (f + 1) a o)
  objt' : ∀ (a : Nat) (o : Nat), Le (objtF L f a o) (objtF L (f + 1) a o)
  ftype' : ∀ (a : Nat) (o : Nat), Le (ftypeF L f a o) (ftypeF L (f + 1) a o)
  blk' : ∀ (a : Nat) (o : Nat), Le (blkF L f a o) (blkF L (f + 1) a o)
  stmt' : ∀ (a : Nat) (o : Nat), Le (stmtF L f a o) (stmtF L (f + 1) a o)
  let' : ∀ (q : Int) (a : Nat) (o : Nat), Le (letF L f q a o) (letF L (f + 1) q a o)
  condi' : ∀ (a : Nat) (o : Nat), Le (condiF L f a o) (condiF L (f + 1) a o)
  els' : ∀ (a : Nat) (o : Nat), Le (elseF L f a o) (elseF L (f + 1) a o)
  exprOr' : ∀ (a : Nat) (o : Nat), Le (exprOrF L f a o) (exprOrF L (f + 1) a o)
  any' : ∀ (a : Nat) (o : Nat), Le (anyF L f a o) (anyF L (f + 1) a o)
theorem more_all (L : List Tok) : ∀ f, More L f := by
  intro f
  induction f with
  | zero => constructor <;> (intros; left; simp [exprF, assignF, condF, binF, unaryF, postF, primF, wprimF, sprimF, propF, arrowF, abodyF, typeOrF, typingF, typeF, ptypeF, rtypeF, objtF, ftypeF, blkF, stmtF, letF, condiF, elseF, exprOrF, anyF])
  | succ f ih =>
    constructor
    · intro a o
      rw [exprF, exprF]
      repeat (first
        | exact Le.refl _
        | exact le_blockG (fun _ => ih.stmt' _ _) _
        | (refine Le.bind (Le.refl _) ?_; intro _ _)
        | (refine Le.ite ?_ ?_)
        | exact le_binG (fun _ _ => ih.bin' _ _ _) _ _ _ _
        | exact le_postG (fun _ => ih.expr' _ _) _ _ _
        | (refine Le.bind (le_listE (fun _ => by first | exact ih.expr' _ _ | exact ih.prop' _ _) _) ?_; intro _ _)
        | (refine Le.bind (le_paramsG (fun _ => by first | exact ih.typeOr' _ _ | exact ih.typing' _ _) _) ?_; intro _ _)
        | (refine Le.bind (le_unionG (fun _ => ih.ptype' _ _) _ _ _) ?_; intro _ _)
        | (refine Le.bind (le_fieldsG (fun _ => ih.typing' _ _) _ _ _ _) ?_; intro _ _)
        | (refine Le.bind (by first | exact ih.assign' _ _ _ | exact ih.cond' _ _) ?_; intro _ _)
        | (first | exact ih.assign' _ _ _ | exact ih.cond' _ _))
    · intro nd a o
      rw [assignF, assignF]
      repeat (first
        | exact Le.refl _
        | exact le_blockG (fun _ => ih.stmt' _ _) _
        | (refine Le.bind (Le.refl _) ?_; intro _ _)
        | (refine Le.ite ?_ ?_)
        | exact le_binG (fun _ _ => ih.bin' _ _ _) _ _ _ _
        | exact le_postG (fun _ => ih.expr' _ _) _ _ _
        | (refine Le.bind (le_listE (fun _ => by first | exact ih.expr' _ _ | exact ih.prop' _ _) _) ?_; intro _ _)
        | (refine Le.bind (le_paramsG (fun _ => by first | exact ih.typeOr' _ _ | exact ih.typing' _ _) _) ?_; intro _ _)
        | (refine Le.bind (le_unionG (fun _ => ih.ptype' _ _) _ _ _) ?_; intro _ _)
        | (refine Le.bind (le_fieldsG (fun _ => ih.typing' _ _) _ _ _ _) ?_; intro _ _)
        | (refine Le.bind (by first | exact ih.expr' _ _) ?_; intro _ _)
        | (first | exact ih.expr' _ _))
    · intro a o
      rw [condF, condF]
      repeat (first
        | exact Le.refl _
        | exact le_blockG (fun _ => ih.stmt' _ _) _
        | (refine Le.bind (Le.refl _) ?_; intro _ _)
        | (refine Le.ite ?_ ?_)
        | exact le_binG (fun _ _ => ih.bin' _ _ _) _ _ _ _
        | exact le_postG (fun _ => ih.expr' _ _) _ _ _
        | (refine Le.bind (le_listE (fun _ => by first | exact ih.expr' _ _ | exact ih.prop' _ _) _) ?_; intro _ _)
        | (refine Le.bind (le_paramsG (fun _ => by first | exact ih.typeOr' _ _ | exact ih.typing' _ _) _) ?_; intro _ _)
        | (refine Le.bind (le_unionG (fun _ => ih.ptype' _ _) _ _ _) ?_; intro _ _)
        | (refine Le.bind (le_fieldsG (fun _ => ih.typing' _ _) _ _ _ _) ?_; intro _ _)
        | (refine Le.bind (by first | exact ih.expr' _ _ | exact ih.bin' _ _ _) ?_; intro _ _)
        | (first | exact ih.expr' _ _ | exact ih.bin' _ _ _))
    · intro m a o
      rw [binF, binF]
      repeat (first
        | exact Le.refl _
        | exact le_blockG (fun _ => ih.stmt' _ _) _
        | (refine Le.bind (Le.refl _) ?_; intro _ _)
        | (refine Le.ite ?_ ?_)
        | exact le_binG (fun _ _ => ih.bin' _ _ _) _ _ _ _
        | exact le_postG (fun _ => ih.expr' _ _) _ _ _
        | (refine Le.bind (le_listE (fun _ => by first | exact ih.expr' _ _ | exact ih.prop' _ _) _) ?_; intro _ _)
        | (refine Le.bind (le_paramsG (fun _ => by first | exact ih.typeOr' _ _ | exact ih.typing' _ _) _) ?_; intro _ _)
        | (refine Le.bind (le_unionG (fun _ => ih.ptype' _ _) _ _ _) ?_; intro _ _)
        | (refine Le.bind (le_fieldsG (fun _ => ih.typing' _ _) _ _ _ _) ?_; intro _ _)
        | (refine Le.bind (by first | exact ih.unary' _ _) ?_; intro _ _)
        | (first | exact ih.unary' _ _))
    · intro a o
      rw [unaryF, unaryF]
      repeat (first
        | exact Le.refl _
        | exact le_blockG (fun _ => ih.stmt' _ _) _
        | (refine Le.bind (Le.refl _) ?_; intro _ _)
        | (refine Le.ite ?_ ?_)
        | exact le_binG (fun _ _ => ih.bin' _ _ _) _ _ _ _
        | exact le_postG (fun _ => ih.expr' _ _) _ _ _
        | (refine Le.bind (le_listE (fun _ => by first | exact ih.expr' _ _ | exact ih.prop' _ _) _) ?_; intro _ _)
        | (refine Le.bind (le_paramsG (fun _ => by first | exact ih.typeOr' _ _ | exact ih.typing' _ _) _) ?_; intro _ _)
        | (refine Le.bind (le_unionG (fun _ => ih.ptype' _ _) _ _ _) ?_; intro _ _)
        | (refine Le.bind (le_fieldsG (fun _ => ih.typing' _ _) _ _ _ _) ?_; intro _ _)
        | (refine Le.bind (by first | exact ih.unary' _ _ | exact ih.post' _ _) ?_; intro _ _)
        | (first | exact ih.unary' _ _ | exact ih.post' _ _))
    · intro a o
      rw [postF, postF]
      repeat (first
        | exact Le.refl _
        | exact le_blockG (fun _ => ih.stmt' _ _) _
        | (refine Le.bind (Le.refl _) ?_; intro _ _)
        | (refine Le.ite ?_ ?_)
        | exact le_binG (fun _ _ => ih.bin' _ _ _) _ _ _ _
        | exact le_postG (fun _ => ih.expr' _ _) _ _ _
        | (refine Le.bind (le_listE (fun _ => by first | exact ih.expr' _ _ | exact ih.prop' _ _) _) ?_; intro _ _)
        | (refine Le.bind (le_paramsG (fun _ => by first | exact ih.typeOr' _ _ | exact ih.typing' _ _) _) ?_; intro _ _)
        | (refine Le.bind (le_unionG (fun _ => ih.ptype' _ _) _ _ _) ?_; intro _ _)
        | (refine Le.bind (le_fieldsG (fun _ => ih.typing' _ _) _ _ _ _) ?_; intro _ _)
        | (refine Le.bind (by first | exact ih.prim' _ _) ?_; intro _ _)
        | (first | exact ih.prim' _ _))
    · intro a o
      rw [primF, primF]
      repeat (first
        | exact Le.refl _
        | exact le_blockG (fun _ => ih.stmt' _ _) _
        | (refine Le.bind (Le.refl _) ?_; intro _ _)
        | (refine Le.ite ?_ ?_)
        | exact le_binG (fun _ _ => ih.bin' _ _ _) _ _ _ _
        | exact le_postG (fun _ => ih.expr' _ _) _ _ _
        | (refine Le.bind (le_listE (fun _ => by first | exact ih.expr' _ _ | exact ih.prop' _ _) _) ?_; intro _ _)
        | (refine Le.bind (le_paramsG (fun _ => by first | exact ih.typeOr' _ _ | exact ih.typing' _ _) _) ?_; intro _ _)
        | (refine Le.bind (le_unionG (fun _ => ih.ptype' _ _) _ _ _) ?_; intro _ _)
        | (refine Le.bind (le_fieldsG (fun _ => ih.typing' _ _) _ _ _ _) ?_; intro _ _)
        | (refine Le.bind (by first | exact ih.wprim' _ _ | exact ih.sprim' _ _) ?_; intro _ _)
        | (first | exact ih.wprim' _ _ | exact ih.sprim' _ _))
    · intro a o
      rw [wprimF, wprimF]
      repeat (first
        | exact Le.refl _
        | exact le_blockG (fun _ => ih.stmt' _ _) _
        | (refine Le.bind (Le.refl _) ?_; intro _ _)
        | (refine Le.ite ?_ ?_)
        | exact le_binG (fun _ _ => ih.bin' _ _ _) _ _ _ _
        | exact le_postG (fun _ => ih.expr' _ _) _ _ _
        | (refine Le.bind (le_listE (fun _ => by first | exact ih.expr' _ _ | exact ih.prop' _ _) _) ?_; intro _ _)
        | (refine Le.bind (le_paramsG (fun _ => by first | exact ih.typeOr' _ _ | exact ih.typing' _ _) _) ?_; intro _ _)
        | (refine Le.bind (le_unionG (fun _ => ih.ptype' _ _) _ _ _) ?_; intro _ _)
        | (refine Le.bind (le_fieldsG (fun _ => ih.typing' _ _) _ _ _ _) ?_; intro _ _)
        | (refine Le.bind (by first | exact ih.typeOr' _ _ | exact ih.blk' _ _) ?_; intro _ _)
        | (first | exact ih.typeOr' _ _ | exact ih.blk' _ _))
    · intro a o
      rw [sprimF, sprimF]
      repeat (first
        | exact Le.refl _
        | exact le_blockG (fun _ => ih.stmt' _ _) _
        | (refine Le.bind (Le.refl _) ?_; intro _ _)
        | (refine Le.ite ?_ ?_)
        | exact le_binG (fun _ _ => ih.bin' _ _ _) _ _ _ _
        | exact le_postG (fun _ => ih.expr' _ _) _ _ _
        | (refine Le.bind (le_listE (fun _ => by first | exact ih.expr' _ _ | exact ih.prop' _ _) _) ?_; intro _ _)
        | (refine Le.bind (le_paramsG (fun _ => by first | exact ih.typeOr' _ _ | exact ih.typing' _ _) _) ?_; intro _ _)
        | (refine Le.bind (le_unionG (fun _ => ih.ptype' _ _) _ _ _) ?_; intro _ _)
        | (refine Le.bind (le_fieldsG (fun _ => ih.typing' _ _) _ _ _ _) ?_; intro _ _)
        | (refine Le.bind (by first | exact ih.expr' _ _ | exact ih.arrow' _ _) ?_; intro _ _)
        | (first | exact ih.expr' _ _ | exact ih.arrow' _ _))
    · intro a o
      rw [propF, propF]
      repeat (first
        | exact Le.refl _
        | exact le_blockG (fun _ => ih.stmt' _ _) _
        | (refine Le.bind (Le.refl _) ?_; intro _ _)
        | (refine Le.ite ?_ ?_)
        | exact le_binG (fun _ _ => ih.bin' _ _ _) _ _ _ _
        | exact le_postG (fun _ => ih.expr' _ _) _ _ _
        | (refine Le.bind (le_listE (fun _ => by first | exact ih.expr' _ _ | exact ih.prop' _ _) _) ?_; intro _ _)
        | (refine Le.bind (le_paramsG (fun _ => by first | exact ih.typeOr' _ _ | exact ih.typing' _ _) _) ?_; intro _ _)
        | (refine Le.bind (le_unionG (fun _ => ih.ptype' _ _) _ _ _) ?_; intro _ _)
        | (refine Le.bind (le_fieldsG (fun _ => ih.typing' _ _) _ _ _ _) ?_; intro _ _)
        | (refine Le.bind (by first | exact ih.expr' _ _) ?_; intro _ _)
        | (first | exact ih.expr' _ _))
    · intro a o
      rw [arrowF, arrowF]
      repeat (first
        | exact Le.refl _
        | exact le_blockG (fun _ => ih.stmt' _ _) _
        | (refine Le.bind (Le.refl _) ?_; intro _ _)
        | (refine Le.ite ?_ ?_)
        | exact le_binG (fun _ _ => ih.bin' _ _ _) _ _ _ _
        | exact le_postG (fun _ => ih.expr' _ _) _ _ _
        | (refine Le.bind (le_listE (fun _ => by first | exact ih.expr' _ _ | exact ih.prop' _ _) _) ?_; intro _ _)
        | (refine Le.bind (le_paramsG (fun _ => by first | exact ih.typeOr' _ _ | exact ih.typing' _ _) _) ?_; intro _ _)
        | (refine Le.bind (le_unionG (fun _ => ih.ptype' _ _) _ _ _) ?_; intro _ _)
        | (refine Le.bind (le_fieldsG (fun _ => ih.typing' _ _) _ _ _ _) ?_; intro _ _)
        | (refine Le.bind (by first | exact ih.abody' _ _) ?_; intro _ _)
        | (first | exact ih.abody' _ _))
    · intro a o
      rw [abodyF, abodyF]
      repeat (first
        | exact Le.refl _
        | exact le_blockG (fun _ => ih.stmt' _ _) _
        | (refine Le.bind (Le.refl _) ?_; intro _ _)
        | (refine Le.ite ?_ ?_)
        | exact le_binG (fun _ _ => ih.bin' _ _ _) _ _ _ _
        | exact le_postG (fun _ => ih.expr' _ _) _ _ _
        | (refine Le.bind (le_listE (fun _ => by first | exact ih.expr' _ _ | exact ih.prop' _ _) _) ?_; intro _ _)
        | (refine Le.bind (le_paramsG (fun _ => by first | exact ih.typeOr' _ _ | exact ih.typing' _ _) _) ?_; intro _ _)
        | (refine Le.bind (le_unionG (fun _ => ih.ptype' _ _) _ _ _) ?_; intro _ _)
        | (refine Le.bind (le_fieldsG (fun _ => ih.typing' _ _) _ _ _ _) ?_; intro _ _)
        | (refine Le.bind (by first | exact ih.expr' _ _ | exact ih.blk' _ _) ?_; intro _ _)
        | (first | exact ih.expr' _ _ | exact ih.blk' _ _))
    · intro a o
      rw [typeOrF, typeOrF]
      repeat (first
        | exact Le.refl _
        | exact le_blockG (fun _ => ih.stmt' _ _) _
        | (refine Le.bind (Le.refl _) ?_; intro _ _)
        | (refine Le.ite ?_ ?_)
        | exact le_binG (fun _ _ => ih.bin' _ _ _) _ _ _ _
        | exact le_postG (fun _ => ih.expr' _ _) _ _ _
        | (refine Le.bind (le_listE (fun _ => by first | exact ih.expr' _ _ | exact ih.prop' _ _) _) ?_; intro _ _)
        | (refine Le.bind (le_paramsG (fun _ => by first | exact ih.typeOr' _ _ | exact ih.typing' _ _) _) ?_; intro _ _)
        | (refine Le.bind (le_unionG (fun _ => ih.ptype' _ _) _ _ _) ?_; intro _ _)
        | (refine Le.bind (le_fieldsG (fun _ => ih.typing' _ _) _ _ _ _) ?_; intro _ _)
        | (refine Le.bind (by first | exact ih.typing' _ _) ?_; intro _ _)
        | (first | exact ih.typing' _ _))
    · intro a o
      rw [typingF, typingF]
      repeat (first
        | exact Le.refl _
        | exact le_blockG (fun _ => ih.stmt' _ _) _
        | (refine Le.bind (Le.refl _) ?_; intro _ _)
        | (refine Le.ite ?_ ?_)
        | exact le_binG (fun _ _ => ih.bin' _ _ _) _ _ _ _
        | exact le_postG (fun _ => ih.expr' _ _) _ _ _
        | (refine Le.bind (le_listE (fun _ => by first | exact ih.expr' _ _ | exact ih.prop' _ _) _) ?_; intro _ _)
        | (refine Le.bind (le_paramsG (fun _ => by first | exact ih.typeOr' _ _ | exact ih.typing' _ _) _) ?_; intro _ _)
        | (refine Le.bind (le_unionG (fun _ => ih.ptype' _ _) _ _ _) ?_; intro _ _)
        | (refine Le.bind (le_fieldsG (fun _ => ih.typing' _ _) _ _ _ _) ?_; intro _ _)
        | (refine Le.bind (by first | exact ih.type' _ _) ?_; intro _ _)
        | (first | exact ih.type' _ _))
    · intro a o
      rw [typeF, typeF]
      repeat (first
        | exact Le.refl _
        | exact le_blockG (fun _ => ih.stmt' _ _) _
        | (refine Le.bind (Le.refl _) ?_; intro _ _)
        | (refine Le.ite ?_ ?_)
        | exact le_binG (fun _ _ => ih.bin' _ _ _) _ _ _ _
        | exact le_postG (fun _ => ih.expr' _ _) _ _ _
        | (refine Le.bind (le_listE (fun _ => by first | exact ih.expr' _ _ | exact ih.prop' _ _) _) ?_; intro _ _)
        | (refine Le.bind (le_paramsG (fun _ => by first | exact ih.typeOr' _ _ | exact ih.typing' _ _) _) ?_; intro _ _)
        | (refine Le.bind (le_unionG (fun _ => ih.ptype' _ _) _ _ _) ?_; intro _ _)
        | (refine Le.bind (le_fieldsG (fun _ => ih.typing' _ _) _ _ _ _) ?_; intro _ _)
        | (refine Le.bind (by first | fail) ?_; intro _ _)
        | (first | fail))
    · intro a o
      rw [ptypeF, ptypeF]
      repeat (first
        | exact Le.refl _
        | exact le_blockG (fun _ => ih.stmt' _ _) _
        | (refine Le.bind (Le.refl _) ?_; intro _ _)
        | (refine Le.ite ?_ ?_)
        | exact le_binG (fun _ _ => ih.bin' _ _ _) _ _ _ _
        | exact le_postG (fun _ => ih.expr' _ _) _ _ _
        | (refine Le.bind (le_listE (fun _ => by first | exact ih.expr' _ _ | exact ih.prop' _ _) _) ?_; intro _ _)
        | (refine Le.bind (le_paramsG (fun _ => by first | exact ih.typeOr' _ _ | exact ih.typing' _ _) _) ?_; intro _ _)
        | (refine Le.bind (le_unionG (fun _ => ih.ptype' _ _) _ _ _) ?_; intro _ _)
        | (refine Le.bind (le_fieldsG (fun _ => ih.typing' _ _) _ _ _ _) ?_; intro _ _)
        | (refine Le.bind (by first | exact ih.rtype' _ _) ?_; intro _ _)
        | (first | exact ih.rtype' _ _))
    · intro a o
      rw [rtypeF, rtypeF]
      repeat (first
        | exact Le.refl _
        | exact le_blockG (fun _ => ih.stmt' _ _) _
        | (refine Le.bind (Le.refl _) ?_; intro _ _)
        | (refine Le.ite ?_ ?_)
        | exact le_binG (fun _ _ => ih.bin' _ _ _) _ _ _ _
        | exact le_postG (fun _ => ih.expr' _ _) _ _ _
        | (refine Le.bind (le_listE (fun _ => by first | exact ih.expr' _ _ | exact ih.prop' _ _) _) ?_; intro _ _)
        | (refine Le.bind (le_paramsG (fun _ => by first | exact ih.typeOr' _ _ | exact ih.typing' _ _) _) ?_; intro _ _)
        | (refine Le.bind (le_unionG (fun _ => ih.ptype' _ _) _ _ _) ?_; intro _ _)
        | (refine Le.bind (le_fieldsG (fun _ => ih.typing' _ _) _ _ _ _) ?_; intro _ _)
        | (refine Le.bind (by first | exact ih.type' _ _ | exact ih.objt' _ _ | exact ih.ftype' _ _) ?_; intro _ _)
        | (first | exact ih.type' _ _ | exact ih.objt' _ _ | exact ih.ftype' _ _))
    · intro a o
      rw [objtF, objtF]
      repeat (first
        | exact Le.refl _
        | exact le_blockG (fun _ => ih.stmt' _ _) _
        | (refine Le.bind (Le.refl _) ?_; intro _ _)
        | (refine Le.ite ?_ ?_)
        | exact le_binG (fun _ _ => ih.bin' _ _ _) _ _ _ _
        | exact le_postG (fun _ => ih.expr' _ _) _ _ _
        | (refine Le.bind (le_listE (fun _ => by first | exact ih.expr' _ _ | exact ih.prop' _ _) _) ?_; intro _ _)
        | (refine Le.bind (le_paramsG (fun _ => by first | exact ih.typeOr' _ _ | exact ih.typing' _ _) _) ?_; intro _ _)
        | (refine Le.bind (le_unionG (fun _ => ih.ptype' _ _) _ _ _) ?_; intro _ _)
        | (refine Le.bind (le_fieldsG (fun _ => ih.typing' _ _) _ _ _ _) ?_; intro _ _)
        | (refine Le.bind (by first | fail) ?_; intro _ _)
        | (first | fail))
    · intro a o
      rw [ftypeF, ftypeF]
      repeat (first
        | exact Le.refl _
        | exact le_blockG (fun _ => ih.stmt' _ _) _
        | (refine Le.bind (Le.refl _) ?_; intro _ _)
        | (refine Le.ite ?_ ?_)
        | exact le_binG (fun _ _ => ih.bin' _ _ _) _ _ _ _
        | exact le_postG (fun _ => ih.expr' _ _) _ _ _
        | (refine Le.bind (le_listE (fun _ => by first | exact ih.expr' _ _ | exact ih.prop' _ _) _) ?_; intro _ _)
        | (refine Le.bind (le_paramsG (fun _ => by first | exact ih.typeOr' _ _ | exact ih.typing' _ _) _) ?_; intro _ _)
        | (refine Le.bind (le_unionG (fun _ => ih.ptype' _ _) _ _ _) ?_; intro _ _)
        | (refine Le.bind (le_fieldsG (fun _ => ih.typing' _ _) _ _ _ _) ?_; intro _ _)
        | (refine Le.bind (by first | exact ih.type' _ _) ?_; intro _ _)
        | (first | exact ih.type' _ _))
    · intro a o
      rw [blkF, blkF]
      repeat (first
        | exact Le.refl _
        | exact le_blockG (fun _ => ih.stmt' _ _) _
        | (refine Le.bind (Le.refl _) ?_; intro _ _)
        | (refine Le.ite ?_ ?_)
        | exact le_binG (fun _ _ => ih.bin' _ _ _) _ _ _ _
        | exact le_postG (fun _ => ih.expr' _ _) _ _ _
        | (refine Le.bind (le_listE (fun _ => by first | exact ih.expr' _ _ | exact ih.prop' _ _) _) ?_; intro _ _)
        | (refine Le.bind (le_paramsG (fun _ => by first | exact ih.typeOr' _ _ | exact ih.typing' _ _) _) ?_; intro _ _)
        | (refine Le.bind (le_unionG (fun _ => ih.ptype' _ _) _ _ _) ?_; intro _ _)
        | (refine Le.bind (le_fieldsG (fun _ => ih.typing' _ _) _ _ _ _) ?_; intro _ _)
        | (refine Le.bind (by first | fail) ?_; intro _ _)
        | (first | fail))
    · intro a o
      rw [stmtF, stmtF]
      repeat (first
        | exact Le.refl _
        | exact le_blockG (fun _ => ih.stmt' _ _) _
        | (refine Le.bind (Le.refl _) ?_; intro _ _)
        | (refine Le.ite ?_ ?_)
        | exact le_binG (fun _ _ => ih.bin' _ _ _) _ _ _ _
        | exact le_postG (fun _ => ih.expr' _ _) _ _ _
        | (refine Le.bind (le_listE (fun _ => by first | exact ih.expr' _ _ | exact ih.prop' _ _) _) ?_; intro _ _)
        | (refine Le.bind (le_paramsG (fun _ => by first | exact ih.typeOr' _ _ | exact ih.typing' _ _) _) ?_; intro _ _)
        | (refine Le.bind (le_unionG (fun _ => ih.ptype' _ _) _ _ _) ?_; intro _ _)
        | (refine Le.bind (le_fieldsG (fun _ => ih.typing' _ _) _ _ _ _) ?_; intro _ _)
        | (refine Le.bind (by first | exact ih.any' _ _) ?_; intro _ _)
        | (first | exact ih.any' _ _))
    · intro q a o
      rw [letF, letF]
      repeat (first
        | exact Le.refl _
        | exact le_blockG (fun _ => ih.stmt' _ _) _
        | (refine Le.bind (Le.refl _) ?_; intro _ _)
        | (refine Le.ite ?_ ?_)
        | exact le_binG (fun _ _ => ih.bin' _ _ _) _ _ _ _
        | exact le_postG (fun _ => ih.expr' _ _) _ _ _
        | (refine Le.bind (le_listE (fun _ => by first | exact ih.expr' _ _ | exact ih.prop' _ _) _) ?_; intro _ _)
        | (refine Le.bind (le_paramsG (fun _ => by first | exact ih.typeOr' _ _ | exact ih.typing' _ _) _) ?_; intro _ _)
        | (refine Le.bind (le_unionG (fun _ => ih.ptype' _ _) _ _ _) ?_; intro _ _)
        | (refine Le.bind (le_fieldsG (fun _ => ih.typing' _ _) _ _ _ _) ?_; intro _ _)
        | (refine Le.bind (by first | exact ih.expr' _ _ | exact ih.typeOr' _ _) ?_; intro _ _)
        | (first | exact ih.expr' _ _ | exact ih.typeOr' _ _))
    · intro a o
      rw [condiF, condiF]
      repeat (first
        | exact Le.refl _
        | exact le_blockG (fun _ => ih.stmt' _ _) _
        | (refine Le.bind (Le.refl _) ?_; intro _ _)
        | (refine Le.ite ?_ ?_)
        | exact le_binG (fun _ _ => ih.bin' _ _ _) _ _ _ _
        | exact le_postG (fun _ => ih.expr' _ _) _ _ _
        | (refine Le.bind (le_listE (fun _ => by first | exact ih.expr' _ _ | exact ih.prop' _ _) _) ?_; intro _ _)
        | (refine Le.bind (le_paramsG (fun _ => by first | exact ih.typeOr' _ _ | exact ih.typing' _ _) _) ?_; intro _ _)
        | (refine Le.bind (le_unionG (fun _ => ih.ptype' _ _) _ _ _) ?_; intro _ _)
        | (refine Le.bind (le_fieldsG (fun _ => ih.typing' _ _) _ _ _ _) ?_; intro _ _)
        | (refine Le.bind (by first | exact ih.expr' _ _) ?_; intro _ _)
        | (first | exact ih.expr' _ _))
    · intro a o
      rw [elseF, elseF]
      repeat (first
        | exact Le.refl _
        | exact le_blockG (fun _ => ih.stmt' _ _) _
        | (refine Le.bind (Le.refl _) ?_; intro _ _)
        | (refine Le.ite ?_ ?_)
        | exact le_binG (fun _ _ => ih.bin' _ _ _) _ _ _ _
        | exact le_postG (fun _ => ih.expr' _ _) _ _ _
        | (refine Le.bind (le_listE (fun _ => by first | exact ih.expr' _ _ | exact ih.prop' _ _) _) ?_; intro _ _)
        | (refine Le.bind (le_paramsG (fun _ => by first | exact ih.typeOr' _ _ | exact ih.typing' _ _) _) ?_; intro _ _)
        | (refine Le.bind (le_unionG (fun _ => ih.ptype' _ _) _ _ _) ?_; intro _ _)
        | (refine Le.bind (le_fieldsG (fun _ => ih.typing' _ _) _ _ _ _) ?_; intro _ _)
        | (refine Le.bind (by first | exact ih.blk' _ _ | exact ih.stmt' _ _) ?_; intro _ _)
        | (first | exact ih.blk' _ _ | exact ih.stmt' _ _))
    · intro a o
      rw [exprOrF, exprOrF]
      repeat (first
        | exact Le.refl _
        | exact le_blockG (fun _ => ih.stmt' _ _) _
        | (refine Le.bind (Le.refl _) ?_; intro _ _)
        | (refine Le.ite ?_ ?_)
        | exact le_binG (fun _ _ => ih.bin' _ _ _) _ _ _ _
        | exact le_postG (fun _ => ih.expr' _ _) _ _ _
        | (refine Le.bind (le_listE (fun _ => by first | exact ih.expr' _ _ | exact ih.prop' _ _) _) ?_; intro _ _)
        | (refine Le.bind (le_paramsG (fun _ => by first | exact ih.typeOr' _ _ | exact ih.typing' _ _) _) ?_; intro _ _)
        | (refine Le.bind (le_unionG (fun _ => ih.ptype' _ _) _ _ _) ?_; intro _ _)
        | (refine Le.bind (le_fieldsG (fun _ => ih.typing' _ _) _ _ _ _) ?_; intro _ _)
        | (refine Le.bind (by first | exact ih.expr' _ _) ?_; intro _ _)
        | (first | exact ih.expr' _ _))
    · intro a o
      rw [anyF, anyF]
      repeat (first
        | exact Le.refl _
        | exact le_blockG (fun _ => ih.stmt' _ _) _
        | (refine Le.bind (Le.refl _) ?_; intro _ _)
        | (refine Le.ite ?_ ?_)
        | exact le_binG (fun _ _ => ih.bin' _ _ _) _ _ _ _
        | exact le_postG (fun _ => ih.expr' _ _) _ _ _
        | (refine Le.bind (le_listE (fun _ => by first | exact ih.expr' _ _ | exact ih.prop' _ _) _) ?_; intro _ _)
        | (refine Le.bind (le_paramsG (fun _ => by first | exact ih.typeOr' _ _ | exact ih.typing' _ _) _) ?_; intro _ _)
        | (refine Le.bind (le_unionG (fun _ => ih.ptype' _ _) _ _ _) ?_; intro _ _)
        | (refine Le.bind (le_fieldsG (fun _ => ih.typing' _ _) _ _ _ _) ?_; intro _ _)
        | (refine Le.bind (by first | exact ih.expr' _ _ | exact ih.typeOr' _ _ | exact ih.blk' _ _ | exact ih.let' _ _ _ | exact ih.condi' _ _ | exact ih.els' _ _ | exact ih.exprOr' _ _) ?_; intro _ _)
        | (first | exact ih.expr' _ _ | exact ih.typeOr' _ _ | exact ih.blk' _ _ | exact ih.let' _ _ _ | exact ih.condi' _ _ | exact ih.els' _ _ | exact ih.exprOr' _ _))
/-- an answer for which the fuel was enough is that for more fuel. -/
theorem expr_more {L : List Tok} {f g a o : Nat} {r : Rs Nd} (h : exprF L f a o = r) (hr : ∀ p, r ≠ .bad p 0) (hg : f ≤ g) : exprF L g a o = r := by
  induction g with
  | zero => obtain rfl : f = 0 := by omega
            exact h
  | succ g ih =>
    by_cases e : f = g + 1
    · rw [← e]; exact h
    · have h1 := ih (by omega)
      rcases (more_all L g).expr' a o with ⟨p, h2⟩ | h2
      · exact absurd (h1.symm.trans h2) (hr p)
      · rw [← h2]; exact h1
theorem type_more {L : List Tok} {f g a o : Nat} {r : Rs Nd} (h : typeF L f a o = r) (hr : ∀ p, r ≠ .bad p 0) (hg : f ≤ g) : typeF L g a o = r := by
  induction g with
  | zero => obtain rfl : f = 0 := by omega
            exact h
  | succ g ih =>
    by_cases e : f = g + 1
    · rw [← e]; exact h
    · have h1 := ih (by omega)
      rcases (more_all L g).type' a o with ⟨p, h2⟩ | h2
      · exact absurd (h1.symm.trans h2) (hr p)
      · rw [← h2]; exact h1
theorem stmt_more {L : List Tok} {f g a o : Nat} {r : Rs Nd} (h : stmtF L f a o = r) (hr : ∀ p, r ≠ .bad p 0) (hg : f ≤ g) : stmtF L g a o = r := by
  induction g with
  | zero => obtain rfl : f = 0 := by omega
            exact h
  | succ g ih =>
    by_cases e : f = g + 1
    · rw [← e]; exact h
    · have h1 := ih (by omega)
      rcases (more_all L g).stmt' a o with ⟨p, h2⟩ | h2
      · exact absurd (h1.symm.trans h2) (hr p)
      · rw [← h2]; exact h1
end Go.Proofs.Ytmfgcaffdkakhaa
