/- Own text. Package parse: more fuel changes nothing (of the model; no program is named here). Package parse: a tree has at most two trees a token (of the model; no program is named here). Package parse: places and errors that are answered (of the model; no program is named here). Package parse: no place that is answered lies ahead of the beginning (of the model; no program is named here). -/
import Derived.Test.YtmfgcaffdkakhaaGreatM2
namespace Go.Proofs.YtmfgcaffdkakhaaGreat
open Go.RowKit
set_option linter.unusedVariables false
set_option linter.unusedSimpArgs false

/-- the second answer is the first, where the fuel was enough for that. -/
def Le {α : Type} (r s : Rs α) : Prop := (∃ p, r = .bad p 0) ∨ r = s
theorem Le.refl {α : Type} (r : Rs α) : Le r r := .inr rfl
theorem Le.bind {α β : Type} {r s : Rs α} {f g : α → Nat → Rs β} (h : Le r s) (hf : ∀ u a, Le (f u a) (g u a)) : Le (r.bind f) (s.bind g) := by
  rcases h with ⟨p, rfl⟩ | rfl
  · exact .inl ⟨p, rfl⟩
  · cases r with
    | ok u a => exact hf u a
    | bad p e => exact .inr rfl
theorem Le.ite {α : Type} {p : Prop} [Decidable p] {x y x' y' : Rs α} (hx : Le x x') (hy : Le y y') : Le (if p then x else y) (if p then x' else y') := by
  split
  · exact hx
  · exact hy
theorem le_listG {σ : Type} {L : List Tok} {s : ByteArray} {F F' : σ → Nat → Rs (Nd × σ)} (hF : ∀ st a, Le (F st a) (F' st a)) : ∀ (n : Nat) (acc : List Nd) (st : σ) (a : Nat), Le (listG L s F n acc st a) (listG L s F' n acc st a)
  | 0, _, _, _ => .refl _
  | n + 1, acc, st, a => by
    rw [listG, listG]
    split
    · exact .refl _
    · rcases hF st a with ⟨p, h⟩ | h
      · rw [h]; exact .inl ⟨p, rfl⟩
      · rw [h]
        split
        · exact .refl _
        · exact Le.ite (le_listG hF n _ _ _) (Le.ite (le_listG hF n _ _ _) (.refl _))
theorem le_listE {L : List Tok} {s : ByteArray} {E E' : Nat → Rs Nd} (hE : ∀ a, Le (E a) (E' a)) (a : Nat) : Le (listE L E s a) (listE L E' s a) :=
  le_listG (fun _ a => (hE a).bind (fun _ _ => .refl _)) _ _ _ _
theorem le_stmtsG {L : List Tok} {F F' : Nat → Rs Nd} (hF : ∀ a, Le (F a) (F' a)) : ∀ (n : Nat) (acc : List Nd) (a : Nat), Le (stmtsG L F n acc a) (stmtsG L F' n acc a)
  | 0, _, _ => .refl _
  | n + 1, acc, a => by
    rw [stmtsG, stmtsG]
    split
    · exact .refl _
    · rcases hF a with ⟨p, h⟩ | h
      · rw [h]; exact .inl ⟨p, rfl⟩
      · rw [h]
        split
        · exact .refl _
        · exact le_stmtsG hF n _ _
theorem le_blockG {L : List Tok} {F F' : Nat → Rs Nd} (hF : ∀ a, Le (F a) (F' a)) (a : Nat) : Le (blockG L F a) (blockG L F' a) :=
  Le.bind (.refl _) (fun _ _ => Le.bind (le_stmtsG hF _ _ _) (fun _ _ => .refl _))
theorem le_paramsG {L : List Tok} {G G' : Nat → Rs Nd} (hG : ∀ a, Le (G a) (G' a)) (a : Nat) : Le (paramsG L G a) (paramsG L G' a) :=
  Le.bind (.refl _) (fun _ _ => Le.bind (le_listG (fun ns b => Le.bind (.refl _) (fun _ _ => Le.bind (.refl _) (fun _ _ => Le.bind (hG _) (fun _ _ => .refl _)))) _ _ _ _) (fun _ _ => .refl _))
theorem le_binG {L : List Tok} {B B' : Nat → Nat → Rs Nd} (hB : ∀ m a, Le (B m a) (B' m a)) (m : Nat) : ∀ (n : Nat) (nd : Nd) (a : Nat), Le (binG L B m n nd a) (binG L B' m n nd a)
  | 0, _, _ => .refl _
  | n + 1, nd, a => by
    rw [binG, binG]
    exact Le.ite (.refl _) (Le.bind (hB _ _) (fun _ _ => le_binG hB m n _ _))
theorem le_postG {L : List Tok} {E E' : Nat → Rs Nd} (hE : ∀ a, Le (E a) (E' a)) : ∀ (n : Nat) (nd : Nd) (a : Nat), Le (postG L E n nd a) (postG L E' n nd a)
  | 0, _, _ => .refl _
  | n + 1, nd, a => by
    rw [postG, postG]
    exact Le.ite (Le.bind (.refl _) (fun _ _ => le_postG hE n _ _)) (Le.ite (Le.bind (hE _) (fun _ _ => Le.bind (.refl _) (fun _ _ => le_postG hE n _ _))) (Le.ite (Le.bind (le_listE hE _) (fun _ _ => le_postG hE n _ _)) (.refl _)))
theorem le_unionG {L : List Tok} {E E' : Nat → Rs Nd} (hE : ∀ a, Le (E a) (E' a)) : ∀ (n : Nat) (acc : List Nd) (a : Nat), Le (unionG L E n acc a) (unionG L E' n acc a)
  | 0, _, _ => .refl _
  | n + 1, acc, a => by
    rw [unionG, unionG]
    exact Le.bind (hE a) (fun _ _ => Le.ite (le_unionG hE n _ _) (.refl _))
theorem le_fieldsG {L : List Tok} {T T' : Nat → Rs Nd} (hT : ∀ a, Le (T a) (T' a)) : ∀ (n : Nat) (acc : List Nd) (ns : List (List UInt8)) (a : Nat), Le (fieldsG L T n acc ns a) (fieldsG L T' n acc ns a)
  | 0, _, _, _ => .refl _
  | n + 1, acc, ns, a => by
    rw [fieldsG, fieldsG]
    exact Le.ite (.refl _) (Le.bind (.refl _) (fun _ _ => Le.bind (.refl _) (fun _ _ => Le.bind (hT _) (fun _ _ => Le.bind (.refl _) (fun _ _ => le_fieldsG hT n _ _ _)))))
structure More (L : List Tok) (f : Nat) : Prop where
  expr' : ∀ (a : Nat) (o : Nat), Le (exprF L f a o) (exprF L (f + 1) a o)
  assign' : ∀ (nd : Nd) (a : Nat) (o : Nat), Le (assignF L f nd a o) (assignF L (f + 1) nd a o)
  cond' : ∀ (a : Nat) (o : Nat), Le (condF L f a o) (condF L (f + 1) a o)
  bin' : ∀ (m : Nat) (a : Nat) (o : Nat), Le (binF L f m a o) (binF L (f + 1) m a o)
  unary' : ∀ (a : Nat) (o : Nat), Le (unaryF L f a o) (unaryF L (f + 1) a o)
  post' : ∀ (a : Nat) (o : Nat), Le (postF L f a o) (postF L (f + 1) a o)
  prim' : ∀ (a : Nat) (o : Nat), Le (primF L f a o) (primF L (f + 1) a o)
  wprim' : ∀ (a : Nat) (o : Nat), Le (wprimF L f a o) (wprimF L (f + 1) a o)
  sprim' : ∀ (a : Nat) (o : Nat), Le (sprimF L f a o) (sprimF L (f + 1) a o)
  prop' : ∀ (a : Nat) (o : Nat), Le (propF L f a o) (propF L (f + 1) a o)
  arrow' : ∀ (a : Nat) (o : Nat), Le (arrowF L f a o) (arrowF L (f + 1) a o)
  abody' : ∀ (a : Nat) (o : Nat), Le (abodyF L f a o) (abodyF L (f + 1) a o)
  typeOr' : ∀ (a : Nat) (o : Nat), Le (typeOrF L f a o) (typeOrF L (f + 1) a o)
  typing' : ∀ (a : Nat) (o : Nat), Le (typingF L f a o) (typingF L (f + 1) a o)
  type' : ∀ (a : Nat) (o : Nat), Le (typeF L f a o) (typeF L (f + 1) a o)
  ptype' : ∀ (a : Nat) (o : Nat), Le (ptypeF L f a o) (ptypeF L (f + 1) a o)
  rtype' : ∀ (a : Nat) (o : Nat), Le (rtypeF L f a o) (rtypeF L (f + 1) a o)
  objt' : ∀ (a : Nat) (o : Nat), Le (objtF L f a o) (objtF L (f + 1) a o)
  ftype' : ∀ (a : Nat) (o : Nat), Le (ftypeF L f a o) (ftypeF L (f + 1) a o)
  blk' : ∀ (a : Nat) (o : Nat), Le (blkF L f a o) (blkF L (f + 1) a o)
  stmt' : ∀ (a : Nat) (o : Nat), Le (stmtF L f a o) (stmtF L (f + 1) a o)
  let' : ∀ (q : Int) (a : Nat) (o : Nat), Le (letF L f q a o) (letF L (f + 1) q a o)
  condi' : ∀ (a : Nat) (o : Nat), Le (condiF L f a o) (condiF L (f + 1) a o)
  els' : ∀ (a : Nat) (o : Nat), Le (elseF L f a o) (elseF L (f + 1) a o)
  exprOr' : ∀ (a : Nat) (o : Nat), Le (exprOrF L f a o) (exprOrF L (f + 1) a o)
  any' : ∀ (a : Nat) (o : Nat), Le (anyF L f a o) (anyF L (f + 1) a o)
theorem more_all (L : List Tok) : ∀ f, More L f := by
  intro f
  induction f with
  | zero => constructor <;> (intros; left; simp [exprF, assignF, condF, binF, unaryF, postF, primF, wprimF, sprimF, propF, arrowF, abodyF, typeOrF, typingF, typeF, ptypeF, rtypeF, objtF, ftypeF, blkF, stmtF, letF, condiF, elseF, exprOrF, anyF])
  | succ f ih =>
    constructor
    · intro a o
      rw [exprF, exprF]
      repeat (first
        | exact Le.refl _
        | exact le_blockG (fun _ => ih.stmt' _ _) _
        | (refine Le.bind (Le.refl _) ?_; intro _ _)
        | (refine Le.ite ?_ ?_)
        | exact le_binG (fun _ _ => ih.bin' _ _ _) _ _ _ _
        | exact le_postG (fun _ => ih.expr' _ _) _ _ _
        | (refine Le.bind (le_listE (fun _ => by first | exact ih.expr' _ _ | exact ih.prop' _ _) _) ?_; intro _ _)
        | (refine Le.bind (le_paramsG (fun _ => by first | exact ih.typeOr' _ _ | exact ih.typing' _ _) _) ?_; intro _ _)
        | (refine Le.bind (le_unionG (fun _ => ih.ptype' _ _) _ _ _) ?_; intro _ _)
        | (refine Le.bind (le_fieldsG (fun _ => ih.typing' _ _) _ _ _ _) ?_; intro _ _)
        | (refine Le.bind (by first | exact ih.assign' _ _ _ | exact ih.cond' _ _) ?_; intro _ _)
        | (first | exact ih.assign' _ _ _ | exact ih.cond' _ _))
    · intro nd a o
      rw [assignF, assignF]
      repeat (first
        | exact Le.refl _
        | exact le_blockG (fun _ => ih.stmt' _ _) _
        | (refine Le.bind (Le.refl _) ?_; intro _ _)
        | (refine Le.ite ?_ ?_)
        | exact le_binG (fun _ _ => ih.bin' _ _ _) _ _ _ _
        | exact le_postG (fun _ => ih.expr' _ _) _ _ _
        | (refine Le.bind (le_listE (fun _ => by first | exact ih.expr' _ _ | exact ih.prop' _ _) _) ?_; intro _ _)
        | (refine Le.bind (le_paramsG (fun _ => by first | exact ih.typeOr' _ _ | exact ih.typing' _ _) _) ?_; intro _ _)
        | (refine Le.bind (le_unionG (fun _ => ih.ptype' _ _) _ _ _) ?_; intro _ _)
        | (refine Le.bind (le_fieldsG (fun _ => ih.typing' _ _) _ _ _ _) ?_; intro _ _)
        | (refine Le.bind (by first | exact ih.expr' _ _) ?_; intro _ _)
        | (first | exact ih.expr' _ _))
    · intro a o
      rw [condF, condF]
      repeat (first
        | exact Le.refl _
        | exact le_blockG (fun _ => ih.stmt' _ _) _
        | (refine Le.bind (Le.refl _) ?_; intro _ _)
        | (refine Le.ite ?_ ?_)
        | exact le_binG (fun _ _ => ih.bin' _ _ _) _ _ _ _
        | exact le_postG (fun _ => ih.expr' _ _) _ _ _
        | (refine Le.bind (le_listE (fun _ => by first | exact ih.expr' _ _ | exact ih.prop' _ _) _) ?_; intro _ _)
        | (refine Le.bind (le_paramsG (fun _ => by first | exact ih.typeOr' _ _ | exact ih.typing' _ _) _) ?_; intro _ _)
        | (refine Le.bind (le_unionG (fun _ => ih.ptype' _ _) _ _ _) ?_; intro _ _)
        | (refine Le.bind (le_fieldsG (fun _ => ih.typing' _ _) _ _ _ _) ?_; intro _ _)
        | (refine Le.bind (by first | exact ih.expr' _ _ | exact ih.bin' _ _ _) ?_; intro _ _)
        | (first | exact ih.expr' _ _ | exact ih.bin' _ _ _))
    · intro m a o
      rw [binF, binF]
      repeat (first
        | exact Le.refl _
        | exact le_blockG (fun _ => ih.stmt' _ _) _
        | (refine Le.bind (Le.refl _) ?_; intro _ _)
        | (refine Le.ite ?_ ?_)
        | exact le_binG (fun _ _ => ih.bin' _ _ _) _ _ _ _
        | exact le_postG (fun _ => ih.expr' _ _) _ _ _
        | (refine Le.bind (le_listE (fun _ => by first | exact ih.expr' _ _ | exact ih.prop' _ _) _) ?_; intro _ _)
        | (refine Le.bind (le_paramsG (fun _ => by first | exact ih.typeOr' _ _ | exact ih.typing' _ _) _) ?_; intro _ _)
        | (refine Le.bind (le_unionG (fun _ => ih.ptype' _ _) _ _ _) ?_; intro _ _)
        | (refine Le.bind (le_fieldsG (fun _ => ih.typing' _ _) _ _ _ _) ?_; intro _ _)
        | (refine Le.bind (by first | exact ih.unary' _ _) ?_; intro _ _)
        | (first | exact ih.unary' _ _))
    · intro a o
      rw [unaryF, unaryF]
      repeat (first
        | exact Le.refl _
        | exact le_blockG (fun _ => ih.stmt' _ _) _
        | (refine Le.bind (Le.refl _) ?_; intro _ _)
        | (refine Le.ite ?_ ?_)
        | exact le_binG (fun _ _ => ih.bin' _ _ _) _ _ _ _
        | exact le_postG (fun _ => ih.expr' _ _) _ _ _
        | (refine Le.bind (le_listE (fun _ => by first | exact ih.expr' _ _ | exact ih.prop' _ _) _) ?_; intro _ _)
        | (refine Le.bind (le_paramsG (fun _ => by first | exact ih.typeOr' _ _ | exact ih.typing' _ _) _) ?_; intro _ _)
        | (refine Le.bind (le_unionG (fun _ => ih.ptype' _ _) _ _ _) ?_; intro _ _)
        | (refine Le.bind (le_fieldsG (fun _ => ih.typing' _ _) _ _ _ _) ?_; intro _ _)
        | (refine Le.bind (by first | exact ih.unary' _ _ | exact ih.post' _ _) ?_; intro _ _)
        | (first | exact ih.unary' _ _ | exact ih.post' _ _))
    · intro a o
      rw [postF, postF]
      repeat (first
        | exact Le.refl _
        | exact le_blockG (fun _ => ih.stmt' _ _) _
        | (refine Le.bind (Le.refl _) ?_; intro _ _)
        | (refine Le.ite ?_ ?_)
        | exact le_binG (fun _ _ => ih.bin' _ _ _) _ _ _ _
        | exact le_postG (fun _ => ih.expr' _ _) _ _ _
        | (refine Le.bind (le_listE (fun _ => by first | exact ih.expr' _ _ | exact ih.prop' _ _) _) ?_; intro _ _)
        | (refine Le.bind (le_paramsG (fun _ => by first | exact ih.typeOr' _ _ | exact ih.typing' _ _) _) ?_; intro _ _)
        | (refine Le.bind (le_unionG (fun _ => ih.ptype' _ _) _ _ _) ?_; intro _ _)
        | (refine Le.bind (le_fieldsG (fun _ => ih.typing' _ _) _ _ _ _) ?_; intro _ _)
        | (refine Le.bind (by first | exact ih.prim' _ _) ?_; intro _ _)
        | (first | exact ih.prim' _ _))
    · intro a o
      rw [primF, primF]
      repeat (first
        | exact Le.refl _
        | exact le_blockG (fun _ => ih.stmt' _ _) _
        | (refine Le.bind (Le.refl _) ?_; intro _ _)
        | (refine Le.ite ?_ ?_)
        | exact le_binG (fun _ _ => ih.bin' _ _ _) _ _ _ _
        | exact le_postG (fun _ => ih.expr' _ _) _ _ _
        | (refine Le.bind (le_listE (fun _ => by first | exact ih.expr' _ _ | exact ih.prop' _ _) _) ?_; intro _ _)
        | (refine Le.bind (le_paramsG (fun _ => by first | exact ih.typeOr' _ _ | exact ih.typing' _ _) _) ?_; intro _ _)
        | (refine Le.bind (le_unionG (fun _ => ih.ptype' _ _) _ _ _) ?_; intro _ _)
        | (refine Le.bind (le_fieldsG (fun _ => ih.typing' _ _) _ _ _ _) ?_; intro _ _)
        | (refine Le.bind (by first | exact ih.wprim' _ _ | exact ih.sprim' _ _) ?_; intro _ _)
        | (first | exact ih.wprim' _ _ | exact ih.sprim' _ _))
    · intro a o
      rw [wprimF, wprimF]
      repeat (first
        | exact Le.refl _
        | exact le_blockG (fun _ => ih.stmt' _ _) _
        | (refine Le.bind (Le.refl _) ?_; intro _ _)
        | (refine Le.ite ?_ ?_)
        | exact le_binG (fun _ _ => ih.bin' _ _ _) _ _ _ _
        | exact le_postG (fun _ => ih.expr' _ _) _ _ _
        | (refine Le.bind (le_listE (fun _ => by first | exact ih.expr' _ _ | exact ih.prop' _ _) _) ?_; intro _ _)
        | (refine Le.bind (le_paramsG (fun _ => by first | exact ih.typeOr' _ _ | exact ih.typing' _ _) _) ?_; intro _ _)
        | (refine Le.bind (le_unionG (fun _ => ih.ptype' _ _) _ _ _) ?_; intro _ _)
        | (refine Le.bind (le_fieldsG (fun _ => ih.typing' _ _) _ _ _ _) ?_; intro _ _)
        | (refine Le.bind (by first | exact ih.typeOr' _ _ | exact ih.blk' _ _) ?_; intro _ _)
        | (first | exact ih.typeOr' _ _ | exact ih.blk' _ _))
    · intro a o
      rw [sprimF, sprimF]
      repeat (first
        | exact Le.refl _
        | exact le_blockG (fun _ => ih.stmt' _ _) _
        | (refine Le.bind (Le.refl _) ?_; intro _ _)
        | (refine Le.ite ?_ ?_)
        | exact le_binG (fun _ _ => ih.bin' _ _ _) _ _ _ _
        | exact le_postG (fun _ => ih.expr' _ _) _ _ _
        | (refine Le.bind (le_listE (fun _ => by first | exact ih.expr' _ _ | exact ih.prop' _ _) _) ?_; intro _ _)
        | (refine Le.bind (le_paramsG (fun _ => by first | exact ih.typeOr' _ _ | exact ih.typing' _ _) _) ?_; intro _ _)
        | (refine Le.bind (le_unionG (fun _ => ih.ptype' _ _) _ _ _) ?_; intro _ _)
        | (refine Le.bind (le_fieldsG (fun _ => ih.typing' _ _) _ _ _ _) ?_; intro _ _)
        | (refine Le.bind (by first | exact ih.expr' _ _ | exact ih.arrow' _ _) ?_; intro _ _)
        | (first | exact ih.expr' _ _ | exact ih.arrow' _ _))
    · intro a o
      rw [propF, propF]
      repeat (first
        | exact Le.refl _
        | exact le_blockG (fun _ => ih.stmt' _ _) _
        | (refine Le.bind (Le.refl _) ?_; intro _ _)
        | (refine Le.ite ?_ ?_)
        | exact le_binG (fun _ _ => ih.bin' _ _ _) _ _ _ _
        | exact le_postG (fun _ => ih.expr' _ _) _ _ _
        | (refine Le.bind (le_listE (fun _ => by first | exact ih.expr' _ _ | exact ih.prop' _ _) _) ?_; intro _ _)
        | (refine Le.bind (le_paramsG (fun _ => by first | exact ih.typeOr' _ _ | exact ih.typing' _ _) _) ?_; intro _ _)
        | (refine Le.bind (le_unionG (fun _ => ih.ptype' _ _) _ _ _) ?_; intro _ _)
        | (refine Le.bind (le_fieldsG (fun _ => ih.typing' _ _) _ _ _ _) ?_; intro _ _)
        | (refine Le.bind (by first | exact ih.expr' _ _) ?_; intro _ _)
        | (first | exact ih.expr' _ _))
    · intro a o
      rw [arrowF, arrowF]
      repeat (first
        | exact Le.refl _
        | exact le_blockG (fun _ => ih.stmt' _ _) _
        | (refine Le.bind (Le.refl _) ?_; intro _ _)
        | (refine Le.ite ?_ ?_)
        | exact le_binG (fun _ _ => ih.bin' _ _ _) _ _ _ _
        | exact le_postG (fun _ => ih.expr' _ _) _ _ _
        | (refine Le.bind (le_listE (fun _ => by first | exact ih.expr' _ _ | exact ih.prop' _ _) _) ?_; intro _ _)
        | (refine Le.bind (le_paramsG (fun _ => by first | exact ih.typeOr' _ _ | exact ih.typing' _ _) _) ?_; intro _ _)
        | (refine Le.bind (le_unionG (fun _ => ih.ptype' _ _) _ _ _) ?_; intro _ _)
        | (refine Le.bind (le_fieldsG (fun _ => ih.typing' _ _) _ _ _ _) ?_; intro _ _)
        | (refine Le.bind (by first | exact ih.abody' _ _) ?_; intro _ _)
        | (first | exact ih.abody' _ _))
    · intro a o
      rw [abodyF, abodyF]
      repeat (first
        | exact Le.refl _
        | exact le_blockG (fun _ => ih.stmt' _ _) _
        | (refine Le.bind (Le.refl _) ?_; intro _ _)
        | (refine Le.ite ?_ ?_)
        | exact le_binG (fun _ _ => ih.bin' _ _ _) _ _ _ _
        | exact le_postG (fun _ => ih.expr' _ _) _ _ _
        | (refine Le.bind (le_listE (fun _ => by first | exact ih.expr' _ _ | exact ih.prop' _ _) _) ?_; intro _ _)
        | (refine Le.bind (le_paramsG (fun _ => by first | exact ih.typeOr' _ _ | exact ih.typing' _ _) _) ?_; intro _ _)
        | (refine Le.bind (le_unionG (fun _ => ih.ptype' _ _) _ _ _) ?_; intro _ _)
        | (refine Le.bind (le_fieldsG (fun _ => ih.typing' _ _) _ _ _ _) ?_; intro _ _)
        | (refine Le.bind (by first | exact ih.expr' _ _ | exact ih.blk' _ _) ?_; intro _ _)
        | (first | exact ih.expr' _ _ | exact ih.blk' _ _))
    · intro a o
      rw [typeOrF, typeOrF]
      repeat (first
        | exact Le.refl _
        | exact le_blockG (fun _ => ih.stmt' _ _) _
        | (refine Le.bind (Le.refl _) ?_; intro _ _)
        | (refine Le.ite ?_ ?_)
        | exact le_binG (fun _ _ => ih.bin' _ _ _) _ _ _ _
        | exact le_postG (fun _ => ih.expr' _ _) _ _ _
        | (refine Le.bind (le_listE (fun _ => by first | exact ih.expr' _ _ | exact ih.prop' _ _) _) ?_; intro _ _)
        | (refine Le.bind (le_paramsG (fun _ => by first | exact ih.typeOr' _ _ | exact ih.typing' _ _) _) ?_; intro _ _)
        | (refine Le.bind (le_unionG (fun _ => ih.ptype' _ _) _ _ _) ?_; intro _ _)
        | (refine Le.bind (le_fieldsG (fun _ => ih.typing' _ _) _ _ _ _) ?_; intro _ _)
        | (refine Le.bind (by first | exact ih.typing' _ _) ?_; intro _ _)
        | (first | exact ih.typing' _ _))
    · intro a o
      rw [typingF, typingF]
      repeat (first
        | exact Le.refl _
        | exact le_blockG (fun _ => ih.stmt' _ _) _
        | (refine Le.bind (Le.refl _) ?_; intro _ _)
        | (refine Le.ite ?_ ?_)
        | exact le_binG (fun _ _ => ih.bin' _ _ _) _ _ _ _
        | exact le_postG (fun _ => ih.expr' _ _) _ _ _
        | (refine Le.bind (le_listE (fun _ => by first | exact ih.expr' _ _ | exact ih.prop' _ _) _) ?_; intro _ _)
        | (refine Le.bind (le_paramsG (fun _ => by first | exact ih.typeOr' _ _ | exact ih.typing' _ _) _) ?_; intro _ _)
        | (refine Le.bind (le_unionG (fun _ => ih.ptype' _ _) _ _ _) ?_; intro _ _)
        | (refine Le.bind (le_fieldsG (fun _ => ih.typing' _ _) _ _ _ _) ?_; intro _ _)
        | (refine Le.bind (by first | exact ih.type' _ _) ?_; intro _ _)
        | (first | exact ih.type' _ _))
    · intro a o
      rw [typeF, typeF]
      repeat (first
        | exact Le.refl _
        | exact le_blockG (fun _ => ih.stmt' _ _) _
        | (refine Le.bind (Le.refl _) ?_; intro _ _)
        | (refine Le.ite ?_ ?_)
        | exact le_binG (fun _ _ => ih.bin' _ _ _) _ _ _ _
        | exact le_postG (fun _ => ih.expr' _ _) _ _ _
        | (refine Le.bind (le_listE (fun _ => by first | exact ih.expr' _ _ | exact ih.prop' _ _) _) ?_; intro _ _)
        | (refine Le.bind (le_paramsG (fun _ => by first | exact ih.typeOr' _ _ | exact ih.typing' _ _) _) ?_; intro _ _)
        | (refine Le.bind (le_unionG (fun _ => ih.ptype' _ _) _ _ _) ?_; intro _ _)
        | (refine Le.bind (le_fieldsG (fun _ => ih.typing' _ _) _ _ _ _) ?_; intro _ _)
        | (refine Le.bind (by first | fail) ?_; intro _ _)
        | (first | fail))
    · intro a o
      rw [ptypeF, ptypeF]
      repeat (first
        | exact Le.refl _
        | exact le_blockG (fun _ => ih.stmt' _ _) _
        | (refine Le.bind (Le.refl _) ?_; intro _ _)
        | (refine Le.ite ?_ ?_)
        | exact le_binG (fun _ _ => ih.bin' _ _ _) _ _ _ _
        | exact le_postG (fun _ => ih.expr' _ _) _ _ _
        | (refine Le.bind (le_listE (fun _ => by first | exact ih.expr' _ _ | exact ih.prop' _ _) _) ?_; intro _ _)
        | (refine Le.bind (le_paramsG (fun _ => by first | exact ih.typeOr' _ _ | exact ih.typing' _ _) _) ?_; intro _ _)
        | (refine Le.bind (le_unionG (fun _ => ih.ptype' _ _) _ _ _) ?_; intro _ _)
        | (refine Le.bind (le_fieldsG (fun _ => ih.typing' _ _) _ _ _ _) ?_; intro _ _)
        | (refine Le.bind (by first | exact ih.rtype' _ _) ?_; intro _ _)
        | (first | exact ih.rtype' _ _))
    · intro a o
      rw [rtypeF, rtypeF]
      repeat (first
        | exact Le.refl _
        | exact le_blockG (fun _ => ih.stmt' _ _) _
        | (refine Le.bind (Le.refl _) ?_; intro _ _)
        | (refine Le.ite ?_ ?_)
        | exact le_binG (fun _ _ => ih.bin' _ _ _) _ _ _ _
        | exact le_postG (fun _ => ih.expr' _ _) _ _ _
        | (refine Le.bind (le_listE (fun _ => by first | exact ih.expr' _ _ | exact ih.prop' _ _) _) ?_; intro _ _)
        | (refine Le.bind (le_paramsG (fun _ => by first | exact ih.typeOr' _ _ | exact ih.typing' _ _) _) ?_; intro _ _)
        | (refine Le.bind (le_unionG (fun _ => ih.ptype' _ _) _ _ _) ?_; intro _ _)
        | (refine Le.bind (le_fieldsG (fun _ => ih.typing' _ _) _ _ _ _) ?_; intro _ _)
        | (refine Le.bind (by first | exact ih.type' _ _ | exact ih.objt' _ _ | exact ih.ftype' _ _) ?_; intro _ _)
        | (first | exact ih.type' _ _ | exact ih.objt' _ _ | exact ih.ftype' _ _))
    · intro a o
      rw [objtF, objtF]
      repeat (first
        | exact Le.refl _
        | exact le_blockG (fun _ => ih.stmt' _ _) _
        | (refine Le.bind (Le.refl _) ?_; intro _ _)
        | (refine Le.ite ?_ ?_)
        | exact le_binG (fun _ _ => ih.bin' _ _ _) _ _ _ _
        | exact le_postG (fun _ => ih.expr' _ _) _ _ _
        | (refine Le.bind (le_listE (fun _ => by first | exact ih.expr' _ _ | exact ih.prop' _ _) _) ?_; intro _ _)
        | (refine Le.bind (le_paramsG (fun _ => by first | exact ih.typeOr' _ _ | exact ih.typing' _ _) _) ?_; intro _ _)
        | (refine Le.bind (le_unionG (fun _ => ih.ptype' _ _) _ _ _) ?_; intro _ _)
        | (refine Le.bind (le_fieldsG (fun _ => ih.typing' _ _) _ _ _ _) ?_; intro _ _)
        | (refine Le.bind (by first | fail) ?_; intro _ _)
        | (first | fail))
    · intro a o
      rw [ftypeF, ftypeF]
      repeat (first
        | exact Le.refl _
        | exact le_blockG (fun _ => ih.stmt' _ _) _
        | (refine Le.bind (Le.refl _) ?_; intro _ _)
        | (refine Le.ite ?_ ?_)
        | exact le_binG (fun _ _ => ih.bin' _ _ _) _ _ _ _
        | exact le_postG (fun _ => ih.expr' _ _) _ _ _
        | (refine Le.bind (le_listE (fun _ => by first | exact ih.expr' _ _ | exact ih.prop' _ _) _) ?_; intro _ _)
        | (refine Le.bind (le_paramsG (fun _ => by first | exact ih.typeOr' _ _ | exact ih.typing' _ _) _) ?_; intro _ _)
        | (refine Le.bind (le_unionG (fun _ => ih.ptype' _ _) _ _ _) ?_; intro _ _)
        | (refine Le.bind (le_fieldsG (fun _ => ih.typing' _ _) _ _ _ _) ?_; intro _ _)
        | (refine Le.bind (by first | exact ih.type' _ _) ?_; intro _ _)
        | (first | exact ih.type' _ _))
    · intro a o
      rw [blkF, blkF]
      repeat (first
        | exact Le.refl _
        | exact le_blockG (fun _ => ih.stmt' _ _) _
        | (refine Le.bind (Le.refl _) ?_; intro _ _)
        | (refine Le.ite ?_ ?_)
        | exact le_binG (fun _ _ => ih.bin' _ _ _) _ _ _ _
        | exact le_postG (fun _ => ih.expr' _ _) _ _ _
        | (refine Le.bind (le_listE (fun _ => by first | exact ih.expr' _ _ | exact ih.prop' _ _) _) ?_; intro _ _)
        | (refine Le.bind (le_paramsG (fun _ => by first | exact ih.typeOr' _ _ | exact ih.typing' _ _) _) ?_; intro _ _)
        | (refine Le.bind (le_unionG (fun _ => ih.ptype' _ _) _ _ _) ?_; intro _ _)
        | (refine Le.bind (le_fieldsG (fun _ => ih.typing' _ _) _ _ _ _) ?_; intro _ _)
        | (refine Le.bind (by first | fail) ?_; intro _ _)
        | (first | fail))
    · intro a o
      rw [stmtF, stmtF]
      repeat (first
        | exact Le.refl _
        | exact le_blockG (fun _ => ih.stmt' _ _) _
        | (refine Le.bind (Le.refl _) ?_; intro _ _)
        | (refine Le.ite ?_ ?_)
        | exact le_binG (fun _ _ => ih.bin' _ _ _) _ _ _ _
        | exact le_postG (fun _ => ih.expr' _ _) _ _ _
        | (refine Le.bind (le_listE (fun _ => by first | exact ih.expr' _ _ | exact ih.prop' _ _) _) ?_; intro _ _)
        | (refine Le.bind (le_paramsG (fun _ => by first | exact ih.typeOr' _ _ | exact ih.typing' _ _) _) ?_; intro _ _)
        | (refine Le.bind (le_unionG (fun _ => ih.ptype' _ _) _ _ _) ?_; intro _ _)
        | (refine Le.bind (le_fieldsG (fun _ => ih.typing' _ _) _ _ _ _) ?_; intro _ _)
        | (refine Le.bind (by first | exact ih.any' _ _) ?_; intro _ _)
        | (first | exact ih.any' _ _))
    · intro q a o
      rw [letF, letF]
      repeat (first
        | exact Le.refl _
        | exact le_blockG (fun _ => ih.stmt' _ _) _
        | (refine Le.bind (Le.refl _) ?_; intro _ _)
        | (refine Le.ite ?_ ?_)
        | exact le_binG (fun _ _ => ih.bin' _ _ _) _ _ _ _
        | exact le_postG (fun _ => ih.expr' _ _) _ _ _
        | (refine Le.bind (le_listE (fun _ => by first | exact ih.expr' _ _ | exact ih.prop' _ _) _) ?_; intro _ _)
        | (refine Le.bind (le_paramsG (fun _ => by first | exact ih.typeOr' _ _ | exact ih.typing' _ _) _) ?_; intro _ _)
        | (refine Le.bind (le_unionG (fun _ => ih.ptype' _ _) _ _ _) ?_; intro _ _)
        | (refine Le.bind (le_fieldsG (fun _ => ih.typing' _ _) _ _ _ _) ?_; intro _ _)
        | (refine Le.bind (by first | exact ih.expr' _ _ | exact ih.typeOr' _ _) ?_; intro _ _)
        | (first | exact ih.expr' _ _ | exact ih.typeOr' _ _))
    · intro a o
      rw [condiF, condiF]
      repeat (first
        | exact Le.refl _
        | exact le_blockG (fun _ => ih.stmt' _ _) _
        | (refine Le.bind (Le.refl _) ?_; intro _ _)
        | (refine Le.ite ?_ ?_)
        | exact le_binG (fun _ _ => ih.bin' _ _ _) _ _ _ _
        | exact le_postG (fun _ => ih.expr' _ _) _ _ _
        | (refine Le.bind (le_listE (fun _ => by first | exact ih.expr' _ _ | exact ih.prop' _ _) _) ?_; intro _ _)
        | (refine Le.bind (le_paramsG (fun _ => by first | exact ih.typeOr' _ _ | exact ih.typing' _ _) _) ?_; intro _ _)
        | (refine Le.bind (le_unionG (fun _ => ih.ptype' _ _) _ _ _) ?_; intro _ _)
        | (refine Le.bind (le_fieldsG (fun _ => ih.typing' _ _) _ _ _ _) ?_; intro _ _)
        | (refine Le.bind (by first | exact ih.expr' _ _) ?_; intro _ _)
        | (first | exact ih.expr' _ _))
    · intro a o
      rw [elseF, elseF]
      repeat (first
        | exact Le.refl _
        | exact le_blockG (fun _ => ih.stmt' _ _) _
        | (refine Le.bind (Le.refl _) ?_; intro _ _)
        | (refine Le.ite ?_ ?_)
        | exact le_binG (fun _ _ => ih.bin' _ _ _) _ _ _ _
        | exact le_postG (fun _ => ih.expr' _ _) _ _ _
        | (refine Le.bind (le_listE (fun _ => by first | exact ih.expr' _ _ | exact ih.prop' _ _) _) ?_; intro _ _)
        | (refine Le.bind (le_paramsG (fun _ => by first | exact ih.typeOr' _ _ | exact ih.typing' _ _) _) ?_; intro _ _)
        | (refine Le.bind (le_unionG (fun _ => ih.ptype' _ _) _ _ _) ?_; intro _ _)
        | (refine Le.bind (le_fieldsG (fun _ => ih.typing' _ _) _ _ _ _) ?_; intro _ _)
        | (refine Le.bind (by first | exact ih.blk' _ _ | exact ih.stmt' _ _) ?_; intro _ _)
        | (first | exact ih.blk' _ _ | exact ih.stmt' _ _))
    · intro a o
      rw [exprOrF, exprOrF]
      repeat (first
        | exact Le.refl _
        | exact le_blockG (fun _ => ih.stmt' _ _) _
        | (refine Le.bind (Le.refl _) ?_; intro _ _)
        | (refine Le.ite ?_ ?_)
        | exact le_binG (fun _ _ => ih.bin' _ _ _) _ _ _ _
        | exact le_postG (fun _ => ih.expr' _ _) _ _ _
        | (refine Le.bind (le_listE (fun _ => by first | exact ih.expr' _ _ | exact ih.prop' _ _) _) ?_; intro _ _)
        | (refine Le.bind (le_paramsG (fun _ => by first | exact ih.typeOr' _ _ | exact ih.typing' _ _) _) ?_; intro _ _)
        | (refine Le.bind (le_unionG (fun _ => ih.ptype' _ _) _ _ _) ?_; intro _ _)
        | (refine Le.bind (le_fieldsG (fun _ => ih.typing' _ _) _ _ _ _) ?_; intro _ _)
        | (refine Le.bind (by first | exact ih.expr' _ _) ?_; intro _ _)
        | (first | exact ih.expr' _ _))
    · intro a o
      rw [anyF, anyF]
      repeat (first
        | exact Le.refl _
        | exact le_blockG (fun _ => ih.stmt' _ _) _
        | (refine Le.bind (Le.refl _) ?_; intro _ _)
        | (refine Le.ite ?_ ?_)
        | exact le_binG (fun _ _ => ih.bin' _ _ _) _ _ _ _
        | exact le_postG (fun _ => ih.expr' _ _) _ _ _
        | (refine Le.bind (le_listE (fun _ => by first | exact ih.expr' _ _ | exact ih.prop' _ _) _) ?_; intro _ _)
        | (refine Le.bind (le_paramsG (fun _ => by first | exact ih.typeOr' _ _ | exact ih.typing' _ _) _) ?_; intro _ _)
        | (refine Le.bind (le_unionG (fun _ => ih.ptype' _ _) _ _ _) ?_; intro _ _)
        | (refine Le.bind (le_fieldsG (fun _ => ih.typing' _ _) _ _ _ _) ?_; intro _ _)
        | (refine Le.bind (by first | exact ih.expr' _ _ | exact ih.typeOr' _ _ | exact ih.blk' _ _ | exact ih.let' _ _ _ | exact ih.condi' _ _ | exact ih.els' _ _ | exact ih.exprOr' _ _) ?_; intro _ _)
        | (first | exact ih.expr' _ _ | exact ih.typeOr' _ _ | exact ih.blk' _ _ | exact ih.let' _ _ _ | exact ih.condi' _ _ | exact ih.els' _ _ | exact ih.exprOr' _ _))
/-- an answer for which the fuel was enough is that for more fuel. -/
theorem expr_more {L : List Tok} {f g a o : Nat} {r : Rs Nd} (h : exprF L f a o = r) (hr : ∀ p, r ≠ .bad p 0) (hg : f ≤ g) : exprF L g a o = r := by
  induction g with
  | zero => obtain rfl : f = 0 := by omega
            exact h
  | succ g ih =>
    by_cases e : f = g + 1
    · rw [← e]; exact h
    · have h1 := ih (by omega)
      rcases (more_all L g).expr' a o with ⟨p, h2⟩ | h2
      · exact absurd (h1.symm.trans h2) (hr p)
      · rw [← h2]; exact h1
theorem type_more {L : List Tok} {f g a o : Nat} {r : Rs Nd} (h : typeF L f a o = r) (hr : ∀ p, r ≠ .bad p 0) (hg : f ≤ g) : typeF L g a o = r := by
  induction g with
  | zero => obtain rfl : f = 0 := by omega
            exact h
  | succ g ih =>
    by_cases e : f = g + 1
    · rw [← e]; exact h
    · have h1 := ih (by omega)
      rcases (more_all L g).type' a o with ⟨p, h2⟩ | h2
      · exact absurd (h1.symm.trans h2) (hr p)
      · rw [← h2]; exact h1
theorem stmt_more {L : List Tok} {f g a o : Nat} {r : Rs Nd} (h : stmtF L f a o = r) (hr : ∀ p, r ≠ .bad p 0) (hg : f ≤ g) : stmtF L g a o = r := by
  induction g with
  | zero => obtain rfl : f = 0 := by omega
            exact h
  | succ g ih =>
    by_cases e : f = g + 1
    · rw [← e]; exact h
    · have h1 := ih (by omega)
      rcases (more_all L g).stmt' a o with ⟨p, h2⟩ | h2
      · exact absurd (h1.symm.trans h2) (hr p)
      · rw [← h2]; exact h1
end Go.Proofs.YtmfgcaffdkakhaaGreat
namespace Go.Proofs.YtmfgcaffdkakhaaGreat
open Go.RowKit
set_option linter.unusedVariables false
set_option linter.unusedSimpArgs false

/-- of whatever is read this holds. -/
def Zg {α : Type} (P : α → Nat → Prop) (r : Rs α) : Prop := ∀ x b, r = .ok x b → P x b
theorem Zg.bad {α : Type} {P : α → Nat → Prop} {p : Nat} {e : Int} : Zg P (.bad p e : Rs α) := fun x b h => by cases h
theorem Zg.ok {α : Type} {P : α → Nat → Prop} {v : α} {b : Nat} (h : P v b) : Zg P (.ok v b) := fun x c e => by cases e; exact h
theorem Zg.bind {α β : Type} {P : α → Nat → Prop} {Q : β → Nat → Prop} {r : Rs α} {f : α → Nat → Rs β} (hr : Zg P r) (hf : ∀ u a1, P u a1 → Zg Q (f u a1)) : Zg Q (r.bind f) := by
  cases r with
  | ok u a1 => exact hf u a1 (hr u a1 rfl)
  | bad p e => exact Zg.bad
theorem Zg.weak {α : Type} {P Q : α → Nat → Prop} {r : Rs α} (h : Zg P r) (hq : ∀ x b, P x b → Q x b) : Zg Q r := fun x b e => hq x b (h x b e)
theorem Zg.ite {α : Type} {P : α → Nat → Prop} {p : Prop} [Decidable p] {x y : Rs α} (hx : p → Zg P x) (hy : ¬ p → Zg P y) : Zg P (if p then x else y) := by
  split
  · rename_i h; exact hx h
  · rename_i h; exact hy h
theorem sizes_app' : ∀ (x y : List Nd), sizes (x ++ y) = sizes x + sizes y
  | [], y => by simp [sizes]
  | a :: x, y => by simp only [List.cons_append, sizes, sizes_app' x y]; omega
variable {L : List Tok}
theorem want_sz {a : Nat} {s : ByteArray} : Zg (fun _ b => b = a + 1) (wantR L s a) := Zg.ite (fun _ => Zg.ok rfl) (fun _ => Zg.bad)
theorem id_sz {a : Nat} : Zg (fun _ b => b = a + 1) (idR L a) := Zg.ite (fun _ => Zg.ok rfl) (fun _ => Zg.bad)
theorem prop_sz {a : Nat} : Zg (fun _ b => b = a + 1) (propR' L a) := Zg.ite (fun _ => Zg.ok rfl) (fun _ => Zg.bad)
theorem add_sz {a : Nat} {ns : List (List UInt8)} : Zg (fun _ b => b = a) (addR L ns a) := Zg.ite (fun _ => Zg.bad) (fun _ => Zg.ok rfl)
theorem begin_sz {a o : Nat} : Zg (fun _ b => b = a) (beginR L a o) := Zg.ite (fun _ => Zg.bad) (fun _ => Zg.ite (fun _ => Zg.bad) (fun _ => Zg.ok rfl))
theorem listG_sz {σ : Type} {s : ByteArray} {F : σ → Nat → Rs (Nd × σ)} (hF : ∀ st a, Zg (fun x b => x.1.size + 2 * a ≤ 2 * b) (F st a)) : ∀ (n : Nat) (acc : List Nd) (st : σ) (a : Nat), Zg (fun l b => sizes l + 2 * a + 2 ≤ sizes acc + 2 * b) (listG L s F n acc st a)
  | 0, _, _, _ => Zg.bad
  | n + 1, acc, st, a => by
    rw [listG]
    refine Zg.ite (fun _ => Zg.ok (by omega)) (fun _ => ?_)
    cases e : F st a with
    | bad p er => exact Zg.bad
    | ok x a1 =>
      have h1 := hF st a x a1 e
      dsimp only at h1 ⊢
      have e2 : sizes (acc ++ [x.1]) = sizes acc + x.1.size := by rw [sizes_app']; simp [sizes]
      refine Zg.ite (fun _ => (listG_sz hF n _ _ _).weak (fun l b h => ?_)) (fun _ => Zg.ite (fun _ => (listG_sz hF n _ _ _).weak (fun l b h => ?_)) (fun _ => Zg.bad))
      · (try dsimp only at h); omega
      · (try dsimp only at h); omega
theorem listE_sz {s : ByteArray} {E : Nat → Rs Nd} (hE : ∀ a, Zg (fun x b => x.size + 2 * a ≤ 2 * b) (E a)) {a : Nat} : Zg (fun l b => sizes l + 2 * a + 2 ≤ 2 * b) (listE L E s a) := by
  unfold listE
  refine (listG_sz (fun st a => (hE a).bind (fun x c h => Zg.ok h)) _ _ _ _).weak (fun l b h => ?_)
  simp only [sizes] at h
  omega
theorem stmtsG_sz {F : Nat → Rs Nd} (hF : ∀ a, Zg (fun x b => x.size + 2 * a ≤ 2 * b) (F a)) : ∀ (n : Nat) (acc : List Nd) (a : Nat), Zg (fun l b => sizes l + 2 * a + 2 ≤ sizes acc + 2 * b) (stmtsG L F n acc a)
  | 0, _, _ => Zg.bad
  | n + 1, acc, a => by
    rw [stmtsG]
    refine Zg.ite (fun _ => Zg.ok (by omega)) (fun _ => ?_)
    cases e : F a with
    | bad p er => exact Zg.bad
    | ok x a1 =>
      have h1 := hF a x a1 e
      dsimp only at h1 ⊢
      have e2 : sizes (acc ++ [x]) = sizes acc + x.size := by rw [sizes_app']; simp [sizes]
      exact (stmtsG_sz hF n _ _).weak (fun l b h => by (try dsimp only at h); omega)
theorem blockG_sz {F : Nat → Rs Nd} (hF : ∀ a, Zg (fun x b => x.size + 2 * a ≤ 2 * b) (F a)) {a : Nat} : Zg (fun x b => x.size + 3 + 2 * a ≤ 2 * b) (blockG L F a) :=
  want_sz.bind fun _ _ h1 => (stmtsG_sz hF _ _ _).bind fun l b h2 => Zg.ok (by simp only [mk0, Nd.size, sizes] at *; omega)
theorem paramsG_sz {G : Nat → Rs Nd} (hG : ∀ a, Zg (fun x b => x.size + 2 * a ≤ 2 * b + 1) (G a)) {a : Nat} : Zg (fun x b => x.size + 3 + 2 * a ≤ 2 * b) (paramsG L G a) :=
  want_sz.bind fun _ _ h1 => (listG_sz (F := parG L G) (fun ns b => add_sz.bind fun _ _ h3 => id_sz.bind fun _ _ h4 => (hG _).bind fun y c h5 => Zg.ok (by simp only [mk0, Nd.size, sizes] at *; omega)) _ _ _ _).bind fun l b h2 => Zg.ok (by simp only [mk0, Nd.size, sizes] at *; omega)
theorem binG_sz {B : Nat → Nat → Rs Nd} (hB : ∀ m a, Zg (fun x b => x.size + 2 * a ≤ 2 * b) (B m a)) (m a0 : Nat) : ∀ (n : Nat) (nd : Nd) (a : Nat), nd.size + 2 * a0 ≤ 2 * a → Zg (fun x b => x.size + 2 * a0 ≤ 2 * b) (binG L B m n nd a)
  | 0, _, _, _ => Zg.bad
  | n + 1, nd, a, h => by
    rw [binG]
    exact Zg.ite (fun _ => Zg.ok h) (fun _ => (hB _ _).bind fun r a2 h2 => binG_sz hB m a0 n _ _ (by simp only [mk0, Nd.size, sizes]; omega))
theorem postG_sz {E : Nat → Rs Nd} (hE : ∀ a, Zg (fun x b => x.size + 2 * a ≤ 2 * b) (E a)) (a0 : Nat) : ∀ (n : Nat) (nd : Nd) (a : Nat), nd.size + 2 * a0 ≤ 2 * a → Zg (fun x b => x.size + 2 * a0 ≤ 2 * b) (postG L E n nd a)
  | 0, _, _, _ => Zg.bad
  | n + 1, nd, a, h => by
    rw [postG]
    exact Zg.ite (fun _ => prop_sz.bind fun _ _ h2 => postG_sz hE a0 n _ _ (by simp only [mk0, Nd.size, sizes]; omega)) (fun _ => Zg.ite (fun _ => (hE _).bind fun _ _ h2 => want_sz.bind fun _ _ h3 => postG_sz hE a0 n _ _ (by simp only [mk0, Nd.size, sizes]; omega)) (fun _ => Zg.ite (fun _ => (listE_sz hE).bind fun _ _ h2 => postG_sz hE a0 n _ _ (by simp only [mk0, Nd.size, sizes]; omega)) (fun _ => Zg.ok h)))
theorem part_sz (x : Nd) : sizes (if x.k = 32 then x.ks else [x]) ≤ x.size ∧ (oneOr (if x.k = 32 then x.ks else [x])).size ≤ x.size := by
  have hs : x.size = 1 + sizes x.ks := by
    cases x
    rfl
  split
  · refine ⟨by omega, ?_⟩
    unfold oneOr
    split
    · rename_i y e
      rw [hs, e]
      simp only [sizes]
      omega
    · simp only [mk0, Nd.size]
      omega
  · exact ⟨by simp [sizes], Nat.le_refl _⟩
theorem oneOr_sz (l : List Nd) : (oneOr l).size ≤ 1 + sizes l := by
  unfold oneOr
  split
  · simp only [sizes]; omega
  · simp only [mk0, Nd.size]; omega
theorem unionG_sz {E : Nat → Rs Nd} (hE : ∀ a, Zg (fun x b => x.size + 2 * a ≤ 2 * b) (E a)) : ∀ (n : Nat) (acc : List Nd) (a : Nat), Zg (fun l b => sizes l + 2 * a ≤ sizes acc + 2 * b) (unionG L E n acc a)
  | 0, _, _ => Zg.bad
  | n + 1, acc, a => by
    rw [unionG]
    refine (hE a).bind fun x a1 h1 => ?_
    try dsimp only at h1
    have e2 : sizes (acc ++ (if x.k = 32 then x.ks else [x])) ≤ sizes acc + x.size := by rw [sizes_app']; have := (part_sz x).1; omega
    exact Zg.ite (fun _ => (unionG_sz hE n _ _).weak (fun l b h => by (try dsimp only at h); omega)) (fun _ => Zg.ok (by omega))
theorem union_sz {E : Nat → Rs Nd} (hE : ∀ a, Zg (fun x b => x.size + 2 * a ≤ 2 * b) (E a)) (n a : Nat) : Zg (fun l b => (oneOr l).size + 2 * a ≤ 2 * b) (unionG L E n [] a) := by
  cases n with
  | zero => exact Zg.bad
  | succ n =>
    rw [unionG]
    refine (hE a).bind fun x a1 h1 => ?_
    try dsimp only at h1
    have h3 := part_sz x
    rw [List.nil_append]
    exact Zg.ite (fun _ => (unionG_sz hE n _ _).weak (fun l b h => by (try dsimp only at h); have := oneOr_sz l; omega)) (fun _ => Zg.ok (by omega))
theorem arrayG_sz (a0 : Nat) : ∀ (n : Nat) (nd : Nd) (a : Nat), nd.size + 2 * a0 ≤ 2 * a → Zg (fun x b => x.size + 2 * a0 ≤ 2 * b) (arrayG L n nd a)
  | 0, _, _, _ => Zg.bad
  | n + 1, nd, a, h => by
    rw [arrayG]
    exact Zg.ite (fun _ => want_sz.bind fun _ _ h2 => arrayG_sz a0 n _ _ (by simp only [mk0, Nd.size, sizes]; omega)) (fun _ => Zg.ok h)
theorem fieldsG_sz {T : Nat → Rs Nd} (hT : ∀ a, Zg (fun x b => x.size + 2 * a ≤ 2 * b + 1) (T a)) : ∀ (n : Nat) (acc : List Nd) (ns : List (List UInt8)) (a : Nat), Zg (fun l b => sizes l + 2 * a + 2 ≤ sizes acc + 2 * b) (fieldsG L T n acc ns a)
  | 0, _, _, _ => Zg.bad
  | n + 1, acc, ns, a => by
    rw [fieldsG]
    refine Zg.ite (fun _ => Zg.ok (by omega)) (fun _ => add_sz.bind fun _ _ h0 => prop_sz.bind fun _ _ h1 => (hT _).bind fun y _ h2 => want_sz.bind fun _ _ h3 => (fieldsG_sz hT n _ _ _).weak (fun l b h => ?_))
    rw [sizes_app'] at h
    simp only [mk0, Nd.size, sizes] at h h2
    omega
structure SzA (L : List Tok) (f : Nat) : Prop where
  expr' : ∀ (a : Nat) (o : Nat), Zg (fun x b => x.size + 2 * a ≤ 2 * b) (exprF L f a o)
  assign' : ∀ (nd : Nd) (a : Nat) (o : Nat), ∀ a0, nd.size + 2 * a0 ≤ 2 * a → Zg (fun x b => x.size + 2 * a0 ≤ 2 * b) (assignF L f nd a o)
  cond' : ∀ (a : Nat) (o : Nat), Zg (fun x b => x.size + 2 * a ≤ 2 * b) (condF L f a o)
  bin' : ∀ (m : Nat) (a : Nat) (o : Nat), Zg (fun x b => x.size + 2 * a ≤ 2 * b) (binF L f m a o)
  unary' : ∀ (a : Nat) (o : Nat), Zg (fun x b => x.size + 2 * a ≤ 2 * b) (unaryF L f a o)
  post' : ∀ (a : Nat) (o : Nat), Zg (fun x b => x.size + 2 * a ≤ 2 * b) (postF L f a o)
  prim' : ∀ (a : Nat) (o : Nat), Zg (fun x b => x.size + 2 * a ≤ 2 * b) (primF L f a o)
  wprim' : ∀ (a : Nat) (o : Nat), Zg (fun x b => x.size + 2 * a ≤ 2 * b) (wprimF L f a o)
  sprim' : ∀ (a : Nat) (o : Nat), Zg (fun x b => x.size + 2 * a ≤ 2 * b) (sprimF L f a o)
  prop' : ∀ (a : Nat) (o : Nat), Zg (fun x b => x.size + 2 * a ≤ 2 * b) (propF L f a o)
  arrow' : ∀ (a : Nat) (o : Nat), Zg (fun x b => x.size + 2 * a ≤ 2 * b) (arrowF L f a o)
  abody' : ∀ (a : Nat) (o : Nat), Zg (fun x b => x.size + 2 * a ≤ 2 * b + 2) (abodyF L f a o)
  typeOr' : ∀ (a : Nat) (o : Nat), Zg (fun x b => x.size + 2 * a ≤ 2 * b + 1) (typeOrF L f a o)
  typing' : ∀ (a : Nat) (o : Nat), Zg (fun x b => x.size + 2 * a ≤ 2 * b + 1) (typingF L f a o)
  type' : ∀ (a : Nat) (o : Nat), Zg (fun x b => x.size + 2 * a ≤ 2 * b) (typeF L f a o)
  ptype' : ∀ (a : Nat) (o : Nat), Zg (fun x b => x.size + 2 * a ≤ 2 * b) (ptypeF L f a o)
  rtype' : ∀ (a : Nat) (o : Nat), Zg (fun x b => x.size + 2 * a ≤ 2 * b) (rtypeF L f a o)
  objt' : ∀ (a : Nat) (o : Nat), Zg (fun x b => x.size + 2 * a + 1 ≤ 2 * b) (objtF L f a o)
  ftype' : ∀ (a : Nat) (o : Nat), Zg (fun x b => x.size + 2 * a ≤ 2 * b) (ftypeF L f a o)
  blk' : ∀ (a : Nat) (o : Nat), Zg (fun x b => x.size + 3 + 2 * a ≤ 2 * b) (blkF L f a o)
  stmt' : ∀ (a : Nat) (o : Nat), Zg (fun x b => x.size + 2 * a ≤ 2 * b) (stmtF L f a o)
  let' : ∀ (q : Int) (a : Nat) (o : Nat), Zg (fun x b => x.size + 2 * a ≤ 2 * b) (letF L f q a o)
  condi' : ∀ (a : Nat) (o : Nat), Zg (fun x b => x.size + 2 * a ≤ 2 * b) (condiF L f a o)
  els' : ∀ (a : Nat) (o : Nat), Zg (fun x b => x.size + 2 * a ≤ 2 * b + 1) (elseF L f a o)
  exprOr' : ∀ (a : Nat) (o : Nat), Zg (fun x b => x.size + 2 * a ≤ 2 * b + 1) (exprOrF L f a o)
  any' : ∀ (a : Nat) (o : Nat), Zg (fun x b => x.size + 2 * a ≤ 2 * b) (anyF L f a o)
set_option maxHeartbeats 8000000 in
theorem sz_all (L : List Tok) : ∀ f, SzA L f := by
  intro f
  induction f with
  | zero => constructor <;> (intros; simp [exprF, assignF, condF, binF, unaryF, postF, primF, wprimF, sprimF, propF, arrowF, abodyF, typeOrF, typingF, typeF, ptypeF, rtypeF, objtF, ftypeF, blkF, stmtF, letF, condiF, elseF, exprOrF, anyF]; exact Zg.bad)
  | succ f ih =>
    constructor
    all_goals
      intros
      first | rw [exprF] | rw [assignF] | rw [condF] | rw [binF] | rw [unaryF] | rw [postF] | rw [primF] | rw [wprimF] | rw [sprimF] | rw [propF] | rw [arrowF] | rw [abodyF] | rw [typeOrF] | rw [typingF] | rw [typeF] | rw [ptypeF] | rw [rtypeF] | rw [objtF] | rw [ftypeF] | rw [blkF] | rw [stmtF] | rw [letF] | rw [condiF] | rw [elseF] | rw [exprOrF] | rw [anyF]
      repeat (first
        | exact Zg.bad
        | exact Zg.ok (by omega)
        | exact Zg.ok (by simp only [mk0, noneN, Nd.size, sizes]; omega)
        | exact blockG_sz (fun _ => ih.stmt' _ _)
        | exact binG_sz (fun _ _ => ih.bin' _ _ _) _ _ _ _ _ (by omega)
        | exact postG_sz (fun _ => ih.expr' _ _) _ _ _ _ (by omega)
        | exact arrayG_sz _ _ _ _ (by omega)
        | (refine Zg.ite (fun _ => ?_) (fun _ => ?_))
        | (refine Zg.bind begin_sz ?_; intro _ _ hh; (try dsimp only at hh))
        | (refine Zg.bind want_sz ?_; intro _ _ hh; (try dsimp only at hh))
        | (refine Zg.bind id_sz ?_; intro _ _ hh; (try dsimp only at hh))
        | (refine Zg.bind prop_sz ?_; intro _ _ hh; (try dsimp only at hh))
        | (refine Zg.bind (listE_sz (fun _ => by first | exact ih.expr' _ _ | exact ih.prop' _ _)) ?_; intro _ _ hh; (try dsimp only at hh))
        | (refine Zg.bind (paramsG_sz (fun _ => by first | exact ih.typeOr' _ _ | exact ih.typing' _ _)) ?_; intro _ _ hh; (try dsimp only at hh))
        | (refine Zg.bind (union_sz (fun _ => ih.ptype' _ _) _ _) ?_; intro _ _ hh; (try dsimp only at hh))
        | (refine Zg.bind (fieldsG_sz (fun _ => ih.typing' _ _) _ _ _ _) ?_; intro _ _ hh; simp only [sizes] at hh)
        | (refine Zg.bind (by first | exact ih.expr' _ _ | exact ih.assign' _ _ _ _ (by omega) | exact ih.cond' _ _ | exact ih.bin' _ _ _ | exact ih.unary' _ _ | exact ih.post' _ _ | exact ih.prim' _ _ | exact ih.wprim' _ _ | exact ih.sprim' _ _ | exact ih.prop' _ _ | exact ih.arrow' _ _ | exact ih.abody' _ _ | exact ih.typeOr' _ _ | exact ih.typing' _ _ | exact ih.type' _ _ | exact ih.ptype' _ _ | exact ih.rtype' _ _ | exact ih.objt' _ _ | exact ih.ftype' _ _ | exact ih.blk' _ _ | exact ih.stmt' _ _ | exact ih.let' _ _ _ | exact ih.condi' _ _ | exact ih.els' _ _ | exact ih.exprOr' _ _ | exact ih.any' _ _) ?_; intro _ _ hh; (try dsimp only at hh))
        | (first | exact ih.expr' _ _ | exact ih.assign' _ _ _ _ (by omega) | exact ih.cond' _ _ | exact ih.bin' _ _ _ | exact ih.unary' _ _ | exact ih.post' _ _ | exact ih.prim' _ _ | exact ih.wprim' _ _ | exact ih.sprim' _ _ | exact ih.prop' _ _ | exact ih.arrow' _ _ | exact ih.abody' _ _ | exact ih.typeOr' _ _ | exact ih.typing' _ _ | exact ih.type' _ _ | exact ih.ptype' _ _ | exact ih.rtype' _ _ | exact ih.objt' _ _ | exact ih.ftype' _ _ | exact ih.blk' _ _ | exact ih.stmt' _ _ | exact ih.let' _ _ _ | exact ih.condi' _ _ | exact ih.els' _ _ | exact ih.exprOr' _ _ | exact ih.any' _ _)
        | (first | exact (ih.expr' _ _).weak (fun _ _ h => by (try dsimp only at h); omega) | exact (ih.cond' _ _).weak (fun _ _ h => by (try dsimp only at h); omega) | exact (ih.bin' _ _ _).weak (fun _ _ h => by (try dsimp only at h); omega) | exact (ih.unary' _ _).weak (fun _ _ h => by (try dsimp only at h); omega) | exact (ih.post' _ _).weak (fun _ _ h => by (try dsimp only at h); omega) | exact (ih.prim' _ _).weak (fun _ _ h => by (try dsimp only at h); omega) | exact (ih.wprim' _ _).weak (fun _ _ h => by (try dsimp only at h); omega) | exact (ih.sprim' _ _).weak (fun _ _ h => by (try dsimp only at h); omega) | exact (ih.prop' _ _).weak (fun _ _ h => by (try dsimp only at h); omega) | exact (ih.arrow' _ _).weak (fun _ _ h => by (try dsimp only at h); omega) | exact (ih.abody' _ _).weak (fun _ _ h => by (try dsimp only at h); omega) | exact (ih.typeOr' _ _).weak (fun _ _ h => by (try dsimp only at h); omega) | exact (ih.typing' _ _).weak (fun _ _ h => by (try dsimp only at h); omega) | exact (ih.type' _ _).weak (fun _ _ h => by (try dsimp only at h); omega) | exact (ih.ptype' _ _).weak (fun _ _ h => by (try dsimp only at h); omega) | exact (ih.rtype' _ _).weak (fun _ _ h => by (try dsimp only at h); omega) | exact (ih.objt' _ _).weak (fun _ _ h => by (try dsimp only at h); omega) | exact (ih.ftype' _ _).weak (fun _ _ h => by (try dsimp only at h); omega) | exact (ih.blk' _ _).weak (fun _ _ h => by (try dsimp only at h); omega) | exact (ih.stmt' _ _).weak (fun _ _ h => by (try dsimp only at h); omega) | exact (ih.let' _ _ _).weak (fun _ _ h => by (try dsimp only at h); omega) | exact (ih.condi' _ _).weak (fun _ _ h => by (try dsimp only at h); omega) | exact (ih.els' _ _).weak (fun _ _ h => by (try dsimp only at h); omega) | exact (ih.exprOr' _ _).weak (fun _ _ h => by (try dsimp only at h); omega) | exact (ih.any' _ _).weak (fun _ _ h => by (try dsimp only at h); omega)))
end Go.Proofs.YtmfgcaffdkakhaaGreat
namespace Go.Proofs.YtmfgcaffdkakhaaGreat
open Go.RowKit
set_option linter.unusedVariables false
set_option linter.unusedSimpArgs false

/-- no place is behind the tokens; an error is one of three (0: the fuel was not enough). -/
def Bd {α : Type} (L : List Tok) (r : Rs α) : Prop := match r with
  | .ok _ b => b ≤ L.length
  | .bad p e => p ≤ L.length ∧ (e = 60 ∨ e = 2 ∨ e = 0)
variable {L : List Tok}
theorem Bd.bad60 {α : Type} {p : Nat} (h : p ≤ L.length) : Bd L (.bad p 60 : Rs α) := ⟨h, .inl rfl⟩
theorem Bd.bad0 {α : Type} {p : Nat} (h : p ≤ L.length) : Bd L (.bad p 0 : Rs α) := ⟨h, .inr (.inr rfl)⟩
theorem Bd.ok {α : Type} {v : α} {b : Nat} (h : b ≤ L.length) : Bd L (.ok v b) := h
theorem Bd.bind {α β : Type} {r : Rs α} {f : α → Nat → Rs β} (hr : Bd L r) (hf : ∀ u a1, a1 ≤ L.length → Bd L (f u a1)) : Bd L (r.bind f) := by
  cases r with
  | ok u a1 => exact hf u a1 hr
  | bad p e => exact hr
theorem Bd.iteS {α : Type} {a : Nat} {s : ByteArray} {x y : Rs α} (hx : a < L.length → Bd L x) (hy : Bd L y) : Bd L (if isS L a s = true then x else y) := by
  split
  · rename_i h; exact hx (isS_lt h)
  · exact hy
theorem Bd.iteW {α : Type} {a : Nat} {s : ByteArray} {x y : Rs α} (hx : a < L.length → Bd L x) (hy : Bd L y) : Bd L (if isWd L a s = true then x else y) := by
  split
  · rename_i h; exact hx (isWd_lt h)
  · exact hy
theorem Bd.iteN {α : Type} {a : Nat} {x y : Rs α} (hx : a < L.length → Bd L x) (hy : Bd L y) : Bd L (if isN L a = true then x else y) := by
  split
  · rename_i h; exact hx (isN_lt h)
  · exact hy
theorem Bd.iteK {α : Type} {a : Nat} {k : Int} (hk : k ≠ 0) {x y : Rs α} (hx : a < L.length → Bd L x) (hy : Bd L y) : Bd L (if (tokA L a).k = k then x else y) := by
  split
  · rename_i h; exact hx (kind_lt (by rw [h]; exact hk))
  · exact hy
theorem Bd.ite3 {α : Type} {a : Nat} {s1 s2 : ByteArray} {w : ByteArray} {x y : Rs α} (hx : a < L.length → Bd L x) (hy : Bd L y) : Bd L (if isS L a s1 = true ∨ isS L a s2 = true ∨ isWd L a w = true then x else y) := by
  split
  · rename_i h; exact hx (h.elim isS_lt (fun h => h.elim isS_lt isWd_lt))
  · exact hy
theorem Bd.iteT {α : Type} {a : Nat} {s2 : ByteArray} {w : ByteArray} {x y : Rs α} (hx : a < L.length → Bd L x) (hy : Bd L y) : Bd L (if isN L a = true ∨ isWd L a s2 = true ∨ isWd L a w = true then x else y) := by
  split
  · rename_i h; exact hx (h.elim isN_lt (fun h => h.elim isWd_lt isWd_lt))
  · exact hy
theorem Bd.ite {α : Type} {p : Prop} [Decidable p] {x y : Rs α} (hx : Bd L x) (hy : Bd L y) : Bd L (if p then x else y) := by
  split
  · exact hx
  · exact hy
theorem want_bd {a : Nat} {s : ByteArray} (h : a ≤ L.length) : Bd L (wantR L s a) := Bd.iteS (fun q => Bd.ok (by omega)) (Bd.bad60 h)
theorem id_bd {a : Nat} (h : a ≤ L.length) : Bd L (idR L a) := Bd.iteN (fun q => Bd.ok (by omega)) (Bd.bad60 h)
theorem prop_bd {a : Nat} (h : a ≤ L.length) : Bd L (propR' L a) := by
  unfold propR'
  split
  · rename_i q
    have : a < L.length := q.elim isN_lt (fun q => kind_lt (by rw [q]; decide))
    exact Bd.ok (by omega)
  · exact Bd.bad60 h
theorem add_bd {a : Nat} {ns : List (List UInt8)} (h : a ≤ L.length) : Bd L (addR L ns a) := Bd.ite (Bd.bad60 h) (Bd.ok h)
theorem begin_bd {a o : Nat} (h : a ≤ L.length) : Bd L (beginR L a o) := Bd.ite (Bd.bad60 h) (Bd.ite ⟨h, .inr (.inl rfl)⟩ (Bd.ok h))
theorem listG_bd {σ : Type} {s : ByteArray} {F : σ → Nat → Rs (Nd × σ)} (hF : ∀ st a, a ≤ L.length → Bd L (F st a)) : ∀ (n : Nat) (acc : List Nd) (st : σ) (a : Nat), a ≤ L.length → Bd L (listG L s F n acc st a)
  | 0, _, _, _, h => Bd.bad0 h
  | n + 1, acc, st, a, h => by
    rw [listG]
    refine Bd.iteS (fun q => Bd.ok (by omega)) ?_
    have hf := hF st a h
    split
    · rename_i e; rw [e] at hf; exact hf
    · rename_i x a1 e
      rw [e] at hf
      exact Bd.iteS (fun q => listG_bd hF n _ _ _ (by omega)) (Bd.iteS (fun q => listG_bd hF n _ _ _ (by omega)) (Bd.bad60 hf))
theorem listE_bd {s : ByteArray} {E : Nat → Rs Nd} (hE : ∀ a, a ≤ L.length → Bd L (E a)) {a : Nat} (h : a ≤ L.length) : Bd L (listE L E s a) := listG_bd (fun _ a h => (hE a h).bind (fun _ _ h => Bd.ok h)) _ _ _ _ h
theorem stmtsG_bd {F : Nat → Rs Nd} (hF : ∀ a, a ≤ L.length → Bd L (F a)) : ∀ (n : Nat) (acc : List Nd) (a : Nat), a ≤ L.length → Bd L (stmtsG L F n acc a)
  | 0, _, _, h => Bd.bad0 h
  | n + 1, acc, a, h => by
    rw [stmtsG]
    refine Bd.iteS (fun q => Bd.ok (by omega)) ?_
    have hf := hF a h
    split
    · rename_i e; rw [e] at hf; exact hf
    · rename_i x a1 e
      rw [e] at hf
      exact stmtsG_bd hF n _ _ hf
theorem blockG_bd {F : Nat → Rs Nd} (hF : ∀ a, a ≤ L.length → Bd L (F a)) {a : Nat} (h : a ≤ L.length) : Bd L (blockG L F a) := (want_bd h).bind fun _ _ h1 => (stmtsG_bd hF _ _ _ h1).bind fun _ _ h2 => Bd.ok h2
theorem paramsG_bd {G : Nat → Rs Nd} (hG : ∀ a, a ≤ L.length → Bd L (G a)) {a : Nat} (h : a ≤ L.length) : Bd L (paramsG L G a) :=
  (want_bd h).bind fun _ _ h1 => (listG_bd (fun ns b hb => (add_bd hb).bind fun _ _ _ => (id_bd hb).bind fun _ _ h2 => (hG _ h2).bind fun _ _ h3 => Bd.ok h3) _ _ _ _ h1).bind fun _ _ h2 => Bd.ok h2
theorem line_lt {a : Nat} (h : lineI (tokA L a) ≠ 0) : a < L.length := kind_lt (fun e => h (by unfold lineI; rw [if_neg (by omega)]))
theorem binG_bd {B : Nat → Nat → Rs Nd} (hB : ∀ m a, 1 ≤ m → a ≤ L.length → Bd L (B m a)) (m : Nat) (hm : 1 ≤ m) : ∀ (n : Nat) (nd : Nd) (a : Nat), a ≤ L.length → Bd L (binG L B m n nd a)
  | 0, _, _, h => Bd.bad0 h
  | n + 1, nd, a, h => by
    rw [binG]
    split
    · exact Bd.ok h
    · have := line_lt (L := L) (a := a) (by omega)
      exact (hB _ _ (by omega) (by omega)).bind fun _ _ h2 => binG_bd hB m hm n _ _ h2
theorem postG_bd {E : Nat → Rs Nd} (hE : ∀ a, a ≤ L.length → Bd L (E a)) : ∀ (n : Nat) (nd : Nd) (a : Nat), a ≤ L.length → Bd L (postG L E n nd a)
  | 0, _, _, h => Bd.bad0 h
  | n + 1, nd, a, h => by
    rw [postG]
    exact Bd.iteS (fun q => (prop_bd (by omega)).bind fun _ _ h2 => postG_bd hE n _ _ h2) (Bd.iteS (fun q => (hE _ (by omega)).bind fun _ _ h2 => (want_bd h2).bind fun _ _ h3 => postG_bd hE n _ _ h3) (Bd.iteS (fun q => (listE_bd hE (by omega)).bind fun _ _ h2 => postG_bd hE n _ _ h2) (Bd.ok h)))
theorem unionG_bd {E : Nat → Rs Nd} (hE : ∀ a, a ≤ L.length → Bd L (E a)) : ∀ (n : Nat) (acc : List Nd) (a : Nat), a ≤ L.length → Bd L (unionG L E n acc a)
  | 0, _, _, h => Bd.bad0 h
  | n + 1, acc, a, h => by
    rw [unionG]
    exact (hE a h).bind fun _ _ h1 => Bd.iteS (fun q => unionG_bd hE n _ _ (by omega)) (Bd.ok h1)
theorem arrayG_bd : ∀ (n : Nat) (nd : Nd) (a : Nat), a ≤ L.length → Bd L (arrayG L n nd a)
  | 0, _, _, h => Bd.bad0 h
  | n + 1, nd, a, h => by
    rw [arrayG]
    exact Bd.iteS (fun q => (want_bd (by omega)).bind fun _ _ h2 => arrayG_bd n _ _ h2) (Bd.ok h)
theorem fieldsG_bd {T : Nat → Rs Nd} (hT : ∀ a, a ≤ L.length → Bd L (T a)) : ∀ (n : Nat) (acc : List Nd) (ns : List (List UInt8)) (a : Nat), a ≤ L.length → Bd L (fieldsG L T n acc ns a)
  | 0, _, _, _, h => Bd.bad0 h
  | n + 1, acc, ns, a, h => by
    rw [fieldsG]
    exact Bd.iteS (fun q => Bd.ok (by omega)) ((add_bd h).bind fun _ _ _ => (prop_bd h).bind fun _ _ h1 => (hT _ h1).bind fun _ _ h2 => (want_bd h2).bind fun _ _ h3 => fieldsG_bd hT n _ _ _ h3)
structure BdA (L : List Tok) (f : Nat) : Prop where
  expr' : ∀ (a : Nat) (o : Nat), a ≤ L.length → Bd L (exprF L f a o)
  assign' : ∀ (nd : Nd) (a : Nat) (o : Nat), a ≤ L.length → a < L.length → Bd L (assignF L f nd a o)
  cond' : ∀ (a : Nat) (o : Nat), a ≤ L.length → Bd L (condF L f a o)
  bin' : ∀ (m : Nat) (a : Nat) (o : Nat), 1 ≤ m → a ≤ L.length → Bd L (binF L f m a o)
  unary' : ∀ (a : Nat) (o : Nat), a ≤ L.length → Bd L (unaryF L f a o)
  post' : ∀ (a : Nat) (o : Nat), a ≤ L.length → Bd L (postF L f a o)
  prim' : ∀ (a : Nat) (o : Nat), a ≤ L.length → Bd L (primF L f a o)
  wprim' : ∀ (a : Nat) (o : Nat), a ≤ L.length → Bd L (wprimF L f a o)
  sprim' : ∀ (a : Nat) (o : Nat), a ≤ L.length → Bd L (sprimF L f a o)
  prop' : ∀ (a : Nat) (o : Nat), a ≤ L.length → Bd L (propF L f a o)
  arrow' : ∀ (a : Nat) (o : Nat), a ≤ L.length → Bd L (arrowF L f a o)
  abody' : ∀ (a : Nat) (o : Nat), a ≤ L.length → Bd L (abodyF L f a o)
  typeOr' : ∀ (a : Nat) (o : Nat), a ≤ L.length → Bd L (typeOrF L f a o)
  typing' : ∀ (a : Nat) (o : Nat), a ≤ L.length → Bd L (typingF L f a o)
  type' : ∀ (a : Nat) (o : Nat), a ≤ L.length → Bd L (typeF L f a o)
  ptype' : ∀ (a : Nat) (o : Nat), a ≤ L.length → Bd L (ptypeF L f a o)
  rtype' : ∀ (a : Nat) (o : Nat), a ≤ L.length → Bd L (rtypeF L f a o)
  objt' : ∀ (a : Nat) (o : Nat), a ≤ L.length → Bd L (objtF L f a o)
  ftype' : ∀ (a : Nat) (o : Nat), a ≤ L.length → Bd L (ftypeF L f a o)
  blk' : ∀ (a : Nat) (o : Nat), a ≤ L.length → Bd L (blkF L f a o)
  stmt' : ∀ (a : Nat) (o : Nat), a ≤ L.length → Bd L (stmtF L f a o)
  let' : ∀ (q : Int) (a : Nat) (o : Nat), a ≤ L.length → Bd L (letF L f q a o)
  condi' : ∀ (a : Nat) (o : Nat), a ≤ L.length → Bd L (condiF L f a o)
  els' : ∀ (a : Nat) (o : Nat), a ≤ L.length → Bd L (elseF L f a o)
  exprOr' : ∀ (a : Nat) (o : Nat), a ≤ L.length → Bd L (exprOrF L f a o)
  any' : ∀ (a : Nat) (o : Nat), a ≤ L.length → Bd L (anyF L f a o)
set_option maxHeartbeats 4000000 in
theorem bd_all (L : List Tok) : ∀ f, BdA L f := by
  intro f
  induction f with
  | zero => constructor <;> (intros; simp [exprF, assignF, condF, binF, unaryF, postF, primF, wprimF, sprimF, propF, arrowF, abodyF, typeOrF, typingF, typeF, ptypeF, rtypeF, objtF, ftypeF, blkF, stmtF, letF, condiF, elseF, exprOrF, anyF]; exact Bd.bad0 (by assumption))
  | succ f ih =>
    constructor
    · intro a o h
      rw [exprF]
      repeat (first
        | exact Bd.ok (by omega)
        | (refine Bd.iteS (fun _ => ?_) ?_)
        | (refine Bd.bind (begin_bd (by omega)) ?_; intro _ _ _)
        | (refine Bd.bind (by first | exact ih.assign' _ _ _ (by omega) (by omega) | exact ih.cond' _ _ (by omega)) ?_; intro _ _ _)
        | (first | exact ih.assign' _ _ _ (by omega) (by omega) | exact ih.cond' _ _ (by omega)))
    · intro nd a o h hlt
      rw [assignF]
      repeat (first
        | exact Bd.bad60 (by omega)
        | exact Bd.ok (by omega)
        | (refine Bd.ite ?_ ?_)
        | (refine Bd.bind (by first | exact ih.expr' _ _ (by omega)) ?_; intro _ _ _)
        | (first | exact ih.expr' _ _ (by omega)))
    · intro a o h
      rw [condF]
      repeat (first
        | exact Bd.ok (by omega)
        | (refine Bd.iteS (fun _ => ?_) ?_)
        | (refine Bd.bind (want_bd (by omega)) ?_; intro _ _ _)
        | (refine Bd.bind (by first | exact ih.expr' _ _ (by omega) | exact ih.bin' _ _ _ (by omega) (by omega)) ?_; intro _ _ _)
        | (first | exact ih.expr' _ _ (by omega) | exact ih.bin' _ _ _ (by omega) (by omega)))
    · intro m a o hm h
      rw [binF]
      repeat (first
        | exact binG_bd (fun _ _ h1 h => ih.bin' _ _ _ h1 h) _ (by omega) _ _ _ (by omega)
        | (refine Bd.bind (by first | exact ih.unary' _ _ (by omega)) ?_; intro _ _ _)
        | (first | exact ih.unary' _ _ (by omega)))
    · intro a o h
      rw [unaryF]
      repeat (first
        | exact Bd.ok (by omega)
        | (refine Bd.ite3 (fun _ => ?_) ?_)
        | (refine Bd.bind (begin_bd (by omega)) ?_; intro _ _ _)
        | (refine Bd.bind (by first | exact ih.unary' _ _ (by omega) | exact ih.post' _ _ (by omega)) ?_; intro _ _ _)
        | (first | exact ih.unary' _ _ (by omega) | exact ih.post' _ _ (by omega)))
    · intro a o h
      rw [postF]
      repeat (first
        | exact postG_bd (fun _ h => ih.expr' _ _ h) _ _ _ (by omega)
        | (refine Bd.bind (by first | exact ih.prim' _ _ (by omega)) ?_; intro _ _ _)
        | (first | exact ih.prim' _ _ (by omega)))
    · intro a o h
      rw [primF]
      repeat (first
        | exact Bd.ok (by omega)
        | (refine Bd.iteK (by decide) (fun _ => ?_) ?_)
        | (refine Bd.bind (by first | exact ih.wprim' _ _ (by omega) | exact ih.sprim' _ _ (by omega)) ?_; intro _ _ _)
        | (first | exact ih.wprim' _ _ (by omega) | exact ih.sprim' _ _ (by omega)))
    · intro a o h
      rw [wprimF]
      repeat (first
        | exact Bd.bad60 (by omega)
        | exact Bd.ok (by omega)
        | (refine Bd.iteW (fun _ => ?_) ?_)
        | (refine Bd.bind (want_bd (by omega)) ?_; intro _ _ _)
        | (refine Bd.bind (id_bd (by omega)) ?_; intro _ _ _)
        | (refine Bd.bind (listE_bd (fun _ h => by first | exact ih.expr' _ _ h | exact ih.prop' _ _ h) (by omega)) ?_; intro _ _ _)
        | (refine Bd.bind (paramsG_bd (fun _ h => by first | exact ih.typeOr' _ _ h | exact ih.typing' _ _ h) (by omega)) ?_; intro _ _ _)
        | (refine Bd.bind (by first | exact ih.typeOr' _ _ (by omega) | exact ih.blk' _ _ (by omega)) ?_; intro _ _ _)
        | (first | exact ih.typeOr' _ _ (by omega) | exact ih.blk' _ _ (by omega)))
    · intro a o h
      rw [sprimF]
      repeat (first
        | exact Bd.bad60 (by omega)
        | exact Bd.ok (by omega)
        | (refine Bd.iteS (fun _ => ?_) ?_)
        | (refine Bd.ite ?_ ?_)
        | (refine Bd.bind (want_bd (by omega)) ?_; intro _ _ _)
        | (refine Bd.bind (listE_bd (fun _ h => by first | exact ih.expr' _ _ h | exact ih.prop' _ _ h) (by omega)) ?_; intro _ _ _)
        | (refine Bd.bind (by first | exact ih.expr' _ _ (by omega) | exact ih.arrow' _ _ (by omega)) ?_; intro _ _ _)
        | (first | exact ih.expr' _ _ (by omega) | exact ih.arrow' _ _ (by omega)))
    · intro a o h
      rw [propF]
      repeat (first
        | exact Bd.bad60 (by omega)
        | exact Bd.ok (by omega)
        | (refine Bd.iteS (fun _ => ?_) ?_)
        | (refine Bd.iteN (fun _ => ?_) ?_)
        | (refine Bd.bind (prop_bd (by omega)) ?_; intro _ _ _)
        | (refine Bd.bind (by first | exact ih.expr' _ _ (by omega)) ?_; intro _ _ _)
        | (first | exact ih.expr' _ _ (by omega)))
    · intro a o h
      rw [arrowF]
      repeat (first
        | exact Bd.ok (by omega)
        | (refine Bd.bind (want_bd (by omega)) ?_; intro _ _ _)
        | (refine Bd.bind (paramsG_bd (fun _ h => by first | exact ih.typeOr' _ _ h | exact ih.typing' _ _ h) (by omega)) ?_; intro _ _ _)
        | (refine Bd.bind (by first | exact ih.abody' _ _ (by omega)) ?_; intro _ _ _)
        | (first | exact ih.abody' _ _ (by omega)))
    · intro a o h
      rw [abodyF]
      repeat (first
        | exact Bd.ok (by omega)
        | (refine Bd.iteS (fun _ => ?_) ?_)
        | (refine Bd.bind (by first | exact ih.expr' _ _ (by omega) | exact ih.blk' _ _ (by omega)) ?_; intro _ _ _)
        | (first | exact ih.expr' _ _ (by omega) | exact ih.blk' _ _ (by omega)))
    · intro a o h
      rw [typeOrF]
      repeat (first
        | exact Bd.ok (by omega)
        | (refine Bd.iteS (fun _ => ?_) ?_)
        | (refine Bd.bind (by first | exact ih.typing' _ _ (by omega)) ?_; intro _ _ _)
        | (first | exact ih.typing' _ _ (by omega)))
    · intro a o h
      rw [typingF]
      repeat (first
        | (refine Bd.bind (want_bd (by omega)) ?_; intro _ _ _)
        | (refine Bd.bind (by first | exact ih.type' _ _ (by omega)) ?_; intro _ _ _)
        | (first | exact ih.type' _ _ (by omega)))
    · intro a o h
      rw [typeF]
      repeat (first
        | exact Bd.ok (by omega)
        | (refine Bd.bind (begin_bd (by omega)) ?_; intro _ _ _)
        | (refine Bd.bind (unionG_bd (fun _ h => ih.ptype' _ _ h) _ _ _ (by omega)) ?_; intro _ _ _)
        | (refine Bd.bind (by first | fail) ?_; intro _ _ _)
        | (first | fail))
    · intro a o h
      rw [ptypeF]
      repeat (first
        | exact arrayG_bd _ _ _ (by omega)
        | (refine Bd.bind (by first | exact ih.rtype' _ _ (by omega)) ?_; intro _ _ _)
        | (first | exact ih.rtype' _ _ (by omega)))
    · intro a o h
      rw [rtypeF]
      repeat (first
        | exact Bd.bad60 (by omega)
        | exact Bd.ok (by omega)
        | (refine Bd.iteS (fun _ => ?_) ?_)
        | (refine Bd.iteT (fun _ => ?_) ?_)
        | (refine Bd.ite ?_ ?_)
        | (refine Bd.bind (want_bd (by omega)) ?_; intro _ _ _)
        | (refine Bd.bind (by first | exact ih.type' _ _ (by omega) | exact ih.objt' _ _ (by omega) | exact ih.ftype' _ _ (by omega)) ?_; intro _ _ _)
        | (first | exact ih.type' _ _ (by omega) | exact ih.objt' _ _ (by omega) | exact ih.ftype' _ _ (by omega)))
    · intro a o h
      rw [objtF]
      repeat (first
        | exact Bd.ok (by omega)
        | (refine Bd.bind (fieldsG_bd (fun _ h => ih.typing' _ _ h) _ _ _ _ (by omega)) ?_; intro _ _ _)
        | (refine Bd.bind (by first | fail) ?_; intro _ _ _)
        | (first | fail))
    · intro a o h
      rw [ftypeF]
      repeat (first
        | exact Bd.ok (by omega)
        | (refine Bd.bind (want_bd (by omega)) ?_; intro _ _ _)
        | (refine Bd.bind (paramsG_bd (fun _ h => by first | exact ih.typeOr' _ _ h | exact ih.typing' _ _ h) (by omega)) ?_; intro _ _ _)
        | (refine Bd.bind (by first | exact ih.type' _ _ (by omega)) ?_; intro _ _ _)
        | (first | exact ih.type' _ _ (by omega)))
    · intro a o h
      rw [blkF]
      repeat (first
        | exact blockG_bd (fun _ h => ih.stmt' _ _ h) (by omega)
        | (refine Bd.bind (by first | fail) ?_; intro _ _ _)
        | (first | fail))
    · intro a o h
      rw [stmtF]
      repeat (first
        | (refine Bd.bind (begin_bd (by omega)) ?_; intro _ _ _)
        | (refine Bd.bind (by first | exact ih.any' _ _ (by omega)) ?_; intro _ _ _)
        | (first | exact ih.any' _ _ (by omega)))
    · intro q a o h
      rw [letF]
      repeat (first
        | exact Bd.ok (by omega)
        | (refine Bd.bind (want_bd (by omega)) ?_; intro _ _ _)
        | (refine Bd.bind (id_bd (by omega)) ?_; intro _ _ _)
        | (refine Bd.bind (by first | exact ih.expr' _ _ (by omega) | exact ih.typeOr' _ _ (by omega)) ?_; intro _ _ _)
        | (first | exact ih.expr' _ _ (by omega) | exact ih.typeOr' _ _ (by omega)))
    · intro a o h
      rw [condiF]
      repeat (first
        | exact Bd.ok (by omega)
        | (refine Bd.bind (want_bd (by omega)) ?_; intro _ _ _)
        | (refine Bd.bind (by first | exact ih.expr' _ _ (by omega)) ?_; intro _ _ _)
        | (first | exact ih.expr' _ _ (by omega)))
    · intro a o h
      rw [elseF]
      repeat (first
        | exact Bd.ok (by omega)
        | (refine Bd.iteW (fun _ => ?_) ?_)
        | (refine Bd.bind (by first | exact ih.blk' _ _ (by omega) | exact ih.stmt' _ _ (by omega)) ?_; intro _ _ _)
        | (first | exact ih.blk' _ _ (by omega) | exact ih.stmt' _ _ (by omega)))
    · intro a o h
      rw [exprOrF]
      repeat (first
        | exact Bd.ok (by omega)
        | (refine Bd.iteS (fun _ => ?_) ?_)
        | (refine Bd.bind (by first | exact ih.expr' _ _ (by omega)) ?_; intro _ _ _)
        | (first | exact ih.expr' _ _ (by omega)))
    · intro a o h
      rw [anyF]
      repeat (first
        | exact Bd.ok (by omega)
        | (refine Bd.iteS (fun _ => ?_) ?_)
        | (refine Bd.iteW (fun _ => ?_) ?_)
        | (refine Bd.bind (want_bd (by omega)) ?_; intro _ _ _)
        | (refine Bd.bind (id_bd (by omega)) ?_; intro _ _ _)
        | (refine Bd.bind (paramsG_bd (fun _ h => by first | exact ih.typeOr' _ _ h | exact ih.typing' _ _ h) (by omega)) ?_; intro _ _ _)
        | (refine Bd.bind (by first | exact ih.expr' _ _ (by omega) | exact ih.typeOr' _ _ (by omega) | exact ih.blk' _ _ (by omega) | exact ih.let' _ _ _ (by omega) | exact ih.condi' _ _ (by omega) | exact ih.els' _ _ (by omega) | exact ih.exprOr' _ _ (by omega)) ?_; intro _ _ _)
        | (first | exact ih.expr' _ _ (by omega) | exact ih.typeOr' _ _ (by omega) | exact ih.blk' _ _ (by omega) | exact ih.let' _ _ _ (by omega) | exact ih.condi' _ _ (by omega) | exact ih.els' _ _ (by omega) | exact ih.exprOr' _ _ (by omega)))
end Go.Proofs.YtmfgcaffdkakhaaGreat
namespace Go.Proofs.YtmfgcaffdkakhaaGreat
open Go.RowKit
set_option linter.unusedVariables false
set_option linter.unusedSimpArgs false

/-- no place is ahead of c. -/
def Lw {α : Type} (c : Nat) (r : Rs α) : Prop := match r with
  | .ok _ b => c ≤ b
  | .bad p e => c ≤ p
variable {L : List Tok} {c : Nat}
theorem Lw.bad60 {α : Type} {p : Nat} (h : c ≤ p) : Lw c (.bad p 60 : Rs α) := h
theorem Lw.bad0 {α : Type} {p : Nat} (h : c ≤ p) : Lw c (.bad p 0 : Rs α) := h
theorem Lw.ok {α : Type} {v : α} {b : Nat} (h : c ≤ b) : Lw c (.ok v b) := h
theorem Lw.bind {α β : Type} {r : Rs α} {f : α → Nat → Rs β} (hr : Lw c r) (hf : ∀ u a1, c ≤ a1 → Lw c (f u a1)) : Lw c (r.bind f) := by
  cases r with
  | ok u a1 => exact hf u a1 hr
  | bad p e => exact hr
theorem Lw.iteS {α : Type} {a : Nat} {s : ByteArray} {x y : Rs α} (hx : a < L.length → Lw c x) (hy : Lw c y) : Lw c (if isS L a s = true then x else y) := by
  split
  · rename_i h; exact hx (isS_lt h)
  · exact hy
theorem Lw.iteW {α : Type} {a : Nat} {s : ByteArray} {x y : Rs α} (hx : a < L.length → Lw c x) (hy : Lw c y) : Lw c (if isWd L a s = true then x else y) := by
  split
  · rename_i h; exact hx (isWd_lt h)
  · exact hy
theorem Lw.iteN {α : Type} {a : Nat} {x y : Rs α} (hx : a < L.length → Lw c x) (hy : Lw c y) : Lw c (if isN L a = true then x else y) := by
  split
  · rename_i h; exact hx (isN_lt h)
  · exact hy
theorem Lw.iteK {α : Type} {a : Nat} {k : Int} (hk : k ≠ 0) {x y : Rs α} (hx : a < L.length → Lw c x) (hy : Lw c y) : Lw c (if (tokA L a).k = k then x else y) := by
  split
  · rename_i h; exact hx (kind_lt (by rw [h]; exact hk))
  · exact hy
theorem Lw.ite3 {α : Type} {a : Nat} {s1 s2 : ByteArray} {w : ByteArray} {x y : Rs α} (hx : a < L.length → Lw c x) (hy : Lw c y) : Lw c (if isS L a s1 = true ∨ isS L a s2 = true ∨ isWd L a w = true then x else y) := by
  split
  · rename_i h; exact hx (h.elim isS_lt (fun h => h.elim isS_lt isWd_lt))
  · exact hy
theorem Lw.iteT {α : Type} {a : Nat} {s2 : ByteArray} {w : ByteArray} {x y : Rs α} (hx : a < L.length → Lw c x) (hy : Lw c y) : Lw c (if isN L a = true ∨ isWd L a s2 = true ∨ isWd L a w = true then x else y) := by
  split
  · rename_i h; exact hx (h.elim isN_lt (fun h => h.elim isWd_lt isWd_lt))
  · exact hy
theorem Lw.ite {α : Type} {p : Prop} [Decidable p] {x y : Rs α} (hx : Lw c x) (hy : Lw c y) : Lw c (if p then x else y) := by
  split
  · exact hx
  · exact hy
theorem want_lw {a : Nat} {s : ByteArray} (h : c ≤ a) : Lw c (wantR L s a) := Lw.iteS (fun q => Lw.ok (by omega)) (Lw.bad60 h)
theorem id_lw {a : Nat} (h : c ≤ a) : Lw c (idR L a) := Lw.iteN (fun q => Lw.ok (by omega)) (Lw.bad60 h)
theorem prop_lw {a : Nat} (h : c ≤ a) : Lw c (propR' L a) := by
  unfold propR'
  split
  · rename_i q
    have : a < L.length := q.elim isN_lt (fun q => kind_lt (by rw [q]; decide))
    exact Lw.ok (by omega)
  · exact Lw.bad60 h
theorem add_lw {a : Nat} {ns : List (List UInt8)} (h : c ≤ a) : Lw c (addR L ns a) := Lw.ite (Lw.bad60 h) (Lw.ok h)
theorem begin_lw {a o : Nat} (h : c ≤ a) : Lw c (beginR L a o) := Lw.ite (Lw.bad60 h) (Lw.ite h (Lw.ok h))
theorem listG_lw {σ : Type} {s : ByteArray} {F : σ → Nat → Rs (Nd × σ)} (hF : ∀ st a, c ≤ a → Lw c (F st a)) : ∀ (n : Nat) (acc : List Nd) (st : σ) (a : Nat), c ≤ a → Lw c (listG L s F n acc st a)
  | 0, _, _, _, h => Lw.bad0 h
  | n + 1, acc, st, a, h => by
    rw [listG]
    refine Lw.iteS (fun q => Lw.ok (by omega)) ?_
    have hf := hF st a h
    split
    · rename_i e; rw [e] at hf; exact hf
    · rename_i x a1 e
      rw [e] at hf
      have hf' : c ≤ a1 := hf
      exact Lw.iteS (fun q => listG_lw hF n _ _ _ (by omega)) (Lw.iteS (fun q => listG_lw hF n _ _ _ (by omega)) (Lw.bad60 hf))
theorem listE_lw {s : ByteArray} {E : Nat → Rs Nd} (hE : ∀ a, c ≤ a → Lw c (E a)) {a : Nat} (h : c ≤ a) : Lw c (listE L E s a) := listG_lw (fun _ a h => (hE a h).bind (fun _ _ h => Lw.ok h)) _ _ _ _ h
theorem stmtsG_lw {F : Nat → Rs Nd} (hF : ∀ a, c ≤ a → Lw c (F a)) : ∀ (n : Nat) (acc : List Nd) (a : Nat), c ≤ a → Lw c (stmtsG L F n acc a)
  | 0, _, _, h => Lw.bad0 h
  | n + 1, acc, a, h => by
    rw [stmtsG]
    refine Lw.iteS (fun q => Lw.ok (by omega)) ?_
    have hf := hF a h
    split
    · rename_i e; rw [e] at hf; exact hf
    · rename_i x a1 e
      rw [e] at hf
      exact stmtsG_lw hF n _ _ hf
theorem blockG_lw {F : Nat → Rs Nd} (hF : ∀ a, c ≤ a → Lw c (F a)) {a : Nat} (h : c ≤ a) : Lw c (blockG L F a) := (want_lw h).bind fun _ _ h1 => (stmtsG_lw hF _ _ _ h1).bind fun _ _ h2 => Lw.ok h2
theorem paramsG_lw {G : Nat → Rs Nd} (hG : ∀ a, c ≤ a → Lw c (G a)) {a : Nat} (h : c ≤ a) : Lw c (paramsG L G a) :=
  (want_lw h).bind fun _ _ h1 => (listG_lw (fun ns b hb => (add_lw hb).bind fun _ _ _ => (id_lw hb).bind fun _ _ h2 => (hG _ h2).bind fun _ _ h3 => Lw.ok h3) _ _ _ _ h1).bind fun _ _ h2 => Lw.ok h2
theorem binG_lw {B : Nat → Nat → Rs Nd} (hB : ∀ m a, 1 ≤ m → c ≤ a → Lw c (B m a)) (m : Nat) (hm : 1 ≤ m) : ∀ (n : Nat) (nd : Nd) (a : Nat), c ≤ a → Lw c (binG L B m n nd a)
  | 0, _, _, h => Lw.bad0 h
  | n + 1, nd, a, h => by
    rw [binG]
    split
    · exact Lw.ok h
    · have := line_lt (L := L) (a := a) (by omega)
      exact (hB _ _ (by omega) (by omega)).bind fun _ _ h2 => binG_lw hB m hm n _ _ h2
theorem postG_lw {E : Nat → Rs Nd} (hE : ∀ a, c ≤ a → Lw c (E a)) : ∀ (n : Nat) (nd : Nd) (a : Nat), c ≤ a → Lw c (postG L E n nd a)
  | 0, _, _, h => Lw.bad0 h
  | n + 1, nd, a, h => by
    rw [postG]
    exact Lw.iteS (fun q => (prop_lw (by omega)).bind fun _ _ h2 => postG_lw hE n _ _ h2) (Lw.iteS (fun q => (hE _ (by omega)).bind fun _ _ h2 => (want_lw h2).bind fun _ _ h3 => postG_lw hE n _ _ h3) (Lw.iteS (fun q => (listE_lw hE (by omega)).bind fun _ _ h2 => postG_lw hE n _ _ h2) (Lw.ok h)))
theorem unionG_lw {E : Nat → Rs Nd} (hE : ∀ a, c ≤ a → Lw c (E a)) : ∀ (n : Nat) (acc : List Nd) (a : Nat), c ≤ a → Lw c (unionG L E n acc a)
  | 0, _, _, h => Lw.bad0 h
  | n + 1, acc, a, h => by
    rw [unionG]
    exact (hE a h).bind fun _ _ h1 => Lw.iteS (fun q => unionG_lw hE n _ _ (by omega)) (Lw.ok h1)
theorem arrayG_lw : ∀ (n : Nat) (nd : Nd) (a : Nat), c ≤ a → Lw c (arrayG L n nd a)
  | 0, _, _, h => Lw.bad0 h
  | n + 1, nd, a, h => by
    rw [arrayG]
    exact Lw.iteS (fun q => (want_lw (by omega)).bind fun _ _ h2 => arrayG_lw n _ _ h2) (Lw.ok h)
theorem fieldsG_lw {T : Nat → Rs Nd} (hT : ∀ a, c ≤ a → Lw c (T a)) : ∀ (n : Nat) (acc : List Nd) (ns : List (List UInt8)) (a : Nat), c ≤ a → Lw c (fieldsG L T n acc ns a)
  | 0, _, _, _, h => Lw.bad0 h
  | n + 1, acc, ns, a, h => by
    rw [fieldsG]
    exact Lw.iteS (fun q => Lw.ok (by omega)) ((add_lw h).bind fun _ _ _ => (prop_lw h).bind fun _ _ h1 => (hT _ h1).bind fun _ _ h2 => (want_lw h2).bind fun _ _ h3 => fieldsG_lw hT n _ _ _ h3)
structure LwA (L : List Tok) (c f : Nat) : Prop where
  expr' : ∀ (a : Nat) (o : Nat), c ≤ a → Lw c (exprF L f a o)
  assign' : ∀ (nd : Nd) (a : Nat) (o : Nat), c ≤ a → a < L.length → Lw c (assignF L f nd a o)
  cond' : ∀ (a : Nat) (o : Nat), c ≤ a → Lw c (condF L f a o)
  bin' : ∀ (m : Nat) (a : Nat) (o : Nat), 1 ≤ m → c ≤ a → Lw c (binF L f m a o)
  unary' : ∀ (a : Nat) (o : Nat), c ≤ a → Lw c (unaryF L f a o)
  post' : ∀ (a : Nat) (o : Nat), c ≤ a → Lw c (postF L f a o)
  prim' : ∀ (a : Nat) (o : Nat), c ≤ a → Lw c (primF L f a o)
  wprim' : ∀ (a : Nat) (o : Nat), c ≤ a → Lw c (wprimF L f a o)
  sprim' : ∀ (a : Nat) (o : Nat), c ≤ a → Lw c (sprimF L f a o)
  prop' : ∀ (a : Nat) (o : Nat), c ≤ a → Lw c (propF L f a o)
  arrow' : ∀ (a : Nat) (o : Nat), c ≤ a → Lw c (arrowF L f a o)
  abody' : ∀ (a : Nat) (o : Nat), c ≤ a → Lw c (abodyF L f a o)
  typeOr' : ∀ (a : Nat) (o : Nat), c ≤ a → Lw c (typeOrF L f a o)
  typing' : ∀ (a : Nat) (o : Nat), c ≤ a → Lw c (typingF L f a o)
  type' : ∀ (a : Nat) (o : Nat), c ≤ a → Lw c (typeF L f a o)
  ptype' : ∀ (a : Nat) (o : Nat), c ≤ a → Lw c (ptypeF L f a o)
  rtype' : ∀ (a : Nat) (o : Nat), c ≤ a → Lw c (rtypeF L f a o)
  objt' : ∀ (a : Nat) (o : Nat), c ≤ a → Lw c (objtF L f a o)
  ftype' : ∀ (a : Nat) (o : Nat), c ≤ a → Lw c (ftypeF L f a o)
  blk' : ∀ (a : Nat) (o : Nat), c ≤ a → Lw c (blkF L f a o)
  stmt' : ∀ (a : Nat) (o : Nat), c ≤ a → Lw c (stmtF L f a o)
  let' : ∀ (q : Int) (a : Nat) (o : Nat), c ≤ a → Lw c (letF L f q a o)
  condi' : ∀ (a : Nat) (o : Nat), c ≤ a → Lw c (condiF L f a o)
  els' : ∀ (a : Nat) (o : Nat), c ≤ a → Lw c (elseF L f a o)
  exprOr' : ∀ (a : Nat) (o : Nat), c ≤ a → Lw c (exprOrF L f a o)
  any' : ∀ (a : Nat) (o : Nat), c ≤ a → Lw c (anyF L f a o)
set_option maxHeartbeats 4000000 in
theorem lw_all (L : List Tok) (c : Nat) : ∀ f, LwA L c f := by
  intro f
  induction f with
  | zero => constructor <;> (intros; simp [exprF, assignF, condF, binF, unaryF, postF, primF, wprimF, sprimF, propF, arrowF, abodyF, typeOrF, typingF, typeF, ptypeF, rtypeF, objtF, ftypeF, blkF, stmtF, letF, condiF, elseF, exprOrF, anyF]; exact Lw.bad0 (by assumption))
  | succ f ih =>
    constructor
    · intro a o h
      rw [exprF]
      repeat (first
        | exact Lw.ok (by omega)
        | (refine Lw.iteS (fun _ => ?_) ?_)
        | (refine Lw.bind (begin_lw (by omega)) ?_; intro _ _ _)
        | (refine Lw.bind (by first | exact ih.assign' _ _ _ (by omega) (by omega) | exact ih.cond' _ _ (by omega)) ?_; intro _ _ _)
        | (first | exact ih.assign' _ _ _ (by omega) (by omega) | exact ih.cond' _ _ (by omega)))
    · intro nd a o h hlt
      rw [assignF]
      repeat (first
        | exact Lw.bad60 (by omega)
        | exact Lw.ok (by omega)
        | (refine Lw.ite ?_ ?_)
        | (refine Lw.bind (by first | exact ih.expr' _ _ (by omega)) ?_; intro _ _ _)
        | (first | exact ih.expr' _ _ (by omega)))
    · intro a o h
      rw [condF]
      repeat (first
        | exact Lw.ok (by omega)
        | (refine Lw.iteS (fun _ => ?_) ?_)
        | (refine Lw.bind (want_lw (by omega)) ?_; intro _ _ _)
        | (refine Lw.bind (by first | exact ih.expr' _ _ (by omega) | exact ih.bin' _ _ _ (by omega) (by omega)) ?_; intro _ _ _)
        | (first | exact ih.expr' _ _ (by omega) | exact ih.bin' _ _ _ (by omega) (by omega)))
    · intro m a o hm h
      rw [binF]
      repeat (first
        | exact binG_lw (fun _ _ h1 h => ih.bin' _ _ _ h1 h) _ (by omega) _ _ _ (by omega)
        | (refine Lw.bind (by first | exact ih.unary' _ _ (by omega)) ?_; intro _ _ _)
        | (first | exact ih.unary' _ _ (by omega)))
    · intro a o h
      rw [unaryF]
      repeat (first
        | exact Lw.ok (by omega)
        | (refine Lw.ite3 (fun _ => ?_) ?_)
        | (refine Lw.bind (begin_lw (by omega)) ?_; intro _ _ _)
        | (refine Lw.bind (by first | exact ih.unary' _ _ (by omega) | exact ih.post' _ _ (by omega)) ?_; intro _ _ _)
        | (first | exact ih.unary' _ _ (by omega) | exact ih.post' _ _ (by omega)))
    · intro a o h
      rw [postF]
      repeat (first
        | exact postG_lw (fun _ h => ih.expr' _ _ h) _ _ _ (by omega)
        | (refine Lw.bind (by first | exact ih.prim' _ _ (by omega)) ?_; intro _ _ _)
        | (first | exact ih.prim' _ _ (by omega)))
    · intro a o h
      rw [primF]
      repeat (first
        | exact Lw.ok (by omega)
        | (refine Lw.iteK (by decide) (fun _ => ?_) ?_)
        | (refine Lw.bind (by first | exact ih.wprim' _ _ (by omega) | exact ih.sprim' _ _ (by omega)) ?_; intro _ _ _)
        | (first | exact ih.wprim' _ _ (by omega) | exact ih.sprim' _ _ (by omega)))
    · intro a o h
      rw [wprimF]
      repeat (first
        | exact Lw.bad60 (by omega)
        | exact Lw.ok (by omega)
        | (refine Lw.iteW (fun _ => ?_) ?_)
        | (refine Lw.bind (want_lw (by omega)) ?_; intro _ _ _)
        | (refine Lw.bind (id_lw (by omega)) ?_; intro _ _ _)
        | (refine Lw.bind (listE_lw (fun _ h => by first | exact ih.expr' _ _ h | exact ih.prop' _ _ h) (by omega)) ?_; intro _ _ _)
        | (refine Lw.bind (paramsG_lw (fun _ h => by first | exact ih.typeOr' _ _ h | exact ih.typing' _ _ h) (by omega)) ?_; intro _ _ _)
        | (refine Lw.bind (by first | exact ih.typeOr' _ _ (by omega) | exact ih.blk' _ _ (by omega)) ?_; intro _ _ _)
        | (first | exact ih.typeOr' _ _ (by omega) | exact ih.blk' _ _ (by omega)))
    · intro a o h
      rw [sprimF]
      repeat (first
        | exact Lw.bad60 (by omega)
        | exact Lw.ok (by omega)
        | (refine Lw.iteS (fun _ => ?_) ?_)
        | (refine Lw.ite ?_ ?_)
        | (refine Lw.bind (want_lw (by omega)) ?_; intro _ _ _)
        | (refine Lw.bind (listE_lw (fun _ h => by first | exact ih.expr' _ _ h | exact ih.prop' _ _ h) (by omega)) ?_; intro _ _ _)
        | (refine Lw.bind (by first | exact ih.expr' _ _ (by omega) | exact ih.arrow' _ _ (by omega)) ?_; intro _ _ _)
        | (first | exact ih.expr' _ _ (by omega) | exact ih.arrow' _ _ (by omega)))
    · intro a o h
      rw [propF]
      repeat (first
        | exact Lw.bad60 (by omega)
        | exact Lw.ok (by omega)
        | (refine Lw.iteS (fun _ => ?_) ?_)
        | (refine Lw.iteN (fun _ => ?_) ?_)
        | (refine Lw.bind (prop_lw (by omega)) ?_; intro _ _ _)
        | (refine Lw.bind (by first | exact ih.expr' _ _ (by omega)) ?_; intro _ _ _)
        | (first | exact ih.expr' _ _ (by omega)))
    · intro a o h
      rw [arrowF]
      repeat (first
        | exact Lw.ok (by omega)
        | (refine Lw.bind (want_lw (by omega)) ?_; intro _ _ _)
        | (refine Lw.bind (paramsG_lw (fun _ h => by first | exact ih.typeOr' _ _ h | exact ih.typing' _ _ h) (by omega)) ?_; intro _ _ _)
        | (refine Lw.bind (by first | exact ih.abody' _ _ (by omega)) ?_; intro _ _ _)
        | (first | exact ih.abody' _ _ (by omega)))
    · intro a o h
      rw [abodyF]
      repeat (first
        | exact Lw.ok (by omega)
        | (refine Lw.iteS (fun _ => ?_) ?_)
        | (refine Lw.bind (by first | exact ih.expr' _ _ (by omega) | exact ih.blk' _ _ (by omega)) ?_; intro _ _ _)
        | (first | exact ih.expr' _ _ (by omega) | exact ih.blk' _ _ (by omega)))
    · intro a o h
      rw [typeOrF]
      repeat (first
        | exact Lw.ok (by omega)
        | (refine Lw.iteS (fun _ => ?_) ?_)
        | (refine Lw.bind (by first | exact ih.typing' _ _ (by omega)) ?_; intro _ _ _)
        | (first | exact ih.typing' _ _ (by omega)))
    · intro a o h
      rw [typingF]
      repeat (first
        | (refine Lw.bind (want_lw (by omega)) ?_; intro _ _ _)
        | (refine Lw.bind (by first | exact ih.type' _ _ (by omega)) ?_; intro _ _ _)
        | (first | exact ih.type' _ _ (by omega)))
    · intro a o h
      rw [typeF]
      repeat (first
        | exact Lw.ok (by omega)
        | (refine Lw.bind (begin_lw (by omega)) ?_; intro _ _ _)
        | (refine Lw.bind (unionG_lw (fun _ h => ih.ptype' _ _ h) _ _ _ (by omega)) ?_; intro _ _ _)
        | (refine Lw.bind (by first | fail) ?_; intro _ _ _)
        | (first | fail))
    · intro a o h
      rw [ptypeF]
      repeat (first
        | exact arrayG_lw _ _ _ (by omega)
        | (refine Lw.bind (by first | exact ih.rtype' _ _ (by omega)) ?_; intro _ _ _)
        | (first | exact ih.rtype' _ _ (by omega)))
    · intro a o h
      rw [rtypeF]
      repeat (first
        | exact Lw.bad60 (by omega)
        | exact Lw.ok (by omega)
        | (refine Lw.iteS (fun _ => ?_) ?_)
        | (refine Lw.iteT (fun _ => ?_) ?_)
        | (refine Lw.ite ?_ ?_)
        | (refine Lw.bind (want_lw (by omega)) ?_; intro _ _ _)
        | (refine Lw.bind (by first | exact ih.type' _ _ (by omega) | exact ih.objt' _ _ (by omega) | exact ih.ftype' _ _ (by omega)) ?_; intro _ _ _)
        | (first | exact ih.type' _ _ (by omega) | exact ih.objt' _ _ (by omega) | exact ih.ftype' _ _ (by omega)))
    · intro a o h
      rw [objtF]
      repeat (first
        | exact Lw.ok (by omega)
        | (refine Lw.bind (fieldsG_lw (fun _ h => ih.typing' _ _ h) _ _ _ _ (by omega)) ?_; intro _ _ _)
        | (refine Lw.bind (by first | fail) ?_; intro _ _ _)
        | (first | fail))
    · intro a o h
      rw [ftypeF]
      repeat (first
        | exact Lw.ok (by omega)
        | (refine Lw.bind (want_lw (by omega)) ?_; intro _ _ _)
        | (refine Lw.bind (paramsG_lw (fun _ h => by first | exact ih.typeOr' _ _ h | exact ih.typing' _ _ h) (by omega)) ?_; intro _ _ _)
        | (refine Lw.bind (by first | exact ih.type' _ _ (by omega)) ?_; intro _ _ _)
        | (first | exact ih.type' _ _ (by omega)))
    · intro a o h
      rw [blkF]
      repeat (first
        | exact blockG_lw (fun _ h => ih.stmt' _ _ h) (by omega)
        | (refine Lw.bind (by first | fail) ?_; intro _ _ _)
        | (first | fail))
    · intro a o h
      rw [stmtF]
      repeat (first
        | (refine Lw.bind (begin_lw (by omega)) ?_; intro _ _ _)
        | (refine Lw.bind (by first | exact ih.any' _ _ (by omega)) ?_; intro _ _ _)
        | (first | exact ih.any' _ _ (by omega)))
    · intro q a o h
      rw [letF]
      repeat (first
        | exact Lw.ok (by omega)
        | (refine Lw.bind (want_lw (by omega)) ?_; intro _ _ _)
        | (refine Lw.bind (id_lw (by omega)) ?_; intro _ _ _)
        | (refine Lw.bind (by first | exact ih.expr' _ _ (by omega) | exact ih.typeOr' _ _ (by omega)) ?_; intro _ _ _)
        | (first | exact ih.expr' _ _ (by omega) | exact ih.typeOr' _ _ (by omega)))
    · intro a o h
      rw [condiF]
      repeat (first
        | exact Lw.ok (by omega)
        | (refine Lw.bind (want_lw (by omega)) ?_; intro _ _ _)
        | (refine Lw.bind (by first | exact ih.expr' _ _ (by omega)) ?_; intro _ _ _)
        | (first | exact ih.expr' _ _ (by omega)))
    · intro a o h
      rw [elseF]
      repeat (first
        | exact Lw.ok (by omega)
        | (refine Lw.iteW (fun _ => ?_) ?_)
        | (refine Lw.bind (by first | exact ih.blk' _ _ (by omega) | exact ih.stmt' _ _ (by omega)) ?_; intro _ _ _)
        | (first | exact ih.blk' _ _ (by omega) | exact ih.stmt' _ _ (by omega)))
    · intro a o h
      rw [exprOrF]
      repeat (first
        | exact Lw.ok (by omega)
        | (refine Lw.iteS (fun _ => ?_) ?_)
        | (refine Lw.bind (by first | exact ih.expr' _ _ (by omega)) ?_; intro _ _ _)
        | (first | exact ih.expr' _ _ (by omega)))
    · intro a o h
      rw [anyF]
      repeat (first
        | exact Lw.ok (by omega)
        | (refine Lw.iteS (fun _ => ?_) ?_)
        | (refine Lw.iteW (fun _ => ?_) ?_)
        | (refine Lw.bind (want_lw (by omega)) ?_; intro _ _ _)
        | (refine Lw.bind (id_lw (by omega)) ?_; intro _ _ _)
        | (refine Lw.bind (paramsG_lw (fun _ h => by first | exact ih.typeOr' _ _ h | exact ih.typing' _ _ h) (by omega)) ?_; intro _ _ _)
        | (refine Lw.bind (by first | exact ih.expr' _ _ (by omega) | exact ih.typeOr' _ _ (by omega) | exact ih.blk' _ _ (by omega) | exact ih.let' _ _ _ (by omega) | exact ih.condi' _ _ (by omega) | exact ih.els' _ _ (by omega) | exact ih.exprOr' _ _ (by omega)) ?_; intro _ _ _)
        | (first | exact ih.expr' _ _ (by omega) | exact ih.typeOr' _ _ (by omega) | exact ih.blk' _ _ (by omega) | exact ih.let' _ _ _ (by omega) | exact ih.condi' _ _ (by omega) | exact ih.els' _ _ (by omega) | exact ih.exprOr' _ _ (by omega)))
end Go.Proofs.YtmfgcaffdkakhaaGreat
