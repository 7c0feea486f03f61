/- Own text. Package parse: what a rule answers lies behind where it began (of the model; no program is named here). -/
import Derived.Test.YtfehmdfamndcaaaGreatDoorGm21
namespace Go.Proofs.YtfehmdfamndcaaaGreatDoor
open Go.RowKit
set_option linter.unusedVariables false
set_option linter.unusedSimpArgs false
/-- an answer's place is at least c. -/
def Ge {α : Type} (c : Nat) (r : Rs α) : Prop := ∀ v b, r = .ok v b → c ≤ b
theorem Ge.bad {α : Type} {c : Nat} (p : Nat) (e : Int) : Ge c (Rs.bad p e : Rs α) := fun v b h => by cases h
theorem Ge.ok {α : Type} {c b : Nat} {v : α} (h : c ≤ b) : Ge c (Rs.ok v b) := fun u d e => by cases e; exact h
theorem Ge.mono {α : Type} {c d : Nat} {r : Rs α} (h : Ge d r) (hc : c ≤ d) : Ge c r := fun v b e => Nat.le_trans hc (h v b e)
theorem Ge.bind {α β : Type} {c d : Nat} {r : Rs α} {f : α → Nat → Rs β} (hr : Ge d r) (hf : ∀ u a1, d ≤ a1 → Ge c (f u a1)) : Ge c (r.bind f) := by
  cases r with
  | ok u a1 => exact hf u a1 (hr u a1 rfl)
  | bad p e => exact Ge.bad p e
theorem Ge.ite {α : Type} {c : Nat} {p : Prop} [Decidable p] {x y : Rs α} (hx : p → Ge c x) (hy : ¬ p → Ge c y) : Ge c (if p then x else y) := by
  split
  · exact hx (by assumption)
  · exact hy (by assumption)
theorem want_ge (L : List Tok) (s : ByteArray) (a : Nat) : Ge (a + 1) (wantR L s a) := Ge.ite (fun _ => Ge.ok (Nat.le_refl _)) (fun _ => Ge.bad _ _)
theorem id_ge (L : List Tok) (a : Nat) : Ge (a + 1) (idR L a) := Ge.ite (fun _ => Ge.ok (Nat.le_refl _)) (fun _ => Ge.bad _ _)
theorem prop_ge (L : List Tok) (a : Nat) : Ge (a + 1) (propR' L a) := Ge.ite (fun _ => Ge.ok (Nat.le_refl _)) (fun _ => Ge.bad _ _)
theorem add_ge (L : List Tok) (ns : List (List UInt8)) (a : Nat) : Ge a (addR L ns a) := Ge.ite (fun _ => Ge.bad _ _) (fun _ => Ge.ok (Nat.le_refl _))
theorem begin_ge (L : List Tok) (a o : Nat) : Ge a (beginR L a o) := Ge.ite (fun _ => Ge.bad _ _) (fun _ => Ge.ite (fun _ => Ge.bad _ _) (fun _ => Ge.ok (Nat.le_refl _)))
theorem listG_ge {σ : Type} {L : List Tok} {s : ByteArray} {F : σ → Nat → Rs (Nd × σ)} (hF : ∀ st a, Ge a (F st a)) : ∀ (n : Nat) (acc : List Nd) (st : σ) (a : Nat), Ge (a + 1) (listG L s F n acc st a)
  | 0, _, _, _ => Ge.bad _ _
  | n + 1, acc, st, a => by
    rw [listG]
    refine Ge.ite (fun _ => Ge.ok (Nat.le_refl _)) (fun _ => ?_)
    have h := hF st a
    split
    · exact Ge.bad _ _
    · rename_i x a1 e
      have := h _ _ e
      exact Ge.ite (fun _ => (listG_ge hF n _ _ _).mono (by omega)) (fun _ => Ge.ite (fun _ => (listG_ge hF n _ _ _).mono (by omega)) (fun _ => Ge.bad _ _))
theorem listE_ge {L : List Tok} {s : ByteArray} {E : Nat → Rs Nd} (hE : ∀ a, Ge (a + 1) (E a)) (a : Nat) : Ge (a + 1) (listE L E s a) :=
  listG_ge (fun _ a => ((hE a).bind (c := a + 1) (fun u b hb => Ge.ok hb)).mono (by omega)) _ _ _ _
theorem stmtsG_ge {L : List Tok} {F : Nat → Rs Nd} (hF : ∀ a, Ge (a + 1) (F a)) : ∀ (n : Nat) (acc : List Nd) (a : Nat), Ge (a + 1) (stmtsG L F n acc a)
  | 0, _, _ => Ge.bad _ _
  | n + 1, acc, a => by
    rw [stmtsG]
    refine Ge.ite (fun _ => Ge.ok (Nat.le_refl _)) (fun _ => ?_)
    have h := hF a
    split
    · exact Ge.bad _ _
    · rename_i x a1 e
      have := h _ _ e
      exact (stmtsG_ge hF n _ _).mono (by omega)
theorem blockG_ge {L : List Tok} {F : Nat → Rs Nd} (hF : ∀ a, Ge (a + 1) (F a)) (a : Nat) : Ge (a + 1) (blockG L F a) :=
  (want_ge L _ a).bind fun _ a1 h1 => (stmtsG_ge hF _ _ a1).bind fun _ a2 h2 => Ge.ok (by omega)
theorem paramsG_ge {L : List Tok} {G : Nat → Rs Nd} (hG : ∀ a, Ge a (G a)) (a : Nat) : Ge (a + 1) (paramsG L G a) :=
  (want_ge L _ a).bind fun _ a1 h1 => (listG_ge (fun ns b => (add_ge L ns b).bind fun _ c hc => (id_ge L b).bind fun _ c hc => (hG c).bind fun _ d hd => Ge.ok (by omega)) _ _ _ a1).bind fun _ a2 h2 => Ge.ok (by omega)
theorem binG_ge {L : List Tok} {B : Nat → Nat → Rs Nd} (hB : ∀ m a, Ge (a + 1) (B m a)) (m : Nat) : ∀ (n : Nat) (nd : Nd) (a : Nat), Ge a (binG L B m n nd a)
  | 0, _, _ => Ge.bad _ _
  | n + 1, nd, a => by
    rw [binG]
    exact Ge.ite (fun _ => Ge.ok (Nat.le_refl _)) (fun _ => (hB _ _).bind fun _ a2 h2 => (binG_ge hB m n _ _).mono (by omega))
theorem postG_ge {L : List Tok} {E : Nat → Rs Nd} (hE : ∀ a, Ge (a + 1) (E a)) : ∀ (n : Nat) (nd : Nd) (a : Nat), Ge a (postG L E n nd a)
  | 0, _, _ => Ge.bad _ _
  | n + 1, nd, a => by
    rw [postG]
    refine Ge.ite (fun _ => (prop_ge L _).bind fun _ a2 h2 => (postG_ge hE n _ _).mono (by omega)) (fun _ => Ge.ite (fun _ => (hE _).bind fun _ a2 h2 => (want_ge L _ _).bind fun _ a3 h3 => (postG_ge hE n _ _).mono (by omega)) (fun _ => Ge.ite (fun _ => (listE_ge hE _).bind fun _ a2 h2 => (postG_ge hE n _ _).mono (by omega)) (fun _ => Ge.ok (Nat.le_refl _))))
theorem unionG_ge {L : List Tok} {E : Nat → Rs Nd} (hE : ∀ a, Ge (a + 1) (E a)) : ∀ (n : Nat) (acc : List Nd) (a : Nat), Ge (a + 1) (unionG L E n acc a)
  | 0, _, _ => Ge.bad _ _
  | n + 1, acc, a => by
    rw [unionG]
    exact (hE a).bind fun _ a1 h1 => Ge.ite (fun _ => (unionG_ge hE n _ _).mono (by omega)) (fun _ => Ge.ok (by omega))
theorem arrayG_ge {L : List Tok} : ∀ (n : Nat) (nd : Nd) (a : Nat), Ge a (arrayG L n nd a)
  | 0, _, _ => Ge.bad _ _
  | n + 1, nd, a => by
    rw [arrayG]
    exact Ge.ite (fun _ => (want_ge L _ _).bind fun _ a2 h2 => (arrayG_ge n _ _).mono (by omega)) (fun _ => Ge.ok (Nat.le_refl _))
theorem fieldsG_ge {L : List Tok} {T : Nat → Rs Nd} (hT : ∀ a, Ge a (T a)) : ∀ (n : Nat) (acc : List Nd) (ns : List (List UInt8)) (a : Nat), Ge (a + 1) (fieldsG L T n acc ns a)
  | 0, _, _, _ => Ge.bad _ _
  | n + 1, acc, ns, a => by
    rw [fieldsG]
    exact Ge.ite (fun _ => Ge.ok (Nat.le_refl _)) (fun _ => (add_ge L _ _).bind fun _ _ _ => (prop_ge L a).bind fun _ a1 h1 => (hT a1).bind fun _ a2 h2 => (want_ge L _ a2).bind fun _ a3 h3 => (fieldsG_ge hT n _ _ _).mono (by omega))
structure Mono (L : List Tok) (f : Nat) : Prop where
  expr' : ∀ (a : Nat) (o : Nat), Ge (a + 1) (exprF L f a o)
  assign' : ∀ (nd : Nd) (a : Nat) (o : Nat), Ge (a) (assignF L f nd a o)
  cond' : ∀ (a : Nat) (o : Nat), Ge (a + 1) (condF L f a o)
  bin' : ∀ (m : Nat) (a : Nat) (o : Nat), Ge (a + 1) (binF L f m a o)
  unary' : ∀ (a : Nat) (o : Nat), Ge (a + 1) (unaryF L f a o)
  post' : ∀ (a : Nat) (o : Nat), Ge (a + 1) (postF L f a o)
  prim' : ∀ (a : Nat) (o : Nat), Ge (a + 1) (primF L f a o)
  wprim' : ∀ (a : Nat) (o : Nat), Ge (a + 1) (wprimF L f a o)
  sprim' : ∀ (a : Nat) (o : Nat), Ge (a + 1) (sprimF L f a o)
  prop' : ∀ (a : Nat) (o : Nat), Ge (a + 1) (propF L f a o)
  arrow' : ∀ (a : Nat) (o : Nat), Ge (a + 1) (arrowF L f a o)
  abody' : ∀ (a : Nat) (o : Nat), Ge (a + 1) (abodyF L f a o)
  typeOr' : ∀ (a : Nat) (o : Nat), Ge (a) (typeOrF L f a o)
  typing' : ∀ (a : Nat) (o : Nat), Ge (a + 1) (typingF L f a o)
  type' : ∀ (a : Nat) (o : Nat), Ge (a + 1) (typeF L f a o)
  ptype' : ∀ (a : Nat) (o : Nat), Ge (a + 1) (ptypeF L f a o)
  rtype' : ∀ (a : Nat) (o : Nat), Ge (a + 1) (rtypeF L f a o)
  objt' : ∀ (a : Nat) (o : Nat), Ge (a + 1) (objtF L f a o)
  ftype' : ∀ (a : Nat) (o : Nat), Ge (a + 1) (ftypeF L f a o)
  blk' : ∀ (a : Nat) (o : Nat), Ge (a + 1) (blkF L f a o)
  stmt' : ∀ (a : Nat) (o : Nat), Ge (a + 1) (stmtF L f a o)
  let' : ∀ (q : Int) (a : Nat) (o : Nat), Ge (a + 1) (letF L f q a o)
  condi' : ∀ (a : Nat) (o : Nat), Ge (a + 1) (condiF L f a o)
  els' : ∀ (a : Nat) (o : Nat), Ge (a) (elseF L f a o)
  exprOr' : ∀ (a : Nat) (o : Nat), Ge (a) (exprOrF L f a o)
  any' : ∀ (a : Nat) (o : Nat), Ge (a + 1) (anyF L f a o)
set_option maxRecDepth 100000 in
set_option maxHeartbeats 20000000 in
theorem mono_all (L : List Tok) : ∀ f, Mono L f := by
  intro f
  induction f with
  | zero => constructor <;> (intros; intro v b h; simp [exprF, assignF, condF, binF, unaryF, postF, primF, wprimF, sprimF, propF, arrowF, abodyF, typeOrF, typingF, typeF, ptypeF, rtypeF, objtF, ftypeF, blkF, stmtF, letF, condiF, elseF, exprOrF, anyF] at h)
  | succ f ih =>
    have hE := fun o a => ih.expr' a o
    constructor
    all_goals
      first
        | (intro a o; first | rw [exprF] | rw [condF] | rw [unaryF] | rw [postF] | rw [primF] | rw [wprimF] | rw [sprimF] | rw [propF] | rw [arrowF] | rw [abodyF] | rw [typeOrF] | rw [typingF] | rw [typeF] | rw [ptypeF] | rw [rtypeF] | rw [objtF] | rw [ftypeF] | rw [blkF] | rw [stmtF] | rw [condiF] | rw [elseF] | rw [exprOrF] | rw [anyF])
        | (intro nd a o; first | rw [assignF])
        | (intro m a o; first | rw [binF])
        | (intro q a o; first | rw [letF])
      repeat (first
        | exact (blockG_ge (fun a' => ih.stmt' _ _) _).mono (by omega)
        | exact Ge.bad _ _
        | exact Ge.ok (by omega)
        | (refine Ge.ite (fun _ => ?_) (fun _ => ?_))
        | (refine Ge.bind (begin_ge L _ _) ?_; intro _ _ _)
        | (refine Ge.bind (want_ge L _ _) ?_; intro _ _ _)
        | (refine Ge.bind (id_ge L _) ?_; intro _ _ _)
        | (refine Ge.bind (prop_ge L _) ?_; intro _ _ _)
        | (refine Ge.bind (listE_ge (fun a' => by first | exact ih.expr' _ _ | exact ih.prop' _ _) _) ?_; intro _ _ _)
        | (refine Ge.bind (paramsG_ge (fun a' => by first | exact ih.typeOr' _ _ | exact (ih.typing' _ _).mono (by omega)) _) ?_; intro _ _ _)
        | (refine Ge.bind (unionG_ge (fun a' => ih.ptype' _ _) _ _ _) ?_; intro _ _ _)
        | (refine Ge.bind (fieldsG_ge (fun a' => (ih.typing' _ _).mono (by omega)) _ _ _ _) ?_; intro _ _ _)
        | exact (binG_ge (fun m' a' => ih.bin' _ _ _) _ _ _ _).mono (by omega)
        | exact (postG_ge (fun a' => ih.expr' _ _) _ _ _).mono (by omega)
        | exact (arrayG_ge _ _ _).mono (by omega)
        | (refine Ge.bind (by first | exact ih.expr' _ _ | exact ih.assign' _ _ _ | exact ih.cond' _ _ | exact ih.bin' _ _ _ | exact ih.unary' _ _ | exact ih.post' _ _ | exact ih.prim' _ _ | exact ih.wprim' _ _ | exact ih.sprim' _ _ | exact ih.prop' _ _ | exact ih.arrow' _ _ | exact ih.abody' _ _ | exact ih.typeOr' _ _ | exact ih.typing' _ _ | exact ih.type' _ _ | exact ih.ptype' _ _ | exact ih.rtype' _ _ | exact ih.objt' _ _ | exact ih.ftype' _ _ | exact ih.blk' _ _ | exact ih.stmt' _ _ | exact ih.let' _ _ _ | exact ih.condi' _ _ | exact ih.els' _ _ | exact ih.exprOr' _ _ | exact ih.any' _ _) ?_; intro _ _ _)
        | (first | exact (ih.expr' _ _).mono (by omega) | exact (ih.assign' _ _ _).mono (by omega) | exact (ih.cond' _ _).mono (by omega) | exact (ih.bin' _ _ _).mono (by omega) | exact (ih.unary' _ _).mono (by omega) | exact (ih.post' _ _).mono (by omega) | exact (ih.prim' _ _).mono (by omega) | exact (ih.wprim' _ _).mono (by omega) | exact (ih.sprim' _ _).mono (by omega) | exact (ih.prop' _ _).mono (by omega) | exact (ih.arrow' _ _).mono (by omega) | exact (ih.abody' _ _).mono (by omega) | exact (ih.typeOr' _ _).mono (by omega) | exact (ih.typing' _ _).mono (by omega) | exact (ih.type' _ _).mono (by omega) | exact (ih.ptype' _ _).mono (by omega) | exact (ih.rtype' _ _).mono (by omega) | exact (ih.objt' _ _).mono (by omega) | exact (ih.ftype' _ _).mono (by omega) | exact (ih.blk' _ _).mono (by omega) | exact (ih.stmt' _ _).mono (by omega) | exact (ih.let' _ _ _).mono (by omega) | exact (ih.condi' _ _).mono (by omega) | exact (ih.els' _ _).mono (by omega) | exact (ih.exprOr' _ _).mono (by omega) | exact (ih.any' _ _).mono (by omega)))
end Go.Proofs.YtfehmdfamndcaaaGreatDoor
