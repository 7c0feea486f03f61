/- Own text. Package parse: a tree has at most two trees a token (of the model; no program is named here). -/
import Derived.Test.YtmfgcaffdkakhaaM2
namespace Go.Proofs.Ytmfgcaffdkakhaa
open Go.RowKit
set_option linter.unusedVariables false
set_option linter.unusedSimpArgs false

/-- of whatever is read this holds. -/
def Zg {α : Type} (P : α → Nat → Prop) (r : Rs α) : Prop := ∀ x b, r = .ok x b → P x b
theorem Zg.bad {α : Type} {P : α → Nat → Prop} {p : Nat} {e : Int} : Zg P (.bad p e : Rs α) := fun x b h => by cases h
theorem Zg.ok {α : Type} {P : α → Nat → Prop} {v : α} {b : Nat} (h : P v b) : Zg P (.ok v b) := fun x c e => by cases e; exact h
theorem Zg.bind {α β : Type} {P : α → Nat → Prop} {Q : β → Nat → Prop} {r : Rs α} {f : α → Nat → Rs β} (hr : Zg P r) (hf : ∀ u a1, P u a1 → Zg Q (f u a1)) : Zg Q (r.bind f) := by
  cases r with
  | ok u a1 => exact hf u a1 (hr u a1 rfl)
  | bad p e => exact Zg.bad
theorem Zg.weak {α : Type} {P Q : α → Nat → Prop} {r : Rs α} (h : Zg P r) (hq : ∀ x b, P x b → Q x b) : Zg Q r := fun x b e => hq x b (h x b e)
theorem Zg.ite {α : Type} {P : α → Nat → Prop} {p : Prop} [Decidable p] {x y : Rs α} (hx : p → Zg P x) (hy : ¬ p → Zg P y) : Zg P (if p then x else y) := by
  split
  · rename_i h; exact hx h
  · rename_i h; exact hy h
theorem sizes_app' : ∀ (x y : List Nd), sizes (x ++ y) = sizes x + sizes y
  | [], y => by simp [sizes]
  | a :: x, y => by simp only [List.cons_append, sizes, sizes_app' x y]; omega
variable {L : List Tok}
theorem want_sz {a : Nat} {s : ByteArray} : Zg (fun _ b => b = a + 1) (wantR L s a) := Zg.ite (fun _ => Zg.ok rfl) (fun _ => Zg.bad)
theorem id_sz {a : Nat} : Zg (fun _ b => b = a + 1) (idR L a) := Zg.ite (fun _ => Zg.ok rfl) (fun _ => Zg.bad)
theorem prop_sz {a : Nat} : Zg (fun _ b => b = a + 1) (propR' L a) := Zg.ite (fun _ => Zg.ok rfl) (fun _ => Zg.bad)
theorem add_sz {a : Nat} {ns : List (List UInt8)} : Zg (fun _ b => b = a) (addR L ns a) := Zg.ite (fun _ => Zg.bad) (fun _ => Zg.ok rfl)
theorem begin_sz {a o : Nat} : Zg (fun _ b => b = a) (beginR L a o) := Zg.ite (fun _ => Zg.bad) (fun _ => Zg.ite (fun _ => Zg.bad) (fun _ => Zg.ok rfl))
theorem listG_sz {σ : Type} {s : ByteArray} {F : σ → Nat → Rs (Nd × σ)} (hF : ∀ st a, Zg (fun x b => x.1.size + 2 * a ≤ 2 * b) (F st a)) : ∀ (n : Nat) (acc : List Nd) (st : σ) (a : Nat), Zg (fun l b => sizes l + 2 * a + 2 ≤ sizes acc + 2 * b) (listG L s F n acc st a)
  | 0, _, _, _ => Zg.bad
  | n + 1, acc, st, a => by
    rw [listG]
    refine Zg.ite (fun _ => Zg.ok (by omega)) (fun _ => ?_)
    cases e : F st a with
    | bad p er => exact Zg.bad
    | ok x a1 =>
      have h1 := hF st a x a1 e
      dsimp only at h1 ⊢
      have e2 : sizes (acc ++ [x.1]) = sizes acc + x.1.size := by rw [sizes_app']; simp [sizes]
      refine Zg.ite (fun _ => (listG_sz hF n _ _ _).weak (fun l b h => ?_)) (fun _ => Zg.ite (fun _ => (listG_sz hF n _ _ _).weak (fun l b h => ?_)) (fun _ => Zg.bad))
      · (try dsimp only at h); omega
      · (try dsimp only at h); omega
theorem listE_sz {s : ByteArray} {E : Nat → Rs Nd} (hE : ∀ a, Zg (fun x b => x.size + 2 * a ≤ 2 * b) (E a)) {a : Nat} : Zg (fun l b => sizes l + 2 * a + 2 ≤ 2 * b) (listE L E s a) := by
  unfold listE
  refine (listG_sz (fun st a => (hE a).bind (fun x c h => Zg.ok h)) _ _ _ _).weak (fun l b h => ?_)
  simp only [sizes] at h
  omega
theorem stmtsG_sz {F : Nat → Rs Nd} (hF : ∀ a, Zg (fun x b => x.size + 2 * a ≤ 2 * b) (F a)) : ∀ (n : Nat) (acc : List Nd) (a : Nat), Zg (fun l b => sizes l + 2 * a + 2 ≤ sizes acc + 2 * b) (stmtsG L F n acc a)
  | 0, _, _ => Zg.bad
  | n + 1, acc, a => by
    rw [stmtsG]
    refine Zg.ite (fun _ => Zg.ok (by omega)) (fun _ => ?_)
    cases e : F a with
    | bad p er => exact Zg.bad
    | ok x a1 =>
      have h1 := hF a x a1 e
      dsimp only at h1 ⊢
      have e2 : sizes (acc ++ [x]) = sizes acc + x.size := by rw [sizes_app']; simp [sizes]
      exact (stmtsG_sz hF n _ _).weak (fun l b h => by (try dsimp only at h); omega)
theorem blockG_sz {F : Nat → Rs Nd} (hF : ∀ a, Zg (fun x b => x.size + 2 * a ≤ 2 * b) (F a)) {a : Nat} : Zg (fun x b => x.size + 3 + 2 * a ≤ 2 * b) (blockG L F a) :=
  want_sz.bind fun _ _ h1 => (stmtsG_sz hF _ _ _).bind fun l b h2 => Zg.ok (by simp only [mk0, Nd.size, sizes] at *; omega)
theorem paramsG_sz {G : Nat → Rs Nd} (hG : ∀ a, Zg (fun x b => x.size + 2 * a ≤ 2 * b + 1) (G a)) {a : Nat} : Zg (fun x b => x.size + 3 + 2 * a ≤ 2 * b) (paramsG L G a) :=
  want_sz.bind fun _ _ h1 => (listG_sz (F := parG L G) (fun ns b => add_sz.bind fun _ _ h3 => id_sz.bind fun _ _ h4 => (hG _).bind fun y c h5 => Zg.ok (by simp only [mk0, Nd.size, sizes] at *; omega)) _ _ _ _).bind fun l b h2 => Zg.ok (by simp only [mk0, Nd.size, sizes] at *; omega)
theorem binG_sz {B : Nat → Nat → Rs Nd} (hB : ∀ m a, Zg (fun x b => x.size + 2 * a ≤ 2 * b) (B m a)) (m a0 : Nat) : ∀ (n : Nat) (nd : Nd) (a : Nat), nd.size + 2 * a0 ≤ 2 * a → Zg (fun x b => x.size + 2 * a0 ≤ 2 * b) (binG L B m n nd a)
  | 0, _, _, _ => Zg.bad
  | n + 1, nd, a, h => by
    rw [binG]
    exact Zg.ite (fun _ => Zg.ok h) (fun _ => (hB _ _).bind fun r a2 h2 => binG_sz hB m a0 n _ _ (by simp only [mk0, Nd.size, sizes]; omega))
theorem postG_sz {E : Nat → Rs Nd} (hE : ∀ a, Zg (fun x b => x.size + 2 * a ≤ 2 * b) (E a)) (a0 : Nat) : ∀ (n : Nat) (nd : Nd) (a : Nat), nd.size + 2 * a0 ≤ 2 * a → Zg (fun x b => x.size + 2 * a0 ≤ 2 * b) (postG L E n nd a)
  | 0, _, _, _ => Zg.bad
  | n + 1, nd, a, h => by
    rw [postG]
    exact Zg.ite (fun _ => prop_sz.bind fun _ _ h2 => postG_sz hE a0 n _ _ (by simp only [mk0, Nd.size, sizes]; omega)) (fun _ => Zg.ite (fun _ => (hE _).bind fun _ _ h2 => want_sz.bind fun _ _ h3 => postG_sz hE a0 n _ _ (by simp only [mk0, Nd.size, sizes]; omega)) (fun _ => Zg.ite (fun _ => (listE_sz hE).bind fun _ _ h2 => postG_sz hE a0 n _ _ (by simp only [mk0, Nd.size, sizes]; omega)) (fun _ => Zg.ok h)))
theorem part_sz (x : Nd) : sizes (if x.k = 32 then x.ks else [x]) ≤ x.size ∧ (oneOr (if x.k = 32 then x.ks else [x])).size ≤ x.size := by
  have hs : x.size = 1 + sizes x.ks := by
    cases x
    rfl
  split
  · refine ⟨by omega, ?_⟩
    unfold oneOr
    split
    · rename_i y e
      rw [hs, e]
      simp only [sizes]
      omega
    · simp only [mk0, Nd.size]
      omega
  · exact ⟨by simp [sizes], Nat.le_refl _⟩
theorem oneOr_sz (l : List Nd) : (oneOr l).size ≤ 1 + sizes l := by
  unfold oneOr
  split
  · simp only [sizes]; omega
  · simp only [mk0, Nd.size]; omega
theorem unionG_sz {E : Nat → Rs Nd} (hE : ∀ a, Zg (fun x b => x.size + 2 * a ≤ 2 * b) (E a)) : ∀ (n : Nat) (acc : List Nd) (a : Nat), Zg (fun l b => sizes l + 2 * a ≤ sizes acc + 2 * b) (unionG L E n acc a)
  | 0, _, _ => Zg.bad
  | n + 1, acc, a => by
    rw [unionG]
    refine (hE a).bind fun x a1 h1 => ?_
    try dsimp only at h1
    have e2 : sizes (acc ++ (if x.k = 32 then x.ks else [x])) ≤ sizes acc + x.size := by rw [sizes_app']; have := (part_sz x).1; omega
    exact Zg.ite (fun _ => (unionG_sz hE n _ _).weak (fun l b h => by (try dsimp only at h); omega)) (fun _ => Zg.ok (by omega))
theorem union_sz {E : Nat → Rs Nd} (hE : ∀ a, Zg (fun x b => x.size + 2 * a ≤ 2 * b) (E a)) (n a : Nat) : Zg (fun l b => (oneOr l).size + 2 * a ≤ 2 * b) (unionG L E n [] a) := by
  cases n with
  | zero => exact Zg.bad
  | succ n =>
    rw [unionG]
    refine (hE a).bind fun x a1 h1 => ?_
    try dsimp only at h1
    have h3 := part_sz x
    rw [List.nil_append]
    exact Zg.ite (fun _ => (unionG_sz hE n _ _).weak (fun l b h => by (try dsimp only at h); have := oneOr_sz l; omega)) (fun _ => Zg.ok (by omega))
theorem arrayG_sz (a0 : Nat) : ∀ (n : Nat) (nd : Nd) (a : Nat), nd.size + 2 * a0 ≤ 2 * a → Zg (fun x b => x.size + 2 * a0 ≤ 2 * b) (arrayG L n nd a)
  | 0, _, _, _ => Zg.bad
  | n + 1, nd, a, h => by
    rw [arrayG]
    exact Zg.ite (fun _ => want_sz.bind fun _ _ h2 => arrayG_sz a0 n _ _ (by simp only [mk0, Nd.size, sizes]; omega)) (fun _ => Zg.ok h)
theorem fieldsG_sz {T : Nat → Rs Nd} (hT : ∀ a, Zg (fun x b => x.size + 2 * a ≤ 2 * b + 1) (T a)) : ∀ (n : Nat) (acc : List Nd) (ns : List (List UInt8)) (a : Nat), Zg (fun l b => sizes l + 2 * a + 2 ≤ sizes acc + 2 * b) (fieldsG L T n acc ns a)
  | 0, _, _, _ => Zg.bad
  | n + 1, acc, ns, a => by
    rw [fieldsG]
    refine Zg.ite (fun _ => Zg.ok (by omega)) (fun _ => add_sz.bind fun _ _ h0 => prop_sz.bind fun _ _ h1 => (hT _).bind fun y _ h2 => want_sz.bind fun _ _ h3 => (fieldsG_sz hT n _ _ _).weak (fun l b h => ?_))
    rw [sizes_app'] at h
    simp only [mk0, Nd.size, sizes] at h h2
    omega
structure SzA (L : List Tok) (f : Nat) : Prop where
  expr' : ∀ (a : Nat) (o : Nat), Zg (fun x b => x.size + 2 * a ≤ 2 * b) (exprF L f a o)
  assign' : ∀ (nd : Nd) (a : Nat) (o : Nat), ∀ a0, nd.size + 2 * a0 ≤ 2 * a → Zg (fun x b => x.size + 2 * a0 ≤ 2 * b) (assignF L f nd a o)
  cond' : ∀ (a : Nat) (o : Nat), Zg (fun x b => x.size + 2 * a ≤ 2 * b) (condF L f a o)
  bin' : ∀ (m : Nat) (a : Nat) (o : Nat), Zg (fun x b => x.size + 2 * a ≤ 2 * b) (binF L f m a o)
  unary' : ∀ (a : Nat) (o : Nat), Zg (fun x b => x.size + 2 * a ≤ 2 * b) (unaryF L f a o)
  post' : ∀ (a : Nat) (o : Nat), Zg (fun x b => x.size + 2 * a ≤ 2 * b) (postF L f a o)
  prim' : ∀ (a : Nat) (o : Nat), Zg (fun x b => x.size + 2 * a ≤ 2 * b) (primF L f a o)
  wprim' : ∀ (a : Nat) (o : Nat), Zg (fun x b => x.size + 2 * a ≤ 2 * b) (wprimF L f a o)
  sprim' : ∀ (a : Nat) (o : Nat), Zg (fun x b => x.size + 2 * a ≤ 2 * b) (sprimF L f a o)
  prop' : ∀ (a : Nat) (o : Nat), Zg (fun x b => x.size + 2 * a ≤ 2 * b) (propF L f a o)
  arrow' : ∀ (a : Nat) (o : Nat), Zg (fun x b => x.size + 2 * a ≤ 2 * b) (arrowF L f a o)
  abody' : ∀ (a : Nat) (o : Nat), Zg (fun x b => x.size + 2 * a ≤ 2 * b + 2) (abodyF L f a o)
  typeOr' : ∀ (a : Nat) (o : Nat), Zg (fun x b => x.size + 2 * a ≤ 2 * b + 1) (typeOrF L f a o)
  typing' : ∀ (a : Nat) (o : Nat), Zg (fun x b => x.size + 2 * a ≤ 2 * b + 1) (typingF L f a o)
  type' : ∀ (a : Nat) (o : Nat), Zg (fun x b => x.size + 2 * a ≤ 2 * b) (typeF L f a o)
  ptype' : ∀ (a : Nat) (o : Nat), Zg (fun x b => x.size + 2 * a ≤ 2 * b) (ptypeF L f a o)
  rtype' : ∀ (a : Nat) (o : Nat), Zg (fun x b => x.size + 2 * a ≤ 2 * b) (rtypeF L f a o)
  objt' : ∀ (a : Nat) (o : Nat), Zg (fun x b => x.size + 2 * a + 1 ≤ 2 * b) (objtF L f a o)
  ftype' : ∀ (a : Nat) (o : Nat), Zg (fun x b => x.size + 2 * a ≤ 2 * b) (ftypeF L f a o)
  blk' : ∀ (a : Nat) (o : Nat), Zg (fun x b => x.size + 3 + 2 * a ≤ 2 * b) (blkF L f a o)
  stmt' : ∀ (a : Nat) (o : Nat), Zg (fun x b => x.size + 2 * a ≤ 2 * b) (stmtF L f a o)
  let' : ∀ (q : Int) (a : Nat) (o : Nat), Zg (fun x b => x.size + 2 * a ≤ 2 * b) (letF L f q a o)
  condi' : ∀ (a : Nat) (o : Nat), Zg (fun x b => x.size + 2 * a ≤ 2 * b) (condiF L f a o)
  els' : ∀ (a : Nat) (o : Nat), Zg (fun x b => x.size + 2 * a ≤ 2 * b + 1) (elseF L f a o)
  exprOr' : ∀ (a : Nat) (o : Nat), Zg (fun x b => x.size + 2 * a ≤ 2 * b + 1) (exprOrF L f a o)
  any' : ∀ (a : Nat) (o : Nat), Zg (fun x b => x.size + 2 * a ≤ 2 * b) (anyF L f a o)
set_option maxHeartbeats 8000000 in
theorem sz_all (L : List Tok) : ∀ f, SzA L f := by
  intro f
  induction f with
  | zero => constructor <;> (intros; simp [exprF, assignF, condF, binF, unaryF, postF, primF, wprimF, sprimF, propF, arrowF, abodyF, typeOrF, typingF, typeF, ptypeF, rtypeF, objtF, ftypeF, blkF, stmtF, letF, condiF, elseF, exprOrF, anyF]; exact Zg.bad)
  | succ f ih =>
    constructor
    all_goals
      intros
      first | rw [exprF] | rw [assignF] | rw [condF] | rw [binF] | rw [unaryF] | rw [postF] | rw [primF] | rw [wprimF] | rw [sprimF] | rw [propF] | rw [arrowF] | rw [abodyF] | rw [typeOrF] | rw [typingF] | rw [typeF] | rw [ptypeF] | rw [rtypeF] | rw [objtF] | rw [ftypeF] | rw [blkF] | rw [stmtF] | rw [letF] | rw [condiF] | rw [elseF] | rw [exprOrF] | rw [anyF]
      repeat (first
        | exact Zg.bad
        | exact Zg.ok (by omega)
        | exact Zg.ok (by simp only [mk0, noneN, Nd.size, sizes]; omega)
        | exact blockG_sz (fun _ => ih.stmt' _ _)
        | exact binG_sz (fun _ _ => ih.bin' _ _ _) _ _ _ _ _ (by omega)
        | exact postG_sz (fun _ => ih.expr' _ _) _ _ _ _ (by omega)
        | exact arrayG_sz _ _ _ _ (by omega)
        | (refine Zg.ite (fun _ => ?_) (fun _ => ?_))
        | (refine Zg.bind begin_sz ?_; intro _ _ hh; (try dsimp only at hh))
        | (refine Zg.bind want_sz ?_; intro _ _ hh; (try dsimp only at hh))
        | (refine Zg.bind id_sz ?_; intro _ _ hh; (try dsimp only at hh))
        | (refine Zg.bind prop_sz ?_; intro _ _ hh; (try dsimp only at hh))
        | (refine Zg.bind (listE_sz (fun _ => by first | exact ih.expr' _ _ | exact ih.prop' _ _)) ?_; intro _ _ hh; (try dsimp only at hh))
        | (refine Zg.bind (paramsG_sz (fun _ => by first | exact ih.typeOr' _ _ | exact ih.typing' _ _)) ?_; intro _ _ hh; (try dsimp only at hh))
        | (refine Zg.bind (union_sz (fun _ => ih.ptype' _ _) _ _) ?_; intro _ _ hh; (try dsimp only at hh))
        | (refine Zg.bind (fieldsG_sz (fun _ => ih.typing' _ _) _ _ _ _) ?_; intro _ _ hh; simp only [sizes] at hh)
        | (refine Zg.bind (by first | exact ih.expr' _ _ | exact ih.assign' _ _ _ _ (by omega) | exact ih.cond' _ _ | exact ih.bin' _ _ _ | exact ih.unary' _ _ | exact ih.post' _ _ | exact ih.prim' _ _ | exact ih.wprim' _ _ | exact ih.sprim' _ _ | exact ih.prop' _ _ | exact ih.arrow' _ _ | exact ih.abody' _ _ | exact ih.typeOr' _ _ | exact ih.typing' _ _ | exact ih.type' _ _ | exact ih.ptype' _ _ | exact ih.rtype' _ _ | exact ih.objt' _ _ | exact ih.ftype' _ _ | exact ih.blk' _ _ | exact ih.stmt' _ _ | exact ih.let' _ _ _ | exact ih.condi' _ _ | exact ih.els' _ _ | exact ih.exprOr' _ _ | exact ih.any' _ _) ?_; intro _ _ hh; (try dsimp only at hh))
        | (first | exact ih.expr' _ _ | exact ih.assign' _ _ _ _ (by omega) | exact ih.cond' _ _ | exact ih.bin' _ _ _ | exact ih.unary' _ _ | exact ih.post' _ _ | exact ih.prim' _ _ | exact ih.wprim' _ _ | exact ih.sprim' _ _ | exact ih.prop' _ _ | exact ih.arrow' _ _ | exact ih.abody' _ _ | exact ih.typeOr' _ _ | exact ih.typing' _ _ | exact ih.type' _ _ | exact ih.ptype' _ _ | exact ih.rtype' _ _ | exact ih.objt' _ _ | exact ih.ftype' _ _ | exact ih.blk' _ _ | exact ih.stmt' _ _ | exact ih.let' _ _ _ | exact ih.condi' _ _ | exact ih.els' _ _ | exact ih.exprOr' _ _ | exact ih.any' _ _)
        | (first | exact (ih.expr' _ _).weak (fun _ _ h => by (try dsimp only at h); omega) | exact (ih.cond' _ _).weak (fun _ _ h => by (try dsimp only at h); omega) | exact (ih.bin' _ _ _).weak (fun _ _ h => by (try dsimp only at h); omega) | exact (ih.unary' _ _).weak (fun _ _ h => by (try dsimp only at h); omega) | exact (ih.post' _ _).weak (fun _ _ h => by (try dsimp only at h); omega) | exact (ih.prim' _ _).weak (fun _ _ h => by (try dsimp only at h); omega) | exact (ih.wprim' _ _).weak (fun _ _ h => by (try dsimp only at h); omega) | exact (ih.sprim' _ _).weak (fun _ _ h => by (try dsimp only at h); omega) | exact (ih.prop' _ _).weak (fun _ _ h => by (try dsimp only at h); omega) | exact (ih.arrow' _ _).weak (fun _ _ h => by (try dsimp only at h); omega) | exact (ih.abody' _ _).weak (fun _ _ h => by (try dsimp only at h); omega) | exact (ih.typeOr' _ _).weak (fun _ _ h => by (try dsimp only at h); omega) | exact (ih.typing' _ _).weak (fun _ _ h => by (try dsimp only at h); omega) | exact (ih.type' _ _).weak (fun _ _ h => by (try dsimp only at h); omega) | exact (ih.ptype' _ _).weak (fun _ _ h => by (try dsimp only at h); omega) | exact (ih.rtype' _ _).weak (fun _ _ h => by (try dsimp only at h); omega) | exact (ih.objt' _ _).weak (fun _ _ h => by (try dsimp only at h); omega) | exact (ih.ftype' _ _).weak (fun _ _ h => by (try dsimp only at h); omega) | exact (ih.blk' _ _).weak (fun _ _ h => by (try dsimp only at h); omega) | exact (ih.stmt' _ _).weak (fun _ _ h => by (try dsimp only at h); omega) | exact (ih.let' _ _ _).weak (fun _ _ h => by (try dsimp only at h); omega) | exact (ih.condi' _ _).weak (fun _ _ h => by (try dsimp only at h); omega) | exact (ih.els' _ _).weak (fun _ _ h => by (try dsimp only at h); omega) | exact (ih.exprOr' _ _).weak (fun _ _ h => by (try dsimp only at h); omega) | exact (ih.any' _ _).weak (fun _ _ h => by (try dsimp only at h); omega)))
end Go.Proofs.Ytmfgcaffdkakhaa
