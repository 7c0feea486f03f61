/- Own text. LexShows, walked. -/
import Derived.Test.YtaiefheejgfefaaDoorXSure
import Derived.Test.YtaiefheejgfefaaDoorX15
import Derived.Maps.AppendAt
import Derived.Deep.AppendSrc
namespace Go.Proofs.YtaiefheejgfefaaDoor.lexShows
open Go.RowKit Go.Maps
set_option linter.unusedVariables false

/-- append to nothing, whatever tokens are laid behind. -/
theorem run_appT (w : World) (ty : TypeId) (y : Value) (S : List (Tk × Int)) (hy : TSrc w y S) (hb : S.length * 40 ≤ 140737488355328) :
    ∃ v' w', (Builtin.append_ #[22, 22] ty #[.slice none 0 0, y]).run Tryd.prog w = .ok v' w' ∧ ToksAt w' w.heap.size v' S ∧ w.grownBy w' none := by
  obtain ⟨i0, hi0, hz0, hz1, hz2⟩ := info_parts info_tok
  rcases hy with ⟨ad, c, rfl, hc⟩ | ⟨rfl, c, rfl⟩
  · obtain ⟨v', w', h1, h2, h3, _, h5⟩ := run_append_own_at (P := Tryd.prog) w w.heap.size 22 ty 36 i0 _ 4 40 Tryd.underlying22 hi0 hz0 hz1 hz2 rfl (by omega) (.slice none 0 0) 0 [] (World.ownsRow_nil _ _ _ _) ad S.length c (rowT S) (rowT_length S) hc (rowT_ones S) (by unfold maxLen; omega) (by omega) (Nat.le_refl _)
    refine ⟨v', w', h1, ?_, h3⟩
    simpa using h2
  · refine ⟨.slice none 0 0, w, ?_, World.ownsRow_nil _ _ _ _, ⟨rfl, rfl, rfl, Nat.le_refl _, fun _ _ _ => rfl⟩⟩
    simp [Builtin.append_, run_underlying Tryd.underlying22, Builtin.lenOf]
    rw [run_firstCells_none w 4 0 0 c]
    rfl
theorem wpList_appT (w : World) {ops : Array Oper} {rest : List Oper} {o : Oper} {a : Act} {Q : Exit → Act → World → Prop} (hgd : o.guard = none) (s x : Operand)
    (ho : o.op = .call { callee := .builtin .append, args := #[s, x], argTypes := #[22, 22] }) (hs : a.eval s = .slice none 0 0) (y : Value) (S : List (Tk × Int)) (hx : a.eval x = y) (hy : TSrc w y S)
    (hb : S.length * 40 ≤ 140737488355328)
    (h : ∀ v' w', ToksAt w' w.heap.size v' S → w.grownBy w' none → wpList Tryd.prog ops Q rest (a.put o.dst v') w') :
    wpList Tryd.prog ops Q (o :: rest) a w := by
  refine wpList_plain hgd fun K hK => ?_
  obtain ⟨v', w', hr, h2, h3⟩ := run_appT w o.type y S hy hb
  unfold Oper.wp execOp
  simp only [ho, resolve, invoke, builtin, Sem.run_bind, Sem.run_pure, Result.andThen_ok, List.map_toArray, List.map_cons, List.map_nil, hs, hx, hr]
  exact hK _ _ (h v' w' h2 h3)

set_option maxHeartbeats 8000000 in
set_option maxRecDepth 100000 in
theorem walk (v : Value) (S : List (Tk × Int)) (w : World) (f0 : TAt w v S) (g0 : TSrc w v S) (s0 : S.length ≤ 1048576 ∧ sumT (kindsI S) ≤ 1048576 ∧ ∀ x ∈ S, x.1.2.1.length ≤ 1048576 ∧ -9223372036854775808 ≤ x.1.2.2 ∧ x.1.2.2 ≤ 9223372036854775807) (he : Env w) :
    Calls Tryd.prog 4 #[v] w fun e w' => e = .returned (.bool true) ∧ Below w.heap.size w w' := by
  obtain ⟨z1, z2, z3⟩ := s0
  have sh1 := fun v W h1 h2 => show_any v S W h1 h2 z1 (fun x hx => by have := z3 x hx; exact ⟨by omega, this.2.1, this.2.2⟩)
  have sh2 := fun W h2 => show_ref v S W h2 z1 (fun x hx => by have := z3 x hx; exact ⟨this.1, this.2.2⟩)
  have hself : ∀ T : ByteArray, (T.toList == T.toList) = true := fun T => by simp
  generalize (⟨(showL (kindsI S)).toArray⟩ : ByteArray) = T at *
  have hT := hself T
  clear hself
  go_enter Tryd.func4, Tryd.ntmps4
  go_wp2_with (first
    | (at_builtin; refine wpList_appT w rfl _ _ rfl rfl v S rfl g0 (by omega) ?_; intro v1 W1 hr1 hg1; have hb1 : Below w.heap.size w W1 := (Below.refl _ w).grown hg1 (Nat.le_refl _) (fun k hk => by cases hk))
    | (go_at_call 13; refine (sh1 _ _ (env_below he hb1) (tat_row hr1)).mono ?_; rintro e W2 ⟨rfl, hb2⟩; have hb2w : Below w.heap.size w W2 := hb1.trans (hb2.mono hb1.size))
    | (go_at_call 14; refine (sh2 _ (f0.below hb2w (Nat.le_refl _))).mono ?_; rintro e W3 ⟨rfl, hb3⟩; have hb3w : Below w.heap.size w W3 := hb2w.trans (hb3.mono hb2w.size))
    | (go_at_call 11; refine (same_law _ _ S S _ (tat_row (keep (keep hr1 hb2) hb3)) (f0.below hb3w (Nat.le_refl _)) (by omega)).mono ?_; rw [show decide (S = S) = true from by simp]; rintro e W4 ⟨rfl, hb4⟩; have hb4w : Below w.heap.size w W4 := hb3w.trans (hb4.mono hb3w.size))
    | (go_at_call 12; refine (sure_any _ (env_below he hb4w)).mono ?_; rintro e W8 ⟨rfl, hb8⟩))
  go_ret
  exact ⟨rfl, hb4w.trans (hb8.mono hb4w.size)⟩
end Go.Proofs.YtaiefheejgfefaaDoor.lexShows
