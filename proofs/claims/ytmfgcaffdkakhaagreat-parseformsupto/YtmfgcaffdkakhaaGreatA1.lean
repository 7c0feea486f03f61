/- Own text. Append of a list of trees, empty or not, to a list that is owned. -/
import Derived.Test.YtmfgcaffdkakhaaGreatR2
import Derived.Laws.OwnMore
namespace Go.Proofs.YtmfgcaffdkakhaaGreat
open Go.RowKit
set_option linter.unusedVariables false
set_option linter.unusedSimpArgs false

/-- the cells of a list of trees in memory. -/
theorem LAt.news {w : World} {S : Nat → Prop} {ad : Option Addr} {c : Nat} {ks : List Nd} (h : LAt w S (.slice ad ks.length c) ks) (h0 : 0 < ks.length) : ∃ (F : List (Nd × Value)) (a0 : Addr), ad = some a0 ∧ F.map (·.1) = ks ∧ (∀ j u, (rowN F)[j]? = some u → w.cell? (a0.add j) = some u) ∧ (∀ u ∈ rowN F, u.oneCell' = true) ∧ (∀ p ∈ F, LAt w S p.2 p.1.ks) := by
  obtain ⟨a', c', bl, o, f, e, hp, h4, hk⟩ := h.op
  obtain ⟨rfl, hS, hb⟩ := hp h0
  cases e
  have hl : (List.range ks.length).length = ks.length := by simp
  obtain ⟨F, hF⟩ : ∃ F : List (Nd × Value), F = ks.zip ((List.range ks.length).map f) := ⟨_, rfl⟩
  have hlen : F.length = ks.length := by rw [hF]; simp
  have hget : ∀ i (hi : i < F.length), F[i] = (ks[i]'(by omega), f i) := fun i hi => by subst hF; simp
  refine ⟨F, ⟨bl, o, none⟩, rfl, ?_, ?_, ?_, ?_⟩
  · rw [hF]; exact List.map_fst_zip (by simp)
  · intro j u hj
    have hjl : j < F.length * 4 := by
      have := (List.getElem?_eq_some_iff.1 hj).1
      rw [rowN_length] at this
      exact this
    have hi : j / 4 < F.length := by omega
    have hr := rowN_get F (j / 4) hi
    have h4' := h4 (j / 4) (by omega)
    rw [hget _ hi] at hr
    have ej : j = j / 4 * 4 + j % 4 := by omega
    have hm : j % 4 = 0 ∨ j % 4 = 1 ∨ j % 4 = 2 ∨ j % 4 = 3 := by omega
    obtain ⟨f0, f1, f2, f3⟩ := h4'
    rw [Addr.add_lit]
    rcases hm with e | e | e | e
    · rw [show j = j / 4 * 4 by omega, hr.1] at hj
      cases hj
      rw [show o + j = o + j / 4 * 4 by omega]
      exact f0
    · rw [show j = j / 4 * 4 + 1 by omega, hr.2.1] at hj
      cases hj
      rw [show o + j = o + j / 4 * 4 + 1 by omega]
      exact f1
    · rw [show j = j / 4 * 4 + 2 by omega, hr.2.2.1] at hj
      cases hj
      rw [show o + j = o + j / 4 * 4 + 2 by omega]
      exact f2
    · rw [show j = j / 4 * 4 + 3 by omega, hr.2.2.2] at hj
      cases hj
      rw [show o + j = o + j / 4 * 4 + 3 by omega]
      exact f3
  · intro u hu
    obtain ⟨p, hp, hu⟩ := List.mem_flatMap.1 hu
    obtain ⟨i, hi, rfl⟩ := List.mem_iff_getElem.1 hp
    rw [hget i hi] at hu
    obtain ⟨a2, c2, e2⟩ := (hk i (by omega)).sl
    rw [e2] at hu
    rcases List.mem_cons.1 hu with rfl | hu
    · rfl
    rcases List.mem_cons.1 hu with rfl | hu
    · rfl
    rcases List.mem_cons.1 hu with rfl | hu
    · rfl
    rcases List.mem_cons.1 hu with rfl | hu
    · rfl
    · cases hu
  · intro p hp
    obtain ⟨i, hi, rfl⟩ := List.mem_iff_getElem.1 hp
    rw [hget i hi]
    exact hk i (by omega)
theorem run_append_empty (w : World) (ty : TypeId) {base n : Nat} {xs : List Value} (v : Value) (hown : w.ownsRow base 27 4 v n xs) (ad : Option Addr) (c : Nat) : (Builtin.append_ #[25, 25] ty #[v, .slice ad 0 c]).run Tryz.prog w = .ok v w := by
  obtain ⟨i0, hi0, hz0, hz1, hz2⟩ := info_parts info_nd
  rcases hown.2 with ⟨rfl, rfl⟩ | ⟨g, cap, cur, rfl, _, _, hnc, _⟩
  · cases ad <;> simp [Builtin.append_, run_underlying Tryz.underlying25, sizeOf, typeInfo, hi0, hz1, Builtin.lenOf, Builtin.firstCells, loadCells, loadCellsFrom]
  · cases ad <;> simp [Builtin.append_, run_underlying Tryz.underlying25, sizeOf, typeInfo, hi0, hz1, Builtin.lenOf, Builtin.firstCells, hnc, storeCells, loadCells, loadCellsFrom]
theorem wpList_append_lat (w : World) {ops : Array Oper} {rest : List Oper} {o : Oper} {a : Act} {Q : Exit → Act → World → Prop} (hgd : o.guard = none) (s x : Operand)
    (ho : o.op = .call { callee := .builtin .append, args := #[s, x], argTypes := #[25, 25] })
    (base : Nat) (v : Value) (n : Nat) (xs : List Value) (hs : a.eval s = v) (hown : w.ownsRow base 27 4 v n xs) (S : Nat → Prop) (ad : Option Addr) (c : Nat) (ks : List Nd) (hx : a.eval x = .slice ad ks.length c) (hl : LAt w S (.slice ad ks.length c) ks)
    (hn : n + ks.length ≤ 4194304) (hbase : base ≤ w.heap.size)
    (h : ∀ (v' : Value) (w' : World) (F : List (Nd × Value)), F.map (·.1) = ks → w'.ownsRow base 27 4 v' (n + ks.length) (xs ++ rowN F) → w.grownBy w' v.ownBlock → (∀ g, v'.ownBlock = some g → v.ownBlock = some g ∨ g = w.heap.size) → (∀ p ∈ F, LAt w S p.2 p.1.ks) → wpList Tryz.prog ops Q rest (a.put o.dst v') w') : wpList Tryz.prog ops Q (o :: rest) a w := by
  obtain ⟨i0, hi0, hz0, hz1, hz2⟩ := info_parts info_nd
  by_cases h0 : 0 < ks.length
  · obtain ⟨F, a0, rfl, hF, hc, h1, hk⟩ := hl.news h0
    have hFl : F.length = ks.length := by rw [← hF]; simp
    refine wpList_append_lies w hgd s x _ ho base 27 i0 _ 4 56 Tryz.underlying25 hi0 hz0 hz1 hz2 rfl (by omega) v n xs hs hown a0 ks.length c (rowN F) hx (by rw [rowN_length, hFl]) hc h1 h0 (by unfold maxLen; omega) (by omega) hbase w.heap.size rfl ?_
    intro g cap w' h2 h3 h4 h5
    exact h _ _ F hF h2 h3 (fun g' e => by cases e; exact h4) hk
  · obtain rfl : ks = [] := List.length_eq_zero_iff.1 (by omega)
    refine wpList_plain hgd fun K hK => ?_
    have hr := fun ty => run_append_empty w ty v hown ad c
    unfold Oper.wp
    have e : (execOp a.eval o).run Tryz.prog w = .ok (.value v) w := by
      simp only [List.length_nil] at hx
      obtain ⟨dst, op, ty, pos, after, guard⟩ := o
      simp only at ho
      subst ho
      rw [BigFrame.execOp_builtin, BigFrame.builtin_append]
      have e2 : (#[s, x] : Array Operand).map a.eval = #[v, .slice ad 0 c] := by simp [hs, hx]
      rw [e2]
      simp only [Sem.run_bind, hr, Result.andThen]
      rfl
    rw [e]
    exact hK _ _ (h v w [] rfl (by simpa [rowN] using hown) ⟨rfl, rfl, rfl, Nat.le_refl _, fun _ _ _ => rfl⟩ (fun g e => .inl e) (by simp))
/-- how long a list that was read may be. -/
theorem listG_len {σ : Type} {L : List Tok} {s : ByteArray} {F : σ → Nat → Rs (Nd × σ)} (hF : ∀ st a, Ge (a + 1) (F st a)) : ∀ (n : Nat) (acc : List Nd) (st : σ) (a : Nat) (l : List Nd) (b : Nat), listG L s F n acc st a = .ok l b → l.length + a + 1 ≤ acc.length + b
  | 0, _, _, _, _, _, h => by rw [listG] at h; cases h
  | n + 1, acc, st, a, l, b, h => by
    rw [listG] at h
    split at h
    · cases h; omega
    · have hf := hF st a
      split at h
      · cases h
      · rename_i x a1 e
        have h1 := hf _ _ e
        split at h
        · have := listG_len hF n _ _ _ _ _ h; simp at this; omega
        · split at h
          · have := listG_len hF n _ _ _ _ _ h; simp at this; omega
          · cases h
theorem listE_len {L : List Tok} {s : ByteArray} {E : Nat → Rs Nd} (hE : ∀ a, Ge (a + 1) (E a)) {a : Nat} {l : List Nd} {b : Nat} (h : listE L E s a = .ok l b) : l.length + a + 1 ≤ b := by
  have := listG_len (fun (_ : Unit) a => (hE a).bind (c := a + 1) (fun u b hb => Ge.ok hb)) _ _ _ _ _ _ h
  simpa using this
end Go.Proofs.YtmfgcaffdkakhaaGreat
