/- Own text. The statements' own functions: twin, at. -/
import Derived.Test.YtbliaamckldncaaOd6
import Derived.Deep.RegionHeld3
namespace Go.Proofs.Ytbliaamckldncaa
open Go.RowKit Gph
set_option linter.unusedVariables false
set_option linter.unusedSimpArgs false

/-- numbers in a row of their own. -/
abbrev Ti (w : World) (base : Nat) (v : Value) (l : List Int) : Prop := w.ownsRow base 3 1 v l.length (ints l)
/-- lists of numbers, each in a row of its own, between two blocks. -/
structure PPi (w : World) (lo hi : Nat) (vo : Value) (P : List (List Int)) : Prop where
  row : ∃ cs, w.ownsRow lo 31 1 vo P.length cs ∧ ∀ j (h : j < P.length), ∃ u, cs[j]? = some u ∧ Ti w lo u P[j] ∧ ∀ b, u.ownBlock = some b → b < hi ∧ vo.ownBlock ≠ some b
  lt : ∀ b, vo.ownBlock = some b → b < hi
theorem PPi.nil (w : World) (lo hi : Nat) : PPi w lo hi (.slice none 0 0) [] := ⟨⟨[], World.ownsRow_nil _ _ _ _, fun j h => absurd h (Nat.not_lt_zero _)⟩, fun b h => by cases h⟩
theorem PPi.keep {w w' : World} {lo hi : Nat} {vo : Value} {P : List (List Int)} (h : PPi w lo hi vo P) (k : ∀ b, lo ≤ b → b < hi → w'.heap[b]? = w.heap[b]?) : PPi w' lo hi vo P := by
  obtain ⟨cs, h1, h2⟩ := h.row
  refine ⟨⟨cs, row_keep h1 fun b hb => k b (World.ownsRow.lt h1 b hb).1 (h.lt b hb), fun j hj => ?_⟩, h.lt⟩
  obtain ⟨u, q1, q2, q3⟩ := h2 j hj
  exact ⟨u, q1, row_keep q2 fun b hb => k b (World.ownsRow.lt q2 b hb).1 (q3 b hb).1, q3⟩
theorem PPi.mono {w : World} {lo hi hi' : Nat} {vo : Value} {P : List (List Int)} (h : PPi w lo hi vo P) (k : hi ≤ hi') : PPi w lo hi' vo P := by
  obtain ⟨cs, h1, h2⟩ := h.row
  refine ⟨⟨cs, h1, fun j hj => ?_⟩, fun b hb => Nat.lt_of_lt_of_le (h.lt b hb) k⟩
  obtain ⟨u, q1, q2, q3⟩ := h2 j hj
  exact ⟨u, q1, q2, fun b hb => ⟨Nat.lt_of_lt_of_le (q3 b hb).1 k, (q3 b hb).2⟩⟩
/-- one more. -/
theorem PPi.add {w w' : World} {lo hi gg cap H : Nat} {vo vp : Value} {P : List (List Int)} {p : List Int} {cs : List Value} (h1 : w.ownsRow lo 31 1 vo P.length cs) (h2 : ∀ j (h : j < P.length), ∃ u, cs[j]? = some u ∧ Ti w lo u P[j] ∧ ∀ b, u.ownBlock = some b → b < hi ∧ vo.ownBlock ≠ some b) (hlt : ∀ b, vo.ownBlock = some b → b < hi)
    (hp : Ti w hi vp p) (hlo : lo ≤ hi) (hH : w.heap.size = H) (hhi : hi ≤ H) (ho : w'.ownsRow lo 31 1 (.slice (some ⟨gg, 0, none⟩) (P.length + 1) cap) (P.length + 1) (cs ++ [vp])) (hg : w.grownBy w' vo.ownBlock) (ha : vo.ownBlock = some gg ∨ gg = H) (hl : gg < w'.heap.size) :
    PPi w' lo w'.heap.size (.slice (some ⟨gg, 0, none⟩) (P.length + 1) cap) (P ++ [p]) := by
  have hcs : cs.length = P.length := by have := h1.1; omega
  have hsz := hg.size
  refine ⟨⟨cs ++ [vp], by simpa using ho, fun j hj => ?_⟩, fun b hb => by cases hb; exact hl⟩
  by_cases e : j < P.length
  · obtain ⟨u, q1, q2, q3⟩ := h2 j e
    refine ⟨u, by rw [List.getElem?_append_left (by omega)]; exact q1, ?_, fun b hb => ?_⟩
    · rw [List.getElem_append_left e]
      exact row_keep q2 fun b hb => hg.block b (World.ownsRow.lt q2 b hb).2 (fun k => (q3 b hb).2 k.symm)
    · have hb2 := (World.ownsRow.lt q2 b hb).2
      refine ⟨by omega, fun k => ?_⟩
      have k' : gg = b := by cases k; rfl
      rcases ha with ha | ha
      · exact (q3 b hb).2 (k' ▸ ha)
      · have := (q3 b hb).1; omega
  · have e' : j = P.length := by simp at hj; omega
    subst e'
    refine ⟨vp, by rw [List.getElem?_append_right (by omega), hcs]; simp, ?_, fun b hb => ?_⟩
    · rw [List.getElem_append_right (Nat.le_refl _)]
      simp only [Nat.sub_self, List.getElem_cons_zero]
      exact row_base (row_keep hp fun b hb => hg.block b (World.ownsRow.lt hp b hb).2 (fun k => by have := hlt b k.symm; have := (World.ownsRow.lt hp b hb).1; omega)) hlo
    · have hb2 := World.ownsRow.lt hp b hb
      refine ⟨by omega, fun k => ?_⟩
      have k' : gg = b := by cases k; rfl
      rcases ha with ha | ha
      · have := hlt gg ha; omega
      · omega
theorem PPi.eat {w : World} {lo hi : Nat} {vo : Value} {P : List (List Int)} (h : PPi w lo hi vo P) : EAt w w.heap.size vo P := by
  obtain ⟨cs, h1, h2⟩ := h.row
  have hcs : cs.length = P.length := by have := h1.1; omega
  refine ⟨cs, hcs, vat_row h1, fun i hi hi' => ?_⟩
  obtain ⟨u, q1, q2, _⟩ := h2 i hi
  rw [List.getElem?_eq_getElem hi'] at q1
  injection q1 with q1
  rw [q1]
  exact vat_row q2
theorem IAt.news {w : World} {B : Nat} {ad : Option Addr} {c : Nat} {l : List Int} (h : IAt w B (.slice ad l.length c) l) (h0 : 0 < l.length) : ∃ a0 : Addr, ad = some a0 ∧ ∀ j u, (ints l)[j]? = some u → w.cell? (a0.add j) = some u := by
  obtain ⟨b, o, c', e, hb, hc⟩ := IAt.cl h h0
  cases e
  refine ⟨_, rfl, fun j u hj => ?_⟩
  have hjl : j < l.length := by have := (List.getElem?_eq_some_iff.1 hj).1; rwa [ints_len] at this
  rw [add_plain, hc j hjl]
  rw [← hj]
  simp [ints, hjl]
theorem run_append_empty (w : World) (ty : TypeId) {base n : Nat} {xs : List Value} (v : Value) (hown : w.ownsRow base 3 1 v n xs) (ad : Option Addr) (c : Nat) : (Builtin.append_ #[31, 31] ty #[v, .slice ad 0 c]).run Try.prog w = .ok v w := by
  obtain ⟨i0, hi0, hz0, hz1, hz2⟩ := info_parts info_int
  rcases hown.2 with ⟨rfl, rfl⟩ | ⟨g, cap, cur, rfl, _, _, hnc, _⟩
  · cases ad <;> simp [Builtin.append_, run_underlying Try.underlying31, sizeOf, typeInfo, hi0, hz1, Builtin.lenOf, Builtin.firstCells, loadCells, loadCellsFrom]
  · cases ad <;> simp [Builtin.append_, run_underlying Try.underlying31, sizeOf, typeInfo, hi0, hz1, Builtin.lenOf, Builtin.firstCells, hnc, storeCells, loadCells, loadCellsFrom]
/-- append of a list of numbers, empty or not, at a step of a region. -/
theorem step_append_ints {w : World} {ops : Array Oper} {o : Oper} {a : Act} {K : Act → World → Prop} {Q : Exit → Act → World → Prop} {E : Prop} (hgd : o.guard = none) (s x : Operand)
    (ho : o.op = .call { callee := .builtin .append, args := #[s, x], argTypes := #[31, 31] })
    (base B : Nat) (v : Value) (n : Nat) (xs : List Value) (hs : a.eval s = v) (hown : w.ownsRow base 3 1 v n xs) (ad : Option Addr) (c : Nat) (l : List Int) (hx : a.eval x = .slice ad l.length c) (hl : IAt w B (.slice ad l.length c) l)
    (hn : n + l.length ≤ 4194304) (hbase : base ≤ w.heap.size)
    (h : ∀ (v' : Value) (w' : World), w'.ownsRow base 3 1 v' (n + l.length) (xs ++ ints l) → w.grownBy w' v.ownBlock → K (a.put o.dst v') w') : if Region.wanted o (yielded ops a.tmps) = true then Oper.wp Try.prog o a w K Q else E := by
  obtain ⟨i0, hi0, hz0, hz1, hz2⟩ := info_parts info_int
  by_cases h0 : 0 < l.length
  · obtain ⟨a0, rfl, hc⟩ := IAt.news hl h0
    refine step_append_lies w hgd s x _ ho base 3 i0 _ 1 8 Try.underlying31 hi0 hz0 hz1 hz2 rfl (by omega) v n xs hs hown a0 l.length c (ints l) hx (by rw [ints_len]; omega) hc (fun u hu => by obtain ⟨z, _, rfl⟩ := List.mem_map.1 hu; rfl) h0 (by unfold maxLen; omega) (by omega) hbase w.heap.size rfl ?_
    intro g cap w' h2 h3 h4 h5
    exact h _ _ h2 h3
  · obtain rfl : l = [] := List.length_eq_zero_iff.1 (by omega)
    rw [if_pos (by simp [Region.wanted, hgd])]
    have hr := fun ty => run_append_empty w ty v hown ad c
    unfold Oper.wp
    have e : (execOp a.eval o).run Try.prog w = .ok (.value v) w := by
      simp only [List.length_nil] at hx
      obtain ⟨dst, op, ty, pos, after, guard⟩ := o
      simp only at ho
      subst ho
      rw [BigFrame.execOp_builtin, BigFrame.builtin_append]
      have e2 : (#[s, x] : Array Operand).map a.eval = #[v, .slice ad 0 c] := by simp [hs, hx]
      rw [e2]
      simp only [Sem.run_bind, hr, Result.andThen]
      rfl
    rw [e]
    exact h v w (by simpa [ints] using hown) ⟨rfl, rfl, rfl, Nat.le_refl _, fun _ _ _ => rfl⟩
/-- a list that is copied. -/
theorem cut_last {w : World} {base g cap : Nat} {l : List Int} {x : Value} (h : w.ownsRow base 3 1 (.slice (some ⟨g, 0, none⟩) (l.length + 1) cap) (l.length + 1) (ints l ++ [x])) : Ti w base (.slice (some ⟨g, 0, none⟩) l.length cap) l := by
  have h2 := row_cut h (k := l.length) (by omega)
  have e : (ints l ++ [x]).take (l.length * 1) = ints l := by rw [Nat.mul_one, ← ints_len l]; simp
  rw [e] at h2
  exact h2
set_option maxRecDepth 100000 in
set_option maxHeartbeats 16000000 in
theorem twin_any {w : World} {v : Value} {E : List (List Int)} (h : EAt w w.heap.size v E) (hl : E.length ≤ 2097152) (hk : ∀ l ∈ E, l.length ≤ 2097152) :
    Calls Try.prog 8 #[v] w fun e w' => ∃ vo, e = .returned vo ∧ EAt w' w'.heap.size vo E ∧ Below w.heap.size w w' := by
  obtain ⟨ad, c, rfl⟩ := h.op
  obtain ⟨i0, hi, hz0, hz1, hz2⟩ := info_parts info_int
  obtain ⟨i1, hi1, hy0, hy1, hy2⟩ := info_parts info_is
  go_enter Try.func8, Try.ntmps8
  go_wp2
  go_loopw [3, 4] (fun ov iv wr => ∃ k : Nat, iv = .int .i64 (k : Nat) ∧ k ≤ E.length ∧ Below w.heap.size w wr ∧ PPi wr w.heap.size wr.heap.size ov (E.take k)) (fun _ iv _ => E.length - (intOf iv).toNat)
  case atStart => exact ⟨0, rfl, by omega, Below.refl _ _, by simpa using PPi.nil w w.heap.size w.heap.size⟩
  case round =>
    obtain ⟨k, rfl, hkl, bel, hP⟩ := hrel
    by_cases hlt : k < E.length
    · obtain ⟨b, o, c', f, e, hb, hf⟩ := (h.bel bel).cl (by omega)
      obtain ⟨rfl, rfl⟩ : ad = some ⟨b, o, none⟩ ∧ c = c' := by cases e; exact ⟨rfl, rfl⟩
      have hkE := hk E[k] (List.getElem_mem hlt)
      have HTK : Hid (E.take (k + 1) = E.take k ++ [E[k]]) := List.take_succ_eq_append_getElem hlt
      obtain ⟨f1, f2⟩ := hf k hlt
      clear e hf
      generalize E[k] = l at *
      obtain ⟨ad', c'', e⟩ := f2.op
      rw [e] at f1 f2
      clear e
      have hsz := bel.size
      obtain ⟨hi_, hhi⟩ : ∃ x, wr.heap.size = x := ⟨_, rfl⟩
      have hh1 : hi_ ≤ wr.heap.size := by omega
      have hh2 : wr.heap.size ≤ hi_ := by omega
      have hh3 : w.heap.size ≤ hi_ := by omega
      rw [hhi] at hP
      clear hhi
      have h0 := h
      have HSS : Hid (∀ W, Below w.heap.size w W → W.cell? ⟨b, o + k, none⟩ = some (.slice ad' l.length c'')) := fun W bW => by
        obtain ⟨b9, o9, c9, f9, e9, hb9, hf9⟩ := h0.cl (by omega)
        cases e9
        have e1 := World.cell?_of_block (a := ⟨b, o + k, none⟩) (bW.block b hb)
        have e2 := World.cell?_of_block (a := ⟨b, o + k, none⟩) (bel.block b hb)
        rw [e1, ← e2]; exact f1
      have HLL : Hid (∀ W, Below w.heap.size w W → IAt W w.heap.size (.slice ad' l.length c'') l) := fun W bW => by
        refine ⟨f2.f, fun h0 => ?_⟩
        obtain ⟨b9, o9, c9, e9, hb9, hf9⟩ := f2.c h0
        exact ⟨b9, o9, c9, e9, hb9, fun i hi => by rw [World.cell?_of_block (a := ⟨b9, o9 + i, none⟩) (bW.block b9 hb9), ← World.cell?_of_block (a := ⟨b9, o9 + i, none⟩) (bel.block b9 hb9)]; exact hf9 i hi⟩
      have bD : Below w.heap.size w wr.drew := bel.drew
      have hPD : PPi wr.drew w.heap.size hi_ u3 (E.take k) := hP.keep (fun _ _ _ => rfl)
      have hzD : wr.drew.heap.size = wr.heap.size := rfl
      have hS0 := HSS.out _ bD
      have hct' : ((l.length : Nat) : Int) = ((l.length : Nat) : Int) := rfl
      clear hP bel f1 f2 h0 h hct'
      go_wp2
      refine wp_region_noPanic ?_
      refine wp_region_held_drew (S := fun W => W.cell? ⟨b, o + k, none⟩ = some (.slice ad' l.length c'')) (by kernel_rfl) hS0 (fun hHeld => ?_)
      refine wpAnyH_take (i := 0) (v := ?zv0) rfl (by kernel_rfl) (by kernel_rfl) (by kernel_rfl) (fun _ _ _ h => h) (Or.inl ⟨by rfl, ?zy0⟩) (by assumption) ?zr0
      case zy0 => (intro w hSw; (try dsimp only at hSw); (try simp only [List.getElem_toArray, List.getElem_cons_zero, List.getElem_cons_succ]); go_simp; first | done | with_reducible rfl)
      simp only [Act.put, List.getElem_toArray, List.getElem_cons_zero, List.getElem_cons_succ, List.setIfInBounds_toArray, List.set_cons_zero, List.set_cons_succ]
      refine wpAnyH_take (i := 1) (v := ?zv1) rfl (by kernel_rfl) (by kernel_rfl) (by kernel_rfl) (fun _ _ _ h => h) (Or.inl ⟨by rfl, ?zy1⟩) (by assumption) ?zr1
      case zy1 => (intro w hSw; (try dsimp only at hSw); (try simp only [List.getElem_toArray, List.getElem_cons_zero, List.getElem_cons_succ]); go_simp; first | done | with_reducible rfl)
      simp only [Act.put, List.getElem_toArray, List.getElem_cons_zero, List.getElem_cons_succ, List.setIfInBounds_toArray, List.set_cons_zero, List.set_cons_succ]
      refine wpAnyH_take (i := 2) (v := ?zv2) rfl (by kernel_rfl) (by kernel_rfl) (by kernel_rfl) (fun _ _ _ h => h) (Or.inl ⟨by rfl, ?zy2⟩) (by assumption) ?zr2
      case zy2 => (intro w hSw; (try dsimp only at hSw); (try simp only [List.getElem_toArray, List.getElem_cons_zero, List.getElem_cons_succ]); go_simp; first | done | with_reducible rfl)
      simp only [Act.put, List.getElem_toArray, List.getElem_cons_zero, List.getElem_cons_succ, List.setIfInBounds_toArray, List.set_cons_zero, List.set_cons_succ]
      refine wpAnyH_take (i := 3) (v := ?zv3) rfl (by kernel_rfl) (by kernel_rfl) (by kernel_rfl) (fun _ _ _ h => h) (Or.inl ⟨by rfl, ?zy3⟩) (by assumption) ?zr3
      case zy3 => (intro w hSw; (try dsimp only at hSw); (try simp only [List.getElem_toArray, List.getElem_cons_zero, List.getElem_cons_succ]); go_simp; first | done | with_reducible rfl)
      simp only [Act.put, List.getElem_toArray, List.getElem_cons_zero, List.getElem_cons_succ, List.setIfInBounds_toArray, List.set_cons_zero, List.set_cons_succ]
      refine wpAnyH_take (i := 4) (v := ?zv4) rfl (by kernel_rfl) (by kernel_rfl) (by kernel_rfl) (fun _ _ _ h => h) (Or.inl ⟨by rfl, ?zy4⟩) (by assumption) ?zr4
      case zy4 => (intro w hSw; (try dsimp only at hSw); (try simp only [List.getElem_toArray, List.getElem_cons_zero, List.getElem_cons_succ]); go_simp; first | done | with_reducible rfl)
      simp only [Act.put, List.getElem_toArray, List.getElem_cons_zero, List.getElem_cons_succ, List.setIfInBounds_toArray, List.set_cons_zero, List.set_cons_succ]
      refine wpAnyH_take (i := 8) (v := ?zv8) rfl (by kernel_rfl) (by kernel_rfl) (by kernel_rfl) (fun _ _ _ h => h) (Or.inl ⟨by rfl, ?zy8⟩) (by assumption) ?zr8
      case zy8 => (intro w hSw; (try dsimp only at hSw); (try simp only [List.getElem_toArray, List.getElem_cons_zero, List.getElem_cons_succ]); go_simp; first | done | with_reducible rfl)
      simp only [Act.put, List.getElem_toArray, List.getElem_cons_zero, List.getElem_cons_succ, List.setIfInBounds_toArray, List.set_cons_zero, List.set_cons_succ]
      refine wpAnyH_take (i := 9) (v := ?zv9) rfl (by kernel_rfl) (by kernel_rfl) (by kernel_rfl) (fun _ _ _ h => h) (Or.inl ⟨by rfl, ?zy9⟩) (by assumption) ?zr9
      case zy9 => (intro w hSw; (try dsimp only at hSw); (try simp only [List.getElem_toArray, List.getElem_cons_zero, List.getElem_cons_succ]); go_simp; first | done | with_reducible rfl)
      simp only [Act.put, List.getElem_toArray, List.getElem_cons_zero, List.getElem_cons_succ, List.setIfInBounds_toArray, List.set_cons_zero, List.set_cons_succ]
      refine wpAnyH_take (i := 10) (v := ?zv10) rfl (by kernel_rfl) (by kernel_rfl) (by kernel_rfl) (fun _ _ _ h => h) (Or.inl ⟨by rfl, ?zy10⟩) (by assumption) ?zr10
      case zy10 => (intro w hSw; (try dsimp only at hSw); (try simp only [List.getElem_toArray, List.getElem_cons_zero, List.getElem_cons_succ]); go_simp; first | done | with_reducible rfl)
      simp only [Act.put, List.getElem_toArray, List.getElem_cons_zero, List.getElem_cons_succ, List.setIfInBounds_toArray, List.set_cons_zero, List.set_cons_succ]
      refine wpAnyH_take (i := 11) (v := ?zv11) rfl (by kernel_rfl) (by kernel_rfl) (by kernel_rfl) (fun _ _ _ h => h) (Or.inl ⟨by rfl, ?zy11⟩) (by assumption) ?zr11
      case zy11 => (intro w hSw; (try dsimp only at hSw); (try simp only [List.getElem_toArray, List.getElem_cons_zero, List.getElem_cons_succ]); go_simp; first | done | with_reducible rfl)
      simp only [Act.put, List.getElem_toArray, List.getElem_cons_zero, List.getElem_cons_succ, List.setIfInBounds_toArray, List.set_cons_zero, List.set_cons_succ]
      refine wpAnyH_take (i := 12) (v := ?zv12) rfl (by kernel_rfl) (by kernel_rfl) (by kernel_rfl) (fun _ _ _ h => h) (Or.inl ⟨by rfl, ?zy12⟩) (by assumption) ?zr12
      case zy12 => (intro w hSw; (try dsimp only at hSw); (try simp only [List.getElem_toArray, List.getElem_cons_zero, List.getElem_cons_succ]); go_simp; first | done | with_reducible rfl)
      simp only [Act.put, List.getElem_toArray, List.getElem_cons_zero, List.getElem_cons_succ, List.setIfInBounds_toArray, List.set_cons_zero, List.set_cons_succ]
      refine wpAnyH_ready (rs := [5, 6]) (by kernel_rfl) (by simp) ?_
      refine AllReadyH.cons rfl (fun K hK => ?_) (AllReadyH.cons rfl (fun K hK => ?_) AllReadyH.nil)
      · refine step_append_ints (by rfl) _ _ (by rfl) hi_ w.heap.size (.slice none 0 0) 0 [] (by rfl) (World.ownsRow_nil _ _ _ _) ad' c'' l (by rfl) (HLL.out _ bD) (by omega) (by omega) ?_
        intro v1 W1 ho1 gr1
        have b1 : Below w.heap.size w W1 := bD.grown gr1 (by omega) (fun j hj => by cases hj)
        have hP1 : PPi W1 w.heap.size hi_ u3 (E.take k) := hPD.keep (fun b h1 h2 => gr1.block b (by omega) (fun e => by cases e))
        have s1 := gr1.size
        refine hK.out _ _ (HSS.out _ b1) (fun hHeld => ?_)
        clear hK K
        try simp only [Act.put, List.getElem_toArray, List.getElem_cons_zero, List.getElem_cons_succ, List.setIfInBounds_toArray, List.set_cons_zero, List.set_cons_succ]
        refine wpAnyH_ready (rs := [6]) (by kernel_rfl) (by simp) ?_
        refine AllReadyH.cons rfl (fun K hK => ?_) AllReadyH.nil
        try simp only [List.getElem_toArray, List.getElem_cons_zero, List.getElem_cons_succ]
        go_simp
        obtain ⟨WB, hWB⟩ : ∃ W, W1.alloc (.cells #[.int .i64 77] 3) = W := ⟨_, rfl⟩
        have bB : Below w.heap.size w WB := by rw [← hWB]; exact b1.alloc b1.size _
        have hPB : PPi WB w.heap.size hi_ u3 (E.take k) := by rw [← hWB]; exact hP1.keep (fun b h1 h2 => Below.heap_alloc _ _ _ (by omega))
        have hr1 : Ti WB hi_ v1 l := by rw [← hWB]; have := World.ownsRow.alloc ho1 (.cells #[.int .i64 77] 3); simpa using this
        obtain ⟨b7, hb7⟩ : ∃ x, W1.heap.size = x := ⟨_, rfl⟩
        have h77 : WB.heap[b7]? = some (.cells #[.int .i64 77] 3 (0, 0)) := by rw [← hWB, ← hb7]; exact heap_alloc_new _ _
        have sB : W1.heap.size + 1 ≤ WB.heap.size := by rw [← hWB]; simp
        rw [hWB]
        rw [hb7]
        refine hK.out _ _ (HSS.out _ bB) (fun hHeld => ?_)
        clear hK K
        try simp only [Act.put, List.getElem_toArray, List.getElem_cons_zero, List.getElem_cons_succ, List.setIfInBounds_toArray, List.set_cons_zero, List.set_cons_succ]
        clear hP1 hPD ho1 hWB hb7
        refine wpAnyH_ready (rs := [7]) (by kernel_rfl) (by simp) ?_
        refine AllReadyH.cons rfl (fun K hK => ?_) AllReadyH.nil
        refine step_append_lies _ (by rfl) _ _ _ (by rfl) hi_ 3 i0 _ 1 8 Try.underlying31 hi hz0 hz1 hz2 rfl (by omega) _ l.length (ints l) (by rfl) hr1 ⟨b7, 0, none⟩ 1 1 [.int .i64 77] (by rfl) (by rfl) (World.news_of_block (cs := #[.int .i64 77]) (t := 3) (fr := (0, 0)) h77) (by simp [Value.oneCell']) (by omega) (by unfold maxLen; omega) (by omega) (by omega) WB.heap.size rfl ?_
        intro g2 cap2 W2 ho2 gr2 at2 lt2
        have hne2 : ∀ j, v1.ownBlock = some j → hi_ ≤ j := fun j hj => (World.ownsRow.lt hr1 j hj).1
        have b2 : Below w.heap.size w W2 := bB.grown gr2 (by omega) (fun j hj => by have := hne2 j hj; omega)
        have hP2 : PPi W2 w.heap.size hi_ u3 (E.take k) := hPB.keep (fun b h1 h2 => gr2.block b (by omega) (fun e => by have := hne2 b e.symm; omega))
        have hrow : Ti W2 hi_ (.slice (some ⟨g2, 0, none⟩) l.length cap2) l := cut_last ho2
        have hcap : ((l.length : Nat) : Int) ≤ ((cap2 : Nat) : Int) := by obtain ⟨_, _, e, _, hc⟩ := row_some ho2 (by omega); cases e; omega
        have s2 := gr2.size
        have hS2 := HSS.out W2 b2
        refine hK.out _ _ hS2 (fun hHeld => ?_)
        clear hK K
        try simp only [Act.put, List.getElem_toArray, List.getElem_cons_zero, List.getElem_cons_succ, List.setIfInBounds_toArray, List.set_cons_zero, List.set_cons_succ]
        refine wpAnyH_ready (rs := [13]) (by kernel_rfl) (by simp) ?_
        refine AllReadyH.cons rfl (fun K hK => ?_) AllReadyH.nil
        try simp only [List.getElem_toArray, List.getElem_cons_zero, List.getElem_cons_succ]
        go_simp
        refine hK.out _ _ hS2 (fun hHeld => ?_)
        clear hK K
        try simp only [Act.put, List.getElem_toArray, List.getElem_cons_zero, List.getElem_cons_succ, List.setIfInBounds_toArray, List.set_cons_zero, List.set_cons_succ]
        refine wpAnyH_ready (rs := [14]) (by kernel_rfl) (by simp) ?_
        refine AllReadyH.cons rfl (fun K hK => ?_) AllReadyH.nil
        try simp only [List.getElem_toArray, List.getElem_cons_zero, List.getElem_cons_succ]
        go_simp
        have b3 : Below w.heap.size w (W2.alloc (.cells #[.slice (some ⟨g2, 0, none⟩) l.length cap2] 31)) := b2.alloc b2.size _
        refine hK.out _ _ (HSS.out _ b3) (fun hHeld => ?_)
        clear hK K
        try simp only [Act.put, List.getElem_toArray, List.getElem_cons_zero, List.getElem_cons_succ, List.setIfInBounds_toArray, List.set_cons_zero, List.set_cons_succ]
        have hP3 : PPi (W2.alloc (.cells #[.slice (some ⟨g2, 0, none⟩) l.length cap2] 31)) w.heap.size hi_ u3 (E.take k) := hP2.keep (fun b h1 h2 => Below.heap_alloc _ _ _ (by omega))
        have hr3 : Ti (W2.alloc (.cells #[.slice (some ⟨g2, 0, none⟩) l.length cap2] 31)) hi_ (.slice (some ⟨g2, 0, none⟩) l.length cap2) l := World.ownsRow.alloc hrow _
        obtain ⟨cs, r1, r2⟩ := hP3.row
        have hlk : (E.take k).length = k := by simp; omega
        refine wpAnyH_ready (rs := [15]) (by kernel_rfl) (by simp) ?_
        refine AllReadyH.cons rfl (fun K hK => ?_) AllReadyH.nil
        refine step_append_lies _ (by rfl) _ _ _ (by rfl) w.heap.size 31 i1 _ 1 24 Try.underlying22 hi1 hy0 hy1 hy2 rfl (by omega) _ (E.take k).length cs (by rfl) r1 ⟨W2.heap.size, 0, none⟩ 1 1 [.slice (some ⟨g2, 0, none⟩) l.length cap2] (by rfl) (by rfl) (World.news_of_block (cs := #[.slice (some ⟨g2, 0, none⟩) l.length cap2]) (t := 31) (fr := (0, 0)) (heap_alloc_new _ _)) (fun x hx => by simp at hx; subst hx; rfl) (by omega) (by unfold maxLen; omega) (by omega) (by simp; omega) (W2.heap.size + 1) (by simp) ?_
        intro gg cap WA hownA growA hatA hltA
        have hPA := PPi.add r1 r2 hP3.lt hr3 (by omega) (by simp) (by omega) hownA growA hatA hltA
        have hm6 : ∀ b, u3.ownBlock = some b → w.heap.size ≤ b := fun b hb => (World.ownsRow.lt r1 b hb).1
        have bA : Below w.heap.size w WA := b3.grown growA (by simp; omega) (fun j hj => hm6 j hj)
        refine hK.out _ _ (HSS.out _ bA) (fun hHeld => ?_)
        clear hK K
        try simp only [Act.put, List.getElem_toArray, List.getElem_cons_zero, List.getElem_cons_succ, List.setIfInBounds_toArray, List.set_cons_zero, List.set_cons_succ]
        refine wpAnyH_ready (rs := [16]) (by kernel_rfl) (by simp) ?_
        refine AllReadyH.cons rfl (fun K hK => ?_) AllReadyH.nil
        try simp only [List.getElem_toArray, List.getElem_cons_zero, List.getElem_cons_succ]
        go_simp
        refine hK.out _ _ (HSS.out _ bA) (fun hHeld => ?_)
        clear hK K
        try simp only [Act.put, List.getElem_toArray, List.getElem_cons_zero, List.getElem_cons_succ, List.setIfInBounds_toArray, List.set_cons_zero, List.set_cons_succ]
        refine wpAnyH_done (by kernel_rfl) ?_ _
        refine NoPanic.normal ?_
        clear hPB hP2 hP3 r1 r2 hr1 ho2 hrow hr3 h77
        go_wp2
        go_roundw
        case rel => exact ⟨k + 1, by simp, by omega, bA, by rw [HTK.out]; rw [hlk] at hPA; exact hPA⟩
        case measure => simp [intOf]; omega
      · try simp only [List.getElem_toArray, List.getElem_cons_zero, List.getElem_cons_succ]
        go_simp
        obtain ⟨W1, hW1⟩ : ∃ W, (wr.alloc (.cells #[.int .i64 77] 3)).drew = W := ⟨_, rfl⟩
        have b1 : Below w.heap.size w W1 := by rw [← hW1]; exact (bD.alloc bD.size (.cells #[.int .i64 77] 3) : Below w.heap.size w (wr.drew.alloc _))
        have hP1 : PPi W1 w.heap.size hi_ u3 (E.take k) := by rw [← hW1]; exact hPD.keep (fun b h1 h2 => Below.heap_alloc wr _ _ (by omega))
        obtain ⟨b7, hb7⟩ : ∃ x, wr.heap.size = x := ⟨_, rfl⟩
        have h78 : W1.heap[b7]? = some (.cells #[.int .i64 77] 3 (0, 0)) := by rw [← hW1, ← hb7]; exact heap_alloc_new wr _
        have sB1 : wr.heap.size + 1 ≤ W1.heap.size := by rw [← hW1]; simp
        have hb8 : b7 < W1.heap.size := by omega
        rw [hW1]
        try simp only [heap_drew]
        rw [hb7]
        refine hK.out _ _ (HSS.out _ b1) (fun hHeld => ?_)
        clear hK K
        try simp only [Act.put, List.getElem_toArray, List.getElem_cons_zero, List.getElem_cons_succ, List.setIfInBounds_toArray, List.set_cons_zero, List.set_cons_succ]
        refine wpAnyH_ready (rs := [5]) (by kernel_rfl) (by simp) ?_
        refine AllReadyH.cons rfl (fun K hK => ?_) AllReadyH.nil
        refine step_append_ints (by rfl) _ _ (by rfl) hi_ w.heap.size (.slice none 0 0) 0 [] (by rfl) (World.ownsRow_nil _ _ _ _) ad' c'' l (by rfl) (HLL.out _ b1) (by omega) (by omega) ?_
        intro v1 WB ho1 gr1
        have bB : Below w.heap.size w WB := b1.grown gr1 (by omega) (fun j hj => by cases hj)
        have hPB : PPi WB w.heap.size hi_ u3 (E.take k) := hP1.keep (fun b h1 h2 => gr1.block b (by omega) (fun e => by cases e))
        have hr1 : Ti WB hi_ v1 l := by simpa using ho1
        have h77 : WB.heap[b7]? = some (.cells #[.int .i64 77] 3 (0, 0)) := (gr1.block b7 hb8 (fun e => by cases e)).trans h78
        have sB := gr1.size
        refine hK.out _ _ (HSS.out _ bB) (fun hHeld => ?_)
        clear hK K
        try simp only [Act.put, List.getElem_toArray, List.getElem_cons_zero, List.getElem_cons_succ, List.setIfInBounds_toArray, List.set_cons_zero, List.set_cons_succ]
        clear hP1 hPD ho1 hW1 hb7 h78
        refine wpAnyH_ready (rs := [7]) (by kernel_rfl) (by simp) ?_
        refine AllReadyH.cons rfl (fun K hK => ?_) AllReadyH.nil
        refine step_append_lies _ (by rfl) _ _ _ (by rfl) hi_ 3 i0 _ 1 8 Try.underlying31 hi hz0 hz1 hz2 rfl (by omega) _ l.length (ints l) (by rfl) hr1 ⟨b7, 0, none⟩ 1 1 [.int .i64 77] (by rfl) (by rfl) (World.news_of_block (cs := #[.int .i64 77]) (t := 3) (fr := (0, 0)) h77) (by simp [Value.oneCell']) (by omega) (by unfold maxLen; omega) (by omega) (by omega) WB.heap.size rfl ?_
        intro g2 cap2 W2 ho2 gr2 at2 lt2
        have hne2 : ∀ j, v1.ownBlock = some j → hi_ ≤ j := fun j hj => (World.ownsRow.lt hr1 j hj).1
        have b2 : Below w.heap.size w W2 := bB.grown gr2 (by omega) (fun j hj => by have := hne2 j hj; omega)
        have hP2 : PPi W2 w.heap.size hi_ u3 (E.take k) := hPB.keep (fun b h1 h2 => gr2.block b (by omega) (fun e => by have := hne2 b e.symm; omega))
        have hrow : Ti W2 hi_ (.slice (some ⟨g2, 0, none⟩) l.length cap2) l := cut_last ho2
        have hcap : ((l.length : Nat) : Int) ≤ ((cap2 : Nat) : Int) := by obtain ⟨_, _, e, _, hc⟩ := row_some ho2 (by omega); cases e; omega
        have s2 := gr2.size
        have hS2 := HSS.out W2 b2
        refine hK.out _ _ hS2 (fun hHeld => ?_)
        clear hK K
        try simp only [Act.put, List.getElem_toArray, List.getElem_cons_zero, List.getElem_cons_succ, List.setIfInBounds_toArray, List.set_cons_zero, List.set_cons_succ]
        refine wpAnyH_ready (rs := [13]) (by kernel_rfl) (by simp) ?_
        refine AllReadyH.cons rfl (fun K hK => ?_) AllReadyH.nil
        try simp only [List.getElem_toArray, List.getElem_cons_zero, List.getElem_cons_succ]
        go_simp
        refine hK.out _ _ hS2 (fun hHeld => ?_)
        clear hK K
        try simp only [Act.put, List.getElem_toArray, List.getElem_cons_zero, List.getElem_cons_succ, List.setIfInBounds_toArray, List.set_cons_zero, List.set_cons_succ]
        refine wpAnyH_ready (rs := [14]) (by kernel_rfl) (by simp) ?_
        refine AllReadyH.cons rfl (fun K hK => ?_) AllReadyH.nil
        try simp only [List.getElem_toArray, List.getElem_cons_zero, List.getElem_cons_succ]
        go_simp
        have b3 : Below w.heap.size w (W2.alloc (.cells #[.slice (some ⟨g2, 0, none⟩) l.length cap2] 31)) := b2.alloc b2.size _
        refine hK.out _ _ (HSS.out _ b3) (fun hHeld => ?_)
        clear hK K
        try simp only [Act.put, List.getElem_toArray, List.getElem_cons_zero, List.getElem_cons_succ, List.setIfInBounds_toArray, List.set_cons_zero, List.set_cons_succ]
        have hP3 : PPi (W2.alloc (.cells #[.slice (some ⟨g2, 0, none⟩) l.length cap2] 31)) w.heap.size hi_ u3 (E.take k) := hP2.keep (fun b h1 h2 => Below.heap_alloc _ _ _ (by omega))
        have hr3 : Ti (W2.alloc (.cells #[.slice (some ⟨g2, 0, none⟩) l.length cap2] 31)) hi_ (.slice (some ⟨g2, 0, none⟩) l.length cap2) l := World.ownsRow.alloc hrow _
        obtain ⟨cs, r1, r2⟩ := hP3.row
        have hlk : (E.take k).length = k := by simp; omega
        refine wpAnyH_ready (rs := [15]) (by kernel_rfl) (by simp) ?_
        refine AllReadyH.cons rfl (fun K hK => ?_) AllReadyH.nil
        refine step_append_lies _ (by rfl) _ _ _ (by rfl) w.heap.size 31 i1 _ 1 24 Try.underlying22 hi1 hy0 hy1 hy2 rfl (by omega) _ (E.take k).length cs (by rfl) r1 ⟨W2.heap.size, 0, none⟩ 1 1 [.slice (some ⟨g2, 0, none⟩) l.length cap2] (by rfl) (by rfl) (World.news_of_block (cs := #[.slice (some ⟨g2, 0, none⟩) l.length cap2]) (t := 31) (fr := (0, 0)) (heap_alloc_new _ _)) (fun x hx => by simp at hx; subst hx; rfl) (by omega) (by unfold maxLen; omega) (by omega) (by simp; omega) (W2.heap.size + 1) (by simp) ?_
        intro gg cap WA hownA growA hatA hltA
        have hPA := PPi.add r1 r2 hP3.lt hr3 (by omega) (by simp) (by omega) hownA growA hatA hltA
        have hm6 : ∀ b, u3.ownBlock = some b → w.heap.size ≤ b := fun b hb => (World.ownsRow.lt r1 b hb).1
        have bA : Below w.heap.size w WA := b3.grown growA (by simp; omega) (fun j hj => hm6 j hj)
        refine hK.out _ _ (HSS.out _ bA) (fun hHeld => ?_)
        clear hK K
        try simp only [Act.put, List.getElem_toArray, List.getElem_cons_zero, List.getElem_cons_succ, List.setIfInBounds_toArray, List.set_cons_zero, List.set_cons_succ]
        refine wpAnyH_ready (rs := [16]) (by kernel_rfl) (by simp) ?_
        refine AllReadyH.cons rfl (fun K hK => ?_) AllReadyH.nil
        try simp only [List.getElem_toArray, List.getElem_cons_zero, List.getElem_cons_succ]
        go_simp
        refine hK.out _ _ (HSS.out _ bA) (fun hHeld => ?_)
        clear hK K
        try simp only [Act.put, List.getElem_toArray, List.getElem_cons_zero, List.getElem_cons_succ, List.setIfInBounds_toArray, List.set_cons_zero, List.set_cons_succ]
        refine wpAnyH_done (by kernel_rfl) ?_ _
        refine NoPanic.normal ?_
        clear hPB hP2 hP3 r1 r2 hr1 ho2 hrow hr3 h77
        go_wp2
        go_roundw
        case rel => exact ⟨k + 1, by simp, by omega, bA, by rw [HTK.out]; rw [hlk] at hPA; exact hPA⟩
        case measure => simp [intOf]; omega
    · have e : E.take k = E := List.take_of_length_le (by omega)
      rw [e] at hP
      go_wp2
      go_ret
      exact ⟨_, rfl, hP.eat, bel⟩
end Go.Proofs.Ytbliaamckldncaa
