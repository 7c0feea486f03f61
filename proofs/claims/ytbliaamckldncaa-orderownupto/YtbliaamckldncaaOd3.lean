/- Own text. The document's reach: which places can be reached from one. -/
import Derived.Test.YtbliaamckldncaaOd2
import Derived.Deep.LoopGhost
namespace Go.Proofs.Ytbliaamckldncaa
open Go.RowKit Gph
set_option linter.unusedVariables false

/-- a row cut shorter. -/
theorem row_cut {w : World} {base : Nat} {e : TypeId} {size g cap n k : Nat} {xs : List Value} (h : w.ownsRow base e size (.slice (some ⟨g, 0, none⟩) n cap) n xs) (hk : k ≤ n) : w.ownsRow base e size (.slice (some ⟨g, 0, none⟩) k cap) k (xs.take (k * size)) := by
  obtain ⟨h1, h2⟩ := h
  have hm : k * size ≤ n * size := Nat.mul_le_mul_right _ hk
  refine ⟨by rw [List.length_take, h1]; omega, ?_⟩
  rcases h2 with ⟨h0, _⟩ | ⟨g', cap', cur, hv, hg, hh, hn, hcap, hsz, htake⟩
  · cases h0
  · cases hv
    refine .inr ⟨g, cap, cur, rfl, hg, hh, by omega, hcap, hsz, ?_⟩
    rw [← htake, List.take_take, Nat.min_eq_left hm]
theorem row_some {w : World} {base : Nat} {e : TypeId} {size : Nat} {v : Value} {n : Nat} {xs : List Value} (h : w.ownsRow base e size v n xs) (hn : 0 < n) : ∃ g c, v = .slice (some ⟨g, 0, none⟩) n c ∧ base ≤ g ∧ n ≤ c := by
  rcases h.2 with ⟨rfl, rfl⟩ | ⟨g, cap, cur, rfl, h1, h2, h3, _⟩
  · omega
  · exact ⟨_, _, rfl, h1, h3⟩
theorem row_form {w : World} {base : Nat} {e : TypeId} {size : Nat} {v : Value} {n : Nat} {xs : List Value} (h : w.ownsRow base e size v n xs) : ∃ A c, v = .slice A n c := by
  rcases h.2 with ⟨rfl, rfl⟩ | ⟨g, cap, cur, rfl, _⟩
  · exact ⟨_, _, rfl⟩
  · exact ⟨_, _, rfl⟩
theorem Fl.made1 {w : World} {base n : Nat} (hb : base ≤ w.heap.size) (hn : n ≤ 4194304) (r : Nat) : Fl (w.alloc (.cells ((flg n).setIfInBounds r (.bool true)) 4)) base w.heap.size n ((List.replicate n false).set r true) := by
  have h := World.ownsRow_lit (base := base) (e := 4) (size := 1) w ((flg n).setIfInBounds r (.bool true)) n hb (by unfold maxLen; omega) (by rw [Array.size_setIfInBounds]; unfold flg; rw [size_madeCells]; omega)
  rw [Array.toList_setIfInBounds, flg_list] at h
  unfold Fl bools
  rw [List.map_set]
  exact h
/-- the search: x was taken off what is left to do, and m of its edges were looked at (all, where there is none such). -/
structure Srch (G : List (List Nat)) (r : Nat) (S : List Bool) (td : List Nat) (x : Option Nat) (m : Nat) : Prop where
  reach : ∀ y, on S y → Rch G r y
  root : on S r
  todo : ∀ y ∈ td, on S y
  done : ∀ y, on S y → x = some y ∨ y ∈ td ∨ ∀ z ∈ ed G y, on S z
  here : ∀ y, x = some y → on S y ∧ ∀ z ∈ (ed G y).take m, on S z
theorem Srch.start {G : List (List Nat)} {r : Nat} (hr : r < G.length) : Srch G r ((List.replicate G.length false).set r true) [r] none 0 := by
  have h : ∀ y, on ((List.replicate G.length false).set r true) y ↔ y = r := fun y => by rw [on_set (by simpa using hr)]; exact ⟨fun h => h.elim id (fun h => absurd h (not_on_rep _ _)), Or.inl⟩
  exact ⟨fun y hy => by rw [(h y).1 hy]; exact Rch.refl r, (h r).2 rfl, fun y hy => (h y).2 (List.mem_singleton.1 hy), fun y hy => Or.inr (Or.inl (List.mem_singleton.2 ((h y).1 hy))), fun y hy => by cases hy⟩
theorem Srch.pop {G : List (List Nat)} {r x : Nat} {S : List Bool} {td : List Nat} (h : Srch G r S (td ++ [x]) none 0) : Srch G r S td (some x) 0 :=
  ⟨h.reach, h.root, fun y hy => h.todo y (List.mem_append_left _ hy), fun y hy => by
    rcases h.done y hy with e | e | e
    · cases e
    · rcases List.mem_append.1 e with e | e
      · exact Or.inr (Or.inl e)
      · exact Or.inl (by rw [List.mem_singleton.1 e])
    · exact Or.inr (Or.inr e), fun y hy => by injection hy with e; subst e; exact ⟨h.todo x (by simp), by simp⟩⟩
theorem Srch.end_ {G : List (List Nat)} {r x m : Nat} {S : List Bool} {td : List Nat} (h : Srch G r S td (some x) m) (hm : (ed G x).length ≤ m) : Srch G r S td none 0 :=
  ⟨h.reach, h.root, h.todo, fun y hy => by
    rcases h.done y hy with e | e | e
    · injection e with e; subst e
      have := (h.here x rfl).2
      rw [List.take_of_length_le hm] at this
      exact Or.inr (Or.inr this)
    · exact Or.inr (Or.inl e)
    · exact Or.inr (Or.inr e), fun y hy => by cases hy⟩
theorem Srch.old {G : List (List Nat)} {r x m : Nat} {S : List Bool} {td : List Nat} (h : Srch G r S td (some x) m) (hm : m < (ed G x).length) (q : on S (ed G x)[m]) : Srch G r S td (some x) (m + 1) :=
  ⟨h.reach, h.root, h.todo, h.done, fun y hy => by
    injection hy with e; subst e
    refine ⟨(h.here x rfl).1, fun z hz => ?_⟩
    rw [List.take_succ_eq_append_getElem hm] at hz
    rcases List.mem_append.1 hz with hz | hz
    · exact (h.here x rfl).2 z hz
    · rw [List.mem_singleton.1 hz]; exact q⟩
theorem Srch.new {G : List (List Nat)} {r x m y : Nat} {S : List Bool} {td : List Nat} (h : Srch G r S td (some x) m) (hm : m < (ed G x).length) (e : y = (ed G x)[m]) (hy : y < S.length) : Srch G r (S.set y true) (td ++ [y]) (some x) (m + 1) := by
  have hx := (h.here x rfl).1
  have hyx : y ∈ ed G x := e ▸ List.getElem_mem hm
  refine ⟨fun z hz => ?_, (on_set hy).2 (Or.inr h.root), fun z hz => ?_, fun z hz => ?_, fun z hz => ?_⟩
  · rcases (on_set hy).1 hz with rfl | hz
    · exact (h.reach x hx).step hyx
    · exact h.reach z hz
  · rcases List.mem_append.1 hz with hz | hz
    · exact (on_set hy).2 (Or.inr (h.todo z hz))
    · exact (on_set hy).2 (Or.inl (List.mem_singleton.1 hz))
  · rcases (on_set hy).1 hz with rfl | hz
    · exact Or.inr (Or.inl (by simp))
    · rcases h.done z hz with k | k | k
      · exact Or.inl k
      · exact Or.inr (Or.inl (List.mem_append_left _ k))
      · exact Or.inr (Or.inr fun a ha => (on_set hy).2 (Or.inr (k a ha)))
  · injection hz with k; subst k
    refine ⟨(on_set hy).2 (Or.inr hx), fun a ha => ?_⟩
    rw [List.take_succ_eq_append_getElem hm] at ha
    rcases List.mem_append.1 ha with ha | ha
    · exact (on_set hy).2 (Or.inr ((h.here x rfl).2 a ha))
    · exact (on_set hy).2 (Or.inl (by rw [List.mem_singleton.1 ha, e]))
theorem Srch.all {G : List (List Nat)} {r : Nat} {S : List Bool} (h : Srch G r S [] none 0) (y : Nat) : on S y ↔ Rch G r y :=
  ⟨h.reach y, fun k => k (fun y => on S y) h.root (fun a b ha hb => by
    rcases h.done a ha with e | e | e
    · cases e
    · simp at e
    · exact e b hb)⟩
set_option maxRecDepth 100000 in
set_option maxHeartbeats 8000000 in
theorem rreach_any {G : List (List Nat)} (hG : Ok G) (hn : G.length ≤ 4194304) (hk : ∀ x, (ed G x).length ≤ 4194304) {B : Nat} {v : Value} {w : World} (hE : EAt w B v (toI G)) (hB : B ≤ w.heap.size) {r : Nat} (hr : r < G.length) :
    Calls Try.prog 23 #[v, .int .i64 (r : Nat)] w fun e w' => ∃ g S, e = .returned (.slice (some ⟨g, 0, none⟩) G.length G.length) ∧ Fl w' w.heap.size g G.length S ∧ (∀ y, on S y ↔ Rch G r y) ∧ Below w.heap.size w w' := by
  obtain ⟨i0, hi, hz0, hz1, hz2⟩ := info_parts info_int
  obtain ⟨b, o, c, fv, rfl, hb, hf⟩ := hE.gl (by omega)
  have hmk := fun W => make_bool G.length hn W
  go_enter Try.func23, Try.ntmps23
  have s1 : ∀ W : World, ∃ u, (W.alloc (.cells (flg G.length) 4)).cell? ⟨W.heap.size, r, none⟩ = some u := fun W => ⟨_, ((Fl.made (w := W) (Nat.le_refl _) hn).at hr).1⟩
  have s2 : ∀ W : World, (W.alloc (.cells (flg G.length) 4)).frozen? ⟨W.heap.size, r, none⟩ = false := fun W => ((Fl.made (w := W) (Nat.le_refl _) hn).at hr).2
  obtain ⟨u0, s0⟩ := s1 w
  have s3 := s2 w
  clear s1 s2
  go_wp2
  obtain ⟨W0, hW0⟩ : ∃ W, ((w.alloc (Obj.cells ((flg G.length).setIfInBounds r (Value.bool true)) 4)).alloc (Obj.cells #[Value.int IntKind.i64 (r : Nat)] 3)) = W := ⟨_, rfl⟩
  have b0 : Below w.heap.size w W0 := by rw [← hW0]; exact ((Below.refl _ _).alloc (Nat.le_refl _) _).alloc (by simp) _
  have hF0 : Fl W0 w.heap.size w.heap.size G.length ((List.replicate G.length false).set r true) := by rw [← hW0]; exact World.ownsRow.alloc (Fl.made1 (Nat.le_refl _) hn r) _
  have hT0 : Tl W0 (w.heap.size + 1) (.slice (some ⟨w.heap.size + 1, 0, none⟩) 1 1) [r] := by
    rw [← hW0]
    have := World.ownsRow_lit (base := w.heap.size + 1) (e := 3) (size := 1) (w.alloc (Obj.cells ((flg G.length).setIfInBounds r (Value.bool true)) 4)) #[Value.int IntKind.i64 (r : Nat)] 1 (by simp) (by unfold maxLen; omega) rfl
    simpa [Tl, ints, nI] using this
  rw [hW0]
  clear hW0 s0 s3 hmk
  have HI : Hid (∀ W, Below w.heap.size w W → ∀ x, x < G.length → ∃ ad c', W.cell? ⟨b, o + x, none⟩ = some (.slice ad (ed G x).length c') ∧ (∀ m (h : m < (ed G x).length), ∃ b' o', ad = some ⟨b', o', none⟩ ∧ W.cell? ⟨b', o' + m, none⟩ = some (.int .i64 ((ed G x)[m] : Nat)))) := fun W bl x hx => by
    have bl' := bl.mono hB
    obtain ⟨f1, f2⟩ := hf x hx
    obtain ⟨⟨ad, c', e'⟩, hcl⟩ := f2.nl
    rw [e'] at f1 hcl
    refine ⟨ad, c', (World.cell?_of_block (a := ⟨b, o + x, none⟩) (bl'.block b hb)).trans f1, fun m hm => ?_⟩
    obtain ⟨b', o', c2, e2, hb', hc'⟩ := hcl (by omega)
    cases e2
    exact ⟨b', o', rfl, (World.cell?_of_block (a := ⟨b', o' + m, none⟩) (bl'.block b' hb')).trans (hc' m hm)⟩
  clear hf
  have HO := off_rep G.length
  have HO1 := off_set (S := List.replicate G.length false) (x := r) (by simpa using hr) (not_on_rep _ _)
  go_loopg [6] (G.length) (fun gk tv wr => ∃ (S : List Bool) (td : List Nat), gk = td.length + off S ∧ gk ≤ G.length ∧ Below w.heap.size w wr ∧ Fl wr w.heap.size w.heap.size G.length S ∧ Tl wr (w.heap.size + 1) tv td ∧ Hid (Srch G r S td none 0))
  case atStart => exact ⟨_, [r], by simp; omega, Nat.le_refl _, b0, hF0, hT0, Srch.start hr⟩
  case round =>
    clear b0 hF0 hT0 HO HO1
    obtain ⟨S, td, rfl, hgk, bel, hF, hT, hS⟩ := hrel
    rcases List.eq_nil_or_concat td with rfl | ⟨td', x, e⟩
    · obtain ⟨at_, ct, rfl⟩ := row_form hT
      go_wp2
      go_ret
      exact ⟨_, S, rfl, hF, hS.out.all, bel⟩
    · have e' : td = td' ++ [x] := by simpa using e
      subst e'
      clear e
      have hxS := hS.out.todo x (by simp)
      have hx : x < G.length := Rch.lt hG (hS.out.reach x hxS) hr
      have hlen : (td' ++ [x]).length = td'.length + 1 := by simp
      obtain ⟨gt, ct, rfl, hgt, hct⟩ := row_some hT (by omega)
      have hc1 := World.ownsRow.cellAt hT td'.length (by omega)
      have hxc : (ints (nI (td' ++ [x])))[td'.length]? = some (.int .i64 (x : Nat)) := by simp [ints, nI]
      rw [hxc] at hc1
      clear hxc
      have hTc := row_cut hT (k := td'.length) (by omega)
      have etk : (ints (nI (td' ++ [x]))).take (td'.length * 1) = ints (nI td') := by simp [ints, nI]
      rw [etk] at hTc
      clear etk
      have HP : Hid (Srch G r S td' (some x) 0) := hS.out.pop
      rw [hlen] at hT hgk hct ⊢
      clear hlen hS hxS hT
      obtain ⟨ad, c', g1, g2⟩ := HI.out _ bel x hx
      have HX := hk x
      have hct' : ((td'.length : Nat) : Int) ≤ ((ct : Nat) : Int) := by omega
      have HG : Hid (∀ y ∈ ed G x, y < G.length) := fun y hy => hG _ _ hy
      generalize hl : ed G x = l at *
      have HL : Hid (ed G x = l) := hl
      clear hl
      go_wp2
      go_loopw [6, 8] (fun tv kv wq => ∃ (m : Nat) (S' : List Bool) (t2 : List Nat), kv = .int .i64 (m : Nat) ∧ m ≤ l.length ∧ t2.length + off S' + 1 = td'.length + 1 + off S ∧ Below w.heap.size w wq ∧ Fl wq w.heap.size w.heap.size G.length S' ∧ Tl wq (w.heap.size + 1) tv t2 ∧ Hid (Srch G r S' t2 (some x) m)) (fun _ kv _ => l.length - (intOf kv).toNat)
      case atStart => exact ⟨0, S, td', rfl, by omega, by omega, bel, hF, hTc, HP⟩
      case round =>
        clear bel hF hTc HP g1 g2 hc1
        obtain ⟨m, S', t2, rfl, hml, hcnt, bel, hF, hT, hS⟩ := hrel
        obtain ⟨ad, c', g1, g2⟩ := HI.out _ bel x hx
        rw [HL.out] at g1
        by_cases hmt : m < l.length
        · have hmt' : m < (ed G x).length := by rw [HL.out]; exact hmt
          obtain ⟨b', o', rfl, g3⟩ := g2 m hmt'
          have hy := hG x _ (List.getElem_mem hmt')
          have H1 : Hid (on S' (ed G x)[m] → Srch G r S' t2 (some x) (m + 1)) := fun q => hS.out.old hmt' q
          have H2 : Hid (Srch G r (S'.set (ed G x)[m] true) (t2 ++ [(ed G x)[m]]) (some x) (m + 1)) := hS.out.new hmt' rfl (by rw [hF.len]; exact hy)
          clear g2
          generalize (ed G x)[m] = y at *
          obtain ⟨d1, d2⟩ := hF.at hy
          cases q : isOn S' y with
          | true =>
            rw [q] at d1
            have H3 : Hid (Srch G r S' t2 (some x) (m + 1)) := H1.out (isOn_iff.1 q)
            clear q H1 H2 hmt'
            go_wp2
            go_roundw
            case rel => exact ⟨m + 1, S', t2, by simp, by omega, hcnt, bel, hF, hT, H3⟩
            case measure => simp [intOf]; omega
          | false =>
            rw [q] at d1
            have hoff := off_set (S := S') (x := y) (by rw [hF.len]; exact hy) (fun h => by rw [isOn_iff.2 h] at q; cases q)
            obtain ⟨hF1, gr1⟩ := hF.put y
            obtain ⟨W1, hW1⟩ : ∃ W, wr.setCell ⟨w.heap.size, y, none⟩ (.bool true) = W := ⟨_, rfl⟩
            have hT1 : Tl W1 (w.heap.size + 1) u6 t2 := by rw [← hW1]; exact World.ownsRow.kept hT gr1 (by cases hv : u6.ownBlock with | none => exact Or.inl rfl | some q => have := (World.ownsRow.lt hT q hv).1; exact Or.inr (by intro e; injection e; omega))
            have b1 : Below w.heap.size w W1 := by rw [← hW1]; exact bel.setCell (Nat.le_refl _) _
            rw [hW1] at hF1
            clear q H1 hmt' gr1
            have hsz := b1.size
            obtain ⟨_, hgw⟩ := hF1.lt
            go_wp2_with (at_builtin; refine wpList_append_own _ rfl _ _ 31 rfl (w.heap.size + 1) 3 i0 (.int .i64 0) 1 8 Try.underlying31 hi hz0 hz1 hz2 rfl (by decide) _ _ _ rfl (World.ownsRow.alloc hT1 _) ⟨_, 0, none⟩ 1 1 [.int .i64 (y : Nat)] rfl rfl (cell_one_new _ _ _) (fun x hx => by simp at hx; subst hx; rfl) (by unfold maxLen; omega) (by omega) (by simp; omega) ?_; intro v1 W2 ho1 hg1 hn1)
            have hFa : Fl (W1.alloc (.cells #[.int .i64 (y : Nat)] 3)) w.heap.size w.heap.size G.length (S'.set y true) := World.ownsRow.alloc hF1 _
            have hne : ∀ j, u6.ownBlock = some j → w.heap.size + 1 ≤ j := fun j hj => (World.ownsRow.lt hT1 j hj).1
            go_roundw
            case rel => exact ⟨m + 1, S'.set y true, t2 ++ [y], by simp, by omega, by simp; omega, (b1.alloc (by omega) _).grown hg1 (by simp; omega) (fun j hj => by have := hne j hj; omega), World.ownsRow.kept hFa hg1 (Or.inr (fun e => by have := hne w.heap.size e.symm; omega)), Tl.add ho1, H2⟩
            case measure => simp [intOf]; omega
        · have H3 : Hid (Srch G r S' t2 none 0) := hS.out.end_ (by rw [HL.out]; omega)
          clear g2
          go_wp2
          go_roundg (t2.length + off S')
          case rel => exact ⟨S', t2, rfl, by omega, bel, hF, hT, H3⟩
          case measure => simp; omega
end Go.Proofs.Ytbliaamckldncaa
