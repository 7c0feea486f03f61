/- Own text. The document's table in memory ('RTab'), and what its calls do: Find, Read, Write, Remove, Fit, Load. -/
import Derived.Test.YtoipggaepkedmaaVR1
namespace Go.Proofs.Ytoipggaepkedmaa
open Go.RowKit Go.Maps
set_option linter.unusedVariables false

/-- the document's table in memory: its own block, the list it holds, the files. -/
structure RTab (w : World) (rb : Nat) (v : Value) (L : Fls) : Prop where
  blk : w.heap[rb]? = some (.cells #[v] 28)
  row : w.ownsRow 0 44 2 v L.length (flat L)

section
variable {w w' : World} {rb : Nat} {v : Value} {L : Fls}
theorem RTab.cell (h : RTab w rb v L) : w.cell? ⟨rb, 0, none⟩ = some v := by rw [cell_of_row w rb 0 _ _ _ h.blk]; rfl
theorem RTab.frozen (h : RTab w rb v L) : w.frozen? ⟨rb, 0, none⟩ = false := frozen_of_row w rb 0 _ _ h.blk
theorem RTab.ltR (h : RTab w rb v L) : rb < w.heap.size := (Array.getElem?_eq_some_iff.1 h.blk).1
theorem RTab.ltV (h : RTab w rb v L) : ∀ j, v.ownBlock = some j → j < w.heap.size := fun j hj => (h.row.lt j hj).2
theorem row_off {S : Nat → Prop} {base : Nat} {e : TypeId} {size n : Nat} {xs : List Value} (h : w.ownsRow base e size v n xs) (k : Off S w w') (hS : ∀ j, v.ownBlock = some j → ¬ S j) : w'.ownsRow base e size v n xs := by
  refine ⟨h.1, ?_⟩
  rcases h.2 with h0 | ⟨g, cap, cur, rfl, hb, hg, r⟩
  · exact .inl h0
  · exact .inr ⟨g, cap, cur, rfl, hb, (k.block g (Array.getElem?_eq_some_iff.1 hg).1 (hS g rfl)).trans hg, r⟩
theorem RTab.off {S : Nat → Prop} (h : RTab w rb v L) (k : Off S w w') (h1 : ¬ S rb) (h2 : ∀ j, v.ownBlock = some j → ¬ S j) : RTab w' rb v L :=
  ⟨(k.block rb h.ltR h1).trans h.blk, row_off h.row k h2⟩
theorem RTab.below (h : RTab w rb v L) (k : Below w.heap.size w w') : RTab w' rb v L :=
  ⟨(k.block rb h.ltR).trans h.blk, row_below h.row k⟩
theorem RTab.drewN (h : RTab w rb v L) (n : Nat) : RTab (w.drewN n) rb v L := ⟨h.blk, h.row⟩
theorem RTab.drew (h : RTab w rb v L) : RTab w.drew rb v L := ⟨h.blk, h.row⟩
end

set_option maxHeartbeats 4000000 in
set_option maxRecDepth 100000 in
theorem find_any (w : World) (rb : Nat) (v : Value) (L : Fls) (p : ByteArray) (h : RTab w rb v L) (hL : L.length < 4611686018427387904) :
    Calls Try.prog 30 #[.pointer (some ⟨rb, 0, none⟩), .string p] w fun e w' => e = .returned (.tuple #[.int .i64 (posP p L), .bool (hitP p L)]) ∧ ∃ n, w' = w.drewN n := by
  have h0 := h.cell
  obtain ⟨A0, c0, hv, hf⟩ := (fat_of_row h.row).form
  subst hv
  go_enter Try.func30, Try.ntmps30
  go_wp2
  go_loopw [6] (fun i wr => ∃ k : Nat, i = .int .i64 (k : Nat) ∧ k ≤ L.length ∧ wr = w ∧ Hid (∀ i (hi : i < L.length), i < k → lessB L[i].1 p = true)) (fun i _ => L.length - (intOf i).toNat)
  case atStart => exact ⟨0, rfl, by omega, rfl, fun i hi h => by omega⟩
  case round =>
    obtain ⟨k, rfl, hk, rfl, HT⟩ := hrel
    by_cases hkl : k < L.length
    · obtain ⟨bl, of, hia, hbl, c1, c2⟩ := hf k hkl
      have HN : Hid (lessB L[k].1 p = true → ∀ i (hi : i < L.length), i < k + 1 → lessB L[i].1 p = true) := fun hl i hi hik => by
        by_cases e : i = k
        · subst e; exact hl
        · exact HT.out i hi (by omega)
      have HE : Hid (lessB L[k].1 p = false → posP p L = k) := fun hl => posP_eq p L k hk HT.out (fun _ => hl)
      have HI : Hid (posP p L = k → hitP p L = eqB L[k].1 p) := fun e => by unfold hitP; rw [e]; simp [hkl]
      generalize L[k] = x at *
      obtain ⟨px, bx⟩ := x
      simp only at c1 c2 HN HE HI
      cases hlb : lessB px p
      · have hl2 : Op.bytesLess px.toList p.toList = false := hlb
        have HP : Hid (posP p L = k) := HE.out hlb
        have HI2 : Hid (hitP p L = eqB px p) := HI.out HP.out
        have hd : (k : Int) < (L.length : Int) := by omega
        cases heq : eqB px p
        · have he2 : (px.toList == p.toList) = false := heq
          rw [heq] at HI2
          go_wp2
          go_quiet (fail)
          go_wp2
          go_ret2
          exact ⟨by rw [HP.out, HI2.out]; rfl, _, rfl⟩
        · have he2 : (px.toList == p.toList) = true := heq
          rw [heq] at HI2
          go_wp2
          go_quiet (fail)
          go_wp2
          go_ret2
          exact ⟨by rw [HP.out, HI2.out]; rfl, _, rfl⟩
      · have hl2 : Op.bytesLess px.toList p.toList = true := hlb
        have HR := HN.out hlb
        go_wp2
        go_roundw
        case rel => exact ⟨k + 1, by simp, by omega, by trivial, HR⟩
        case measure => simp [intOf]; omega
    · have hk2 : k = L.length := by omega
      have HP : Hid (posP p L = k) := posP_eq p L k hk HT.out (fun hlt => absurd hlt hkl)
      have HI2 : Hid (hitP p L = false) := by unfold hitP; rw [HP.out, List.getElem?_eq_none (by omega)]; rfl
      have hd : decide ((k : Int) < (L.length : Int)) = false := decide_eq_false (by omega)
      clear hk2
      go_wp2
      go_quiet (fail)
      go_wp2
      go_ret2
      exact ⟨by rw [HP.out, HI2.out]; rfl, _, rfl⟩

theorem rread_any (w : World) (rb : Nat) (v : Value) (L : Fls) (p : ByteArray) (h : RTab w rb v L) (hr : Ris L) (hL : L.length < 4611686018427387904) :
    Calls Try.prog 25 #[.pointer (some ⟨rb, 0, none⟩), .string p] w fun e w' => e = .returned (.tuple #[.string (getP p L), .bool (hasP p L)]) ∧ ∃ n, w' = w.drewN n := by
  have h0 := h.cell
  have hh := hit_has (p := p) hr
  cases hhit : hitP p L
  · have hhas : hasP p L = false := by rw [← hh, hhit]
    have hg : getP p L = ByteArray.empty := getP_of_not hhas
    rw [hhas, hg]
    clear hh hg hhas
    go_enter Try.func25, Try.ntmps25
    go_wp2_with (go_at_call 30; refine (find_any _ rb v L p h hL).mono ?_; rw [hhit]; rintro e W1 ⟨rfl, n1, rfl⟩)
    go_ret2
    exact ⟨rfl, _, rfl⟩
  · have hhas : hasP p L = true := by rw [← hh, hhit]
    obtain ⟨hl, hg⟩ := get_hit hhit
    obtain ⟨A0, c0, hv, hf⟩ := (fat_of_row h.row).form
    obtain ⟨bl, of, hia, hbl, c1, c2⟩ := hf (posP p L) hl
    rw [← hg] at c2
    rw [hhas]
    have hfa := fun W => find_any W rb v L p
    subst hv
    clear hg hh hhas c1
    generalize posP p L = k at *
    generalize getP p L = g at *
    go_enter Try.func25, Try.ntmps25
    go_wp2_with (go_at_call 30; refine (hfa _ h hL).mono ?_; rw [hhit]; rintro e W1 ⟨rfl, n1, rfl⟩)
    go_ret2
    exact ⟨rfl, _, rfl⟩

theorem row_slice {w : World} {base : Nat} {e : TypeId} {size : Nat} {v : Value} {n : Nat} {xs : List Value} (h : w.ownsRow base e size v n xs) : ∃ A m c, v = .slice A m c := by
  rcases h.2 with ⟨rfl, _⟩ | ⟨g, cap, cur, rfl, _⟩
  · exact ⟨_, _, _, rfl⟩
  · exact ⟨_, _, _, rfl⟩

set_option maxHeartbeats 4000000 in
set_option maxRecDepth 100000 in
theorem rwrite_any (w : World) (rb : Nat) (v : Value) (L : Fls) (p b : ByteArray) (h : RTab w rb v L) (hv0 : ∀ j, v.ownBlock = some j → j ≠ rb) (hL : (L.length + 1) * 32 ≤ 140737488355328) :
    Calls Try.prog 16 #[.pointer (some ⟨rb, 0, none⟩), .string p, .string b] w fun e w' => ∃ v', e = .returned (.int .i64 (wrE b)) ∧ RTab w' rb v' (wrL p b L) ∧ (v' = v ∨ ∀ j, v'.ownBlock = some j → w.heap.size ≤ j) ∧ Off (fun k => k = rb) w w' := by
  have h0 := h.cell
  have hlr := h.ltR
  have hlv := h.ltV
  by_cases hs : b.size ≤ 65536
  · have e1 : wrE b = 0 := by unfold wrE; rw [if_pos hs]
    have e2 : wrL p b L = L.take (posP p L) ++ ([(p, b)] ++ L.drop (nextP p L)) := by unfold wrL; rw [if_pos hs, ins_cut]
    rw [e1, e2]
    clear e1 e2
    have hfa := fun W => find_any W rb v L p
    have hpl := posP_le p L
    have hnl := nextP_le p L
    obtain ⟨y1, hy1, s1⟩ := row_head h.row (posP p L) hpl (by omega)
    obtain ⟨y2, hy2, s2⟩ := row_tail h.row (nextP p L) hnl (by omega)
    have htk : (L.take (posP p L)).length = posP p L := by simp; omega
    have hdr : (L.drop (nextP p L)).length = L.length - nextP p L := by simp
    have hnx : nextP p L = if hitP p L then posP p L + 1 else posP p L := rfl
    generalize L.take (posP p L) = G1 at *
    generalize L.drop (nextP p L) = G2 at *
    have tok1 : True := trivial
    have tok2 : True := trivial
    cases hhit : hitP p L
    · rw [hhit] at hnx
      simp only [Bool.false_eq_true, if_false] at hnx
      rw [hnx] at hy2 hdr hnl
      clear hnx
      generalize posP p L = k at *
      go_enter Try.func16, Try.ntmps16
      go_wp2_with (first
        | (go_at_call 30; refine (hfa _ h (by omega)).mono ?_; rw [hhit]; rintro e W1 ⟨rfl, n1, rfl⟩)
        | (at_builtin; have _t := tok1; refine wpList_app _ rfl _ _ rfl w.heap.size _ [] rfl (World.ownsRow_nil _ _ _ _) y1 G1 rfl s1 (by simp; omega) (Nat.le_refl _) ?_; intro o1 W2 ho1 hg1 ha1; have ho1' : W2.ownsRow w.heap.size 44 2 o1 G1.length (flat G1) := ho1; have hb2 : Below w.heap.size w W2 := (below_drewN (Below.refl _ w) n1).grown hg1 (Nat.le_refl _) (fun j hj => by cases hj); clear ho1 tok1)
        | (at_builtin; have _t := tok2; refine wpList_app _ rfl _ _ rfl w.heap.size _ G1 rfl (ho1'.alloc _) _ [(p, b)] rfl (fsrc_of_fat (fat_new W2 [(p, b)] 1 rfl _ rfl)) (by simp; omega) (by have := hb2.size; simp; omega) ?_; intro o2 W3 ho2 hg2 ha2; have hb3 : Below w.heap.size w W3 := (hb2.alloc hb2.size _).grown hg2 (by have := hb2.size; simp; omega) (fun j hj => (ho1'.lt j hj).1); have c3 := (hb3.cell (p := ⟨rb, 0, none⟩) hlr).trans h0; clear tok2)
        | (at_builtin; refine wpList_app _ rfl _ _ rfl w.heap.size _ (G1 ++ [(p, b)]) rfl ho2 y2 G2 rfl (s2.below hb3 s2.lt) (by simp; omega) hb3.size ?_; intro o3 W4 ho3 hg3 ha3; obtain ⟨A3, m3, q3, rfl⟩ := row_slice ho3; have hb4 : Below w.heap.size w W4 := hb3.grown hg3 hb3.size (fun j hj => (ho2.lt j hj).1); have c4 := (hb4.cell (p := ⟨rb, 0, none⟩) hlr).trans h0; have f4 := (hb4.frozen (p := ⟨rb, 0, none⟩) hlr).trans h.frozen))
      go_ret
      refine ⟨_, rfl, ⟨tab_set ((hb4.block rb hlr).trans h.blk), ?_⟩, .inr (fun j hj => (ho3.lt j hj).1), Off.setCell (S := fun k => k = rb) (p := ⟨rb, 0, none⟩) ⟨hb4.os, hb4.tape, hb4.output, hb4.size, fun i hi _ => hb4.block i hi⟩ (.inl rfl) _⟩
      rw [show G1 ++ (p, b) :: G2 = (G1 ++ [(p, b)]) ++ G2 by simp]
      have ho4 := row_off (S := fun k => k = rb) ho3 (Off.setCell (S := fun k => k = rb) (p := ⟨rb, 0, none⟩) (Off.refl _ W4) (.inl rfl) (.slice A3 m3 q3)) (fun j hj => by have := (ho3.lt j hj).1; omega)
      exact ⟨ho4.1, ho4.2.imp id (fun ⟨g, cap, cur, h1, _, h3⟩ => ⟨g, cap, cur, h1, Nat.zero_le _, h3⟩)⟩
    · rw [hhit] at hnx
      simp only [if_true] at hnx
      rw [hnx] at hy2 hdr hnl
      clear hnx
      generalize posP p L = k at *
      have hy2' : ∀ W, (Instr.slice 26 v (some (.int .i64 ((k : Int) + 1))) none none).run Try.prog W = .ok y2 W := fun W => by have := hy2 W; simpa using this
      go_enter Try.func16, Try.ntmps16
      go_wp2_with (first
        | (go_at_call 30; refine (hfa _ h (by omega)).mono ?_; rw [hhit]; rintro e W1 ⟨rfl, n1, rfl⟩)
        | (at_builtin; have _t := tok1; refine wpList_app _ rfl _ _ rfl w.heap.size _ [] rfl (World.ownsRow_nil _ _ _ _) y1 G1 rfl s1 (by simp; omega) (Nat.le_refl _) ?_; intro o1 W2 ho1 hg1 ha1; have ho1' : W2.ownsRow w.heap.size 44 2 o1 G1.length (flat G1) := ho1; have hb2 : Below w.heap.size w W2 := (below_drewN (Below.refl _ w) n1).grown hg1 (Nat.le_refl _) (fun j hj => by cases hj); clear ho1 tok1)
        | (at_builtin; have _t := tok2; refine wpList_app _ rfl _ _ rfl w.heap.size _ G1 rfl (ho1'.alloc _) _ [(p, b)] rfl (fsrc_of_fat (fat_new W2 [(p, b)] 1 rfl _ rfl)) (by simp; omega) (by have := hb2.size; simp; omega) ?_; intro o2 W3 ho2 hg2 ha2; have hb3 : Below w.heap.size w W3 := (hb2.alloc hb2.size _).grown hg2 (by have := hb2.size; simp; omega) (fun j hj => (ho1'.lt j hj).1); have c3 := (hb3.cell (p := ⟨rb, 0, none⟩) hlr).trans h0; clear tok2)
        | (at_builtin; refine wpList_app _ rfl _ _ rfl w.heap.size _ (G1 ++ [(p, b)]) rfl ho2 y2 G2 rfl (s2.below hb3 s2.lt) (by simp; omega) hb3.size ?_; intro o3 W4 ho3 hg3 ha3; obtain ⟨A3, m3, q3, rfl⟩ := row_slice ho3; have hb4 : Below w.heap.size w W4 := hb3.grown hg3 hb3.size (fun j hj => (ho2.lt j hj).1); have c4 := (hb4.cell (p := ⟨rb, 0, none⟩) hlr).trans h0; have f4 := (hb4.frozen (p := ⟨rb, 0, none⟩) hlr).trans h.frozen))
      go_ret
      refine ⟨_, rfl, ⟨tab_set ((hb4.block rb hlr).trans h.blk), ?_⟩, .inr (fun j hj => (ho3.lt j hj).1), Off.setCell (S := fun k => k = rb) (p := ⟨rb, 0, none⟩) ⟨hb4.os, hb4.tape, hb4.output, hb4.size, fun i hi _ => hb4.block i hi⟩ (.inl rfl) _⟩
      rw [show G1 ++ (p, b) :: G2 = (G1 ++ [(p, b)]) ++ G2 by simp]
      have ho4 := row_off (S := fun k => k = rb) ho3 (Off.setCell (S := fun k => k = rb) (p := ⟨rb, 0, none⟩) (Off.refl _ W4) (.inl rfl) (.slice A3 m3 q3)) (fun j hj => by have := (ho3.lt j hj).1; omega)
      exact ⟨ho4.1, ho4.2.imp id (fun ⟨g, cap, cur, h1, _, h3⟩ => ⟨g, cap, cur, h1, Nat.zero_le _, h3⟩)⟩
  · have e1 : wrE b = 20 := by unfold wrE; rw [if_neg hs]
    have e2 : wrL p b L = L := by unfold wrL; rw [if_neg hs]
    rw [e1, e2]
    clear e1 e2
    go_enter Try.func16, Try.ntmps16
    go_wp2
    go_ret
    exact ⟨v, rfl, h, .inl rfl, Off.refl _ _⟩

set_option maxHeartbeats 4000000 in
set_option maxRecDepth 100000 in
theorem rremove_any (w : World) (rb : Nat) (v : Value) (L : Fls) (p : ByteArray) (h : RTab w rb v L) (hr : Ris L) (hL : (L.length + 1) * 32 ≤ 140737488355328) :
    Calls Try.prog 24 #[.pointer (some ⟨rb, 0, none⟩), .string p] w fun e w' => ∃ v', e = .returned (.bool (hasP p L)) ∧ RTab w' rb v' (del p L) ∧ (v' = v ∨ ∀ j, v'.ownBlock = some j → w.heap.size ≤ j) ∧ Off (fun k => k = rb) w w' := by
  have h0 := h.cell
  have hlr := h.ltR
  have hh := hit_has (p := p) hr
  have hfa := fun W => find_any W rb v L p
  cases hhit : hitP p L
  · have hhas : hasP p L = false := by rw [← hh, hhit]
    have e2 : del p L = L := del_of_low fun x hx e => by
      have := (List.any_eq_false.1 hhas) x hx
      simp [e, eqB_self] at this
    rw [hhas, e2]
    clear hh e2 hhas
    go_enter Try.func24, Try.ntmps24
    go_wp2_with (go_at_call 30; refine (hfa _ h (by omega)).mono ?_; rw [hhit]; rintro e W1 ⟨rfl, n1, rfl⟩)
    go_ret
    exact ⟨v, rfl, h.drewN _, .inl rfl, Off.of_below (below_drewN (Below.refl _ w) _)⟩
  · have hhas : hasP p L = true := by rw [← hh, hhit]
    rw [hhas, del_cut hr hhit]
    clear hh hhas
    obtain ⟨hl, _⟩ := get_hit hhit
    obtain ⟨y1, hy1, s1⟩ := row_head h.row (posP p L) (by omega) (by omega)
    obtain ⟨y2, hy2, s2⟩ := row_tail h.row (posP p L + 1) (by omega) (by omega)
    have htk : (L.take (posP p L)).length = posP p L := by simp; omega
    have hdr : (L.drop (posP p L + 1)).length = L.length - (posP p L + 1) := by simp
    generalize L.take (posP p L) = G1 at *
    generalize L.drop (posP p L + 1) = G2 at *
    have tok1 : True := trivial
    generalize posP p L = k at *
    have hy2' : ∀ W, (Instr.slice 26 v (some (.int .i64 ((k : Int) + 1))) none none).run Try.prog W = .ok y2 W := fun W => by have := hy2 W; simpa using this
    go_enter Try.func24, Try.ntmps24
    go_wp2_with (first
      | (go_at_call 30; refine (hfa _ h (by omega)).mono ?_; rw [hhit]; rintro e W1 ⟨rfl, n1, rfl⟩)
      | (at_builtin; have _t := tok1; refine wpList_app _ rfl _ _ rfl w.heap.size _ [] rfl (World.ownsRow_nil _ _ _ _) y1 G1 rfl s1 (by simp; omega) (Nat.le_refl _) ?_; intro o1 W2 ho1 hg1 ha1; have ho1' : W2.ownsRow w.heap.size 44 2 o1 G1.length (flat G1) := ho1; have hb2 : Below w.heap.size w W2 := (below_drewN (Below.refl _ w) n1).grown hg1 (Nat.le_refl _) (fun j hj => by cases hj); have c2 := (hb2.cell (p := ⟨rb, 0, none⟩) hlr).trans h0; clear ho1 tok1)
      | (at_builtin; refine wpList_app _ rfl _ _ rfl w.heap.size _ G1 rfl ho1' y2 G2 rfl (s2.below hb2 s2.lt) (by omega) hb2.size ?_; intro o3 W4 ho3 hg3 ha3; obtain ⟨A3, m3, q3, rfl⟩ := row_slice ho3; have hb4 : Below w.heap.size w W4 := hb2.grown hg3 hb2.size (fun j hj => (ho1'.lt j hj).1); have c4 := (hb4.cell (p := ⟨rb, 0, none⟩) hlr).trans h0; have f4 := (hb4.frozen (p := ⟨rb, 0, none⟩) hlr).trans h.frozen))
    go_ret
    refine ⟨_, rfl, ⟨tab_set ((hb4.block rb hlr).trans h.blk), ?_⟩, .inr (fun j hj => (ho3.lt j hj).1), Off.setCell (S := fun k => k = rb) (p := ⟨rb, 0, none⟩) ⟨hb4.os, hb4.tape, hb4.output, hb4.size, fun i hi _ => hb4.block i hi⟩ (.inl rfl) _⟩
    have ho4 := row_off (S := fun k => k = rb) ho3 (Off.setCell (S := fun k => k = rb) (p := ⟨rb, 0, none⟩) (Off.refl _ W4) (.inl rfl) (.slice A3 m3 q3)) (fun j hj => by have := (ho3.lt j hj).1; omega)
    exact ⟨ho4.1, ho4.2.imp id (fun ⟨g, cap, cur, h1, _, h3⟩ => ⟨g, cap, cur, h1, Nat.zero_le _, h3⟩)⟩

set_option maxHeartbeats 4000000 in
set_option maxRecDepth 100000 in
theorem fit_any (w : World) (v : Value) (F : Fls) (h : FAt w v F) (hF : F.length < 4611686018427387904) :
    Calls Try.prog 32 #[v] w fun e w' => e = .returned (.int .i64 (ldE F)) ∧ ∃ n, w' = w.drewN n := by
  obtain ⟨A0, c0, rfl, hf⟩ := h.form
  go_enter Try.func32, Try.ntmps32
  go_wp2
  go_loopw [3] (fun i wr => ∃ k n : Nat, i = .int .i64 (k : Nat) ∧ k ≤ F.length ∧ wr = w.drewN n ∧ Hid (∀ j, j < k → fitAt F j = true)) (fun i _ => F.length - (intOf i).toNat)
  case atStart => exact ⟨0, 0, rfl, by omega, rfl, fun j hj => by omega⟩
  case round =>
    obtain ⟨k, n, rfl, hk, rfl, HT⟩ := hrel
    by_cases hkl : k < F.length
    · obtain ⟨bl, of, hia, hbl, c1, c2⟩ := hf k hkl
      have HN : Hid (fitAt F k = true → ∀ j, j < k + 1 → fitAt F j = true) := fun hf j hj => by
        by_cases e : j = k
        · subst e; exact hf
        · exact HT.out j (by omega)
      have HX : Hid (fitAt F k = false → ldE F = 21) := fun hf => by unfold ldE; rw [fitB_false hkl hf]; rfl
      cases k with
      | zero =>
        have HE : Hid (fitAt F 0 = decide (F[0].2.size ≤ 65536)) := fitAt_zero hkl rfl
        have hia0 : ∀ W, (Instr.indexAt 26 (.slice A0 F.length c0) (.int .i64 0)).run Try.prog W = .ok (.pointer (some ⟨bl, of + 0 * 2, none⟩)) W := hia
        generalize F[0] = x at *
        obtain ⟨p, b⟩ := x
        simp only [Nat.zero_mul, Nat.add_zero] at c1 c2 HE hia0 hia
        by_cases hs : b.size ≤ 65536
        · have hd : decide ((65536 : Int) < (b.size : Int)) = false := decide_eq_false (by omega)
          have HR : Hid (∀ j, j < 0 + 1 → fitAt F j = true) := HN.out (by rw [HE.out]; exact decide_eq_true hs)
          go_wp2
          go_quiet (fail)
          go_wp2
          go_roundw
          case rel => exact ⟨1, _, by simp, by omega, rfl, HR⟩
          case measure => simp [intOf]; omega
        · have hd : (65536 : Int) < (b.size : Int) := by omega
          have HR : Hid (ldE F = 21) := HX.out (by rw [HE.out]; exact decide_eq_false hs)
          go_wp2
          go_quiet (fail)
          go_wp2
          go_ret
          exact ⟨by rw [HR.out]; rfl, _, drewN_two w n _⟩
      | succ k =>
        obtain ⟨bl', of', hia', hbl', d1, d2⟩ := hf k (by omega)
        have HE : Hid (fitAt F (k + 1) = (decide (F[k + 1].2.size ≤ 65536) && lessB F[k].1 F[k + 1].1)) := fitAt_succ hkl rfl rfl
        have hia2 : ∀ W, (Instr.indexAt 26 (.slice A0 F.length c0) (.int .i64 ((k : Int) + 1))).run Try.prog W = .ok (.pointer (some ⟨bl, of + (k + 1) * 2, none⟩)) W := fun W => by have := hia W; simpa using this
        have hwk : IntKind.i64.wrap (k : Int) = (k : Int) := wrap_small k (by omega)
        have hk0 : (0 : Int) < (k : Int) + 1 := by omega
        generalize F[k + 1] = x at *
        generalize F[k] = y at *
        obtain ⟨p, b⟩ := x
        obtain ⟨p', b'⟩ := y
        simp only at c1 c2 d1 d2 HE
        cases hlb : lessB p' p
        · have HR : Hid (ldE F = 21) := HX.out (by rw [HE.out, hlb]; simp)
          have hbl2 : Op.bytesLess p'.toList p.toList = false := hlb
          go_wp2
          go_quiet (fail)
          go_wp2
          go_ret
          exact ⟨by rw [HR.out]; rfl, _, drewN_two w n _⟩
        · have hbl2 : Op.bytesLess p'.toList p.toList = true := hlb
          by_cases hs : b.size ≤ 65536
          · have hd : decide ((65536 : Int) < (b.size : Int)) = false := decide_eq_false (by omega)
            have HR : Hid (∀ j, j < k + 1 + 1 → fitAt F j = true) := HN.out (by rw [HE.out, hlb, decide_eq_true hs]; rfl)
            go_wp2
            go_quiet (fail)
            go_wp2
            go_roundw
            case rel => exact ⟨k + 2, _, by simp; omega, by omega, rfl, HR⟩
            case measure => simp [intOf]; omega
          · have hd : (65536 : Int) < (b.size : Int) := by omega
            have HR : Hid (ldE F = 21) := HX.out (by rw [HE.out]; simp [hs])
            go_wp2
            go_quiet (fail)
            go_wp2
            go_ret
            exact ⟨by rw [HR.out]; rfl, _, drewN_two w n _⟩
    · have HR : Hid (ldE F = 0) := by unfold ldE; rw [fitB_true (fun i hi => HT.out i (by omega))]; rfl
      go_wp2
      go_ret
      exact ⟨by rw [HR.out]; rfl, n, rfl⟩

theorem rload_any (w : World) (rb : Nat) (v : Value) (L F : Fls) (x : Value) (h : RTab w rb v L) (hx : FAt w x F) (hF : F.length * 32 ≤ 140737488355328) :
    Calls Try.prog 18 #[.pointer (some ⟨rb, 0, none⟩), x] w fun e w' => ∃ v', e = .returned (.int .i64 (ldE F)) ∧ RTab w' rb v' (ldL F L) ∧ (v' = v ∨ ∀ j, v'.ownBlock = some j → w.heap.size ≤ j) ∧ Off (fun k => k = rb) w w' := by
  have h0 := h.cell
  have hlr := h.ltR
  cases hfit : fitB F
  · have e1 : ldE F = 21 := by simp [ldE, hfit]
    have e2 : ldL F L = L := by simp [ldL, hfit]
    rw [e1, e2]
    go_enter Try.func18, Try.ntmps18
    go_wp2_with (go_at_call 32; refine (fit_any _ x F hx (by omega)).mono ?_; rw [e1]; rintro e W1 ⟨rfl, n1, rfl⟩)
    go_ret
    exact ⟨v, rfl, h.drewN _, .inl rfl, Off.of_below (below_drewN (Below.refl _ w) _)⟩
  · have e1 : ldE F = 0 := by simp [ldE, hfit]
    have e2 : ldL F L = F := by simp [ldL, hfit]
    rw [e1, e2]
    have hsrc := fsrc_of_fat hx
    go_enter Try.func18, Try.ntmps18
    go_wp2_with (first
      | (go_at_call 32; refine (fit_any _ x F hx (by omega)).mono ?_; rw [e1]; rintro e W1 ⟨rfl, n1, rfl⟩)
      | (at_builtin; refine wpList_app _ rfl _ _ rfl w.heap.size _ [] rfl (World.ownsRow_nil _ _ _ _) x F rfl hsrc (by simp; omega) (Nat.le_refl _) ?_; intro o1 W2 ho1 hg1 ha1; have ho3 : W2.ownsRow w.heap.size 44 2 o1 F.length (flat F) := ho1; obtain ⟨A3, m3, q3, rfl⟩ := row_slice ho3; have hb4 : Below w.heap.size w W2 := (below_drewN (Below.refl _ w) n1).grown hg1 (Nat.le_refl _) (fun j hj => by cases hj); have c4 := (hb4.cell (p := ⟨rb, 0, none⟩) hlr).trans h0; have f4 := (hb4.frozen (p := ⟨rb, 0, none⟩) hlr).trans h.frozen; clear ho1))
    go_ret
    refine ⟨_, rfl, ⟨tab_set ((hb4.block rb hlr).trans h.blk), ?_⟩, .inr (fun j hj => (ho3.lt j hj).1), Off.setCell (S := fun k => k = rb) (p := ⟨rb, 0, none⟩) ⟨hb4.os, hb4.tape, hb4.output, hb4.size, fun i hi _ => hb4.block i hi⟩ (.inl rfl) _⟩
    have ho4 := row_off (S := fun k => k = rb) ho3 (Off.setCell (S := fun k => k = rb) (p := ⟨rb, 0, none⟩) (Off.refl _ W2) (.inl rfl) (.slice A3 m3 q3)) (fun j hj => by have := (ho3.lt j hj).1; omega)
    exact ⟨ho4.1, ho4.2.imp id (fun ⟨g, cap, cur, h1, _, h3⟩ => ⟨g, cap, cur, h1, Nat.zero_le _, h3⟩)⟩

end Go.Proofs.Ytoipggaepkedmaa
