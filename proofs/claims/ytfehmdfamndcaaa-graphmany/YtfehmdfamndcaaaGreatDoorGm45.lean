/- Own text. The document's table in memory ('RTab'), and what its calls do: Find, Read, Write, Remove, Fit, Load. The statements' Table: files are written into the program's table and into the document's. -/
import Derived.Test.YtfehmdfamndcaaaGreatDoorGm44
import Derived.Test.YtfehmdfamndcaaaGreatDoorGm01
namespace Go.Proofs.YtfehmdfamndcaaaGreatDoor.Vf
open Go.RowKit Go.Maps
set_option linter.unusedVariables false

/-- the document's table in memory: its own block, the list it holds, the files. -/
structure RTab (w : World) (rb : Nat) (v : Value) (L : Fls) : Prop where
  blk : w.heap[rb]? = some (.cells #[v] 41)
  row : w.ownsRow 0 25 2 v L.length (flat L)

section
variable {w w' : World} {rb : Nat} {v : Value} {L : Fls}
set_option maxRecDepth 100000 in
theorem RTab.cell (h : RTab w rb v L) : w.cell? ⟨rb, 0, none⟩ = some v := by rw [cell_of_row w rb 0 _ _ _ h.blk]; rfl
set_option maxRecDepth 100000 in
theorem RTab.frozen (h : RTab w rb v L) : w.frozen? ⟨rb, 0, none⟩ = false := frozen_of_row w rb 0 _ _ h.blk
set_option maxRecDepth 100000 in
theorem RTab.ltR (h : RTab w rb v L) : rb < w.heap.size := (Array.getElem?_eq_some_iff.1 h.blk).1
set_option maxRecDepth 100000 in
theorem RTab.ltV (h : RTab w rb v L) : ∀ j, v.ownBlock = some j → j < w.heap.size := fun j hj => (h.row.lt j hj).2
set_option maxRecDepth 100000 in
theorem row_off {S : Nat → Prop} {base : Nat} {e : TypeId} {size n : Nat} {xs : List Value} (h : w.ownsRow base e size v n xs) (k : Off S w w') (hS : ∀ j, v.ownBlock = some j → ¬ S j) : w'.ownsRow base e size v n xs := by
  refine ⟨h.1, ?_⟩
  rcases h.2 with h0 | ⟨g, cap, cur, rfl, hb, hg, r⟩
  · exact .inl h0
  · exact .inr ⟨g, cap, cur, rfl, hb, (k.block g (Array.getElem?_eq_some_iff.1 hg).1 (hS g rfl)).trans hg, r⟩
set_option maxRecDepth 100000 in
theorem RTab.off {S : Nat → Prop} (h : RTab w rb v L) (k : Off S w w') (h1 : ¬ S rb) (h2 : ∀ j, v.ownBlock = some j → ¬ S j) : RTab w' rb v L :=
  ⟨(k.block rb h.ltR h1).trans h.blk, row_off h.row k h2⟩
set_option maxRecDepth 100000 in
theorem RTab.below (h : RTab w rb v L) (k : Below w.heap.size w w') : RTab w' rb v L :=
  ⟨(k.block rb h.ltR).trans h.blk, row_below h.row k⟩
set_option maxRecDepth 100000 in
theorem RTab.drewN (h : RTab w rb v L) (n : Nat) : RTab (w.drewN n) rb v L := ⟨h.blk, h.row⟩
set_option maxRecDepth 100000 in
theorem RTab.drew (h : RTab w rb v L) : RTab w.drew rb v L := ⟨h.blk, h.row⟩
end

set_option maxHeartbeats 4000000 in
set_option maxRecDepth 100000 in
theorem find_any (w : World) (rb : Nat) (v : Value) (L : Fls) (p : ByteArray) (h : RTab w rb v L) (hL : L.length < 4611686018427387904) :
    Calls Tryz.prog 16 #[.pointer (some ⟨rb, 0, none⟩), .string p] w fun e w' => e = .returned (.tuple #[.int .i64 (posP p L), .bool (hitP p L)]) ∧ ∃ n, w' = w.drewN n := by
  have h0 := h.cell
  obtain ⟨A0, c0, hv, hf⟩ := (fat_of_row h.row).form
  subst hv
  go_enter Tryz.func16, Tryz.ntmps16
  go_wp2
  go_loopw [6] (fun i wr => ∃ k : Nat, i = .int .i64 (k : Nat) ∧ k ≤ L.length ∧ wr = w ∧ Hid (∀ i (hi : i < L.length), i < k → lessB L[i].1 p = true)) (fun i _ => L.length - (intOf i).toNat)
  case atStart => exact ⟨0, rfl, by omega, rfl, fun i hi h => by omega⟩
  case round =>
    obtain ⟨k, rfl, hk, rfl, HT⟩ := hrel
    by_cases hkl : k < L.length
    · obtain ⟨bl, of, hia, hbl, c1, c2⟩ := hf k hkl
      have HN : Hid (lessB L[k].1 p = true → ∀ i (hi : i < L.length), i < k + 1 → lessB L[i].1 p = true) := fun hl i hi hik => by
        by_cases e : i = k
        · subst e; exact hl
        · exact HT.out i hi (by omega)
      have HE : Hid (lessB L[k].1 p = false → posP p L = k) := fun hl => posP_eq p L k hk HT.out (fun _ => hl)
      have HI : Hid (posP p L = k → hitP p L = eqB L[k].1 p) := fun e => by unfold hitP; rw [e]; simp [hkl]
      generalize L[k] = x at *
      obtain ⟨px, bx⟩ := x
      simp only at c1 c2 HN HE HI
      cases hlb : lessB px p
      · have hl2 : Op.bytesLess px.toList p.toList = false := hlb
        have HP : Hid (posP p L = k) := HE.out hlb
        have HI2 : Hid (hitP p L = eqB px p) := HI.out HP.out
        have hd : (k : Int) < (L.length : Int) := by omega
        cases heq : eqB px p
        · have he2 : (px.toList == p.toList) = false := heq
          rw [heq] at HI2
          go_wp2
          go_quiet (fail)
          go_wp2
          go_ret2
          exact ⟨by rw [HP.out, HI2.out]; rfl, _, rfl⟩
        · have he2 : (px.toList == p.toList) = true := heq
          rw [heq] at HI2
          go_wp2
          go_quiet (fail)
          go_wp2
          go_ret2
          exact ⟨by rw [HP.out, HI2.out]; rfl, _, rfl⟩
      · have hl2 : Op.bytesLess px.toList p.toList = true := hlb
        have HR := HN.out hlb
        go_wp2
        go_roundw
        case rel => exact ⟨k + 1, by simp, by omega, by trivial, HR⟩
        case measure => simp [intOf]; omega
    · have hk2 : k = L.length := by omega
      have HP : Hid (posP p L = k) := posP_eq p L k hk HT.out (fun hlt => absurd hlt hkl)
      have HI2 : Hid (hitP p L = false) := by unfold hitP; rw [HP.out, List.getElem?_eq_none (by omega)]; rfl
      have hd : decide ((k : Int) < (L.length : Int)) = false := decide_eq_false (by omega)
      clear hk2
      go_wp2
      go_quiet (fail)
      go_wp2
      go_ret2
      exact ⟨by rw [HP.out, HI2.out]; rfl, _, rfl⟩

set_option maxRecDepth 100000 in
theorem row_slice {w : World} {base : Nat} {e : TypeId} {size : Nat} {v : Value} {n : Nat} {xs : List Value} (h : w.ownsRow base e size v n xs) : ∃ A m c, v = .slice A m c := by
  rcases h.2 with ⟨rfl, _⟩ | ⟨g, cap, cur, rfl, _⟩
  · exact ⟨_, _, _, rfl⟩
  · exact ⟨_, _, _, rfl⟩

set_option maxHeartbeats 4000000 in
set_option maxRecDepth 100000 in
theorem rwrite_any (w : World) (rb : Nat) (v : Value) (L : Fls) (p b : ByteArray) (h : RTab w rb v L) (hv0 : ∀ j, v.ownBlock = some j → j ≠ rb) (hL : (L.length + 1) * 32 ≤ 140737488355328) :
    Calls Tryz.prog 10 #[.pointer (some ⟨rb, 0, none⟩), .string p, .string b] w fun e w' => ∃ v', e = .returned (.int .i64 (wrE b)) ∧ RTab w' rb v' (wrL p b L) ∧ (v' = v ∨ ∀ j, v'.ownBlock = some j → w.heap.size ≤ j) ∧ Off (fun k => k = rb) w w' := by
  have h0 := h.cell
  have hlr := h.ltR
  have hlv := h.ltV
  by_cases hs : b.size ≤ 65536
  · have e1 : wrE b = 0 := by unfold wrE; rw [if_pos hs]
    have e2 : wrL p b L = L.take (posP p L) ++ ([(p, b)] ++ L.drop (nextP p L)) := by unfold wrL; rw [if_pos hs, ins_cut]
    rw [e1, e2]
    clear e1 e2
    have hfa := fun W => find_any W rb v L p
    have hpl := posP_le p L
    have hnl := nextP_le p L
    obtain ⟨y1, hy1, s1⟩ := row_head h.row (posP p L) hpl (by omega)
    obtain ⟨y2, hy2, s2⟩ := row_tail h.row (nextP p L) hnl (by omega)
    have htk : (L.take (posP p L)).length = posP p L := by simp; omega
    have hdr : (L.drop (nextP p L)).length = L.length - nextP p L := by simp
    have hnx : nextP p L = if hitP p L then posP p L + 1 else posP p L := rfl
    generalize L.take (posP p L) = G1 at *
    generalize L.drop (nextP p L) = G2 at *
    have tok1 : True := trivial
    have tok2 : True := trivial
    cases hhit : hitP p L
    · rw [hhit] at hnx
      simp only [Bool.false_eq_true, if_false] at hnx
      rw [hnx] at hy2 hdr hnl
      clear hnx
      generalize posP p L = k at *
      go_enter Tryz.func10, Tryz.ntmps10
      go_wp2_with (first
        | (go_at_call 16; refine (hfa _ h (by omega)).mono ?_; rw [hhit]; rintro e W1 ⟨rfl, n1, rfl⟩)
        | (at_builtin; have _t := tok1; refine wpList_app _ rfl _ _ rfl w.heap.size _ [] rfl (World.ownsRow_nil _ _ _ _) y1 G1 rfl s1 (by simp; omega) (Nat.le_refl _) ?_; intro o1 W2 ho1 hg1 ha1; have ho1' : W2.ownsRow w.heap.size 25 2 o1 G1.length (flat G1) := ho1; have hb2 : Below w.heap.size w W2 := (below_drewN (Below.refl _ w) n1).grown hg1 (Nat.le_refl _) (fun j hj => by cases hj); clear ho1 tok1)
        | (at_builtin; have _t := tok2; refine wpList_app _ rfl _ _ rfl w.heap.size _ G1 rfl (ho1'.alloc _) _ [(p, b)] rfl (fsrc_of_fat (fat_new W2 [(p, b)] 1 rfl _ rfl)) (by simp; omega) (by have := hb2.size; simp; omega) ?_; intro o2 W3 ho2 hg2 ha2; have hb3 : Below w.heap.size w W3 := (hb2.alloc hb2.size _).grown hg2 (by have := hb2.size; simp; omega) (fun j hj => (ho1'.lt j hj).1); have c3 := (hb3.cell (p := ⟨rb, 0, none⟩) hlr).trans h0; clear tok2)
        | (at_builtin; refine wpList_app _ rfl _ _ rfl w.heap.size _ (G1 ++ [(p, b)]) rfl ho2 y2 G2 rfl (s2.below hb3 s2.lt) (by simp; omega) hb3.size ?_; intro o3 W4 ho3 hg3 ha3; obtain ⟨A3, m3, q3, rfl⟩ := row_slice ho3; have hb4 : Below w.heap.size w W4 := hb3.grown hg3 hb3.size (fun j hj => (ho2.lt j hj).1); have c4 := (hb4.cell (p := ⟨rb, 0, none⟩) hlr).trans h0; have f4 := (hb4.frozen (p := ⟨rb, 0, none⟩) hlr).trans h.frozen))
      go_ret
      refine ⟨_, rfl, ⟨tab_set ((hb4.block rb hlr).trans h.blk), ?_⟩, .inr (fun j hj => (ho3.lt j hj).1), Off.setCell (S := fun k => k = rb) (p := ⟨rb, 0, none⟩) ⟨hb4.os, hb4.tape, hb4.output, hb4.size, fun i hi _ => hb4.block i hi⟩ (.inl rfl) _⟩
      rw [show G1 ++ (p, b) :: G2 = (G1 ++ [(p, b)]) ++ G2 by simp]
      have ho4 := row_off (S := fun k => k = rb) ho3 (Off.setCell (S := fun k => k = rb) (p := ⟨rb, 0, none⟩) (Off.refl _ W4) (.inl rfl) (.slice A3 m3 q3)) (fun j hj => by have := (ho3.lt j hj).1; omega)
      exact ⟨ho4.1, ho4.2.imp id (fun ⟨g, cap, cur, h1, _, h3⟩ => ⟨g, cap, cur, h1, Nat.zero_le _, h3⟩)⟩
    · rw [hhit] at hnx
      simp only [if_true] at hnx
      rw [hnx] at hy2 hdr hnl
      clear hnx
      generalize posP p L = k at *
      have hy2' : ∀ W, (Instr.slice 22 v (some (.int .i64 ((k : Int) + 1))) none none).run Tryz.prog W = .ok y2 W := fun W => by have := hy2 W; simpa using this
      go_enter Tryz.func10, Tryz.ntmps10
      go_wp2_with (first
        | (go_at_call 16; refine (hfa _ h (by omega)).mono ?_; rw [hhit]; rintro e W1 ⟨rfl, n1, rfl⟩)
        | (at_builtin; have _t := tok1; refine wpList_app _ rfl _ _ rfl w.heap.size _ [] rfl (World.ownsRow_nil _ _ _ _) y1 G1 rfl s1 (by simp; omega) (Nat.le_refl _) ?_; intro o1 W2 ho1 hg1 ha1; have ho1' : W2.ownsRow w.heap.size 25 2 o1 G1.length (flat G1) := ho1; have hb2 : Below w.heap.size w W2 := (below_drewN (Below.refl _ w) n1).grown hg1 (Nat.le_refl _) (fun j hj => by cases hj); clear ho1 tok1)
        | (at_builtin; have _t := tok2; refine wpList_app _ rfl _ _ rfl w.heap.size _ G1 rfl (ho1'.alloc _) _ [(p, b)] rfl (fsrc_of_fat (fat_new W2 [(p, b)] 1 rfl _ rfl)) (by simp; omega) (by have := hb2.size; simp; omega) ?_; intro o2 W3 ho2 hg2 ha2; have hb3 : Below w.heap.size w W3 := (hb2.alloc hb2.size _).grown hg2 (by have := hb2.size; simp; omega) (fun j hj => (ho1'.lt j hj).1); have c3 := (hb3.cell (p := ⟨rb, 0, none⟩) hlr).trans h0; clear tok2)
        | (at_builtin; refine wpList_app _ rfl _ _ rfl w.heap.size _ (G1 ++ [(p, b)]) rfl ho2 y2 G2 rfl (s2.below hb3 s2.lt) (by simp; omega) hb3.size ?_; intro o3 W4 ho3 hg3 ha3; obtain ⟨A3, m3, q3, rfl⟩ := row_slice ho3; have hb4 : Below w.heap.size w W4 := hb3.grown hg3 hb3.size (fun j hj => (ho2.lt j hj).1); have c4 := (hb4.cell (p := ⟨rb, 0, none⟩) hlr).trans h0; have f4 := (hb4.frozen (p := ⟨rb, 0, none⟩) hlr).trans h.frozen))
      go_ret
      refine ⟨_, rfl, ⟨tab_set ((hb4.block rb hlr).trans h.blk), ?_⟩, .inr (fun j hj => (ho3.lt j hj).1), Off.setCell (S := fun k => k = rb) (p := ⟨rb, 0, none⟩) ⟨hb4.os, hb4.tape, hb4.output, hb4.size, fun i hi _ => hb4.block i hi⟩ (.inl rfl) _⟩
      rw [show G1 ++ (p, b) :: G2 = (G1 ++ [(p, b)]) ++ G2 by simp]
      have ho4 := row_off (S := fun k => k = rb) ho3 (Off.setCell (S := fun k => k = rb) (p := ⟨rb, 0, none⟩) (Off.refl _ W4) (.inl rfl) (.slice A3 m3 q3)) (fun j hj => by have := (ho3.lt j hj).1; omega)
      exact ⟨ho4.1, ho4.2.imp id (fun ⟨g, cap, cur, h1, _, h3⟩ => ⟨g, cap, cur, h1, Nat.zero_le _, h3⟩)⟩
  · have e1 : wrE b = 20 := by unfold wrE; rw [if_neg hs]
    have e2 : wrL p b L = L := by unfold wrL; rw [if_neg hs]
    rw [e1, e2]
    clear e1 e2
    go_enter Tryz.func10, Tryz.ntmps10
    go_wp2
    go_ret
    exact ⟨v, rfl, h, .inl rfl, Off.refl _ _⟩

end Go.Proofs.YtfehmdfamndcaaaGreatDoor.Vf
namespace Go.Proofs.YtfehmdfamndcaaaGreatDoor
open Go.RowKit Go.Maps
set_option linter.unusedVariables false
set_option linter.unusedSimpArgs false

/-- files, one written after the other. -/
def wrs (F : Fls) : Fls := F.foldl (fun L x => Vf.wrL x.1 x.2 L) []
theorem wrs_snoc (F : Fls) (x : ByteArray × ByteArray) : wrs (F ++ [x]) = Vf.wrL x.1 x.2 (wrs F) := by simp [wrs]
theorem ins_len (p b : ByteArray) : ∀ L : Fls, (ins p b L).length ≤ L.length + 1
  | [] => by simp [ins]
  | x :: r => by
    have := ins_len p b r
    unfold ins
    split
    · simp; omega
    · split <;> simp
theorem wrL_len (p b : ByteArray) (L : Fls) : (Vf.wrL p b L).length ≤ L.length + 1 := by
  unfold Vf.wrL
  split
  · exact ins_len _ _ _
  · omega
/-- both tables. -/
structure Two (w W : World) (tb mb rb : Nat) (v : Value) (L : Fls) : Prop where
  tab : Vf.Tab W tb mb L
  rt : Vf.RTab W rb v L
  t1 : w.heap.size ≤ tb
  t2 : w.heap.size ≤ mb
  t3 : w.heap.size ≤ rb
  n1 : rb ≠ tb
  n2 : rb ≠ mb
  own : ∀ j, v.ownBlock = some j → w.heap.size ≤ j ∧ j ≠ rb ∧ j ≠ mb ∧ j ≠ tb
  bel : Below w.heap.size w W
theorem below_off {w W W' : World} {S : Nat → Prop} {B : Nat} (b : Below B w W) (k : Vf.Off S W W') (h : ∀ j, j < B → ¬ S j) (hB : B ≤ w.heap.size) : Below B w W' :=
  ⟨k.os.trans b.os, k.tape.trans b.tape, k.output.trans b.output, Nat.le_trans b.size k.size, fun j hj => (k.block j (by have := b.size; omega) (h j hj)).trans (b.block j hj)⟩
theorem Two.w1 {w W W' : World} {tb mb rb : Nat} {v : Value} {L L' : Fls} (h : Two w W tb mb rb v L) (t : Vf.Tab W' tb mb L') (k : Vf.Off (fun k => k = mb) W W') : Vf.RTab W' rb v L ∧ Below w.heap.size w W' :=
  ⟨h.rt.off k h.n2 (fun j hj => (h.own j hj).2.2.1), below_off h.bel k (fun j hj e => by have := h.t2; omega) (Nat.le_refl _)⟩
theorem Two.w2 {w W W1 W2 : World} {tb mb rb : Nat} {v v' : Value} {L L' : Fls} (h : Two w W tb mb rb v L) (t : Vf.Tab W1 tb mb L') (k : Vf.Off (fun k => k = mb) W W1) (r : Vf.RTab W2 rb v' L') (hv : v' = v ∨ ∀ j, v'.ownBlock = some j → W1.heap.size ≤ j) (k2 : Vf.Off (fun k => k = rb) W1 W2) : Two w W2 tb mb rb v' L' := by
  have hr := h.rt.ltR
  have hs := k.size
  have hbs := h.bel.size
  refine ⟨t.off k2 (fun e => h.n1 e.symm) (fun e => h.n2 e.symm), r, h.t1, h.t2, h.t3, h.n1, h.n2, fun j hj => ?_, below_off (h.w1 t k).2 k2 (fun j hj e => by have := h.t3; omega) (Nat.le_refl _)⟩
  rcases hv with rfl | hv
  · exact h.own j hj
  · have := hv j hj
    have := t.ltT
    have := t.ltM
    exact ⟨by omega, by omega, by omega, by omega⟩
set_option maxRecDepth 100000 in
set_option maxHeartbeats 1000000 in
theorem table_any (w : World) (x : Value) (F : Fls) (hx : Vf.FAt w x F) (hF : F.length ≤ 1048576) (hz : ∀ y ∈ F, y.1.size ≤ 281474976710656 ∧ y.2.size ≤ 281474976710656) :
    Calls Tryz.prog 5 #[x] w fun e w' => ∃ tb mb rb v, e = .returned (.tuple #[.pointer (some ⟨tb, 0, none⟩), v]) ∧ Two w w' tb mb rb v (wrs F) ∧ (wrs F).length ≤ F.length := by
  obtain ⟨A0, c0, rfl, hf⟩ := hx.form
  have HF : Hid (∀ k (hk : k < F.length), ∃ bl of, (∀ W, (Instr.indexAt 22 (.slice A0 F.length c0) (.int .i64 (k : Int))).run Tryz.prog W = .ok (.pointer (some ⟨bl, of + k * 2, none⟩)) W) ∧
    bl < w.heap.size ∧ w.cell? ⟨bl, of + k * 2, none⟩ = some (.string F[k].1) ∧ w.cell? ⟨bl, of + k * 2 + 1, none⟩ = some (.string F[k].2)) := hf
  clear hf hx
  have HZ : Hid (∀ y ∈ F, y.1.size ≤ 281474976710656 ∧ y.2.size ≤ 281474976710656) := hz
  clear hz
  go_enter Tryz.func5, Tryz.ntmps5
  go_wp2_with fail
  go_at_call 8
  refine (Vf.new_any w).mono ?_
  rintro e W1 ⟨rfl, hT, b1⟩
  have s1 := hT.ltT
  obtain ⟨W2, hW2⟩ : ∃ X, W1.alloc (.cells #[.slice none 0 0] 41) = X := ⟨_, rfl⟩
  have b2 : Below W1.heap.size W1 W2 := by rw [← hW2]; exact (Below.refl _ _).alloc (Nat.le_refl _) _
  have m2 : W2.heap[W1.heap.size]? = some (.cells #[.slice none 0 0] 41) := by rw [← hW2]; exact hnew _ rfl
  have hs1 := b1.size
  have T0 : Two w W2 (w.heap.size + 1) w.heap.size W1.heap.size (.slice none 0 0) [] := ⟨hT.below b2 hT.ltT hT.ltM, ⟨m2, World.ownsRow_nil _ _ _ _⟩, by omega, by omega, by omega, by omega, by omega, (fun j hj => by cases hj), b1.trans (b2.mono b1.size)⟩
  clear hT m2
  go_wp2
  go_loopw [6] (fun i wr => ∃ (k : Nat) (v : Value) (L : Fls), i = .int .i64 (k : Nat) ∧ k ≤ F.length ∧ Two w wr (w.heap.size + 1) w.heap.size W1.heap.size v L ∧ L.length ≤ k ∧ Hid (L = wrs (F.take k))) (fun i _ => F.length - (intOf i).toNat)
  case atStart => exact ⟨0, _, [], rfl, by omega, T0, by simp, by simp [Hid, wrs]⟩
  case round =>
    obtain ⟨k, v, L, rfl, hk, T, hl, HL⟩ := hrel
    clear hW2 T0 b2
    by_cases hkl : k < F.length
    · obtain ⟨bl, of, hia, hbl, c1, c2⟩ := HF.out k hkl
      have hzz := HZ.out _ (List.getElem_mem hkl)
      have HN : Hid (Vf.wrL F[k].1 F[k].2 L = wrs (F.take (k + 1))) := by show _ = _; rw [List.take_succ_eq_append_getElem hkl, wrs_snoc, HL.out]
      have hc1 := (World.cell?_of_block (a := ⟨bl, of + k * 2, none⟩) (T.bel.block bl hbl)).trans c1
      have hc2 := (World.cell?_of_block (a := ⟨bl, of + k * 2 + 1, none⟩) (T.bel.block bl hbl)).trans c2
      have HC : Hid (∀ W, Below w.heap.size w W → W.cell? ⟨bl, of + k * 2, none⟩ = some (.string F[k].1) ∧ W.cell? ⟨bl, of + k * 2 + 1, none⟩ = some (.string F[k].2)) := fun W b => ⟨(World.cell?_of_block (a := ⟨bl, of + k * 2, none⟩) (b.block bl hbl)).trans c1, (World.cell?_of_block (a := ⟨bl, of + k * 2 + 1, none⟩) (b.block bl hbl)).trans c2⟩
      clear c1 c2
      generalize F[k] = y at *
      obtain ⟨p, b⟩ := y
      simp only at hc1 hc2 hzz HN HC
      have T1 : Two w wr.drew (w.heap.size + 1) w.heap.size W1.heap.size v L := ⟨T.tab.off (S := fun _ => False) ⟨rfl, rfl, rfl, Nat.le_refl _, fun _ _ _ => rfl⟩ id id, ⟨T.rt.blk, T.rt.row⟩, T.t1, T.t2, T.t3, T.n1, T.n2, T.own, T.bel.drew⟩
      have CW := Vf.write_any wr.drew (w.heap.size + 1) w.heap.size L p b T1.tab (by omega) hzz.1 hzz.2
      go_wp2_with fail
      go_region_law (refine step_call3 (by rfl) 9 _ _ _ _ (by rfl) (.pointer (some ⟨w.heap.size + 1, 0, none⟩)) (.string p) (.string b) (by rfl) (by rfl) (by rfl) (enters_of Tryz.func9 (by kernel_rfl) rfl) CW ?_
                     rintro e W3 ⟨rfl, hT3, hO3⟩
                     refine ⟨_, rfl, ?_⟩)
      all_goals
        have TW := T1.w1 hT3 hO3
        obtain ⟨d1, d2⟩ := HC.out W3 TW.2
        have hO3' : Vf.Off (fun k => k = w.heap.size) wr.drew W3.drew := ⟨hO3.os, hO3.tape, hO3.output, hO3.size, hO3.block⟩
        have hT3' : Vf.Tab W3.drew (w.heap.size + 1) w.heap.size (Vf.wrL p b L) := hT3.off (S := fun _ => False) ⟨rfl, rfl, rfl, Nat.le_refl _, fun _ _ _ => rfl⟩ id id
        have CR := Vf.rwrite_any W3.drew W1.heap.size v L p b ⟨TW.1.blk, TW.1.row⟩ (fun j hj => (T1.own j hj).2.1) (by omega)
        have hwl := wrL_len p b L
        clear CW hc1 hc2
        go_wp2_with fail
        go_region_law (refine step_call3 (by rfl) 10 _ _ _ _ (by rfl) (.pointer (some ⟨W1.heap.size, 0, none⟩)) (.string p) (.string b) (by rfl) (by rfl) (by rfl) (enters_of Tryz.func10 (by kernel_rfl) rfl) CR ?_
                       rintro e W4 ⟨v', rfl, hR4, hv4, hO4⟩
                       refine ⟨_, rfl, ?_⟩)
        all_goals
          have T4 := T1.w2 hT3' hO3' hR4 hv4 hO4
          clear CR d1 d2
          go_wp2
          go_roundw
          case rel => exact ⟨k + 1, v', Vf.wrL p b L, by simp, by omega, T4, by omega, HN⟩
          case measure => simp [intOf]; omega
    · have e : F.take k = F := List.take_of_length_le (by omega)
      have hLe : L = wrs F := by rw [HL.out, e]
      subst hLe
      clear e HL
      have h0 := T.rt.cell
      obtain ⟨A, m, c, rfl⟩ := Vf.row_slice T.rt.row
      have T1 : Two w wr.drew (w.heap.size + 1) w.heap.size W1.heap.size (.slice A m c) (wrs F) := ⟨T.tab.off (S := fun _ => False) ⟨rfl, rfl, rfl, Nat.le_refl _, fun _ _ _ => rfl⟩ id id, ⟨T.rt.blk, T.rt.row⟩, T.t1, T.t2, T.t3, T.n1, T.n2, T.own, T.bel.drew⟩
      go_wp2
      go_region
      go_wp2
      go_ret2
      exact ⟨_, _, _, _, rfl, T1, by omega⟩
end Go.Proofs.YtfehmdfamndcaaaGreatDoor
