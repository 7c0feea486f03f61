/- Own text. The document's own table of files: a rising list; how it is searched, cut and laid together. The document's table in memory ('RTab'), and what its calls do: Find, Read, Write, Remove, Fit, Load. -/
import Derived.Test.YtpnljjcdlkjfhaaGreatDoorRv31
import Derived.Deep.AppendSrc
set_option linter.unusedVariables false
namespace Go.Proofs.YtpnljjcdlkjfhaaGreatDoor.Vf
open Go.RowKit Go.Maps
/-- the place of a path, or where it would stand. -/
def posP (p : ByteArray) : Fls → Nat
  | [] => 0
  | x :: r => if lessB x.1 p then posP p r + 1 else 0
def hitP (p : ByteArray) (L : Fls) : Bool := match L[posP p L]? with | some x => eqB x.1 p | none => false

set_option maxRecDepth 100000 in
theorem posP_le (p : ByteArray) : ∀ L : Fls, posP p L ≤ L.length
  | [] => Nat.le_refl _
  | x :: r => by
    have := posP_le p r
    unfold posP
    split <;> simp <;> omega
set_option maxRecDepth 100000 in
theorem posP_low (p : ByteArray) : ∀ (L : Fls) (i : Nat) (hi : i < L.length), i < posP p L → lessB L[i].1 p = true
  | x :: r, i, hi, h => by
    unfold posP at h
    split at h
    · rename_i hx
      cases i with
      | zero => exact hx
      | succ i => exact posP_low p r i (by simpa using hi) (by omega)
    · omega
set_option maxRecDepth 100000 in
theorem posP_eq (p : ByteArray) : ∀ (L : Fls) (k : Nat), k ≤ L.length → (∀ i (hi : i < L.length), i < k → lessB L[i].1 p = true) → (∀ (h : k < L.length), lessB L[k].1 p = false) → posP p L = k
  | [], k, hk, _, _ => by simp at hk; subst hk; rfl
  | x :: r, 0, _, _, h => by
    have := h (by simp)
    simp only [List.getElem_cons_zero] at this
    simp [posP, this]
  | x :: r, k + 1, hk, hlo, h => by
    have h0 := hlo 0 (by simp) (by omega)
    simp only [List.getElem_cons_zero] at h0
    have := posP_eq p r k (by simpa using hk) (fun i hi hik => by have := hlo (i + 1) (by simpa using hi) (by omega); simpa using this) (fun hkl => by have := h (by simpa using hkl); simpa using this)
    simp [posP, h0, this]

set_option maxRecDepth 100000 in
theorem hitP_cons_low {p : ByteArray} {x : ByteArray × ByteArray} {r : Fls} (h : lessB x.1 p = true) : hitP p (x :: r) = hitP p r := by simp [hitP, posP, h]
set_option maxRecDepth 100000 in
theorem hitP_cons_high {p : ByteArray} {x : ByteArray × ByteArray} {r : Fls} (h : lessB x.1 p = false) : hitP p (x :: r) = eqB x.1 p := by simp [hitP, posP, h]

set_option maxRecDepth 100000 in
theorem any_high {p : ByteArray} {x : ByteArray × ByteArray} {r : Fls} (h1 : ∀ y ∈ r, lessB x.1 y.1 = true) (h : lessB x.1 p = false) : (r.any fun y => eqB y.1 p) = false := by
  rw [List.any_eq_false]
  intro y hy
  by_cases e : y.1 = p
  · have := h1 y hy
    rw [e, h] at this
    cases this
  · simp [eqB_ne e]

set_option maxRecDepth 100000 in
theorem hit_has {p : ByteArray} : ∀ {L : Fls}, Ris L → hitP p L = hasP p L
  | [], _ => rfl
  | x :: r, h => by
    obtain ⟨h1, h2⟩ := List.pairwise_cons.1 h
    have h2' : Ris r := h2
    cases hx : lessB x.1 p
    · rw [hitP_cons_high hx]
      unfold hasP
      rw [List.any_cons, any_high h1 hx, Bool.or_false]
    · rw [hitP_cons_low hx, hit_has h2']
      unfold hasP
      rw [List.any_cons, eqB_ne (lessB_ne hx), Bool.false_or]

/-- how far the rest is cut behind a path. -/
def nextP (p : ByteArray) (L : Fls) : Nat := if hitP p L then posP p L + 1 else posP p L
set_option maxRecDepth 100000 in
theorem nextP_le (p : ByteArray) (L : Fls) : nextP p L ≤ L.length := by
  have h1 := posP_le p L
  unfold nextP
  split
  · rename_i h
    unfold hitP at h
    split at h
    · rename_i x hx
      have := (List.getElem?_eq_some_iff.1 hx).1
      omega
    · cases h
  · exact h1

set_option maxRecDepth 100000 in
theorem ins_cut {p b : ByteArray} : ∀ (L : Fls), ins p b L = L.take (posP p L) ++ ([(p, b)] ++ L.drop (nextP p L))
  | [] => rfl
  | x :: r => by
    have ih := ins_cut (p := p) (b := b) r
    cases hx : lessB x.1 p
    · have e1 : posP p (x :: r) = 0 := by simp [posP, hx]
      have e2 := hitP_cons_high (r := r) hx
      cases he : eqB x.1 p
      · simp [ins, hx, he, nextP, e1, e2]
      · simp [ins, hx, he, nextP, e1, e2]
    · have e1 : posP p (x :: r) = posP p r + 1 := by simp [posP, hx]
      have e2 : nextP p (x :: r) = nextP p r + 1 := by
        unfold nextP
        rw [hitP_cons_low hx, e1]
        split <;> rfl
      rw [e1, e2]
      simp only [ins, hx, if_true, ih, List.take_succ_cons, List.drop_succ_cons, List.cons_append]

set_option maxRecDepth 100000 in
theorem del_cut {p : ByteArray} : ∀ {L : Fls}, Ris L → hitP p L = true → del p L = L.take (posP p L) ++ L.drop (posP p L + 1)
  | [], _, h => by cases h
  | x :: r, hr, h => by
    obtain ⟨h1, h2⟩ := List.pairwise_cons.1 hr
    have h2' : Ris r := h2
    cases hx : lessB x.1 p
    · have e1 : posP p (x :: r) = 0 := by simp [posP, hx]
      rw [hitP_cons_high hx] at h
      have e3 : del p r = r := del_of_low fun y hy e => by
        have := any_high h1 hx
        have := (List.any_eq_false.1 this) y hy
        simp [e, eqB_self] at this
      unfold del at *
      simp [e1, h, e3]
    · rw [hitP_cons_low hx] at h
      have e1 : posP p (x :: r) = posP p r + 1 := by simp [posP, hx]
      have ih := del_cut h2' h
      unfold del at *
      simp [e1, eqB_ne (lessB_ne hx), ih]

set_option maxRecDepth 100000 in
theorem get_hit {p : ByteArray} : ∀ {L : Fls}, hitP p L = true → ∃ h : posP p L < L.length, getP p L = (L[posP p L]'h).2
  | [], h => by cases h
  | x :: r, h => by
    cases hx : lessB x.1 p
    · have e1 : posP p (x :: r) = 0 := by simp [posP, hx]
      rw [hitP_cons_high hx] at h
      refine ⟨by rw [e1]; simp, ?_⟩
      simp [getP, h, e1]
    · rw [hitP_cons_low hx] at h
      have e1 : posP p (x :: r) = posP p r + 1 := by simp [posP, hx]
      obtain ⟨hl, hg⟩ := get_hit h
      refine ⟨by rw [e1]; simpa using hl, ?_⟩
      have : getP p (x :: r) = getP p r := by simp [getP, eqB_ne (lessB_ne hx)]
      rw [this, hg]
      simp [e1]

/-- a list of files that may be laid behind another one. -/
def FSrc (w : World) (y : Value) (F : Fls) : Prop := (∃ ad c, y = .slice (some ad) F.length c ∧ (F ≠ [] → ad.block < w.heap.size) ∧ ∀ j u, (flat F)[j]? = some u → w.cell? (ad.add j) = some u) ∨ (F = [] ∧ ∃ c, y = .slice none 0 c)
set_option maxRecDepth 100000 in
theorem FSrc.below {B : Nat} {w w' : World} {y : Value} {F : Fls} (h : FSrc w y F) (hb : Below B w w') (hB : ∀ j, y.ownBlock = some j → F ≠ [] → j < B) : FSrc w' y F := by
  rcases h with ⟨ad, c, rfl, hl, hc⟩ | h
  · refine .inl ⟨ad, c, rfl, fun hF => Nat.lt_of_lt_of_le (hl hF) hb.size, fun j u hu => ?_⟩
    have hF : F ≠ [] := fun e => by subst e; simp [flat] at hu
    have e : (ad.add j).block = ad.block := by unfold Addr.add; split <;> rfl
    rw [← hc j u hu]
    exact hb.cell (by rw [e]; exact hB ad.block rfl hF)
  · exact .inr h
set_option maxRecDepth 100000 in
theorem FSrc.lt {w : World} {y : Value} {F : Fls} (h : FSrc w y F) : ∀ j, y.ownBlock = some j → F ≠ [] → j < w.heap.size := by
  rcases h with ⟨ad, c, rfl, hl, hc⟩ | ⟨rfl, c, rfl⟩
  · intro j hj hF; cases hj; exact hl hF
  · intro j hj; cases hj

set_option maxRecDepth 100000 in
theorem fsrc_of_fat {w : World} {v : Value} {F : Fls} (h : FAt w v F) : FSrc w v F := by
  rcases h with ⟨rfl, a, c, rfl⟩ | ⟨bl, of, c, rfl, hc, hb⟩
  · cases a with
    | none => exact .inr ⟨rfl, c, rfl⟩
    | some ad => exact .inl ⟨ad, c, rfl, fun h => absurd rfl h, fun j u hu => by simp [flat] at hu⟩
  · refine .inl ⟨⟨bl, of, none⟩, c, rfl, fun _ => hb, fun j u hu => ?_⟩
    rw [addP]
    have hj := (List.getElem?_eq_some_iff.1 hu).1
    rw [flat_length] at hj
    obtain ⟨i, hi⟩ : ∃ i, j = i * 2 ∨ j = i * 2 + 1 := ⟨j / 2, by omega⟩
    have hil : i < F.length := by omega
    obtain ⟨g1, g2⟩ := flat_get F i hil
    obtain ⟨d1, d2⟩ := hc i hil
    rcases hi with rfl | rfl
    · rw [g1] at hu; rw [d1]; exact hu
    · rw [g2] at hu; rw [← Nat.add_assoc, d2]; exact hu

set_option maxRecDepth 100000 in
theorem flat_drop : ∀ (F : Fls) (i : Nat), (flat F).drop (i * 2) = flat (F.drop i)
  | F, 0 => by simp
  | [], i + 1 => by simp [flat]
  | x :: F, i + 1 => by
    rw [flat_cons, show (i + 1) * 2 = i * 2 + 1 + 1 by omega]
    simp only [List.drop_succ_cons]
    exact flat_drop F i
set_option maxRecDepth 100000 in
theorem flat_take : ∀ (F : Fls) (i : Nat), (flat F).take (i * 2) = flat (F.take i)
  | F, 0 => by simp [flat]
  | [], i + 1 => by simp [flat]
  | x :: F, i + 1 => by
    rw [flat_cons, show (i + 1) * 2 = i * 2 + 1 + 1 by omega]
    simp only [List.take_succ_cons, flat_cons]
    rw [flat_take F i]

/-- a row's cells. -/
theorem row_cells {w : World} {base g n cap : Nat} {L : Fls} (h : w.ownsRow base 47 2 (.slice (some ⟨g, 0, none⟩) n cap) n (flat L)) : ∀ j u, (flat L)[j]? = some u → w.cell? ⟨g, j, none⟩ = some u := by
  rcases h.2 with ⟨h0, _⟩ | ⟨g', cap', cur, hv, _, hg, _, _, _, htk⟩
  · cases h0
  · cases hv
    intro j u hu
    rw [cell_of_row w g j _ _ _ hg]
    rw [← htk] at hu
    have hj := (List.getElem?_eq_some_iff.1 hu).1
    have hj2 : j < n * 2 := by have := List.length_take_le (n * 2) cur.toList; omega
    rw [List.getElem?_take_of_lt hj2] at hu
    simpa using hu

/-- the beginning of a row. -/
theorem row_head {w : World} {v : Value} {L : Fls} (h : w.ownsRow 0 47 2 v L.length (flat L)) (i : Nat) (hi : i ≤ L.length) (hL : L.length < 4611686018427387904) :
    ∃ y, (∀ W, (Instr.slice 48 v none (some (.int .i64 (i : Int))) none).run Tryz.prog W = .ok y W) ∧ FSrc w y (L.take i) := by
  have htl : (L.take i).length = i := by simp; omega
  rcases h.2 with ⟨rfl, h0⟩ | ⟨g, cap, cur, rfl, hb, hg, hn, hm, hcs, htk⟩
  · have hi0 : i = 0 := by omega
    subst hi0
    refine ⟨.slice none 0 0, fun W => ?_, .inr ⟨by simp, 0, rfl⟩⟩
    go_simp
  · refine ⟨.slice (some ⟨g, 0, none⟩) i cap, fun W => ?_, .inl ⟨⟨g, 0, none⟩, cap, by rw [htl], fun _ => (Array.getElem?_eq_some_iff.1 hg).1, fun j u hu => ?_⟩⟩
    · have h1 : (0 : Int) ≤ (i : Int) := by omega
      have h2 : (i : Int) ≤ (cap : Int) := by omega
      have h3 : (i : Int) ≤ (L.length : Int) := by omega
      go_simp
    · rw [addP, Nat.zero_add]
      refine row_cells h j u ?_
      rw [← flat_take] at hu
      have hj := (List.getElem?_eq_some_iff.1 hu).1
      have hj2 : j < i * 2 := by have := List.length_take_le (i * 2) (flat L); omega
      rw [List.getElem?_take_of_lt hj2] at hu
      exact hu

/-- the rest of a row. -/
theorem row_tail {w : World} {v : Value} {L : Fls} (h : w.ownsRow 0 47 2 v L.length (flat L)) (i : Nat) (hi : i ≤ L.length) (hL : L.length < 4611686018427387904) :
    ∃ y, (∀ W, (Instr.slice 48 v (some (.int .i64 (i : Int))) none none).run Tryz.prog W = .ok y W) ∧ FSrc w y (L.drop i) := by
  have htl : (L.drop i).length = L.length - i := by simp
  rcases h.2 with ⟨rfl, h0⟩ | ⟨g, cap, cur, rfl, hb, hg, hn, hm, hcs, htk⟩
  · have hi0 : i = 0 := by omega
    subst hi0
    refine ⟨.slice none 0 0, fun W => ?_, .inr ⟨by rw [List.drop_zero]; exact List.length_eq_zero_iff.1 h0, 0, rfl⟩⟩
    go_simp
  · have h1 : (0 : Int) ≤ (i : Int) := by omega
    have h2 : (i : Int) ≤ (cap : Int) := by omega
    have h3 : (i : Int) ≤ (L.length : Int) := by omega
    by_cases hci : cap = i
    · have hLi : L.length = i := by omega
      refine ⟨.slice (some ⟨g, 0, none⟩) (L.length - i) (cap - i), fun W => ?_, .inl ⟨⟨g, 0, none⟩, cap - i, by rw [htl], fun _ => (Array.getElem?_eq_some_iff.1 hg).1, fun j u hu => ?_⟩⟩
      · go_simp
      · rw [List.drop_of_length_le (by omega)] at hu
        simp [flat] at hu
    · refine ⟨.slice (some ⟨g, i * 2, none⟩) (L.length - i) (cap - i), fun W => ?_, .inl ⟨⟨g, i * 2, none⟩, cap - i, by rw [htl], fun _ => (Array.getElem?_eq_some_iff.1 hg).1, fun j u hu => ?_⟩⟩
      · go_simp
      · rw [addP]
        refine row_cells h _ u ?_
        rw [← flat_drop, List.getElem?_drop] at hu
        exact hu

set_option maxRecDepth 100000 in
theorem info_file2 : (Tryz.prog.info? 47).map (fun i => (i.zero, i.size, i.bytes)) = some (some (.agg #[.string ByteArray.empty, .string ByteArray.empty]), 2, 32) := by kernel_rfl

/-- append, whatever is laid behind. -/
theorem run_app (w : World) (ty : TypeId) (base : Nat) (v : Value) (G : Fls) (hown : w.ownsRow base 47 2 v G.length (flat G)) (y : Value) (F : Fls) (hy : FSrc w y F)
    (hb : (G.length + F.length) * 32 ≤ 140737488355328) (hbase : base ≤ w.heap.size) :
    ∃ v' w', (Builtin.append_ #[48, 48] ty #[v, y]).run Tryz.prog w = .ok v' w' ∧ w'.ownsRow base 47 2 v' (G ++ F).length (flat (G ++ F)) ∧ w.grownBy w' v.ownBlock ∧ (v'.ownBlock = v.ownBlock ∨ v'.ownBlock = some w.heap.size) := by
  obtain ⟨i0, hi0, hz0, hz1, hz2⟩ := info_parts info_file2
  rcases hy with ⟨ad, c, rfl, _, hc⟩ | ⟨rfl, c, rfl⟩
  · obtain ⟨v', w', h1, h2, h3, _, h5⟩ := run_append_own_at (P := Tryz.prog) w base 48 ty 47 i0 _ 2 32 Tryz.underlying48 hi0 hz0 hz1 hz2 rfl (by omega) v G.length (flat G) hown ad F.length c (flat F) (flat_length F) hc (flat_oneCell F) (by unfold maxLen; omega) hb hbase
    refine ⟨v', w', h1, ?_, h3, h5⟩
    rw [List.length_append, flat_append]
    exact h2
  · refine ⟨v, w, ?_, by simpa using hown, ⟨rfl, rfl, rfl, Nat.le_refl _, fun _ _ _ => rfl⟩, .inl rfl⟩
    rcases hown.2 with ⟨rfl, h0⟩ | ⟨g, cap, cur, rfl, hb, hg, hn, hm, hcs, htk⟩
    · simp [Builtin.append_, run_underlying Tryz.underlying48, Builtin.lenOf]
      rw [run_firstCells_none w 2 0 0 c]
      rfl
    · have := run_append_room_src (P := Tryz.prog) w 48 48 ty 47 i0 Tryz.underlying48 hi0 g 0 G.length cap (.slice none 0 c) 0 [] (Src.ofNil w Tryz.underlying48 c) (by omega) (fun j hj => by simp at hj) (fun j hj => by simp at hj)
      simpa [World.setCells] using this

set_option maxRecDepth 100000 in
theorem wpList_app (w : World) {ops : Array Oper} {rest : List Oper} {o : Oper} {a : Act} {Q : Exit → Act → World → Prop} (hgd : o.guard = none) (s x : Operand)
    (ho : o.op = .call { callee := .builtin .append, args := #[s, x], argTypes := #[48, 48] }) (base : Nat) (v : Value) (G : Fls) (hs : a.eval s = v) (hown : w.ownsRow base 47 2 v G.length (flat G)) (y : Value) (F : Fls) (hx : a.eval x = y) (hy : FSrc w y F)
    (hb : (G.length + F.length) * 32 ≤ 140737488355328) (hbase : base ≤ w.heap.size)
    (h : ∀ v' w', w'.ownsRow base 47 2 v' (G ++ F).length (flat (G ++ F)) → w.grownBy w' v.ownBlock → (v'.ownBlock = v.ownBlock ∨ v'.ownBlock = some w.heap.size) → wpList Tryz.prog ops Q rest (a.put o.dst v') w') :
    wpList Tryz.prog ops Q (o :: rest) a w := by
  refine wpList_plain hgd fun K hK => ?_
  obtain ⟨v', w', hr, h2, h3, h5⟩ := run_app w o.type base v G hown y F hy hb hbase
  unfold Oper.wp execOp
  simp only [ho, resolve, invoke, builtin, Sem.run_bind, Sem.run_pure, Result.andThen_ok, List.map_toArray, List.map_cons, List.map_nil, hs, hx, hr]
  exact hK _ _ (h v' w' h2 h3 h5)

/-- the document's table in memory: its own block, the list it holds, the files. -/
structure RTab (w : World) (rb : Nat) (v : Value) (L : Fls) : Prop where
  blk : w.heap[rb]? = some (.cells #[v] 143)
  row : w.ownsRow 0 47 2 v L.length (flat L)

section
variable {w w' : World} {rb : Nat} {v : Value} {L : Fls}
set_option maxRecDepth 100000 in
theorem RTab.cell (h : RTab w rb v L) : w.cell? ⟨rb, 0, none⟩ = some v := by rw [cell_of_row w rb 0 _ _ _ h.blk]; rfl
set_option maxRecDepth 100000 in
theorem RTab.frozen (h : RTab w rb v L) : w.frozen? ⟨rb, 0, none⟩ = false := frozen_of_row w rb 0 _ _ h.blk
set_option maxRecDepth 100000 in
theorem RTab.ltR (h : RTab w rb v L) : rb < w.heap.size := (Array.getElem?_eq_some_iff.1 h.blk).1
set_option maxRecDepth 100000 in
theorem RTab.ltV (h : RTab w rb v L) : ∀ j, v.ownBlock = some j → j < w.heap.size := fun j hj => (h.row.lt j hj).2
set_option maxRecDepth 100000 in
theorem row_off {S : Nat → Prop} {base : Nat} {e : TypeId} {size n : Nat} {xs : List Value} (h : w.ownsRow base e size v n xs) (k : Off S w w') (hS : ∀ j, v.ownBlock = some j → ¬ S j) : w'.ownsRow base e size v n xs := by
  refine ⟨h.1, ?_⟩
  rcases h.2 with h0 | ⟨g, cap, cur, rfl, hb, hg, r⟩
  · exact .inl h0
  · exact .inr ⟨g, cap, cur, rfl, hb, (k.block g (Array.getElem?_eq_some_iff.1 hg).1 (hS g rfl)).trans hg, r⟩
set_option maxRecDepth 100000 in
theorem RTab.off {S : Nat → Prop} (h : RTab w rb v L) (k : Off S w w') (h1 : ¬ S rb) (h2 : ∀ j, v.ownBlock = some j → ¬ S j) : RTab w' rb v L :=
  ⟨(k.block rb h.ltR h1).trans h.blk, row_off h.row k h2⟩
set_option maxRecDepth 100000 in
theorem RTab.below (h : RTab w rb v L) (k : Below w.heap.size w w') : RTab w' rb v L :=
  ⟨(k.block rb h.ltR).trans h.blk, row_below h.row k⟩
set_option maxRecDepth 100000 in
theorem RTab.drewN (h : RTab w rb v L) (n : Nat) : RTab (w.drewN n) rb v L := ⟨h.blk, h.row⟩
set_option maxRecDepth 100000 in
theorem RTab.drew (h : RTab w rb v L) : RTab w.drew rb v L := ⟨h.blk, h.row⟩
end

set_option maxHeartbeats 4000000 in
set_option maxRecDepth 100000 in
theorem find_any (w : World) (rb : Nat) (v : Value) (L : Fls) (p : ByteArray) (h : RTab w rb v L) (hL : L.length < 4611686018427387904) :
    Calls Tryz.prog 70 #[.pointer (some ⟨rb, 0, none⟩), .string p] w fun e w' => e = .returned (.tuple #[.int .i64 (posP p L), .bool (hitP p L)]) ∧ ∃ n, w' = w.drewN n := by
  have h0 := h.cell
  obtain ⟨A0, c0, hv, hf⟩ := (fat_of_row h.row).form
  subst hv
  go_enter Tryz.func70, Tryz.ntmps70
  go_wp2
  go_loopw [6] (fun i wr => ∃ k : Nat, i = .int .i64 (k : Nat) ∧ k ≤ L.length ∧ wr = w ∧ Hid (∀ i (hi : i < L.length), i < k → lessB L[i].1 p = true)) (fun i _ => L.length - (intOf i).toNat)
  case atStart => exact ⟨0, rfl, by omega, rfl, fun i hi h => by omega⟩
  case round =>
    obtain ⟨k, rfl, hk, rfl, HT⟩ := hrel
    by_cases hkl : k < L.length
    · obtain ⟨bl, of, hia, hbl, c1, c2⟩ := hf k hkl
      have HN : Hid (lessB L[k].1 p = true → ∀ i (hi : i < L.length), i < k + 1 → lessB L[i].1 p = true) := fun hl i hi hik => by
        by_cases e : i = k
        · subst e; exact hl
        · exact HT.out i hi (by omega)
      have HE : Hid (lessB L[k].1 p = false → posP p L = k) := fun hl => posP_eq p L k hk HT.out (fun _ => hl)
      have HI : Hid (posP p L = k → hitP p L = eqB L[k].1 p) := fun e => by unfold hitP; rw [e]; simp [hkl]
      generalize L[k] = x at *
      obtain ⟨px, bx⟩ := x
      simp only at c1 c2 HN HE HI
      cases hlb : lessB px p
      · have hl2 : Op.bytesLess px.toList p.toList = false := hlb
        have HP : Hid (posP p L = k) := HE.out hlb
        have HI2 : Hid (hitP p L = eqB px p) := HI.out HP.out
        have hd : (k : Int) < (L.length : Int) := by omega
        cases heq : eqB px p
        · have he2 : (px.toList == p.toList) = false := heq
          rw [heq] at HI2
          go_wp2
          go_quiet (fail)
          go_wp2
          go_ret2
          exact ⟨by rw [HP.out, HI2.out]; rfl, _, rfl⟩
        · have he2 : (px.toList == p.toList) = true := heq
          rw [heq] at HI2
          go_wp2
          go_quiet (fail)
          go_wp2
          go_ret2
          exact ⟨by rw [HP.out, HI2.out]; rfl, _, rfl⟩
      · have hl2 : Op.bytesLess px.toList p.toList = true := hlb
        have HR := HN.out hlb
        go_wp2
        go_roundw
        case rel => exact ⟨k + 1, by simp, by omega, by trivial, HR⟩
        case measure => simp [intOf]; omega
    · have hk2 : k = L.length := by omega
      have HP : Hid (posP p L = k) := posP_eq p L k hk HT.out (fun hlt => absurd hlt hkl)
      have HI2 : Hid (hitP p L = false) := by unfold hitP; rw [HP.out, List.getElem?_eq_none (by omega)]; rfl
      have hd : decide ((k : Int) < (L.length : Int)) = false := decide_eq_false (by omega)
      clear hk2
      go_wp2
      go_quiet (fail)
      go_wp2
      go_ret2
      exact ⟨by rw [HP.out, HI2.out]; rfl, _, rfl⟩

set_option maxRecDepth 100000 in
theorem rread_any (w : World) (rb : Nat) (v : Value) (L : Fls) (p : ByteArray) (h : RTab w rb v L) (hr : Ris L) (hL : L.length < 4611686018427387904) :
    Calls Tryz.prog 72 #[.pointer (some ⟨rb, 0, none⟩), .string p] w fun e w' => e = .returned (.tuple #[.string (getP p L), .bool (hasP p L)]) ∧ ∃ n, w' = w.drewN n := by
  have h0 := h.cell
  have hh := hit_has (p := p) hr
  cases hhit : hitP p L
  · have hhas : hasP p L = false := by rw [← hh, hhit]
    have hg : getP p L = ByteArray.empty := getP_of_not hhas
    rw [hhas, hg]
    clear hh hg hhas
    go_enter Tryz.func72, Tryz.ntmps72
    go_wp2_with (go_at_call 70; refine (find_any _ rb v L p h hL).mono ?_; rw [hhit]; rintro e W1 ⟨rfl, n1, rfl⟩)
    go_ret2
    exact ⟨rfl, _, rfl⟩
  · have hhas : hasP p L = true := by rw [← hh, hhit]
    obtain ⟨hl, hg⟩ := get_hit hhit
    obtain ⟨A0, c0, hv, hf⟩ := (fat_of_row h.row).form
    obtain ⟨bl, of, hia, hbl, c1, c2⟩ := hf (posP p L) hl
    rw [← hg] at c2
    rw [hhas]
    have hfa := fun W => find_any W rb v L p
    subst hv
    clear hg hh hhas c1
    generalize posP p L = k at *
    generalize getP p L = g at *
    go_enter Tryz.func72, Tryz.ntmps72
    go_wp2_with (go_at_call 70; refine (hfa _ h hL).mono ?_; rw [hhit]; rintro e W1 ⟨rfl, n1, rfl⟩)
    go_ret2
    exact ⟨rfl, _, rfl⟩

set_option maxRecDepth 100000 in
theorem row_slice {w : World} {base : Nat} {e : TypeId} {size : Nat} {v : Value} {n : Nat} {xs : List Value} (h : w.ownsRow base e size v n xs) : ∃ A m c, v = .slice A m c := by
  rcases h.2 with ⟨rfl, _⟩ | ⟨g, cap, cur, rfl, _⟩
  · exact ⟨_, _, _, rfl⟩
  · exact ⟨_, _, _, rfl⟩

end Go.Proofs.YtpnljjcdlkjfhaaGreatDoor.Vf
