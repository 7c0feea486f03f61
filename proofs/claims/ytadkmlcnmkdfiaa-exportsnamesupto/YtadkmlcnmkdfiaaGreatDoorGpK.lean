/- Own text. The document's Resolve: answer, if what it asks is known. The document's Resolve: answer: the walk. The document's Resolve: a question is opened, and closed. The document's Resolve: ask, if what it asks is known. The document's Resolve: ask: the walk. -/
import Derived.Test.YtadkmlcnmkdfiaaGreatDoorGpJ
import Derived.Deep.AppendLies
namespace Go.Proofs.YtadkmlcnmkdfiaaGreatDoor
open Go.RowKit Xp
set_option linter.unusedVariables false
set_option linter.unusedSimpArgs false

section
variable {c : RC} {W X : World} {A : List (Qn × Bool)} {va : Value} {S : St}
theorem RA.set (h : RS c W A va) (hX : RA c W X A va S) {k : Nat} (hk : W.heap.size ≤ k) {cs : Array Value} {t : TypeId} (ht : t ≠ 114) (hc : X.heap[k]? = some (.cells cs t (0, 0))) (j : Nat) (u : Value) : RA c W (X.setCell ⟨k, j, none⟩ u) A va S := by
  obtain ⟨B, vb, r1, r2, r3, r4, r5⟩ := hX
  have hne : k ≠ c.wk := fun e => by have := h.w.lt; omega
  have hvb : vb.ownBlock ≠ some k := fun e => by
    obtain ⟨cur, hcur⟩ := row_cellsX r1.w.row e
    rw [hc] at hcur
    simp at hcur
    exact ht hcur.2
  refine ⟨B, vb, ⟨r1.b.setCell (by show c.w0.heap.size ≤ k; have := h.b.size; omega) _, ⟨(Below.heap_setCell _ _ _ _ (fun e => hne e.symm)).trans r1.w.blk, row_keep r1.w.row fun b hb => Below.heap_setCell _ _ _ _ (fun e => hvb (by rw [show some k = some b by rw [e]]; exact hb)), r1.w.ne, r1.w.lo⟩, r1.nd, r1.sub, by simpa [World.setCell] using r1.lo⟩, r2, r3, ⟨r4.os, r4.tape, r4.output, by simpa [World.setCell] using r4.size, fun i hi h1 h2 => (Below.heap_setCell _ _ _ _ (by show i ≠ k; omega)).trans (r4.block i hi h1 h2)⟩, r5⟩
theorem RA.bel' {X' : World} (hX : RA c W X A va S) (b : Below X.heap.size X X') : RA c W X' A va S := by
  obtain ⟨B, vb, r1, r2, r3, r4, r5⟩ := hX
  exact ⟨B, vb, r1.bel b, r2, r3, r4.trans (vb := vb) (Fx.bel b) r5, r5⟩
theorem RA.set4 (h : RS c W A va) (hX : RA c W X A va S) {k : Nat} (hk : W.heap.size ≤ k) {p q r s : Value} (hc : X.heap[k]? = some (.cells #[p, q, r, s] 41 (0, 0))) (p' q' r' s' : Value) : RA c W ((((X.setCell ⟨k, 0, none⟩ p').setCell ⟨k, 1, none⟩ q').setCell ⟨k, 2, none⟩ r').setCell ⟨k, 3, none⟩ s') A va S :=
  RA.set h (RA.set h (RA.set h (RA.set h hX hk (by decide) hc 0 p') hk (by decide) (t1c hc) 1 q') hk (by decide) (t2c hc) 2 r') hk (by decide) (t3c hc) 3 s'
/-- one more is asked. -/
theorem RA.asks {n : Nat} (H : AskC c n) (h : RS c W A va) (hX : RA c W X A va S) (hu : un c.U S ≤ n) (q : Qn) (hq : q.2 ∈ Nms c.L c.n0) :
    Calls Tryz.prog 35 #[.pointer (some ⟨c.wk, 0, none⟩), .int .i64 q.1, .string q.2] X fun e w' => e = .returned (.agg #[.int .i64 (Xp.ask c.L c.n0 S q).1.k, .int .i64 (Xp.ask c.L c.n0 S q).1.mod, .string (Xp.ask c.L c.n0 S q).1.name, .bool (Xp.ask c.L c.n0 S q).1.ty]) ∧ RA c W w' A va (Xp.ask c.L c.n0 S q).2 ∧ X.heap.size ≤ w'.heap.size ∧ ∀ k, W.heap.size ≤ k → ∀ cs t, X.heap[k]? = some (.cells cs t (0, 0)) → t ≠ 114 → w'.heap[k]? = X.heap[k]? := by
  obtain ⟨B, vb, r1, r2, r3, r4, r5⟩ := hX
  subst r2
  refine (H X (A ++ B) vb q r1 hu hq).mono ?_
  rintro e w' ⟨h1, B', vc, k1, k2, k3, k4, k5⟩
  refine ⟨h1, ⟨B ++ B', vc, by rw [← List.append_assoc]; exact k1, by rw [← List.append_assoc]; exact k2, fun x hx => ?_, r4.trans k4 r5, fun i hi => ?_⟩, k4.size, fun k hk1 cs t hc ht => ?_⟩
  · rcases List.mem_append.1 hx with hx | hx
    · exact r3 x hx
    · exact k3 x hx
  · rcases k5 i hi with e' | e'
    · exact r5 i e'
    · exact Or.inr (Nat.le_trans r4.size e')
  · refine k4.block k (Array.getElem?_eq_some_iff.1 hc).1 (fun e' => ?_) (fun e' => ?_)
    · have := h.w.lt; omega
    · obtain ⟨cur, hcur⟩ := row_cellsX r1.w.row e'
      rw [hc] at hcur
      simp at hcur
      exact ht hcur.2
end
theorem joined_zero {v : Fnd} (h : Five v) : joined fd0 v = v := by
  rcases h with rfl | h | h | rfl | rfl
  · rfl
  · unfold joined; rw [if_neg (by simp [h]), if_pos (show leads fd0 = false from rfl)]
  · unfold joined; rw [if_neg (by simp [h]), if_pos (show leads fd0 = false from rfl)]
  · rfl
  · rfl
theorem frG_one (L : List Es) (n0 : ByteArray) (name : ByteArray) (S : St) (x : En) : frG (Xp.ask L n0) name S [x] fd0 = Xp.ask L n0 S (x.mod, name) := by
  unfold frG
  simp only [joined_zero (five_ask L n0 S (x.mod, name))]
  split
  · rfl
  · rfl
/-- what answer gives. -/
def ansF (L : List Es) (n0 : ByteArray) (e : Es) (S : St) (q : Qn) : Fnd × St := match first e q with
  | .val v => (v, S)
  | .go left name ty => (clo ty (frG (Xp.ask L n0) name S left fd0).1, (frG (Xp.ask L n0) name S left fd0).2)
theorem ans_own {L : List Es} {n0 : ByteArray} {e : Es} {S : St} {m : Int} {nm : ByteArray} {k : Nat} (hk : k < e.own.length) (h : ∀ i (hi : i < e.own.length), i < k → (e.own[i].there == nm) = false) (hp : (e.own[k].there == nm) = true) : ansF L n0 e S (m, nm) = (⟨1, m, e.own[k].here, e.own[k].ty⟩, S) := by
  obtain ⟨hi, hf⟩ := first_own (m := m) (pl_found hk h hp)
  unfold ansF; rw [hf]
theorem ans_oth {L : List Es} {n0 : ByteArray} {e : Es} {S : St} {m : Int} {nm : ByteArray} {k : Nat} (ho : ∀ i (hi : i < e.own.length), (e.own[i].there == nm) = false) (hk : k < e.oth.length) (h : ∀ i (hi : i < e.oth.length), i < k → (e.oth[i].here == nm) = false) (hp : (e.oth[k].here == nm) = true) :
    ansF L n0 e S (m, nm) = if e.oth[k].there = star then (⟨2, e.oth[k].mod, mt, e.oth[k].ty⟩, S) else (clo e.oth[k].ty (Xp.ask L n0 S (e.oth[k].mod, e.oth[k].there)).1, (Xp.ask L n0 S (e.oth[k].mod, e.oth[k].there)).2) := by
  obtain ⟨hi, hf⟩ := first_oth (m := m) (pl_other ho hk h hp)
  unfold ansF; rw [hf]
  by_cases hs : e.oth[k].there = star
  · simp [hs]
  · simp only [hs, if_false]
    rw [frG_one]
theorem ans_no {L : List Es} {n0 : ByteArray} {e : Es} {S : St} {m : Int} {nm : ByteArray} (ho : ∀ i (hi : i < e.own.length), (e.own[i].there == nm) = false) (h : ∀ i (hi : i < e.oth.length), (e.oth[i].here == nm) = false) : ansF L n0 e S (m, nm) = if nm = dflt then (fd0, S) else frG (Xp.ask L n0) nm S e.st fd0 := by
  have hf := first_no (m := m) (pl_none ho h)
  unfold ansF; rw [hf]
  by_cases hs : nm = dflt
  · simp [hs]
  · simp only [hs, if_false]
    refine Prod.ext ?_ rfl
    have : ∀ v : Fnd, clo false v = v := fun v => by unfold clo; simp
    exact this _
end Go.Proofs.YtadkmlcnmkdfiaaGreatDoor
namespace Go.Proofs.YtadkmlcnmkdfiaaGreatDoor
open Go.RowKit Xp
set_option linter.unusedVariables false
set_option linter.unusedSimpArgs false

set_option maxRecDepth 100000 in
set_option maxHeartbeats 16000000 in
theorem answer_step {c : RC} (hk : c.ok) {n : Nat} (H : AskC c n) {W : World} {A : List (Qn × Bool)} {va : Value} (h : RS c W A va) (hn : un c.U (stA A) ≤ n) {m : Nat} (hm : m < c.L.length) (nm : ByteArray) (hnm : nm ∈ Nms c.L c.n0) :
    Calls Tryz.prog 59 #[.pointer (some ⟨c.wk, 0, none⟩), .int .i64 (m : Nat), .string nm] W fun e w' => e = .returned (.agg #[.int .i64 (ansF c.L c.n0 c.L[m] (stA A) ((m : Int), nm)).1.k, .int .i64 (ansF c.L c.n0 c.L[m] (stA A) ((m : Int), nm)).1.mod, .string (ansF c.L c.n0 c.L[m] (stA A) ((m : Int), nm)).1.name, .bool (ansF c.L c.n0 c.L[m] (stA A) ((m : Int), nm)).1.ty]) ∧ RA c W w' A va (ansF c.L c.n0 c.L[m] (stA A) ((m : Int), nm)).2 := by
  have hE := hk.hE c.L[m] (List.getElem_mem hm)
  have hL := hk.hL
  obtain ⟨b, o, cp, hv, hbB, hf⟩ := hk.ms.cl (by omega)
  obtain ⟨v0, v1, v2, v3, hd⟩ := hf m hm
  clear hf
  have HMEM : Hid (c.L[m] ∈ c.L) := List.getElem_mem hm
  generalize c.L[m] = e at *
  obtain ⟨a0, c0, rfl⟩ := EnAt.op hd.a0
  obtain ⟨a1, c1, rfl⟩ := EnAt.op hd.a1
  obtain ⟨a2, c2, rfl⟩ := EnAt.op hd.a2
  obtain ⟨a3, c3, rfl⟩ := EnAt.op hd.a3
  obtain ⟨res, hres⟩ : ∃ r, ansF c.L c.n0 e (stA A) ((m : Int), nm) = r := ⟨_, rfl⟩
  have HR : Hid (ansF c.L c.n0 e (stA A) ((m : Int), nm) = res) := hres
  rw [hres]
  clear hres
  have hblk := h.w.blk
  rw [hv] at hblk
  have hw := (hd.bel h.b hbB)
  obtain ⟨wA, hwA⟩ : ∃ X, (W.alloc (.cells #[.int .i64 0, .int .i64 0, .string ⟨#[]⟩, .bool false] 41)).alloc (.cells #[.slice a0 e.imp.length c0, .slice a1 e.own.length c1, .slice a2 e.oth.length c2, .slice a3 e.st.length c3] 32) = X := ⟨_, rfl⟩
  have bA : Below W.heap.size W wA := by rw [← hwA]; exact ((Below.refl _ _).alloc (Nat.le_refl _) _).alloc (by simp) _
  have sA : wA.heap.size = W.heap.size + 1 + 1 := by rw [← hwA]; simp
  have m0 : wA.heap[W.heap.size]? = some (.cells #[.int .i64 0, .int .i64 0, .string ⟨#[]⟩, .bool false] 41 (0, 0)) := by rw [← hwA, Below.heap_alloc _ _ _ (by simp)]; exact heap_alloc_new W _
  have m1 : wA.heap[W.heap.size + 1]? = some (.cells #[.slice a0 e.imp.length c0, .slice a1 e.own.length c1, .slice a2 e.oth.length c2, .slice a3 e.st.length c3] 32 (0, 0)) := by rw [← hwA]; exact hnewX _ (by simp)
  have HRA : Hid (RA c W wA A va (stA A)) := RA.refl h bA
  have HH : Hid (RS c W A va) := h
  have HD : Hid (MdAt c.w0 c.w0.heap.size b (o + m * 4) e (.slice a0 e.imp.length c0) (.slice a1 e.own.length c1) (.slice a2 e.oth.length c2) (.slice a3 e.st.length c3)) := hd
  have HK : Hid (∀ X, Below wA.heap.size wA X → X.heap[W.heap.size]? = some (.cells #[.int .i64 0, .int .i64 0, .string ⟨#[]⟩, .bool false] 41 (0, 0)) ∧ X.heap[W.heap.size + 1]? = some (.cells #[.slice a0 e.imp.length c0, .slice a1 e.own.length c1, .slice a2 e.oth.length c2, .slice a3 e.st.length c3] 32 (0, 0)) ∧ RA c W X A va (stA A) ∧ Below c.w0.heap.size c.w0 X) := fun X bx =>
    ⟨(bx.block _ (by omega)).trans m0, (bx.block _ (by omega)).trans m1, HRA.out.bel' bx, (h.b.trans (bA.mono h.b.size)).trans (bx.mono (by have := h.b.size; omega))⟩
  have HwA : Hid (_ = wA) := hwA
  have HU : Hid (un c.U (stA A) ≤ n) := hn
  have d0 := hw.c0
  have d1 := hw.c1
  have d2 := hw.c2
  have d3 := hw.c3
  have hwz := ((hd.bel (h.b.trans (((Below.refl _ W).alloc (Nat.le_refl _) (.cells #[.int .i64 0, .int .i64 0, .string ⟨#[]⟩, .bool false] 41)).mono h.b.size)) hbB))
  have z0 := hwz.c0
  have z1 := hwz.c1
  have z2 := hwz.c2
  have z3 := hwz.c3
  have hbz := (Below.heap_alloc W (.cells #[.int .i64 0, .int .i64 0, .string ⟨#[]⟩, .bool false] 41) _ h.w.lt).trans hblk
  obtain ⟨⟨_, _⟩, _, _⟩ := t2 hblk
  obtain ⟨⟨_, _⟩, _, _⟩ := t2 hbz
  have hmL : ((m : Nat) : Int) < ((c.L.length : Nat) : Int) := by omega
  have hl1 : ((e.own.length : Nat) : Int) ≤ 1048576 := by omega
  have hl2 : ((e.oth.length : Nat) : Int) ≤ 1048576 := by omega
  clear hwA m0 m1 sA hw hwz hd hn hblk hbz
  go_enter Tryz.func59, Tryz.ntmps59
  go_wp2
  go_loopw [8] (fun u8 wr => ∃ k : Nat, u8 = .int .i64 (k : Nat) ∧ k ≤ e.own.length ∧ wr = wA ∧ Hid (∀ i (hi : i < e.own.length), i < k → (e.own[i].there == nm) = false)) (fun u8 _ => e.own.length - (intOf u8).toNat)
  case atStart =>
    rw [HwA.out]
    exact ⟨0, rfl, by omega, rfl, fun i _ h => absurd h (by omega)⟩
  case round =>
    obtain ⟨k, rfl, hkl, hwr, hH⟩ := hrel
    obtain rfl := hwr.symm
    obtain ⟨n0, n1, hX, bX⟩ := HK.out _ (Below.refl _ _)
    obtain ⟨⟨_, _, _, _⟩, _, _, _, _⟩ := t4 n0
    obtain ⟨⟨_, _, _, _⟩, _, _, _, _⟩ := t4 n1
    by_cases hlt : k < e.own.length
    · obtain ⟨b1, o1, c', ee, hb1, hcel⟩ := EnAt.cl (HD.out.a1.bel bX) (by omega)
      obtain ⟨rfl, rfl⟩ : a1 = some ⟨b1, o1, none⟩ ∧ c1 = c' := by cases ee; exact ⟨rfl, rfl⟩
      obtain ⟨f1, f2, f3, f4, f5⟩ := hcel k hlt
      cases qe : (e.own[k].there == nm) with
      | true =>
        have HRES : Hid (res = (⟨1, (m : Int), e.own[k].here, e.own[k].ty⟩, stA A)) := by show _ = _; rw [← HR.out, ans_own hlt hH.out qe]
        clear hcel
        rw [beq_toListBytes] at qe
        generalize e.own[k] = x at *
        have HXX : Hid (∀ p q x y, RA c W ((((wA.setCell ⟨W.heap.size, 0, none⟩ p).setCell ⟨W.heap.size, 1, none⟩ q).setCell ⟨W.heap.size, 2, none⟩ x).setCell ⟨W.heap.size, 3, none⟩ y).drew A va (stA A)) := fun p q x y => (RA.set4 HH.out hX (Nat.le_refl _) n0 p q x y).bel' ((Below.refl _ _).drew)
        go_wp2_with fail
        go_region
        all_goals
          go_wp2
          refine bodyPost_ret (res_f4 Tryz.results59 (t4_set _ _ _ _ n0) rfl) rfl ?_
          rw [HRES.out]
          exact ⟨rfl, HXX.out _ _ _ _⟩
      | false =>
        have HS : Hid (∀ i (hi : i < e.own.length), i < k + 1 → (e.own[i].there == nm) = false) := fun i hi h => by
          by_cases e' : i = k
          · subst e'; exact qe
          · exact hH.out i hi (by omega)
        clear hcel
        rw [beq_toListBytes] at qe
        generalize e.own[k] = x at *
        go_wp2
        go_roundw
        case rel => exact ⟨k + 1, by simp, by omega, by first | rfl | trivial, HS⟩
        case measure => simp [intOf]; omega
    · have HO : Hid (∀ i (hi : i < e.own.length), (e.own[i].there == nm) = false) := fun i hi => hH.out i hi (by omega)
      clear n0 n1 hX bX
      go_wp2
      go_loopw [9, 10] (fun u9 u10 wq => ∃ k : Nat, u9 = .int .i64 (k : Nat) ∧ k ≤ e.oth.length ∧ Below wA.heap.size wA wq ∧ Hid (∀ i (hi : i < e.oth.length), i < k → (e.oth[i].here == nm) = false)) (fun u9 _ _ => e.oth.length - (intOf u9).toNat)
      case atStart => exact ⟨0, rfl, by omega, by first | exact Below.refl _ _ | (rw [HwA.out]; exact Below.refl _ _), fun i _ h => absurd h (by omega)⟩
      case round =>
        obtain ⟨k', rfl, hkl', bx, hH'⟩ := hrel
        obtain ⟨n0, n1, hX, bX⟩ := HK.out _ bx
        by_cases hlt' : k' < e.oth.length
        · obtain ⟨b1, o1, c', ee, hb1, hcel⟩ := EnAt.cl (HD.out.a2.bel bX) (by omega)
          obtain ⟨rfl, rfl⟩ : a2 = some ⟨b1, o1, none⟩ ∧ c2 = c' := by cases ee; exact ⟨rfl, rfl⟩
          obtain ⟨f1, f2, f3, f4, f5⟩ := hcel k' hlt'
          obtain ⟨⟨_, _, _, _⟩, _, _, _, _⟩ := t4 n1
          cases qe : (e.oth[k'].here == nm) with
          | false =>
            have HS : Hid (∀ i (hi : i < e.oth.length), i < k' + 1 → (e.oth[i].here == nm) = false) := fun i hi h => by
              by_cases e' : i = k'
              · subst e'; exact qe
              · exact hH'.out i hi (by omega)
            clear hcel
            rw [beq_toListBytes] at qe
            generalize e.oth[k'] = x at *
            go_wp2
            go_roundw
            case rel => exact ⟨k' + 1, by simp, by omega, bx.alloc bx.size _, HS⟩
            case measure => simp [intOf]; omega
          | true =>
            have hres2 := HR.out
            rw [ans_oth HO.out hlt' hH'.out qe] at hres2
            have HN : Hid (e.oth[k'].there ∈ Nms c.L c.n0) := List.mem_cons_of_mem _ (List.mem_flatMap.2 ⟨e, HMEM.out, List.mem_map.2 ⟨e.oth[k'], List.getElem_mem hlt', rfl⟩⟩)
            clear hcel
            rw [beq_toListBytes] at qe
            generalize e.oth[k'] = x at *
            obtain ⟨p0, p1, hY, bY⟩ := HK.out _ (bx.alloc bx.size (.cells #[.string x.here, .string x.there, .int .i64 x.mod, .bool x.ty, .int .i64 x.item] 49))
            obtain ⟨⟨_, _, _, _⟩, _, _, _, _⟩ := t4 p0
            by_cases hs : x.there = star
            · rw [if_pos hs] at hres2
              have hs' : (x.there.toList == [42]) = true := by rw [show ([42] : List UInt8) = star.toList by rw [ByteArray.toList_eq]; rfl, ← beq_toListBytes, ba_eq]; exact decide_eq_true hs
              have HRES : Hid (res = (⟨2, x.mod, ⟨#[]⟩, x.ty⟩, stA A)) := hres2.symm
              clear hres2 hs
              go_wp2
              refine bodyPost_ret (res_f4 Tryz.results59 (t4_set _ _ _ _ p0) rfl) rfl ?_
              rw [HRES.out]
              exact ⟨rfl, RA.set4 HH.out hY (Nat.le_refl _) p0 _ _ _ _⟩
            · rw [if_neg hs] at hres2
              have hs' : (x.there.toList == [42]) = false := by rw [show ([42] : List UInt8) = star.toList by rw [ByteArray.toList_eq]; rfl, ← beq_toListBytes, ba_eq]; exact decide_eq_false hs
              have C := RA.asks H HH.out hY HU.out (x.mod, x.there) HN.out
              have mx := heap_alloc_new wr (.cells #[.string x.here, .string x.there, .int .i64 x.mod, .bool x.ty, .int .i64 x.item] 49)
              have hWr : W.heap.size ≤ wr.heap.size := Nat.le_of_lt (Array.getElem?_eq_some_iff.1 n0).1
              generalize Xp.ask c.L c.n0 (stA A) (x.mod, x.there) = r at *
              obtain ⟨f, S'⟩ := r
              simp only at C hres2
              have HRES : Hid (res = (clo x.ty f, S')) := hres2.symm
              clear hres2 hs
              go_wp2_with fail
              go_at_call 35
              refine C.mono ?_
              rintro ex W1 ⟨rfl, hX1, hsz, hp1⟩
              have q0 := (hp1 _ (Nat.le_refl _) _ _ p0 (by decide)).trans p0
              have qx := (hp1 _ hWr _ _ mx (by decide)).trans mx
              have hX2 := hX1.bel' ((Below.refl _ _).alloc (Nat.le_refl _) (.cells #[.int .i64 f.k, .int .i64 f.mod, .string f.name, .bool f.ty] 41))
              have q0' := (Below.heap_alloc W1 (.cells #[.int .i64 f.k, .int .i64 f.mod, .string f.name, .bool f.ty] 41) _ (Array.getElem?_eq_some_iff.1 q0).1).trans q0
              have qx' := (Below.heap_alloc W1 (.cells #[.int .i64 f.k, .int .i64 f.mod, .string f.name, .bool f.ty] 41) _ (Array.getElem?_eq_some_iff.1 qx).1).trans qx
              have hW1 : W.heap.size < W1.heap.size := (Array.getElem?_eq_some_iff.1 q0).1
              obtain ⟨fk, fm, fn, ft⟩ := f
              simp only at hX2 qx' HRES
              have HG0 : Hid (∀ (p q x y : Value) (o : Obj), (((((W1.setCell ⟨W.heap.size, 0, none⟩ p).setCell ⟨W.heap.size, 1, none⟩ q).setCell ⟨W.heap.size, 2, none⟩ x).setCell ⟨W.heap.size, 3, none⟩ y).alloc o).heap[W.heap.size]? = some (.cells #[p, q, x, y] 41 (0, 0))) := fun p q x y o => by
                have h4 := t4_set p q x y q0
                exact (Below.heap_alloc _ o _ (Array.getElem?_eq_some_iff.1 h4).1).trans h4
              have HGR : Hid (∀ (p q x y : Value) (o : Obj), RA c W (((((W1.setCell ⟨W.heap.size, 0, none⟩ p).setCell ⟨W.heap.size, 1, none⟩ q).setCell ⟨W.heap.size, 2, none⟩ x).setCell ⟨W.heap.size, 3, none⟩ y).alloc o) A va S') := fun p q x y o => (RA.set4 HH.out hX1 (Nat.le_refl _) q0 p q x y).bel' ((Below.refl _ _).alloc (Nat.le_refl _) o)
              obtain ⟨⟨_, _, _, _⟩, _, _, _, _⟩ := t4 q0
              clear q0'
              have qx3 : (W1.alloc (.cells #[.int .i64 fk, .int .i64 fm, .string fn, .bool ft] 41)).cell? ⟨wr.heap.size, 3, none⟩ = some (.bool x.ty) := by simp [World.cell?, qx']
              clear C
              by_cases h1 : fk = 1
              · subst h1
                cases ft with
                | true =>
                  have HRES2 : Hid (res = (⟨1, fm, fn, true⟩, S')) := by show _ = _; rw [HRES.out]; simp [clo]
                  clear HRES
                  have HRES := HRES2
                  go_wp2
                  refine bodyPost_ret (res_f4 Tryz.results59 (HG0.out _ _ _ _ _) rfl) rfl ?_
                  rw [HRES.out]
                  exact ⟨rfl, HGR.out _ _ _ _ _⟩
                | false =>
                  have HRES2 : Hid (res = (⟨1, fm, fn, x.ty⟩, S')) := by show _ = _; rw [HRES.out]; simp [clo, leads]
                  clear HRES
                  have HRES := HRES2
                  go_wp2
                  refine bodyPost_ret (res_f4 Tryz.results59 (HG0.out _ _ _ _ _) rfl) rfl ?_
                  rw [HRES.out]
                  exact ⟨rfl, HGR.out _ _ _ _ _⟩
              · have h1' : (fk == 1) = false := by simp [h1]
                by_cases h2 : fk = 2
                · subst h2
                  cases ft with
                  | true =>
                    have HRES2 : Hid (res = (⟨2, fm, fn, true⟩, S')) := by show _ = _; rw [HRES.out]; simp [clo]
                    clear HRES
                    have HRES := HRES2
                    go_wp2
                    refine bodyPost_ret (res_f4 Tryz.results59 (HG0.out _ _ _ _ _) rfl) rfl ?_
                    rw [HRES.out]
                    exact ⟨rfl, HGR.out _ _ _ _ _⟩
                  | false =>
                    have HRES2 : Hid (res = (⟨2, fm, fn, x.ty⟩, S')) := by show _ = _; rw [HRES.out]; simp [clo, leads]
                    clear HRES
                    have HRES := HRES2
                    go_wp2
                    refine bodyPost_ret (res_f4 Tryz.results59 (HG0.out _ _ _ _ _) rfl) rfl ?_
                    rw [HRES.out]
                    exact ⟨rfl, HGR.out _ _ _ _ _⟩
                · have h2' : (fk == 2) = false := by simp [h2]
                  have HRES2 : Hid (res = (⟨fk, fm, fn, ft⟩, S')) := by show _ = _; rw [HRES.out]; simp [clo, leads, h1, h2]
                  clear HRES h1 h2
                  have HRES := HRES2
                  go_wp2
                  refine bodyPost_ret (res_f4 Tryz.results59 (HG0.out _ _ _ _ _) rfl) rfl ?_
                  rw [HRES.out]
                  exact ⟨rfl, HGR.out _ _ _ _ _⟩
        · have hres2 := HR.out
          rw [ans_no HO.out (fun i hi => hH'.out i hi (by omega))] at hres2
          obtain ⟨⟨_, _, _, _⟩, _, _, _, _⟩ := t4 n0
          obtain ⟨⟨_, _, _, _⟩, _, _, _, _⟩ := t4 n1
          by_cases hs : nm = dflt
          · rw [if_pos hs] at hres2
            have hs' : (nm.toList == [100, 101, 102, 97, 117, 108, 116]) = true := by rw [show ([100, 101, 102, 97, 117, 108, 116] : List UInt8) = dflt.toList by rw [ByteArray.toList_eq]; rfl, ← beq_toListBytes, ba_eq]; exact decide_eq_true hs
            have HRES : Hid (res = (⟨0, 0, ⟨#[]⟩, false⟩, stA A)) := hres2.symm
            clear hres2 hs
            go_wp2
            refine bodyPost_ret (res_f4 Tryz.results59 (t4_set _ _ _ _ n0) rfl) rfl ?_
            rw [HRES.out]
            exact ⟨rfl, RA.set4 HH.out hX (Nat.le_refl _) n0 _ _ _ _⟩
          · rw [if_neg hs] at hres2
            have hs' : (nm.toList == [100, 101, 102, 97, 117, 108, 116]) = false := by rw [show ([100, 101, 102, 97, 117, 108, 116] : List UInt8) = dflt.toList by rw [ByteArray.toList_eq]; rfl, ← beq_toListBytes, ba_eq]; exact decide_eq_false hs
            have hb2 : Below W.heap.size W wr := bA.trans (bx.mono bA.size)
            have hsr := HH.out.bel hb2
            have C := stars_step hk H hsr HU.out HD.out.a3 hE.2.2 nm hnm
            rw [hres2] at C
            have HF : Hid (∀ w', RA c wr w' A va res.2 → RA c W w' A va res.2 ∧ w'.heap[W.heap.size]? = some (.cells #[.int .i64 0, .int .i64 0, .string ⟨#[]⟩, .bool false] 41 (0, 0))) := fun w' hr => by
              obtain ⟨B, vb, r1, r2, r3, r4, r5⟩ := hr
              have hlt := (Array.getElem?_eq_some_iff.1 n0).1
              refine ⟨⟨B, vb, r1, r2, r3, (Fx.bel hb2).trans r4 (fun i hi => Or.inl hi), fun i hi => ?_⟩, (r4.block _ hlt (fun e' => ?_) (fun e' => ?_)).trans n0⟩
              · rcases r5 i hi with e' | e'
                · exact Or.inl e'
                · exact Or.inr (by omega)
              · have := HH.out.w.lt; omega
              · have := (World.ownsRow.lt HH.out.w.row _ e').2; omega
            clear hres2 hs
            go_wp2_with fail
            go_at_call 85
            refine C.mono ?_
            rintro ex W1 ⟨rfl, hr1⟩
            obtain ⟨hX1, q0⟩ := HF.out _ hr1
            obtain ⟨⟨_, _, _, _⟩, _, _, _, _⟩ := t4 q0
            go_wp2
            refine bodyPost_ret (res_f4 Tryz.results59 (t4_set _ _ _ _ q0) rfl) rfl ?_
            exact ⟨rfl, RA.set4 HH.out hX1 (Nat.le_refl _) q0 _ _ _ _⟩
end Go.Proofs.YtadkmlcnmkdfiaaGreatDoor
namespace Go.Proofs.YtadkmlcnmkdfiaaGreatDoor
open Go.RowKit Xp
set_option linter.unusedVariables false
set_option linter.unusedSimpArgs false

theorem set_set (S : St) (q : Qn) (a b : Nat) : (S.set q a).set q b = S.set q b := by
  funext p
  unfold St.set
  split <;> simp_all
theorem ask_ans {L : List Es} {n0 : ByteArray} {S : St} {q : Qn} (hq : q.2 ∈ Nms L n0) (h0 : 0 ≤ q.1) {e : Es} (he : L[q.1.toNat]? = some e) (hS : S q = 0) : Xp.ask L n0 S q = ((ansF L n0 e (S.set q 1) q).1, (ansF L n0 e (S.set q 1) q).2.set q 2) := by
  rw [ask_eq L n0 S q hq]
  unfold stepF ansF
  rw [if_pos h0, he]
  simp only [hS]
  cases first e q with
  | val v => simp [set_set]
  | go left name ty => simp
/-- one more is asked. -/
theorem RS.push {c : RC} {W W' : World} {A : List (Qn × Bool)} {va : Value} (h : RS c W A va) {q : Qn} (hq : q ∈ c.U) (hn : ∀ x ∈ A, x.1 ≠ q) {g cap H : Nat} (hH : W.heap.size = H) (hl0 : c.w0.heap.size ≤ c.lo)
    (ho : W'.ownsRow c.lo 114 3 (.slice (some ⟨g, 0, none⟩) (A.length + 1) cap) (A.length + 1) (askC A ++ [.int .i64 q.1, .string q.2, .bool true])) (gr : W.grownBy W' va.ownBlock) (ha : va.ownBlock = some g ∨ g = H) :
    ((∃ u, W'.cell? ⟨c.wk, 1, none⟩ = some u) ∧ W'.frozen? ⟨c.wk, 1, none⟩ = false) ∧ RS c (W'.setCell ⟨c.wk, 1, none⟩ (.slice (some ⟨g, 0, none⟩) (A.length + 1) cap)) (A ++ [(q, true)]) (.slice (some ⟨g, 0, none⟩) (A.length + 1) cap) ∧ Fx c.wk va W (W'.setCell ⟨c.wk, 1, none⟩ (.slice (some ⟨g, 0, none⟩) (A.length + 1) cap)) := by
  have hwl := h.w.lt
  have kw : W'.heap[c.wk]? = W.heap[c.wk]? := gr.block _ hwl (fun e => h.w.ne e.symm)
  have blk := kw.trans h.w.blk
  have ng : g ≠ c.wk := by
    rcases ha with ha | ha
    · exact fun e => h.w.ne (by rw [← e]; exact ha)
    · omega
  have fx : Fx c.wk va W (W'.setCell ⟨c.wk, 1, none⟩ (.slice (some ⟨g, 0, none⟩) (A.length + 1) cap)) :=
    ⟨gr.os, gr.tape, gr.output, by simpa [World.setCell] using gr.size, fun k hk h1 h2 => (Below.heap_setCell _ _ _ _ h1).trans (gr.block k hk (fun e => h2 e.symm))⟩
  refine ⟨⟨⟨_, (t2 blk).1.2⟩, (t2 blk).2.2⟩, ⟨h.b.trans ((h.w.below fx h.lo).mono hl0), ⟨?_, ?_, ?_, h.w.lo⟩, ?_, fun x hx => ?_, Nat.le_trans h.lo fx.size⟩, fx⟩
  · simp [World.setCell, Array.getElem?_modify, blk]
  · rw [askC_app, show (A ++ [(q, true)]).length = A.length + 1 by simp]
    exact row_keep ho fun b hb => Below.heap_setCell _ _ _ _ (by cases hb; exact ng)
  · intro e; cases e; exact ng rfl
  · rw [List.map_append, List.nodup_append]
    refine ⟨h.nd, by simp, fun a ha' b hb => ?_⟩
    obtain ⟨x, hx, rfl⟩ := List.mem_map.1 ha'
    simp at hb
    rw [hb]
    exact hn x hx
  · rcases List.mem_append.1 hx with hx | hx
    · exact h.sub x hx
    · simp at hx; rw [hx]; exact hq
end Go.Proofs.YtadkmlcnmkdfiaaGreatDoor
namespace Go.Proofs.YtadkmlcnmkdfiaaGreatDoor
open Go.RowKit Xp
set_option linter.unusedVariables false
set_option linter.unusedSimpArgs false

theorem nodup_le : ∀ {l U : List Qn}, l.Nodup → (∀ x ∈ l, x ∈ U) → l.length ≤ U.length
  | [], U, _, _ => Nat.zero_le _
  | a :: l, U, hn, hs => by
    obtain ⟨h1, h2⟩ := List.nodup_cons.1 hn
    have hm : a ∈ U := hs a (by simp)
    have h3 := nodup_le (l := l) (U := U.filter fun x => decide (x ≠ a)) h2 (fun x hx => List.mem_filter.2 ⟨hs x (by simp [hx]), by simpa using fun e => h1 (by rw [← e]; exact hx)⟩)
    have h4 : (U.filter fun x => decide (x ≠ a)).length < U.length := List.length_filter_lt_length_iff_exists.2 ⟨a, hm, by simp⟩
    simp
    omega
theorem RS.len {c : RC} {W : World} {A : List (Qn × Bool)} {va : Value} (h : RS c W A va) : A.length ≤ c.U.length := by
  have := nodup_le h.nd (fun x hx => by obtain ⟨y, hy, rfl⟩ := List.mem_map.1 hx; exact h.sub y hy)
  simpa using this
theorem askC_close (A B : List (Qn × Bool)) (q : Qn) : (askC (A ++ (q, true) :: B)).set (A.length * 3 + 2) (.bool false) = askC (A ++ (q, false) :: B) := by
  rw [askC_app, askC_app]
  simp only [← askC_len A]
  rw [List.set_append_right _ _ (by omega)]
  simp [askC]
/-- a question is closed. -/
theorem RA.close {c : RC} (hk : c.ok) {W W4 X : World} {A : List (Qn × Bool)} {va v4 : Value} {q : Qn} {S2 : St} (h : RS c W A va) (fx : Fx c.wk va W W4) (f5 : ∀ i, v4.ownBlock = some i → va.ownBlock = some i ∨ W.heap.size ≤ i) (hn : ∀ x ∈ A, x.1 ≠ q) (hX : RA c W4 X (A ++ [(q, true)]) v4 S2) :
    ∃ g n cap, X.heap[c.wk]? = some (.cells #[c.v, .slice (some ⟨g, 0, none⟩) n cap] 74 (0, 0)) ∧ A.length < n ∧ n ≤ 274877906944 ∧ X.cell? ⟨g, A.length * 3 + 2, none⟩ = some (.bool true) ∧ X.frozen? ⟨g, A.length * 3 + 2, none⟩ = false ∧ RA c W (X.setCell ⟨g, A.length * 3 + 2, none⟩ (.bool false)) A va (S2.set q 2) ∧ ∀ k, k < X.heap.size → (∃ cs t, X.heap[k]? = some (.cells cs t (0, 0)) ∧ t ≠ 114) → k ≠ g := by
  obtain ⟨B, vb, r1, r2, r3, r4, r5⟩ := hX
  have e0 : A ++ [(q, true)] ++ B = A ++ (q, true) :: B := by simp
  rw [e0] at r1 r2
  have hl : (A ++ (q, true) :: B).length = A.length + 1 + B.length := by simp; omega
  have hrow := r1.w.row
  obtain ⟨g, cap, rfl, hg, hcap⟩ := row_some hrow (by omega)
  have hlen := r1.len
  have hU := hk.hU
  have hc := World.ownsRow.cellAt hrow (A.length * 3 + 2) (by omega)
  rw [askC_at (k := A.length) (j := 2) (by omega) (by omega)] at hc
  simp at hc
  have hst := (World.ownsRow.stored hrow (A.length * 3 + 2) (.bool false)).1
  rw [askC_close] at hst
  have hng : g ≠ c.wk := fun e => r1.w.ne (by rw [e]; rfl)
  have hgl := (World.ownsRow.lt hrow g rfl)
  refine ⟨g, _, cap, r1.w.blk, by omega, Nat.le_trans hlen hk.hU, hc, World.ownsRow.frozenAt hrow _, ⟨(q, false) :: B, .slice (some ⟨g, 0, none⟩) (A ++ (q, true) :: B).length cap, ⟨r1.b.setCell (Nat.le_trans hk.l0 hgl.1) _, ⟨(Below.heap_setCell _ _ _ _ (fun e => hng e.symm)).trans r1.w.blk, by simpa using hst, r1.w.ne, r1.w.lo⟩, by simpa using r1.nd, fun x hx => ?_, by simpa [World.setCell] using r1.lo⟩, ?_, fun x hx => ?_, ?_, fun i hi => ?_⟩, fun k hk' hc' e => ?_⟩
  · rcases List.mem_append.1 hx with hx | hx
    · exact r1.sub x (by simp [hx])
    · rcases List.mem_cons.1 hx with rfl | hx
      · exact r1.sub (q, true) (by simp)
      · exact r1.sub x (by simp [hx])
  · rw [stA_close hn, r2]
  · rcases List.mem_cons.1 hx with rfl | hx
    · rfl
    · exact r3 x hx
  · have f := fx.trans r4 f5
    refine ⟨f.os, f.tape, f.output, by simpa [World.setCell] using f.size, fun k hk1 h1 h2 => (Below.heap_setCell _ _ _ _ (fun e => ?_)).trans (f.block k hk1 h1 h2)⟩
    have e' : k = g := e
    subst e'
    rcases r5 k rfl with e2 | e2
    · rcases f5 k e2 with e3 | e3
      · exact h2 e3
      · omega
    · have := fx.size; omega
  · rcases r5 i hi with e2 | e2
    · exact f5 i e2
    · exact Or.inr (Nat.le_trans fx.size e2)
  · obtain ⟨cs, t, hcs, ht⟩ := hc'
    subst e
    obtain ⟨cur, hcur⟩ := row_cellsX hrow (b := k) rfl
    rw [hcs] at hcur
    simp at hcur
    exact ht hcur.2
end Go.Proofs.YtadkmlcnmkdfiaaGreatDoor
namespace Go.Proofs.YtadkmlcnmkdfiaaGreatDoor
open Go.RowKit Xp
set_option linter.unusedVariables false
set_option linter.unusedSimpArgs false

theorem info_ask : (Tryz.prog.info? 114).map (fun i => (i.zero, i.size, i.bytes)) = some (some (.agg #[.int .i64 0, .string ⟨#[]⟩, .bool false]), 3, 32) := by kernel_rfl
theorem under_asks : Tryz.prog.underlying 72 = some (.slice 114) := by kernel_rfl
set_option maxRecDepth 100000 in
set_option maxHeartbeats 16000000 in
theorem ask_step {c : RC} (hk : c.ok) {n : Nat} (H : ∀ m, n = m + 1 → AskC c m) : AskC c n := by
  intro W A va q h hn hnm
  obtain ⟨i0, hi, hz0, hz1, hz2⟩ := info_parts info_ask
  obtain ⟨wA, hwA⟩ : ∃ X, W.alloc (.cells #[.int .i64 0, .int .i64 0, .string ⟨#[]⟩, .bool false] 41) = X := ⟨_, rfl⟩
  have bA : Below W.heap.size W wA := by rw [← hwA]; exact (Below.refl _ _).alloc (Nat.le_refl _) _
  have sA : wA.heap.size = W.heap.size + 1 := by rw [← hwA]; simp
  have m0 : wA.heap[W.heap.size]? = some (.cells #[.int .i64 0, .int .i64 0, .string ⟨#[]⟩, .bool false] 41 (0, 0)) := by rw [← hwA]; exact heap_alloc_new W _
  have HRA : Hid (RA c W wA A va (stA A)) := RA.refl h bA
  have HH : Hid (RS c W A va) := h
  have hA := h.bel bA
  obtain ⟨ad, cp, hv⟩ := hk.ms.op
  have hblk := hA.w.blk
  rw [hv] at hblk
  have hL := hk.hL
  have hlA : A.length ≤ 274877906944 := Nat.le_trans h.len hk.hU
  have hlA' : ((A.length : Nat) : Int) ≤ 274877906944 := by omega
  obtain ⟨av, cv, rfl⟩ := row_form hA.w.row
  have hblk' := hblk
  obtain ⟨⟨_, _⟩, _, _⟩ := t2 hblk
  obtain ⟨⟨_, _, _, _⟩, _, _, _, _⟩ := t4 m0
  have HS4 : Hid (∀ p q x y, RA c W ((((wA.setCell ⟨W.heap.size, 0, none⟩ p).setCell ⟨W.heap.size, 1, none⟩ q).setCell ⟨W.heap.size, 2, none⟩ x).setCell ⟨W.heap.size, 3, none⟩ y) A (.slice av A.length cv) (stA A)) := fun p q x y => RA.set4 h HRA.out (Nat.le_refl _) m0 p q x y
  by_cases hin : 0 ≤ q.1 ∧ q.1 < c.L.length
  rotate_left
  · have hres : Xp.ask c.L c.n0 (stA A) q = (fd0, stA A) := ask_out hnm hin
    rw [hres]
    have HW : Hid (wA = wA) := rfl
    clear hlA hlA'
    by_cases h0 : q.1 < 0
    · go_enter Tryz.func35, Tryz.ntmps35
      go_wp2
      refine bodyPost_ret (res_f4 Tryz.results35 (t4_set _ _ _ _ m0) rfl) rfl ?_
      exact ⟨rfl, HS4.out _ _ _ _⟩
    · have h1 : ((c.L.length : Nat) : Int) ≤ q.1 := by omega
      have h0' : ¬ q.1 < 0 := h0
      clear hin
      go_enter Tryz.func35, Tryz.ntmps35
      go_wp2
      refine bodyPost_ret (res_f4 Tryz.results35 (t4_set _ _ _ _ m0) rfl) rfl ?_
      exact ⟨rfl, HS4.out _ _ _ _⟩
  · obtain ⟨hin0, hin1⟩ := hin
    obtain ⟨qm, nm⟩ := q
    simp only at hin0 hin1 hnm ⊢
    obtain ⟨m, rfl⟩ : ∃ m : Nat, qm = (m : Int) := ⟨qm.toNat, by omega⟩
    have hm : m < c.L.length := by omega
    have hm0 : ¬ ((m : Nat) : Int) < 0 := by omega
    have hm1 : ¬ ((c.L.length : Nat) : Int) ≤ ((m : Nat) : Int) := by omega
    have HROW : Hid (wA.ownsRow c.lo 114 3 (.slice av A.length cv) A.length (askC A)) := hA.w.row
    have HAA : Hid (RS c wA A (.slice av A.length cv)) := hA
    obtain ⟨res, hres⟩ : ∃ r, Xp.ask c.L c.n0 (stA A) ((m : Int), nm) = r := ⟨_, rfl⟩
    have HR : Hid (Xp.ask c.L c.n0 (stA A) ((m : Int), nm) = res) := hres
    rw [hres]
    have HwA : Hid (_ = wA) := hwA
    have HB : Hid (Below W.heap.size W wA ∧ wA.heap.size = W.heap.size + 1) := ⟨bA, sA⟩
    have HM0 : Hid _ := m0
    have HBK : Hid _ := hblk'
    have HN : Hid (un c.U (stA A) ≤ n) := hn
    clear hres hin0 hin1 sA hA hlA hn
    go_enter Tryz.func35, Tryz.ntmps35
    go_wp2
    go_loopw [7] (fun u7 wr => ∃ k : Nat, u7 = .int .i64 (k : Nat) ∧ k ≤ A.length ∧ wr = wA ∧ Hid (∀ j (hj : j < A.length), j < k → A[j].1 ≠ ((m : Int), nm))) (fun u7 _ => A.length - (intOf u7).toNat)
    case atStart => exact ⟨0, rfl, by omega, rfl, fun j _ h => absurd h (by omega)⟩
    case round =>
      obtain ⟨k, rfl, hkl, hwr, hH⟩ := hrel
      obtain rfl := hwr.symm
      by_cases hlt : k < A.length
      · obtain ⟨g, cap, e, hg, hcap⟩ := row_some HROW.out (by omega)
        obtain ⟨rfl, rfl⟩ : av = some ⟨g, 0, none⟩ ∧ cv = cap := by cases e; exact ⟨rfl, rfl⟩
        have hr := HROW.out
        have x0 := World.ownsRow.cellAt hr (k * 3 + 0) (by omega)
        have x1 := World.ownsRow.cellAt hr (k * 3 + 1) (by omega)
        have x2 := World.ownsRow.cellAt hr (k * 3 + 2) (by omega)
        rw [askC_at hlt (by omega)] at x0 x1 x2
        simp only [List.getElem?_cons_succ, List.getElem?_cons_zero, Nat.add_zero] at x0 x1 x2
        have HK : Hid (stA A A[k].1 = (if A[k].2 then 1 else 2) ∨ ∃ j, ∃ hj : j < A.length, j < k ∧ A[j].1 = A[k].1) := by
          by_cases hex : ∃ j, ∃ hj : j < A.length, j < k ∧ A[j].1 = A[k].1
          · exact Or.inr hex
          · exact Or.inl (stA_some hlt (fun j hj hjk e' => hex ⟨j, hj, hjk, e'⟩))
        have hki : ((k : Nat) : Int) < ((A.length : Nat) : Int) := by omega
        clear e hr
        have HS : Hid (A[k].1 ≠ ((m : Int), nm) → ∀ j (hj : j < A.length), j < k + 1 → A[j].1 ≠ ((m : Int), nm)) := fun hne j hj hjk => by
          by_cases e' : j = k
          · subst e'; exact hne
          · exact hH.out j hj (by omega)
        have HK1 : Hid (A[k].1 = ((m : Int), nm) → stA A ((m : Int), nm) = if A[k].2 then 1 else 2) := fun e' => by
          rcases HK.out with h1 | ⟨j, hj, hjk, h2⟩
          · rw [← e']; exact h1
          · exact absurd (h2.trans e') (hH.out j hj hjk)
        clear HK
        generalize A[k] = x at *
        obtain ⟨⟨xm, xn⟩, xo⟩ := x
        simp only at x0 x1 x2
        by_cases h1 : xm = (m : Int)
        · subst h1
          by_cases h2 : xn = nm
          · subst h2
            have h2' : (xn.toList == xn.toList) = true := by simp
            have hst := HK1.out rfl
            cases xo with
            | true =>
              have HRES : Hid (res = (⟨4, 0, ⟨#[]⟩, false⟩, stA A)) := by show _ = _; rw [← HR.out]; exact ask_open hnm (by simp) (by simpa using hm) hst
              clear hst hlA' 
              go_wp2
              refine bodyPost_ret (res_f4 Tryz.results35 (t4_set _ _ _ _ HM0.out) rfl) rfl ?_
              rw [HRES.out]
              exact ⟨rfl, HS4.out _ _ _ _⟩
            | false =>
              have HRES : Hid (res = (⟨0, 0, ⟨#[]⟩, false⟩, stA A)) := by show _ = _; rw [← HR.out]; exact ask_was hnm (by simp) (by simpa using hm) hst
              clear hst hlA'
              go_wp2
              refine bodyPost_ret (res_f4 Tryz.results35 (t4_set _ _ _ _ HM0.out) rfl) rfl ?_
              rw [HRES.out]
              exact ⟨rfl, HS4.out _ _ _ _⟩
          · have h2' : (xn.toList == nm.toList) = false := by rw [← beq_toListBytes, ba_eq]; exact decide_eq_false h2
            have HS' := HS.out (fun e' => h2 (by injection e'))
            go_wp2
            go_roundw
            case rel => exact ⟨k + 1, by simp, by omega, by first | rfl | trivial, HS'⟩
            case measure => simp [intOf]; omega
        · have h1' : (xm == (m : Int)) = false := by simp [h1]
          have HS' := HS.out (fun e' => h1 (by injection e'))
          go_wp2
          go_roundw
          case rel => exact ⟨k + 1, by simp, by omega, by first | rfl | trivial, HS'⟩
          case measure => simp [intOf]; omega
      · have hfr : ∀ x ∈ A, x.1 ≠ ((m : Int), nm) := fun x hx => by
          obtain ⟨j, hj, rfl⟩ := List.getElem_of_mem hx
          exact hH.out j hj (by omega)
        have hS : stA A ((m : Int), nm) = 0 := stA_none hfr
        have hqU : ((m : Int), nm) ∈ c.U := mem_uni (by simp) (by simpa using hm) hnm
        have hun := un_lt (le_set (stA A) ((m : Int), nm) (n := 1) (by decide)) hS (by rw [St.set_self]; decide) hqU
        obtain ⟨n', rfl⟩ : ∃ n', n = n' + 1 := ⟨n - 1, by have := HN.out; omega⟩
        have hans := ask_ans hnm (by simp) (by show c.L[((m : Nat) : Int).toNat]? = some c.L[m]; rw [show ((m : Nat) : Int).toNat = m from rfl, List.getElem?_eq_getElem hm]) hS
        have HN2 : Hid (un c.U (stA (A ++ [(((m : Int), nm), true)])) ≤ n') := by show _ ≤ _; rw [stA_push hS]; have := HN.out; omega
        have HRES : Hid (res = ((ansF c.L c.n0 c.L[m] (stA (A ++ [(((m : Int), nm), true)])) ((m : Int), nm)).1, (ansF c.L c.n0 c.L[m] (stA (A ++ [(((m : Int), nm), true)])) ((m : Int), nm)).2.set ((m : Int), nm) 2)) := by show _ = _; rw [← HR.out, hans, stA_push hS]
        have ho1 := World.ownsRow.alloc HROW.out (.cells #[.int .i64 (m : Nat), .string nm, .bool true] 114)
        have bZ : Below wA.heap.size wA (wA.alloc (.cells #[.int .i64 (m : Nat), .string nm, .bool true] 114)) := (Below.refl _ _).alloc (Nat.le_refl _) _
        have HP : Hid _ := fun (W3 : World) (g cap : Nat) r1 r2 r3 => RS.push (HAA.out.bel bZ) (W' := W3) (g := g) (cap := cap) (H := wA.heap.size + 1) hqU hfr (by simp) hk.l0 r1 r2 r3
        have HFX : Hid (Fx c.wk (.slice av A.length cv) W (wA.alloc (.cells #[.int .i64 (m : Nat), .string nm, .bool true] 114))) := Fx.bel (HB.out.1.trans (bZ.mono HB.out.1.size))
        have hlo : c.lo ≤ wA.heap.size := HAA.out.lo
        have hlA2 : A.length + 1 ≤ 274877906945 := by have := HAA.out.len; have := hk.hU; omega
        have caw : ∀ o, (wA.alloc o).cell? ⟨c.wk, 1, none⟩ = some (.slice av A.length cv) := fun o => (t2 ((HAA.out.bel ((Below.refl _ _).alloc (Nat.le_refl _) o)).w.blk)).1.2
        clear hans hun hH
        go_wp2_with (first
          | (at_builtin; refine wpList_append_lies _ (by rfl) _ _ _ (by rfl) c.lo 114 i0 _ 3 32 under_asks hi hz0 hz1 hz2 rfl (by omega) _ A.length (askC A) (by rfl) ho1 ⟨wA.heap.size, 0, none⟩ 1 1 [.int .i64 (m : Nat), .string nm, .bool true] (by rfl) (by rfl) (World.news_of_block (cs := #[.int .i64 (m : Nat), .string nm, .bool true]) (t := 114) (fr := (0, 0)) (heap_alloc_new wA _)) (by simp [Value.oneCell']) (by omega) (by unfold maxLen; omega) (by omega) (by simp; omega) (wA.heap.size + 1) (by simp) ?_; intro gg cap W3 r1 r2 r3 r4; obtain ⟨⟨⟨u4, x1⟩, x2⟩, x3, x4⟩ := HP.out W3 gg cap r1 r2 r3))
        go_at_call 59
        refine (answer_step hk (H n' rfl) x3 HN2.out hm nm hnm).mono ?_
        rintro ex W5 ⟨rfl, hX5⟩
        have fx := HFX.out.trans x4 (fun i hi => Or.inl hi)
        have hwl : c.wk < W.heap.size := HH.out.w.lt
        have hrl : ∀ i, (Value.slice av A.length cv).ownBlock = some i → i < W.heap.size := fun i hi => (World.ownsRow.lt HH.out.w.row i hi).2
        have f5 : ∀ i, (Value.slice (some ⟨gg, 0, none⟩) (A.length + 1) cap).ownBlock = some i → (Value.slice av A.length cv).ownBlock = some i ∨ W.heap.size ≤ i := fun i hi => by
          cases hi
          rcases r3 with e' | e'
          · exact Or.inl e'
          · exact Or.inr (by have := HB.out.2; show W.heap.size ≤ gg; omega)
        have hgg : (Value.slice (some ⟨gg, 0, none⟩) (A.length + 1) cap).ownBlock ≠ some W.heap.size := fun e' => by
          have e2 : gg = W.heap.size := by cases e'; rfl
          rcases r3 with e3 | e3
          · have := hrl _ e3; omega
          · have := HB.out.2; omega
        have q4 := (x4.block W.heap.size (by have := HB.out.2; simp; omega) (by omega) (fun e' => by have := hrl _ e'; omega)).trans ((Below.heap_alloc wA _ _ (by have := HB.out.2; omega)).trans HM0.out)
        have q5 : W5.heap[W.heap.size]? = some (.cells #[.int .i64 0, .int .i64 0, .string ⟨#[]⟩, .bool false] 41 (0, 0)) := by
          obtain ⟨B, vb, t1, t2', t3', t4', t5⟩ := hX5
          exact (t4'.block _ (Array.getElem?_eq_some_iff.1 q4).1 (by omega) hgg).trans q4
        generalize ansF c.L c.n0 c.L[m] (stA (A ++ [(((m : Int), nm), true)])) ((m : Int), nm) = r at *
        obtain ⟨f, S2⟩ := r
        simp only at hX5 HRES
        have hX6 := hX5.bel' ((Below.refl _ _).alloc (Nat.le_refl _) (.cells #[.int .i64 f.k, .int .i64 f.mod, .string f.name, .bool f.ty] 41))
        have q6 := (Below.heap_alloc W5 (.cells #[.int .i64 f.k, .int .i64 f.mod, .string f.name, .bool f.ty] 41) _ (Array.getElem?_eq_some_iff.1 q5).1).trans q5
        have p6 := heap_alloc_new W5 (.cells #[.int .i64 f.k, .int .i64 f.mod, .string f.name, .bool f.ty] 41)
        obtain ⟨W6, hW6⟩ : ∃ X, W5.alloc (.cells #[.int .i64 f.k, .int .i64 f.mod, .string f.name, .bool f.ty] 41) = X := ⟨_, rfl⟩
        rw [hW6] at hX6 q6 p6
        obtain ⟨g5, n5, cap5, y1, y2, y3, y4, y5, y6, y7⟩ := RA.close hk HH.out fx f5 hfr hX6
        have hg1 : W.heap.size ≠ g5 := y7 _ (Array.getElem?_eq_some_iff.1 q6).1 ⟨_, _, q6, by decide⟩
        have hg2 : W5.heap.size ≠ g5 := y7 _ (Array.getElem?_eq_some_iff.1 p6).1 ⟨_, _, p6, by decide⟩
        have q7 := (Below.heap_setCell W6 ⟨g5, A.length * 3 + 2, none⟩ (.bool false) W.heap.size hg1).trans q6
        have p7 := (Below.heap_setCell W6 ⟨g5, A.length * 3 + 2, none⟩ (.bool false) W5.heap.size hg2).trans p6
        obtain ⟨W7, hW7⟩ : ∃ X, W6.setCell ⟨g5, A.length * 3 + 2, none⟩ (.bool false) = X := ⟨_, rfl⟩
        rw [hW7] at q7 p7 y6
        have hy2 : ((A.length : Nat) : Int) < ((n5 : Nat) : Int) := by omega
        have HF : Hid (∀ p q x y, RA c W ((((W7.setCell ⟨W.heap.size, 0, none⟩ p).setCell ⟨W.heap.size, 1, none⟩ q).setCell ⟨W.heap.size, 2, none⟩ x).setCell ⟨W.heap.size, 3, none⟩ y) A (.slice av A.length cv) (S2.set ((m : Int), nm) 2)) := fun p q x y => RA.set4 HH.out y6 (Nat.le_refl _) q7 p q x y
        obtain ⟨⟨_, _⟩, _, _⟩ := t2 y1
        obtain ⟨⟨_, _, _, _⟩, _, _, _, _⟩ := t4 p7
        obtain ⟨⟨_, _, _, _⟩, _, _, _, _⟩ := t4 q7
        clear hlA2 hlA' y3 ho1 hX5 hX6 x3 x4 fx f5 hgg y7
        go_wp2
        refine bodyPost_ret (res_f4 Tryz.results35 (t4_set _ _ _ _ q7) rfl) rfl ?_
        rw [HRES.out]
        exact ⟨rfl, HF.out _ _ _ _⟩
theorem ask_ref {c : RC} (hk : c.ok) : ∀ n, AskC c n
  | 0 => ask_step hk (fun m h => by omega)
  | n + 1 => ask_step hk (fun m h => by obtain rfl : n = m := (by omega); exact ask_ref hk n)
end Go.Proofs.YtadkmlcnmkdfiaaGreatDoor
