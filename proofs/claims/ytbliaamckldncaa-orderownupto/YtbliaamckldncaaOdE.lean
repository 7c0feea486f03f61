/- Own text. OrderEdges, given what the program's functions answer. -/
import Derived.Test.YtbliaamckldncaaOdG
namespace Go.Proofs.Ytbliaamckldncaa
open Go.RowKit Gph
set_option linter.unusedVariables false
set_option linter.unusedSimpArgs false

/-- what Edges tells of a module, of a graph. -/
def edg (t : Bool) (l : List Rq) : List Int := (l.filter fun q => t || !q.b).map (·.n)
def edgL (t : Bool) (M : List (List Rq)) : List (List Int) := M.map (edg t)
theorem edg_len (t : Bool) (l : List Rq) : (edg t l).length ≤ l.length := by unfold edg; rw [List.length_map]; exact List.length_filter_le _ _
theorem edg_succ {t : Bool} {l : List Rq} {k : Nat} (h : k < l.length) : edg t (l.take (k + 1)) = edg t (l.take k) ++ (if (t || !l[k].b) = true then [l[k].n] else []) := by
  unfold edg
  rw [List.take_succ_eq_append_getElem h, List.filter_append, List.map_append]
  congr 1
  by_cases q : (t || !l[k].b) = true
  · rw [if_pos q]; simp [q]
  · rw [if_neg q]; simp [q]
theorem Ti.add {w : World} {base : Nat} {v : Value} {O : List Int} {x : Int} (h : w.ownsRow base 3 1 v (O.length + 1) (ints O ++ [.int .i64 x])) : Ti w base v (O ++ [x]) := by
  unfold Ti
  rw [List.length_append]
  simpa [ints] using h
def PrgE : Prop := ∀ (w : World) (u : Value) (M : List (List Rq)) (t : Bool), GrAt w w.heap.size u M → M.length ≤ 1048576 → (∀ l ∈ M, l.length ≤ 1048576) → Calls Try.prog 18 #[.agg #[u], .bool t] w fun e w' => ∃ vo, e = .returned vo ∧ EAt w' w'.heap.size vo (edgL t M) ∧ Below w.heap.size w w'
set_option maxRecDepth 100000 in
set_option maxHeartbeats 8000000 in
theorem edges_walk (H : Prg) (HE : PrgE) (u : Value) (M : List (List Rq)) (t : Bool) (w : World) (hz : M.length ≤ 1048576 ∧ ∀ l ∈ M, l.length ≤ 1048576) (f0 : GrAt w w.heap.size u M) :
    Calls Try.prog 5 #[.agg #[u], .bool t] w fun e w' => e = .returned (.bool true) ∧ Below w.heap.size w w' := by
  obtain ⟨hl, hk⟩ := hz
  obtain ⟨i0, hi, hz0, hz1, hz2⟩ := info_parts info_int
  obtain ⟨ad, c, rfl⟩ := f0.op
  go_enter Try.func5, Try.ntmps5
  go_wp2_with fail
  obtain ⟨W0, hW0⟩ : ∃ W, w.alloc (Obj.cells #[Value.slice ad M.length c] 36) = W := ⟨_, rfl⟩
  have b0 : Below w.heap.size w W0 := by rw [← hW0]; exact (Below.refl _ _).alloc (Nat.le_refl _) _
  have g0 : W0.cell? ⟨w.heap.size, 0, none⟩ = some (.slice ad M.length c) := by rw [← hW0, cell_of_row _ _ 0 _ _ (0, 0) (heap_alloc_new w _)]; rfl
  have s0 : w.heap.size < W0.heap.size := by rw [← hW0]; simp
  rw [hW0]
  clear hW0
  go_at_call 18
  refine (HE W0 _ M t ((f0.bel b0).mono (by omega)) hl hk).mono ?_
  rintro e W1 ⟨v1, rfl, E1, b1⟩
  obtain ⟨a1, c1, e1⟩ := E1.op
  have hel : (edgL t M).length = M.length := by simp [edgL]
  rw [hel] at e1
  subst e1
  have z1 := b1.size
  have g1 := (b1.cell (p := ⟨w.heap.size, 0, none⟩) s0).trans g0
  go_wp2_with fail
  go_at_call 14
  refine (awake_any H W1).mono ?_
  rintro e W2 ⟨rfl, b2⟩
  have z2 := b2.size
  have g2 := (b2.cell (p := ⟨w.heap.size, 0, none⟩) (show w.heap.size < W1.heap.size by omega)).trans g1
  have B2 := (b0.trans (b1.mono (by omega))).trans (b2.mono (show w.heap.size ≤ W1.heap.size by omega))
  have HB : Hid (Below w.heap.size w W2) := B2
  have F2 := f0.bel B2
  have E2 := (E1.bel b2).mono z2
  have HG : Hid (∀ W, Below W2.heap.size W2 W → W.cell? ⟨w.heap.size, 0, none⟩ = some (.slice ad M.length c)) := fun W b => (b.cell (p := ⟨w.heap.size, 0, none⟩) (show w.heap.size < W2.heap.size by omega)).trans g2
  have HME : Hid (∀ i (h : i < M.length), (edgL t M)[i]'(by rw [hel]; exact h) = edg t M[i]) := fun i h => by simp [edgL]
  clear E1 b0 b1 b2 g0 g1 f0 B2
  go_wp2
  go_loopw [6] (fun iv wr => ∃ i : Nat, iv = .int .i64 (i : Nat) ∧ i ≤ M.length ∧ Below W2.heap.size W2 wr) (fun iv _ => M.length - (intOf iv).toNat)
  case atStart => exact ⟨0, rfl, by omega, Below.refl _ _⟩
  case round =>
    obtain ⟨i, rfl, hil, bel⟩ := hrel
    have q0 := HG.out _ bel
    by_cases hit : i < M.length
    · obtain ⟨b, o, c', f, e, hb, hf⟩ := F2.cl (by omega)
      obtain ⟨rfl, rfl⟩ : ad = some ⟨b, o, none⟩ ∧ c = c' := by cases e; exact ⟨rfl, rfl⟩
      obtain ⟨be, oe, ce, fe, e', hbe, hfe⟩ := E2.cl (by rw [hel]; omega)
      rw [hel] at e'
      obtain ⟨rfl, rfl⟩ : a1 = some ⟨be, oe, none⟩ ∧ c1 = ce := by cases e'; exact ⟨rfl, rfl⟩
      obtain ⟨f1, f2⟩ := hf i hit
      obtain ⟨h1, h2⟩ := hfe i (by rw [hel]; exact hit)
      rw [HME.out i hit] at h2
      have hlk := hk M[i] (List.getElem_mem hit)
      clear e e' hf hfe
      generalize M[i] = l at *
      obtain ⟨⟨al, cl', el⟩, hcl⟩ := reqs_cl f2
      rw [el] at f1 f2 hcl
      have HF : Hid (∀ W, Below W2.heap.size W2 W → W.cell? ⟨b, o + i * 6 + 5, none⟩ = some (.slice al l.length cl')) := fun W bW => (World.cell?_of_block (a := ⟨b, o + i * 6 + 5, none⟩) (bW.block b (by omega))).trans f1
      have HR : Hid (∀ W, Below W2.heap.size W2 W → ∀ k (h : k < l.length), ∃ b' o', al = some ⟨b', o', none⟩ ∧ (W.cell? ⟨b', o' + k * 4, none⟩ = some (.string l[k].t) ∧ W.cell? ⟨b', o' + k * 4 + 1, none⟩ = some (.bool l[k].b)) ∧ W.cell? ⟨b', o' + k * 4 + 2, none⟩ = some (.int .i64 l[k].i) ∧ W.cell? ⟨b', o' + k * 4 + 3, none⟩ = some (.int .i64 l[k].n)) := fun W bW k hk => by
        obtain ⟨b', o', c2, e2, hb', hc'⟩ := hcl (by omega)
        cases e2
        have hbb := bW.block b' (by omega)
        obtain ⟨⟨r1, r2⟩, r3, r4⟩ := hc' k hk
        exact ⟨b', o', rfl, ⟨(World.cell?_of_block (a := ⟨b', _, none⟩) hbb).trans r1, (World.cell?_of_block (a := ⟨b', _, none⟩) hbb).trans r2⟩, (World.cell?_of_block (a := ⟨b', _, none⟩) hbb).trans r3, (World.cell?_of_block (a := ⟨b', _, none⟩) hbb).trans r4⟩
      have HE1 : Hid (∀ W, Below W2.heap.size W2 W → W.cell? ⟨be, oe + i, none⟩ = some (fe i) ∧ IAt W W2.heap.size (fe i) (edg t l)) := fun W bW => ⟨(World.cell?_of_block (a := ⟨be, oe + i, none⟩) (bW.block be hbe)).trans h1, h2.bel bW⟩
      have hgl := edg_len t l
      clear hcl f1 f2 h1 h2 el F2 E2
      go_wp2
      go_loopw [7, 8] (fun wv kv wq => ∃ k : Nat, kv = .int .i64 (k : Nat) ∧ k ≤ l.length ∧ Below W2.heap.size W2 wq ∧ Ti wq W2.heap.size wv (edg t (l.take k))) (fun _ kv _ => l.length - (intOf kv).toNat)
      case atStart => exact ⟨0, rfl, by omega, bel, by simpa [edg, Ti, ints] using World.ownsRow_nil _ _ _ _⟩
      case round =>
        clear bel q0
        obtain ⟨k, rfl, hkl, bel, hT⟩ := hrel
        have q0 := HG.out _ bel
        have q1 := HF.out _ bel
        by_cases hkt : k < l.length
        · obtain ⟨b', o', rfl, ⟨r1, r2⟩, r3, r4⟩ := HR.out _ bel k hkt
          have HS : Hid (edg t (l.take (k + 1)) = edg t (l.take k) ++ (if (t || !l[k].b) = true then [l[k].n] else [])) := edg_succ hkt
          have hsz := bel.size
          have hel2 := edg_len t (l.take k)
          have hel3 : (l.take k).length ≤ k := by simp; omega
          generalize l[k] = q at *
          cases ht : (t || !q.b) with
          | true =>
            rw [ht, if_pos rfl] at HS
            cases t with
            | true =>
              go_wp2_with (at_builtin; refine wpList_append_own _ rfl _ _ 31 rfl W2.heap.size 3 i0 (.int .i64 0) 1 8 Try.underlying31 hi hz0 hz1 hz2 rfl (by decide) _ _ _ rfl (World.ownsRow.alloc (World.ownsRow.alloc hT _) _) ⟨wr.heap.size + 1, 0, none⟩ 1 1 [.int .i64 q.n] rfl rfl (World.news_of_block (cs := #[.int .i64 q.n]) (t := 3) (fr := (0, 0)) (hnew _ (by simp))) (fun x hx => by simp at hx; subst hx; rfl) (by unfold maxLen; omega) (by omega) (by simp; omega) ?_; intro v3 W3 ho3 hg3 hn3)
              have hne : ∀ j, u7.ownBlock = some j → W2.heap.size ≤ j := fun j hj => (World.ownsRow.lt hT j hj).1
              go_roundw
              case rel => exact ⟨k + 1, by simp, by omega, ((bel.alloc (by omega) _).alloc (by simp; omega) _).grown hg3 (by simp; omega) (fun j hj => hne j hj), by rw [HS.out]; exact Ti.add ho3⟩
              case measure => simp [intOf]; omega
            | false =>
              have hqb : q.b = false := by simpa using ht
              rw [hqb] at r2
              clear hqb ht
              go_wp2_with (at_builtin; refine wpList_append_own _ rfl _ _ 31 rfl W2.heap.size 3 i0 (.int .i64 0) 1 8 Try.underlying31 hi hz0 hz1 hz2 rfl (by decide) _ _ _ rfl (World.ownsRow.alloc (World.ownsRow.alloc hT _) _) ⟨wr.heap.size + 1, 0, none⟩ 1 1 [.int .i64 q.n] rfl rfl (World.news_of_block (cs := #[.int .i64 q.n]) (t := 3) (fr := (0, 0)) (hnew _ (by simp))) (fun x hx => by simp at hx; subst hx; rfl) (by unfold maxLen; omega) (by omega) (by simp; omega) ?_; intro v3 W3 ho3 hg3 hn3)
              have hne : ∀ j, u7.ownBlock = some j → W2.heap.size ≤ j := fun j hj => (World.ownsRow.lt hT j hj).1
              go_roundw
              case rel => exact ⟨k + 1, by simp, by omega, ((bel.alloc (by omega) _).alloc (by simp; omega) _).grown hg3 (by simp; omega) (fun j hj => hne j hj), by rw [HS.out]; exact Ti.add ho3⟩
              case measure => simp [intOf]; omega
          | false =>
            rw [ht, if_neg (by decide), List.append_nil] at HS
            obtain ⟨rfl, hqb⟩ : t = false ∧ q.b = true := by cases t <;> simp_all
            rw [hqb] at r2
            go_wp2
            go_roundw
            case rel => exact ⟨k + 1, by simp, by omega, bel.alloc (by omega) _, by rw [HS.out]; exact World.ownsRow.alloc hT _⟩
            case measure => simp [intOf]; omega
        · have e : l.take k = l := List.take_of_length_le (by omega)
          rw [e] at hT
          obtain ⟨h1, h2⟩ := HE1.out _ bel
          have zr := bel.size
          have C := rsame_any (h2.mono zr) (vat_row hT) (Nat.le_refl _) (by omega) (by omega)
          rw [sameI_self] at C
          have HC : Hid _ := C
          clear C e
          go_wp2_with fail
          go_at_call 15
          refine (Calls.mono HC.out) ?_
          rintro e W4 ⟨rfl, b4⟩
          go_wp2
          go_roundw
          case rel => exact ⟨i + 1, by simp, by omega, bel.trans (b4.mono zr)⟩
          case measure => simp [intOf]; omega
    · go_wp2
      go_ret
      exact ⟨rfl, HB.out.trans (bel.mono (show w.heap.size ≤ W2.heap.size by omega))⟩
end Go.Proofs.Ytbliaamckldncaa
