/- Own text. The program's Edges. -/
import Derived.Test.YtbliaamckldncaaOdE
import Derived.Test.YtbliaamckldncaaOdQ2
namespace Go.Proofs.Ytbliaamckldncaa
open Go.RowKit Gph
set_option linter.unusedVariables false
set_option linter.unusedSimpArgs false

/-- lists of numbers, each in a block of its own, from block lo on. -/
structure PPb (w : World) (lo : Nat) (vo : Value) (P : List (List Int)) (cs : List Value) : Prop where
  row : w.ownsRow lo 31 1 vo P.length cs
  tl : ∀ j (h : j < P.length), ∃ u, cs[j]? = some u ∧ Ti w lo u P[j]
  no : ∀ (j : Nat) u b, cs[j]? = some u → u.ownBlock = some b → vo.ownBlock ≠ some b
  ap : ∀ (i j : Nat) u u' b, i ≠ j → cs[i]? = some u → cs[j]? = some u' → u.ownBlock = some b → u'.ownBlock ≠ some b
theorem PPb.cl {w : World} {lo : Nat} {vo : Value} {P : List (List Int)} {cs : List Value} (h : PPb w lo vo P cs) : cs.length = P.length := by have := h.row.1; omega
theorem PPb.keep {w w' : World} {lo : Nat} {vo : Value} {P : List (List Int)} {cs : List Value} (h : PPb w lo vo P cs) (k : ∀ b, lo ≤ b → b < w.heap.size → w'.heap[b]? = w.heap[b]?) : PPb w' lo vo P cs :=
  ⟨row_keep h.row fun b hb => k b (World.ownsRow.lt h.row b hb).1 (World.ownsRow.lt h.row b hb).2, fun j hj => by
    obtain ⟨u, q1, q2⟩ := h.tl j hj
    exact ⟨u, q1, row_keep q2 fun b hb => k b (World.ownsRow.lt q2 b hb).1 (World.ownsRow.lt q2 b hb).2⟩, h.no, h.ap⟩
theorem PPb.bel {w w' : World} {lo : Nat} {vo : Value} {P : List (List Int)} {cs : List Value} (h : PPb w lo vo P cs) (k : Below w.heap.size w w') : PPb w' lo vo P cs := h.keep fun b _ hb => k.block b hb
theorem PPb.base {w : World} {lo lo' : Nat} {vo : Value} {P : List (List Int)} {cs : List Value} (h : PPb w lo vo P cs) (k : lo' ≤ lo) : PPb w lo' vo P cs :=
  ⟨row_base h.row k, fun j hj => by obtain ⟨u, q1, q2⟩ := h.tl j hj; exact ⟨u, q1, row_base q2 k⟩, h.no, h.ap⟩
/-- one more number in one of the lists. -/
theorem PPb.put {w w' : World} {lo g n cap gg cc H j : Nat} {x : Int} {P : List (List Int)} {cs : List Value} {u : Value} (h : PPb w lo (.slice (some ⟨g, 0, none⟩) n cap) P cs) (hj : j < P.length) (hu : cs[j]? = some u) (hH : w.heap.size = H)
    (ho : w'.ownsRow lo 3 1 (.slice (some ⟨gg, 0, none⟩) (P[j].length + 1) cc) (P[j].length + 1) (ints P[j] ++ [.int .i64 x])) (hg : w.grownBy w' u.ownBlock) (ha : u.ownBlock = some gg ∨ gg = H) (hl : gg < w'.heap.size) :
    PPb (w'.setCell ⟨g, j, none⟩ (.slice (some ⟨gg, 0, none⟩) (P[j].length + 1) cc)) lo (.slice (some ⟨g, 0, none⟩) n cap) (P.set j (P[j] ++ [x])) (cs.set j (.slice (some ⟨gg, 0, none⟩) (P[j].length + 1) cc)) := by
  have hcl := h.cl
  have hgl := World.ownsRow.lt h.row g rfl
  have hne : some g ≠ u.ownBlock := fun e => h.no j u g hu e.symm rfl
  have hgg : gg ≠ g := by
    rcases ha with ha | ha
    · intro e; subst e; exact hne ha.symm
    · omega
  obtain ⟨n', hn'⟩ : ∃ n', n' = P.length := ⟨_, rfl⟩
  have hnP : n = P.length := by
    rcases h.row.2 with ⟨e, _⟩ | ⟨_, _, _, e, _⟩
    · cases e
    · cases e; rfl
  subst hnP
  have hrow' : w'.ownsRow lo 31 1 (.slice (some ⟨g, 0, none⟩) P.length cap) P.length cs := World.ownsRow.kept h.row hg (Or.inr hne)
  have hst := (World.ownsRow.stored hrow' j (.slice (some ⟨gg, 0, none⟩) (P[j].length + 1) cc)).1
  have oth : ∀ i v b, i ≠ j → cs[i]? = some v → v.ownBlock = some b → b ≠ g ∧ some b ≠ u.ownBlock ∧ b ≠ gg := fun i v b hij hv hb => by
    have a1 : b ≠ g := fun e => by subst e; exact h.no i v b hv hb rfl
    have a2 : some b ≠ u.ownBlock := fun e => h.ap i j v u b hij hv hu hb e.symm
    refine ⟨a1, a2, fun e => ?_⟩
    subst e
    rcases ha with ha | ha
    · exact a2 ha.symm
    · have hi : i < P.length := by rw [← hcl]; exact (List.getElem?_eq_some_iff.1 hv).1
      obtain ⟨v', q1, q2⟩ := h.tl i hi
      rw [hv] at q1
      cases q1
      have := (World.ownsRow.lt q2 b hb).2
      omega
  refine ⟨by rw [List.length_set]; exact hst, fun i hi => ?_, fun i v b hv hb => ?_, fun i i' v v' b hii hv hv' hb => ?_⟩
  · rw [List.length_set] at hi
    by_cases e : j = i
    · subst e
      refine ⟨_, List.getElem?_set_self (by omega), ?_⟩
      rw [List.getElem_set_self]
      exact row_keep (Ti.add ho) fun b hb => heap_set_ne (by cases hb; exact hgg)
    · obtain ⟨v, q1, q2⟩ := h.tl i hi
      refine ⟨v, by rw [List.getElem?_set_ne e]; exact q1, ?_⟩
      rw [List.getElem_set_ne e]
      refine row_keep (row_keep q2 fun b hb => hg.block b (World.ownsRow.lt q2 b hb).2 (oth i v b (fun k => e k.symm) q1 hb).2.1) fun b hb => heap_set_ne (oth i v b (fun k => e k.symm) q1 hb).1
  · by_cases e : j = i
    · subst e
      rw [List.getElem?_set_self (by omega)] at hv
      cases hv
      cases hb
      exact fun k => by cases k; exact hgg rfl
    · rw [List.getElem?_set_ne e] at hv
      exact h.no i v b hv hb
  · by_cases e : j = i
    · subst e
      rw [List.getElem?_set_self (by omega)] at hv
      rw [List.getElem?_set_ne hii] at hv'
      cases hv
      cases hb
      exact fun k => (oth i' v' gg (fun z => hii z.symm) hv' k).2.2 rfl
    · rw [List.getElem?_set_ne e] at hv
      by_cases e' : j = i'
      · subst e'
        rw [List.getElem?_set_self (by omega)] at hv'
        cases hv'
        intro k
        have k' : gg = b := by cases k; rfl
        exact (oth i v b hii hv hb).2.2 k'.symm
      · rw [List.getElem?_set_ne e'] at hv'
        exact h.ap i i' v v' b hii hv hv' hb
theorem PPb.made {w : World} {lo n : Nat} (hb : lo ≤ w.heap.size) (hn : n ≤ 4194304) : PPb (w.alloc (.cells (nil1 n) 31)) lo (.slice (some ⟨w.heap.size, 0, none⟩) n n) (List.replicate n []) (List.replicate n (.slice none 0 0)) := by
  have h := World.ownsRow_lit (base := lo) (e := 31) (size := 1) w (nil1 n) n hb (by unfold maxLen; omega) (by unfold nil1; rw [size_madeCells]; omega)
  have e : (nil1 n).toList = List.replicate n (.slice none 0 0) := toList_madeCells_one _ _
  rw [e] at h
  have hc : ∀ (j : Nat) u, (List.replicate n (Value.slice none 0 0))[j]? = some u → u = .slice none 0 0 := fun j u hu => by
    rw [List.getElem?_replicate] at hu
    split at hu
    · cases hu; rfl
    · cases hu
  refine ⟨by rw [List.length_replicate]; exact h, fun j hj => ⟨.slice none 0 0, ?_, ?_⟩, fun j u b hu hb => ?_, fun i j u u' b hij hu hu' hb => ?_⟩
  · rw [List.getElem?_replicate, if_pos (by simpa using hj)]
  · rw [List.getElem_replicate]; exact World.ownsRow_nil _ _ _ _
  · rw [hc j u hu] at hb; cases hb
  · rw [hc i u hu] at hb; cases hb
theorem PPb.at {w : World} {lo g n cap : Nat} {P : List (List Int)} {cs : List Value} (h : PPb w lo (.slice (some ⟨g, 0, none⟩) n cap) P cs) {j : Nat} (hj : j < P.length) : ∃ u, cs[j]? = some u ∧ w.cell? ⟨g, j, none⟩ = some u ∧ w.frozen? ⟨g, j, none⟩ = false ∧ Ti w lo u P[j] := by
  have hnP : n = P.length := by
    rcases h.row.2 with ⟨e, _⟩ | ⟨_, _, _, e, _⟩
    · cases e
    · cases e; rfl
  subst hnP
  obtain ⟨u, q1, q2⟩ := h.tl j hj
  exact ⟨u, q1, by rw [World.ownsRow.cellAt h.row j (by omega)]; exact q1, World.ownsRow.frozenAt h.row j, q2⟩
theorem PPb.eat {w : World} {lo : Nat} {vo : Value} {P : List (List Int)} {cs : List Value} (h : PPb w lo vo P cs) : EAt w w.heap.size vo P := by
  have hcs := h.cl
  refine ⟨cs, hcs, vat_row h.row, fun i hi hi' => ?_⟩
  obtain ⟨u, q1, q2⟩ := h.tl i hi
  rw [List.getElem?_eq_getElem hi'] at q1
  injection q1 with q1
  rw [q1]
  exact vat_row q2
/-- what was told so far: k modules whole, and m requests of the next. -/
def edS (t : Bool) (M : List (List Rq)) (k m : Nat) : List (List Int) := (List.range M.length).map fun i => if i < k then edg t ((M[i]?).getD []) else if i = k then edg t (((M[i]?).getD []).take m) else []
theorem edS_len (t : Bool) (M : List (List Rq)) (k m : Nat) : (edS t M k m).length = M.length := by simp [edS]
theorem edS_at {t : Bool} {M : List (List Rq)} {k m : Nat} (h : k < M.length) : (edS t M k m)[k]'(by rw [edS_len]; exact h) = edg t (M[k].take m) := by simp [edS, h]
theorem edS_start (t : Bool) (M : List (List Rq)) : edS t M 0 0 = List.replicate M.length [] := by
  unfold edS
  refine List.ext_getElem (by simp) fun i h1 h2 => ?_
  simp [edg]
theorem edS_step {t : Bool} {M : List (List Rq)} {k m : Nat} (h : k < M.length) (hm : m < M[k].length) (q : (t || !M[k][m].b) = true) : edS t M k (m + 1) = (edS t M k m).set k ((edS t M k m)[k]'(by rw [edS_len]; exact h) ++ [M[k][m].n]) := by
  rw [edS_at h]
  refine List.ext_getElem (by simp [edS]) fun i h1 h2 => ?_
  rw [List.getElem_set]
  by_cases e : k = i
  · subst e
    rw [if_pos rfl, edS_at h, edg_succ hm, if_pos q]
  · rw [if_neg e]
    simp only [edS, List.getElem_map, List.getElem_range]
    by_cases e2 : i < k
    · rw [if_pos e2, if_pos e2]
    · rw [if_neg e2, if_neg e2, if_neg (fun z => e z.symm), if_neg (fun z => e z.symm)]
theorem edS_skip {t : Bool} {M : List (List Rq)} {k m : Nat} (h : k < M.length) (hm : m < M[k].length) (q : ¬ (t || !M[k][m].b) = true) : edS t M k (m + 1) = edS t M k m := by
  refine List.ext_getElem (by simp [edS]) fun i h1 h2 => ?_
  by_cases e : k = i
  · subst e
    rw [edS_at h, edS_at h, edg_succ hm, if_neg q, List.append_nil]
  · simp only [edS, List.getElem_map, List.getElem_range]
    by_cases e2 : i < k
    · rw [if_pos e2, if_pos e2]
    · rw [if_neg e2, if_neg e2, if_neg (fun z => e z.symm), if_neg (fun z => e z.symm)]
theorem edS_row {t : Bool} {M : List (List Rq)} {k m : Nat} (h : k < M.length) (hm : M[k].length ≤ m) : edS t M (k + 1) 0 = edS t M k m := by
  unfold edS
  refine List.map_congr_left fun i hi => ?_
  by_cases e : i < k
  · rw [if_pos (by omega), if_pos e]
  · by_cases e2 : i = k
    · subst e2
      rw [if_pos (by omega), if_neg (by omega), if_pos rfl, List.getElem?_eq_getElem h, Option.getD_some, List.take_of_length_le hm]
    · rw [if_neg (by omega), if_neg e, if_neg e2]
      split
      · simp [edg]
      · rfl
theorem edS_end {t : Bool} {M : List (List Rq)} {k : Nat} (h : M.length ≤ k) : edS t M k 0 = edgL t M := by
  unfold edS edgL
  refine List.ext_getElem (by simp) fun i h1 h2 => ?_
  have hi : i < M.length := by simpa using h1
  simp only [List.getElem_map, List.getElem_range]
  rw [if_pos (by omega), List.getElem?_eq_getElem hi, Option.getD_some]
set_option maxRecDepth 100000 in
set_option maxHeartbeats 4000000 in
theorem prgE : PrgE := by
  intro w u M t hG hl hk
  obtain ⟨i0, hi, hz0, hz1, hz2⟩ := info_parts info_int
  obtain ⟨ad, c, rfl⟩ := hG.op
  have hmk := fun W => make_is M.length (by omega) W
  have p0 := PPb.made (w := w.alloc (.cells #[.slice ad M.length c] 36)) (lo := w.heap.size + 1) (n := M.length) (by simp) (by omega)
  rw [← edS_start t M] at p0
  have ez : (w.alloc (.cells #[.slice ad M.length c] 36)).heap.size = w.heap.size + 1 := by simp
  rw [ez] at p0
  have b0 := ((Below.refl w.heap.size w).alloc (Nat.le_refl _) (.cells #[.slice ad M.length c] 36)).alloc (by rw [ez]; omega) (.cells (nil1 M.length) 31)
  have HG : Hid (GrAt w w.heap.size (.slice ad M.length c) M) := hG
  clear hG ez
  go_enter Try.func18, Try.ntmps18
  go_wp2
  obtain ⟨W0, hW0⟩ : ∃ W, (w.alloc (.cells #[.slice ad M.length c] 36)).alloc (.cells (nil1 M.length) 31) = W := ⟨_, rfl⟩
  rw [hW0] at p0 b0 ⊢
  clear hW0 hmk
  go_loopw [6, 7, 9, 17] (fun _ _ _ kv wr => ∃ (k : Nat) (cs : List Value), kv = .int .i64 (k : Nat) ∧ k ≤ M.length ∧ Below w.heap.size w wr ∧ PPb wr (w.heap.size + 1) (.slice (some ⟨w.heap.size + 1, 0, none⟩) M.length M.length) (edS t M k 0) cs) (fun _ _ _ kv _ => M.length - (intOf kv).toNat)
  case atStart => exact ⟨0, _, rfl, by omega, b0, p0⟩
  case round =>
    clear p0 b0
    obtain ⟨k, cs, rfl, hkn, bel, hP⟩ := hrel
    by_cases hlt : k < M.length
    · obtain ⟨b, o, c', q, e, hb, ⟨c0, c1, c2, c3, c4, c5⟩, hR⟩ := (HG.out.bel bel).cl6 hlt
      obtain ⟨rfl, rfl⟩ : ad = some ⟨b, o, none⟩ ∧ c = c' := by cases e; exact ⟨rfl, rfl⟩
      clear e
      obtain ⟨⟨ad', c'', hu⟩, hcl⟩ := reqs_cl hR
      rw [hu] at c5 hcl
      have hkk := hk M[k] (List.getElem_mem hlt)
      have hsz := bel.size
      have HC : Hid (∀ W, Below w.heap.size w W → ∀ m (h : m < M[k].length), ∃ b o, ad' = some ⟨b, o, none⟩ ∧ (W.cell? ⟨b, o + m * 4, none⟩ = some (.string M[k][m].t) ∧ W.cell? ⟨b, o + m * 4 + 1, none⟩ = some (.bool M[k][m].b)) ∧ W.cell? ⟨b, o + m * 4 + 2, none⟩ = some (.int .i64 M[k][m].i) ∧ W.cell? ⟨b, o + m * 4 + 3, none⟩ = some (.int .i64 M[k][m].n)) := fun W bW m hm => by
        obtain ⟨b1, o1, c1, e1, hb1, hc1⟩ := hcl (by omega)
        cases e1
        have hblk : W.heap[b1]? = wr.heap[b1]? := (bW.block b1 hb1).trans (bel.block b1 hb1).symm
        obtain ⟨⟨r0, r1⟩, r2, r3⟩ := hc1 m hm
        exact ⟨b1, o1, rfl, ⟨(World.cell?_of_block (a := ⟨b1, o1 + m * 4, none⟩) hblk).trans r0, (World.cell?_of_block (a := ⟨b1, o1 + m * 4 + 1, none⟩) hblk).trans r1⟩, (World.cell?_of_block (a := ⟨b1, o1 + m * 4 + 2, none⟩) hblk).trans r2, (World.cell?_of_block (a := ⟨b1, o1 + m * 4 + 3, none⟩) hblk).trans r3⟩
      have p1 : PPb (wr.alloc (.cells #[.string q.p, .int .i64 q.k, .string q.s, .int .i64 q.n, .slice q.a q.l q.c, .slice ad' M[k].length c''] 43)) (w.heap.size + 1) (.slice (some ⟨w.heap.size + 1, 0, none⟩) M.length M.length) (edS t M k 0) cs := hP.keep fun b _ hb => Below.heap_alloc wr _ b hb
      have b1 := bel.alloc hsz (.cells #[.string q.p, .int .i64 q.k, .string q.s, .int .i64 q.n, .slice q.a q.l q.c, .slice ad' M[k].length c''] 43)
      clear hcl hR hP hu
      go_wp2
      obtain ⟨W1, hW1⟩ : ∃ W, wr.alloc (.cells #[.string q.p, .int .i64 q.k, .string q.s, .int .i64 q.n, .slice q.a q.l q.c, .slice ad' M[k].length c''] 43) = W := ⟨_, rfl⟩
      rw [hW1] at p1 b1 ⊢
      clear hW1 c0 c1 c2 c3 c4 c5
      go_loopw [9, 25] (fun _ jv wq => ∃ (m : Nat) (cs : List Value), jv = .int .i64 (m : Nat) ∧ m ≤ M[k].length ∧ Below w.heap.size w wq ∧ PPb wq (w.heap.size + 1) (.slice (some ⟨w.heap.size + 1, 0, none⟩) M.length M.length) (edS t M k m) cs) (fun _ jv _ => M[k].length - (intOf jv).toNat)
      case atStart => exact ⟨0, _, rfl, by omega, b1, p1⟩
      case round =>
        clear p1 b1 bel hsz
        obtain ⟨m, cs, rfl, hml, bel, hP⟩ := hrel
        have hsz := bel.size
        by_cases hmt : m < M[k].length
        · obtain ⟨b', o', rfl, ⟨r0, r1⟩, r2, r3⟩ := HC.out _ bel m hmt
          have HS : Hid ((t || !M[k][m].b) = true → edS t M k (m + 1) = (edS t M k m).set k ((edS t M k m)[k]'(by rw [edS_len]; exact hlt) ++ [M[k][m].n])) := fun q => edS_step hlt hmt q
          have HK : Hid (¬ (t || !M[k][m].b) = true → edS t M k (m + 1) = edS t M k m) := fun q => edS_skip hlt hmt q
          have hkP : k < (edS t M k m).length := by rw [edS_len]; exact hlt
          have hPl : ((edS t M k m)[k]'hkP).length ≤ 1048576 := by rw [edS_at hlt]; refine Nat.le_trans (edg_len _ _) ?_; rw [List.length_take]; omega
          have p2 := hP.keep (w' := wr.alloc (.cells #[.string M[k][m].t, .bool M[k][m].b, .int .i64 M[k][m].i, .int .i64 M[k][m].n] 45)) fun b _ hb => Below.heap_alloc wr _ b hb
          have b2 := bel.alloc hsz (.cells #[.string M[k][m].t, .bool M[k][m].b, .int .i64 M[k][m].i, .int .i64 M[k][m].n] 45)
          have ez : (wr.alloc (.cells #[.string M[k][m].t, .bool M[k][m].b, .int .i64 M[k][m].i, .int .i64 M[k][m].n] 45)).heap.size = wr.heap.size + 1 := by simp
          have HZ : Hid ((wr.alloc (.cells #[.string M[k][m].t, .bool M[k][m].b, .int .i64 M[k][m].i, .int .i64 M[k][m].n] 45)).heap.size = wr.heap.size + 1) := ez
          have hgn : w.heap.size + 1 < wr.heap.size := (World.ownsRow.lt hP.row _ rfl).2
          generalize M[k][m] = rq at *
          clear ez hP
          obtain ⟨rt, rb, ri, rn⟩ := rq
          by_cases hq : (t || !rb) = true
          · have HS' : Hid _ := HS.out hq
            have ht : t = true ∨ (t = false ∧ rb = false) := by cases t <;> cases rb <;> simp_all
            clear HS HK HC hq
            obtain ⟨P, hEE⟩ : ∃ P, edS t M k m = P := ⟨_, rfl⟩
            simp only [hEE] at hkP hPl p2 HS'
            have hPl2 : (P[k]'hkP).length ≤ 1048576 := hPl
            have HS2 : Hid (edS t M k (m + 1) = P.set k (P[k]'hkP ++ [rn])) := HS'
            clear hPl HS'
            obtain ⟨u, q1, q2, q3, q4⟩ := p2.at hkP
            obtain ⟨WR, hWR⟩ : ∃ W, wr.alloc (.cells #[.string rt, .bool rb, .int .i64 ri, .int .i64 rn] 45) = W := ⟨_, rfl⟩
            have hrc : WR.cell? ⟨wr.heap.size, 3, none⟩ = some (.int .i64 rn) := by rw [← hWR, cell_of_row _ _ 3 _ _ (0, 0) (heap_alloc_new wr _)]; rfl
            have hrb : WR.cell? ⟨wr.heap.size, 1, none⟩ = some (.bool rb) := by rw [← hWR, cell_of_row _ _ 1 _ _ (0, 0) (heap_alloc_new wr _)]; rfl
            simp only at b2 HZ q2 q3 q4
            rw [hWR] at p2 b2 HZ q2 q3 q4
            have hsR : wr.heap.size < WR.heap.size := by rw [HZ.out]; omega
            have hwR : w.heap.size ≤ WR.heap.size := by omega
            have fin : ∀ (W3 : World) (gg cap : Nat), W3.ownsRow (w.heap.size + 1) 3 1 (.slice (some ⟨gg, 0, none⟩) (P[k].length + 1) cap) (P[k].length + 1) (ints P[k] ++ [.int .i64 rn]) → (WR.alloc (.cells #[.int .i64 rn] 3)).drew.grownBy W3 u.ownBlock → (u.ownBlock = some gg ∨ gg = WR.heap.size + 1) → gg < W3.heap.size →
                (∃ v, W3.cell? ⟨w.heap.size + 1, k, none⟩ = some v) ∧ W3.frozen? ⟨w.heap.size + 1, k, none⟩ = false ∧ PPb (W3.setCell ⟨w.heap.size + 1, k, none⟩ (.slice (some ⟨gg, 0, none⟩) (P[k].length + 1) cap)) (w.heap.size + 1) (.slice (some ⟨w.heap.size + 1, 0, none⟩) M.length M.length) (P.set k (P[k] ++ [rn])) (cs.set k (.slice (some ⟨gg, 0, none⟩) (P[k].length + 1) cap)) ∧ Below w.heap.size w (W3.setCell ⟨w.heap.size + 1, k, none⟩ (.slice (some ⟨gg, 0, none⟩) (P[k].length + 1) cap)) := fun W3 gg cap z1 z2 z3 z4 => by
              have ha : PPb (WR.alloc (.cells #[.int .i64 rn] 3)).drew (w.heap.size + 1) (.slice (some ⟨w.heap.size + 1, 0, none⟩) M.length M.length) P cs := p2.keep fun b _ hb => Below.heap_alloc WR _ b hb
              have hne : some (w.heap.size + 1) ≠ u.ownBlock := fun e => p2.no k u _ q1 e.symm rfl
              have hrow' := World.ownsRow.kept ha.row z2 (Or.inr hne)
              have hPM : P.length = M.length := by rw [← hEE, edS_len]
              rw [hPM] at hrow'
              refine ⟨⟨u, ?_⟩, World.ownsRow.frozenAt hrow' k, ha.put hkP q1 (by show (WR.alloc _).heap.size = _; simp) z1 z2 z3 z4, ?_⟩
              · rw [World.ownsRow.cellAt hrow' k (by omega)]; exact q1
              · exact ((b2.alloc hwR _).drew.grown z2 (by show w.heap.size ≤ (WR.alloc _).heap.size; simp; omega) (fun j hj => by have := (World.ownsRow.lt q4 j hj).1; omega)).setCell (by show w.heap.size ≤ w.heap.size + 1; omega) _
            have hFi : Hid _ := fin
            have ho1 := (World.ownsRow.alloc q4 (.cells #[.int .i64 rn] 3)).drew
            have ca : ∀ o, (WR.alloc o).cell? ⟨w.heap.size + 1, k, none⟩ = some u := fun o => (World.cell?_of_block (a := ⟨w.heap.size + 1, k, none⟩) (Below.heap_alloc WR o _ (World.ownsRow.lt p2.row _ rfl).2)).trans q2
            clear fin hEE
            rcases ht with rfl | ⟨rfl, rfl⟩
            all_goals
              go_wp2_with fail
              go_region_law (first
                | (refine step_append_lies _ (by rfl) _ _ _ (by rfl) (w.heap.size + 1) 3 i0 _ 1 8 Try.underlying31 hi hz0 hz1 hz2 rfl (by omega) _ P[k].length (ints P[k]) (by rfl) ho1 ⟨WR.heap.size, 0, none⟩ 1 1 [.int .i64 rn] (by rfl) (by rfl) (World.news_of_block (cs := #[.int .i64 rn]) (t := 3) (fr := (0, 0)) (heap_alloc_new WR _)) (by simp [Value.oneCell']) (by omega) (by unfold maxLen; omega) (by omega) (by simp; omega) (WR.heap.size + 1) (by simp) ?_
                   intro gg cap W3 z1 z2 z3 z4
                   obtain ⟨⟨u4, k1⟩, k2, k3, k4⟩ := hFi.out W3 gg cap z1 z2 z3 z4))
              all_goals
                clear z1 z2 z3 z4 hFi ho1 ca q1 q2 q3 q4
                go_wp2
                go_roundw
                case rel => exact ⟨m + 1, _, by simp, by omega, k4, by rw [HS2.out]; exact k3⟩
                case measure => simp [intOf]; omega
          · have hE := HK.out hq
            have ht : t = false := by cases t <;> simp_all
            have hb' : rb = true := by cases rb <;> simp_all
            subst ht hb'
            rw [← hE] at p2
            clear HS HK HC hq hPl hE HZ
            go_wp2
            go_roundw
            case rel => exact ⟨m + 1, cs, by simp, by omega, b2, p2⟩
            case measure => simp [intOf]; omega
        · have hE : edS t M (k + 1) 0 = edS t M k m := edS_row hlt (by omega)
          rw [← hE] at hP
          clear hE
          go_wp2
          go_roundw
          case rel => exact ⟨k + 1, cs, by simp, by omega, bel, hP⟩
          case measure => simp [intOf]; omega
    · have hE : edS t M k 0 = edgL t M := edS_end (by omega)
      rw [hE] at hP
      have hP' := hP.eat
      clear hE
      go_wp2
      go_ret
      exact ⟨_, rfl, hP', bel⟩
end Go.Proofs.Ytbliaamckldncaa
