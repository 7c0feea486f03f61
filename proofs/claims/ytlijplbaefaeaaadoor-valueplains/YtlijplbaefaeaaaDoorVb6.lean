/- Own text. The document's heap: Array. -/
import Derived.Test.YtlijplbaefaeaaaDoorVb5
import Derived.Test.YtlijplbaefaeaaaDoorVu
namespace Go.Proofs.YtlijplbaefaeaaaDoor
open Go.RowKit
set_option linter.unusedVariables false
set_option linter.unusedSimpArgs false

theorem info_t : (Tryd.prog.info? 77).map (fun i => (i.zero, i.size, i.bytes)) = some (some (.agg #[.bool false, .slice none 0 0, .slice none 0 0]), 3, 56) := by kernel_rfl
theorem csl_len : ∀ l : List Vl, (l.flatMap Vl.cs).length = l.length * 3
  | [] => rfl
  | x :: l => by
    rw [List.flatMap_cons, List.length_append, csl_len l, List.length_cons]
    simp [Vl.cs]
    omega
theorem csl_one : ∀ (l : List Vl), ∀ u ∈ l.flatMap Vl.cs, u.oneCell' = true := by
  intro l u hu
  obtain ⟨x, _, hx⟩ := List.mem_flatMap.1 hu
  simp [Vl.cs] at hx
  rcases hx with rfl | rfl | rfl <;> rfl
theorem vs_src {W : World} {D : Nat → Prop} {v : Value} {l : List Vl} (h : VsA W D v l) : ∃ a c, v = .slice a l.length c ∧ (0 < l.length → ∃ b o, a = some ⟨b, o, none⟩ ∧ D b ∧ b < W.heap.size ∧ ∀ j u, (l.flatMap Vl.cs)[j]? = some u → W.cell? ⟨b, o + j, none⟩ = some u) := by
  obtain ⟨a, c, e, k⟩ := h
  refine ⟨a, c, e, fun h0 => ?_⟩
  obtain ⟨b, o, e, hd, hb, cc⟩ := k h0
  refine ⟨b, o, e, hd, hb, fun j u hu => ?_⟩
  have hj : j < l.length * 3 := by
    rw [← csl_len]
    exact (List.getElem?_eq_some_iff.1 hu).1
  obtain ⟨i, r, hr, rfl⟩ : ∃ i r, r < 3 ∧ j = i * 3 + r := ⟨j / 3, j % 3, by omega, by omega⟩
  have hi : i < l.length := by omega
  rw [row_get l i hi r hr] at hu
  obtain ⟨c0, c1, c2⟩ := cc i hi
  rcases (by omega : r = 0 ∨ r = 1 ∨ r = 2) with rfl | rfl | rfl
  · cases hu
    exact c0
  · cases hu
    rw [← Nat.add_assoc]
    exact c1
  · cases hu
    rw [← Nat.add_assoc]
    exact c2
theorem HpAt.add {hb : Nat} {H : Hp} {vt vt' : Value} {V : List Pv} {W W' : World} (h : HpAt hb H vt V W) (t : Th) (p : Pv) (c : W'.heap[hb]? = some (.cells #[vt'] 34 (0, 0)))
    (ht : W'.ownsRow 0 77 3 vt' (H.length + 1) (thV H V ++ thC t p))
    (hk : ∀ i (hi : i < V.length) b, V[i].1.ownBlock = some b ∨ V[i].2.ownBlock = some b → W'.heap[b]? = W.heap[b]?)
    (hn : W'.ownsRow 0 9 1 p.1 t.nm.length (t.nm.map .string)) (hl : W'.ownsRow 0 23 3 p.2 t.ls.length (t.ls.flatMap Vl.cs))
    (f1 : ∀ b, p.1.ownBlock = some b → W.heap.size ≤ b) (f2 : ∀ b, p.2.ownBlock = some b → W.heap.size ≤ b) (ok : t.ob = true → t.nm.length = t.ls.length) :
    HpAt hb (H ++ [t]) vt' (V ++ [p]) W' := by
  have hlen := h.len
  have gh : ∀ i (h1 : i < (H ++ [t]).length), (∃ q : i < H.length, (H ++ [t])[i] = H[i]) ∨ (i = H.length ∧ (H ++ [t])[i] = t) := fun i h1 => by
    by_cases q : i < H.length
    · exact .inl ⟨q, List.getElem_append_left q⟩
    · obtain rfl : i = H.length := by simp at h1; omega
      exact .inr ⟨rfl, by simp⟩
  have gv : ∀ i (h1 : i < (V ++ [p]).length), (∃ q : i < V.length, (V ++ [p])[i] = V[i]) ∨ (i = V.length ∧ (V ++ [p])[i] = p) := fun i h1 => by
    by_cases q : i < V.length
    · exact .inl ⟨q, List.getElem_append_left q⟩
    · obtain rfl : i = V.length := by simp at h1; omega
      exact .inr ⟨rfl, by simp⟩
  refine ⟨c, by simp [hlen], by rw [thV_app H V t p hlen]; simpa using ht, fun i h1 h2 => ?_, fun i h1 h2 => ?_, fun i j hi hj ne b => ?_, fun i j hi hj ne b => ?_, fun u hu => ?_⟩
  · rcases gh i h1 with ⟨a1, a2⟩ | ⟨a1, a2⟩ <;> rcases gv i h2 with ⟨b1, b2⟩ | ⟨b1, b2⟩
    · rw [a2, b2]
      exact row_same (h.n i a1 b1) (fun g e => hk i b1 g (.inl e))
    · omega
    · omega
    · rw [a2, b2]
      exact hn
  · rcases gh i h1 with ⟨a1, a2⟩ | ⟨a1, a2⟩ <;> rcases gv i h2 with ⟨b1, b2⟩ | ⟨b1, b2⟩
    · rw [a2, b2]
      exact row_same (h.l i a1 b1) (fun g e => hk i b1 g (.inr e))
    · omega
    · omega
    · rw [a2, b2]
      exact hl
  · rcases gv i hi with ⟨a1, a2⟩ | ⟨a1, a2⟩ <;> rcases gv j hj with ⟨b1, b2⟩ | ⟨b1, b2⟩ <;> rw [a2, b2] <;> intro q r
    · exact h.an i j a1 b1 ne b q r
    · have := f1 b r
      have := ((h.n i (by omega) a1).lt b q).2
      omega
    · have := f1 b q
      have := ((h.n j (by omega) b1).lt b r).2
      omega
    · omega
  · rcases gv i hi with ⟨a1, a2⟩ | ⟨a1, a2⟩ <;> rcases gv j hj with ⟨b1, b2⟩ | ⟨b1, b2⟩ <;> rw [a2, b2] <;> intro q r
    · exact h.al i j a1 b1 ne b q r
    · have := f2 b r
      have := ((h.l i (by omega) a1).lt b q).2
      omega
    · have := f2 b q
      have := ((h.l j (by omega) b1).lt b r).2
      omega
    · omega
  · rcases List.mem_append.1 hu with hu | hu
    · exact h.ok u hu
    · obtain rfl := List.mem_singleton.1 hu
      exact ok
theorem Hs.add {hb : Nat} {vt vt' : Value} {V : List Pv} {N : Nat} {p : Pv} (ft : ∀ b, vt'.ownBlock = some b → vt.ownBlock = some b ∨ N ≤ b) (f1 : ∀ b, p.1.ownBlock = some b → N ≤ b) (f2 : ∀ b, p.2.ownBlock = some b → N ≤ b) : ∀ b, Hs hb vt' (V ++ [p]) b → Hs hb vt V b ∨ N ≤ b := by
  rintro b (e | e | ⟨q, hq, e⟩)
  · exact .inl (.inl e)
  · exact (ft b e).imp (fun e => .inr (.inl e)) id
  · rcases List.mem_append.1 hq with hq | hq
    · exact .inl (.inr (.inr ⟨q, hq, e⟩))
    · obtain rfl := List.mem_singleton.1 hq
      exact .inr (e.elim (f1 b) (f2 b))
set_option maxRecDepth 100000 in
set_option maxHeartbeats 8000000 in
theorem darr_any {hb : Nat} {H : Hp} {vt : Value} {V : List Pv} {W : World} (h : HpAt hb H vt V W) (D : Nat → Prop) (v : Value) (l : List Vl) (hl : H.length ≤ 2097152) (hls : l.length ≤ 1048577) (hv : VsA W D v l) : Calls Tryd.prog 32 #[.pointer (some ⟨hb, 0, none⟩), v] W (Chg dAt hb (Hs hb vt V) W (arrV H).v (H ++ [arrT l])) := by
  obtain ⟨i0, hi0, hz0, hz1, hz2⟩ := info_parts info_v
  obtain ⟨j0, hj0, hy0, hy1, hy2⟩ := info_parts info_t
  obtain ⟨a0, cl, rfl, src⟩ := vs_src hv
  obtain ⟨A, c, rfl⟩ := vform h.t
  obtain ⟨W0, hW0⟩ : ∃ X, W.alloc (.cells #[.int .i64 0, .int .i64 0, .string ⟨#[]⟩] 23) = X := ⟨_, rfl⟩
  have b0 : Below W.heap.size W W0 := by rw [← hW0]; exact belA _ _
  have r0 : W0.heap[W.heap.size]? = some (.cells #[.int .i64 0, .int .i64 0, .string ⟨#[]⟩] 23 (0, 0)) := by rw [← hW0]; exact hnw _ rfl
  have s0 : W0.heap.size = W.heap.size + 1 := by rw [← hW0]; simp
  have h0 := h.keep (W' := W0) (fun b hb' => b0.block b (h.lt b hb'))
  have src0 : 0 < l.length → ∃ ad, a0 = some ad ∧ ∀ j u, (l.flatMap Vl.cs)[j]? = some u → W0.drew.cell? (ad.add j) = some u := fun q => by
    obtain ⟨b, o, e, _, hb', cc⟩ := src q
    exact ⟨_, e, fun j u hu => by
      have q := (World.cell?_of_block (a := ⟨b, o + j, none⟩) (b0.block b hb')).trans (cc j u hu)
      have e2 : (⟨b, o, none⟩ : Addr).add j = ⟨b, o + j, none⟩ := by
        unfold Addr.add
        split <;> simp_all
      rw [e2]
      exact q⟩
  have hbl : ∀ b, Hs hb (.slice A H.length c) V b → b < W.heap.size := h.lt
  have SRC : Hid (_) := src0
  have HBL : Hid (∀ b, Hs hb (.slice A H.length c) V b → b < W.heap.size) := hbl
  have B0 : Hid (Below W.heap.size W W0) := b0
  have S0 : Hid (W0.heap.size = W.heap.size + 1) := s0
  have R0 : Hid (W0.heap[W.heap.size]? = some (.cells #[.int .i64 0, .int .i64 0, .string ⟨#[]⟩] 23 (0, 0))) := r0
  have H0 : Hid (HpAt hb H (.slice A H.length c) V W0) := h0
  have I0 : Hid (Tryd.prog.info? 23 = some i0) := hi0
  have J0 : Hid (Tryd.prog.info? 77 = some j0) := hj0
  have c0 := h0.cell.1
  clear b0 r0 h h0 hbl hv src src0 hi0 hj0 s0
  go_enter Tryd.func32, Tryd.ntmps32
  go_wp2_with fail
  have su : (fun X : World => X.cell? ⟨hb, 0, none⟩ = some (.slice A H.length c)) (World.drew W0) := c0
  refine wp_region_U (u := 10) (S := fun X => X.cell? ⟨hb, 0, none⟩ = some (.slice A H.length c)) (by kernel_rfl) ?_
  change wpAnyU _ _ _ _ _ _ _ _ _ (World.drew _)
  refine uT 0 (.pointer (some ⟨hb, 0, none⟩)) su ?_
  refine uT 1 (.pointer (some ⟨hb, 0, none⟩)) su ?_
  refine uT 2 (.pointer (some ⟨hb, 0, none⟩)) su ?_
  refine uT 3 (.pointer (some ⟨hb, 0, none⟩)) su ?_
  refine uT 4 (.slice A H.length c) su ?_
  refine uT 5 (.slice a0 l.length cl) su ?_
  refine U_ready (rs := [6]) (by kernel_rfl) (by simp) ?_
  refine AllU.cons rfl (by decide) (fun K hK => ?_) AllU.nil
  refine step_append_gen _ (by rfl) _ _ _ (by rfl) 0 23 i0 _ 3 32 Tryd.underlying37 I0.out hz0 hz1 hz2 rfl (by omega) _ 0 [] (by rfl) (World.ownsRow_nil _ _ _ _) a0 l.length cl (l.flatMap Vl.cs) (by rfl) (csl_len l) SRC.out (csl_one l) (by unfold maxLen; omega) (by omega) (by omega) ?_
  intro v1 W2 o2 g2 f2
  rw [Nat.zero_add, List.nil_append] at o2
  obtain ⟨A1, c1, rfl⟩ := vform o2
  have k2 : ∀ k, k < W0.heap.size → W2.heap[k]? = W0.heap[k]? := fun k hk => g2.block k hk (by simp [Value.ownBlock])
  have h2 := H0.out.keep (W' := W2) (fun b hb' => k2 b (H0.out.lt b hb'))
  have su2 : (fun X : World => X.cell? ⟨hb, 0, none⟩ = some (.slice A H.length c)) W2 := h2.cell.1
  refine hK.out _ _ su2 ?_
  clear hK K su c0
  refine uT 7 (.agg #[.bool false, .slice none 0 0, .slice A1 l.length c1]) su2 ?_
  refine U_ready (rs := [8]) (by kernel_rfl) (by simp) ?_
  refine AllU.cons rfl (by decide) (fun K hK => ?_) AllU.nil
  go_simp
  refine hK.out _ _ (al_cell _ su2) ?_
  clear hK K
  refine U_ready (rs := [9]) (by kernel_rfl) (by simp) ?_
  refine AllU.cons rfl (by decide) (fun K hK => ?_) AllU.nil
  refine step_append_gen _ (by rfl) _ _ _ (by rfl) 0 77 j0 _ 3 56 Tryd.underlying32 J0.out hy0 hy1 hy2 rfl (by omega) _ H.length (thV H V) (by rfl) (h2.t.alloc _) (some ⟨W2.heap.size, 0, none⟩) 1 1 (thC (arrT l) (.slice none 0 0, .slice A1 l.length c1)) (by rfl) (by rfl) (fun _ => ⟨_, rfl, World.news_of_block (cs := #[.bool false, .slice none 0 0, .slice A1 l.length c1]) (t := 77) (fr := (0, 0)) (hnw _ rfl)⟩) (by simp [Value.oneCell', thC]) (by unfold maxLen; omega) (by omega) (by omega) ?_
  intro vt' W3 o3 g3 f3
  obtain ⟨gv, cv, rfl, -, -⟩ := o3.form (by omega)
  have NA : Hid (some hb ≠ (Value.slice A H.length c).ownBlock) := (row_block h2.t h2.h (by decide)).symm
  have NR : Hid (some W.heap.size ≠ (Value.slice A H.length c).ownBlock) := fun q => by
    have := HBL.out _ (.inr (.inl q.symm))
    omega
  have p3 := grow_block g3 h2.h NA.out
  have n0 := glt R0.out
  have r3 := grow_block g3 ((k2 _ n0).trans R0.out) NR.out
  have c3 : W3.cell? ⟨hb, 0, none⟩ = some (.slice A H.length c) := by simp [World.cell?, p3]
  have z3 : W3.frozen? ⟨hb, 0, none⟩ = false := by simp [World.frozen?, p3]
  refine hK.out _ _ c3 ?_
  clear hK K su2
  refine U_end (by kernel_rfl) ?_
  refine wpAny_chain [_, _, _] [10, 11, 12] _ _ _ _ (by kernel_rfl) rfl (by decide) ?_
  have k3 : hb < W.heap.size := HBL.out hb (.inl rfl)
  obtain ⟨⟨q0, q1, q2⟩, z0, z1, z2⟩ := free3 r3
  have O2 : Hid (_) := o2
  have G2 : Hid (_) := g2
  have F2 : Hid (_) := f2
  have O3 : Hid (_) := o3
  have G3 : Hid (_) := g3
  have F3 : Hid (_) := f3
  have P3 : Hid (_) := p3
  have R3 : Hid (_) := r3
  have K2 : Hid (_) := k2
  have H2 : Hid (_) := h2
  clear o2 g2 f2 o3 g3 f3 p3 r3 k2 h2 n0
  go_wp2
  obtain ⟨W4, hW4⟩ : ∃ X, W3.setCell ⟨hb, 0, none⟩ (.slice (some ⟨gv, 0, none⟩) (H.length + 1) cv) = X := ⟨_, rfl⟩
  simp only [hW4]
  have k4 : ∀ k, k ≠ hb → W4.heap[k]? = W3.heap[k]? := fun k ne => by rw [← hW4]; exact Below.heap_setCell _ _ _ _ ne
  have r4 := (k4 W.heap.size (by omega)).trans R3.out
  have p4 : W4.heap[hb]? = some (.cells #[.slice (some ⟨gv, 0, none⟩) (H.length + 1) cv] 34 (0, 0)) := by
    rw [← hW4]
    simp [World.setCell, Array.getElem?_modify, P3.out]
  have l4 : W4.os = W3.os ∧ W4.tape = W3.tape ∧ W4.output = W3.output ∧ W4.heap.size = W3.heap.size := by
    rw [← hW4]
    exact ⟨rfl, rfl, rfl, by simp [World.setCell]⟩
  refine bodyPost_ret (res_vl Tryd.results32 (set3_same _ _ _ r4) rfl) rfl ?_
  obtain ⟨W5, hW5⟩ : ∃ X, ((W4.setCell ⟨W.heap.size, 0, none⟩ (.int .i64 5)).setCell ⟨W.heap.size, 1, none⟩ (.int .i64 (H.length : Nat))).setCell ⟨W.heap.size, 2, none⟩ (.string ⟨#[]⟩) = X := ⟨_, rfl⟩
  have k5 : ∀ k, k ≠ W.heap.size → W5.heap[k]? = W4.heap[k]? := fun k ne => by rw [← hW5]; exact set3_far _ _ _ ne
  have l5 : W5.os = W4.os ∧ W5.tape = W4.tape ∧ W5.output = W4.output ∧ W5.heap.size = W4.heap.size := by
    rw [← hW5]
    exact ⟨rfl, rfl, rfl, by simp [World.setCell]⟩
  rw [hW5]
  have s0 := S0.out
  have h0 := H0.out
  have s2 : W0.heap.size ≤ W2.heap.size := G2.out.size
  have s3 : W2.heap.size + 1 ≤ W3.heap.size := by
    have := G3.out.size
    simpa using this
  have hbl := HBL.out
  have kk : ∀ k, k < W2.heap.size → k ≠ hb → k ≠ W.heap.size → some k ≠ (Value.slice A H.length c).ownBlock → W5.heap[k]? = W2.heap[k]? := fun k hk n1 n2 n3 => (k5 k n2).trans ((k4 k n1).trans ((G3.out.block k (by simp; omega) n3).trans (Below.heap_alloc W2 _ k hk)))
  have f1 : ∀ b, (Value.slice none 0 0).ownBlock = some b → W0.heap.size ≤ b := fun b e => by cases e
  have f2 : ∀ b, (Value.slice A1 l.length c1).ownBlock = some b → b = W0.heap.size := fun b e => by
    rcases F2.out b e with q | q
    · cases q
    · exact q
  have ft : ∀ b, (Value.slice (some ⟨gv, 0, none⟩) (H.length + 1) cv).ownBlock = some b → (Value.slice A H.length c).ownBlock = some b ∨ W2.heap.size + 1 ≤ b := fun b e => (F3.out b e).imp id (fun q => by rw [q]; simp)
  have hlen := h0.len
  have P : HpAt hb (H ++ [arrT l]) (.slice (some ⟨gv, 0, none⟩) (H.length + 1) cv) (V ++ [(.slice none 0 0, .slice A1 l.length c1)]) W5 := by
    refine h0.add (arrT l) (.slice none 0 0, .slice A1 l.length c1) ?_ ?_ ?_ (World.ownsRow_nil _ _ _ _) ?_ f1 (fun b e => by have := f2 b e; omega) (fun q => by cases q)
    · exact (k5 hb (by omega)).trans p4
    · refine row_same O3.out (fun b e => ?_)
      have ne : b ≠ hb ∧ b ≠ W.heap.size := by
        rcases ft b e with q | q
        · have q1 := hbl b (.inr (.inl q))
          exact ⟨fun r => NA.out (by rw [← r]; exact q.symm), by omega⟩
        · omega
      exact (k5 b ne.2).trans (k4 b ne.1)
    · intro i hi b e
      have q1 := hbl b (.inr (.inr ⟨_, List.getElem_mem hi, e⟩))
      have ne : b ≠ hb := fun r => by
        rcases e with e | e
        · exact row_block (h0.n i (by omega) hi) h0.h (by decide) (r ▸ e)
        · exact row_block (h0.l i (by omega) hi) h0.h (by decide) (r ▸ e)
      have na : some b ≠ (Value.slice A H.length c).ownBlock := fun r => by
        rcases e with e | e
        · exact row_apart (h0.n i (by omega) hi) h0.t (by decide) e r.symm
        · exact row_apart (h0.l i (by omega) hi) h0.t (by decide) e r.symm
      exact (kk b (by omega) ne (by omega) na).trans (K2.out b (by omega))
    · refine row_same O2.out (fun b e => ?_)
      have q := f2 b e
      have lt := (World.ownsRow.lt O2.out b e).2
      exact kk b lt (by omega) (by omega) (fun r => by have := hbl b (.inr (.inl r.symm)); omega)
  refine ⟨rfl, _, ⟨_, _, P, fun b => Iff.rfl⟩, ⟨?_, ?_, ?_, ?_, fun k hk ns => ?_⟩, Hs.add (fun b e => (ft b e).imp id (fun q => by omega)) (fun b e => by cases e) (fun b e => by have := f2 b e; omega)⟩
  · exact l5.1.trans (l4.1.trans (G3.out.os.trans (G2.out.os.trans B0.out.os)))
  · exact l5.2.1.trans (l4.2.1.trans (G3.out.tape.trans (G2.out.tape.trans B0.out.tape)))
  · exact l5.2.2.1.trans (l4.2.2.1.trans (G3.out.output.trans (G2.out.output.trans B0.out.output)))
  · omega
  · exact (kk k (by omega) (fun r => ns (.inl r)) (by omega) (fun r => ns (.inr (.inl r.symm)))).trans ((K2.out k (by omega)).trans (B0.out.block k hk))
end Go.Proofs.YtlijplbaefaeaaaDoor
