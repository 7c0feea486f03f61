/- Own text. ValueHeaps: one deed with both heaps. -/
import Derived.Test.YtlijplbaefaeaaaDoorVd2
import Derived.Deep.CutBlock
namespace Go.Proofs.YtlijplbaefaeaaaDoor
open Go.RowKit
set_option linter.unusedVariables false
set_option linter.unusedSimpArgs false

theorem tH0 {p : Prop} (h : p) : Hid p := h
theorem VsA.bel {W W' : World} {D : Nat → Prop} {v : Value} {l : List Vl} (h : VsA W D v l) (b : Below W.heap.size W W') : VsA W' D v l := by
  obtain ⟨a, c, e, k⟩ := h
  refine ⟨a, c, e, fun h0 => ?_⟩
  obtain ⟨bl, o, e1, hd, hlt, hc⟩ := k h0
  exact ⟨bl, o, e1, hd, Nat.lt_of_lt_of_le hlt b.size, fun i hi => ⟨(World.cell?_of_block (a := ⟨bl, o + i * 3, none⟩) (b.block bl hlt)).trans (hc i hi).1, (World.cell?_of_block (a := ⟨bl, o + i * 3 + 1, none⟩) (b.block bl hlt)).trans (hc i hi).2.1, (World.cell?_of_block (a := ⟨bl, o + i * 3 + 2, none⟩) (b.block bl hlt)).trans (hc i hi).2.2⟩⟩
theorem ns_src {W : World} {D : Nat → Prop} {a : Option Addr} {c : Nat} {l : List ByteArray} (h : NsA W D (.slice a l.length c) l) : 0 < l.length → ∃ a0, a = some a0 ∧ ∀ j u, (l.map Value.string)[j]? = some u → W.cell? (a0.add j) = some u := fun h0 => by
  obtain ⟨a', c', e, k⟩ := h
  injection e with e1 e2 e3
  subst e1
  obtain ⟨b, o, e1, hd, hb, cc⟩ := k h0
  refine ⟨_, e1, fun j u hu => ?_⟩
  have hj : j < l.length := by simpa using (List.getElem?_eq_some_iff.1 hu).1
  have : (⟨b, o, none⟩ : Addr).add j = ⟨b, o + j, none⟩ := by
    unfold Addr.add
    split
    · rename_i h; simp_all
    · rfl
  rw [this, cc j hj]
  simp [hj] at hu
  rw [← hu]
theorem vs_src2 {W : World} {D : Nat → Prop} {a : Option Addr} {c : Nat} {l : List Vl} (h : VsA W D (.slice a l.length c) l) : 0 < l.length → ∃ a0, a = some a0 ∧ ∀ j u, (l.flatMap Vl.cs)[j]? = some u → W.cell? (a0.add j) = some u := fun h0 => by
  obtain ⟨a', c', e, k⟩ := vs_src h
  injection e with e1 e2 e3
  subst e1
  obtain ⟨b, o, e1, hd, hb, cc⟩ := k h0
  refine ⟨_, e1, fun j u hu => ?_⟩
  have : (⟨b, o, none⟩ : Addr).add j = ⟨b, o + j, none⟩ := by
    unfold Addr.add
    split
    · rename_i h; simp_all
    · rfl
  rw [this]
  exact cc j u hu
/-- what is owned, as a block. -/
theorem own_row {w : World} {base size n : Nat} {e : TypeId} {v : Value} {xs : List Value} (h : w.ownsRow base e size v n xs) (hn : 0 < n) : ∃ g cap cur, v = .slice (some ⟨g, 0, none⟩) n cap ∧ base ≤ g ∧ w.heap[g]? = some (.cells cur e (0, 0)) ∧ n ≤ cap ∧ cap ≤ maxLen ∧ cur.toList.take xs.length = xs := by
  have hl := h.1
  rcases h.2 with ⟨_, h0⟩ | ⟨g, cap, cur, rfl, h1, h2, h3, h4, h5, h6⟩
  · omega
  · exact ⟨g, cap, cur, rfl, h1, h2, h3, h4, by rw [hl]; exact h6⟩
section
variable {Ev : World → Prop} {At : World → Nat → Hp → (Nat → Prop) → Prop} {W Y Y' : World} {hb gb : Nat} {H G : Hp} {S T : Nat → Prop}
theorem Tw.row1 (PV : Hid (PrgV Ev At)) {l1 l2 : List (Nat × Obj)} {g : Nat} {cur : Array Value} {ty : TypeId} (h : Hid (Tw At W hb gb (l1 ++ (g, .cells cur ty (0, 0)) :: l2) H G S T Y)) (o : Nat) (p : Value) (hg : W.heap.size ≤ g) (hne : ∀ z ∈ l1 ++ l2, z.1 ≠ g) : Hid (Tw At W hb gb (l1 ++ (g, .cells (cur.setIfInBounds o p) ty (0, 0)) :: l2) H G S T (Y.setCell ⟨g, o, none⟩ p)) := by
  have hm := h.out.m (g, .cells cur ty (0, 0)) (List.mem_append_right _ (List.mem_cons_self ..))
  have hsz : (Y.setCell ⟨g, o, none⟩ p).heap.size = Y.heap.size := by simp [World.setCell]
  have far : ∀ k, k ≠ g → (Y.setCell ⟨g, o, none⟩ p).heap[k]? = Y.heap[k]? := fun k hk => Below.heap_setCell _ _ _ _ hk
  refine ⟨PV.out.keep h.out.a (by omega) (fun k hk => far k (fun e => hm.2.1 (e ▸ hk))), h.out.d.keep (fun k hk => far k (fun e => hm.2.2 (e ▸ hk))), fun z hz => ?_, h.out.b.setCell hg p, h.out.s, h.out.t, h.out.x⟩
  rcases List.mem_append.1 hz with hz | hz
  · exact ⟨(far _ (hne z (List.mem_append_left _ hz))).trans (h.out.m z (List.mem_append_left _ hz)).1, (h.out.m z (List.mem_append_left _ hz)).2⟩
  · rcases List.mem_cons.1 hz with rfl | hz
    · exact ⟨heap_setCell_same _ _ _ _ _ _ hm.1, hm.2⟩
    · exact ⟨(far _ (hne z (List.mem_append_right _ hz))).trans (h.out.m z (List.mem_append_right _ (List.mem_cons_of_mem _ hz))).1, (h.out.m z (List.mem_append_right _ (List.mem_cons_of_mem _ hz))).2⟩
theorem Tw.row3 (PV : Hid (PrgV Ev At)) {l1 l2 : List (Nat × Obj)} {g : Nat} {cur : Array Value} {ty : TypeId} (h : Hid (Tw At W hb gb (l1 ++ (g, .cells cur ty (0, 0)) :: l2) H G S T Y)) (o : Nat) (p q r : Value) (hg : W.heap.size ≤ g) (hne : ∀ z ∈ l1 ++ l2, z.1 ≠ g) : Hid (Tw At W hb gb (l1 ++ (g, .cells (((cur.setIfInBounds o p).setIfInBounds (o + 1) q).setIfInBounds (o + 2) r) ty (0, 0)) :: l2) H G S T (((Y.setCell ⟨g, o, none⟩ p).setCell ⟨g, o + 1, none⟩ q).setCell ⟨g, o + 2, none⟩ r)) :=
  Tw.row1 PV (Tw.row1 PV (Tw.row1 PV h o p hg hne) (o + 1) q hg hne) (o + 2) r hg hne
end
theorem row_free {Z : World} {g o : Nat} {cur : Array Value} {ty : TypeId} (h : Z.heap[g]? = some (.cells cur ty (0, 0))) : Z.frozen? ⟨g, o, none⟩ = false := by
  simp [World.frozen?, h]
theorem row_cell {Z : World} {g o : Nat} {cur : Array Value} {ty : TypeId} (h : Z.heap[g]? = some (.cells cur ty (0, 0))) (ho : o < cur.size) : Z.cell? ⟨g, o, none⟩ = some cur[o] := by
  rw [cell_of_row _ _ _ _ _ _ h]
  simp [ho]
set_option maxRecDepth 100000 in
set_option maxHeartbeats 16000000 in
theorem do_any {Ev : World → Prop} {At : World → Nat → Hp → (Nat → Prop) → Prop} (PV : PrgV Ev At) (k ix : Int) (v x : Vl) (nm : ByteArray) (ns : List ByteArray) (l : List Vl) (na la : Option Addr) (nc lc : Nat) (W Y : World) {hb gb : Nat} {H : Hp} {S T : Nat → Prop} {i : Nat} (hv : okV v) (hx : okV x) (hn : nm.size ≤ 140737488355328) (hi : -9223372036854775808 ≤ ix ∧ ix ≤ 9223372036854775807) (hnl : ns.length ≤ 1048576) (hll : l.length ≤ 1048576) (hno : ∀ s ∈ ns, s.size ≤ 140737488355328) (hlo : ∀ y ∈ l, okV y) (hns : NsA W (fun b => b < W.heap.size) (.slice na ns.length nc) ns) (hls : VsA W (fun b => b < W.heap.size) (.slice la l.length lc) l) (hs : Hid (Tw At W hb gb [] H H S T Y)) (hbd : bdV H i) (hi2 : i ≤ 1048575) : Calls Tryd.prog 17 #[.pointer (some ⟨hb, 0, none⟩), .pointer (some ⟨gb, 0, none⟩), .agg #[.int .i64 k, .int .i64 v.kd, .int .i64 v.n, .string v.tx, .int .i64 x.kd, .int .i64 x.n, .string x.tx, .string nm, .int .i64 ix, .slice na ns.length nc, .slice la l.length lc]] Y fun e Y' => e = .returned (.bool true) ∧ ∃ H' S' T', Hid (Tw At W hb gb [] H' H' S' T' Y') ∧ bdV H' (i + 1) := by
  obtain ⟨i0, hi0, hz0, hz1, hz2⟩ := info_parts info_v
  obtain ⟨j0, hj0, hy0, hy1, hy2⟩ := info_parts info_s
  have I0 : Hid (Tryd.prog.info? 23 = some i0) := hi0
  have J0 : Hid (Tryd.prog.info? 9 = some j0) := hj0
  have HP : Hid (PrgV Ev At) := PV
  have HBD : Hid (bdV H i) := hbd
  have HI2 : Hid (i ≤ 1048575) := hi2
  have HNM : Hid (nm.size ≤ 140737488355328) := hn
  have HOV : Hid (okV v) := hv
  have HOX : Hid (okV x) := hx
  have HIX : Hid (-9223372036854775808 ≤ ix ∧ ix ≤ 9223372036854775807) := hi
  have HNL : Hid (ns.length ≤ 1048576) := hnl
  have HLL : Hid (l.length ≤ 1048576) := hll
  have HNO : Hid (∀ s ∈ ns, s.size ≤ 140737488355328) := hno
  have HLO : Hid (∀ y ∈ l, okV y) := hlo
  have HNS : Hid (NsA W (fun b => b < W.heap.size) (.slice na ns.length nc) ns) := hns
  have HLS : Hid (VsA W (fun b => b < W.heap.size) (.slice la l.length lc) l) := hls
  clear PV hbd hi2 hn hv hx hi hno hlo hns hls hi0 hj0
  have hn := Tw.box HP hs #[.int .i64 k, .int .i64 v.kd, .int .i64 v.n, .string v.tx, .int .i64 x.kd, .int .i64 x.n, .string x.tx, .string nm, .int .i64 ix, .slice na ns.length nc, .slice la l.length lc] 39
  obtain ⟨b, hq⟩ : ∃ g, Y.heap.size = g := ⟨_, rfl⟩
  go_enter Tryd.func17, Tryd.ntmps17
  go_upto_region 1 with fail
  rw [hq] at hn
  try rw [hq]
  clear hs hq
  have hs := hn
  clear hn
  generalize Y.alloc _ = X0 at *
  have HDC : Hid (∀ {L H G S T} {Z : World}, (b, .cells #[.int .i64 k, .int .i64 v.kd, .int .i64 v.n, .string v.tx, .int .i64 x.kd, .int .i64 x.n, .string x.tx, .string nm, .int .i64 ix, .slice na ns.length nc, .slice la l.length lc] 39 (0, 0)) ∈ L → Hid (Tw At W hb gb L H G S T Z) → Z.cell? ⟨b, 0, none⟩ = some (.int .i64 k) ∧ (Z.cell? ⟨b, 1, none⟩ = some (.int .i64 v.kd) ∧ Z.cell? ⟨b, 2, none⟩ = some (.int .i64 v.n) ∧ Z.cell? ⟨b, 3, none⟩ = some (.string v.tx)) ∧ (Z.cell? ⟨b, 4, none⟩ = some (.int .i64 x.kd) ∧ Z.cell? ⟨b, 5, none⟩ = some (.int .i64 x.n) ∧ Z.cell? ⟨b, 6, none⟩ = some (.string x.tx)) ∧ Z.cell? ⟨b, 7, none⟩ = some (.string nm) ∧ Z.cell? ⟨b, 8, none⟩ = some (.int .i64 ix) ∧ Z.cell? ⟨b, 9, none⟩ = some (.slice na ns.length nc) ∧ Z.cell? ⟨b, 10, none⟩ = some (.slice la l.length lc)) := fun hm h => (deed_cells (k := k) (v := v) (x := x) (nm := nm) (ix := ix) (nsv := .slice na ns.length nc) (lsv := .slice la l.length lc) (ty := 39) (h.out.m (b, .cells #[.int .i64 k, .int .i64 v.kd, .int .i64 v.n, .string v.tx, .int .i64 x.kd, .int .i64 x.n, .string x.tx, .string nm, .int .i64 ix, .slice na ns.length nc, .slice la l.length lc] 39 (0, 0)) hm).1)
  obtain ⟨B0, hB0⟩ : ∃ B, X0.heap.size = B := ⟨_, rfl⟩
  have LOW := Tw.low HP hs
  rw [hB0] at LOW
  have HLW : Hid (lowB S T [(b, .cells #[.int .i64 k, .int .i64 v.kd, .int .i64 v.n, .string v.tx, .int .i64 x.kd, .int .i64 x.n, .string x.tx, .string nm, .int .i64 ix, .slice na ns.length nc, .slice la l.length lc] 39 (0, 0))] B0) := LOW
  have HWB : Hid (W.heap.size ≤ B0) := by show _ ≤ _; rw [← hB0]; exact hs.out.b.size
  have HB0 : Hid (X0.heap.size = B0) := hB0
  clear LOW hB0
  have SRC : Hid (0 < ns.length → ∃ a0, na = some a0 ∧ ∀ j u, (ns.map Value.string)[j]? = some u → X0.cell? (a0.add j) = some u) := ns_src (HNS.out.bel hs.out.b)
  have hbx : B0 ≤ X0.heap.size := Nat.le_of_eq HB0.out.symm
  obtain ⟨_, _, _, _, _, d9, _⟩ := HDC.out (.head _) hs
  have tok1 : True := trivial
  go_upto_region 2 with (first
    | (at_builtin; have _t := tok1; refine wpList_append_gen _ (by rfl) _ _ _ (by rfl) B0 9 j0 _ 1 16 Tryd.underlying36 J0.out hy0 hy1 hy2 rfl (by omega) _ 0 [] (by rfl) (World.ownsRow_nil _ _ _ _) na ns.length nc (ns.map Value.string) (by rfl) (by simp) SRC.out (fun u hu => by obtain ⟨s, _, rfl⟩ := List.mem_map.1 hu; rfl) (by unfold maxLen; omega) (by omega) hbx ?_; rintro v1 X1 o1 g1 f1; clear tok1 d9; have O1 := tH0 o1; have G1 := tH0 g1; have hbx1 : B0 ≤ X1.heap.size := Nat.le_trans hbx g1.size; clear o1 g1 f1)
    | (at_builtin; refine wpList_append_gen _ (by rfl) _ _ _ (by rfl) B0 9 j0 _ 1 16 Tryd.underlying36 J0.out hy0 hy1 hy2 rfl (by omega) _ (0 + ns.length) ([] ++ ns.map Value.string) (by rfl) (O1.out.alloc _) (some ⟨X1.heap.size, 0, none⟩) 1 1 [.string ⟨#[115, 112, 97, 114, 101]⟩] (by rfl) (by rfl) (fun _ => ⟨_, rfl, World.news_of_block (cs := #[.string ⟨#[115, 112, 97, 114, 101]⟩]) (t := 9) (fr := (0, 0)) (hnw _ rfl)⟩) (by simp [Value.oneCell']) (by unfold maxLen; omega) (by omega) (by simp; omega) ?_; rintro v2 X2 o2 g2 f2))
  have hs1 := Tw.grow HP hs G1.out (fun k hk => by cases hk)
  have hs2 := Tw.bel HP hs1 (belA X1 (.cells #[.string ⟨#[115, 112, 97, 114, 101]⟩] 9))
  have hs3 := Tw.grow HP hs2 g2 (fun k hk => HLW.out.far (O1.out.lt k hk).1 HWB.out)
  obtain ⟨g1_, cap1, cur1, rfl, hg1, hm1, hc1, hx1, hp1⟩ := own_row o2 (by omega)
  have HP1 : Hid (cur1.toList.take (ns.map Value.string ++ ([.string ⟨#[115, 112, 97, 114, 101]⟩] : List Value)).length = ns.map Value.string ++ ([.string ⟨#[115, 112, 97, 114, 101]⟩] : List Value)) := hp1
  have HC1 : Hid (ns.length + 1 ≤ cap1 ∧ cap1 ≤ maxLen) := ⟨by omega, hx1⟩
  have hs := Tw.add hs3 hm1 (HLW.out.far hg1 HWB.out).2.1 (HLW.out.far hg1 HWB.out).2.2.1
  have HG1 : Hid (B0 ≤ g1_) := hg1
  have HB02 : Hid (B0 ≤ X2.heap.size) := Nat.le_trans hbx1 (Nat.le_trans (by simp) g2.size)
  clear hs1 hs2 hs3 hp1 hm1 hg1 g2 o2 f2 O1 G1 hbx hbx1 hx1 HB0 SRC
  have hls2 := HLS.out.bel hs.out.b
  have SRC : Hid (0 < l.length → ∃ a0, la = some a0 ∧ ∀ j u, (l.flatMap Vl.cs)[j]? = some u → X2.cell? (a0.add j) = some u) := vs_src2 hls2
  clear hls2
  obtain ⟨B1, hB1⟩ : ∃ B, X2.heap.size = B := ⟨_, rfl⟩
  have LOW := Tw.low HP hs
  rw [hB1] at LOW
  have HLW1 : Hid (lowB S T [(g1_, .cells cur1 9 (0, 0)), (b, .cells #[.int .i64 k, .int .i64 v.kd, .int .i64 v.n, .string v.tx, .int .i64 x.kd, .int .i64 x.n, .string x.tx, .string nm, .int .i64 ix, .slice na ns.length nc, .slice la l.length lc] 39 (0, 0))] B1) := LOW
  have HWB1 : Hid (W.heap.size ≤ B1) := by show _ ≤ _; rw [← hB1]; exact hs.out.b.size
  have hbx : B1 ≤ X2.heap.size := Nat.le_of_eq hB1.symm
  clear LOW hB1
  obtain ⟨_, _, _, _, _, _, d10⟩ := HDC.out (.tail _ (.head _)) hs
  go_wp2_with (at_builtin; refine wpList_append_gen _ (by rfl) _ _ _ (by rfl) B1 23 i0 _ 3 32 Tryd.underlying37 I0.out hz0 hz1 hz2 rfl (by omega) _ 0 [] (by rfl) (World.ownsRow_nil _ _ _ _) la l.length lc (l.flatMap Vl.cs) (by rfl) (csl_len l) SRC.out (csl_one l) (by unfold maxLen; omega) (by omega) hbx ?_; rintro v1 X3 o1 g1 f1; clear d10)
  have hs := Tw.grow HP hs g1 (fun k hk => by cases hk)
  have hbx1 : B1 ≤ X3.heap.size := Nat.le_trans hbx g1.size
  have O1 := tH0 o1
  clear o1 g1 f1 hbx SRC
  go_at_call 31
  refine (number_any _ _).mono ?_
  rintro e X4 ⟨rfl, bb⟩
  have hs := Tw.bel HP hs bb
  have O1 := tH0 (O1.out.kept (row := none) ⟨bb.os, bb.tape, bb.output, bb.size, fun k hk _ => bb.block k hk⟩ (by cases v1.ownBlock with | none => exact .inl rfl | some k => exact .inr (by simp)))
  have hbx2 : B1 ≤ X4.heap.size := Nat.le_trans hbx1 bb.size
  clear bb hbx1
  go_upto_region 3 with (at_builtin; refine wpList_append_gen _ (by rfl) _ _ _ (by rfl) B1 23 i0 _ 3 32 Tryd.underlying37 I0.out hz0 hz1 hz2 rfl (by omega) _ (0 + l.length) ([] ++ l.flatMap Vl.cs) (by rfl) (O1.out.alloc _) (some ⟨X4.heap.size, 0, none⟩) 1 1 [.int .i64 3, .int .i64 77, .string ⟨#[]⟩] (by rfl) (by rfl) (fun _ => ⟨_, rfl, World.news_of_block (cs := #[.int .i64 3, .int .i64 77, .string ⟨#[]⟩]) (t := 23) (fr := (0, 0)) (hnw _ rfl)⟩) (by simp [Value.oneCell']) (by unfold maxLen; omega) (by omega) (by simp; omega) ?_; rintro v2 X5 o2 g2 f2)
  have hs1 := Tw.bel HP hs (belA X4 (.cells #[.int .i64 3, .int .i64 77, .string ⟨#[]⟩] 23))
  have hs2 := Tw.grow HP hs1 g2 (fun k hk => HLW1.out.far (O1.out.lt k hk).1 HWB1.out)
  obtain ⟨g2_, cap2, cur2, rfl, hg2, hm2, hc2, hx2, hp2⟩ := own_row o2 (by omega)
  have HP2 : Hid (cur2.toList.take (l.flatMap Vl.cs ++ ([.int .i64 3, .int .i64 77, .string ⟨#[]⟩] : List Value)).length = l.flatMap Vl.cs ++ ([.int .i64 3, .int .i64 77, .string ⟨#[]⟩] : List Value)) := hp2
  have HC2 : Hid (l.length + 1 ≤ cap2 ∧ cap2 ≤ maxLen) := ⟨by omega, hx2⟩
  have hs := Tw.add hs2 hm2 (HLW1.out.far hg2 HWB1.out).2.1 (HLW1.out.far hg2 HWB1.out).2.2.1
  have HNE : Hid (g2_ ≠ g1_ ∧ g2_ ≠ b ∧ g1_ ≠ b) := ⟨fun e => (HLW1.out.far hg2 HWB1.out).2.2.2 _ (.head _) e.symm, fun e => (HLW1.out.far hg2 HWB1.out).2.2.2 _ (.tail _ (.head _)) e.symm, fun e => by have := HLW.out.2.2 _ (.head _); have := HG1.out; omega⟩
  have HGW : Hid (W.heap.size ≤ g1_ ∧ W.heap.size ≤ g2_) := ⟨Nat.le_trans HWB.out HG1.out, Nat.le_trans HWB1.out hg2⟩
  clear hs1 hs2 hp2 hm2 hg2 g2 o2 f2 O1 hbx2 hx2 hc2 hc1
  have hsz1 := HC1.out
  have hsz2 := HC2.out
  obtain ⟨dk, _⟩ := HDC.out (.tail _ (.tail _ (.head _))) hs
  clear hsz1 hsz2
  go_upto_block 0 with fail
  clear dk
  try simp only [Nat.zero_add] at *
  go_cut [9] from 25 to 112 (fun u9 X => u9 = .bool true ∧ ∃ H' S' T', Hid (Tw At W hb gb [(g2_, .cells cur2 23 (0, 0)), (g1_, .cells cur1 9 (0, 0)), (b, .cells #[.int .i64 k, .int .i64 v.kd, .int .i64 v.n, .string v.tx, .int .i64 x.kd, .int .i64 x.n, .string x.tx, .string nm, .int .i64 ix, .slice na ns.length nc, .slice la l.length lc] 39 (0, 0))] H' H' S' T' X) ∧ Hid (bdV H' (i + 1)))
  case first =>
    have HSM : Hid (smH H) := HBD.out.sm (by have := HI2.out; omega)
    have HDM : Hid (∀ {G S T} {Z : World}, Hid (Tw At W hb gb [(g2_, .cells cur2 23 (0, 0)), (g1_, .cells cur1 9 (0, 0)), (b, .cells #[.int .i64 k, .int .i64 v.kd, .int .i64 v.n, .string v.tx, .int .i64 x.kd, .int .i64 x.n, .string x.tx, .string nm, .int .i64 ix, .slice na ns.length nc, .slice la l.length lc] 39 (0, 0))] H G S T Z) → _) := fun h => HDC.out (.tail _ (.tail _ (.head _))) h
    have HDN : Hid (∀ {G S T} {Z : World}, Hid (Tw At W hb gb [(g2_, .cells cur2 23 (0, 0)), (g1_, .cells cur1 9 (0, 0)), (b, .cells #[.int .i64 k, .int .i64 v.kd, .int .i64 v.n, .string v.tx, .int .i64 x.kd, .int .i64 x.n, .string x.tx, .string nm, .int .i64 ix, .slice na ns.length nc, .slice la l.length lc] 39 (0, 0))] G H S T Z) → _) := fun h => HDC.out (.tail _ (.tail _ (.head _))) h
    have HDO : Hid (∀ {G G' S T} {Z : World}, Hid (Tw At W hb gb [(g2_, .cells cur2 23 (0, 0)), (g1_, .cells cur1 9 (0, 0)), (b, .cells #[.int .i64 k, .int .i64 v.kd, .int .i64 v.n, .string v.tx, .int .i64 x.kd, .int .i64 x.n, .string x.tx, .string nm, .int .i64 ix, .slice na ns.length nc, .slice la l.length lc] 39 (0, 0))] G G' S T Z) → _) := fun h => HDC.out (.tail _ (.tail _ (.head _))) h
    clear HDM HDN
    have e_k0 : True := trivial
    by_cases k0 : k = 0
    · have e0 : (k == 0) = true := by simpa using k0
      clear k0
      have sl1 : (l.length : Int) ≤ (cap2 : Int) := by have := HC2.out.1; omega
      have CA : Hid (∀ {G S T} {Y : World}, Hid (Tw At W hb gb [(g2_, .cells cur2 23 (0, 0)), (g1_, .cells cur1 9 (0, 0)), (b, .cells #[.int .i64 k, .int .i64 v.kd, .int .i64 v.n, .string v.tx, .int .i64 x.kd, .int .i64 x.n, .string x.tx, .string nm, .int .i64 ix, .slice na ns.length nc, .slice la l.length lc] 39 (0, 0))] H G S T Y) → Calls Tryd.prog 19 #[.pointer (some ⟨hb, 0, none⟩), .slice (some ⟨g2_, 0, none⟩) l.length cap2] Y (Chg At hb S Y (.agg #[.int .i64 5, .int .i64 (H.length : Nat), .string ⟨#[]⟩]) (H ++ [arrT l]))) := fun h => HP.out.arr (fun j => j = g2_) _ l h.out.a HSM.out HLO.out (by have := HLL.out; omega) (vs_row (h.out.m _ (.head _)).1 HP2.out) (fun j hj => by subst hj; exact (h.out.m _ (.head _)).2.1)
      have CD : Hid (∀ {G S T} {Y : World}, Hid (Tw At W hb gb [(g2_, .cells cur2 23 (0, 0)), (g1_, .cells cur1 9 (0, 0)), (b, .cells #[.int .i64 k, .int .i64 v.kd, .int .i64 v.n, .string v.tx, .int .i64 x.kd, .int .i64 x.n, .string x.tx, .string nm, .int .i64 ix, .slice na ns.length nc, .slice la l.length lc] 39 (0, 0))] G H S T Y) → Calls Tryd.prog 32 #[.pointer (some ⟨gb, 0, none⟩), .slice la l.length lc] Y (Chg dAt gb T Y (.agg #[.int .i64 5, .int .i64 (H.length : Nat), .string ⟨#[]⟩]) (H ++ [arrT l]))) := fun h => eArr h.out.d HSM.out (fun j => j < W.heap.size) _ l (by have := HLL.out; omega) (HLS.out.bel h.out.b)
      have eq1 : ∀ Y, (binOp .eql 23 (.agg #[.int .i64 5, .int .i64 (H.length : Nat), .string ⟨#[]⟩]) (.agg #[.int .i64 5, .int .i64 (H.length : Nat), .string ⟨#[]⟩])).run Tryd.prog Y = .ok (.bool true) Y := fun Y => val_eqv Y _ _ _
      have HBN : Hid (bdV (H ++ [arrT l]) (i + 1)) := bdv_arr HBD.out l HLL.out
      go_upto_region 6 with fail
      clear e0
      have hs := Tw.drew HP hs
      refine region_held (fun Z => Z.cell? ⟨b, 0, none⟩ = some (.int .i64 k) ∧ (Z.cell? ⟨b, 1, none⟩ = some (.int .i64 v.kd) ∧ Z.cell? ⟨b, 2, none⟩ = some (.int .i64 v.n) ∧ Z.cell? ⟨b, 3, none⟩ = some (.string v.tx)) ∧ (Z.cell? ⟨b, 4, none⟩ = some (.int .i64 x.kd) ∧ Z.cell? ⟨b, 5, none⟩ = some (.int .i64 x.n) ∧ Z.cell? ⟨b, 6, none⟩ = some (.string x.tx)) ∧ Z.cell? ⟨b, 7, none⟩ = some (.string nm) ∧ Z.cell? ⟨b, 8, none⟩ = some (.int .i64 ix) ∧ Z.cell? ⟨b, 9, none⟩ = some (.slice na ns.length nc) ∧ Z.cell? ⟨b, 10, none⟩ = some (.slice la l.length lc)) (by kernel_rfl) (HDO.out hs) (fun hS => ?_)
      generalize World.drew _ = XD at hs hS ⊢
      refine tH 0 ?_
      simp only [List.set]
      refine tH 1 ?_
      simp only [List.set]
      refine tH 2 ?_
      simp only [List.set]
      refine tH 3 (v := .slice la l.length lc) ?_
      simp only [List.set]
      refine tH 4 (v := .int .i64 (l.length : Nat)) ?_
      simp only [List.set]
      refine tH 5 (v := .slice (some ⟨g2_, 0, none⟩) l.length cap2) ?_
      simp only [List.set]
      refine tH 7 ?_
      simp only [List.set]
      refine tH 8 ?_
      simp only [List.set]
      refine tH 9 (v := .slice la l.length lc) ?_
      simp only [List.set]
      refine wpAnyH_ready (rs := [6]) (by kernel_rfl) (by simp) ?_
      refine AllReadyH.cons rfl (fun K hK => ?_) AllReadyH.nil
      go_simp
      go_at_call 19
      refine (CA.out hs).mono ?_
      rintro e Yn ⟨rfl, Sn, hAn, kn, subn⟩
      have hs := Tw.chgA HP hs hAn kn subn
      clear hAn kn subn hS
      refine hK.out _ _ (HDO.out hs) (fun hS => ?_)
      clear hK K
      refine wpAnyH_ready (rs := [10]) (by kernel_rfl) (by simp) ?_
      refine AllReadyH.cons rfl (fun K hK => ?_) AllReadyH.nil
      go_simp
      go_at_call 32
      refine (CD.out hs).mono ?_
      rintro e Yn ⟨rfl, Sn, hAn, kn, subn⟩
      have hs := Tw.chgD HP hs hAn kn subn
      clear hAn kn subn hS
      refine hK.out _ _ (HDO.out hs) (fun hS => ?_)
      clear hK K
      refine tH 11 (v := .bool true) ?_
      simp only [List.set]
      refine tH 12 ?_
      simp only [List.set]
      refine wpAnyH_done (by kernel_rfl) ?_ _
      clear hS
      repeat go_step
      go_meet
      exact ⟨rfl, _, _, _, hs, HBN⟩
    · have e0 : (k == 0) = false := by simpa using k0
      clear k0
      by_cases k1 : k = 1
      · have e1 : (k == 1) = true := by simpa using k1
        clear k1
        have sl1 : (l.length : Int) ≤ (cap2 : Int) := by have := HC2.out.1; omega
        have sl2 : (ns.length : Int) ≤ (cap1 : Int) := by have := HC1.out.1; omega
        have CA : Hid (∀ {G S T} {Y : World}, Hid (Tw At W hb gb [(g2_, .cells cur2 23 (0, 0)), (g1_, .cells cur1 9 (0, 0)), (b, .cells #[.int .i64 k, .int .i64 v.kd, .int .i64 v.n, .string v.tx, .int .i64 x.kd, .int .i64 x.n, .string x.tx, .string nm, .int .i64 ix, .slice na ns.length nc, .slice la l.length lc] 39 (0, 0))] H G S T Y) → Calls Tryd.prog 20 #[.pointer (some ⟨hb, 0, none⟩), .slice (some ⟨g1_, 0, none⟩) ns.length cap1, .slice (some ⟨g2_, 0, none⟩) l.length cap2] Y (Chg At hb S Y (.agg #[.int .i64 6, .int .i64 (H.length : Nat), .string ⟨#[]⟩]) (H ++ [objT ns l ⟨true, [], []⟩]))) := fun h => HP.out.obj (fun j => j = g1_ ∨ j = g2_) _ _ ns l h.out.a HSM.out HLO.out HNO.out (by have := HNL.out; omega) (by have := HLL.out; omega) ((ns_row (h.out.m _ (.tail _ (.head _))).1 HP1.out).mono (fun j q => .inl q)) ((vs_row (h.out.m _ (.head _)).1 HP2.out).mono (fun j q => .inr q)) (fun j hj => by rcases hj with rfl | rfl; exact (h.out.m _ (.tail _ (.head _))).2.1; exact (h.out.m _ (.head _)).2.1)
        have CD : Hid (∀ {G S T} {Y : World}, Hid (Tw At W hb gb [(g2_, .cells cur2 23 (0, 0)), (g1_, .cells cur1 9 (0, 0)), (b, .cells #[.int .i64 k, .int .i64 v.kd, .int .i64 v.n, .string v.tx, .int .i64 x.kd, .int .i64 x.n, .string x.tx, .string nm, .int .i64 ix, .slice na ns.length nc, .slice la l.length lc] 39 (0, 0))] G H S T Y) → Calls Tryd.prog 33 #[.pointer (some ⟨gb, 0, none⟩), .slice na ns.length nc, .slice la l.length lc] Y (Chg dAt gb T Y (.agg #[.int .i64 6, .int .i64 (H.length : Nat), .string ⟨#[]⟩]) (H ++ [objT ns l ⟨true, [], []⟩]))) := fun h => eObj h.out.d HSM.out (fun j => j < W.heap.size) _ _ ns l (by have := HNL.out; omega) (by have := HLL.out; omega) (HNS.out.bel h.out.b) (HLS.out.bel h.out.b) (fun j hj q => by have := h.out.t j q; omega)
        have eq1 : ∀ Y, (binOp .eql 23 (.agg #[.int .i64 6, .int .i64 (H.length : Nat), .string ⟨#[]⟩]) (.agg #[.int .i64 6, .int .i64 (H.length : Nat), .string ⟨#[]⟩])).run Tryd.prog Y = .ok (.bool true) Y := fun Y => val_eqv Y _ _ _
        have HBN : Hid (bdV (H ++ [objT ns l ⟨true, [], []⟩]) (i + 1)) := bdv_obj HBD.out ns l HLL.out
        go_upto_region 8 with fail
        clear e0 e1
        have hs := Tw.drew HP hs
        refine region_held (fun Z => Z.cell? ⟨b, 0, none⟩ = some (.int .i64 k) ∧ (Z.cell? ⟨b, 1, none⟩ = some (.int .i64 v.kd) ∧ Z.cell? ⟨b, 2, none⟩ = some (.int .i64 v.n) ∧ Z.cell? ⟨b, 3, none⟩ = some (.string v.tx)) ∧ (Z.cell? ⟨b, 4, none⟩ = some (.int .i64 x.kd) ∧ Z.cell? ⟨b, 5, none⟩ = some (.int .i64 x.n) ∧ Z.cell? ⟨b, 6, none⟩ = some (.string x.tx)) ∧ Z.cell? ⟨b, 7, none⟩ = some (.string nm) ∧ Z.cell? ⟨b, 8, none⟩ = some (.int .i64 ix) ∧ Z.cell? ⟨b, 9, none⟩ = some (.slice na ns.length nc) ∧ Z.cell? ⟨b, 10, none⟩ = some (.slice la l.length lc)) (by kernel_rfl) (HDO.out hs) (fun hS => ?_)
        generalize World.drew _ = XD at hs hS ⊢
        refine tH 0 ?_
        simp only [List.set]
        refine tH 1 ?_
        simp only [List.set]
        refine tH 2 ?_
        simp only [List.set]
        refine tH 3 (v := .slice na ns.length nc) ?_
        simp only [List.set]
        refine tH 4 (v := .int .i64 (ns.length : Nat)) ?_
        simp only [List.set]
        refine tH 5 (v := .slice (some ⟨g1_, 0, none⟩) ns.length cap1) ?_
        simp only [List.set]
        refine tH 6 ?_
        simp only [List.set]
        refine tH 7 ?_
        simp only [List.set]
        refine tH 8 (v := .slice la l.length lc) ?_
        simp only [List.set]
        refine tH 9 (v := .int .i64 (l.length : Nat)) ?_
        simp only [List.set]
        refine tH 10 (v := .slice (some ⟨g2_, 0, none⟩) l.length cap2) ?_
        simp only [List.set]
        refine tH 12 ?_
        simp only [List.set]
        refine tH 13 ?_
        simp only [List.set]
        refine tH 14 (v := .slice na ns.length nc) ?_
        simp only [List.set]
        refine tH 15 ?_
        simp only [List.set]
        refine tH 16 (v := .slice la l.length lc) ?_
        simp only [List.set]
        refine wpAnyH_ready (rs := [11]) (by kernel_rfl) (by simp) ?_
        refine AllReadyH.cons rfl (fun K hK => ?_) AllReadyH.nil
        go_simp
        go_at_call 20
        refine (CA.out hs).mono ?_
        rintro e Yn ⟨rfl, Sn, hAn, kn, subn⟩
        have hs := Tw.chgA HP hs hAn kn subn
        clear hAn kn subn hS
        refine hK.out _ _ (HDO.out hs) (fun hS => ?_)
        clear hK K
        refine wpAnyH_ready (rs := [17]) (by kernel_rfl) (by simp) ?_
        refine AllReadyH.cons rfl (fun K hK => ?_) AllReadyH.nil
        go_simp
        go_at_call 33
        refine (CD.out hs).mono ?_
        rintro e Yn ⟨rfl, Sn, hAn, kn, subn⟩
        have hs := Tw.chgD HP hs hAn kn subn
        clear hAn kn subn hS
        refine hK.out _ _ (HDO.out hs) (fun hS => ?_)
        clear hK K
        refine tH 18 (v := .bool true) ?_
        simp only [List.set]
        refine tH 19 ?_
        simp only [List.set]
        refine wpAnyH_done (by kernel_rfl) ?_ _
        clear hS
        repeat go_step
        go_meet
        exact ⟨rfl, _, _, _, hs, HBN⟩
      · have e1 : (k == 1) = false := by simpa using k1
        clear k1
        by_cases k2 : k = 2
        · have e2 : (k == 2) = true := by simpa using k2
          clear k2
          have CA : Hid (∀ {G S T} {Y : World}, Hid (Tw At W hb gb [(g2_, .cells cur2 23 (0, 0)), (g1_, .cells cur1 9 (0, 0)), (b, .cells #[.int .i64 k, .int .i64 v.kd, .int .i64 v.n, .string v.tx, .int .i64 x.kd, .int .i64 x.n, .string x.tx, .string nm, .int .i64 ix, .slice na ns.length nc, .slice la l.length lc] 39 (0, 0))] H G S T Y) → Calls Tryd.prog 22 #[.pointer (some ⟨hb, 0, none⟩), .agg #[.int .i64 v.kd, .int .i64 v.n, .string v.tx], .string nm, .agg #[.int .i64 x.kd, .int .i64 x.n, .string x.tx]] Y (Chg At hb S Y (.bool (isH H v true)) (setH H v nm x))) := fun h => HP.out.set v nm x h.out.a HSM.out HOV.out HOX.out HNM.out
          have CD : Hid (∀ {G S T} {Y : World}, Hid (Tw At W hb gb [(g2_, .cells cur2 23 (0, 0)), (g1_, .cells cur1 9 (0, 0)), (b, .cells #[.int .i64 k, .int .i64 v.kd, .int .i64 v.n, .string v.tx, .int .i64 x.kd, .int .i64 x.n, .string x.tx, .string nm, .int .i64 ix, .slice na ns.length nc, .slice la l.length lc] 39 (0, 0))] G H S T Y) → Calls Tryd.prog 34 #[.pointer (some ⟨gb, 0, none⟩), .agg #[.int .i64 v.kd, .int .i64 v.n, .string v.tx], .string nm, .agg #[.int .i64 x.kd, .int .i64 x.n, .string x.tx]] Y (Chg dAt gb T Y (.bool (isH H v true)) (setH H v nm x))) := fun h => eSet h.out.d HSM.out v nm x
          have HBN : Hid (bdV (setH H v nm x) (i + 1)) := bdv_set HBD.out v nm x
          obtain ⟨rb, hrb⟩ : ∃ q, isH H v true = q := ⟨_, rfl⟩
          rw [hrb] at CA CD
          clear hrb
          go_upto_region 10 with fail
          clear e0 e1 e2
          have hs := Tw.drew HP hs
          refine region_held (fun Z => Z.cell? ⟨b, 0, none⟩ = some (.int .i64 k) ∧ (Z.cell? ⟨b, 1, none⟩ = some (.int .i64 v.kd) ∧ Z.cell? ⟨b, 2, none⟩ = some (.int .i64 v.n) ∧ Z.cell? ⟨b, 3, none⟩ = some (.string v.tx)) ∧ (Z.cell? ⟨b, 4, none⟩ = some (.int .i64 x.kd) ∧ Z.cell? ⟨b, 5, none⟩ = some (.int .i64 x.n) ∧ Z.cell? ⟨b, 6, none⟩ = some (.string x.tx)) ∧ Z.cell? ⟨b, 7, none⟩ = some (.string nm) ∧ Z.cell? ⟨b, 8, none⟩ = some (.int .i64 ix) ∧ Z.cell? ⟨b, 9, none⟩ = some (.slice na ns.length nc) ∧ Z.cell? ⟨b, 10, none⟩ = some (.slice la l.length lc)) (by kernel_rfl) (HDO.out hs) (fun hS => ?_)
          generalize World.drew _ = XD at hs hS ⊢
          refine tH 0 ?_
          simp only [List.set]
          refine tH 1 ?_
          simp only [List.set]
          refine tH 2 (v := .agg #[.int .i64 v.kd, .int .i64 v.n, .string v.tx]) ?_
          simp only [List.set]
          refine tH 3 ?_
          simp only [List.set]
          refine tH 4 (v := .string nm) ?_
          simp only [List.set]
          refine tH 5 ?_
          simp only [List.set]
          refine tH 6 (v := .agg #[.int .i64 x.kd, .int .i64 x.n, .string x.tx]) ?_
          simp only [List.set]
          refine tH 8 ?_
          simp only [List.set]
          refine tH 9 ?_
          simp only [List.set]
          refine tH 10 (v := .agg #[.int .i64 v.kd, .int .i64 v.n, .string v.tx]) ?_
          simp only [List.set]
          refine tH 11 ?_
          simp only [List.set]
          refine tH 12 (v := .string nm) ?_
          simp only [List.set]
          refine tH 13 ?_
          simp only [List.set]
          refine tH 14 (v := .agg #[.int .i64 x.kd, .int .i64 x.n, .string x.tx]) ?_
          simp only [List.set]
          refine wpAnyH_ready (rs := [7]) (by kernel_rfl) (by simp) ?_
          refine AllReadyH.cons rfl (fun K hK => ?_) AllReadyH.nil
          go_simp
          go_at_call 22
          refine (CA.out hs).mono ?_
          rintro e Yn ⟨rfl, Sn, hAn, kn, subn⟩
          have hs := Tw.chgA HP hs hAn kn subn
          clear hAn kn subn hS
          refine hK.out _ _ (HDO.out hs) (fun hS => ?_)
          clear hK K
          refine wpAnyH_ready (rs := [15]) (by kernel_rfl) (by simp) ?_
          refine AllReadyH.cons rfl (fun K hK => ?_) AllReadyH.nil
          go_simp
          go_at_call 34
          refine (CD.out hs).mono ?_
          rintro e Yn ⟨rfl, Sn, hAn, kn, subn⟩
          have hs := Tw.chgD HP hs hAn kn subn
          clear hAn kn subn hS
          refine hK.out _ _ (HDO.out hs) (fun hS => ?_)
          clear hK K
          refine tH 16 (v := .bool true) ?_
          simp only [List.set]
          refine tH 17 ?_
          simp only [List.set]
          refine wpAnyH_done (by kernel_rfl) ?_ _
          clear hS
          repeat go_step
          go_meet
          exact ⟨rfl, _, _, _, hs, HBN⟩
        · have e2 : (k == 2) = false := by simpa using k2
          clear k2
          by_cases k3 : k = 3
          · have e3 : (k == 3) = true := by simpa using k3
            clear k3
            have CA : Hid (∀ {G S T} {Y : World}, Hid (Tw At W hb gb [(g2_, .cells cur2 23 (0, 0)), (g1_, .cells cur1 9 (0, 0)), (b, .cells #[.int .i64 k, .int .i64 v.kd, .int .i64 v.n, .string v.tx, .int .i64 x.kd, .int .i64 x.n, .string x.tx, .string nm, .int .i64 ix, .slice na ns.length nc, .slice la l.length lc] 39 (0, 0))] H G S T Y) → Calls Tryd.prog 26 #[.pointer (some ⟨hb, 0, none⟩), .agg #[.int .i64 v.kd, .int .i64 v.n, .string v.tx], .int .i64 ix, .agg #[.int .i64 x.kd, .int .i64 x.n, .string x.tx]] Y (Chg At hb S Y (.bool (putB H v ix)) (putH H v ix x))) := fun h => HP.out.put v ix x h.out.a HSM.out HOV.out HOX.out HIX.out.1 HIX.out.2
            have CD : Hid (∀ {G S T} {Y : World}, Hid (Tw At W hb gb [(g2_, .cells cur2 23 (0, 0)), (g1_, .cells cur1 9 (0, 0)), (b, .cells #[.int .i64 k, .int .i64 v.kd, .int .i64 v.n, .string v.tx, .int .i64 x.kd, .int .i64 x.n, .string x.tx, .string nm, .int .i64 ix, .slice na ns.length nc, .slice la l.length lc] 39 (0, 0))] G H S T Y) → Calls Tryd.prog 35 #[.pointer (some ⟨gb, 0, none⟩), .agg #[.int .i64 v.kd, .int .i64 v.n, .string v.tx], .int .i64 ix, .agg #[.int .i64 x.kd, .int .i64 x.n, .string x.tx]] Y (Chg dAt gb T Y (.bool (putB H v ix)) (putH H v ix x))) := fun h => ePut h.out.d HSM.out v ix x
            have HBN : Hid (bdV (putH H v ix x) (i + 1)) := bdv_put HBD.out v ix x
            obtain ⟨rb, hrb⟩ : ∃ q, putB H v ix = q := ⟨_, rfl⟩
            rw [hrb] at CA CD
            clear hrb
            go_upto_region 12 with fail
            clear e0 e1 e2 e3
            have hs := Tw.drew HP hs
            refine region_held (fun Z => Z.cell? ⟨b, 0, none⟩ = some (.int .i64 k) ∧ (Z.cell? ⟨b, 1, none⟩ = some (.int .i64 v.kd) ∧ Z.cell? ⟨b, 2, none⟩ = some (.int .i64 v.n) ∧ Z.cell? ⟨b, 3, none⟩ = some (.string v.tx)) ∧ (Z.cell? ⟨b, 4, none⟩ = some (.int .i64 x.kd) ∧ Z.cell? ⟨b, 5, none⟩ = some (.int .i64 x.n) ∧ Z.cell? ⟨b, 6, none⟩ = some (.string x.tx)) ∧ Z.cell? ⟨b, 7, none⟩ = some (.string nm) ∧ Z.cell? ⟨b, 8, none⟩ = some (.int .i64 ix) ∧ Z.cell? ⟨b, 9, none⟩ = some (.slice na ns.length nc) ∧ Z.cell? ⟨b, 10, none⟩ = some (.slice la l.length lc)) (by kernel_rfl) (HDO.out hs) (fun hS => ?_)
            generalize World.drew _ = XD at hs hS ⊢
            refine tH 0 ?_
            simp only [List.set]
            refine tH 1 ?_
            simp only [List.set]
            refine tH 2 (v := .agg #[.int .i64 v.kd, .int .i64 v.n, .string v.tx]) ?_
            simp only [List.set]
            refine tH 3 ?_
            simp only [List.set]
            refine tH 4 (v := .int .i64 ix) ?_
            simp only [List.set]
            refine tH 5 ?_
            simp only [List.set]
            refine tH 6 (v := .agg #[.int .i64 x.kd, .int .i64 x.n, .string x.tx]) ?_
            simp only [List.set]
            refine tH 8 ?_
            simp only [List.set]
            refine tH 9 ?_
            simp only [List.set]
            refine tH 10 (v := .agg #[.int .i64 v.kd, .int .i64 v.n, .string v.tx]) ?_
            simp only [List.set]
            refine tH 11 ?_
            simp only [List.set]
            refine tH 12 (v := .int .i64 ix) ?_
            simp only [List.set]
            refine tH 13 ?_
            simp only [List.set]
            refine tH 14 (v := .agg #[.int .i64 x.kd, .int .i64 x.n, .string x.tx]) ?_
            simp only [List.set]
            refine wpAnyH_ready (rs := [7]) (by kernel_rfl) (by simp) ?_
            refine AllReadyH.cons rfl (fun K hK => ?_) AllReadyH.nil
            go_simp
            go_at_call 26
            refine (CA.out hs).mono ?_
            rintro e Yn ⟨rfl, Sn, hAn, kn, subn⟩
            have hs := Tw.chgA HP hs hAn kn subn
            clear hAn kn subn hS
            refine hK.out _ _ (HDO.out hs) (fun hS => ?_)
            clear hK K
            refine wpAnyH_ready (rs := [15]) (by kernel_rfl) (by simp) ?_
            refine AllReadyH.cons rfl (fun K hK => ?_) AllReadyH.nil
            go_simp
            go_at_call 35
            refine (CD.out hs).mono ?_
            rintro e Yn ⟨rfl, Sn, hAn, kn, subn⟩
            have hs := Tw.chgD HP hs hAn kn subn
            clear hAn kn subn hS
            refine hK.out _ _ (HDO.out hs) (fun hS => ?_)
            clear hK K
            refine tH 16 (v := .bool true) ?_
            simp only [List.set]
            refine tH 17 ?_
            simp only [List.set]
            refine wpAnyH_done (by kernel_rfl) ?_ _
            clear hS
            repeat go_step
            go_meet
            exact ⟨rfl, _, _, _, hs, HBN⟩
          · have e3 : (k == 3) = false := by simpa using k3
            clear k3
            by_cases k4 : k = 4
            · have e4 : (k == 4) = true := by simpa using k4
              clear k4
              have CA : Hid (∀ {G S T} {Y : World}, Hid (Tw At W hb gb [(g2_, .cells cur2 23 (0, 0)), (g1_, .cells cur1 9 (0, 0)), (b, .cells #[.int .i64 k, .int .i64 v.kd, .int .i64 v.n, .string v.tx, .int .i64 x.kd, .int .i64 x.n, .string x.tx, .string nm, .int .i64 ix, .slice na ns.length nc, .slice la l.length lc] 39 (0, 0))] H G S T Y) → Calls Tryd.prog 21 #[.pointer (some ⟨hb, 0, none⟩), .agg #[.int .i64 v.kd, .int .i64 v.n, .string v.tx], .agg #[.int .i64 x.kd, .int .i64 x.n, .string x.tx]] Y (Chg At hb S Y (.bool (isH H v false)) (pshH H v x))) := fun h => HP.out.psh v x h.out.a HSM.out HOV.out HOX.out
              have CD : Hid (∀ {G S T} {Y : World}, Hid (Tw At W hb gb [(g2_, .cells cur2 23 (0, 0)), (g1_, .cells cur1 9 (0, 0)), (b, .cells #[.int .i64 k, .int .i64 v.kd, .int .i64 v.n, .string v.tx, .int .i64 x.kd, .int .i64 x.n, .string x.tx, .string nm, .int .i64 ix, .slice na ns.length nc, .slice la l.length lc] 39 (0, 0))] G H S T Y) → Calls Tryd.prog 36 #[.pointer (some ⟨gb, 0, none⟩), .agg #[.int .i64 v.kd, .int .i64 v.n, .string v.tx], .agg #[.int .i64 x.kd, .int .i64 x.n, .string x.tx]] Y (Chg dAt gb T Y (.bool (isH H v false)) (pshH H v x))) := fun h => ePsh h.out.d HSM.out v x
              have HBN : Hid (bdV (pshH H v x) (i + 1)) := bdv_psh HBD.out v x
              obtain ⟨rb, hrb⟩ : ∃ q, isH H v false = q := ⟨_, rfl⟩
              rw [hrb] at CA CD
              clear hrb
              go_upto_region 14 with fail
              clear e0 e1 e2 e3 e4
              have hs := Tw.drew HP hs
              refine region_held (fun Z => Z.cell? ⟨b, 0, none⟩ = some (.int .i64 k) ∧ (Z.cell? ⟨b, 1, none⟩ = some (.int .i64 v.kd) ∧ Z.cell? ⟨b, 2, none⟩ = some (.int .i64 v.n) ∧ Z.cell? ⟨b, 3, none⟩ = some (.string v.tx)) ∧ (Z.cell? ⟨b, 4, none⟩ = some (.int .i64 x.kd) ∧ Z.cell? ⟨b, 5, none⟩ = some (.int .i64 x.n) ∧ Z.cell? ⟨b, 6, none⟩ = some (.string x.tx)) ∧ Z.cell? ⟨b, 7, none⟩ = some (.string nm) ∧ Z.cell? ⟨b, 8, none⟩ = some (.int .i64 ix) ∧ Z.cell? ⟨b, 9, none⟩ = some (.slice na ns.length nc) ∧ Z.cell? ⟨b, 10, none⟩ = some (.slice la l.length lc)) (by kernel_rfl) (HDO.out hs) (fun hS => ?_)
              generalize World.drew _ = XD at hs hS ⊢
              refine tH 0 ?_
              simp only [List.set]
              refine tH 1 ?_
              simp only [List.set]
              refine tH 2 (v := .agg #[.int .i64 v.kd, .int .i64 v.n, .string v.tx]) ?_
              simp only [List.set]
              refine tH 3 ?_
              simp only [List.set]
              refine tH 4 (v := .agg #[.int .i64 x.kd, .int .i64 x.n, .string x.tx]) ?_
              simp only [List.set]
              refine tH 6 ?_
              simp only [List.set]
              refine tH 7 ?_
              simp only [List.set]
              refine tH 8 (v := .agg #[.int .i64 v.kd, .int .i64 v.n, .string v.tx]) ?_
              simp only [List.set]
              refine tH 9 ?_
              simp only [List.set]
              refine tH 10 (v := .agg #[.int .i64 x.kd, .int .i64 x.n, .string x.tx]) ?_
              simp only [List.set]
              refine wpAnyH_ready (rs := [5]) (by kernel_rfl) (by simp) ?_
              refine AllReadyH.cons rfl (fun K hK => ?_) AllReadyH.nil
              go_simp
              go_at_call 21
              refine (CA.out hs).mono ?_
              rintro e Yn ⟨rfl, Sn, hAn, kn, subn⟩
              have hs := Tw.chgA HP hs hAn kn subn
              clear hAn kn subn hS
              refine hK.out _ _ (HDO.out hs) (fun hS => ?_)
              clear hK K
              refine wpAnyH_ready (rs := [11]) (by kernel_rfl) (by simp) ?_
              refine AllReadyH.cons rfl (fun K hK => ?_) AllReadyH.nil
              go_simp
              go_at_call 36
              refine (CD.out hs).mono ?_
              rintro e Yn ⟨rfl, Sn, hAn, kn, subn⟩
              have hs := Tw.chgD HP hs hAn kn subn
              clear hAn kn subn hS
              refine hK.out _ _ (HDO.out hs) (fun hS => ?_)
              clear hK K
              refine tH 12 (v := .bool true) ?_
              simp only [List.set]
              refine tH 13 ?_
              simp only [List.set]
              refine wpAnyH_done (by kernel_rfl) ?_ _
              clear hS
              repeat go_step
              go_meet
              exact ⟨rfl, _, _, _, hs, HBN⟩
            · have e4 : (k == 4) = false := by simpa using k4
              clear k4
              go_wp2
              go_meet
              exact ⟨rfl, _, _, _, hs, HBD.out.mono (by omega)⟩
  case rest =>
    obtain ⟨rfl, H', S', T', hs, HB'⟩ := hcut
    clear HBD
    have HDO : Hid (∀ {L G G' S T} {Z : World}, (b, .cells #[.int .i64 k, .int .i64 v.kd, .int .i64 v.n, .string v.tx, .int .i64 x.kd, .int .i64 x.n, .string x.tx, .string nm, .int .i64 ix, .slice na ns.length nc, .slice la l.length lc] 39 (0, 0)) ∈ L → Hid (Tw At W hb gb L G G' S T Z) → Z.cell? ⟨b, 9, none⟩ = some (.slice na ns.length nc) ∧ Z.cell? ⟨b, 10, none⟩ = some (.slice la l.length lc)) := fun hm h => ⟨(HDC.out hm h).2.2.2.2.2.1, (HDC.out hm h).2.2.2.2.2.2⟩
    have HR : Hid (∀ {G G' S T} {Z : World}, Hid (Tw At W hb gb [(g2_, .cells cur2 23 (0, 0)), (g1_, .cells cur1 9 (0, 0)), (b, .cells #[.int .i64 k, .int .i64 v.kd, .int .i64 v.n, .string v.tx, .int .i64 x.kd, .int .i64 x.n, .string x.tx, .string nm, .int .i64 ix, .slice na ns.length nc, .slice la l.length lc] 39 (0, 0))] G G' S T Z) → (Z.cell? ⟨b, 9, none⟩ = some (.slice na ns.length nc) ∧ Z.cell? ⟨b, 10, none⟩ = some (.slice la l.length lc)) ∧ Z.cell? ⟨g1_, ns.length, none⟩ = some (.string ⟨#[115, 112, 97, 114, 101]⟩) ∧ Z.cell? ⟨g2_, l.length * 3, none⟩ = some (.int .i64 3) ∧ Z.cell? ⟨g2_, l.length * 3 + 1, none⟩ = some (.int .i64 77) ∧ Z.cell? ⟨g2_, l.length * 3 + 2, none⟩ = some (.string ⟨#[]⟩)) := fun h => by
      have e2 : ∀ j, j < 3 → _ := fun j hj => pre_cell (h.out.m _ (.head _)).1 HP2.out (l.length * 3 + j) (by rw [List.length_append, csl_len]; show _ < _ + 3; omega)
      have e1 := pre_cell (h.out.m _ (.tail _ (.head _))).1 HP1.out ns.length (by simp)
      refine ⟨HDO.out (.tail _ (.tail _ (.head _))) h, e1.trans (by simp), (e2 0 (by omega)).trans ?_, (e2 1 (by omega)).trans ?_, (e2 2 (by omega)).trans ?_⟩ <;> rw [List.getElem?_append_right (by rw [csl_len]; omega), csl_len] <;> simp
    go_upto_region 15 with fail
    have ix1 : (ns.length : Int) < ((ns.length : Int) + 1) := by omega
    have ix2 : (l.length : Int) < ((l.length : Int) + 1) := by omega
    go_cut [9] from 113 to 132 (fun u9 X => u9 = .bool true ∧ Hid (Tw At W hb gb [(g2_, .cells cur2 23 (0, 0)), (g1_, .cells cur1 9 (0, 0)), (b, .cells #[.int .i64 k, .int .i64 v.kd, .int .i64 v.n, .string v.tx, .int .i64 x.kd, .int .i64 x.n, .string x.tx, .string nm, .int .i64 ix, .slice na ns.length nc, .slice la l.length lc] 39 (0, 0))] H' H' S' T' X))
    case first =>
      have eq1 : ∀ Y, (binOp .eql 23 (.agg #[.int .i64 3, .int .i64 77, .string ⟨#[]⟩]) (.agg #[.int .i64 3, .int .i64 77, .string ⟨#[]⟩])).run Tryd.prog Y = .ok (.bool true) Y := fun Y => val_eqv Y _ _ _
      have hs := Tw.drew HP hs
      refine region_held (fun Z => (Z.cell? ⟨b, 9, none⟩ = some (.slice na ns.length nc) ∧ Z.cell? ⟨b, 10, none⟩ = some (.slice la l.length lc)) ∧ Z.cell? ⟨g1_, ns.length, none⟩ = some (.string ⟨#[115, 112, 97, 114, 101]⟩) ∧ Z.cell? ⟨g2_, l.length * 3, none⟩ = some (.int .i64 3) ∧ Z.cell? ⟨g2_, l.length * 3 + 1, none⟩ = some (.int .i64 77) ∧ Z.cell? ⟨g2_, l.length * 3 + 2, none⟩ = some (.string ⟨#[]⟩)) (by kernel_rfl) (HR.out hs) (fun hS => ?_)
      generalize World.drew _ = XD at hs hS ⊢
      refine tH 0 ?_
      simp only [List.set]
      refine tH 1 ?_
      simp only [List.set]
      refine tH 2 ?_
      simp only [List.set]
      refine tH 3 ?_
      simp only [List.set]
      refine tH 4 (v := .slice na ns.length nc) ?_
      simp only [List.set]
      refine tH 5 (v := .int .i64 (ns.length : Nat)) ?_
      simp only [List.set]
      refine tH 6 (v := .pointer (some ⟨g1_, ns.length, none⟩)) ?_
      simp only [List.set]
      refine tH 7 (v := .string ⟨#[115, 112, 97, 114, 101]⟩) ?_
      simp only [List.set]
      refine tH 8 (v := .bool true) ?_
      simp only [List.set]
      refine tH 9 ?_
      simp only [List.set]
      refine tH 10 ?_
      simp only [List.set]
      refine tH 11 ?_
      simp only [List.set]
      refine tH 12 ?_
      simp only [List.set]
      refine tH 13 (v := .slice la l.length lc) ?_
      simp only [List.set]
      refine tH 14 (v := .int .i64 (l.length : Nat)) ?_
      simp only [List.set]
      refine tH 15 (v := .pointer (some ⟨g2_, l.length * 3, none⟩)) ?_
      simp only [List.set]
      refine tH 16 (v := .agg #[.int .i64 3, .int .i64 77, .string ⟨#[]⟩]) ?_
      simp only [List.set]
      refine wpAnyH_ready (rs := [17]) (by kernel_rfl) (by simp) ?_
      refine AllReadyH.cons rfl (fun K hK => ?_) AllReadyH.nil
      go_simp
      go_at_call 31
      refine (number_any _ _).mono ?_
      rintro e Yn ⟨rfl, bb⟩
      have hs := Tw.bel HP hs bb
      clear bb hS
      refine hK.out _ _ (HR.out hs) (fun hS => ?_)
      clear hK K
      refine tH 18 (v := .bool true) ?_
      simp only [List.set]
      refine tH 19 ?_
      simp only [List.set]
      refine tH 20 ?_
      simp only [List.set]
      refine wpAnyH_done (by kernel_rfl) ?_ _
      clear hS
      repeat go_step
      go_meet
      exact ⟨rfl, hs⟩
    case rest =>
      obtain ⟨rfl, hs⟩ := hcut
      clear HR ix1 ix2
      have HG2 : Hid (W.heap.size ≤ g2_) := HGW.out.2
      have HCS : Hid (∀ j, j < (l.length + 1) * 3 → cur2[j]? = (l.flatMap Vl.cs ++ ([.int .i64 3, .int .i64 77, .string ⟨#[]⟩] : List Value))[j]?) := fun j hj => by
        have e := HP2.out
        have hl : (l.flatMap Vl.cs ++ ([.int .i64 3, .int .i64 77, .string ⟨#[]⟩] : List Value)).length = (l.length + 1) * 3 := by rw [List.length_append, csl_len]; show _ + 3 = _; omega
        rw [← e, List.getElem?_take, if_pos (by rw [hl]; exact hj)]
        simp
      have HL1 := HLL.out
      go_wp2
      go_loopw [9, 10] (fun v9 v10 wo => ∃ q : Nat, v9 = .bool true ∧ v10 = .int .i64 (q : Nat) ∧ q ≤ l.length + 1 ∧ ∃ cur : Array Value, Hid (Tw At W hb gb [(g2_, .cells cur 23 (0, 0)), (g1_, .cells cur1 9 (0, 0)), (b, .cells #[.int .i64 k, .int .i64 v.kd, .int .i64 v.n, .string v.tx, .int .i64 x.kd, .int .i64 x.n, .string x.tx, .string nm, .int .i64 ix, .slice na ns.length nc, .slice la l.length lc] 39 (0, 0))] H' H' S' T' wo) ∧ Hid ((∀ j, q * 3 ≤ j → j < (l.length + 1) * 3 → cur[j]? = (l.flatMap Vl.cs ++ ([.int .i64 3, .int .i64 77, .string ⟨#[]⟩] : List Value))[j]?) ∧ (l.length + 1) * 3 ≤ cur.size)) (fun _ v10 _ => l.length + 1 - (intOf v10).toNat)
      case atStart => exact ⟨0, rfl, rfl, by omega, cur2, hs, fun j _ hj => HCS.out j hj, by
          have e := congrArg List.length HP2.out
          rw [List.length_take, List.length_append, csl_len] at e
          have : cur2.toList.length = cur2.size := Array.length_toList
          simp only [List.length_cons, List.length_nil] at e
          omega⟩
      case round =>
        obtain ⟨q, rfl, rfl, hq, cur, hs, HC⟩ := hrel
        by_cases hql : q < l.length + 1
        · have hd : (q : Int) < (l.length : Int) + 1 := by omega
          go_upto_region 19 with fail
          go_cut [9] from 139 to 158 (fun u9 X => u9 = .bool true ∧ Hid (Tw At W hb gb [(g2_, .cells cur 23 (0, 0)), (g1_, .cells cur1 9 (0, 0)), (b, .cells #[.int .i64 k, .int .i64 v.kd, .int .i64 v.n, .string v.tx, .int .i64 x.kd, .int .i64 x.n, .string x.tx, .string nm, .int .i64 ix, .slice na ns.length nc, .slice la l.length lc] 39 (0, 0))] H' H' S' T' X))
          case first =>
            by_cases hqn : q = l.length
            · subst hqn
              have hs := Tw.drew HP hs
              have HR : Hid (∀ {G G' S T} {Z : World}, Hid (Tw At W hb gb [(g2_, .cells cur 23 (0, 0)), (g1_, .cells cur1 9 (0, 0)), (b, .cells #[.int .i64 k, .int .i64 v.kd, .int .i64 v.n, .string v.tx, .int .i64 x.kd, .int .i64 x.n, .string x.tx, .string nm, .int .i64 ix, .slice na ns.length nc, .slice la l.length lc] 39 (0, 0))] G G' S T Z) → Z.cell? ⟨b, 10, none⟩ = some (.slice la l.length lc)) := fun h => (HDO.out (.tail _ (.tail _ (.head _))) h).2
              refine region_held (fun Z => Z.cell? ⟨b, 10, none⟩ = some (.slice la l.length lc)) (by kernel_rfl) (HR.out hs) (fun hS => ?_)
              generalize World.drew _ = XD at hs hS ⊢
              refine tH 0 ?_
              simp only [List.set]
              refine tH 1 ?_
              simp only [List.set]
              refine tH 2 ?_
              simp only [List.set]
              refine tH 3 ?_
              simp only [List.set]
              refine tH 4 (v := .slice la l.length lc) ?_
              simp only [List.set]
              refine tH 5 (v := .int .i64 (l.length : Nat)) ?_
              simp only [List.set]
              refine tH 6 (v := .bool true) ?_
              simp only [List.set]
              refine tH 7 ?_
              simp only [List.set]
              refine tS 8 ?_
              simp only [List.set]
              refine tS 9 ?_
              simp only [List.set]
              refine tS 10 ?_
              simp only [List.set]
              refine tS 11 ?_
              simp only [List.set]
              refine tS 12 ?_
              simp only [List.set]
              refine tS 13 ?_
              simp only [List.set]
              refine tS 14 ?_
              simp only [List.set]
              refine tS 15 ?_
              simp only [List.set]
              refine tS 16 ?_
              simp only [List.set]
              refine tS 17 ?_
              simp only [List.set]
              refine tH 18 (v := .bool true) ?_
              simp only [List.set]
              refine tH 19 ?_
              simp only [List.set]
              refine tH 20 ?_
              simp only [List.set]
              refine wpAnyH_done (by kernel_rfl) ?_ _
              clear hS
              repeat go_step
              go_meet
              exact ⟨rfl, hs⟩
            · have hqm : q < l.length := by omega
              have hne : ((q : Int) == (l.length : Int)) = false := by simp; omega
              have hqi : (q : Int) < (l.length : Int) := by omega
              have HQR : Hid (∀ {G G' S T} {Z : World}, Hid (Tw At W hb gb [(g2_, .cells cur 23 (0, 0)), (g1_, .cells cur1 9 (0, 0)), (b, .cells #[.int .i64 k, .int .i64 v.kd, .int .i64 v.n, .string v.tx, .int .i64 x.kd, .int .i64 x.n, .string x.tx, .string nm, .int .i64 ix, .slice na ns.length nc, .slice la l.length lc] 39 (0, 0))] G G' S T Z) → ∃ lb lo, la = some ⟨lb, lo, none⟩ ∧ (Z.cell? ⟨lb, lo + q * 3, none⟩ = some (.int .i64 l[q].kd) ∧ Z.cell? ⟨lb, lo + q * 3 + 1, none⟩ = some (.int .i64 l[q].n) ∧ Z.cell? ⟨lb, lo + q * 3 + 2, none⟩ = some (.string l[q].tx)) ∧ (Z.cell? ⟨g2_, q * 3, none⟩ = some (.int .i64 l[q].kd) ∧ Z.cell? ⟨g2_, q * 3 + 1, none⟩ = some (.int .i64 l[q].n) ∧ Z.cell? ⟨g2_, q * 3 + 2, none⟩ = some (.string l[q].tx)) ∧ Z.cell? ⟨b, 10, none⟩ = some (.slice la l.length lc)) := fun h => by
                obtain ⟨a', c', e, kk⟩ := HLS.out.bel h.out.b
                obtain ⟨lb, lo, e1, _, _, cc⟩ := kk (by omega)
                injection e with e2 _ _
                have hg := row_get l q hqm
                have hcell : ∀ j, j < 3 → _ := fun j hj => ((cell_of_row _ _ (q * 3 + j) _ _ _ (h.out.m _ (.head _)).1).trans (HC.out.1 (q * 3 + j) (by omega) (by omega))).trans (List.getElem?_append_left (by rw [csl_len]; omega))
                exact ⟨lb, lo, e2.trans e1, cc q hqm, ⟨(hcell 0 (by omega)).trans (hg 0 (by omega)), (hcell 1 (by omega)).trans (hg 1 (by omega)), (hcell 2 (by omega)).trans (hg 2 (by omega))⟩, (HDO.out (.tail _ (.tail _ (.head _))) h).2⟩
              obtain ⟨lb, lo, rfl, _⟩ := HQR.out hs
              have hs := Tw.drew HP hs
              generalize hy : l[q] = y at *
              have HSS : Hid (∀ {G G' S T} {Z : World}, Hid (Tw At W hb gb [(g2_, .cells cur 23 (0, 0)), (g1_, .cells cur1 9 (0, 0)), (b, .cells #[.int .i64 k, .int .i64 v.kd, .int .i64 v.n, .string v.tx, .int .i64 x.kd, .int .i64 x.n, .string x.tx, .string nm, .int .i64 ix, .slice na ns.length nc, .slice (some ⟨lb, lo, none⟩) l.length lc] 39 (0, 0))] G G' S T Z) → Z.cell? ⟨b, 10, none⟩ = some (.slice (some ⟨lb, lo, none⟩) l.length lc) ∧ (Z.cell? ⟨g2_, q * 3, none⟩ = some (.int .i64 y.kd) ∧ Z.cell? ⟨g2_, q * 3 + 1, none⟩ = some (.int .i64 y.n) ∧ Z.cell? ⟨g2_, q * 3 + 2, none⟩ = some (.string y.tx)) ∧ (Z.cell? ⟨lb, lo + q * 3, none⟩ = some (.int .i64 y.kd) ∧ Z.cell? ⟨lb, lo + q * 3 + 1, none⟩ = some (.int .i64 y.n) ∧ Z.cell? ⟨lb, lo + q * 3 + 2, none⟩ = some (.string y.tx))) := fun h => by
                obtain ⟨lb', lo', e, h1, h2, h3⟩ := HQR.out h
                cases e
                exact ⟨h3, h2, h1⟩
              have eq1 : ∀ Y, (binOp .eql 23 (.agg #[.int .i64 y.kd, .int .i64 y.n, .string y.tx]) (.agg #[.int .i64 y.kd, .int .i64 y.n, .string y.tx])).run Tryd.prog Y = .ok (.bool true) Y := fun Y => val_eqv Y _ _ _
              clear hqm hy
              refine region_held (fun Z => Z.cell? ⟨b, 10, none⟩ = some (.slice (some ⟨lb, lo, none⟩) l.length lc) ∧ (Z.cell? ⟨g2_, q * 3, none⟩ = some (.int .i64 y.kd) ∧ Z.cell? ⟨g2_, q * 3 + 1, none⟩ = some (.int .i64 y.n) ∧ Z.cell? ⟨g2_, q * 3 + 2, none⟩ = some (.string y.tx)) ∧ (Z.cell? ⟨lb, lo + q * 3, none⟩ = some (.int .i64 y.kd) ∧ Z.cell? ⟨lb, lo + q * 3 + 1, none⟩ = some (.int .i64 y.n) ∧ Z.cell? ⟨lb, lo + q * 3 + 2, none⟩ = some (.string y.tx))) (by kernel_rfl) (HSS.out hs) (fun hS => ?_)
              generalize World.drew _ = XD at hs hS ⊢
              refine tH 0 ?_
              simp only [List.set]
              refine tH 1 ?_
              simp only [List.set]
              refine tH 2 ?_
              simp only [List.set]
              refine tH 3 ?_
              simp only [List.set]
              refine tH 4 (v := .slice (some ⟨lb, lo, none⟩) l.length lc) ?_
              simp only [List.set]
              refine tH 5 (v := .int .i64 (l.length : Nat)) ?_
              simp only [List.set]
              refine tH 6 (v := .bool false) ?_
              simp only [List.set]
              refine tH 7 ?_
              simp only [List.set]
              refine tH 8 ?_
              simp only [List.set]
              refine tH 9 ?_
              simp only [List.set]
              refine tH 10 (v := .pointer (some ⟨g2_, q * 3, none⟩)) ?_
              simp only [List.set]
              refine tH 11 (v := .agg #[.int .i64 y.kd, .int .i64 y.n, .string y.tx]) ?_
              simp only [List.set]
              refine tH 12 ?_
              simp only [List.set]
              refine tH 13 (v := .slice (some ⟨lb, lo, none⟩) l.length lc) ?_
              simp only [List.set]
              refine tH 14 ?_
              simp only [List.set]
              refine tH 15 (v := .pointer (some ⟨lb, lo + q * 3, none⟩)) ?_
              simp only [List.set]
              refine tH 16 (v := .agg #[.int .i64 y.kd, .int .i64 y.n, .string y.tx]) ?_
              simp only [List.set]
              refine tH 17 (v := .bool true) ?_
              simp only [List.set]
              refine tH 18 (v := .bool true) ?_
              simp only [List.set]
              refine tH 19 ?_
              simp only [List.set]
              refine tH 20 ?_
              simp only [List.set]
              refine wpAnyH_done (by kernel_rfl) ?_ _
              clear hS
              repeat go_step
              go_meet
              exact ⟨rfl, hs⟩
          case rest =>
            obtain ⟨rfl, hs⟩ := hcut
            have hq3 : (q + 1) * 3 ≤ cur.size := by have := HC.out.2; omega
            go_wp2_with fail
            go_at_call 31
            refine (number_any _ _).mono ?_
            rintro e Z1 ⟨rfl, bb⟩
            have hs := Tw.bel HP hs bb
            clear bb
            have f0 := row_cell (o := q * 3) (hs.out.m _ (.head _)).1 (by omega)
            have f1 := row_cell (o := q * 3 + 1) (hs.out.m _ (.head _)).1 (by omega)
            have f2 := row_cell (o := q * 3 + 2) (hs.out.m _ (.head _)).1 (by omega)
            have g0 := row_free (o := q * 3) (hs.out.m _ (.head _)).1
            have g1 := row_free (o := q * 3 + 1) (hs.out.m _ (.head _)).1
            have g2 := row_free (o := q * 3 + 2) (hs.out.m _ (.head _)).1
            generalize cur[q * 3] = z0 at f0
            generalize cur[q * 3 + 1] = z1 at f1
            generalize cur[q * 3 + 2] = z2 at f2
            have hn := Tw.row3 HP (l1 := []) (l2 := [(g1_, .cells cur1 9 (0, 0)), (b, .cells #[.int .i64 k, .int .i64 v.kd, .int .i64 v.n, .string v.tx, .int .i64 x.kd, .int .i64 x.n, .string x.tx, .string nm, .int .i64 ix, .slice na ns.length nc, .slice la l.length lc] 39 (0, 0))]) hs (q * 3) (.int .i64 3) (.int .i64 78) (.string ⟨#[]⟩) HG2.out (fun z hz => by
              have := HNE.out
              simp only [List.nil_append, List.mem_cons, List.not_mem_nil, or_false] at hz
              rcases hz with rfl | rfl
              · exact fun e => this.1 e.symm
              · exact fun e => this.2.1 e.symm)
            have HCN : Hid ((∀ j, (q + 1) * 3 ≤ j → j < (l.length + 1) * 3 → (((cur.setIfInBounds (q * 3) (.int .i64 3)).setIfInBounds (q * 3 + 1) (.int .i64 78)).setIfInBounds (q * 3 + 2) (.string ⟨#[]⟩))[j]? = (l.flatMap Vl.cs ++ ([.int .i64 3, .int .i64 77, .string ⟨#[]⟩] : List Value))[j]?) ∧ (l.length + 1) * 3 ≤ (((cur.setIfInBounds (q * 3) (.int .i64 3)).setIfInBounds (q * 3 + 1) (.int .i64 78)).setIfInBounds (q * 3 + 2) (.string ⟨#[]⟩)).size) := ⟨fun j h1 h2 => by
              rw [Array.getElem?_setIfInBounds_ne (by omega), Array.getElem?_setIfInBounds_ne (by omega), Array.getElem?_setIfInBounds_ne (by omega)]
              exact HC.out.1 j (by omega) h2, by simp only [Array.size_setIfInBounds]; exact HC.out.2⟩
            clear hs
            have hqi : (q : Int) < (l.length : Int) + 1 := by omega
            clear hq3
            go_wp2
            clear f0 f1 f2 g0 g1 g2
            go_roundw
            case rel => exact ⟨q + 1, rfl, by simp, by omega, _, hn, HCN⟩
            case measure => simp [intOf]; omega
        · obtain rfl : q = l.length + 1 := by omega
          have hd : ¬ ((l.length : Int) + 1) < (l.length : Int) + 1 := by omega
          have HN1 := HNL.out
          go_wp2
          clear hd
          go_loopw [11] (fun v11 wo => ∃ q : Nat, v11 = .int .i64 (q : Nat) ∧ q ≤ ns.length + 1 ∧ ∃ cun : Array Value, Hid (Tw At W hb gb [(g2_, .cells cur 23 (0, 0)), (g1_, .cells cun 9 (0, 0)), (b, .cells #[.int .i64 k, .int .i64 v.kd, .int .i64 v.n, .string v.tx, .int .i64 x.kd, .int .i64 x.n, .string x.tx, .string nm, .int .i64 ix, .slice na ns.length nc, .slice la l.length lc] 39 (0, 0))] H' H' S' T' wo) ∧ Hid (ns.length + 1 ≤ cun.size)) (fun v11 _ => ns.length + 1 - (intOf v11).toNat)
          case atStart => exact ⟨0, rfl, by omega, cur1, hs, by
            have e := congrArg List.length HP1.out
            rw [List.length_take, List.length_append, List.length_map] at e
            have : cur1.toList.length = cur1.size := Array.length_toList
            simp only [List.length_cons, List.length_nil] at e
            show _ ≤ _
            omega⟩
          case round =>
            obtain ⟨q, rfl, hq, cun, hs, HCU⟩ := hrel
            by_cases hqn : q < ns.length + 1
            · have hd : (q : Int) < (ns.length : Int) + 1 := by omega
              have hq3 : q < cun.size := by have := HCU.out; omega
              have f0 := row_cell (o := q) (hs.out.m _ (.tail _ (.head _))).1 hq3
              have g0 := row_free (o := q) (hs.out.m _ (.tail _ (.head _))).1
              generalize cun[q] = z0 at f0
              have hn := Tw.row1 HP (l1 := [(g2_, .cells cur 23 (0, 0))]) (l2 := [(b, .cells #[.int .i64 k, .int .i64 v.kd, .int .i64 v.n, .string v.tx, .int .i64 x.kd, .int .i64 x.n, .string x.tx, .string nm, .int .i64 ix, .slice na ns.length nc, .slice la l.length lc] 39 (0, 0))]) hs q (.string ⟨#[115, 112, 111, 105, 108, 116]⟩) HGW.out.1 (fun z hz => by
                have := HNE.out
                simp only [List.mem_append, List.mem_cons, List.not_mem_nil, or_false] at hz
                rcases hz with rfl | rfl
                · exact this.1
                · exact fun e => this.2.2 e.symm)
              have HCN : Hid (ns.length + 1 ≤ (cun.setIfInBounds q (.string ⟨#[115, 112, 111, 105, 108, 116]⟩)).size) := by show _ ≤ _; rw [Array.size_setIfInBounds]; exact HCU.out
              clear hs hq3
              go_wp2
              clear f0 g0
              go_roundw
              case rel => exact ⟨q + 1, by simp, by omega, _, hn, HCN⟩
              case measure => simp [intOf]; omega
            · obtain rfl : q = ns.length + 1 := by omega
              have hd : ¬ ((ns.length : Int) + 1) < (ns.length : Int) + 1 := by omega
              go_wp2
              go_ret
              refine ⟨rfl, H', ⟨S', T', ?_⟩, ?_⟩
              · exact Tw.drop hs _ (fun p hp => by cases hp)
              · exact HB'.out
end Go.Proofs.YtlijplbaefaeaaaDoor
