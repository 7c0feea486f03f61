/- Own text. The document's heap: Object. -/
import Derived.Test.YtlijplbaefaeaaaDoorVb9
import Derived.Shelf.Abstract
namespace Go.Proofs.YtlijplbaefaeaaaDoor
open Go.RowKit
set_option linter.unusedVariables false
set_option linter.unusedSimpArgs false

theorem step_call {P : Program} {ops : Array Oper} {o : Oper} {a : Act} {w : World} {K : Act → World → Prop} {Q : Exit → Act → World → Prop} {E : Prop} (hg : o.guard = none) (f : FuncId) (xs : Array Operand) (ts : Array TypeId)
    (hop : o.op = .call { callee := .value (.func f), args := xs, argTypes := ts }) (vals : Array Value) (hv : xs.map a.eval = vals) (hent : ∀ args w, (callFunc f args).run P w = .ok (.enter f args) w)
    {R : Ending → World → Prop} (hc : Calls P f vals w R) (h : ∀ e w', R e w' → ∃ v, e = .returned v ∧ K (a.put o.dst v) w') :
    if Region.wanted o (yielded ops a.tmps) = true then Oper.wp P o a w K Q else E := by
  have hw : Region.wanted o (yielded ops a.tmps) = true := by simp [Region.wanted, hg]
  rw [if_pos hw]
  unfold Oper.wp
  have e : (execOp a.eval o).run P w = .ok (.enter f vals) w := by
    subst hv
    simp [execOp, hop, resolve, invoke, go_sem, hent]
  rw [e, Oper.upon_enter]
  refine hc.mono fun e w' hr => ?_
  obtain ⟨v, rfl, hk⟩ := h e w' hr
  exact hk
theorem step_call4 {P : Program} {ops : Array Oper} {o : Oper} {a : Act} {w : World} {K : Act → World → Prop} {Q : Exit → Act → World → Prop} {E : Prop} (hg : o.guard = none) (f : FuncId) (x1 x2 x3 x4 : Operand) (ts : Array TypeId)
    (hop : o.op = .call { callee := .value (.func f), args := #[x1, x2, x3, x4], argTypes := ts }) (v1 v2 v3 v4 : Value) (h1 : a.eval x1 = v1) (h2 : a.eval x2 = v2) (h3 : a.eval x3 = v3) (h4 : a.eval x4 = v4) (hent : ∀ args w, (callFunc f args).run P w = .ok (.enter f args) w)
    {R : Ending → World → Prop} (hc : Calls P f #[v1, v2, v3, v4] w R) (h : ∀ e w', R e w' → ∃ v, e = .returned v ∧ K (a.put o.dst v) w') :
    if Region.wanted o (yielded ops a.tmps) = true then Oper.wp P o a w K Q else E := step_call hg f #[x1, x2, x3, x4] ts hop #[v1, v2, v3, v4] (by simp [h1, h2, h3, h4]) hent hc h
theorem objT_more : ∀ (k : Nat) (ns : List ByteArray) (l : List Vl) (t : Th) (h1 : k < ns.length) (h2 : k < l.length), objT (ns.take (k + 1)) (l.take (k + 1)) t = setT (objT (ns.take k) (l.take k) t) ns[k] l[k]
  | 0, s :: ns, x :: l, t, _, _ => by simp [objT]
  | k + 1, s :: ns, x :: l, t, h1, h2 => by
    rw [List.take_succ_cons, List.take_succ_cons, List.take_succ_cons, List.take_succ_cons, objT, objT, objT_more k ns l (setT t s x) (by simpa using h1) (by simpa using h2)]
    rfl
theorem objT_all : ∀ (ns : List ByteArray) (l : List Vl) (t : Th) (k : Nat), (k = ns.length ∧ k ≤ l.length) ∨ (k = l.length ∧ k ≤ ns.length) → objT (ns.take k) (l.take k) t = objT ns l t
  | [], l, t, k, h => by cases l <;> simp [objT]
  | s :: ns, [], t, k, h => by
    have : k = 0 := by simp at h; omega
    subst this
    simp [objT]
  | s :: ns, x :: l, t, 0, h => by simp at h
  | s :: ns, x :: l, t, k + 1, h => by
    rw [List.take_succ_cons, List.take_succ_cons, objT, objT]
    exact objT_all ns l _ k (by simp at h; omega)
theorem setT_ob (t : Th) (s : ByteArray) (x : Vl) : (setT t s x).ob = t.ob := by unfold setT; split <;> rfl
theorem objT_ob : ∀ (ns : List ByteArray) (l : List Vl) (t : Th), (objT ns l t).ob = t.ob
  | [], l, t => by cases l <;> simp [objT]
  | s :: ns, [], t => by simp [objT]
  | s :: ns, x :: l, t => by rw [objT, objT_ob ns l, setT_ob]
theorem setT_len (t : Th) (s : ByteArray) (x : Vl) : (setT t s x).nm.length ≤ t.nm.length + 1 := by unfold setT; split <;> simp
theorem objT_len : ∀ (ns : List ByteArray) (l : List Vl) (t : Th), (objT ns l t).nm.length ≤ t.nm.length + ns.length
  | [], l, t => by cases l <;> simp [objT]
  | s :: ns, [], t => by simp [objT]
  | s :: ns, x :: l, t => by
    rw [objT]
    have := objT_len ns l (setT t s x)
    have := setT_len t s x
    simp
    omega
theorem isH_last {H : Hp} {t : Th} (h : t.ob = true) : isH (H ++ [t]) (objV H) true = true := by
  unfold isH objV
  simp [h]
  omega
theorem setH_last {H : Hp} {t : Th} (h : t.ob = true) (s : ByteArray) (x : Vl) : setH (H ++ [t]) (objV H) s x = H ++ [setT t s x] := by
  rw [setH_at (m := H.length) (isH_last h) rfl (by simp)]
  simp
/-- what holds while the names are set. -/
structure ObS (hb : Nat) (H : Hp) (ns : List ByteArray) (l : List Vl) (S : Nat → Prop) (W : World) (tb k : Nat) (wo : World) : Prop where
  at_ : ∃ S', (dAt wo hb (H ++ [objT (ns.take k) (l.take k) ⟨true, [], []⟩]) S' ∧ ∀ b, S' b → S b ∨ W.heap.size ≤ b) ∧ ¬ S' W.heap.size ∧ ¬ S' tb
  kv : Kv S W wo
  r : wo.heap[W.heap.size]? = some (.cells #[.int .i64 0, .int .i64 0, .string ⟨#[]⟩] 23 (0, 0))
  t : wo.heap[tb]? = some (.cells #[.int .i64 6, .int .i64 (H.length : Nat), .string ⟨#[]⟩] 23 (0, 0))
  lt : W.heap.size < tb
set_option maxRecDepth 100000 in
set_option maxHeartbeats 8000000 in
theorem dobj_any {hb : Nat} {H : Hp} {vt : Value} {V : List Pv} {W : World} (h : HpAt hb H vt V W) (D : Nat → Prop) (u v : Value) (ns : List ByteArray) (l : List Vl) (hl : H.length ≤ 2097152) (hls : ∀ t ∈ H, t.nm.length ≤ 2097152) (hn1 : ns.length ≤ 1048577) (hl1 : l.length ≤ 1048577) (hu : NsA W D u ns) (hv : VsA W D v l) (hD : ∀ b, D b → ¬ Hs hb vt V b) : Calls Tryd.prog 33 #[.pointer (some ⟨hb, 0, none⟩), u, v] W (Chg dAt hb (Hs hb vt V) W (objV H).v (H ++ [objT ns l ⟨true, [], []⟩])) := by
  obtain ⟨j0, hj0, hy0, hy1, hy2⟩ := info_parts info_t
  obtain ⟨an, cn, rfl, srcn⟩ := hu
  obtain ⟨av, cv0, rfl, srcv⟩ := hv
  obtain ⟨A, c, rfl⟩ := vform h.t
  obtain ⟨W0, hW0⟩ : ∃ X, W.alloc (.cells #[.int .i64 0, .int .i64 0, .string ⟨#[]⟩] 23) = X := ⟨_, rfl⟩
  have b0 : Below W.heap.size W W0 := by rw [← hW0]; exact belA _ _
  have r0 : W0.heap[W.heap.size]? = some (.cells #[.int .i64 0, .int .i64 0, .string ⟨#[]⟩] 23 (0, 0)) := by rw [← hW0]; exact hnw _ rfl
  have s0 : W0.heap.size = W.heap.size + 1 := by rw [← hW0]; simp
  have h0 := h.keep (W' := W0) (fun b hb' => b0.block b (h.lt b hb'))
  have hbl : ∀ b, Hs hb (.slice A H.length c) V b → b < W.heap.size := h.lt
  have HD : Hid (∀ b, D b → ¬ Hs hb (.slice A H.length c) V b) := hD
  have SN : Hid (_) := srcn
  have SV : Hid (_) := srcv
  have HL : Hid (∀ t ∈ H, t.nm.length ≤ 2097152) := hls
  have HBL : Hid (∀ b, Hs hb (.slice A H.length c) V b → b < W.heap.size) := hbl
  have B0 : Hid (Below W.heap.size W W0) := b0
  have S0 : Hid (W0.heap.size = W.heap.size + 1) := s0
  have R0 : Hid (W0.heap[W.heap.size]? = some (.cells #[.int .i64 0, .int .i64 0, .string ⟨#[]⟩] 23 (0, 0))) := r0
  have H0 : Hid (HpAt hb H (.slice A H.length c) V W0) := h0
  have J0 : Hid (Tryd.prog.info? 77 = some j0) := hj0
  have NA : Hid (some hb ≠ (Value.slice A H.length c).ownBlock) := (row_block h0.t h0.h (by decide)).symm
  have NR : Hid (some W.heap.size ≠ (Value.slice A H.length c).ownBlock) := fun q => by
    have := hbl _ (.inr (.inl q.symm))
    omega
  have c0 := h0.cell.1
  have k3 : hb < W.heap.size := hbl hb (.inl rfl)
  clear b0 r0 h h0 hbl srcn srcv hD hls hj0 s0
  go_enter Tryd.func33, Tryd.ntmps33
  go_wp2_with (at_builtin; refine wpList_append_gen _ (by rfl) _ _ _ (by rfl) 0 77 j0 _ 3 56 Tryd.underlying32 J0.out hy0 hy1 hy2 rfl (by omega) _ H.length (thV H V) (by rfl) (H0.out.t.alloc _) (some ⟨W0.heap.size, 0, none⟩) 1 1 (thC ⟨true, [], []⟩ (.slice none 0 0, .slice none 0 0)) (by rfl) (by rfl) (fun _ => ⟨_, rfl, World.news_of_block (cs := #[.bool true, .slice none 0 0, .slice none 0 0]) (t := 77) (fr := (0, 0)) (hnw _ rfl)⟩) (by simp [Value.oneCell', thC]) (by unfold maxLen; omega) (by omega) (by omega) ?_; rintro vt' W3 o3 g3 f3; obtain ⟨gv, cv, rfl, -, -⟩ := World.ownsRow.form o3 (by omega); have p3 := grow_block g3 H0.out.h NA.out; have r3 := grow_block g3 R0.out NR.out; have c3 : W3.cell? ⟨hb, 0, none⟩ = some (.slice A H.length c) := (by simp [World.cell?, p3]); have z3 : W3.frozen? ⟨hb, 0, none⟩ = false := (by simp [World.frozen?, p3]); have O3 : Hid (_) := o3; have G3 : Hid (_) := g3; have F3 : Hid (_) := f3; have P3 : Hid (_) := p3; have R3 : Hid (_) := r3; clear o3 g3 f3 p3 r3 c0)
  obtain ⟨W4, hW4⟩ : ∃ X, W3.setCell ⟨hb, 0, none⟩ (.slice (some ⟨gv, 0, none⟩) (H.length + 1) cv) = X := ⟨_, rfl⟩
  obtain ⟨W5, hW5⟩ : ∃ X, W4.alloc (.cells #[.int .i64 6, .int .i64 (H.length : Nat), .string ⟨#[]⟩] 23) = X := ⟨_, rfl⟩
  simp only [hW4, hW5]
  have OS : Hid (ObS hb H ns l (Hs hb (.slice A H.length c) V) W W3.heap.size 0 W5) := by
    have s0 := S0.out
    have h0 := H0.out
    have s3 : W0.heap.size + 1 ≤ W3.heap.size := by
      have := G3.out.size
      simpa using this
    have hbl := HBL.out
    have k4 : ∀ k, k ≠ hb → W4.heap[k]? = W3.heap[k]? := fun k ne => by rw [← hW4]; exact Below.heap_setCell _ _ _ _ ne
    have e4 : W4.heap.size = W3.heap.size := by rw [← hW4]; simp [World.setCell]
    have p4 : W4.heap[hb]? = some (.cells #[.slice (some ⟨gv, 0, none⟩) (H.length + 1) cv] 34 (0, 0)) := by
      rw [← hW4]
      simp [World.setCell, Array.getElem?_modify, P3.out]
    have k5 : ∀ k, k < W3.heap.size → W5.heap[k]? = W4.heap[k]? := fun k hk => by rw [← hW5]; exact Below.heap_alloc W4 _ k (by omega)
    have kk : ∀ k, k < W0.heap.size → k ≠ hb → some k ≠ (Value.slice A H.length c).ownBlock → W5.heap[k]? = W0.heap[k]? := fun k hk n1 n3 => (k5 k (by omega)).trans ((k4 k n1).trans ((G3.out.block k (by simp; omega) n3).trans (Below.heap_alloc W0 _ k hk)))
    have ft : ∀ b, (Value.slice (some ⟨gv, 0, none⟩) (H.length + 1) cv).ownBlock = some b → (Value.slice A H.length c).ownBlock = some b ∨ b = W0.heap.size + 1 := fun b e => (F3.out b e).imp id (fun q => by rw [q]; simp)
    have hlen := h0.len
    have P : HpAt hb (H ++ [⟨true, [], []⟩]) (.slice (some ⟨gv, 0, none⟩) (H.length + 1) cv) (V ++ [(.slice none 0 0, .slice none 0 0)]) W5 := by
      refine h0.add ⟨true, [], []⟩ (.slice none 0 0, .slice none 0 0) ?_ ?_ ?_ (World.ownsRow_nil _ _ _ _) (World.ownsRow_nil _ _ _ _) (fun b e => by cases e) (fun b e => by cases e) (fun _ => rfl)
      · exact (k5 hb (by omega)).trans p4
      · refine row_same O3.out (fun b e => ?_)
        have lt := (World.ownsRow.lt O3.out b e).2
        have ne : b ≠ hb := by
          rcases ft b e with q | q
          · exact fun r => NA.out (by rw [← r]; exact q.symm)
          · omega
        exact (k5 b lt).trans (k4 b ne)
      · intro i hi b e
        have q1 := hbl b (.inr (.inr ⟨_, List.getElem_mem hi, e⟩))
        have ne : b ≠ hb := fun r => by
          rcases e with e | e
          · exact row_block (h0.n i (by omega) hi) h0.h (by decide) (r ▸ e)
          · exact row_block (h0.l i (by omega) hi) h0.h (by decide) (r ▸ e)
        have na : some b ≠ (Value.slice A H.length c).ownBlock := fun r => by
          rcases e with e | e
          · exact row_apart (h0.n i (by omega) hi) h0.t (by decide) e r.symm
          · exact row_apart (h0.l i (by omega) hi) h0.t (by decide) e r.symm
        exact kk b (by omega) ne na
    have sub : ∀ b, Hs hb (.slice (some ⟨gv, 0, none⟩) (H.length + 1) cv) (V ++ [(.slice none 0 0, .slice none 0 0)]) b → Hs hb (.slice A H.length c) V b ∨ b = W0.heap.size + 1 := by
      rintro b (e | e | ⟨q, hq, e⟩)
      · exact .inl (.inl e)
      · exact (ft b e).imp (fun e => .inr (.inl e)) id
      · rcases List.mem_append.1 hq with hq | hq
        · exact .inl (.inr (.inr ⟨q, hq, e⟩))
        · obtain rfl := List.mem_singleton.1 hq
          rcases e with e | e <;> cases e
    have hgv := (World.ownsRow.lt O3.out gv rfl).2
    refine ⟨⟨_, ⟨⟨_, _, P, fun b => Iff.rfl⟩, fun b q => (sub b q).imp id (fun q => by omega)⟩, fun q => ?_, fun q => ?_⟩, ⟨?_, ?_, ?_, ?_, fun k hk ns' => ?_⟩, ?_, ?_, by omega⟩
    · rcases sub _ q with q | q
      · have := hbl _ q
        omega
      · omega
    · have := P.lt _ q
      rcases q with q | q | ⟨p, hp, q⟩
      · omega
      · injection q with q
        have q' : gv = W3.heap.size := q
        omega
      · rcases sub _ (.inr (.inr ⟨p, hp, q⟩)) with r | r
        · have := hbl _ r
          omega
        · rcases List.mem_append.1 hp with hp | hp
          · have := hbl _ (.inr (.inr ⟨p, hp, q⟩))
            omega
          · obtain rfl := List.mem_singleton.1 hp
            rcases q with q | q <;> cases q
    · rw [← hW5, ← hW4]
      exact G3.out.os.trans B0.out.os
    · rw [← hW5, ← hW4]
      exact G3.out.tape.trans B0.out.tape
    · rw [← hW5, ← hW4]
      exact G3.out.output.trans B0.out.output
    · rw [← hW5]
      simp
      omega
    · exact (kk k (by omega) (fun r => ns' (.inl r)) (fun r => ns' (.inr (.inl r.symm)))).trans (B0.out.block k hk)
    · exact (kk _ (by omega) (by omega) NR.out).trans R0.out
    · rw [← hW5]
      exact hnw _ e4.symm
  clear O3 G3 F3 P3 R3 hW4 hW5 c3 z3 J0
  go_loopw [8] (fun v8 wo => ∃ k : Nat, v8 = .int .i64 (k : Nat) ∧ k ≤ ns.length ∧ k ≤ l.length ∧ Hid (ObS hb H ns l (Hs hb (.slice A H.length c) V) W W3.heap.size k wo)) (fun v8 _ => ns.length - (intOf v8).toNat)
  case atStart => exact ⟨0, rfl, by omega, by omega, OS⟩
  case round =>
    obtain ⟨k, rfl, hk1, hk2, hs⟩ := hrel
    obtain ⟨w0, w1, w2⟩ := free3 hs.out.t |>.1
    obtain ⟨⟨q0, q1, q2⟩, z0, z1, z2⟩ := free3 hs.out.r
    by_cases hkl : k < ns.length ∧ k < l.length
    · obtain ⟨ha, hb2⟩ := hkl
      have i1 : (k : Int) < (ns.length : Int) := by omega
      have i2 : (k : Int) < (l.length : Int) := by omega
      obtain ⟨nb, no, ean, hd1, hnl, nc⟩ := SN.out (by omega)
      obtain ⟨vb, vo, eav, hd2, hvl, vc⟩ := SV.out (by omega)
      subst ean
      subst eav
      have kv := hs.out.kv
      have tlt := glt hs.out.t
      have bn := kv.block nb hnl (HD.out nb hd1)
      have bv := kv.block vb hvl (HD.out vb hd2)
      have cn0 : wr.cell? ⟨nb, no + k, none⟩ = some (.string ns[k]) := (World.cell?_of_block (a := ⟨nb, no + k, none⟩) bn).trans (nc k ha)
      obtain ⟨vc0, vc1, vc2⟩ := vc k hb2
      have cv0' : wr.cell? ⟨vb, vo + k * 3, none⟩ = some (.int .i64 l[k].kd) := (World.cell?_of_block (a := ⟨vb, vo + k * 3, none⟩) bv).trans vc0
      have cv1' : wr.cell? ⟨vb, vo + k * 3 + 1, none⟩ = some (.int .i64 l[k].n) := (World.cell?_of_block (a := ⟨vb, vo + k * 3 + 1, none⟩) bv).trans vc1
      have cv2' : wr.cell? ⟨vb, vo + k * 3 + 2, none⟩ = some (.string l[k].tx) := (World.cell?_of_block (a := ⟨vb, vo + k * 3 + 2, none⟩) bv).trans vc2
      obtain ⟨S', ⟨⟨vt2, V2, hh, es⟩, sub⟩, x1, x2⟩ := hs.out.at_
      have ob : (objT (ns.take k) (l.take k) ⟨true, [], []⟩).ob = true := objT_ob _ _ _
      have CS := dset_any (hh.keep (W' := wr.drew) (fun _ _ => rfl)) (objV H) ns[k] l[k] (by simp; omega) (fun t ht => by
        rcases List.mem_append.1 ht with ht | ht
        · exact HL.out t ht
        · obtain rfl := List.mem_singleton.1 ht
          have := objT_len (ns.take k) (l.take k) ⟨true, [], []⟩
          simp at this
          omega)
      rw [isH_last ob, setH_last ob, ← objT_more k ns l _ ha hb2] at CS
      have kN : ∀ w' : World, Kv (Hs hb vt2 V2) wr.drew w' → (∀ b, D b → b < W.heap.size → w'.heap[b]? = wr.heap[b]?) ∧ w'.heap[W3.heap.size]? = wr.heap[W3.heap.size]? ∧ w'.heap[W.heap.size]? = wr.heap[W.heap.size]? := fun w' q => by
        have sz := kv.size
        refine ⟨fun b hd hlt => q.block b (by show b < wr.heap.size; omega) (fun r => ?_), q.block _ tlt (fun r => x2 ((es _).2 r)), q.block _ (glt hs.out.r) (fun r => x1 ((es _).2 r))⟩
        rcases sub b ((es b).2 r) with r | r
        · exact HD.out b hd r
        · omega
      have KN : Hid (_) := kN
      have NXT : Hid (∀ w' S'', dAt w' hb (H ++ [objT (ns.take (k + 1)) (l.take (k + 1)) ⟨true, [], []⟩]) S'' → Kv (Hs hb vt2 V2) wr.drew w' → (∀ b, S'' b → Hs hb vt2 V2 b ∨ wr.drew.heap.size ≤ b) → ObS hb H ns l (Hs hb (.slice A H.length c) V) W W3.heap.size (k + 1) w') := fun w' S'' d q sb => by
        obtain ⟨_, e1, e2⟩ := kN w' q
        have sz := kv.size
        have sb' : ∀ b, S'' b → S' b ∨ wr.heap.size ≤ b := fun b r => (sb b r).imp (fun r => (es b).2 r) id
        refine ⟨⟨S'', ⟨d, fun b r => ?_⟩, fun r => ?_, fun r => ?_⟩, ?_, e2.trans hs.out.r, e1.trans hs.out.t, hs.out.lt⟩
        · rcases sb' b r with r | r
          · exact sub b r
          · exact .inr (by omega)
        · rcases sb' _ r with r | r
          · exact x1 r
          · have := glt hs.out.r
            omega
        · rcases sb' _ r with r | r
          · exact x2 r
          · omega
        · refine Kv.trans (b := wr) kv ⟨q.os, q.tape, q.output, q.size, q.block⟩ (fun i hi r => ?_)
          rcases sub i ((es i).2 r) with r | r
          · exact r
          · omega
      unfold Vl.v objV at CS
      clear kN kv sub x1 x2 hh es bn bv vc0 vc1 vc2 nc vc
      generalize ns[k] = nk at *
      generalize l[k] = y at *
      clear q0 q1 q2 z0 z1 z2
      go_wp2_with fail
      refine region_held (fun X => (X.cell? ⟨W3.heap.size, 0, none⟩ = some (.int .i64 6) ∧ X.cell? ⟨W3.heap.size, 1, none⟩ = some (.int .i64 (H.length : Nat)) ∧ X.cell? ⟨W3.heap.size, 2, none⟩ = some (.string ⟨#[]⟩)) ∧ (X.cell? ⟨nb, no + k, none⟩ = some (.string nk) ∧ X.cell? ⟨vb, vo + k * 3, none⟩ = some (.int .i64 y.kd) ∧ X.cell? ⟨vb, vo + k * 3 + 1, none⟩ = some (.int .i64 y.n) ∧ X.cell? ⟨vb, vo + k * 3 + 2, none⟩ = some (.string y.tx))) (by kernel_rfl) ⟨⟨w0, w1, w2⟩, cn0, cv0', cv1', cv2'⟩ (fun hS => ?_)
      refine tH 0 ?_
      simp only [List.set]
      refine tH 1 ?_
      simp only [List.set]
      refine tH 2 ?_
      simp only [List.set]
      refine tH 3 ?_
      simp only [List.set]
      refine tH 4 ?_
      simp only [List.set]
      refine tH 5 ?_
      simp only [List.set]
      refine tH 6 ?_
      simp only [List.set]
      refine tH 7 ?_
      simp only [List.set]
      refine tH 8 ?_
      simp only [List.set]
      refine tH 9 ?_
      simp only [List.set]
      refine wpAnyH_ready (rs := [10]) (by kernel_rfl) (by simp) ?_
      refine AllReadyH.cons rfl (fun K hK => ?_) AllReadyH.nil
      refine step_call4 (by rfl) 34 _ _ _ _ _ (by rfl) (.pointer (some ⟨hb, 0, none⟩)) (.agg #[.int .i64 6, .int .i64 (H.length : Nat), .string ⟨#[]⟩]) (.string nk) (.agg #[.int .i64 y.kd, .int .i64 y.n, .string y.tx]) (by rfl) (by rfl) (by rfl) (by rfl) (enters_of Tryd.func34 (by kernel_rfl) rfl) CS ?_
      rintro e w' ⟨rfl, S'', d2, kv2, sub2⟩
      refine ⟨_, rfl, ?_⟩
      obtain ⟨e1, e2, e3⟩ := KN.out w' kv2
      have NX := NXT.out w' S'' d2 kv2 sub2
      have NX' : Hid (_) := NX
      refine hK.out _ _ ⟨⟨(World.cell?_of_block (a := ⟨W3.heap.size, 0, none⟩) e2).trans w0, (World.cell?_of_block (a := ⟨W3.heap.size, 1, none⟩) e2).trans w1, (World.cell?_of_block (a := ⟨W3.heap.size, 2, none⟩) e2).trans w2⟩, (World.cell?_of_block (a := ⟨nb, no + k, none⟩) (e1 nb hd1 hnl)).trans cn0, (World.cell?_of_block (a := ⟨vb, vo + k * 3, none⟩) (e1 vb hd2 hvl)).trans cv0', (World.cell?_of_block (a := ⟨vb, vo + k * 3 + 1, none⟩) (e1 vb hd2 hvl)).trans cv1', (World.cell?_of_block (a := ⟨vb, vo + k * 3 + 2, none⟩) (e1 vb hd2 hvl)).trans cv2'⟩ (fun hS => ?_)
      clear hK K CS e1 e2 e3 d2 kv2 sub2 NX
      refine wpAnyH_done (by kernel_rfl) ?_ _
      clear hS w0 w1 w2 cn0 cv0' cv1' cv2'
      go_wp2
      go_roundw
      case rel => exact ⟨k + 1, by simp, by omega, by omega, NX'⟩
      case measure => simp [intOf]; omega
    · have HE : Hid (objT (ns.take k) (l.take k) ⟨true, [], []⟩ = objT ns l ⟨true, [], []⟩) := objT_all ns l _ k (by omega)
      have hx : ¬ ((k : Int) < (ns.length : Int)) ∨ ((k : Int) < (ns.length : Int) ∧ ¬ ((k : Int) < (l.length : Int))) := by omega
      have EX : Hid (∀ X : World, X = ((wr.setCell ⟨W.heap.size, 0, none⟩ (.int .i64 6)).setCell ⟨W.heap.size, 1, none⟩ (.int .i64 (H.length : Nat))).setCell ⟨W.heap.size, 2, none⟩ (.string ⟨#[]⟩) → Chg dAt hb (Hs hb (.slice A H.length c) V) W (objV H).v (H ++ [objT ns l ⟨true, [], []⟩]) (.returned (objV H).v) X) := by
        rintro X rfl
        obtain ⟨S', ⟨da, sub⟩, n1, n2⟩ := hs.out.at_
        rw [HE.out] at da
        refine ⟨rfl, S', da.keep (fun b hb' => set3_far _ _ _ (fun r => n1 (r ▸ hb'))), ?_, sub⟩
        have kv := hs.out.kv
        exact ⟨kv.os, kv.tape, kv.output, by have := kv.size; simpa [World.setCell] using this, fun j hj nsj => (set3_far _ _ _ (by omega)).trans (kv.block j hj nsj)⟩
      rcases hx with hx | ⟨hx, hx2⟩
      · go_wp2
        exact bodyPost_ret (res_vl Tryd.results33 (set3_same _ _ _ hs.out.r) rfl) rfl (EX.out _ rfl)
      · go_wp2
        exact bodyPost_ret (res_vl Tryd.results33 (set3_same _ _ _ hs.out.r) rfl) rfl (EX.out _ rfl)
end Go.Proofs.YtlijplbaefaeaaaDoor
