/- Own text. Package value's heap: Object. -/
import Derived.Test.YtlijplbaefaeaaaDoorPvP
namespace Go.Proofs.YtlijplbaefaeaaaDoor
open Go.RowKit Go.Maps
set_option linter.unusedVariables false
set_option linter.unusedSimpArgs false

theorem make_o (W : World) : (Instr.makeMap 65 none).run Tryd.prog W = .ok (.map (some W.heap.size)) (W.alloc (.map #[] 0)) := run_makeMap 65 W
theorem objT_ok : ∀ (ns : List ByteArray) (l : List Vl) (t : Th), t.nm.length = t.ls.length → (objT ns l t).nm.length = (objT ns l t).ls.length
  | [], l, t, h => by cases l <;> simpa [objT] using h
  | s :: ns, [], t, h => by simpa [objT] using h
  | s :: ns, x :: l, t, h => by
    rw [objT]
    exact objT_ok ns l _ (setT_ok h s x)
set_option maxRecDepth 100000 in
set_option maxHeartbeats 8000000 in
theorem hobj_any {hb : Nat} {H : Hp} {S : Nat → Prop} {W : World} (D : Nat → Prop) (u v : Value) (ns : List ByteArray) (l : List Vl) (h : vAt W hb H S) (hs : smH H) (ok : ∀ x ∈ l, okV x) (okn : ∀ s ∈ ns, s.size ≤ 140737488355328) (hn : ns.length ≤ 1048577) (hl : l.length ≤ 1048577) (hu : NsA W D u ns) (hv : VsA W D v l) (hD : ∀ b, D b → ¬ S b) :
    Calls Tryd.prog 20 #[.pointer (some ⟨hb, 0, none⟩), u, v] W (Chg vAt hb S W (objV H).v (H ++ [objT ns l ⟨true, [], []⟩])) := by
  obtain ⟨T, pv, V, h, hT⟩ := h
  obtain ⟨an, cn, rfl, srcn⟩ := hu
  obtain ⟨av, cv0, rfl, srcv⟩ := hv
  have hS : ¬ S W.heap.size := fun q => by have := h.lt _ q; omega
  obtain ⟨W0, hW0⟩ : ∃ X, W.alloc (.cells #[.int .i64 0, .int .i64 0, .string ⟨#[]⟩] 23) = X := ⟨_, rfl⟩
  obtain ⟨W1, hW1⟩ : ∃ X, W0.alloc (.map #[] 0) = X := ⟨_, rfl⟩
  have z0 : W0.heap.size = W.heap.size + 1 := by rw [← hW0]; simp
  have MK : Hid (MkS hb H ⟨true, [], []⟩ pv V (W.heap.size + 1) S W W1) := by
    have b1 : Below W.heap.size W W1 := by rw [← hW1, ← hW0]; exact belAA _ _ _
    refine MkS.init h hT b1 (by omega) ⟨?_, rfl⟩ rfl rfl rfl ?_
    · have q := MpF.nil W0 valR
      rw [hW1, z0] at q
      exact q.as fun k => rfl
    · rw [← hW1, ← hW0]
      exact hol _ (hnw _ rfl)
  have HL : Hid (_) := h.lt
  have SM : Hid (smH H) := hs
  have SN : Hid (_) := srcn
  have SV : Hid (_) := srcv
  have OK : Hid (∀ x ∈ l, okV x) := ok
  have OKN : Hid (∀ s ∈ ns, s.size ≤ 140737488355328) := okn
  have HD : Hid (∀ b, D b → ¬ S b) := hD
  have NS : Hid (¬ S W.heap.size) := hS
  have mk := make_o W0
  clear h hT hs srcv srcn ok okn hD hS
  go_enter Tryd.func20, Tryd.ntmps20
  go_wp2_with fail
  obtain ⟨M, hM, m1, m2, m3⟩ : ∃ M : Nat, min (ns.length : Int) (l.length : Int) = (M : Nat) ∧ M ≤ ns.length ∧ M ≤ l.length ∧ (M = ns.length ∨ M = l.length) := ⟨min ns.length l.length, by omega, by omega, by omega, by omega⟩
  rw [hM]
  clear hM
  go_loopw [18] (fun v18 wo => ∃ k : Nat, v18 = .int .i64 (k : Nat) ∧ k ≤ M ∧ Hid (MkS hb H (objT (ns.take k) (l.take k) ⟨true, [], []⟩) pv V (W.heap.size + 1) S W wo)) (fun v18 _ => M - (intOf v18).toNat)
  case atStart => exact ⟨0, rfl, by omega, by simpa [objT] using MK⟩
  case round =>
    obtain ⟨k, rfl, hk1, hm⟩ := hrel
    by_cases hkl : k < M
    · have i0 : (k : Int) < (M : Int) := by omega
      have ha : k < ns.length := by omega
      have hb2 : k < l.length := by omega
      have i1 : (k : Int) < (ns.length : Int) := by omega
      have i2 : (k : Int) < (l.length : Int) := by omega
      obtain ⟨nb, no, ean, hd1, hnl, nc⟩ := SN.out (by omega)
      obtain ⟨vb, vo, eav, hd2, hvl, vc⟩ := SV.out (by omega)
      subst ean
      subst eav
      have bn := hm.out.cell hnl (HD.out nb hd1)
      have bv := hm.out.cell hvl (HD.out vb hd2)
      have cn0 : wr.cell? ⟨nb, no + k, none⟩ = some (.string ns[k]) := (World.cell?_of_block (a := ⟨nb, no + k, none⟩) bn).trans (nc k ha)
      obtain ⟨vc0, vc1, vc2⟩ := vc k hb2
      have cv0' : wr.cell? ⟨vb, vo + k * 3, none⟩ = some (.int .i64 l[k].kd) := (World.cell?_of_block (a := ⟨vb, vo + k * 3, none⟩) bv).trans vc0
      have cv1' : wr.cell? ⟨vb, vo + k * 3 + 1, none⟩ = some (.int .i64 l[k].n) := (World.cell?_of_block (a := ⟨vb, vo + k * 3 + 1, none⟩) bv).trans vc1
      have cv2' : wr.cell? ⟨vb, vo + k * 3 + 2, none⟩ = some (.string l[k].tx) := (World.cell?_of_block (a := ⟨vb, vo + k * 3 + 2, none⟩) bv).trans vc2
      have hok := OK.out _ (List.getElem_mem hb2)
      have hokn := OKN.out _ (List.getElem_mem ha)
      have TK := objT_more k ns l ⟨true, [], []⟩ ha hb2
      have ob : (objT (ns.take k) (l.take k) ⟨true, [], []⟩).ob = true := objT_ob _ _ _
      have ln : (objT (ns.take k) (l.take k) ⟨true, [], []⟩).nm.length ≤ 1048577 := by
        have := objT_len (ns.take k) (l.take k) ⟨true, [], []⟩
        simp at this
        omega
      have ln2 : (objT (ns.take k) (l.take k) ⟨true, [], []⟩).ls.length ≤ 1048577 := by
        have := objT_ok (ns.take k) (l.take k) ⟨true, [], []⟩ rfl
        omega
      have BN : Hid (¬ S nb ∧ ¬ S vb) := ⟨HD.out nb hd1, HD.out vb hd2⟩
      clear vc0 vc1 vc2 vc nc bn bv
      have TK' : Hid (_) := TK
      clear TK
      generalize l[k] = y at *
      generalize ns[k] = nk at *
      generalize objT (ns.take k) (l.take k) ⟨true, [], []⟩ = t at *
      obtain ⟨T1, v1, S1, h1, k1, s1, n1⟩ := hm.out.at_
      have HC := set_last (h1.keep (W' := wr.drew) (fun _ _ => rfl)) ob nk hokn y hok.2 (by have := k1.smallL SM.out ln2 ln; omega) (by omega) k1
      have NX : Hid (∀ W2, seH hb H.length (H ++ [setT t nk y]) pv (V ++ [(W.heap.size + 1, v1)]) S1 wr.drew W2 → MkS hb H (objT (ns.take (k + 1)) (l.take (k + 1)) ⟨true, [], []⟩) pv V (W.heap.size + 1) S W W2) := fun W2 q => by
        obtain ⟨T', S', a, b, c⟩ := q
        rw [TK'.out]
        exact hm.out.next s1 n1 a b c.drew
      have bn := hm.out.cell hnl BN.out.1
      have bv := hm.out.cell hvl BN.out.2
      have KN : Hid (∀ W2, MkS hb H (objT (ns.take (k + 1)) (l.take (k + 1)) ⟨true, [], []⟩) pv V (W.heap.size + 1) S W W2 → W2.heap[nb]? = wr.heap[nb]? ∧ W2.heap[vb]? = wr.heap[vb]?) := fun W2 q => ⟨(q.cell hnl BN.out.1).trans bn.symm, (q.cell hvl BN.out.2).trans bv.symm⟩
      unfold Vl.v at HC
      clear h1 k1 s1 n1 hok hokn bn bv TK'
      go_wp2_with fail
      refine region_held (fun X => X.cell? ⟨nb, no + k, none⟩ = some (.string nk) ∧ X.cell? ⟨vb, vo + k * 3, none⟩ = some (.int .i64 y.kd) ∧ X.cell? ⟨vb, vo + k * 3 + 1, none⟩ = some (.int .i64 y.n) ∧ X.cell? ⟨vb, vo + k * 3 + 2, none⟩ = some (.string y.tx)) (by kernel_rfl) ⟨cn0, cv0', cv1', cv2'⟩ (fun hS => ?_)
      refine tH 0 ?_
      simp only [List.set]
      refine tH 1 ?_
      simp only [List.set]
      refine tH 2 ?_
      simp only [List.set]
      refine tH 3 ?_
      simp only [List.set]
      refine tH 4 ?_
      simp only [List.set]
      refine tH 5 ?_
      simp only [List.set]
      refine tH 6 ?_
      simp only [List.set]
      refine tH 7 ?_
      simp only [List.set]
      refine tH 8 ?_
      simp only [List.set]
      refine tH 9 ?_
      simp only [List.set]
      refine wpAnyH_ready (rs := [10]) (by kernel_rfl) (by simp) ?_
      refine AllReadyH.cons rfl (fun K hK => ?_) AllReadyH.nil
      refine step_call4 (by rfl) 42 _ _ _ _ _ (by rfl) (.pointer (some ⟨hb, 0, none⟩)) (.map (some (W.heap.size + 1))) (.string nk) (.agg #[.int .i64 y.kd, .int .i64 y.n, .string y.tx]) (by rfl) (by rfl) (by rfl) (by rfl) (fun _ _ => rfl) HC ?_
      rintro e W2 ⟨rfl, q2⟩
      refine ⟨_, rfl, ?_⟩
      have N2 : Hid (_) := NX.out W2 q2
      obtain ⟨e1, e2⟩ := KN.out W2 N2.out
      refine hK.out _ _ ⟨(World.cell?_of_block (a := ⟨nb, no + k, none⟩) e1).trans cn0, (World.cell?_of_block (a := ⟨vb, vo + k * 3, none⟩) e2).trans cv0', (World.cell?_of_block (a := ⟨vb, vo + k * 3 + 1, none⟩) e2).trans cv1', (World.cell?_of_block (a := ⟨vb, vo + k * 3 + 2, none⟩) e2).trans cv2'⟩ (fun hS => ?_)
      clear hK K HC e1 e2 q2
      refine wpAnyH_done (by kernel_rfl) ?_ _
      clear hS cn0 cv0' cv1' cv2' NX KN
      go_wp2
      go_roundw
      · exact ⟨k + 1, by simp, by omega, N2⟩
      · simp [intOf]
        omega
    · have i0 : ¬ (k : Int) < (M : Int) := by omega
      obtain rfl : k = M := by omega
      have HE : objT (ns.take k) (l.take k) ⟨true, [], []⟩ = objT ns l ⟨true, [], []⟩ := objT_all ns l _ k (by omega)
      have ob : (objT ns l ⟨true, [], []⟩).ob = true := objT_ob _ _ _
      rw [HE] at hm
      clear HE
      generalize objT ns l ⟨true, [], []⟩ = t at *
      obtain ⟨T1, v1, S1, h1, k1, s1, n1⟩ := hm.out.at_
      have HC := place_last h1 (by have := SM.out.1; omega) 6
      have R1 : Hid (_) := hm.out.r
      have K1 : Hid (TOk (H ++ [t]) T1) := k1
      have S1' : Hid (Stp S W S1 wr ∧ ¬ S1 W.heap.size) := ⟨s1, n1⟩
      unfold Vl.v faV at HC
      simp only [ob, if_true] at HC
      clear h1 k1 s1 n1 ob
      go_wp2_with fail
      go_at_call 41
      refine HC.mono ?_
      rintro e W2 ⟨rfl, pv2, S2, h2, s2⟩
      obtain ⟨r2, n2⟩ := s2.box R1.out S1'.out.2
      obtain ⟨⟨c0, c1, c2⟩, y0, y1, y2⟩ := free3 r2
      have H2 : Hid (HvS hb (H.length + 1) (H ++ [t]) T1 pv2 (V ++ [(W.heap.size + 1, v1)]) S2 W2) := h2
      have ST : Hid (Stp S W S2 W2) := S1'.out.1.trans s2
      have R2 : Hid (W2.heap[W.heap.size]? = some (.cells #[.int .i64 0, .int .i64 0, .string ⟨#[]⟩] 23 (0, 0)) ∧ ¬ S2 W.heap.size) := ⟨r2, n2⟩
      clear h2 s2 HC r2 n2
      go_wp2
      refine bodyPost_ret (res_vl Tryd.results20 (set3_same _ _ _ R2.out.1) rfl) rfl ⟨rfl, S2, ⟨T1, pv2, _, by simpa using H2.out.keep fun b q => set3_far _ _ _ (fun e => R2.out.2 (by have e : b = W.heap.size := e; rw [← e]; exact q)), K1.out⟩, ?_, ST.out.s⟩
      have a := fun (i : Nat) (u : Value) (X : World) (q : Kv S W X) => kv_set (b := W.heap.size) (i := i) (v := u) q (fun l => by omega)
      exact a _ _ _ (a _ _ _ (a _ _ _ ST.out.k))
end Go.Proofs.YtlijplbaefaeaaaDoor
