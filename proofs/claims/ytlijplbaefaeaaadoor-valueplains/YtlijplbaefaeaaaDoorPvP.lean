/- Own text. Package value's heap: Array. -/
import Derived.Test.YtlijplbaefaeaaaDoorPvO
namespace Go.Proofs.YtlijplbaefaeaaaDoor
open Go.RowKit Go.Maps
set_option linter.unusedVariables false
set_option linter.unusedSimpArgs false

set_option maxRecDepth 100000 in
set_option maxHeartbeats 8000000 in
theorem harr_any {hb : Nat} {H : Hp} {S : Nat → Prop} {W : World} (D : Nat → Prop) (v : Value) (l : List Vl) (h : vAt W hb H S) (hs : smH H) (ok : ∀ x ∈ l, okV x) (hl : l.length ≤ 1048577) (hv : VsA W D v l) (hD : ∀ b, D b → ¬ S b) :
    Calls Tryd.prog 19 #[.pointer (some ⟨hb, 0, none⟩), v] W (Chg vAt hb S W (arrV H).v (H ++ [arrT l])) := by
  obtain ⟨T, pv, V, h, hT⟩ := h
  obtain ⟨av, cv0, rfl, srcv⟩ := hv
  have hS : ¬ S W.heap.size := fun q => by have := h.lt _ q; omega
  obtain ⟨W0, hW0⟩ : ∃ X, W.alloc (.cells #[.int .i64 0, .int .i64 0, .string ⟨#[]⟩] 23) = X := ⟨_, rfl⟩
  obtain ⟨W1, hW1⟩ : ∃ X, W0.alloc (.cells #[.slice none 0 0] 61) = X := ⟨_, rfl⟩
  have z0 : W0.heap.size = W.heap.size + 1 := by rw [← hW0]; simp
  have MK : Hid (MkS hb H ⟨false, [], []⟩ pv V (W.heap.size + 1) S W W1) := by
    have b1 : Below W.heap.size W W1 := by rw [← hW1, ← hW0]; exact belAA _ _ _
    refine MkS.init h hT b1 (by omega) ⟨?_, World.ownsRow_nil _ _ _ _⟩ rfl rfl rfl ?_
    · rw [← hW1]
      exact hnw _ z0.symm
    · rw [← hW1, ← hW0]
      exact hol _ (hnw _ rfl)
  have HL : Hid (_) := h.lt
  have SM : Hid (smH H) := hs
  have SV : Hid (_) := srcv
  have OK : Hid (∀ x ∈ l, okV x) := ok
  have HD : Hid (∀ b, D b → ¬ S b) := hD
  have NS : Hid (¬ S W.heap.size) := hS
  clear h hT hs srcv ok hD hS
  go_enter Tryd.func19, Tryd.ntmps19
  go_wp2_with fail
  go_loopw [15] (fun v15 wo => ∃ k : Nat, v15 = .int .i64 (k : Nat) ∧ k ≤ l.length ∧ Hid (MkS hb H ⟨false, [], l.take k⟩ pv V (W.heap.size + 1) S W wo)) (fun v15 _ => l.length - (intOf v15).toNat)
  case atStart => exact ⟨0, rfl, by omega, MK⟩
  case round =>
    obtain ⟨k, rfl, hk1, hm⟩ := hrel
    by_cases hkl : k < l.length
    · have i1 : (k : Int) < (l.length : Int) := by omega
      obtain ⟨vb, vo, eav, hd2, hvl, vc⟩ := SV.out (by omega)
      subst eav
      have bv := hm.out.cell hvl (HD.out vb hd2)
      obtain ⟨vc0, vc1, vc2⟩ := vc k hkl
      have cv0' : wr.cell? ⟨vb, vo + k * 3, none⟩ = some (.int .i64 l[k].kd) := (World.cell?_of_block (a := ⟨vb, vo + k * 3, none⟩) bv).trans vc0
      have cv1' : wr.cell? ⟨vb, vo + k * 3 + 1, none⟩ = some (.int .i64 l[k].n) := (World.cell?_of_block (a := ⟨vb, vo + k * 3 + 1, none⟩) bv).trans vc1
      have cv2' : wr.cell? ⟨vb, vo + k * 3 + 2, none⟩ = some (.string l[k].tx) := (World.cell?_of_block (a := ⟨vb, vo + k * 3 + 2, none⟩) bv).trans vc2
      have hok := OK.out _ (List.getElem_mem hkl)
      have TK : Hid (l.take (k + 1) = l.take k ++ [l[k]]) := List.take_succ_eq_append_getElem hkl
      have LK : Hid ((l.take k).length ≤ 1048577) := (show (l.take k).length ≤ 1048577 by rw [List.length_take]; omega)
      clear bv vc0 vc1 vc2 vc
      generalize l[k] = y at *
      obtain ⟨T1, v1, S1, h1, k1, s1, n1⟩ := hm.out.at_
      have HC := push_last (h1.bel (belA wr (.cells #[.int .i64 y.kd, .int .i64 y.n, .string y.tx] 23))) rfl y hok.2 (by have := k1.smallL SM.out LK.out (Nat.zero_le _); omega) (by have := LK.out; show (l.take k).length ≤ _; omega)
      have NX : Hid (∀ W2 v2 S2, HvS hb H.length (H ++ [⟨false, [], l.take k ++ [y]⟩]) (kpL y.tx T1) pv (V ++ [(W.heap.size + 1, v2)]) S2 W2 → Stp S1 (wr.alloc (.cells #[.int .i64 y.kd, .int .i64 y.n, .string y.tx] 23)) S2 W2 → MkS hb H ⟨false, [], l.take (k + 1)⟩ pv V (W.heap.size + 1) S W W2) := fun W2 v2 S2 a b => by
        rw [TK.out]
        exact hm.out.next s1 n1 a (k1.pshL y) ((Stp.bel (belA _ _)).trans b)
      unfold Vl.v at HC
      clear h1 k1 s1 n1 hok
      go_wp2_with fail
      go_at_call 40
      refine HC.mono ?_
      rintro e W2 ⟨rfl, v2, S2, h2, s2⟩
      have N2 : Hid (_) := NX.out W2 v2 S2 h2 s2
      clear h2 s2 HC cv0' cv1' cv2' NX
      go_wp2
      go_roundw
      · exact ⟨k + 1, by simp, by omega, N2⟩
      · simp [intOf]
        omega
    · have i1 : ¬ (k : Int) < (l.length : Int) := by omega
      obtain rfl : k = l.length := by omega
      rw [List.take_length] at hm
      obtain ⟨T1, v1, S1, h1, k1, s1, n1⟩ := hm.out.at_
      have HC := place_last h1 (by have := SM.out.1; omega) 5
      have R1 : Hid (_) := hm.out.r
      have K1 : Hid (TOk (H ++ [arrT l]) T1) := k1
      have S1' : Hid (Stp S W S1 wr ∧ ¬ S1 W.heap.size) := ⟨s1, n1⟩
      unfold Vl.v faV at HC
      simp only [Bool.false_eq_true, if_false] at HC
      clear h1 k1 s1 n1
      go_wp2_with fail
      go_at_call 41
      refine HC.mono ?_
      rintro e W2 ⟨rfl, pv2, S2, h2, s2⟩
      obtain ⟨r2, n2⟩ := s2.box R1.out S1'.out.2
      obtain ⟨⟨c0, c1, c2⟩, y0, y1, y2⟩ := free3 r2
      have H2 : Hid (HvS hb (H.length + 1) (H ++ [arrT l]) T1 pv2 (V ++ [(W.heap.size + 1, v1)]) S2 W2) := h2
      have ST : Hid (Stp S W S2 W2) := S1'.out.1.trans s2
      have R2 : Hid (W2.heap[W.heap.size]? = some (.cells #[.int .i64 0, .int .i64 0, .string ⟨#[]⟩] 23 (0, 0)) ∧ ¬ S2 W.heap.size) := ⟨r2, n2⟩
      clear h2 s2 HC r2 n2
      go_wp2
      refine bodyPost_ret (res_vl Tryd.results19 (set3_same _ _ _ R2.out.1) rfl) rfl ⟨rfl, S2, ⟨T1, pv2, _, by simpa using H2.out.keep fun b q => set3_far _ _ _ (fun e => R2.out.2 (by have e : b = W.heap.size := e; rw [← e]; exact q)), K1.out⟩, ?_, ST.out.s⟩
      have a := fun (i : Nat) (u : Value) (X : World) (q : Kv S W X) => kv_set (b := W.heap.size) (i := i) (v := u) q (fun l => by omega)
      exact a _ _ _ (a _ _ _ (a _ _ _ ST.out.k))
end Go.Proofs.YtlijplbaefaeaaaDoor
