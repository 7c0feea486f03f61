/- Own text. What an export leads to: Resolve. The program's Entries: one entry more. The program's Entries: its reader in memory; newReader, target. The program's Entries: small functions; an import, a name that is given on, a default. The program's Entries: an import. The program's Entries: an export of an import. The program's Entries: exports, item by item. -/
import Derived.Test.YtadkmlcnmkdfiaaGreatDoorGpB
import Derived.Test.YtadkmlcnmkdfiaaGreatDoorShelf
import Derived.Deep.DeepCutAuto
import Derived.Deep.RegionLaw
import Derived.Test.YtadkmlcnmkdfiaaGreatDoorGpA
import Derived.Test.YtadkmlcnmkdfiaaGreatDoorT3
namespace Go.Proofs.YtadkmlcnmkdfiaaGreatDoor
open Go.RowKit Xp
set_option linter.unusedVariables false
set_option linter.unusedSimpArgs false

theorem cloneX_any (s : ByteArray) (w : World) (hs : s.size ≤ 281474976710656) : Calls Tryz.prog 34 #[.string s] w fun e w' => e = .returned (.string s) ∧ Below w.heap.size w w' := by
  go_enter Tryz.func34, Tryz.ntmps34
  go_wp2_with (go_at_call 58; refine (Tryz.stringslite_Clone s _ hs).mono ?_; rintro e w' ⟨rfl, hb⟩)
  go_ret
  exact ⟨rfl, hb⟩
/-- what holds of all answers. -/
theorem ask_all {L : List Es} (P : Fnd → Prop) (h0 : P fd0) (hc : P circ) (ha : P amb) (hv : ∀ e ∈ L, ∀ q v, first e q = .val v → P v) (hj : ∀ a b : Fnd, P a → P b → P { a with ty := a.ty && b.ty }) (hl : ∀ t v, P v → P (clo t v)) : ∀ (f : Nat) (S : St) (q : Qn), P (askF L f S q).1
  | 0, S, q => h0
  | f + 1, S, q => by
    have ih := ask_all P h0 hc ha hv hj hl f
    have jn : ∀ a b, P a → P b → P (joined a b) := fun a b pa pb => by
      unfold joined
      split
      · exact pa
      · split
        · exact pb
        · split
          · exact hj a b pa pb
          · exact ha
    have fr : ∀ (name : ByteArray) (l : List En) (S : St) (v : Fnd), P v → P (frG (askF L f) name S l v).1 := by
      intro name l
      induction l with
      | nil => intro S v hv; exact hv
      | cons e l ihl =>
        intro S v hv
        unfold frG
        simp only []
        split
        · exact jn _ _ hv (ih _ _)
        · exact ihl _ _ (jn _ _ hv (ih _ _))
    show P (stepF L (askF L f) S q).1
    unfold stepF
    split
    · split
      · exact h0
      · rename_i e he
        split
        · exact hc
        · split
          · exact h0
          · split
            · rename_i v hfv; exact hv e (List.mem_of_getElem? he) q v hfv
            · exact hl _ _ (fr _ _ _ _ h0)
    · exact h0
theorem rsv_name {L : List Es} (h : ∀ e ∈ L, ∀ x ∈ e.own, x.here.size ≤ 1048576) (q : Qn) : (rsv L q).name.size ≤ 1048576 := by
  refine ask_all (fun v => v.name.size ≤ 1048576) (by decide) (by decide) (by decide) (fun e he q v hf => ?_) (fun a b ha _ => ha) (fun t v hv => hv) _ _ _
  unfold first at hf
  split at hf
  · rename_i x hx
    cases hf
    exact h e he x (List.mem_of_find?_eq_some hx)
  · split at hf
    · split at hf
      · cases hf; exact (show mt.size ≤ 1048576 by decide)
      · cases hf
    · split at hf
      · cases hf; exact (show mt.size ≤ 1048576 by decide)
      · cases hf
set_option maxRecDepth 100000 in
theorem newBook_any {W : World} {v : Value} (L : List Es) (hv : ∃ ad n c, v = .slice ad n c) : Calls Tryz.prog 32 #[v] W fun e w' => ∃ bk mA mG, e = .returned (.pointer (some ⟨bk, 0, none⟩)) ∧ Bk w' bk mA mG v L (fun _ => none) ∧ Below W.heap.size W w' ∧ W.heap.size ≤ bk ∧ W.heap.size ≤ mA ∧ W.heap.size ≤ mG := by
  obtain ⟨ad, n, c, rfl⟩ := hv
  have hmm := @run_makeMap Tryz.prog
  have b2 : Below W.heap.size W ((W.alloc (.map #[] 0)).alloc (.map #[] 0)) := ((Below.refl _ _).alloc (Nat.le_refl _) _).alloc (by simp) _
  have b3 : ∀ o, Below W.heap.size W (((W.alloc (.map #[] 0)).alloc (.map #[] 0)).alloc o) := fun o => b2.alloc (by simp; omega) o
  have HB : Hid (Bk (((W.alloc (.map #[] 0)).alloc (.map #[] 0)).alloc (.cells #[.slice ad n c, .map (some W.heap.size), .map (some (W.heap.size + 1))] 106)) (W.heap.size + 1 + 1) W.heap.size (W.heap.size + 1) (.slice ad n c) L (fun _ => none)) := by
    have h1 : AsM (W.alloc (.map #[] 0)) W.heap.size 0 (fun _ => none) := MF.nil W
    have h2 : GvM ((W.alloc (.map #[] 0)).alloc (.map #[] 0)) (W.alloc (.map #[] 0)).heap.size 0 (fun _ => none) := MF.nil _
    have e1 : (W.alloc (.map #[] 0)).heap.size = W.heap.size + 1 := by simp
    rw [e1] at h2
    refine ⟨hnewX _ (by simp), ⟨0, h1.keep ?_⟩, ⟨0, _, h2.keep (Below.heap_alloc _ _ _ (by simp)), fun q => by simp⟩, (fun m x hx => by cases hx), by omega⟩
    rw [Below.heap_alloc _ _ _ (by simp; omega), Below.heap_alloc _ _ _ (by simp)]
  go_enter Tryz.func32, Tryz.ntmps32
  go_wp2
  go_ret
  exact ⟨_, _, _, rfl, HB.out, b3 _, by omega, by omega, by omega⟩
set_option maxRecDepth 100000 in
set_option maxHeartbeats 8000000 in
theorem resolveX_any {W : World} {v : Value} {L : List Es} (hv : MsAt W W.heap.size v L) (hL : L.length ≤ 1048576) (hE : ∀ e ∈ L, e.own.length ≤ 1048576 ∧ e.oth.length ≤ 1048576 ∧ e.st.length ≤ 1048576) (hN : ∀ e ∈ L, ∀ x ∈ e.own, x.here.size ≤ 1048576) (mod : Int) (name : ByteArray) (hU : (Uni L (Nms L name)).length ≤ 274877906944) :
    Calls Tryz.prog 16 #[v, .int .i64 mod, .string name] W fun e w' => e = .returned (.agg #[.int .i64 (rsv L (mod, name)).k, .int .i64 (rsv L (mod, name)).mod, .string (rsv L (mod, name)).name, .bool (rsv L (mod, name)).ty]) ∧ Below W.heap.size W w' := by
  obtain ⟨wA, hwA⟩ : ∃ X, W.alloc (.cells #[.int .i64 0, .int .i64 0, .string ⟨#[]⟩, .bool false] 41) = X := ⟨_, rfl⟩
  have bA : Below W.heap.size W wA := by rw [← hwA]; exact (Below.refl _ _).alloc (Nat.le_refl _) _
  have sA : wA.heap.size = W.heap.size + 1 := by rw [← hwA]; simp
  have m0 : wA.heap[W.heap.size]? = some (.cells #[.int .i64 0, .int .i64 0, .string ⟨#[]⟩, .bool false] 41 (0, 0)) := by rw [← hwA]; exact heap_alloc_new W _
  have hvA := (hv.bel bA).mono bA.size
  have C1 := newBook_any (W := wA) (v := v) L (by obtain ⟨ad, c, e⟩ := hv.op; exact ⟨ad, _, c, e⟩)
  have hs := rsv_name hN (mod, name)
  have HR : Hid (∀ (X : World) (bk mA mG : Nat), Bk X bk mA mG v L (fun _ => none) → Below wA.heap.size wA X → wA.heap.size ≤ bk → wA.heap.size ≤ mA → wA.heap.size ≤ mG → Calls Tryz.prog 33 #[.pointer (some ⟨bk, 0, none⟩), .agg #[.int .i64 mod, .string name]] X fun e w' => e = .returned (.agg #[.int .i64 (rsv L (mod, name)).k, .int .i64 (rsv L (mod, name)).mod, .string (rsv L (mod, name)).name, .bool (rsv L (mod, name)).ty]) ∧ Below wA.heap.size wA w') := fun X bk mA mG h1 h2 h3 h4 h5 => by
    refine (resolve_any hvA h2 h1 h3 h4 h5 hL hE (mod, name) hU).mono ?_
    rintro e w' ⟨a, _, b, _⟩
    exact ⟨a, b⟩
  have HM : Hid (∀ X, Below wA.heap.size wA X → X.heap[W.heap.size]? = some (.cells #[.int .i64 0, .int .i64 0, .string ⟨#[]⟩, .bool false] 41 (0, 0)) ∧ W.heap.size < X.heap.size ∧ Below W.heap.size W X) := fun X b => ⟨(b.block _ (by omega)).trans m0, by have := b.size; omega, bA.trans (b.mono (by omega))⟩
  generalize rsv L (mod, name) = r at *
  clear hv hvA hL hE hN hU sA
  go_enter Tryz.func16, Tryz.ntmps16
  go_wp2_with fail
  go_at_call 32
  refine C1.mono ?_
  rintro ex W1 ⟨bk, mA, mG, rfl, hB, b1, l1, l2, l3⟩
  go_wp2_with fail
  go_at_call 33
  refine (HR.out _ _ _ _ hB b1 l1 l2 l3).mono ?_
  rintro ex W2 ⟨rfl, b2⟩
  have b3 := b2.alloc b2.size (.cells #[.int .i64 r.k, .int .i64 r.mod, .string r.name, .bool r.ty] 41)
  have m2 := heap_alloc_new W2 (.cells #[.int .i64 r.k, .int .i64 r.mod, .string r.name, .bool r.ty] 41)
  go_wp2_with fail
  go_at_call 34
  refine (cloneX_any _ _ (by omega)).mono ?_
  rintro ex W3 ⟨rfl, b4⟩
  have m3 := (b4.block _ (by simp)).trans m2
  have b5 := b3.trans (b4.mono b3.size)
  obtain ⟨k1, k2, k3⟩ := HM.out _ b5
  obtain ⟨_, k2', _⟩ := HM.out _ b2
  obtain ⟨⟨_, _, _, _⟩, _, _, _, _⟩ := t4 m3
  obtain ⟨⟨_, _, _, _⟩, _, _, _, _⟩ := t4 k1
  have hne : W.heap.size ≠ W2.heap.size := by omega
  have k4 : (W3.setCell ⟨W2.heap.size, 2, none⟩ (.string r.name)).heap[W.heap.size]? = some (.cells #[.int .i64 0, .int .i64 0, .string ⟨#[]⟩, .bool false] 41 (0, 0)) := (Below.heap_setCell _ _ _ _ hne).trans k1
  obtain ⟨⟨_, _, _, _⟩, _, _, _, _⟩ := t4 k4
  have HF : Hid (∀ p q x y, Below W.heap.size W ((((((W3.setCell ⟨W2.heap.size, 2, none⟩ (.string r.name)).setCell ⟨W.heap.size, 0, none⟩ p).setCell ⟨W.heap.size, 1, none⟩ q).setCell ⟨W.heap.size, 2, none⟩ x).setCell ⟨W.heap.size, 3, none⟩ y))) := fun p q x y => ((((k3.setCell (by show W.heap.size ≤ W2.heap.size; omega) _).setCell (by simp) _).setCell (by simp) _).setCell (by simp) _).setCell (by simp) _
  go_wp2
  refine bodyPost_ret (res_f4 Tryz.results16 (t4_set _ _ _ _ k4) rfl) rfl ?_
  exact ⟨rfl, HF.out _ _ _ _⟩
end Go.Proofs.YtadkmlcnmkdfiaaGreatDoor
namespace Go.Proofs.YtadkmlcnmkdfiaaGreatDoor
open Go.RowKit Xp
set_option linter.unusedVariables false
set_option linter.unusedSimpArgs false

abbrev enO (e : En) : Obj := .cells #[.string e.here, .string e.there, .int .i64 e.mod, .bool e.ty, .int .i64 e.item] 49
theorem info_en : (Tryz.prog.info? 49).map (fun i => (i.zero, i.size, i.bytes)) = some (some (.agg #[.string ByteArray.empty, .string ByteArray.empty, .int .i64 0, .bool false, .int .i64 0]), 5, 56) := by kernel_rfl
theorem t5e {w : World} {b : Nat} {p q r s u : Value} {t : TypeId} (h : w.heap[b]? = some (.cells #[p, q, r, s, u] t (0, 0))) : w.cell? ⟨b, 0, none⟩ = some p ∧ w.cell? ⟨b, 1, none⟩ = some q ∧ w.cell? ⟨b, 2, none⟩ = some r ∧ w.cell? ⟨b, 3, none⟩ = some s ∧ w.cell? ⟨b, 4, none⟩ = some u ∧ w.frozen? ⟨b, 0, none⟩ = false ∧ w.frozen? ⟨b, 1, none⟩ = false := by
  simp [World.cell?, World.frozen?, h]
theorem t5_same {w : World} {b : Nat} {e : En} (h : w.heap[b]? = some (enO e)) : (w.setCell ⟨b, 0, none⟩ (.string e.here)).heap[b]? = some (enO e) ∧ (w.setCell ⟨b, 1, none⟩ (.string e.there)).heap[b]? = some (enO e) := by
  simp [World.setCell, Array.getElem?_modify, h]
/-- what holds while texts are copied. -/
structure Gd (W : World) (e : En) (X : World) : Prop where
  m : X.heap[W.heap.size]? = some (enO e)
  b : Below W.heap.size W X
theorem Gd.bel {W X Y : World} {e : En} (h : Gd W e X) (k : Below X.heap.size X Y) : Gd W e Y := ⟨(k.block _ (Array.getElem?_eq_some_iff.1 h.m).1).trans h.m, h.b.trans (k.mono h.b.size)⟩
theorem Gd.s0 {W X : World} {e : En} (h : Gd W e X) : Gd W e (X.setCell ⟨W.heap.size, 0, none⟩ (.string e.here)) := ⟨(t5_same h.m).1, h.b.setCell (by simp) _⟩
theorem Gd.s1 {W X : World} {e : En} (h : Gd W e X) : Gd W e (X.setCell ⟨W.heap.size, 1, none⟩ (.string e.there)) := ⟨(t5_same h.m).2, h.b.setCell (by simp) _⟩
theorem Gd.c {W X : World} {e : En} (h : Gd W e X) : X.cell? ⟨W.heap.size, 0, none⟩ = some (.string e.here) ∧ X.cell? ⟨W.heap.size, 1, none⟩ = some (.string e.there) ∧ X.frozen? ⟨W.heap.size, 0, none⟩ = false ∧ X.frozen? ⟨W.heap.size, 1, none⟩ = false := by
  obtain ⟨a, b, _, _, _, c, d⟩ := t5e h.m
  exact ⟨a, b, c, d⟩
set_option maxRecDepth 100000 in
set_option maxHeartbeats 8000000 in
theorem add_one {W : World} {e : En} (h1 : e.here.size ≤ 281474976710656) (h2 : e.there.size ≤ 281474976710656) {rb i : Nat} (hc : W.cell? ⟨rb, i, none⟩ = some (.slice none 0 0)) (hf : W.frozen? ⟨rb, i, none⟩ = false) :
    Calls Tryz.prog 50 #[.pointer (some ⟨rb, i, none⟩), .agg #[.string e.here, .string e.there, .int .i64 e.mod, .bool e.ty, .int .i64 e.item]] W fun x w' => ∃ X gg cap, x = .returned (.tuple #[]) ∧ w' = X.setCell ⟨rb, i, none⟩ (.slice (some ⟨gg, 0, none⟩) 1 cap) ∧ Below W.heap.size W X ∧ W.heap.size ≤ gg ∧ X.ownsRow W.heap.size 49 5 (.slice (some ⟨gg, 0, none⟩) 1 cap) 1 e.cs := by
  obtain ⟨wA, hwA⟩ : ∃ X, W.alloc (enO e) = X := ⟨_, rfl⟩
  have bA : Below W.heap.size W wA := by rw [← hwA]; exact (Below.refl _ _).alloc (Nat.le_refl _) _
  have m0 : wA.heap[W.heap.size]? = some (enO e) := by rw [← hwA]; exact hnewX _ rfl
  have hrb : rb < W.heap.size := World.block_lt_of_cell? W _ hc
  have HB : Hid _ := bA
  have HM : Hid (wA.heap[W.heap.size]? = some (enO e)) := m0
  have HC : Hid _ := hc
  have HF : Hid _ := hf
  have G0 : Hid (Gd W e wA.drew) := ⟨HM.out, HB.out.drew⟩
  obtain ⟨i0, hi0, hz0, hz1, hz2⟩ := info_parts info_en
  clear bA m0 hc hf
  go_enter Tryz.func50, Tryz.ntmps50
  go_upto_region 1 with fail
  go_cut [3] (fun u3 X => u3 = .pointer (some ⟨W.heap.size, 0, none⟩) ∧ X.heap[W.heap.size]? = some (enO e) ∧ Below W.heap.size W X)
  case first =>
    have gc := G0.out.c
    have tok1 : Hid True := trivial
    go_region_held3 (fun X => X.cell? ⟨W.heap.size, 0, none⟩ = some (.string e.here) ∧ X.cell? ⟨W.heap.size, 1, none⟩ = some (.string e.there) ∧ X.frozen? ⟨W.heap.size, 0, none⟩ = false ∧ X.frozen? ⟨W.heap.size, 1, none⟩ = false)
      (first | assumption | exact g2.out.c | exact g2.out.s0.c | exact g2.out.s1.c | exact g2.out.s0.s1.c | exact g2.out.s1.s0.c | exact g1.out.c | exact g1.out.s0.c | exact g1.out.s1.c)
      (first
        | (clear tok1; go_at_call 34; refine (cloneX_any _ _ (by first | exact h1 | exact h2)).mono ?_; rintro x W1 ⟨rfl, b1⟩; have g1 : Hid (Gd W e W1) := G0.out.bel b1)
        | (go_at_call 34; refine (cloneX_any _ _ (by first | exact h1 | exact h2)).mono ?_; rintro x W2 ⟨rfl, b2⟩; have g2 : Hid (Gd W e W2) := (by first | exact g1.out.bel b2 | exact g1.out.s0.bel b2 | exact g1.out.s1.bel b2)))
    all_goals
      go_wp2
      go_meet
      first
        | exact ⟨rfl, g2.out.s0.s1.m, g2.out.s0.s1.b⟩
        | exact ⟨rfl, g2.out.s1.s0.m, g2.out.s1.s0.b⟩
        | exact ⟨rfl, g2.out.s0.m, g2.out.s0.b⟩
        | exact ⟨rfl, g2.out.s1.m, g2.out.s1.b⟩
  case rest =>
    obtain ⟨rfl, mX, bX⟩ := hcut
    have hcX : wc.cell? ⟨rb, i, none⟩ = some (.slice none 0 0) := (World.cell?_of_block (a := ⟨rb, i, none⟩) (bX.block _ hrb)).trans HC.out
    have sX := bX.size
    obtain ⟨_, _, _, _, _, _, _⟩ := t5e mX
    have hrw : rb < wc.heap.size := by omega
    have hcA : (wc.alloc (enO e)).cell? ⟨rb, i, none⟩ = some (.slice none 0 0) := (World.cell?_of_block (a := ⟨rb, i, none⟩) (Below.heap_alloc wc (enO e) rb hrw)).trans hcX
    obtain ⟨_, _, _, _, _, _, _⟩ := t5e ((Below.heap_alloc wc (enO e) W.heap.size (Array.getElem?_eq_some_iff.1 mX).1).trans mX)
    have HW3 : Hid (∀ W3, ((wc.drew).alloc (enO e)).grownBy W3 none → Below W.heap.size W W3 ∧ W3.cell? ⟨rb, i, none⟩ = some (.slice none 0 0) ∧ W3.frozen? ⟨rb, i, none⟩ = false) := fun W3 hg => by
      have k : Below W.heap.size W W3 := (bX.drew.alloc (by simpa using sX) _).trans ⟨hg.os, hg.tape, hg.output, hg.size, fun j hj => hg.block j (by simp; omega) (by simp)⟩
      exact ⟨k, (World.cell?_of_block (a := ⟨rb, i, none⟩) (k.block _ hrb)).trans HC.out, by have := HF.out; simp only [World.frozen?] at this ⊢; rw [k.block _ hrb]; exact this⟩
    go_upto_region 2 with fail
    go_region_law (refine step_append_lies _ (by rfl) _ _ _ (by rfl) W.heap.size 49 i0 _ 5 56 under_ens hi0 hz0 hz1 hz2 rfl (by omega) _ 0 [] (by rfl) (World.ownsRow_nil _ _ _ _) ⟨wc.heap.size, 0, none⟩ 1 1 e.cs (by rfl) (by rfl) (World.news_of_block (cs := #[.string e.here, .string e.there, .int .i64 e.mod, .bool e.ty, .int .i64 e.item]) (t := 49) (fr := (0, 0)) (hnewX _ (by simp))) (by simp [Value.oneCell', En.cs]) (by omega) (by unfold maxLen; omega) (by omega) (by simp; omega) (wc.heap.size + 1) (by simp) ?_; intro gg cap W3 hown hgrow hat hlt3; obtain ⟨k3, _, _⟩ := HW3.out W3 hgrow)
    all_goals
      go_wp2
      go_end0
      refine ⟨W3, gg, cap, rfl, rfl, k3, ?_, by simpa using hown⟩
      rcases hat with e' | e'
      · cases e'
      · omega
end Go.Proofs.YtadkmlcnmkdfiaaGreatDoor
namespace Go.Proofs.YtadkmlcnmkdfiaaGreatDoor
open Go.RowKit Xp
set_option linter.unusedVariables false
set_option linter.unusedSimpArgs false

theorem t6 {w : World} {b : Nat} {p q r s u v : Value} {t : TypeId} (h : w.heap[b]? = some (.cells #[p, q, r, s, u, v] t (0, 0))) :
    (w.cell? ⟨b, 0, none⟩ = some p ∧ w.cell? ⟨b, 1, none⟩ = some q ∧ w.cell? ⟨b, 2, none⟩ = some r ∧ w.cell? ⟨b, 3, none⟩ = some s ∧ w.cell? ⟨b, 4, none⟩ = some u ∧ w.cell? ⟨b, 5, none⟩ = some v) ∧ (w.frozen? ⟨b, 2, none⟩ = false ∧ w.frozen? ⟨b, 3, none⟩ = false ∧ w.frozen? ⟨b, 4, none⟩ = false ∧ w.frozen? ⟨b, 5, none⟩ = false) := by
  simp [World.cell?, World.frozen?, h]
abbrev ImM (W : World) (mI n : Nat) (A : ByteArray → Option Int) : Prop := MF (fun _ => True) (fun k : ByteArray => .string k) (fun x : Int => .int .i64 x) W mI n A
theorem under_mi : Tryz.prog.underlying 57 = some (.map 3 3) := by kernel_rfl
theorem under_ms : Tryz.prog.underlying 58 = some (.map 9 3) := by kernel_rfl
theorem zero_int (W : World) : (zeroValue 3).run Tryz.prog W = .ok (.int .i64 0) W := by kernel_rfl
theorem as_look2 {W : World} {m n : Nat} {A : Int → Option Int} (h : AsM W m n A) (k : Int) : (Instr.lookup 57 (.map (some m)) (.int .i64 k) true).run Tryz.prog W = .ok (.tuple #[.int .i64 ((A k).getD 0), .bool (A k).isSome]) W := by
  have := h.look keyI under_mi (zero_int W) k trivial true
  rw [this]
  cases A k <;> rfl
theorem im_look2 {W : World} {m n : Nat} {A : ByteArray → Option Int} (h : ImM W m n A) (k : ByteArray) : (Instr.lookup 58 (.map (some m)) (.string k) true).run Tryz.prog W = .ok (.tuple #[.int .i64 ((A k).getD 0), .bool (A k).isSome]) W := by
  have := h.look keyTX under_ms (zero_int W) k trivial true
  rw [this]
  cases A k <;> rfl
/-- a list of entries in a row of its own. -/
structure Rw (lo rb : Nat) (X : World) (v : Value) (l : List En) : Prop where
  row : X.ownsRow lo 49 5 v l.length (l.flatMap En.cs)
  ne : v.ownBlock ≠ some rb
  nil : l = [] → v = .slice none 0 0
theorem Rw.keep {lo rb : Nat} {X Y : World} {v : Value} {l : List En} (h : Rw lo rb X v l) (k : ∀ j, j < X.heap.size → j ≠ rb → lo ≤ j → Y.heap[j]? = X.heap[j]?) : Rw lo rb Y v l :=
  ⟨row_keep h.row fun j hj => k j (World.ownsRow.lt h.row j hj).2 (fun e => h.ne (by rw [← e]; exact hj)) (World.ownsRow.lt h.row j hj).1, h.ne, h.nil⟩
/-- the reader: its maps, and its lists. -/
structure Rst (W X : World) (rb mT mI : Nat) (tg : Int → Option Int) (im : ByteArray → Option Int) (l0 l1 l2 l3 : List En) : Prop where
  bel : Below W.heap.size W X
  lo : W.heap.size ≤ rb ∧ W.heap.size ≤ mT ∧ W.heap.size ≤ mI
  ne : mT ≠ mI
  ex : ∃ v0 v1 v2 v3, X.heap[rb]? = some (.cells #[.map (some mT), .map (some mI), v0, v1, v2, v3] 60 (0, 0)) ∧ Rw (max mT mI + 1) rb X v0 l0 ∧ Rw (max mT mI + 1) rb X v1 l1 ∧ Rw (max mT mI + 1) rb X v2 l2 ∧ Rw (max mT mI + 1) rb X v3 l3
  mt : ∃ n, AsM X mT n tg
  mi : ∃ n, ImM X mI n im
section
variable {W X Y : World} {rb mT mI : Nat} {tg : Int → Option Int} {im : ByteArray → Option Int} {l0 l1 l2 l3 : List En}
theorem Rst.lt (h : Rst W X rb mT mI tg im l0 l1 l2 l3) : rb < X.heap.size ∧ mT < X.heap.size ∧ mI < X.heap.size ∧ rb ≠ mT ∧ rb ≠ mI := by
  obtain ⟨v0, v1, v2, v3, hb, _⟩ := h.ex
  obtain ⟨n, es, cl, h1, _⟩ := h.mt
  obtain ⟨n2, es2, cl2, h2, _⟩ := h.mi
  exact ⟨(Array.getElem?_eq_some_iff.1 hb).1, (Array.getElem?_eq_some_iff.1 h1).1, (Array.getElem?_eq_some_iff.1 h2).1, fun e => (by rw [e, h1] at hb; cases hb), fun e => (by rw [e, h2] at hb; cases hb)⟩
theorem Rst.then (h : Rst W X rb mT mI tg im l0 l1 l2 l3) (b : Below X.heap.size X Y) : Rst W Y rb mT mI tg im l0 l1 l2 l3 := by
  obtain ⟨q1, q2, q3, _⟩ := h.lt
  obtain ⟨v0, v1, v2, v3, hb, r0, r1, r2, r3⟩ := h.ex
  obtain ⟨n, hn⟩ := h.mt
  obtain ⟨n2, hn2⟩ := h.mi
  exact ⟨h.bel.trans (b.mono h.bel.size), h.lo, h.ne, ⟨v0, v1, v2, v3, (b.block _ q1).trans hb, r0.keep fun j hj _ _ => b.block j hj, r1.keep fun j hj _ _ => b.block j hj, r2.keep fun j hj _ _ => b.block j hj, r3.keep fun j hj _ _ => b.block j hj⟩, ⟨n, hn.keep (b.block _ q2)⟩, ⟨n2, hn2.keep (b.block _ q3)⟩⟩
/-- one more import is known. -/
theorem Rst.addIm (h : Rst W X rb mT mI tg im l0 l1 l2 l3) {n : Nat} {im' : ByteArray → Option Int} (hm : ImM Y mI n im') (g : X.grownBy Y (some mI)) : Rst W Y rb mT mI tg im' l0 l1 l2 l3 := by
  obtain ⟨q1, q2, q3, q4, q5⟩ := h.lt
  have lo := h.lo
  have ne := h.ne
  obtain ⟨v0, v1, v2, v3, hb, r0, r1, r2, r3⟩ := h.ex
  obtain ⟨n1, hn⟩ := h.mt
  have kp : ∀ j, j < X.heap.size → j ≠ rb → max mT mI + 1 ≤ j → Y.heap[j]? = X.heap[j]? := fun j hj _ hlo => g.block j hj (fun e => by injection e with e; omega)
  refine ⟨h.bel.trans ⟨g.os, g.tape, g.output, g.size, fun k hk => g.block k (by have := h.bel.size; omega) (fun e => by injection e with e; omega)⟩, lo, ne, ⟨v0, v1, v2, v3, (g.block _ q1 (fun e => by injection e with e; exact q5 e)).trans hb, r0.keep kp, r1.keep kp, r2.keep kp, r3.keep kp⟩, ⟨n1, hn.keep (g.block _ q2 (fun e => by injection e with e; exact ne e))⟩, ⟨n, hm⟩⟩
end
set_option maxRecDepth 100000 in
set_option maxHeartbeats 8000000 in
theorem newReader_one {W : World} {q cp : Nat} {tx : ByteArray} {ty : Bool} {item target : Int} (hq : W.heap[q]? = some (.cells #[.string tx, .bool ty, .int .i64 item, .int .i64 target] 35 (0, 0))) :
    Calls Tryz.prog 24 #[.slice (some ⟨q, 0, none⟩) 1 cp] W fun e w' => ∃ rb mT mI, e = .returned (.pointer (some ⟨rb, 0, none⟩)) ∧ Rst W w' rb mT mI (upd (fun _ => none) item target) (fun _ => none) [] [] [] [] := by
  have hql := (Array.getElem?_eq_some_iff.1 hq).1
  have hmm := @run_makeMap Tryz.prog
  obtain ⟨⟨_, _, _, _⟩, _⟩ := t4 hq
  obtain ⟨wB, hwB⟩ : ∃ Z, ((W.alloc (.map #[] 0)).alloc (.map #[] 0)).alloc (.cells #[.map (some W.heap.size), .map (some (W.heap.size + 1)), .slice none 0 0, .slice none 0 0, .slice none 0 0, .slice none 0 0] 60) = Z := ⟨_, rfl⟩
  have b2 : Below W.heap.size W ((W.alloc (.map #[] 0)).alloc (.map #[] 0)) := ((Below.refl _ _).alloc (Nat.le_refl _) _).alloc (by simp) _
  have b3 : Below W.heap.size W wB := by rw [← hwB]; exact b2.alloc (by simp; omega) _
  have HR : Hid (Rst W wB (W.heap.size + 1 + 1) W.heap.size (W.heap.size + 1) (fun _ => none) (fun _ => none) [] [] [] []) := by
    have h1 : AsM (W.alloc (.map #[] 0)) W.heap.size 0 (fun _ => none) := MF.nil W
    have h2 : ImM ((W.alloc (.map #[] 0)).alloc (.map #[] 0)) (W.alloc (.map #[] 0)).heap.size 0 (fun _ => none) := MF.nil _
    have e1 : (W.alloc (.map #[] 0)).heap.size = W.heap.size + 1 := by simp
    rw [e1] at h2
    have nil : ∀ rb lo, Rw lo rb wB (.slice none 0 0) [] := fun rb lo => ⟨World.ownsRow_nil _ _ _ _, by simp [Value.ownBlock], fun _ => rfl⟩
    refine ⟨b3, by omega, by omega, ⟨_, _, _, _, by rw [← hwB]; exact hnewX _ (by simp), nil _ _, nil _ _, nil _ _, nil _ _⟩, ⟨0, h1.keep ?_⟩, ⟨0, h2.keep ?_⟩⟩
    · rw [← hwB, Below.heap_alloc _ _ _ (by simp; omega), Below.heap_alloc _ _ _ (by simp)]
    · rw [← hwB]; exact Below.heap_alloc _ _ _ (by simp)
  have qB := (b3.block q hql).trans hq
  obtain ⟨⟨_, _, _, _⟩, _⟩ := t4 qB
  -- behind the copy of the request
  obtain ⟨wC, hwC⟩ : ∃ Z, wB.alloc (.cells #[.string tx, .bool ty, .int .i64 item, .int .i64 target] 35) = Z := ⟨_, rfl⟩
  have bC : Below wB.heap.size wB wC := by rw [← hwC]; exact (Below.refl _ _).alloc (Nat.le_refl _) _
  have mC : wC.heap[wB.heap.size]? = some (.cells #[.string tx, .bool ty, .int .i64 item, .int .i64 target] 35 (0, 0)) := by rw [← hwC]; exact hnewX _ rfl
  have hC := HR.out.then bC
  have HC : Hid _ := hC
  obtain ⟨v0, v1, v2, v3, hbC, _⟩ := hC.ex
  obtain ⟨⟨_, _, _, _, _, _⟩, _⟩ := t6 hbC
  obtain ⟨⟨_, _, _, _⟩, _⟩ := t4 mC
  obtain ⟨n1, hmt⟩ := hC.mt
  have L1 := as_look2 (hmt.keep (w' := wC.drew) rfl) item
  obtain ⟨W3, hrun, hmf, hgr⟩ := (hmt.keep (w' := wC.drew.drew) rfl).update keyI under_mi item trivial target
  have HW3 : Hid (Rst W W3 (W.heap.size + 1 + 1) W.heap.size (W.heap.size + 1) (upd (fun _ => none) item target) (fun _ => none) [] [] [] []) := by
    obtain ⟨q1, q2, q3, q4, q5⟩ := hC.lt
    have g : ∀ k, k < wC.heap.size → k ≠ W.heap.size → W3.heap[k]? = wC.heap[k]? := fun k hk hk2 => hgr.block k hk (fun e => by injection e with e; exact hk2 e)
    obtain ⟨u0, u1, u2, u3, hb, r0, r1, r2, r3⟩ := hC.ex
    obtain ⟨n2, hn2⟩ := hC.mi
    have kp : ∀ j, j < wC.heap.size → j ≠ W.heap.size + 1 + 1 → max W.heap.size (W.heap.size + 1) + 1 ≤ j → W3.heap[j]? = wC.heap[j]? := fun j hj _ hlo => g j hj (by omega)
    exact ⟨hC.bel.trans ⟨hgr.os, hgr.tape, hgr.output, hgr.size, fun k hk => g k (by have := hC.bel.size; omega) (by omega)⟩, hC.lo, hC.ne, ⟨u0, u1, u2, u3, (g _ q1 (by omega)).trans hb, r0.keep kp, r1.keep kp, r2.keep kp, r3.keep kp⟩, ⟨_, hmf⟩, ⟨n2, hn2.keep (g _ q3 (by omega))⟩⟩
  clear hmf hgr hmt hC hbC HC HR b2 b3 bC
  go_enter Tryz.func24, Tryz.ntmps24
  go_wp2
  go_loopw [14] (fun v14 wr => (v14 = .int .i64 0 ∧ wr = wB) ∨ (v14 = .int .i64 1 ∧ wr = W3)) (fun v14 _ => 1 - (intOf v14).toNat)
  case atStart => exact Or.inl ⟨rfl, rfl⟩
  case round =>
    rcases hrel with ⟨rfl, hwr⟩ | ⟨rfl, hwr⟩
    · obtain rfl := hwr.symm
      go_wp2_with fail
      go_region
      go_wp2_with fail
      go_region
      go_wp2
      go_roundw
      case rel => exact Or.inr ⟨by simp, by first | rfl | trivial⟩
      case measure => simp [intOf]
    · obtain rfl := hwr.symm
      go_wp2
      go_ret
      exact ⟨_, rfl, _, _, HW3.out⟩
end Go.Proofs.YtadkmlcnmkdfiaaGreatDoor
namespace Go.Proofs.YtadkmlcnmkdfiaaGreatDoor
open Go.RowKit Xp
set_option linter.unusedVariables false
set_option linter.unusedSimpArgs false

section
variable {W X Y : World} {rb mT mI : Nat} {tg : Int → Option Int} {im : ByteArray → Option Int} {l0 l1 l2 l3 : List En}
set_option maxRecDepth 100000 in
theorem target_any (h : Rst W X rb mT mI tg im l0 l1 l2 l3) {item t : Int} (ht : tg item = some t) : Calls Tryz.prog 51 #[.pointer (some ⟨rb, 0, none⟩), .int .i64 item] X fun e w' => e = .returned (.int .i64 t) ∧ Below X.heap.size X w' := by
  obtain ⟨v0, v1, v2, v3, hb, _⟩ := h.ex
  obtain ⟨n, hn⟩ := h.mt
  obtain ⟨⟨_, _, _, _, _, _⟩, _⟩ := t6 hb
  have L1 := as_look2 hn item
  have L2 := as_look2 (hn.keep (w' := X.drew) rfl) item
  rw [ht] at L1 L2
  clear h hb hn
  go_enter Tryz.func51, Tryz.ntmps51
  go_wp2
  go_ret
  exact ⟨rfl, Below.refl _ _⟩
/-- one tree in a list of its own, as it is read. -/
theorem lat1 {S : Nat → Prop} {v : Value} {x : Nd} (h : LAt X S v [x]) : ∃ bl o c kv, v = .slice (some ⟨bl, o, none⟩) 1 c ∧ S bl ∧ bl < X.heap.size ∧ X.cell? ⟨bl, o, none⟩ = some (.int .i64 x.k) ∧ X.cell? ⟨bl, o + 1, none⟩ = some (.string x.t) ∧ X.cell? ⟨bl, o + 2, none⟩ = some (.int .i64 x.n) ∧ X.cell? ⟨bl, o + 3, none⟩ = some kv ∧ LAt X S kv x.ks := by
  obtain ⟨a, c, bl, o, f, e, h1, h2, h3⟩ := h.op
  obtain ⟨rfl, hS, hb⟩ := h1 (by simp)
  obtain ⟨c0, c1, c2, c3⟩ := h2 0 (by simp)
  simp at c0 c1 c2 c3
  exact ⟨bl, o, c, f 0, e, hS, hb, c0, c1, c2, c3, by simpa using h3 0 (by simp)⟩
set_option maxRecDepth 100000 in
theorem exportedName_as {S : Nat → Prop} {v : Value} {t : ByteArray} {n : Int} {y : Nd} (hy : (y.k == 14) = false) (h : LAt X S v [y]) : Calls Tryz.prog 81 #[.agg #[.int .i64 65, .string t, .int .i64 n, v]] X fun e w' => e = .returned (.string y.t) ∧ Below X.heap.size X w' := by
  obtain ⟨bl, o, c, kv, rfl, hS, hb, c0, c1, c2, c3, _⟩ := lat1 h
  have m0 := hnew (w := X) (.cells #[.int .i64 65, .string t, .int .i64 n, .slice (some ⟨bl, o, none⟩) 1 c] 25) rfl
  have bA := bel_a X (.cells #[.int .i64 65, .string t, .int .i64 n, .slice (some ⟨bl, o, none⟩) 1 c] 25)
  have d0 := (World.cell?_of_block (a := ⟨bl, o, none⟩) (bA.block bl hb)).trans c0
  have d1 := (World.cell?_of_block (a := ⟨bl, o + 1, none⟩) (bA.block bl hb)).trans c1
  obtain ⟨⟨_, _, _, _⟩, _⟩ := box4 m0
  have HB : Hid _ := bA
  clear h bA
  go_enter Tryz.func81, Tryz.ntmps81
  go_wp2
  go_ret
  exact ⟨rfl, HB.out⟩
set_option maxRecDepth 100000 in
theorem defaultName_num (t : ByteArray) (n : Int) (v : Value) (hv : ∃ a m c, v = .slice a m c) : Calls Tryz.prog 52 #[.agg #[.int .i64 1, .string t, .int .i64 n, v]] X fun e w' => e = .returned (.string dflt) ∧ Below X.heap.size X w' := by
  obtain ⟨a, m, c, rfl⟩ := hv
  go_enter Tryz.func52, Tryz.ntmps52
  go_wp2
  go_ret
  exact ⟨rfl, bel_a _ _⟩
theorem row_base {w : World} {base base' : Nat} {e : TypeId} {size : Nat} {v : Value} {n : Nat} {xs : List Value} (h : w.ownsRow base e size v n xs) (hb : base' ≤ base) : w.ownsRow base' e size v n xs := by
  refine ⟨h.1, ?_⟩
  rcases h.2 with hn | ⟨g, cap, cur, rfl, h1, rest⟩
  · exact .inl hn
  · exact .inr ⟨g, cap, cur, rfl, Nat.le_trans hb h1, rest⟩
/-- list number 0 gets its first entry. -/
theorem Rst.add0 (h : Rst W X rb mT mI tg im [] l1 l2 l3) {e : En} {Z : World} {gg cap : Nat} (b : Below X.heap.size X Z) (hg : X.heap.size ≤ gg) (ho : Z.ownsRow X.heap.size 49 5 (.slice (some ⟨gg, 0, none⟩) 1 cap) 1 e.cs) : Rst W (Z.setCell ⟨rb, 2, none⟩ (.slice (some ⟨gg, 0, none⟩) 1 cap)) rb mT mI tg im [e] l1 l2 l3 := by
  obtain ⟨q1, q2, q3, q4, q5⟩ := h.lt
  obtain ⟨v0, v1, v2, v3, hb, r0, r1, r2, r3⟩ := (h.then b).ex
  obtain ⟨n1, hn1⟩ := (h.then b).mt
  obtain ⟨n2, hn2⟩ := (h.then b).mi
  have kp : ∀ j, j ≠ rb → (Z.setCell ⟨rb, 2, none⟩ (.slice (some ⟨gg, 0, none⟩) 1 cap)).heap[j]? = Z.heap[j]? := fun j hj => Below.heap_setCell _ _ _ _ hj
  have lo := h.lo
  refine ⟨(h.then b).bel.setCell (by show W.heap.size ≤ rb; omega) _, lo, h.ne, ⟨.slice (some ⟨gg, 0, none⟩) 1 cap, v1, v2, v3, by simp [World.setCell, Array.getElem?_modify, hb], ⟨?_, (fun e => by have e2 : gg = rb := (by simpa [Value.ownBlock] using e); omega), fun h => by cases h⟩, r1.keep fun j _ hj _ => kp j hj, r2.keep fun j _ hj _ => kp j hj, r3.keep fun j _ hj _ => kp j hj⟩, ⟨n1, hn1.keep (kp _ (fun e => q4 e.symm))⟩, ⟨n2, hn2.keep (kp _ (fun e => q5 e.symm))⟩⟩
  have ho2 : Z.ownsRow (max mT mI + 1) 49 5 (.slice (some ⟨gg, 0, none⟩) 1 cap) 1 e.cs := row_base ho (by omega)
  have := row_keep ho2 (w' := Z.setCell ⟨rb, 2, none⟩ (.slice (some ⟨gg, 0, none⟩) 1 cap)) (fun j hj => kp j (by have e2 : gg = j := (by simpa [Value.ownBlock] using hj); omega))
  simpa using this
/-- add, at list number 0. -/
theorem add0_any (h : Rst W X rb mT mI tg im [] l1 l2 l3) (e : En) (h1 : e.here.size ≤ 281474976710656) (h2 : e.there.size ≤ 281474976710656) : Calls Tryz.prog 50 #[.pointer (some ⟨rb, 2, none⟩), .agg #[.string e.here, .string e.there, .int .i64 e.mod, .bool e.ty, .int .i64 e.item]] X fun x w' => x = .returned (.tuple #[]) ∧ Rst W w' rb mT mI tg im [e] l1 l2 l3 ∧ ∀ j, j < X.heap.size → j ≠ rb → w'.heap[j]? = X.heap[j]? := by
  obtain ⟨v0, v1, v2, v3, hb, r0, r1, r2, r3⟩ := h.ex
  obtain rfl := r0.nil rfl
  obtain ⟨⟨c0, c1, c2, c3, c4, c5⟩, f2, f3, f4, f5⟩ := t6 hb
  refine (add_one h1 h2 c2 f2).mono ?_
  rintro x w' ⟨Z, gg, cap, rfl, rfl, b, hg, ho⟩
  exact ⟨rfl, h.add0 b hg ho, fun j hj hr => (Below.heap_setCell _ _ _ _ hr).trans (b.block j hj)⟩
/-- list number 1 gets its first entry. -/
theorem Rst.add1 (h : Rst W X rb mT mI tg im l0 [] l2 l3) {e : En} {Z : World} {gg cap : Nat} (b : Below X.heap.size X Z) (hg : X.heap.size ≤ gg) (ho : Z.ownsRow X.heap.size 49 5 (.slice (some ⟨gg, 0, none⟩) 1 cap) 1 e.cs) : Rst W (Z.setCell ⟨rb, 3, none⟩ (.slice (some ⟨gg, 0, none⟩) 1 cap)) rb mT mI tg im l0 [e] l2 l3 := by
  obtain ⟨q1, q2, q3, q4, q5⟩ := h.lt
  obtain ⟨v0, v1, v2, v3, hb, r0, r1, r2, r3⟩ := (h.then b).ex
  obtain ⟨n1, hn1⟩ := (h.then b).mt
  obtain ⟨n2, hn2⟩ := (h.then b).mi
  have kp : ∀ j, j ≠ rb → (Z.setCell ⟨rb, 3, none⟩ (.slice (some ⟨gg, 0, none⟩) 1 cap)).heap[j]? = Z.heap[j]? := fun j hj => Below.heap_setCell _ _ _ _ hj
  have lo := h.lo
  refine ⟨(h.then b).bel.setCell (by show W.heap.size ≤ rb; omega) _, lo, h.ne, ⟨v0, .slice (some ⟨gg, 0, none⟩) 1 cap, v2, v3, by simp [World.setCell, Array.getElem?_modify, hb], r0.keep fun j _ hj _ => kp j hj, ⟨?_, (fun e => by have e2 : gg = rb := (by simpa [Value.ownBlock] using e); omega), fun h => by cases h⟩, r2.keep fun j _ hj _ => kp j hj, r3.keep fun j _ hj _ => kp j hj⟩, ⟨n1, hn1.keep (kp _ (fun e => q4 e.symm))⟩, ⟨n2, hn2.keep (kp _ (fun e => q5 e.symm))⟩⟩
  have ho2 : Z.ownsRow (max mT mI + 1) 49 5 (.slice (some ⟨gg, 0, none⟩) 1 cap) 1 e.cs := row_base ho (by omega)
  have := row_keep ho2 (w' := Z.setCell ⟨rb, 3, none⟩ (.slice (some ⟨gg, 0, none⟩) 1 cap)) (fun j hj => kp j (by have e2 : gg = j := (by simpa [Value.ownBlock] using hj); omega))
  simpa using this
/-- add, at list number 1. -/
theorem add1_any (h : Rst W X rb mT mI tg im l0 [] l2 l3) (e : En) (h1 : e.here.size ≤ 281474976710656) (h2 : e.there.size ≤ 281474976710656) : Calls Tryz.prog 50 #[.pointer (some ⟨rb, 3, none⟩), .agg #[.string e.here, .string e.there, .int .i64 e.mod, .bool e.ty, .int .i64 e.item]] X fun x w' => x = .returned (.tuple #[]) ∧ Rst W w' rb mT mI tg im l0 [e] l2 l3 ∧ ∀ j, j < X.heap.size → j ≠ rb → w'.heap[j]? = X.heap[j]? := by
  obtain ⟨v0, v1, v2, v3, hb, r0, r1, r2, r3⟩ := h.ex
  obtain rfl := r1.nil rfl
  obtain ⟨⟨c0, c1, c2, c3, c4, c5⟩, f2, f3, f4, f5⟩ := t6 hb
  refine (add_one h1 h2 c3 f3).mono ?_
  rintro x w' ⟨Z, gg, cap, rfl, rfl, b, hg, ho⟩
  exact ⟨rfl, h.add1 b hg ho, fun j hj hr => (Below.heap_setCell _ _ _ _ hr).trans (b.block j hj)⟩
/-- list number 2 gets its first entry. -/
theorem Rst.add2 (h : Rst W X rb mT mI tg im l0 l1 [] l3) {e : En} {Z : World} {gg cap : Nat} (b : Below X.heap.size X Z) (hg : X.heap.size ≤ gg) (ho : Z.ownsRow X.heap.size 49 5 (.slice (some ⟨gg, 0, none⟩) 1 cap) 1 e.cs) : Rst W (Z.setCell ⟨rb, 4, none⟩ (.slice (some ⟨gg, 0, none⟩) 1 cap)) rb mT mI tg im l0 l1 [e] l3 := by
  obtain ⟨q1, q2, q3, q4, q5⟩ := h.lt
  obtain ⟨v0, v1, v2, v3, hb, r0, r1, r2, r3⟩ := (h.then b).ex
  obtain ⟨n1, hn1⟩ := (h.then b).mt
  obtain ⟨n2, hn2⟩ := (h.then b).mi
  have kp : ∀ j, j ≠ rb → (Z.setCell ⟨rb, 4, none⟩ (.slice (some ⟨gg, 0, none⟩) 1 cap)).heap[j]? = Z.heap[j]? := fun j hj => Below.heap_setCell _ _ _ _ hj
  have lo := h.lo
  refine ⟨(h.then b).bel.setCell (by show W.heap.size ≤ rb; omega) _, lo, h.ne, ⟨v0, v1, .slice (some ⟨gg, 0, none⟩) 1 cap, v3, by simp [World.setCell, Array.getElem?_modify, hb], r0.keep fun j _ hj _ => kp j hj, r1.keep fun j _ hj _ => kp j hj, ⟨?_, (fun e => by have e2 : gg = rb := (by simpa [Value.ownBlock] using e); omega), fun h => by cases h⟩, r3.keep fun j _ hj _ => kp j hj⟩, ⟨n1, hn1.keep (kp _ (fun e => q4 e.symm))⟩, ⟨n2, hn2.keep (kp _ (fun e => q5 e.symm))⟩⟩
  have ho2 : Z.ownsRow (max mT mI + 1) 49 5 (.slice (some ⟨gg, 0, none⟩) 1 cap) 1 e.cs := row_base ho (by omega)
  have := row_keep ho2 (w' := Z.setCell ⟨rb, 4, none⟩ (.slice (some ⟨gg, 0, none⟩) 1 cap)) (fun j hj => kp j (by have e2 : gg = j := (by simpa [Value.ownBlock] using hj); omega))
  simpa using this
/-- add, at list number 2. -/
theorem add2_any (h : Rst W X rb mT mI tg im l0 l1 [] l3) (e : En) (h1 : e.here.size ≤ 281474976710656) (h2 : e.there.size ≤ 281474976710656) : Calls Tryz.prog 50 #[.pointer (some ⟨rb, 4, none⟩), .agg #[.string e.here, .string e.there, .int .i64 e.mod, .bool e.ty, .int .i64 e.item]] X fun x w' => x = .returned (.tuple #[]) ∧ Rst W w' rb mT mI tg im l0 l1 [e] l3 ∧ ∀ j, j < X.heap.size → j ≠ rb → w'.heap[j]? = X.heap[j]? := by
  obtain ⟨v0, v1, v2, v3, hb, r0, r1, r2, r3⟩ := h.ex
  obtain rfl := r2.nil rfl
  obtain ⟨⟨c0, c1, c2, c3, c4, c5⟩, f2, f3, f4, f5⟩ := t6 hb
  refine (add_one h1 h2 c4 f4).mono ?_
  rintro x w' ⟨Z, gg, cap, rfl, rfl, b, hg, ho⟩
  exact ⟨rfl, h.add2 b hg ho, fun j hj hr => (Below.heap_setCell _ _ _ _ hr).trans (b.block j hj)⟩
end
end Go.Proofs.YtadkmlcnmkdfiaaGreatDoor
namespace Go.Proofs.YtadkmlcnmkdfiaaGreatDoor
open Go.RowKit Xp
set_option linter.unusedVariables false
set_option linter.unusedSimpArgs false

section
variable {W X Y : World} {rb mT mI : Nat} {tg : Int → Option Int} {im : ByteArray → Option Int} {l0 l1 l2 l3 : List En}
theorem LAt.at {v : Value} {ks : List Nd} (h : LAt W (fun j => j < W.heap.size) v ks) (b : Below W.heap.size W X) : LAt X (fun j => j < W.heap.size) v ks := h.keep b.size (fun j hj _ => b.block j hj)
theorem c4_keep {Z Z' : World} {bl o : Nat} {x : Nd} {v : Value} (h : Four Z bl o x v) (e : Z'.heap[bl]? = Z.heap[bl]?) : Four Z' bl o x v := h.of_block e
set_option maxRecDepth 100000 in
set_option maxHeartbeats 8000000 in
theorem readImport_one (h : Rst W X rb mT mI tg im [] l1 l2 l3) {t s nm : ByteArray} {v : Value} {item tgt : Int} (hx : LAt W (fun j => j < W.heap.size) v [.mk 61 s 0 [.mk 6 nm 0 []]]) (hi : im nm = none) (ht : tg item = some tgt) (h1 : nm.size ≤ 281474976710656) (h2 : s.size ≤ 281474976710656) :
    Calls Tryz.prog 25 #[.pointer (some ⟨rb, 0, none⟩), .agg #[.int .i64 60, .string t, .int .i64 0, v], .int .i64 item] X fun e w' => e = .returned (.tuple #[]) ∧ Rst W w' rb mT mI tg (upd im nm 0) [⟨nm, s, tgt, false, item⟩] l1 l2 l3 := by
  obtain ⟨bl, o, c, kv, rfl, hS, hb, c0, c1, c2, c3, hk⟩ := lat1 (hx.at h.bel)
  obtain ⟨bk, ok, ck, kk, rfl, hSk, hbk, k0, k1, k2, k3, _⟩ := lat1 hk
  simp only [Nd.k, Nd.t, Nd.n] at c0 c1 c2 k1
  -- the copies
  obtain ⟨X1, hX1⟩ : ∃ Z, X.alloc (.cells #[.int .i64 60, .string t, .int .i64 0, .slice (some ⟨bl, o, none⟩) 1 c] 25) = Z := ⟨_, rfl⟩
  have b1 : Below X.heap.size X X1 := by rw [← hX1]; exact bel_a _ _
  have m1 : X1.heap[X.heap.size]? = some (.cells #[.int .i64 60, .string t, .int .i64 0, .slice (some ⟨bl, o, none⟩) 1 c] 25 (0, 0)) := by rw [← hX1]; exact hnew _ rfl
  obtain ⟨X2, hX2⟩ : ∃ Z, X1.alloc (.cells #[.int .i64 61, .string s, .int .i64 0, .slice (some ⟨bk, ok, none⟩) 1 ck] 25) = Z := ⟨_, rfl⟩
  have b2 : Below X1.heap.size X1 X2 := by rw [← hX2]; exact bel_a _ _
  have m2 : X2.heap[X1.heap.size]? = some (.cells #[.int .i64 61, .string s, .int .i64 0, .slice (some ⟨bk, ok, none⟩) 1 ck] 25 (0, 0)) := by rw [← hX2]; exact hnew _ rfl
  have l1' : X.heap.size < X1.heap.size := (Array.getElem?_eq_some_iff.1 m1).1
  have m12 := (b2.block _ l1').trans m1
  have cA := fun j => (World.cell?_of_block (a := ⟨bl, j, none⟩) (b1.block bl hb))
  have kA := fun j => (World.cell?_of_block (a := ⟨bk, j, none⟩) ((b2.block bk (by omega)).trans (b1.block bk hbk)))
  have d0 := (cA o).trans c0
  have d1 := (cA (o + 1)).trans c1
  have d2 := (cA (o + 2)).trans c2
  have d3 := (cA (o + 3)).trans c3
  have e1 := (kA (ok + 1)).trans k1
  have r2 := (h.then b1).then b2
  obtain ⟨v0, v1, v2, v3, hbR, r0, _⟩ := r2.ex
  obtain rfl := r0.nil rfl
  obtain ⟨⟨_, _, _, _, _, _⟩, _⟩ := t6 hbR
  obtain ⟨n2, hmi⟩ := r2.mi
  have L1 := im_look2 hmi nm
  have L2 := im_look2 (hmi.keep (w' := X2.drew) rfl) nm
  rw [hi] at L1 L2
  obtain ⟨W3, hrun, hmf, hgr⟩ := (hmi.keep (w' := X2.drew) rfl).update keyTX under_ms nm trivial (0 : Int)
  have r3 : Rst W W3 rb mT mI tg (upd im nm 0) [] l1 l2 l3 := r2.addIm hmf ⟨hgr.os, hgr.tape, hgr.output, hgr.size, hgr.block⟩
  have lo := h.lo
  have hXW := h.bel.size
  obtain ⟨q1, q2, q3, q4, q5⟩ := h.lt
  have m3 : W3.heap[X1.heap.size]? = some (.cells #[.int .i64 61, .string s, .int .i64 0, .slice (some ⟨bk, ok, none⟩) 1 ck] 25 (0, 0)) := (hgr.block _ (Array.getElem?_eq_some_iff.1 m2).1 (fun e => by injection e with e; omega)).trans m2
  have m4 : W3.heap[X.heap.size]? = some (.cells #[.int .i64 60, .string t, .int .i64 0, .slice (some ⟨bl, o, none⟩) 1 c] 25 (0, 0)) := (hgr.block _ (Array.getElem?_eq_some_iff.1 m12).1 (fun e => by injection e with e; omega)).trans m12
  obtain ⟨⟨_, _, _, _⟩, _⟩ := box4 m1
  obtain ⟨⟨_, _, _, _⟩, _⟩ := box4 m2
  obtain ⟨⟨_, _, _, _⟩, _⟩ := box4 m12
  have R3 : Hid (Rst W W3 rb mT mI tg (upd im nm 0) [] l1 l2 l3) := r3
  have HST : Hid (∀ Z : World, (Z.heap[X1.heap.size]? = W3.heap[X1.heap.size]? ∧ Z.heap[X.heap.size]? = W3.heap[X.heap.size]?) → Z.cell? ⟨X1.heap.size, 1, none⟩ = some (.string s) ∧ Z.cell? ⟨X.heap.size, 2, none⟩ = some (.int .i64 0)) := fun Z hZ => ⟨(box4 (hZ.1.trans m3)).1.2.1, (box4 (hZ.2.trans m4)).1.2.2.1⟩
  have hlt3 : X1.heap.size < W3.heap.size := (Array.getElem?_eq_some_iff.1 m3).1
  have HLT : Hid (X1.heap.size < W3.heap.size ∧ X.heap.size < X1.heap.size ∧ X1.heap.size ≠ rb ∧ X.heap.size ≠ rb) := ⟨hlt3, l1', by omega, by omega⟩
  clear r2 hmi hmf hgr r3 m3 m4 m12 c0 c1 c2 c3 k0 k1 k2 k3 cA kA hbR r0 h hk hx hlt3
  go_enter Tryz.func25, Tryz.ntmps25
  go_wp2
  go_loopw [17] (fun v17 wr => (v17 = .int .i64 0 ∧ wr = X1) ∨ (v17 = .int .i64 1 ∧ Rst W wr rb mT mI tg (upd im nm 0) [⟨nm, s, tgt, false, item⟩] l1 l2 l3)) (fun v17 _ => 1 - (intOf v17).toNat)
  case atStart => exact Or.inl ⟨rfl, rfl⟩
  case round =>
    rcases hrel with ⟨rfl, hwr⟩ | ⟨rfl, hR⟩
    · obtain rfl := hwr.symm
      go_wp2_with fail
      go_region
      go_wp2_with fail
      have st0 := HST.out W3.drew ⟨rfl, rfl⟩
      go_region_held3 (fun Z => Z.cell? ⟨X1.heap.size, 1, none⟩ = some (.string s) ∧ Z.cell? ⟨X.heap.size, 2, none⟩ = some (.int .i64 0))
        (first | assumption | exact st0 | exact st1 | exact st2)
        (first
          | (go_at_call 51; refine (target_any (R3.out.then (Below.refl _ _).drew) ht).mono ?_; rintro e Z1 ⟨rfl, z1⟩; have R4 : Hid (Rst W Z1 rb mT mI tg (upd im nm 0) [] l1 l2 l3) := (R3.out.then (Below.refl _ _).drew).then z1; have st1 := HST.out Z1 ⟨z1.block _ HLT.out.1, z1.block _ (Nat.lt_trans HLT.out.2.1 HLT.out.1)⟩)
          | (go_at_call 50; refine (add0_any R4.out ⟨nm, s, tgt, false, item⟩ h1 h2).mono ?_; rintro e Z2 ⟨rfl, R5, fr⟩; have st2 := HST.out Z2 ⟨(fr _ (Nat.lt_of_lt_of_le HLT.out.1 z1.size) HLT.out.2.2.1).trans (z1.block _ HLT.out.1), (fr _ (Nat.lt_of_lt_of_le (Nat.lt_trans HLT.out.2.1 HLT.out.1) z1.size) HLT.out.2.2.2).trans (z1.block _ (Nat.lt_trans HLT.out.2.1 HLT.out.1))⟩))
      all_goals
        go_wp2
        go_roundw
        case rel => exact Or.inr ⟨by simp, R5⟩
        case measure => simp [intOf]
    · go_wp2
      go_end0
      exact ⟨rfl, hR⟩
set_option maxRecDepth 100000 in
theorem readImport_no (h : Rst W X rb mT mI tg im l0 l1 l2 l3) {k : Int} (hk : k = 64 ∨ k = 63) (t : ByteArray) (n : Int) {v : Value} (hv : ∃ a m c, v = .slice a m c) (item : Int) :
    Calls Tryz.prog 25 #[.pointer (some ⟨rb, 0, none⟩), .agg #[.int .i64 k, .string t, .int .i64 n, v], .int .i64 item] X fun e w' => e = .returned (.tuple #[]) ∧ Rst W w' rb mT mI tg im l0 l1 l2 l3 := by
  obtain ⟨a, m, c, rfl⟩ := hv
  have HR : Hid _ := h.then (bel_a X (.cells #[.int .i64 k, .string t, .int .i64 n, .slice a m c] 25))
  clear h
  rcases hk with rfl | rfl
  all_goals
    go_enter Tryz.func25, Tryz.ntmps25
    go_wp2
    refine bodyPost_ret (results_none rfl _ _ _) rfl ?_
    exact ⟨rfl, HR.out⟩
end
end Go.Proofs.YtadkmlcnmkdfiaaGreatDoor
namespace Go.Proofs.YtadkmlcnmkdfiaaGreatDoor
open Go.RowKit Xp
set_option linter.unusedVariables false
set_option linter.unusedSimpArgs false

section
variable {W X Y : World} {rb mT mI : Nat} {tg : Int → Option Int} {im : ByteArray → Option Int} {l0 l1 l2 l3 : List En}
theorem rw_one {lo : Nat} {v : Value} {e : En} (h : Rw lo rb X v [e]) : ∃ gg cap, v = .slice (some ⟨gg, 0, none⟩) 1 cap ∧ gg < X.heap.size ∧ X.cell? ⟨gg, 0, none⟩ = some (.string e.here) ∧ X.cell? ⟨gg, 1, none⟩ = some (.string e.there) ∧ X.cell? ⟨gg, 2, none⟩ = some (.int .i64 e.mod) ∧ X.cell? ⟨gg, 3, none⟩ = some (.bool e.ty) ∧ X.cell? ⟨gg, 4, none⟩ = some (.int .i64 e.item) := by
  have hr := h.row
  obtain ⟨gg, cap, rfl, _, _⟩ := row_some hr (by simp)
  have c := fun j (hj : j < 5) => World.ownsRow.cellAt hr j (by simpa using hj)
  refine ⟨gg, cap, rfl, (World.ownsRow.lt hr gg rfl).2, ?_, ?_, ?_, ?_, ?_⟩
  · simpa [En.cs] using c 0 (by omega)
  · simpa [En.cs] using c 1 (by omega)
  · simpa [En.cs] using c 2 (by omega)
  · simpa [En.cs] using c 3 (by omega)
  · simpa [En.cs] using c 4 (by omega)
set_option maxRecDepth 100000 in
set_option maxHeartbeats 16000000 in
theorem readHere_im {eh et : ByteArray} {em ei : Int} (h : Rst W X rb mT mI tg im [⟨eh, et, em, false, ei⟩] l1 [] l3) {nm : ByteArray} {y : Nd} {vn v : Value} {item : Int} (hvn : ∃ a m c, vn = .slice a m c) (hx : LAt W (fun j => j < W.heap.size) v [y]) (hy : (y.k == 14) = false) (hi : im nm = some 0) (h1 : y.t.size ≤ 281474976710656) (h2 : et.size ≤ 281474976710656) :
    Calls Tryz.prog 53 #[.pointer (some ⟨rb, 0, none⟩), .agg #[.int .i64 64, .string ⟨#[]⟩, .int .i64 0, vn], .agg #[.int .i64 65, .string nm, .int .i64 0, v], .int .i64 item] X fun x w' => x = .returned (.tuple #[]) ∧ Rst W w' rb mT mI tg im [⟨eh, et, em, false, ei⟩] l1 [⟨y.t, et, em, false, item⟩] l3 := by
  obtain ⟨na, nn, nc, rfl⟩ := hvn
  have HX : Hid _ := hx
  obtain ⟨bl, o, c, kv, rfl, _⟩ := lat1 hx
  obtain ⟨X1, hX1⟩ : ∃ Z, (X.alloc (.cells #[.int .i64 64, .string ⟨#[]⟩, .int .i64 0, .slice na nn nc] 25)).alloc (.cells #[.int .i64 65, .string nm, .int .i64 0, .slice (some ⟨bl, o, none⟩) 1 c] 25) = Z := ⟨_, rfl⟩
  have b1 : Below X.heap.size X X1 := by rw [← hX1]; exact (bel_a _ _).alloc (by simp) _
  have m5 : X1.heap[X.heap.size]? = some (.cells #[.int .i64 64, .string ⟨#[]⟩, .int .i64 0, .slice na nn nc] 25 (0, 0)) := by rw [← hX1]; exact hold _ (by simp) (hnew _ rfl)
  have m6 : X1.heap[X.heap.size + 1]? = some (.cells #[.int .i64 65, .string nm, .int .i64 0, .slice (some ⟨bl, o, none⟩) 1 c] 25 (0, 0)) := by rw [← hX1]; exact hnew _ (by simp)
  have r1 := (h.then b1).then (Below.refl _ _).drew
  obtain ⟨v0, v1, v2, v3, hbR, r0, _⟩ := r1.ex
  obtain ⟨gg, cap, rfl, hgl, g0, g1, g2, g3, g4⟩ := rw_one r0
  obtain ⟨⟨_, _, _, _, _, _⟩, _⟩ := t6 hbR
  have hbR' : X1.heap[rb]? = some (.cells #[.map (some mT), .map (some mI), .slice (some ⟨gg, 0, none⟩) 1 cap, v1, v2, v3] 60 (0, 0)) := hbR
  obtain ⟨⟨_, _, _, _, _, _⟩, _⟩ := t6 hbR'
  obtain ⟨n2, hmi⟩ := r1.mi
  have L1 := im_look2 hmi nm
  rw [hi] at L1
  obtain ⟨⟨_, _, _, _⟩, _⟩ := box4 m5
  obtain ⟨⟨_, _, _, _⟩, _⟩ := box4 m6
  -- behind the copy of the entry
  obtain ⟨X3, hX3⟩ : ∃ Z, X1.alloc (enO ⟨eh, et, em, false, ei⟩) = Z := ⟨_, rfl⟩
  have b3 : Below X1.heap.size X1 X3 := by rw [← hX3]; exact bel_a _ _
  have m3 : X3.heap[X1.heap.size]? = some (enO ⟨eh, et, em, false, ei⟩) := by rw [← hX3]; exact hnew _ rfl
  have l5 := (Array.getElem?_eq_some_iff.1 m5).1
  have l6 := (Array.getElem?_eq_some_iff.1 m6).1
  have m53 := (b3.block X.heap.size l5).trans m5
  have m63 := (b3.block (X.heap.size + 1) l6).trans m6
  have R3 : Hid (Rst W X3.drew.drew rb mT mI tg im [⟨eh, et, em, false, ei⟩] l1 [] l3) := (((h.then b1).then b3).then (Below.refl _ _).drew).then (Below.refl _ _).drew
  obtain ⟨q1, q2, q3, q4, q5⟩ := h.lt
  have l3' := (Array.getElem?_eq_some_iff.1 m3).1
  have HLT : Hid (X.heap.size < X3.heap.size ∧ X.heap.size + 1 < X3.heap.size ∧ X1.heap.size < X3.heap.size ∧ X.heap.size ≠ rb ∧ X.heap.size + 1 ≠ rb ∧ X1.heap.size ≠ rb) := ⟨(Array.getElem?_eq_some_iff.1 m53).1, (Array.getElem?_eq_some_iff.1 m63).1, l3', by omega, by omega, by omega⟩
  have HST : Hid (∀ Z : World, (∀ j, (j = X.heap.size ∨ j = X.heap.size + 1 ∨ j = X1.heap.size) → Z.heap[j]? = X3.heap[j]?) → (Z.cell? ⟨X.heap.size + 1, 0, none⟩ = some (.int .i64 65) ∧ Z.cell? ⟨X.heap.size + 1, 1, none⟩ = some (.string nm) ∧ Z.cell? ⟨X.heap.size + 1, 2, none⟩ = some (.int .i64 0) ∧ Z.cell? ⟨X.heap.size + 1, 3, none⟩ = some (.slice (some ⟨bl, o, none⟩) 1 c) ∧ Z.cell? ⟨X1.heap.size, 1, none⟩ = some (.string et) ∧ Z.cell? ⟨X1.heap.size, 2, none⟩ = some (.int .i64 em) ∧ Z.cell? ⟨X1.heap.size, 3, none⟩ = some (.bool false) ∧ Z.cell? ⟨X.heap.size, 2, none⟩ = some (.int .i64 0))) := fun Z hZ => by
    obtain ⟨⟨a0, a1, a2, a3⟩, _⟩ := box4 ((hZ _ (Or.inr (Or.inl rfl))).trans m63)
    obtain ⟨_, a5, a6, a7, _, _, _⟩ := t5e ((hZ _ (Or.inr (Or.inr rfl))).trans m3)
    obtain ⟨⟨_, _, a8, _⟩, _⟩ := box4 ((hZ _ (Or.inl rfl)).trans m53)
    exact ⟨a0, a1, a2, a3, a5, a6, a7, a8⟩
  have CE : Hid (∀ Z, Rst W Z rb mT mI tg im [⟨eh, et, em, false, ei⟩] l1 [] l3 → Calls Tryz.prog 81 #[.agg #[.int .i64 65, .string nm, .int .i64 0, .slice (some ⟨bl, o, none⟩) 1 c]] Z fun x w' => x = .returned (.string y.t) ∧ Below Z.heap.size Z w') := fun Z hZ => exportedName_as hy (HX.out.at hZ.bel)
  clear r1 hbR hbR' r0 hmi m53 m63 m3 h hx b3 b1 m5 m6
  go_enter Tryz.func53, Tryz.ntmps53
  go_wp2_with fail
  go_region
  go_wp2_with fail
  have st0 := HST.out X3.drew.drew (fun _ _ => rfl)
  go_region_held3 (fun Z => Z.cell? ⟨X.heap.size + 1, 0, none⟩ = some (.int .i64 65) ∧ Z.cell? ⟨X.heap.size + 1, 1, none⟩ = some (.string nm) ∧ Z.cell? ⟨X.heap.size + 1, 2, none⟩ = some (.int .i64 0) ∧ Z.cell? ⟨X.heap.size + 1, 3, none⟩ = some (.slice (some ⟨bl, o, none⟩) 1 c) ∧ Z.cell? ⟨X1.heap.size, 1, none⟩ = some (.string et) ∧ Z.cell? ⟨X1.heap.size, 2, none⟩ = some (.int .i64 em) ∧ Z.cell? ⟨X1.heap.size, 3, none⟩ = some (.bool false) ∧ Z.cell? ⟨X.heap.size, 2, none⟩ = some (.int .i64 0))
    (first | assumption | exact st0 | exact st1 | exact st2)
    (first
      | (go_at_call 81; refine (CE.out _ R3.out).mono ?_; rintro x Z1 ⟨rfl, z1⟩; have R4 : Hid (Rst W Z1 rb mT mI tg im [⟨eh, et, em, false, ei⟩] l1 [] l3) := R3.out.then z1; have fr1 : Hid (∀ j, (j = X.heap.size ∨ j = X.heap.size + 1 ∨ j = X1.heap.size) → Z1.heap[j]? = X3.heap[j]?) := (fun j hj => z1.block j (by have := HLT.out; show j < X3.heap.size; omega)); have st1 := HST.out Z1 fr1.out)
      | (go_at_call 50; refine (add2_any R4.out ⟨y.t, et, em, false, item⟩ h1 h2).mono ?_; rintro x Z2 ⟨rfl, R5, fr⟩; have st2 := HST.out Z2 (fun j hj => (fr j (by have := HLT.out; have := z1.size; have h3 : X3.heap.size ≤ Z1.heap.size := this; omega) (by have := HLT.out; omega)).trans (fr1.out j hj))))
  all_goals
    go_wp2
    go_end0
    exact ⟨rfl, R5⟩
end
end Go.Proofs.YtadkmlcnmkdfiaaGreatDoor
namespace Go.Proofs.YtadkmlcnmkdfiaaGreatDoor
open Go.RowKit Xp
set_option linter.unusedVariables false
set_option linter.unusedSimpArgs false

theorem dflt_le : dflt.size ≤ 281474976710656 := by decide
section
variable {W X Y : World} {rb mT mI : Nat} {tg : Int → Option Int} {im : ByteArray → Option Int} {l0 l1 l2 l3 : List En}
set_option maxRecDepth 100000 in
theorem readExport_no (h : Rst W X rb mT mI tg im l0 l1 l2 l3) (t : ByteArray) (n : Int) {v : Value} (hv : ∃ a m c, v = .slice a m c) (item : Int) :
    Calls Tryz.prog 26 #[.pointer (some ⟨rb, 0, none⟩), .agg #[.int .i64 60, .string t, .int .i64 n, v], .int .i64 item] X fun e w' => e = .returned (.tuple #[]) ∧ Rst W w' rb mT mI tg im l0 l1 l2 l3 := by
  obtain ⟨a, m, c, rfl⟩ := hv
  have HR : Hid _ := h.then (bel_a X (.cells #[.int .i64 60, .string t, .int .i64 n, .slice a m c] 25))
  clear h
  go_enter Tryz.func26, Tryz.ntmps26
  go_wp2
  go_end0
  exact ⟨rfl, HR.out⟩
set_option maxRecDepth 100000 in
set_option maxHeartbeats 16000000 in
theorem readExport_here {eh et : ByteArray} {em ei : Int} (h : Rst W X rb mT mI tg im [⟨eh, et, em, false, ei⟩] l1 [] l3) {nm : ByteArray} {y : Nd} {v : Value} {item : Int} (hx : LAt W (fun j => j < W.heap.size) v [.mk 65 nm 0 [y]]) (hy : (y.k == 14) = false) (hi : im nm = some 0) (h1 : y.t.size ≤ 281474976710656) (h2 : et.size ≤ 281474976710656) :
    Calls Tryz.prog 26 #[.pointer (some ⟨rb, 0, none⟩), .agg #[.int .i64 64, .string ⟨#[]⟩, .int .i64 0, v], .int .i64 item] X fun e w' => e = .returned (.tuple #[]) ∧ Rst W w' rb mT mI tg im [⟨eh, et, em, false, ei⟩] l1 [⟨y.t, et, em, false, item⟩] l3 := by
  have HX : Hid _ := hx
  obtain ⟨bl, o, c, kv, rfl, hS, hb, c0, c1, c2, c3, hk⟩ := lat1 (hx.at h.bel)
  obtain ⟨bk, ok, ck, kk, rfl, _⟩ := lat1 hk
  simp only [Nd.k, Nd.t, Nd.n] at c0 c1 c2
  obtain ⟨X1, hX1⟩ : ∃ Z, X.alloc (.cells #[.int .i64 64, .string ⟨#[]⟩, .int .i64 0, .slice (some ⟨bl, o, none⟩) 1 c] 25) = Z := ⟨_, rfl⟩
  have b1 : Below X.heap.size X X1 := by rw [← hX1]; exact bel_a _ _
  have m1 : X1.heap[X.heap.size]? = some (.cells #[.int .i64 64, .string ⟨#[]⟩, .int .i64 0, .slice (some ⟨bl, o, none⟩) 1 c] 25 (0, 0)) := by rw [← hX1]; exact hnew _ rfl
  obtain ⟨X2, hX2⟩ : ∃ Z, X1.alloc (.cells #[.int .i64 65, .string nm, .int .i64 0, .slice (some ⟨bk, ok, none⟩) 1 ck] 25) = Z := ⟨_, rfl⟩
  have b2 : Below X1.heap.size X1 X2 := by rw [← hX2]; exact bel_a _ _
  have m2 : X2.heap[X1.heap.size]? = some (.cells #[.int .i64 65, .string nm, .int .i64 0, .slice (some ⟨bk, ok, none⟩) 1 ck] 25 (0, 0)) := by rw [← hX2]; exact hnew _ rfl
  have m12 := (b2.block _ (Array.getElem?_eq_some_iff.1 m1).1).trans m1
  have cA := fun j => (World.cell?_of_block (a := ⟨bl, j, none⟩) (b1.block bl hb))
  have d0 := (cA o).trans c0
  have d1 := (cA (o + 1)).trans c1
  have d2 := (cA (o + 2)).trans c2
  have d3 := (cA (o + 3)).trans c3
  have r2 := (h.then b1).then b2
  have hkW : LAt W (fun j => j < W.heap.size) (.slice (some ⟨bk, ok, none⟩) 1 ck) [y] := by
    obtain ⟨bl', o', c', kv', e, _, hb', _, _, _, c3', hk'⟩ := lat1 HX.out
    simp only [Value.slice.injEq, Option.some.injEq, Addr.mk.injEq] at e
    obtain ⟨⟨rfl, rfl, _⟩, _, rfl⟩ := e
    have := (World.cell?_of_block (a := ⟨bl, o + 3, none⟩) (h.bel.block bl hS)).trans c3'
    rw [c3] at this
    injection this with this
    rw [this]
    exact hk'
  have C := readHere_im (item := item) r2 ⟨some ⟨bl, o, none⟩, 1, c, rfl⟩ hkW hy hi h1 h2
  obtain ⟨⟨_, _, _, _⟩, _⟩ := box4 m1
  obtain ⟨⟨_, _, _, _⟩, _⟩ := box4 m2
  obtain ⟨⟨_, _, _, _⟩, _⟩ := box4 m12
  clear r2 h hx hk cA c0 c1 c2 c3 m1 m2 m12 hkW b1 b2
  go_enter Tryz.func26, Tryz.ntmps26
  go_wp2
  go_loopw [50] (fun v50 wr => (v50 = .int .i64 0 ∧ wr = X1) ∨ (v50 = .int .i64 1 ∧ Rst W wr rb mT mI tg im [⟨eh, et, em, false, ei⟩] l1 [⟨y.t, et, em, false, item⟩] l3)) (fun v50 _ => 1 - (intOf v50).toNat)
  case atStart => exact Or.inl ⟨rfl, rfl⟩
  case round =>
    rcases hrel with ⟨rfl, hwr⟩ | ⟨rfl, hR⟩
    · obtain rfl := hwr.symm
      go_wp2_with fail
      go_at_call 53
      refine C.mono ?_
      rintro x Z ⟨rfl, hR⟩
      go_wp2
      go_roundw
      case rel => exact Or.inr ⟨by simp, hR⟩
      case measure => simp [intOf]
    · go_wp2
      go_end0
      exact ⟨rfl, hR⟩
set_option maxRecDepth 100000 in
set_option maxHeartbeats 16000000 in
theorem readExport_dft (h : Rst W X rb mT mI tg im l0 [] l2 l3) {n : Int} {v : Value} {item : Int} (hx : LAt W (fun j => j < W.heap.size) v [.mk 1 ⟨#[]⟩ n []]) :
    Calls Tryz.prog 26 #[.pointer (some ⟨rb, 0, none⟩), .agg #[.int .i64 63, .string ⟨#[]⟩, .int .i64 0, v], .int .i64 item] X fun e w' => e = .returned (.tuple #[]) ∧ Rst W w' rb mT mI tg im l0 [⟨dflt, dflt, -1, false, item⟩] l2 l3 := by
  obtain ⟨bl, o, c, kv, rfl, hS, hb, c0, c1, c2, c3, hk⟩ := lat1 (hx.at h.bel)
  obtain ⟨ka, kc, rfl⟩ := hk.sl
  simp only [Nd.k, Nd.t, Nd.n, Nd.ks, List.length_nil] at c0 c1 c2 c3
  obtain ⟨X1, hX1⟩ : ∃ Z, X.alloc (.cells #[.int .i64 63, .string ⟨#[]⟩, .int .i64 0, .slice (some ⟨bl, o, none⟩) 1 c] 25) = Z := ⟨_, rfl⟩
  have b1 : Below X.heap.size X X1 := by rw [← hX1]; exact bel_a _ _
  have m1 : X1.heap[X.heap.size]? = some (.cells #[.int .i64 63, .string ⟨#[]⟩, .int .i64 0, .slice (some ⟨bl, o, none⟩) 1 c] 25 (0, 0)) := by rw [← hX1]; exact hnew _ rfl
  have l1' := (Array.getElem?_eq_some_iff.1 m1).1
  obtain ⟨q1, q2, q3, q4, q5⟩ := h.lt
  have lo := h.lo
  have hXW := h.bel.size
  have HST : Hid (∀ Z : World, (∀ j, (j = X.heap.size ∨ j = bl) → Z.heap[j]? = X1.heap[j]?) → (Z.cell? ⟨X.heap.size, 3, none⟩ = some (.slice (some ⟨bl, o, none⟩) 1 c) ∧ Z.cell? ⟨bl, o, none⟩ = some (.int .i64 1) ∧ Z.cell? ⟨bl, o + 1, none⟩ = some (.string ⟨#[]⟩) ∧ Z.cell? ⟨bl, o + 2, none⟩ = some (.int .i64 n) ∧ Z.cell? ⟨bl, o + 3, none⟩ = some (.slice ka 0 kc))) := fun Z hZ => by
    have cA := fun j => (World.cell?_of_block (a := ⟨bl, j, none⟩) ((hZ bl (Or.inr rfl)).trans (b1.block bl hb)))
    exact ⟨(box4 ((hZ _ (Or.inl rfl)).trans m1)).1.2.2.2, (cA o).trans c0, (cA (o + 1)).trans c1, (cA (o + 2)).trans c2, (cA (o + 3)).trans c3⟩
  have R1 : Hid (Rst W X1.drew rb mT mI tg im l0 [] l2 l3) := (h.then b1).then (Below.refl _ _).drew
  have hbl : bl < W.heap.size := hS
  have HLT : Hid (X.heap.size < X1.heap.size ∧ bl < X1.heap.size ∧ X.heap.size ≠ rb ∧ bl ≠ rb) := ⟨l1', by omega, by omega, by omega⟩
  obtain ⟨⟨_, _, _, _⟩, _⟩ := box4 m1
  clear h hx hk c0 c1 c2 c3 m1 b1
  go_enter Tryz.func26, Tryz.ntmps26
  go_wp2_with fail
  have st0 := HST.out X1.drew (fun _ _ => rfl)
  go_region_held3 (fun Z => Z.cell? ⟨X.heap.size, 3, none⟩ = some (.slice (some ⟨bl, o, none⟩) 1 c) ∧ Z.cell? ⟨bl, o, none⟩ = some (.int .i64 1) ∧ Z.cell? ⟨bl, o + 1, none⟩ = some (.string ⟨#[]⟩) ∧ Z.cell? ⟨bl, o + 2, none⟩ = some (.int .i64 n) ∧ Z.cell? ⟨bl, o + 3, none⟩ = some (.slice ka 0 kc))
    (first | assumption | exact st0 | exact st1 | exact st2)
    (first
      | (go_at_call 52; refine (defaultName_num _ _ _ ⟨_, _, _, rfl⟩).mono ?_; rintro x Z1 ⟨rfl, z1⟩; have R4 : Hid (Rst W Z1 rb mT mI tg im l0 [] l2 l3) := R1.out.then z1; have fr1 : Hid (∀ j, (j = X.heap.size ∨ j = bl) → Z1.heap[j]? = X1.heap[j]?) := (fun j hj => z1.block j (by have := HLT.out; show j < X1.heap.size; omega)); have st1 := HST.out Z1 fr1.out)
      | (go_at_call 50; refine (add1_any R4.out ⟨dflt, dflt, -1, false, item⟩ dflt_le dflt_le).mono ?_; rintro x Z2 ⟨rfl, R5, fr⟩; have st2 := HST.out Z2 (fun j hj => (fr j (by have := HLT.out; have := z1.size; have h3 : X1.heap.size ≤ Z1.heap.size := this; omega) (by have := HLT.out; omega)).trans (fr1.out j hj))))
  all_goals
    go_wp2
    go_end0
    exact ⟨rfl, R5⟩
end
end Go.Proofs.YtadkmlcnmkdfiaaGreatDoor
